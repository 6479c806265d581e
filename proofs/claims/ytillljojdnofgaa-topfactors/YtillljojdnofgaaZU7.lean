/- The program's division of polynomials. -/
import Derived.Test.YtillljojdnofgaaZU4
import Derived.Test.YtillljojdnofgaaZN3
namespace Go.Proofs.Ytillljojdnofgaa
open Go.RowKit

theorem inv_nat' {F T : Nat} {D : FD} (hD : D ∈ fieldsL) {g : Nat → Value} {w : World} (h : FAt F T D g w) {x : Nat} (hx : x < D.q) (h0 : x ≠ 0) :
    Calls Try.prog 93 #[.pointer (some ⟨F, 0, none⟩), .int .i64 x] w fun e w' => e = .returned (.int .i64 (D.iv x : Nat)) ∧ ∃ n, w' = w.drewN n := by
  have k := inv_any hD h x
  rw [inv_nat hD hx h0] at k
  exact k
theorem subZ_nat {D : FD} (F : Fld D) {a b : Nat} (ha : a < D.q) (hb : b < D.q) : D.subZ a b = (D.sb a b : Nat) := by
  rw [FD.subZ, FD.negZ, if_pos (nat_has hb), Int.toNat_natCast, addZ_nat F ha (F.neg_lt b hb)]; rfl
theorem sub_nat {F T : Nat} {D : FD} (hD : D ∈ fieldsL) {g : Nat → Value} {w : World} (h : FAt F T D g w) {a b : Nat} (ha : a < D.q) (hb : b < D.q) :
    Calls Try.prog 110 #[.pointer (some ⟨F, 0, none⟩), .int .i64 a, .int .i64 b] w fun e w' => e = .returned (.int .i64 (D.sb a b : Nat)) ∧ ∃ n, w' = w.drewN n := by
  rw [← subZ_nat (fld hD) ha hb]; exact sub_any hD h a b

theorem OwnP.setOther {base n : Nat} {v : Value} {c : Nat → Nat} {w : World} (h : OwnP base v n c w) (a : Addr) (ha : ∀ g, v.ownBlock = some g → g ≠ a.block) (u : Value) : OwnP base v n c (w.setCell a u) := by
  obtain ⟨ao, cap, rfl, h1, h2, hg, hl, hz, hr⟩ := h
  refine ⟨ao, cap, rfl, h1, h2, hg, fun x hx => by simpa [World.setCell] using hl x hx, hz, fun h0 => ?_⟩
  obtain ⟨g, rfl, hrow⟩ := hr h0
  exact ⟨g, rfl, hrow.other (Below.heap_setCell _ _ _ _ (ha g rfl))⟩
theorem OwnP.store {base n cap g : Nat} {c d : Nat → Nat} {w : World} (h : OwnP base (.slice (some ⟨g, 0, none⟩) n cap) n c w) (k u : Nat) (h0 : 0 < n) (hd : ∀ j, j < n → d j = if j = k then u else c j) :
    OwnP base (.slice (some ⟨g, 0, none⟩) n cap) n d (w.setCell ⟨g, k, none⟩ (.int .i64 (u : Nat))) := by
  obtain ⟨ao, cap', hv, h1, h2, hg, hl, hz, hr⟩ := h
  simp only [Value.slice.injEq, true_and] at hv
  obtain ⟨rfl, rfl⟩ := hv
  obtain ⟨g', e, hrow⟩ := hr h0
  cases e
  exact ⟨_, cap, rfl, h1, h2, hg, fun x hx => by simpa [World.setCell] using hl x hx, fun e => (by cases e), fun _ => ⟨g, rfl, hrow.store k u hd⟩⟩

theorem OwnP.row {base n cap : Nat} {ao : Option Addr} {c : Nat → Nat} {w : World} (h : OwnP base (.slice ao n cap) n c w) (h0 : 0 < n) : ∃ g, ao = some ⟨g, 0, none⟩ ∧ base ≤ g ∧ g < w.heap.size ∧ Row g n c w := by
  obtain ⟨ao', cap', hv, h1, h2, hg, hl, hz, hr⟩ := h
  simp only [Value.slice.injEq, true_and] at hv
  obtain ⟨rfl, rfl⟩ := hv
  obtain ⟨g, rfl, hrow⟩ := hr h0
  exact ⟨g, rfl, hg _ rfl, hl _ rfl, hrow⟩

theorem OwnP.trimmed {base n cap : Nat} {ao : Option Addr} {c : Nat → Nat} {w : World} (h : OwnP base (.slice ao n cap) n c w) : OwnP base (.slice ao (dgn c n) cap) (dgn c n) c w := by
  obtain ⟨ao', cap', hv, h1, h2, hg, hl, hz, hr⟩ := h
  simp only [Value.slice.injEq, true_and] at hv
  obtain ⟨rfl, rfl⟩ := hv
  have := dgn_le c n
  refine ⟨_, _, rfl, by omega, h2, hg, hl, hz, fun h0 => ?_⟩
  obtain ⟨g, e, hrow⟩ := hr (by omega)
  exact ⟨g, e, hrow.less this⟩

/-- What is left while one multiple is taken away: j places of it. -/
def pst (D : FD) (b : Nat → Nat) (l inv s : Nat) (r : Nat → Nat) (j : Nat) : Nat → Nat := fun k => if s ≤ k ∧ k < s + j then dstep D b l inv s r k else r k
theorem pst_zero (D : FD) (b : Nat → Nat) (l inv s : Nat) (r : Nat → Nat) : pst D b l inv s r 0 = r := by funext k; unfold pst; rw [if_neg (by omega)]
theorem pst_all {D : FD} (F : Fld D) {b r : Nat → Nat} {l inv s : Nat} (hr : El D r) (hb : Bd (l + 1) b) : pst D b l inv s r (l + 1) = dstep D b l inv s r := by
  funext k
  unfold pst
  by_cases h : s ≤ k ∧ k < s + (l + 1)
  · rw [if_pos h]
  · rw [if_neg h]
    by_cases h2 : k < s
    · exact (dstep_lo F hr h2).symm
    · exact (dstep_hi F hr hb (by omega)).symm
theorem pst_step (D : FD) (b r : Nat → Nat) (l inv s j k : Nat) : pst D b l inv s r (j + 1) k = if k = s + j then dstep D b l inv s r (s + j) else pst D b l inv s r j k := by
  unfold pst
  by_cases h : k = s + j
  · rw [if_pos h, if_pos (by omega), h]
  · rw [if_neg h]
    by_cases h2 : s ≤ k ∧ k < s + j
    · rw [if_pos h2, if_pos (by omega)]
    · rw [if_neg h2, if_neg (by omega)]
theorem pst_at (D : FD) (b r : Nat → Nat) (l inv s j : Nat) : pst D b l inv s r j (s + j) = r (s + j) := by unfold pst; rw [if_neg (by omega)]
end Go.Proofs.Ytillljojdnofgaa
