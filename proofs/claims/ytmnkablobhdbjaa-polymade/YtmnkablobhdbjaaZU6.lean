/- Texts of ours, one behind the other: U6 U7. -/
import Derived.Test.YtmnkablobhdbjaaZU3
import Derived.Test.YtmnkablobhdbjaaZN2
/- The program's sums of polynomials. -/
namespace Go.Proofs.Ytmnkablobhdbjaa
open Go.RowKit

set_option maxHeartbeats 4000000 in
set_option maxRecDepth 100000 in
theorem psum_any {F T : Nat} {D : FD} (hD : D ∈ fieldsL) {g : Nat → Value} {w : World} (h : FAt F T D g w) {ao bo : Option Addr} {n m ca cb : Nat} {a b : Nat → Nat} (hn : n ≤ 1000) (hm : m ≤ 1000) (ha : El D a) (hb : El D b) (hbn : Bd n a) (hbm : Bd m b) (hA : Sl ao n a w) (hB : Sl bo m b w) (hla : LtB ao w.heap.size) (hlb : LtB bo w.heap.size) :
    Calls Try.prog 81 #[.pointer (some ⟨F, 0, none⟩), .slice ao n ca, .slice bo m cb] w fun e w' =>
      ∃ v, e = .returned v ∧ OwnP w.heap.size v (dgn (padd D a b) (max n m)) (padd D a b) w' ∧ Below w.heap.size w w' := by
  have HF : Hid (FAt F T D g w ∧ D ∈ fieldsL ∧ Sl ao n a w ∧ Sl bo m b w ∧ El D a ∧ El D b ∧ Bd n a ∧ Bd m b) := ⟨h, hD, hA, hB, ha, hb, hbn, hbm⟩
  have HL : Hid (LtB ao w.heap.size ∧ LtB bo w.heap.size) := ⟨hla, hlb⟩
  clear h hD hA hB ha hb hbn hbm hla hlb
  obtain ⟨N, hN⟩ : ∃ N, N = max n m := ⟨_, rfl⟩
  rw [← hN]
  have hN2 : N ≤ 1000 := by omega
  have hnN : n ≤ N := by omega
  have hmN : m ≤ N := by omega
  have hmax : (if (n : Int) < (m : Int) then (m : Int) else (n : Int)) = (N : Int) := by split <;> omega
  have HN : Hid (N = max n m) := hN
  clear hN
  go_enter Try.func81, Try.ntmps81
  go_wp2_with (first
    | (at_make; refine make_int rfl _ _ rfl _ N rfl rfl (by have := HN.out; omega) (by omega) ?_; intro w1 hown1 hgrow1)
    | (show wpList _ _ _ (Oper.mk (some 18) _ _ _ _ _ :: _) _ _; (refine copy_int rfl _ _ rfl w.heap.size N N n ca ao rfl rfl pnil a (row_zeros hown1) (HF.out.2.2.1.below (below_grown hgrow1 (Nat.le_refl _) (fun k hk => by simp at hk)) HL.out.1) hnN w.heap.size w (below_grown hgrow1 (Nat.le_refl _) (fun k hk => by simp at hk)) (Nat.le_refl _) ?_); intro w2 hrow2 hb2))
  all_goals
    have HB1 : Hid (Below w.heap.size w w2 ∧ Row w.heap.size N a w2) := ⟨hb2, hrow2.congr (fun k _ => by show (if k < n then a k else pnil k) = a k; split; rfl; exact (HF.out.2.2.2.2.2.2.1 k (by omega)).symm)⟩
    clear hown1 hgrow1 hb2 hrow2
    go_loopw [21] (fun i wr => ∃ r : Nat, r ≤ m ∧ i = .int .i64 r ∧ Row w.heap.size N (fun k => if k < r then D.ad (a k) (b k) else a k) wr ∧ Below w.heap.size w wr) (fun i _ => m - (intOf i).toNat)
    case atStart => exact ⟨0, by omega, rfl, HB1.out.2.congr (fun k _ => by rw [if_neg (by omega)]), HB1.out.1⟩
    case round =>
      obtain ⟨r, hr, rfl, hrow, hbel⟩ := hrel
      have HG : Hid (Row w.heap.size N (fun k => if k < r then D.ad (a k) (b k) else a k) wr ∧ Below w.heap.size w wr) := ⟨hrow, hbel⟩
      clear hrow hbel
      by_cases hlt : r < m
      · obtain ⟨bb, offb, rfl, hcb⟩ := (HF.out.2.2.2.1.below HG.out.2 HL.out.2) r hlt
        have hco : wr.cell? ⟨w.heap.size, r, none⟩ = some (.int .i64 (a r : Nat)) := by
          have h := HG.out.1.cell r (by omega)
          rw [if_neg (by omega)] at h; exact h
        have hfo := HG.out.1.free r
        obtain ⟨z, hz⟩ : ∃ z, z = D.ad (a r) (b r) := ⟨_, rfl⟩
        have HC2 : Hid (Calls Try.prog 19 #[.pointer (some ⟨F, 0, none⟩), .int .i64 (a r : Nat), .int .i64 (b r : Nat)] wr fun e w' => e = .returned (.int .i64 (z : Nat)) ∧ ∃ k, w' = wr.drewN k) := by
          show Calls _ _ _ _ _
          rw [hz]; exact add_nat HF.out.2.1 (HF.out.1.below HG.out.2 HF.out.1.ltF HF.out.1.ltT) (HF.out.2.2.2.2.1 r) (HF.out.2.2.2.2.2.1 r)
        have HV : Hid (Row w.heap.size N (fun k => if k < r then D.ad (a k) (b k) else a k) wr ∧ Below w.heap.size w wr ∧ ∀ k, k < N → (if k < r + 1 then D.ad (a k) (b k) else a k) = if k = r then z else if k < r then D.ad (a k) (b k) else a k) :=
          ⟨HG.out.1, HG.out.2, fun k _ => by
            rw [hz]
            by_cases e : k = r
            · rw [if_pos e, if_pos (by omega), e]
            · rw [if_neg e]
              by_cases e2 : k < r
              · rw [if_pos e2, if_pos (by omega)]
              · rw [if_neg e2, if_neg (by omega)]⟩
        clear hz HG
        have hib : (r : Int) < (N : Int) := by omega
        go_wp2_with (go_at_call 19; refine HC2.out.mono ?_; rintro e w' ⟨rfl, nq, rfl⟩)
        go_roundw
        case rel => exact ⟨r + 1, by omega, by go_num, (HV.out.1.drewN nq).store r z (fun k hk => HV.out.2.2 k hk), (below_drewN2 HV.out.2.1 nq).setCell (by simp) _⟩
        case measure => simp [intOf]; omega
      · have HE : Hid (Row w.heap.size N (padd D a b) wr) := HG.out.1.congr (fun k _ => by
          show (if k < r then D.ad (a k) (b k) else a k) = D.ad (a k) (b k)
          split
          · rfl
          · rw [HF.out.2.2.2.2.2.2.2 k (by omega), ad_zero (fld HF.out.2.1) (HF.out.2.2.2.2.1 k)])
        go_wp2_with fail
        refine (trim_any (HE.out.sl (Nat.le_refl _)) (Nat.le_refl _) (by omega)).mono ?_
        rintro e w' ⟨rfl, k, rfl⟩
        go_wp2
        go_ret
        exact ⟨_, rfl, OwnP.of_row (HE.out.drewN k) (dgn_le _ _) (dgn_le _ _) (by omega) (Nat.le_refl _), below_drewN2 HG.out.2 _⟩
end Go.Proofs.Ytmnkablobhdbjaa

/- The program's division of polynomials. -/
namespace Go.Proofs.Ytmnkablobhdbjaa
open Go.RowKit

theorem inv_nat' {F T : Nat} {D : FD} (hD : D ∈ fieldsL) {g : Nat → Value} {w : World} (h : FAt F T D g w) {x : Nat} (hx : x < D.q) (h0 : x ≠ 0) :
    Calls Try.prog 27 #[.pointer (some ⟨F, 0, none⟩), .int .i64 x] w fun e w' => e = .returned (.int .i64 (D.iv x : Nat)) ∧ ∃ n, w' = w.drewN n := by
  have k := inv_any hD h x
  rw [inv_nat hD hx h0] at k
  exact k
theorem subZ_nat {D : FD} (F : Fld D) {a b : Nat} (ha : a < D.q) (hb : b < D.q) : D.subZ a b = (D.sb a b : Nat) := by
  rw [FD.subZ, FD.negZ, if_pos (nat_has hb), Int.toNat_natCast, addZ_nat F ha (F.neg_lt b hb)]; rfl
theorem sub_nat {F T : Nat} {D : FD} (hD : D ∈ fieldsL) {g : Nat → Value} {w : World} (h : FAt F T D g w) {a b : Nat} (ha : a < D.q) (hb : b < D.q) :
    Calls Try.prog 21 #[.pointer (some ⟨F, 0, none⟩), .int .i64 a, .int .i64 b] w fun e w' => e = .returned (.int .i64 (D.sb a b : Nat)) ∧ ∃ n, w' = w.drewN n := by
  rw [← subZ_nat (fld hD) ha hb]; exact sub_any hD h a b

theorem OwnP.setOther {base n : Nat} {v : Value} {c : Nat → Nat} {w : World} (h : OwnP base v n c w) (a : Addr) (ha : ∀ g, v.ownBlock = some g → g ≠ a.block) (u : Value) : OwnP base v n c (w.setCell a u) := by
  obtain ⟨ao, cap, rfl, h1, h2, hg, hl, hz, hr⟩ := h
  refine ⟨ao, cap, rfl, h1, h2, hg, fun x hx => by simpa [World.setCell] using hl x hx, hz, fun h0 => ?_⟩
  obtain ⟨g, rfl, hrow⟩ := hr h0
  exact ⟨g, rfl, hrow.other (Below.heap_setCell _ _ _ _ (ha g rfl))⟩
theorem OwnP.store {base n cap g : Nat} {c d : Nat → Nat} {w : World} (h : OwnP base (.slice (some ⟨g, 0, none⟩) n cap) n c w) (k u : Nat) (h0 : 0 < n) (hd : ∀ j, j < n → d j = if j = k then u else c j) :
    OwnP base (.slice (some ⟨g, 0, none⟩) n cap) n d (w.setCell ⟨g, k, none⟩ (.int .i64 (u : Nat))) := by
  obtain ⟨ao, cap', hv, h1, h2, hg, hl, hz, hr⟩ := h
  simp only [Value.slice.injEq, true_and] at hv
  obtain ⟨rfl, rfl⟩ := hv
  obtain ⟨g', e, hrow⟩ := hr h0
  cases e
  exact ⟨_, cap, rfl, h1, h2, hg, fun x hx => by simpa [World.setCell] using hl x hx, fun e => (by cases e), fun _ => ⟨g, rfl, hrow.store k u hd⟩⟩

theorem OwnP.row {base n cap : Nat} {ao : Option Addr} {c : Nat → Nat} {w : World} (h : OwnP base (.slice ao n cap) n c w) (h0 : 0 < n) : ∃ g, ao = some ⟨g, 0, none⟩ ∧ base ≤ g ∧ g < w.heap.size ∧ Row g n c w := by
  obtain ⟨ao', cap', hv, h1, h2, hg, hl, hz, hr⟩ := h
  simp only [Value.slice.injEq, true_and] at hv
  obtain ⟨rfl, rfl⟩ := hv
  obtain ⟨g, rfl, hrow⟩ := hr h0
  exact ⟨g, rfl, hg _ rfl, hl _ rfl, hrow⟩

theorem OwnP.trimmed {base n cap : Nat} {ao : Option Addr} {c : Nat → Nat} {w : World} (h : OwnP base (.slice ao n cap) n c w) : OwnP base (.slice ao (dgn c n) cap) (dgn c n) c w := by
  obtain ⟨ao', cap', hv, h1, h2, hg, hl, hz, hr⟩ := h
  simp only [Value.slice.injEq, true_and] at hv
  obtain ⟨rfl, rfl⟩ := hv
  have := dgn_le c n
  refine ⟨_, _, rfl, by omega, h2, hg, hl, hz, fun h0 => ?_⟩
  obtain ⟨g, e, hrow⟩ := hr (by omega)
  exact ⟨g, e, hrow.less this⟩

/-- What is left while one multiple is taken away: j places of it. -/
def pst (D : FD) (b : Nat → Nat) (l inv s : Nat) (r : Nat → Nat) (j : Nat) : Nat → Nat := fun k => if s ≤ k ∧ k < s + j then dstep D b l inv s r k else r k
theorem pst_zero (D : FD) (b : Nat → Nat) (l inv s : Nat) (r : Nat → Nat) : pst D b l inv s r 0 = r := by funext k; unfold pst; rw [if_neg (by omega)]
theorem pst_all {D : FD} (F : Fld D) {b r : Nat → Nat} {l inv s : Nat} (hr : El D r) (hb : Bd (l + 1) b) : pst D b l inv s r (l + 1) = dstep D b l inv s r := by
  funext k
  unfold pst
  by_cases h : s ≤ k ∧ k < s + (l + 1)
  · rw [if_pos h]
  · rw [if_neg h]
    by_cases h2 : k < s
    · exact (dstep_lo F hr h2).symm
    · exact (dstep_hi F hr hb (by omega)).symm
theorem pst_step (D : FD) (b r : Nat → Nat) (l inv s j k : Nat) : pst D b l inv s r (j + 1) k = if k = s + j then dstep D b l inv s r (s + j) else pst D b l inv s r j k := by
  unfold pst
  by_cases h : k = s + j
  · rw [if_pos h, if_pos (by omega), h]
  · rw [if_neg h]
    by_cases h2 : s ≤ k ∧ k < s + j
    · rw [if_pos h2, if_pos (by omega)]
    · rw [if_neg h2, if_neg (by omega)]
theorem pst_at (D : FD) (b r : Nat → Nat) (l inv s j : Nat) : pst D b l inv s r j (s + j) = r (s + j) := by unfold pst; rw [if_neg (by omega)]
end Go.Proofs.Ytmnkablobhdbjaa
