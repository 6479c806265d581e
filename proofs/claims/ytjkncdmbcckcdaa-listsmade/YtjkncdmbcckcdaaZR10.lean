/- Texts of ours, one behind the other: R10 R11 R12 R13 R18 R14 B4 B5 B6 R15 M7 R16 R17 B7 B8 M8 M9 G1. -/
import Derived.Test.YtjkncdmbcckcdaaZR8
import Derived.Test.YtjkncdmbcckcdaaZB2
import Derived.Deep.RegionWith
import Derived.Deep.RegionHeld3
/- The reference: powers, logarithms, and what Frobenius makes. -/
namespace Go.Proofs.Ytjkncdmbcckcdaa
open Go.RowKit

/-! ### Plain mathematics -/
/-- An element times itself, so many times. -/
def FD.pwr (D : FD) (x k : Nat) : Nat := again (fun r => D.mul r x) k 1
theorem pwr_lt {D : FD} (hD : D ∈ fieldsL) (x : Nat) : ∀ k, D.pwr x k < D.q
  | 0 => by have := (fld hD).q2; show 1 < D.q; omega
  | k + 1 => (fld hD).mul_lt _ _
theorem pwr_is {D : FD} (hD : D ∈ fieldsL) (x : Nat) (h0 : x ≠ 0) : ∀ k, D.pwr x k = D.pw x k
  | 0 => (pw_zero hD x).symm
  | k + 1 => by
    show D.mul (D.pwr x k) x = _
    rw [pwr_is hD x h0 k, pw_succ hD x k h0]
/-- The product, as a call of the reference in whatever world behind. -/
theorem rmul_nat {D : FD} (hD : D ∈ fieldsL) (gen : Nat) {v : Value} {w : World} (hM : ModAt D v D.md w) (a b : Nat) (ha : a < D.q) (hb : b < D.q) (wr : World) (h : Below w.heap.size w wr) :
    Calls Try.prog 55 #[.agg #[.int .i64 D.q, .int .i64 D.p, .int .i64 D.m, .int .i64 gen, v], .int .i64 a, .int .i64 b] wr fun e w' => e = .returned (.int .i64 (D.mul a b : Nat)) ∧ Below wr.heap.size wr w' := by
  rw [← mulZ_nat (fld hD) ha hb]
  exact rmul_any hD gen a b (hM.below h)

theorem emod_tmod (k n : Int) : k.tmod n % n = k % n := by
  rw [Int.tmod_def]
  exact Int.sub_mul_emod_self_left _ _ _
theorem emod_of_tmod_neg (k n : Int) (hn : 0 < n) (h : k.tmod n < 0) : k.tmod n + n = k % n := by
  have h2 := Int.lt_tmod_of_pos k hn
  rw [← emod_tmod k n, ← Int.add_emod_right (k.tmod n) n]
  exact (Int.emod_eq_of_lt (by omega) (by omega)).symm
theorem emod_of_tmod_pos (k n : Int) (hn : 0 < n) (h : 0 ≤ k.tmod n) : k.tmod n = k % n := by
  have h2 := Int.tmod_lt_of_pos k hn
  rw [← emod_tmod k n]
  exact (Int.emod_eq_of_lt h h2).symm

/-! ### Calls -/
set_option maxHeartbeats 4000000 in
theorem rpow_any {D : FD} (hD : D ∈ fieldsL) (gen : Nat) {v : Value} (a k : Int) {w : World} (hk1 : -9223372036854775808 ≤ k) (hk2 : k ≤ 9223372036854775807) (hM : ModAt D v D.md w) :
    Calls Try.prog 54 #[rf D.q D.p D.m gen v, .int .i64 a, .int .i64 k] w fun e w' => e = .returned (.int .i64 (D.powZ a k)) ∧ Below w.heap.size w w' := by
  have F := fld hD
  have h64 := F.q64
  have h2 := F.q2
  have HM : Hid (ModAt D v D.md w ∧ D ∈ fieldsL ∧ Fld D) := ⟨hM, hD, F⟩
  have HA : Hid (∀ (w0 : World), Calls Try.prog 84 #[.agg #[.int .i64 D.q, .int .i64 D.p, .int .i64 D.m, .int .i64 gen, v], .int .i64 a] w0 fun e w' => e = .returned (.bool (D.has a)) ∧ Below w0.heap.size w0 w') := fun w0 => rhas_any D gen v a w0
  clear hM hD F
  by_cases ha : D.has a = true
  · by_cases hk : k = 0
    · have hz : (k == 0) = true := by rw [hk]; rfl
      have hkn : ¬ k < 0 := by omega
      have HV : Hid (D.powZ a k = 1) := by show D.powZ a k = _; rw [FD.powZ, if_neg (by simp [ha]), if_pos hk]
      clear hk
      by_cases ha0 : a = 0
      · have hz0 : (a == 0) = true := beq_iff_eq.2 ha0
        clear ha0
        unfold rf
        go_enter Try.func54, Try.ntmps54
        go_wp2_with fail
        refine (HA.out _).mono ?_
        rintro e w1 ⟨rfl, hb1⟩
        have HB1 : Hid (Below w.heap.size w w1) := ((Below.refl _ _).alloc (Nat.le_refl _) _).trans (hb1.mono (by simp))
        clear hb1
        go_wp2
        go_ret
        exact ⟨ret_int (by rw [HV.out]), HB1.out⟩
      · have hz0 : (a == 0) = false := beq_eq_false_iff_ne.2 ha0
        clear ha0
        unfold rf
        go_enter Try.func54, Try.ntmps54
        go_wp2_with fail
        refine (HA.out _).mono ?_
        rintro e w1 ⟨rfl, hb1⟩
        have HB1 : Hid (Below w.heap.size w w1) := ((Below.refl _ _).alloc (Nat.le_refl _) _).trans (hb1.mono (by simp))
        clear hb1
        go_wp2
        go_ret
        exact ⟨ret_int (by rw [HV.out]), HB1.out⟩
    have hkz : (k == 0) = false := beq_eq_false_iff_ne.2 hk
    by_cases ha0 : a = 0
    · have hz0 : (a == 0) = true := beq_iff_eq.2 ha0
      by_cases hneg : k < 0
      · have HV : Hid (D.powZ a k = -1) := by show D.powZ a k = _; rw [FD.powZ, if_neg (by simp [ha]), if_neg hk, if_pos ha0, if_pos hneg]
        clear ha0 hk
        unfold rf
        go_enter Try.func54, Try.ntmps54
        go_wp2_with fail
        refine (HA.out _).mono ?_
        rintro e w1 ⟨rfl, hb1⟩
        have HB1 : Hid (Below w.heap.size w w1) := ((Below.refl _ _).alloc (Nat.le_refl _) _).trans (hb1.mono (by simp))
        clear hb1
        go_wp2
        go_ret
        exact ⟨ret_int (by rw [HV.out]), HB1.out⟩
      · have HV : Hid (D.powZ a k = 0) := by show D.powZ a k = _; rw [FD.powZ, if_neg (by simp [ha]), if_neg hk, if_pos ha0, if_neg hneg]
        clear ha0 hk
        unfold rf
        go_enter Try.func54, Try.ntmps54
        go_wp2_with fail
        refine (HA.out _).mono ?_
        rintro e w1 ⟨rfl, hb1⟩
        have HB1 : Hid (Below w.heap.size w w1) := ((Below.refl _ _).alloc (Nat.le_refl _) _).trans (hb1.mono (by simp))
        clear hb1
        go_wp2
        go_ret
        exact ⟨ret_int (by rw [HV.out]), HB1.out⟩
    obtain ⟨x, rfl, hx⟩ := has_nat ha
    have hx0 : x ≠ 0 := by intro e; exact ha0 (by rw [e]; rfl)
    have hz0 : ((x : Int) == 0) = false := beq_eq_false_iff_ne.2 ha0
    obtain ⟨r, hr, hrq⟩ : ∃ r : Nat, k % ((D.q : Int) - 1) = r ∧ r < D.q - 1 := by
      have h1 := Int.emod_nonneg k (show (D.q : Int) - 1 ≠ 0 from by omega)
      have h2 := Int.emod_lt_of_pos k (show 0 < (D.q : Int) - 1 from by omega)
      exact ⟨(k % ((D.q : Int) - 1)).toNat, by omega, by omega⟩
    have HV : Hid (D.powZ x k = (D.pwr x r : Nat)) := by
      show D.powZ x k = _
      rw [FD.powZ, if_neg (by simp [ha]), if_neg hk, if_neg ha0, show ((D.q - 1 : Nat) : Int) = (D.q : Int) - 1 from by omega, hr, pwr_is HM.out.2.1 x hx0]
      rfl
    have HR : Hid (k % ((D.q : Int) - 1) = r) := hr
    have hb1 := Int.tmod_lt_of_pos k (show (0 : Int) < (D.q : Int) - 1 from by omega)
    have hb2 := Int.lt_tmod_of_pos k (show (0 : Int) < (D.q : Int) - 1 from by omega)
    clear hx0 ha0 hr hk
    unfold rf
    go_enter Try.func54, Try.ntmps54
    go_wp2_with fail
    refine (HA.out _).mono ?_
    rintro e w1 ⟨rfl, hb1⟩
    have HX1 : Hid (Box w.heap.size D gen v w1 ∧ Below w.heap.size w w1) := ⟨(box_new D gen v w).below hb1 (by simp), ((Below.refl _ _).alloc (Nat.le_refl _) _).trans (hb1.mono (by simp))⟩
    have hs1 : w.heap.size < w1.heap.size := by have := hb1.size; simp at this; omega
    obtain ⟨c0, c1, c2, c3, c4⟩ := HX1.out.1
    clear hb1
    go_wp2
    all_goals
      first
        | rw [show decide (k.tmod ((D.q : Int) - 1) < 0) = true from decide_eq_true ‹_›, show k.tmod ((D.q : Int) - 1) + (D.q : Int) - 1 = (r : Int) from by have h := emod_of_tmod_neg k ((D.q : Int) - 1) (by omega) ‹_›; rw [HR.out] at h; omega]
        | rw [show decide (k.tmod ((D.q : Int) - 1) < 0) = false from decide_eq_false (by omega), show k.tmod ((D.q : Int) - 1) = (r : Int) from by have h := emod_of_tmod_pos k ((D.q : Int) - 1) (by omega) (by omega); rw [HR.out] at h; exact h]
      clear hb1 hb2 HR c0 c1 c2 c3 c4
      go_loopw [7, 8] (fun r' i wr => ∃ j : Nat, j ≤ r ∧ i = .int .i64 j ∧ r' = .int .i64 (D.pwr x j : Nat) ∧ Box w.heap.size D gen v wr ∧ Below w.heap.size w wr ∧ w.heap.size < wr.heap.size) (fun _ i _ => r - (intOf i).toNat)
      case atStart => exact ⟨0, by omega, rfl, rfl, HX1.out.1, HX1.out.2, hs1⟩
      case round =>
        obtain ⟨j, hj, rfl, rfl, hbox, hbel, hlt⟩ := hrel
        obtain ⟨c0, c1, c2, c3, c4⟩ := hbox
        have HG : Hid (Box w.heap.size D gen v wr ∧ Below w.heap.size w wr) := ⟨⟨c0, c1, c2, c3, c4⟩, hbel⟩
        clear hbel
        have HC : Hid (Calls Try.prog 55 #[.agg #[.int .i64 D.q, .int .i64 D.p, .int .i64 D.m, .int .i64 gen, v], .int .i64 (D.pwr x j : Nat), .int .i64 x] wr fun e w' => e = .returned (.int .i64 (D.pwr x (j + 1) : Nat)) ∧ Below wr.heap.size wr w') :=
          rmul_nat HM.out.2.1 gen HM.out.1 _ x (pwr_lt HM.out.2.1 x j) hx wr HG.out.2
        by_cases hjr : j < r
        · go_wp2_with fail
          refine HC.out.mono ?_
          rintro e w2 ⟨rfl, hb2⟩
          have HR2 : Hid (Box w.heap.size D gen v w2 ∧ Below w.heap.size w w2 ∧ w.heap.size < w2.heap.size) := ⟨HG.out.1.below hb2 hlt, HG.out.2.trans (hb2.mono (by omega)), by have := hb2.size; omega⟩
          clear hb2 c0 c1 c2 c3 c4 HC
          go_wp2
          go_roundw
          case rel => exact ⟨j + 1, by omega, by go_num, rfl, HR2.out⟩
          case measure => simp [intOf]; omega
        · have HE : Hid (j = r) := by show j = r; omega
          go_wp2
          go_ret
          exact ⟨ret_int (by rw [HV.out, HE.out]), HG.out.2⟩
  · have ha' : D.has a = false := by simpa using ha
    have HV : Hid (D.powZ a k = -1) := by show _ = _; rw [FD.powZ, if_pos ha']
    rw [ha'] at HA
    clear ha
    unfold rf
    go_enter Try.func54, Try.ntmps54
    go_wp2_with fail
    refine (HA.out _).mono ?_
    rintro e w1 ⟨rfl, hb1⟩
    have HB1 : Hid (Below w.heap.size w w1) := ((Below.refl _ _).alloc (Nat.le_refl _) _).trans (hb1.mono (by simp))
    clear hb1
    go_wp2
    go_ret
    exact ⟨ret_int (by rw [HV.out]), HB1.out⟩
end Go.Proofs.Ytjkncdmbcckcdaa

/- The reference: logarithms, Frobenius, traces and norms. -/
namespace Go.Proofs.Ytjkncdmbcckcdaa
open Go.RowKit

end Go.Proofs.Ytjkncdmbcckcdaa

/- The reference: traces and norms. -/
namespace Go.Proofs.Ytjkncdmbcckcdaa
open Go.RowKit

end Go.Proofs.Ytjkncdmbcckcdaa

/- The reference: are two lists the same (Same); the elements of a smaller field (Within). -/
namespace Go.Proofs.Ytjkncdmbcckcdaa
open Go.RowKit

/-- The slice v reads as the numbers l. -/
def SliceI (v : Value) (l : List Int) (w : World) : Prop :=
  (l = [] ∧ ∃ ao cap, v = .slice ao 0 cap) ∨ (l ≠ [] ∧ l.length ≤ 1000000 ∧ ∃ b off cap, v = .slice (some ⟨b, off, none⟩) l.length cap ∧ ∀ j, j < l.length → w.cell? ⟨b, off + j, none⟩ = some (.int .i64 (l.getD j 0)))
theorem OwnI.slice {base : Nat} {v : Value} {l : List Int} {w : World} (h : OwnI base v l w) (hl : l.length ≤ 1000000) : SliceI v l w := by
  by_cases e : l = []
  · refine Or.inl ⟨e, ?_⟩
    rcases h.2 with ⟨h1, _⟩ | ⟨g, cap, cur, hv, _⟩
    · exact ⟨none, 0, h1⟩
    · rw [e] at hv; exact ⟨_, cap, hv⟩
  · obtain ⟨g, cap, hv, _, _, hc, _⟩ := h.at e
    exact Or.inr ⟨e, hl, g, 0, cap, hv, fun j hj => by rw [Nat.zero_add]; exact hc j hj⟩
theorem SliceI.below {B : Nat} {v : Value} {l : List Int} {w w' : World} (h : SliceI v l w) (hb : Below B w w') (hB : ∀ k, v.ownBlock = some k → k < B) : SliceI v l w' := by
  rcases h with h | ⟨h1, h2, b, off, cap, rfl, hc⟩
  · exact Or.inl h
  · exact Or.inr ⟨h1, h2, b, off, cap, rfl, fun j hj => ((bcell hb).1 b (off + j) (hB b rfl)).trans (hc j hj)⟩
theorem SliceI.drewN {v : Value} {l : List Int} {w : World} (h : SliceI v l w) (n : Nat) : SliceI v l (w.drewN n) := h

theorem list_ext_getD (l m : List Int) (h : l.length = m.length) (e : ∀ j, j < l.length → l.getD j 0 = m.getD j 0) : l = m := by
  apply List.ext_getElem h
  intro i h1 h2
  have := e i h1
  rwa [List.getD_eq_getElem?_getD, List.getD_eq_getElem?_getD, List.getElem?_eq_getElem h1, List.getElem?_eq_getElem h2] at this

set_option maxHeartbeats 2000000 in
theorem same_any {va vb : Value} {la lb : List Int} {w : World} (ha : SliceI va la w) (hb : SliceI vb lb w) :
    Calls Try.prog 33 #[va, vb] w fun e w' => e = .returned (.bool (decide (la = lb))) ∧ ∃ n, w' = w.drewN n := by
  by_cases hlen : la.length = lb.length
  · rcases ha with ⟨rfl, ao, ca, rfl⟩ | ⟨h1, h2, b, off, cap, rfl, hc⟩
    · have h0 : lb = [] := List.length_eq_zero_iff.1 hlen.symm
      subst h0
      rcases hb with ⟨_, bo, cb, rfl⟩ | ⟨h3, _⟩
      · clear hlen
        go_enter Try.func33, Try.ntmps33
        go_wp2
        refine wp_loop_rounds 1 ?_
        rw [rounds_succ]
        go_wp2
        go_ret
        exact ⟨rfl, 0, rfl⟩
      · exact absurd rfl h3
    · rcases hb with ⟨rfl, bo, cb, rfl⟩ | ⟨h3, h4, b', off', cap', rfl, hc'⟩
      · exact absurd (List.length_eq_zero_iff.1 hlen) h1
      · obtain ⟨n, hn⟩ : ∃ n, n = la.length := ⟨_, rfl⟩
        rw [← hlen, ← hn]
        have HC : Hid ((∀ j, j < n → w.cell? ⟨b, off + j, none⟩ = some (.int .i64 (la.getD j 0))) ∧ (∀ j, j < n → w.cell? ⟨b', off' + j, none⟩ = some (.int .i64 (lb.getD j 0)))) := ⟨fun j hj => hc j (by omega), fun j hj => hc' j (by omega)⟩
        have HL : Hid (n = la.length ∧ la.length = lb.length) := ⟨hn, hlen⟩
        have hnb : n ≤ 1000000 := by omega
        clear hc hc' h1 h2 h3 h4 hlen hn
        go_enter Try.func33, Try.ntmps33
        go_wp2
        go_loopw [5] (fun i wr => ∃ k : Nat, k ≤ n ∧ i = .int .i64 k ∧ Hid (∀ j, j < k → la.getD j 0 = lb.getD j 0) ∧ ∃ d, wr = w.drewN d) (fun i _ => n - (intOf i).toNat)
        case atStart => exact ⟨0, by omega, rfl, fun j hj => by omega, 0, rfl⟩
        case round =>
          obtain ⟨k, hk, rfl, HK, d, rfl⟩ := hrel
          by_cases hlt : k < n
          · have c1 := HC.out.1 k hlt
            have c2 := HC.out.2 k hlt
            obtain ⟨x, hx⟩ : ∃ x, x = la.getD k 0 := ⟨_, rfl⟩
            obtain ⟨y, hy⟩ : ∃ y, y = lb.getD k 0 := ⟨_, rfl⟩
            rw [← hx] at c1
            rw [← hy] at c2
            have HX : Hid (x = la.getD k 0 ∧ y = lb.getD k 0) := ⟨hx, hy⟩
            clear hx hy
            by_cases he : x = y
            · have hb : (x != y) = false := by rw [he]; simp
              have HK2 : Hid (∀ j, j < k + 1 → la.getD j 0 = lb.getD j 0) := fun j hj => if e : j = k then by rw [e, ← HX.out.1, ← HX.out.2, he] else HK.out j (by omega)
              clear he
              go_wp2
              go_quiet (fail)
              go_wp2
              go_roundw
              case rel => exact ⟨k + 1, by omega, by go_num, HK2.out, _, rfl⟩
              case measure => simp [intOf]; omega
            · have hb : (x != y) = true := by rw [bne_iff_ne]; exact he
              have HV : Hid (decide (la = lb) = false) := by
                show _ = _
                rw [decide_eq_false_iff_not]; intro e; exact he (by rw [HX.out.1, HX.out.2, e])
              clear he
              go_wp2
              go_quiet (fail)
              go_wp2
              go_ret
              exact ⟨ret_bool (by rw [HV.out]), _, by rw [World.drewN_drewN]⟩
          · have HV : Hid (decide (la = lb) = true) := by
              show _ = _
              rw [decide_eq_true_eq]; exact list_ext_getD la lb HL.out.2 (fun j hj => HK.out j (by have := HL.out.1; omega))
            go_wp2
            go_ret
            exact ⟨ret_bool (by rw [HV.out]), _, rfl⟩
  · have HV : Hid (decide (la = lb) = false) := by
      show _ = _
      rw [decide_eq_false_iff_not]; intro e; exact hlen (by rw [e])
    obtain ⟨ao, ca, ea⟩ : ∃ ao ca, va = .slice ao la.length ca := by
      rcases ha with ⟨rfl, ao, ca, rfl⟩ | ⟨_, _, b, off, cap, rfl, _⟩
      · exact ⟨ao, ca, rfl⟩
      · exact ⟨_, cap, rfl⟩
    obtain ⟨bo, cb, eb⟩ : ∃ bo cb, vb = .slice bo lb.length cb := by
      rcases hb with ⟨rfl, ao, ca, rfl⟩ | ⟨_, _, b, off, cap, rfl, _⟩
      · exact ⟨ao, ca, rfl⟩
      · exact ⟨_, cap, rfl⟩
    subst ea eb
    have hne : (((la.length : Nat) : Int) != ((lb.length : Nat) : Int)) = true := by rw [bne_iff_ne]; exact_mod_cast hlen
    generalize la.length = n at *
    generalize lb.length = m at *
    clear ha hb hlen
    go_enter Try.func33, Try.ntmps33
    go_wp2
    go_ret
    exact ⟨ret_bool (by rw [HV.out]), 0, rfl⟩
end Go.Proofs.Ytjkncdmbcckcdaa

/- The reference: is a number in a list (In). -/
namespace Go.Proofs.Ytjkncdmbcckcdaa
open Go.RowKit

theorem mem_getD {l : List Int} {x : Int} : x ∈ l ↔ ∃ j, j < l.length ∧ l.getD j 0 = x := by
  constructor
  · intro h
    obtain ⟨j, hj, e⟩ := List.getElem_of_mem h
    exact ⟨j, hj, by rw [List.getD_eq_getElem?_getD, List.getElem?_eq_getElem hj]; exact e⟩
  · rintro ⟨j, hj, e⟩
    rw [List.getD_eq_getElem?_getD, List.getElem?_eq_getElem hj] at e
    rw [← e]; exact List.getElem_mem hj

set_option maxHeartbeats 2000000 in
theorem in_any {v : Value} {l : List Int} {w : World} (x : Int) (h : SliceI v l w) :
    Calls Try.prog 41 #[.int .i64 x, v] w fun e w' => e = .returned (.bool (decide (x ∈ l))) ∧ ∃ n, w' = w.drewN n := by
  rcases h with ⟨rfl, ao, ca, rfl⟩ | ⟨h1, h2, b, off, cap, rfl, hc⟩
  · go_enter Try.func41, Try.ntmps41
    go_wp2
    refine wp_loop_rounds 1 ?_
    rw [rounds_succ]
    go_wp2
    go_ret
    exact ⟨rfl, 0, rfl⟩
  · obtain ⟨n, hn⟩ : ∃ n, n = l.length := ⟨_, rfl⟩
    rw [← hn]
    have HC : Hid ((∀ j, j < n → w.cell? ⟨b, off + j, none⟩ = some (.int .i64 (l.getD j 0))) ∧ n = l.length) := ⟨fun j hj => hc j (by omega), hn⟩
    have hnb : n ≤ 1000000 := by omega
    clear hc h1 h2 hn
    go_enter Try.func41, Try.ntmps41
    go_wp2
    go_loopw [5] (fun i wr => ∃ k : Nat, k ≤ n ∧ i = .int .i64 k ∧ Hid (∀ j, j < k → l.getD j 0 ≠ x) ∧ ∃ d, wr = w.drewN d) (fun i _ => n - (intOf i).toNat)
    case atStart => exact ⟨0, by omega, rfl, fun j hj => by omega, 0, rfl⟩
    case round =>
      obtain ⟨k, hk, rfl, HK, d, rfl⟩ := hrel
      by_cases hlt : k < n
      · have c1 := HC.out.1 k hlt
        obtain ⟨y, hy⟩ : ∃ y, y = l.getD k 0 := ⟨_, rfl⟩
        rw [← hy] at c1
        have HX : Hid (y = l.getD k 0) := hy
        clear hy
        by_cases he : y = x
        · have hb : (y == x) = true := beq_iff_eq.2 he
          have HV : Hid (decide (x ∈ l) = true) := by
            show _ = _
            rw [decide_eq_true_eq]; exact mem_getD.2 ⟨k, by have := HC.out.2; omega, by rw [← HX.out, he]⟩
          clear he
          go_wp2
          go_ret
          exact ⟨ret_bool (by rw [HV.out]), _, by first | rfl | rw [World.drewN_drewN]⟩
        · have hb : (y == x) = false := beq_eq_false_iff_ne.2 he
          have HK2 : Hid (∀ j, j < k + 1 → l.getD j 0 ≠ x) := fun j hj => if e : j = k then by rw [e, ← HX.out]; exact he else HK.out j (by omega)
          clear he
          go_wp2
          go_roundw
          case rel => exact ⟨k + 1, by omega, by go_num, HK2.out, _, rfl⟩
          case measure => simp [intOf]; omega
      · have HV : Hid (decide (x ∈ l) = false) := by
          show _ = _
          rw [decide_eq_false_iff_not]; intro e
          obtain ⟨j, hj, e⟩ := mem_getD.1 e
          exact HK.out j (by have := HC.out.2; omega) e
        go_wp2
        go_ret
        exact ⟨ret_bool (by rw [HV.out]), _, rfl⟩
end Go.Proofs.Ytjkncdmbcckcdaa

/- The reference: the elements of a smaller field within one (Within). -/
namespace Go.Proofs.Ytjkncdmbcckcdaa
open Go.RowKit

end Go.Proofs.Ytjkncdmbcckcdaa

/- A field's calls, gone on: Frobenius, traces, norms. -/
namespace Go.Proofs.Ytjkncdmbcckcdaa
open Go.RowKit

end Go.Proofs.Ytjkncdmbcckcdaa

/- A field's calls, gone on: its modulus, the elements of a smaller field. -/
namespace Go.Proofs.Ytjkncdmbcckcdaa
open Go.RowKit

theorem RowF.own {g n base : Nat} {f : Nat → Value} {l : List Int} {w : World} (h : RowF g n 3 f w) (hl : l.length = n) (hf : ∀ j, j < n → f j = .int .i64 (l.getD j 0)) (hb : base ≤ g) (hn : n ≤ 1000000) : OwnI base (.slice (some ⟨g, 0, none⟩) n n) l w := by
  obtain ⟨cs, h1, h2, h3⟩ := h
  refine ⟨by simp, Or.inr ⟨g, n, cs, by rw [hl], hb, h1, by omega, by unfold maxLen; omega, by omega, ?_⟩⟩
  rw [hl, Nat.mul_one, List.take_of_length_le (by simp; omega)]
  apply List.ext_getElem?
  intro i
  by_cases hi : i < n
  · rw [Array.getElem?_toList, h3 i hi, hf i hi, List.getElem?_map, List.getD_eq_getElem?_getD, List.getElem?_eq_getElem (by omega)]; rfl
  · rw [List.getElem?_eq_none (by simp; omega), List.getElem?_eq_none (by simp; omega)]

theorem bel_up {B : Nat} {w W w1 : World} (h0 : Below B w W) (h : Below W.heap.size W w1) (hB : B ≤ w.heap.size := by exact Nat.le_refl _) : Below B w w1 := h0.trans (h.mono (Nat.le_trans hB h0.size))

end Go.Proofs.Ytjkncdmbcckcdaa

/- A field's calls, gone on: a field within another (holds, Within). -/
namespace Go.Proofs.Ytjkncdmbcckcdaa
open Go.RowKit

/-! ### Plain mathematics -/
/-! ### Calls -/
end Go.Proofs.Ytjkncdmbcckcdaa

/- The reference: a polynomial's value at an element (value). -/
namespace Go.Proofs.Ytjkncdmbcckcdaa
open Go.RowKit

/-- The value of n coefficients at x, from the highest one down, k of them. -/
def FD.val (D : FD) (c : Nat → Nat) (n x : Nat) : Nat → Nat
  | 0 => 0
  | k + 1 => sumD D.p D.q (D.mul (D.val c n x k) x) (c (n - 1 - k))
theorem val_lt {D : FD} (hD : D ∈ fieldsL) (c : Nat → Nat) (n x : Nat) (hc : ∀ j, c j < D.q) : ∀ k, D.val c n x k < D.q
  | 0 => by have := (fld hD).q2; show 0 < D.q; omega
  | k + 1 => (fld hD).sum_lt _ _ ((fld hD).mul_lt _ _) (hc _)

theorem bel_up' {B : Nat} {w W w1 : World} (h0 : Below B w W) (h : Below W.heap.size W w1) (hB : B ≤ w.heap.size := by exact Nat.le_refl _) : Below B w w1 := h0.trans (h.mono (Nat.le_trans hB h0.size))

theorem radd_nat {D : FD} (hD : D ∈ fieldsL) (gen : Nat) (v : Value) (a b : Nat) (ha : a < D.q) (hb : b < D.q) (wr : World) :
    Calls Try.prog 107 #[.agg #[.int .i64 D.q, .int .i64 D.p, .int .i64 D.m, .int .i64 gen, v], .int .i64 a, .int .i64 b] wr fun e w' => e = .returned (.int .i64 (sumD D.p D.q a b : Nat)) ∧ Below wr.heap.size wr w' := by
  rw [← addZ_nat (fld hD) ha hb]
  exact radd_any hD gen v a b wr

end Go.Proofs.Ytjkncdmbcckcdaa

/- Plain mathematics of a field within another: what the smaller one's x becomes. -/
namespace Go.Proofs.Ytjkncdmbcckcdaa

end Go.Proofs.Ytjkncdmbcckcdaa

/- The reference: what each element of a field becomes in a greater one (Embed). -/
namespace Go.Proofs.Ytjkncdmbcckcdaa
open Go.RowKit

theorem modL_len' {D : FD} : D.modL.length = D.m + 1 := by unfold FD.modL; rw [List.length_append, digL_len]; rfl

end Go.Proofs.Ytjkncdmbcckcdaa

/- The reference: what each element of a field becomes in a greater one, gone on (Embed). -/
namespace Go.Proofs.Ytjkncdmbcckcdaa
open Go.RowKit

end Go.Proofs.Ytjkncdmbcckcdaa

/- A field's calls, gone on: what a smaller field's elements become (at, rootFor, Embed). -/
namespace Go.Proofs.Ytjkncdmbcckcdaa
open Go.RowKit

theorem mul_nat {F T : Nat} {D : FD} (hD : D ∈ fieldsL) {g : Nat → Value} {w : World} (h : FAt F T D g w) {a b : Nat} (ha : a < D.q) (hb : b < D.q) :
    Calls Try.prog 95 #[.pointer (some ⟨F, 0, none⟩), .int .i64 a, .int .i64 b] w fun e w' => e = .returned (.int .i64 (D.mul a b : Nat)) ∧ ∃ n, w' = w.drewN n := by
  rw [← mulZ_nat (fld hD) ha hb]; exact mul_any hD h a b
theorem add_nat {F T : Nat} {D : FD} (hD : D ∈ fieldsL) {g : Nat → Value} {w : World} (h : FAt F T D g w) {a b : Nat} (ha : a < D.q) (hb : b < D.q) :
    Calls Try.prog 122 #[.pointer (some ⟨F, 0, none⟩), .int .i64 a, .int .i64 b] w fun e w' => e = .returned (.int .i64 (sumD D.p D.q a b : Nat)) ∧ ∃ n, w' = w.drewN n := by
  rw [← addZ_nat (fld hD) ha hb]; exact add_any hD h a b

end Go.Proofs.Ytjkncdmbcckcdaa

/- A field's calls, gone on: what a smaller field's elements become (Embed). -/
namespace Go.Proofs.Ytjkncdmbcckcdaa
open Go.RowKit

end Go.Proofs.Ytjkncdmbcckcdaa

/- Plain mathematics: Fermat and Frobenius, traces and norms; what a smaller field's elements become is a copy of it. -/
namespace Go.Proofs.Ytjkncdmbcckcdaa
open Go.RowKit

/-! ### The kernel's checks -/
end Go.Proofs.Ytjkncdmbcckcdaa

/- Plain mathematics, gone on: the laws that follow from the kernel's checks. -/
namespace Go.Proofs.Ytjkncdmbcckcdaa
open Go.RowKit

theorem zero_mul' (D : FD) (a : Nat) : D.mul 0 a = 0 := by simp [FD.mul]
theorem inv_is {D : FD} (hD : D ∈ fieldsL) {x : Nat} (hx : x < D.q) (h0 : x ≠ 0) : D.mul x (D.pw x (D.q - 2)) = 1 := by
  have h := t11 hD hx h0
  rw [inv_nat hD hx h0, mulZ_nat (fld hD) hx (pw_lt hD x _)] at h
  exact_mod_cast h
/-! ### Frobenius -/
/-! ### Traces and norms -/
/-! ### Copies -/
end Go.Proofs.Ytjkncdmbcckcdaa

/- The walk of the statement FieldEmbeds. -/
namespace Go.Proofs.Ytjkncdmbcckcdaa
open Go.RowKit

/-! ### What two answers with lists are held together by -/
end Go.Proofs.Ytjkncdmbcckcdaa
