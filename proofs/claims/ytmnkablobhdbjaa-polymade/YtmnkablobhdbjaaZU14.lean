/- The program's polynomials: the calls that are listed: Roots. -/
import Derived.Test.YtmnkablobhdbjaaZU11
namespace Go.Proofs.Ytmnkablobhdbjaa
open Go.RowKit

theorem many_one {ao : Option Addr} {n ca : Nat} {z : Nat → Int} {w : World} (ha : Arg ao n ca z w) :
    Many w.heap.size 1 (fun _ => ao) (fun _ => n) (fun _ => ca) (fun _ => z) (w.alloc (.cells #[.slice ao n ca] 26)) := by
  have hbl : Below w.heap.size w (w.alloc (.cells #[.slice ao n ca] 26)) := (Below.refl _ _).alloc (Nat.le_refl _) _
  have a1 := ha.below hbl
  refine ⟨fun j hj => ?_, fun j hj => a1.sl, fun j hj => a1.lt, fun j hj => a1.few, by simp⟩
  rw [cell_of_row _ _ _ _ _ (0, 0) (two_new _), show j = 0 from by omega]; rfl
theorem over1_any {D : FD} (hD : D ∈ fieldsL) {ao : Option Addr} {n ca : Nat} {z : Nat → Int} {w : World} (ha : Arg ao n ca z w) :
    Calls Try.prog 80 #[.int .i64 D.q, .slice (some ⟨w.heap.size, 0, none⟩) 1 1] (w.alloc (.cells #[.slice ao n ca] 26)) fun e w' => Below w.heap.size w w' ∧
      ((D.chk n z = 0 ∧ ∃ F T f, e = .returned (.tuple #[.pointer (some ⟨F, 0, none⟩), .int .i64 0]) ∧ FAt F T D f w') ∨ (D.chk n z ≠ 0 ∧ e = .returned (.tuple #[.pointer none, .int .i64 (D.chk n z)]))) := by
  have h := over_any hD (cap := 1) (many_one ha) (by omega)
  rw [show D.chks (fun _ => n) (fun _ => z) 1 = D.chk n z from by show (if (0 : Int) = 0 then D.chk n z else 0) = _; rw [if_pos rfl]] at h
  refine h.mono ?_
  rintro e w' ⟨hb', hr⟩
  have hbl : Below w.heap.size w (w.alloc (.cells #[.slice ao n ca] 26)) := (Below.refl _ _).alloc (Nat.le_refl _) _
  refine ⟨bel_up hbl hb', ?_⟩
  rcases hr with ⟨h0, F, T, f, rfl, hat, _, _⟩ | h
  · exact Or.inl ⟨h0, F, T, f, rfl, hat⟩
  · exact Or.inr h

/-- The elements below k at which a polynomial is 0, rising. -/
def FD.rootsL (D : FD) (c : Nat → Nat) (n k : Nat) : List Int := ((List.range k).filter fun x => D.val c n x n == 0).map Int.ofNat
theorem rootsL_yes {D : FD} {c : Nat → Nat} {n k : Nat} (h : D.val c n k n = 0) : D.rootsL c n (k + 1) = D.rootsL c n k ++ [(k : Int)] := by
  unfold FD.rootsL; rw [List.range_succ, List.filter_append, List.map_append]; simp [h]
theorem rootsL_no {D : FD} {c : Nat → Nat} {n k : Nat} (h : ¬ D.val c n k n = 0) : D.rootsL c n (k + 1) = D.rootsL c n k := by
  unfold FD.rootsL; rw [List.range_succ, List.filter_append, List.map_append]; simp [h]
theorem rootsL_len (D : FD) (c : Nat → Nat) (n k : Nat) : (D.rootsL c n k).length ≤ k := by
  unfold FD.rootsL
  rw [List.length_map]
  exact Nat.le_trans (List.length_filter_le _ _) (by simp)

set_option maxHeartbeats 2000000 in
set_option maxRecDepth 100000 in
theorem roots_none (q : Int) (h : ∀ D ∈ fieldsL, (D.q : Int) ≠ q) (ao : Option Addr) (n ca : Nat) (w : World) :
    Calls Try.prog 91 #[.int .i64 q, .slice ao n ca] w fun e w' => e = .returned (.tuple #[.slice none 0 0, .int .i64 1]) ∧ Below w.heap.size w w' := by
  have HB : Hid (∀ D ∈ fieldsL, (D.q : Int) ≠ q) := h
  clear h
  go_enter Try.func91, Try.ntmps91
  go_wp2_with fail
  refine (over_none q HB.out _ 1 1 _ _ (by omega) (cell_of_row _ _ _ _ _ (0, 0) (two_new _))).mono ?_
  rintro e w' ⟨rfl, rfl⟩
  go_wp2
  go_ret2
  exact ⟨rfl, (Below.refl _ _).alloc (Nat.le_refl _) _⟩

set_option maxHeartbeats 4000000 in
set_option maxRecDepth 100000 in
theorem roots_any {D : FD} (hD : D ∈ fieldsL) {ao : Option Addr} {n ca : Nat} {z : Nat → Int} {w : World} (ha : Arg ao n ca z w) :
    Calls Try.prog 91 #[.int .i64 D.q, .slice ao n ca] w fun e w' => Below w.heap.size w w' ∧
      ((D.chk n z = 0 ∧ dgn (zc n z) n ≠ 0 ∧ ∃ v, e = .returned (.tuple #[v, .int .i64 0]) ∧ OwnI w.heap.size v (D.rootsL (zc n z) n D.q) w') ∨
       (D.chk n z = 0 ∧ dgn (zc n z) n = 0 ∧ e = .returned (.tuple #[.slice none 0 0, .int .i64 5])) ∨ (D.chk n z ≠ 0 ∧ e = .returned (.tuple #[.slice none 0 0, .int .i64 (D.chk n z)]))) := by
  have HA : Hid (Arg ao n ca z w ∧ D ∈ fieldsL) := ⟨ha, hD⟩
  have h64 := (fld hD).q64
  clear ha hD
  obtain ⟨n', hn'⟩ : ∃ n', n' = dgn (zc n z) n := ⟨_, rfl⟩
  have hn1 : n' ≤ n := by rw [hn']; exact dgn_le _ _
  rw [← hn']
  have HN0 : Hid (n' = dgn (zc n z) n) := hn'
  clear hn'
  go_enter Try.func91, Try.ntmps91
  go_wp2_with fail
  refine (over1_any HA.out.2 HA.out.1).mono ?_
  rintro e w1 ⟨hb1, hr⟩
  rcases hr with ⟨h0, F, T, f, rfl, hat⟩ | ⟨h0, rfl⟩
  · have HW : Hid (D.chk n z = 0 ∧ FAt F T D f w1 ∧ Below w.heap.size w w1 ∧ Arg ao n ca z w1) := ⟨h0, hat, hb1, HA.out.1.below hb1⟩
    have hn128 := (chk_zero h0).1
    clear h0 hat hb1
    go_wp2_with fail
    refine (trims_ok HW.out.1 HW.out.2.2.2).mono ?_
    rintro e w' ⟨rfl, k1, rfl⟩
    rw [← HN0.out]
    by_cases hn0 : n' = 0
    · have hz : ((n' : Int) == 0) = true := by rw [hn0]; rfl
      have HZ : Hid (n' = 0) := hn0
      clear hn0
      go_wp2
      go_ret2
      exact ⟨below_drewN2 HW.out.2.2.1 _, Or.inr (Or.inl ⟨HW.out.1, HZ.out, rfl⟩)⟩
    · have hz : ((n' : Int) == 0) = false := by rw [beq_eq_false_iff_ne]; omega
      have HZ : Hid (n' ≠ 0) := hn0
      clear hn0
      have hs1 := HW.out.2.2.1.size
      go_wp2
      go_loopw [8, 25] (fun vl i wr => ∃ x : Nat, x ≤ D.q ∧ i = .int .i64 x ∧ OwnI w1.heap.size vl (D.rootsL (zc n z) n x) wr ∧ Below w1.heap.size w1 wr) (fun _ i _ => D.q - (intOf i).toNat)
      case atStart => exact ⟨0, by omega, rfl, OwnI.nil _ _, below_drewN2 (Below.refl _ _) _⟩
      case round =>
        obtain ⟨x, hx, rfl, hown, hbel⟩ := hrel
        have HG : Hid (OwnI w1.heap.size u8 (D.rootsL (zc n z) n x) wr ∧ Below w1.heap.size w1 wr) := ⟨hown, hbel⟩
        have hsz1 := hbel.size
        clear hown hbel
        have hlen := rootsL_len D (zc n z) n x
        by_cases hla : x < D.q
        · obtain ⟨y, hy⟩ : ∃ y, y = D.val (zc n z) n x n := ⟨_, rfl⟩
          have HC : Hid (Calls Try.prog 103 #[.pointer (some ⟨F, 0, none⟩), .slice ao n ca, .int .i64 x] wr fun e w' => e = .returned (.int .i64 (y : Nat)) ∧ ∃ n, w' = wr.drewN n) := by
            show Calls _ _ _ _ _
            rw [hy]
            exact value_any HA.out.2 (HW.out.2.1.below HG.out.2 HW.out.2.1.ltF HW.out.2.1.ltT) hla (by omega) (zc_el (fld HA.out.2) HW.out.1) (zc_sl HW.out.1 (HW.out.2.2.2.below HG.out.2).sl)
          by_cases he : y = 0
          · have hbe : ((y : Int) == 0) = true := by rw [he]; rfl
            have HL : Hid (D.rootsL (zc n z) n (x + 1) = D.rootsL (zc n z) n x ++ [(x : Int)]) := rootsL_yes (by rw [← hy, he])
            clear he hy
            go_wp2_with fail
            refine HC.out.mono ?_
            rintro e w2 ⟨rfl, n2, hw2⟩
            have HG2 : Hid (OwnI w1.heap.size u8 (D.rootsL (zc n z) n x) w2 ∧ Below w1.heap.size w1 w2 ∧ w1.heap.size ≤ w2.heap.size) := by
              rw [hw2]; exact ⟨HG.out.1.drewN _, below_drewN2 HG.out.2 _, hsz1⟩
            clear HC hw2
            go_wp2_with (at_builtin; refine append_int rfl _ _ rfl w1.heap.size _ (D.rootsL (zc n z) n x) rfl (HG2.out.1.alloc _) ⟨_, 0, none⟩ 1 x rfl (by simp) (by omega) (by have := HG2.out.2.2; simp; omega) ?_; intro v2 w3 hown3 hgrow3)
            have hb3 : Below w1.heap.size w1 w3 := (HG2.out.2.1.alloc HG2.out.2.2 _).grown hgrow3 (by have := HG2.out.2.2; simp; omega) (fun k hk => (HG2.out.1.lt k hk).1)
            go_roundw
            case rel => exact ⟨x + 1, by omega, by go_num, by rw [HL.out]; exact hown3, hb3⟩
            case measure => simp [intOf]; omega
          · have hbe : ((y : Int) == 0) = false := beq_eq_false_iff_ne.2 (by omega)
            have HL : Hid (D.rootsL (zc n z) n (x + 1) = D.rootsL (zc n z) n x) := rootsL_no (by rw [← hy]; exact he)
            clear he hy
            go_wp2_with fail
            refine HC.out.mono ?_
            rintro e w' ⟨rfl, n2, rfl⟩
            clear HC
            go_wp2
            go_roundw
            case rel => exact ⟨x + 1, by omega, by go_num, by rw [HL.out]; exact HG.out.1.drewN _, below_drewN2 HG.out.2 _⟩
            case measure => simp [intOf]; omega
        · have HE : Hid (OwnI w.heap.size u8 (D.rootsL (zc n z) n D.q) wr ∧ Below w.heap.size w wr) := by
            have h := HG.out.1.mono hs1
            rw [show x = D.q from by omega] at h
            exact ⟨h, bel_up HW.out.2.2.1 HG.out.2⟩
          go_wp2
          go_ret2
          exact ⟨HE.out.2, Or.inl ⟨HW.out.1, HZ.out, _, rfl, HE.out.1⟩⟩
  · have HW : Hid (D.chk n z ≠ 0 ∧ Below w.heap.size w w1) := ⟨h0, hb1⟩
    obtain ⟨e, he⟩ : ∃ e, e = D.chk n z := ⟨_, rfl⟩
    rw [← he] at h0 ⊢
    have hz : (e != 0) = true := by rw [bne_iff_ne]; exact h0
    have HE : Hid (e = D.chk n z) := he
    clear h0 hb1 he
    go_wp2
    go_ret2
    exact ⟨HW.out.2, Or.inr (Or.inr ⟨HW.out.1, by rw [← HE.out]; rfl⟩)⟩
end Go.Proofs.Ytmnkablobhdbjaa
