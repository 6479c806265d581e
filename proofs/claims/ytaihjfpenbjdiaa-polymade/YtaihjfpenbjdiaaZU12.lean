/- Texts of ours, one behind the other: U12 U13 U14. -/
import Derived.Test.YtaihjfpenbjdiaaZU9
/- The program's polynomials: the calls that are listed: Div, At. -/
namespace Go.Proofs.Ytaihjfpenbjdiaa
open Go.RowKit

set_option maxHeartbeats 2000000 in
set_option maxRecDepth 100000 in
theorem pdiv_none (q : Int) (h : ∀ D ∈ fieldsL, (D.q : Int) ≠ q) (ao bo : Option Addr) (n m ca cb : Nat) (w : World) :
    Calls Try.prog 56 #[.int .i64 q, .slice ao n ca, .slice bo m cb] w fun e w' => e = .returned (.tuple #[.slice none 0 0, .slice none 0 0, .int .i64 1]) ∧ Below w.heap.size w w' := by
  have HB : Hid (∀ D ∈ fieldsL, (D.q : Int) ≠ q) := h
  clear h
  go_enter Try.func56, Try.ntmps56
  go_wp2_with fail
  refine (over_none q HB.out _ 2 2 _ _ (by omega) (cell_of_row _ _ _ _ _ (0, 0) (two_new _))).mono ?_
  rintro e w' ⟨rfl, rfl⟩
  go_wp2
  go_ret3
  exact ⟨rfl, (Below.refl _ _).alloc (Nat.le_refl _) _⟩

/-- The quotient and the rest of two polynomials of n and m coefficients. -/
def FD.quo (D : FD) (a : Nat → Nat) (n : Nat) (b : Nat → Nat) (m : Nat) : Nat → Nat := divQ D b (dgn b m - 1) (D.iv (b (dgn b m - 1))) (n - (dgn b m - 1)) a
def FD.rst (D : FD) (a : Nat → Nat) (n : Nat) (b : Nat → Nat) (m : Nat) : Nat → Nat := divR D b (dgn b m - 1) (D.iv (b (dgn b m - 1))) (n - (dgn b m - 1)) a

set_option maxHeartbeats 4000000 in
set_option maxRecDepth 100000 in
theorem pdiv_any {D : FD} (hD : D ∈ fieldsL) {ao bo : Option Addr} {n m ca cb : Nat} {z y : Nat → Int} {w : World} (ha : Arg ao n ca z w) (hb : Arg bo m cb y w) :
    Calls Try.prog 56 #[.int .i64 D.q, .slice ao n ca, .slice bo m cb] w fun e w' => Below w.heap.size w w' ∧
      ((D.chk2 n z m y = 0 ∧ dgn (zc m y) m ≠ 0 ∧ ∃ v u, e = .returned (.tuple #[v, u, .int .i64 0]) ∧ OwnP w.heap.size v (dgn (D.quo (zc n z) n (zc m y) m) (n - (dgn (zc m y) m - 1))) (D.quo (zc n z) n (zc m y) m) w' ∧ OwnP w.heap.size u (dgn (D.rst (zc n z) n (zc m y) m) n) (D.rst (zc n z) n (zc m y) m) w') ∨
       (D.chk2 n z m y = 0 ∧ dgn (zc m y) m = 0 ∧ e = .returned (.tuple #[.slice none 0 0, .slice none 0 0, .int .i64 5])) ∨ (D.chk2 n z m y ≠ 0 ∧ e = .returned (.tuple #[.slice none 0 0, .slice none 0 0, .int .i64 (D.chk2 n z m y)]))) := by
  have HA : Hid (Arg ao n ca z w ∧ Arg bo m cb y w ∧ D ∈ fieldsL) := ⟨ha, hb, hD⟩
  clear ha hb hD
  unfold FD.quo FD.rst
  obtain ⟨m', hm'⟩ : ∃ m', m' = dgn (zc m y) m := ⟨_, rfl⟩
  have hm1 : m' ≤ m := by rw [hm']; exact dgn_le _ _
  rw [← hm']
  have HN0 : Hid (m' = dgn (zc m y) m) := hm'
  clear hm'
  go_enter Try.func56, Try.ntmps56
  go_wp2_with fail
  refine (over2_any HA.out.2.2 HA.out.1 HA.out.2.1).mono ?_
  rintro e w1 ⟨hb1, hr⟩
  rcases hr with ⟨h0, F, T, f, rfl, hat, hF, hT⟩ | ⟨h0, rfl⟩
  · have HW : Hid (D.chk2 n z m y = 0 ∧ FAt F T D f w1 ∧ Below w.heap.size w w1 ∧ Arg ao n ca z w1 ∧ Arg bo m cb y w1) := ⟨h0, hat, hb1, HA.out.1.below hb1, HA.out.2.1.below hb1⟩
    clear h0 hat hF hT hb1
    have c0 := chk2_zero HW.out.1
    have hn128 := (chk_zero c0.1).1
    have hm128 := (chk_zero c0.2).1
    have HN : Hid (m' = dgn (zc m y) m ∧ D.chk n z = 0 ∧ D.chk m y = 0) := ⟨HN0.out, c0⟩
    clear c0
    go_wp2_with fail
    refine (trims_ok HN.out.2.2 HW.out.2.2.2.2).mono ?_
    rintro e w' ⟨rfl, k1, rfl⟩
    rw [← HN.out.1]
    by_cases hm0 : m' = 0
    · have hz : ((m' : Int) == 0) = true := by rw [hm0]; rfl
      have HZ : Hid (m' = 0) := hm0
      clear hm0
      go_wp2
      go_ret3
      exact ⟨below_drewN2 HW.out.2.2.1 _, Or.inr (Or.inl ⟨HW.out.1, HZ.out, rfl⟩)⟩
    · obtain ⟨l, rfl⟩ : ∃ l, m' = l + 1 := ⟨m' - 1, by omega⟩
      have hF := fld HA.out.2.2
      have HP := fun d => divide_any HA.out.2.2 (HW.out.2.1.drewN d) (ca := ca) (cb := cb) (show n ≤ 1000 by omega) (show l < 1000 by omega) (zc_el hF HN.out.2.1) (zc_el hF HN.out.2.2) (zc_bd _ _) (by rw [HN.out.1]; exact dgn_bd (zc_bd _ _)) (by
        have h := dgn_top (zc m y) m (by rw [← HN.out.1]; omega)
        rw [← HN.out.1] at h; exact h) (zc_sl HN.out.2.1 HW.out.2.2.2.1.sl) ((zc_sl HN.out.2.2 HW.out.2.2.2.2.sl).less hm1) HW.out.2.2.2.1.lt HW.out.2.2.2.2.lt HW.out.2.2.2.1.nil
      clear hF
      go_wp2_with fail
      refine (HP _).mono ?_
      rintro e w2 ⟨vq, vr, rfl, hq, hr, hb2⟩
      have hs := HW.out.2.2.1.size
      have HR : Hid (OwnP w.heap.size vq (dgn (divQ D (zc m y) l (D.iv (zc m y l)) (n - l) (zc n z)) (n - l)) (divQ D (zc m y) l (D.iv (zc m y l)) (n - l) (zc n z)) w2 ∧ OwnP w.heap.size vr (dgn (divR D (zc m y) l (D.iv (zc m y l)) (n - l) (zc n z)) n) (divR D (zc m y) l (D.iv (zc m y l)) (n - l) (zc n z)) w2 ∧ Below w.heap.size w w2) := ⟨hq.mono hs, hr.mono hs, bel_up (below_drewN2 HW.out.2.2.1 _) hb2⟩
      clear hq hr hb2 HP
      go_wp2
      go_ret3
      exact ⟨HR.out.2.2, Or.inl ⟨HW.out.1, by omega, vq, vr, rfl, HR.out.1, HR.out.2.1⟩⟩
  · have HW : Hid (D.chk2 n z m y ≠ 0 ∧ Below w.heap.size w w1) := ⟨h0, hb1⟩
    obtain ⟨e, he⟩ : ∃ e, e = D.chk2 n z m y := ⟨_, rfl⟩
    rw [← he] at h0 ⊢
    have hz : (e != 0) = true := by rw [bne_iff_ne]; exact h0
    have HE : Hid (e = D.chk2 n z m y) := he
    clear h0 hb1 he
    go_wp2
    go_ret3
    exact ⟨HW.out.2, Or.inr (Or.inr ⟨HW.out.1, by rw [← HE.out]; rfl⟩)⟩
end Go.Proofs.Ytaihjfpenbjdiaa

/- The program's polynomials: the calls that are listed: At, Roots. -/
namespace Go.Proofs.Ytaihjfpenbjdiaa
open Go.RowKit

theorem arg_one (x : Int) (w : World) : Arg (some ⟨w.heap.size, 0, none⟩) 1 1 (fun _ => x) (w.alloc (.cells #[.int .i64 x] 3)) := by
  refine ⟨fun j hj => ⟨w.heap.size, 0, rfl, ?_⟩, fun a ha => by cases ha; simp, by omega, fun e => (by cases e), Nat.le_refl _, by omega⟩
  rw [cell_of_row _ _ _ _ _ (0, 0) (two_new _), show j = 0 from by omega]; rfl

set_option maxHeartbeats 2000000 in
set_option maxRecDepth 100000 in
theorem pat_none (q : Int) (h : ∀ D ∈ fieldsL, (D.q : Int) ≠ q) (ao : Option Addr) (n ca : Nat) (x : Int) (w : World) :
    Calls Try.prog 93 #[.int .i64 q, .slice ao n ca, .int .i64 x] w fun e w' => e = .returned (.tuple #[.int .i64 0, .int .i64 1]) ∧ Below w.heap.size w w' := by
  have HB : Hid (∀ D ∈ fieldsL, (D.q : Int) ≠ q) := h
  clear h
  go_enter Try.func93, Try.ntmps93
  go_wp2_with fail
  have hc : ((w.alloc (.cells #[.int .i64 x] 3)).alloc (.cells #[.slice ao n ca, .slice (some ⟨w.heap.size, 0, none⟩) 1 1] 26)).cell? ⟨w.heap.size + 1, 0, none⟩ = some (.slice ao n ca) := by
    have h := two_new (w := w.alloc (.cells #[.int .i64 x] 3)) (.cells #[.slice ao n ca, .slice (some ⟨w.heap.size, 0, none⟩) 1 1] 26)
    rw [show (w.alloc (.cells #[.int .i64 x] 3)).heap.size = w.heap.size + 1 from by simp] at h
    rw [cell_of_row _ _ _ _ _ (0, 0) h]; rfl
  refine (over_none q HB.out _ 2 2 _ _ (by omega) hc).mono ?_
  rintro e w' ⟨rfl, rfl⟩
  clear hc
  go_wp2
  go_ret2
  exact ⟨rfl, ((Below.refl _ _).alloc (Nat.le_refl _) _).alloc (by simp) _⟩

theorem over_at {D : FD} (hD : D ∈ fieldsL) {ao : Option Addr} {n ca : Nat} {z : Nat → Int} (x : Int) {w : World} (ha : Arg ao n ca z w) :
    Calls Try.prog 86 #[.int .i64 D.q, .slice (some ⟨w.heap.size + 1, 0, none⟩) 2 2] ((w.alloc (.cells #[.int .i64 x] 3)).alloc (.cells #[.slice ao n ca, .slice (some ⟨w.heap.size, 0, none⟩) 1 1] 26)) fun e w' => Below w.heap.size w w' ∧
      ((D.chk2 n z 1 (fun _ => x) = 0 ∧ ∃ F T f, e = .returned (.tuple #[.pointer (some ⟨F, 0, none⟩), .int .i64 0]) ∧ FAt F T D f w') ∨ (D.chk2 n z 1 (fun _ => x) ≠ 0 ∧ e = .returned (.tuple #[.pointer none, .int .i64 (D.chk2 n z 1 (fun _ => x))]))) := by
  have hbl : Below w.heap.size w (w.alloc (.cells #[.int .i64 x] 3)) := (Below.refl _ _).alloc (Nat.le_refl _) _
  have HO := over2_any hD (ha.below hbl) (arg_one x w)
  have hsz : (w.alloc (.cells #[.int .i64 x] 3)).heap.size = w.heap.size + 1 := by simp
  rw [hsz] at HO
  refine HO.mono ?_
  rintro e w1 ⟨hb1, hr⟩
  rw [← hsz] at hb1
  refine ⟨bel_up hbl hb1, ?_⟩
  rcases hr with ⟨h0, F, T, f, rfl, hat, _, _⟩ | h
  · exact Or.inl ⟨h0, F, T, f, rfl, hat⟩
  · exact Or.inr h

set_option maxHeartbeats 4000000 in
set_option maxRecDepth 100000 in
theorem pat_any {D : FD} (hD : D ∈ fieldsL) {ao : Option Addr} {n ca : Nat} {z : Nat → Int} (x : Int) {w : World} (ha : Arg ao n ca z w) :
    Calls Try.prog 93 #[.int .i64 D.q, .slice ao n ca, .int .i64 x] w fun e w' => Below w.heap.size w w' ∧
      ((D.chk2 n z 1 (fun _ => x) = 0 ∧ e = .returned (.tuple #[.int .i64 (D.val (zc n z) n x.toNat n : Nat), .int .i64 0])) ∨ (D.chk2 n z 1 (fun _ => x) ≠ 0 ∧ e = .returned (.tuple #[.int .i64 0, .int .i64 (D.chk2 n z 1 (fun _ => x))]))) := by
  have HA : Hid (Arg ao n ca z w ∧ D ∈ fieldsL) := ⟨ha, hD⟩
  clear ha hD
  go_enter Try.func93, Try.ntmps93
  go_wp2_with fail
  refine (over_at HA.out.2 x HA.out.1).mono ?_
  rintro e w1 ⟨hb1, hr⟩
  rcases hr with ⟨h0, F, T, f, rfl, hat⟩ | ⟨h0, rfl⟩
  · have HW : Hid (D.chk2 n z 1 (fun _ => x) = 0 ∧ FAt F T D f w1 ∧ Below w.heap.size w w1 ∧ Arg ao n ca z w1) := ⟨h0, hat, hb1, HA.out.1.below hb1⟩
    clear h0 hat hb1
    have c0 := chk2_zero HW.out.1
    have hn128 := (chk_zero c0.1).1
    obtain ⟨y, hy, hyq⟩ := has_nat ((chk_zero c0.2).2 0 (by omega))
    have HN : Hid (D.chk n z = 0 ∧ D.chk 1 (fun _ => x) = 0 ∧ y < D.q) := ⟨c0.1, c0.2, hyq⟩
    have hx : x = (y : Int) := hy
    clear c0 hy hyq
    subst hx
    go_wp2_with fail
    refine (value_any HA.out.2 HW.out.2.1 HN.out.2.2 (by omega) (zc_el (fld HA.out.2) HN.out.1) (zc_sl HN.out.1 HW.out.2.2.2.sl)).mono ?_
    rintro e w' ⟨rfl, k, rfl⟩
    go_wp2
    go_ret2
    exact ⟨below_drewN2 HW.out.2.2.1 _, Or.inl ⟨HW.out.1, by rw [Int.toNat_natCast]; rfl⟩⟩
  · have HW : Hid (D.chk2 n z 1 (fun _ => x) ≠ 0 ∧ Below w.heap.size w w1) := ⟨h0, hb1⟩
    obtain ⟨e, he⟩ : ∃ e, e = D.chk2 n z 1 (fun _ => x) := ⟨_, rfl⟩
    rw [← he] at h0 ⊢
    have hz : (e != 0) = true := by rw [bne_iff_ne]; exact h0
    have HE : Hid (e = D.chk2 n z 1 (fun _ => x)) := he
    clear h0 hb1 he
    go_wp2
    go_ret2
    exact ⟨HW.out.2, Or.inr ⟨HW.out.1, by rw [← HE.out]; rfl⟩⟩
end Go.Proofs.Ytaihjfpenbjdiaa

/- The program's polynomials: the calls that are listed: Roots. -/
namespace Go.Proofs.Ytaihjfpenbjdiaa
open Go.RowKit

theorem many_one {ao : Option Addr} {n ca : Nat} {z : Nat → Int} {w : World} (ha : Arg ao n ca z w) :
    Many w.heap.size 1 (fun _ => ao) (fun _ => n) (fun _ => ca) (fun _ => z) (w.alloc (.cells #[.slice ao n ca] 26)) := by
  have hbl : Below w.heap.size w (w.alloc (.cells #[.slice ao n ca] 26)) := (Below.refl _ _).alloc (Nat.le_refl _) _
  have a1 := ha.below hbl
  refine ⟨fun j hj => ?_, fun j hj => a1.sl, fun j hj => a1.lt, fun j hj => a1.few, by simp⟩
  rw [cell_of_row _ _ _ _ _ (0, 0) (two_new _), show j = 0 from by omega]; rfl
theorem over1_any {D : FD} (hD : D ∈ fieldsL) {ao : Option Addr} {n ca : Nat} {z : Nat → Int} {w : World} (ha : Arg ao n ca z w) :
    Calls Try.prog 86 #[.int .i64 D.q, .slice (some ⟨w.heap.size, 0, none⟩) 1 1] (w.alloc (.cells #[.slice ao n ca] 26)) fun e w' => Below w.heap.size w w' ∧
      ((D.chk n z = 0 ∧ ∃ F T f, e = .returned (.tuple #[.pointer (some ⟨F, 0, none⟩), .int .i64 0]) ∧ FAt F T D f w') ∨ (D.chk n z ≠ 0 ∧ e = .returned (.tuple #[.pointer none, .int .i64 (D.chk n z)]))) := by
  have h := over_any hD (cap := 1) (many_one ha) (by omega)
  rw [show D.chks (fun _ => n) (fun _ => z) 1 = D.chk n z from by show (if (0 : Int) = 0 then D.chk n z else 0) = _; rw [if_pos rfl]] at h
  refine h.mono ?_
  rintro e w' ⟨hb', hr⟩
  have hbl : Below w.heap.size w (w.alloc (.cells #[.slice ao n ca] 26)) := (Below.refl _ _).alloc (Nat.le_refl _) _
  refine ⟨bel_up hbl hb', ?_⟩
  rcases hr with ⟨h0, F, T, f, rfl, hat, _, _⟩ | h
  · exact Or.inl ⟨h0, F, T, f, rfl, hat⟩
  · exact Or.inr h

/-- The elements below k at which a polynomial is 0, rising. -/
def FD.rootsL (D : FD) (c : Nat → Nat) (n k : Nat) : List Int := ((List.range k).filter fun x => D.val c n x n == 0).map Int.ofNat
theorem rootsL_yes {D : FD} {c : Nat → Nat} {n k : Nat} (h : D.val c n k n = 0) : D.rootsL c n (k + 1) = D.rootsL c n k ++ [(k : Int)] := by
  unfold FD.rootsL; rw [List.range_succ, List.filter_append, List.map_append]; simp [h]
theorem rootsL_no {D : FD} {c : Nat → Nat} {n k : Nat} (h : ¬ D.val c n k n = 0) : D.rootsL c n (k + 1) = D.rootsL c n k := by
  unfold FD.rootsL; rw [List.range_succ, List.filter_append, List.map_append]; simp [h]
theorem rootsL_len (D : FD) (c : Nat → Nat) (n k : Nat) : (D.rootsL c n k).length ≤ k := by
  unfold FD.rootsL
  rw [List.length_map]
  exact Nat.le_trans (List.length_filter_le _ _) (by simp)

set_option maxHeartbeats 2000000 in
set_option maxRecDepth 100000 in
theorem roots_none (q : Int) (h : ∀ D ∈ fieldsL, (D.q : Int) ≠ q) (ao : Option Addr) (n ca : Nat) (w : World) :
    Calls Try.prog 97 #[.int .i64 q, .slice ao n ca] w fun e w' => e = .returned (.tuple #[.slice none 0 0, .int .i64 1]) ∧ Below w.heap.size w w' := by
  have HB : Hid (∀ D ∈ fieldsL, (D.q : Int) ≠ q) := h
  clear h
  go_enter Try.func97, Try.ntmps97
  go_wp2_with fail
  refine (over_none q HB.out _ 1 1 _ _ (by omega) (cell_of_row _ _ _ _ _ (0, 0) (two_new _))).mono ?_
  rintro e w' ⟨rfl, rfl⟩
  go_wp2
  go_ret2
  exact ⟨rfl, (Below.refl _ _).alloc (Nat.le_refl _) _⟩

set_option maxHeartbeats 4000000 in
set_option maxRecDepth 100000 in
theorem roots_any {D : FD} (hD : D ∈ fieldsL) {ao : Option Addr} {n ca : Nat} {z : Nat → Int} {w : World} (ha : Arg ao n ca z w) :
    Calls Try.prog 97 #[.int .i64 D.q, .slice ao n ca] w fun e w' => Below w.heap.size w w' ∧
      ((D.chk n z = 0 ∧ dgn (zc n z) n ≠ 0 ∧ ∃ v, e = .returned (.tuple #[v, .int .i64 0]) ∧ OwnI w.heap.size v (D.rootsL (zc n z) n D.q) w') ∨
       (D.chk n z = 0 ∧ dgn (zc n z) n = 0 ∧ e = .returned (.tuple #[.slice none 0 0, .int .i64 5])) ∨ (D.chk n z ≠ 0 ∧ e = .returned (.tuple #[.slice none 0 0, .int .i64 (D.chk n z)]))) := by
  have HA : Hid (Arg ao n ca z w ∧ D ∈ fieldsL) := ⟨ha, hD⟩
  have h64 := (fld hD).q64
  clear ha hD
  obtain ⟨n', hn'⟩ : ∃ n', n' = dgn (zc n z) n := ⟨_, rfl⟩
  have hn1 : n' ≤ n := by rw [hn']; exact dgn_le _ _
  rw [← hn']
  have HN0 : Hid (n' = dgn (zc n z) n) := hn'
  clear hn'
  go_enter Try.func97, Try.ntmps97
  go_wp2_with fail
  refine (over1_any HA.out.2 HA.out.1).mono ?_
  rintro e w1 ⟨hb1, hr⟩
  rcases hr with ⟨h0, F, T, f, rfl, hat⟩ | ⟨h0, rfl⟩
  · have HW : Hid (D.chk n z = 0 ∧ FAt F T D f w1 ∧ Below w.heap.size w w1 ∧ Arg ao n ca z w1) := ⟨h0, hat, hb1, HA.out.1.below hb1⟩
    have hn128 := (chk_zero h0).1
    clear h0 hat hb1
    go_wp2_with fail
    refine (trims_ok HW.out.1 HW.out.2.2.2).mono ?_
    rintro e w' ⟨rfl, k1, rfl⟩
    rw [← HN0.out]
    by_cases hn0 : n' = 0
    · have hz : ((n' : Int) == 0) = true := by rw [hn0]; rfl
      have HZ : Hid (n' = 0) := hn0
      clear hn0
      go_wp2
      go_ret2
      exact ⟨below_drewN2 HW.out.2.2.1 _, Or.inr (Or.inl ⟨HW.out.1, HZ.out, rfl⟩)⟩
    · have hz : ((n' : Int) == 0) = false := by rw [beq_eq_false_iff_ne]; omega
      have HZ : Hid (n' ≠ 0) := hn0
      clear hn0
      have hs1 := HW.out.2.2.1.size
      go_wp2
      go_loopw [8, 25] (fun vl i wr => ∃ x : Nat, x ≤ D.q ∧ i = .int .i64 x ∧ OwnI w1.heap.size vl (D.rootsL (zc n z) n x) wr ∧ Below w1.heap.size w1 wr) (fun _ i _ => D.q - (intOf i).toNat)
      case atStart => exact ⟨0, by omega, rfl, OwnI.nil _ _, below_drewN2 (Below.refl _ _) _⟩
      case round =>
        obtain ⟨x, hx, rfl, hown, hbel⟩ := hrel
        have HG : Hid (OwnI w1.heap.size u8 (D.rootsL (zc n z) n x) wr ∧ Below w1.heap.size w1 wr) := ⟨hown, hbel⟩
        have hsz1 := hbel.size
        clear hown hbel
        have hlen := rootsL_len D (zc n z) n x
        by_cases hla : x < D.q
        · obtain ⟨y, hy⟩ : ∃ y, y = D.val (zc n z) n x n := ⟨_, rfl⟩
          have HC : Hid (Calls Try.prog 121 #[.pointer (some ⟨F, 0, none⟩), .slice ao n ca, .int .i64 x] wr fun e w' => e = .returned (.int .i64 (y : Nat)) ∧ ∃ n, w' = wr.drewN n) := by
            show Calls _ _ _ _ _
            rw [hy]
            exact value_any HA.out.2 (HW.out.2.1.below HG.out.2 HW.out.2.1.ltF HW.out.2.1.ltT) hla (by omega) (zc_el (fld HA.out.2) HW.out.1) (zc_sl HW.out.1 (HW.out.2.2.2.below HG.out.2).sl)
          by_cases he : y = 0
          · have hbe : ((y : Int) == 0) = true := by rw [he]; rfl
            have HL : Hid (D.rootsL (zc n z) n (x + 1) = D.rootsL (zc n z) n x ++ [(x : Int)]) := rootsL_yes (by rw [← hy, he])
            clear he hy
            go_wp2_with fail
            refine HC.out.mono ?_
            rintro e w2 ⟨rfl, n2, hw2⟩
            have HG2 : Hid (OwnI w1.heap.size u8 (D.rootsL (zc n z) n x) w2 ∧ Below w1.heap.size w1 w2 ∧ w1.heap.size ≤ w2.heap.size) := by
              rw [hw2]; exact ⟨HG.out.1.drewN _, below_drewN2 HG.out.2 _, hsz1⟩
            clear HC hw2
            go_wp2_with (at_builtin; refine append_int rfl _ _ rfl w1.heap.size _ (D.rootsL (zc n z) n x) rfl (HG2.out.1.alloc _) ⟨_, 0, none⟩ 1 x rfl (by simp) (by omega) (by have := HG2.out.2.2; simp; omega) ?_; intro v2 w3 hown3 hgrow3)
            have hb3 : Below w1.heap.size w1 w3 := (HG2.out.2.1.alloc HG2.out.2.2 _).grown hgrow3 (by have := HG2.out.2.2; simp; omega) (fun k hk => (HG2.out.1.lt k hk).1)
            go_roundw
            case rel => exact ⟨x + 1, by omega, by go_num, by rw [HL.out]; exact hown3, hb3⟩
            case measure => simp [intOf]; omega
          · have hbe : ((y : Int) == 0) = false := beq_eq_false_iff_ne.2 (by omega)
            have HL : Hid (D.rootsL (zc n z) n (x + 1) = D.rootsL (zc n z) n x) := rootsL_no (by rw [← hy]; exact he)
            clear he hy
            go_wp2_with fail
            refine HC.out.mono ?_
            rintro e w' ⟨rfl, n2, rfl⟩
            clear HC
            go_wp2
            go_roundw
            case rel => exact ⟨x + 1, by omega, by go_num, by rw [HL.out]; exact HG.out.1.drewN _, below_drewN2 HG.out.2 _⟩
            case measure => simp [intOf]; omega
        · have HE : Hid (OwnI w.heap.size u8 (D.rootsL (zc n z) n D.q) wr ∧ Below w.heap.size w wr) := by
            have h := HG.out.1.mono hs1
            rw [show x = D.q from by omega] at h
            exact ⟨h, bel_up HW.out.2.2.1 HG.out.2⟩
          go_wp2
          go_ret2
          exact ⟨HE.out.2, Or.inl ⟨HW.out.1, HZ.out, _, rfl, HE.out.1⟩⟩
  · have HW : Hid (D.chk n z ≠ 0 ∧ Below w.heap.size w w1) := ⟨h0, hb1⟩
    obtain ⟨e, he⟩ : ∃ e, e = D.chk n z := ⟨_, rfl⟩
    rw [← he] at h0 ⊢
    have hz : (e != 0) = true := by rw [bne_iff_ne]; exact h0
    have HE : Hid (e = D.chk n z) := he
    clear h0 hb1 he
    go_wp2
    go_ret2
    exact ⟨HW.out.2, Or.inr (Or.inr ⟨HW.out.1, by rw [← HE.out]; rfl⟩)⟩
end Go.Proofs.Ytaihjfpenbjdiaa
