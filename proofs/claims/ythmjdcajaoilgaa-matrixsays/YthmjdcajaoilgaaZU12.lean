/- Texts of ours, one behind the other: U12 U13 U14 U15 U16 U17. -/
import Derived.Test.YthmjdcajaoilgaaZU7
/- The program's polynomials: the calls that are listed: Div, At. -/
namespace Go.Proofs.Ythmjdcajaoilgaa
open Go.RowKit

set_option maxHeartbeats 2000000 in
set_option maxRecDepth 100000 in
theorem pdiv_none (q : Int) (h : ∀ D ∈ fieldsL, (D.q : Int) ≠ q) (ao bo : Option Addr) (n m ca cb : Nat) (w : World) :
    Calls Try.prog 56 #[.int .i64 q, .slice ao n ca, .slice bo m cb] w fun e w' => e = .returned (.tuple #[.slice none 0 0, .slice none 0 0, .int .i64 1]) ∧ Below w.heap.size w w' := by
  have HB : Hid (∀ D ∈ fieldsL, (D.q : Int) ≠ q) := h
  clear h
  go_enter Try.func56, Try.ntmps56
  go_wp2_with fail
  refine (over_none q HB.out _ 2 2 _ _ (by omega) (cell_of_row _ _ _ _ _ (0, 0) (two_new _))).mono ?_
  rintro e w' ⟨rfl, rfl⟩
  go_wp2
  go_ret3
  exact ⟨rfl, (Below.refl _ _).alloc (Nat.le_refl _) _⟩

/-- The quotient and the rest of two polynomials of n and m coefficients. -/
def FD.quo (D : FD) (a : Nat → Nat) (n : Nat) (b : Nat → Nat) (m : Nat) : Nat → Nat := divQ D b (dgn b m - 1) (D.iv (b (dgn b m - 1))) (n - (dgn b m - 1)) a
def FD.rst (D : FD) (a : Nat → Nat) (n : Nat) (b : Nat → Nat) (m : Nat) : Nat → Nat := divR D b (dgn b m - 1) (D.iv (b (dgn b m - 1))) (n - (dgn b m - 1)) a

set_option maxHeartbeats 4000000 in
set_option maxRecDepth 100000 in
theorem pdiv_any {D : FD} (hD : D ∈ fieldsL) {ao bo : Option Addr} {n m ca cb : Nat} {z y : Nat → Int} {w : World} (ha : Arg ao n ca z w) (hb : Arg bo m cb y w) :
    Calls Try.prog 56 #[.int .i64 D.q, .slice ao n ca, .slice bo m cb] w fun e w' => Below w.heap.size w w' ∧
      ((D.chk2 n z m y = 0 ∧ dgn (zc m y) m ≠ 0 ∧ ∃ v u, e = .returned (.tuple #[v, u, .int .i64 0]) ∧ OwnP w.heap.size v (dgn (D.quo (zc n z) n (zc m y) m) (n - (dgn (zc m y) m - 1))) (D.quo (zc n z) n (zc m y) m) w' ∧ OwnP w.heap.size u (dgn (D.rst (zc n z) n (zc m y) m) n) (D.rst (zc n z) n (zc m y) m) w') ∨
       (D.chk2 n z m y = 0 ∧ dgn (zc m y) m = 0 ∧ e = .returned (.tuple #[.slice none 0 0, .slice none 0 0, .int .i64 5])) ∨ (D.chk2 n z m y ≠ 0 ∧ e = .returned (.tuple #[.slice none 0 0, .slice none 0 0, .int .i64 (D.chk2 n z m y)]))) := by
  have HA : Hid (Arg ao n ca z w ∧ Arg bo m cb y w ∧ D ∈ fieldsL) := ⟨ha, hb, hD⟩
  clear ha hb hD
  unfold FD.quo FD.rst
  obtain ⟨m', hm'⟩ : ∃ m', m' = dgn (zc m y) m := ⟨_, rfl⟩
  have hm1 : m' ≤ m := by rw [hm']; exact dgn_le _ _
  rw [← hm']
  have HN0 : Hid (m' = dgn (zc m y) m) := hm'
  clear hm'
  go_enter Try.func56, Try.ntmps56
  go_wp2_with fail
  refine (over2_any HA.out.2.2 HA.out.1 HA.out.2.1).mono ?_
  rintro e w1 ⟨hb1, hr⟩
  rcases hr with ⟨h0, F, T, f, rfl, hat, hF, hT⟩ | ⟨h0, rfl⟩
  · have HW : Hid (D.chk2 n z m y = 0 ∧ FAt F T D f w1 ∧ Below w.heap.size w w1 ∧ Arg ao n ca z w1 ∧ Arg bo m cb y w1) := ⟨h0, hat, hb1, HA.out.1.below hb1, HA.out.2.1.below hb1⟩
    clear h0 hat hF hT hb1
    have c0 := chk2_zero HW.out.1
    have hn128 := (chk_zero c0.1).1
    have hm128 := (chk_zero c0.2).1
    have HN : Hid (m' = dgn (zc m y) m ∧ D.chk n z = 0 ∧ D.chk m y = 0) := ⟨HN0.out, c0⟩
    clear c0
    go_wp2_with fail
    refine (trims_ok HN.out.2.2 HW.out.2.2.2.2).mono ?_
    rintro e w' ⟨rfl, k1, rfl⟩
    rw [← HN.out.1]
    by_cases hm0 : m' = 0
    · have hz : ((m' : Int) == 0) = true := by rw [hm0]; rfl
      have HZ : Hid (m' = 0) := hm0
      clear hm0
      go_wp2
      go_ret3
      exact ⟨below_drewN2 HW.out.2.2.1 _, Or.inr (Or.inl ⟨HW.out.1, HZ.out, rfl⟩)⟩
    · obtain ⟨l, rfl⟩ : ∃ l, m' = l + 1 := ⟨m' - 1, by omega⟩
      have hF := fld HA.out.2.2
      have HP := fun d => divide_any HA.out.2.2 (HW.out.2.1.drewN d) (ca := ca) (cb := cb) (show n ≤ 1000 by omega) (show l < 1000 by omega) (zc_el hF HN.out.2.1) (zc_el hF HN.out.2.2) (zc_bd _ _) (by rw [HN.out.1]; exact dgn_bd (zc_bd _ _)) (by
        have h := dgn_top (zc m y) m (by rw [← HN.out.1]; omega)
        rw [← HN.out.1] at h; exact h) (zc_sl HN.out.2.1 HW.out.2.2.2.1.sl) ((zc_sl HN.out.2.2 HW.out.2.2.2.2.sl).less hm1) HW.out.2.2.2.1.lt HW.out.2.2.2.2.lt HW.out.2.2.2.1.nil
      clear hF
      go_wp2_with fail
      refine (HP _).mono ?_
      rintro e w2 ⟨vq, vr, rfl, hq, hr, hb2⟩
      have hs := HW.out.2.2.1.size
      have HR : Hid (OwnP w.heap.size vq (dgn (divQ D (zc m y) l (D.iv (zc m y l)) (n - l) (zc n z)) (n - l)) (divQ D (zc m y) l (D.iv (zc m y l)) (n - l) (zc n z)) w2 ∧ OwnP w.heap.size vr (dgn (divR D (zc m y) l (D.iv (zc m y l)) (n - l) (zc n z)) n) (divR D (zc m y) l (D.iv (zc m y l)) (n - l) (zc n z)) w2 ∧ Below w.heap.size w w2) := ⟨hq.mono hs, hr.mono hs, bel_up (below_drewN2 HW.out.2.2.1 _) hb2⟩
      clear hq hr hb2 HP
      go_wp2
      go_ret3
      exact ⟨HR.out.2.2, Or.inl ⟨HW.out.1, by omega, vq, vr, rfl, HR.out.1, HR.out.2.1⟩⟩
  · have HW : Hid (D.chk2 n z m y ≠ 0 ∧ Below w.heap.size w w1) := ⟨h0, hb1⟩
    obtain ⟨e, he⟩ : ∃ e, e = D.chk2 n z m y := ⟨_, rfl⟩
    rw [← he] at h0 ⊢
    have hz : (e != 0) = true := by rw [bne_iff_ne]; exact h0
    have HE : Hid (e = D.chk2 n z m y) := he
    clear h0 hb1 he
    go_wp2
    go_ret3
    exact ⟨HW.out.2, Or.inr (Or.inr ⟨HW.out.1, by rw [← HE.out]; rfl⟩)⟩
end Go.Proofs.Ythmjdcajaoilgaa

/- The program's polynomials: the calls that are listed: At, Roots. -/
namespace Go.Proofs.Ythmjdcajaoilgaa
open Go.RowKit

theorem arg_one (x : Int) (w : World) : Arg (some ⟨w.heap.size, 0, none⟩) 1 1 (fun _ => x) (w.alloc (.cells #[.int .i64 x] 3)) := by
  refine ⟨fun j hj => ⟨w.heap.size, 0, rfl, ?_⟩, fun a ha => by cases ha; simp, by omega, fun e => (by cases e), Nat.le_refl _, by omega⟩
  rw [cell_of_row _ _ _ _ _ (0, 0) (two_new _), show j = 0 from by omega]; rfl

set_option maxHeartbeats 2000000 in
set_option maxRecDepth 100000 in
theorem pat_none (q : Int) (h : ∀ D ∈ fieldsL, (D.q : Int) ≠ q) (ao : Option Addr) (n ca : Nat) (x : Int) (w : World) :
    Calls Try.prog 93 #[.int .i64 q, .slice ao n ca, .int .i64 x] w fun e w' => e = .returned (.tuple #[.int .i64 0, .int .i64 1]) ∧ Below w.heap.size w w' := by
  have HB : Hid (∀ D ∈ fieldsL, (D.q : Int) ≠ q) := h
  clear h
  go_enter Try.func93, Try.ntmps93
  go_wp2_with fail
  have hc : ((w.alloc (.cells #[.int .i64 x] 3)).alloc (.cells #[.slice ao n ca, .slice (some ⟨w.heap.size, 0, none⟩) 1 1] 26)).cell? ⟨w.heap.size + 1, 0, none⟩ = some (.slice ao n ca) := by
    have h := two_new (w := w.alloc (.cells #[.int .i64 x] 3)) (.cells #[.slice ao n ca, .slice (some ⟨w.heap.size, 0, none⟩) 1 1] 26)
    rw [show (w.alloc (.cells #[.int .i64 x] 3)).heap.size = w.heap.size + 1 from by simp] at h
    rw [cell_of_row _ _ _ _ _ (0, 0) h]; rfl
  refine (over_none q HB.out _ 2 2 _ _ (by omega) hc).mono ?_
  rintro e w' ⟨rfl, rfl⟩
  clear hc
  go_wp2
  go_ret2
  exact ⟨rfl, ((Below.refl _ _).alloc (Nat.le_refl _) _).alloc (by simp) _⟩

theorem over_at {D : FD} (hD : D ∈ fieldsL) {ao : Option Addr} {n ca : Nat} {z : Nat → Int} (x : Int) {w : World} (ha : Arg ao n ca z w) :
    Calls Try.prog 86 #[.int .i64 D.q, .slice (some ⟨w.heap.size + 1, 0, none⟩) 2 2] ((w.alloc (.cells #[.int .i64 x] 3)).alloc (.cells #[.slice ao n ca, .slice (some ⟨w.heap.size, 0, none⟩) 1 1] 26)) fun e w' => Below w.heap.size w w' ∧
      ((D.chk2 n z 1 (fun _ => x) = 0 ∧ ∃ F T f, e = .returned (.tuple #[.pointer (some ⟨F, 0, none⟩), .int .i64 0]) ∧ FAt F T D f w') ∨ (D.chk2 n z 1 (fun _ => x) ≠ 0 ∧ e = .returned (.tuple #[.pointer none, .int .i64 (D.chk2 n z 1 (fun _ => x))]))) := by
  have hbl : Below w.heap.size w (w.alloc (.cells #[.int .i64 x] 3)) := (Below.refl _ _).alloc (Nat.le_refl _) _
  have HO := over2_any hD (ha.below hbl) (arg_one x w)
  have hsz : (w.alloc (.cells #[.int .i64 x] 3)).heap.size = w.heap.size + 1 := by simp
  rw [hsz] at HO
  refine HO.mono ?_
  rintro e w1 ⟨hb1, hr⟩
  rw [← hsz] at hb1
  refine ⟨bel_up hbl hb1, ?_⟩
  rcases hr with ⟨h0, F, T, f, rfl, hat, _, _⟩ | h
  · exact Or.inl ⟨h0, F, T, f, rfl, hat⟩
  · exact Or.inr h

set_option maxHeartbeats 4000000 in
set_option maxRecDepth 100000 in
theorem pat_any {D : FD} (hD : D ∈ fieldsL) {ao : Option Addr} {n ca : Nat} {z : Nat → Int} (x : Int) {w : World} (ha : Arg ao n ca z w) :
    Calls Try.prog 93 #[.int .i64 D.q, .slice ao n ca, .int .i64 x] w fun e w' => Below w.heap.size w w' ∧
      ((D.chk2 n z 1 (fun _ => x) = 0 ∧ e = .returned (.tuple #[.int .i64 (D.val (zc n z) n x.toNat n : Nat), .int .i64 0])) ∨ (D.chk2 n z 1 (fun _ => x) ≠ 0 ∧ e = .returned (.tuple #[.int .i64 0, .int .i64 (D.chk2 n z 1 (fun _ => x))]))) := by
  have HA : Hid (Arg ao n ca z w ∧ D ∈ fieldsL) := ⟨ha, hD⟩
  clear ha hD
  go_enter Try.func93, Try.ntmps93
  go_wp2_with fail
  refine (over_at HA.out.2 x HA.out.1).mono ?_
  rintro e w1 ⟨hb1, hr⟩
  rcases hr with ⟨h0, F, T, f, rfl, hat⟩ | ⟨h0, rfl⟩
  · have HW : Hid (D.chk2 n z 1 (fun _ => x) = 0 ∧ FAt F T D f w1 ∧ Below w.heap.size w w1 ∧ Arg ao n ca z w1) := ⟨h0, hat, hb1, HA.out.1.below hb1⟩
    clear h0 hat hb1
    have c0 := chk2_zero HW.out.1
    have hn128 := (chk_zero c0.1).1
    obtain ⟨y, hy, hyq⟩ := has_nat ((chk_zero c0.2).2 0 (by omega))
    have HN : Hid (D.chk n z = 0 ∧ D.chk 1 (fun _ => x) = 0 ∧ y < D.q) := ⟨c0.1, c0.2, hyq⟩
    have hx : x = (y : Int) := hy
    clear c0 hy hyq
    subst hx
    go_wp2_with fail
    refine (value_any HA.out.2 HW.out.2.1 HN.out.2.2 (by omega) (zc_el (fld HA.out.2) HN.out.1) (zc_sl HN.out.1 HW.out.2.2.2.sl)).mono ?_
    rintro e w' ⟨rfl, k, rfl⟩
    go_wp2
    go_ret2
    exact ⟨below_drewN2 HW.out.2.2.1 _, Or.inl ⟨HW.out.1, by rw [Int.toNat_natCast]; rfl⟩⟩
  · have HW : Hid (D.chk2 n z 1 (fun _ => x) ≠ 0 ∧ Below w.heap.size w w1) := ⟨h0, hb1⟩
    obtain ⟨e, he⟩ : ∃ e, e = D.chk2 n z 1 (fun _ => x) := ⟨_, rfl⟩
    rw [← he] at h0 ⊢
    have hz : (e != 0) = true := by rw [bne_iff_ne]; exact h0
    have HE : Hid (e = D.chk2 n z 1 (fun _ => x)) := he
    clear h0 hb1 he
    go_wp2
    go_ret2
    exact ⟨HW.out.2, Or.inr ⟨HW.out.1, by rw [← HE.out]; rfl⟩⟩
end Go.Proofs.Ythmjdcajaoilgaa

/- The program's polynomials: the calls that are listed: Roots. -/
namespace Go.Proofs.Ythmjdcajaoilgaa
open Go.RowKit

theorem many_one {ao : Option Addr} {n ca : Nat} {z : Nat → Int} {w : World} (ha : Arg ao n ca z w) :
    Many w.heap.size 1 (fun _ => ao) (fun _ => n) (fun _ => ca) (fun _ => z) (w.alloc (.cells #[.slice ao n ca] 26)) := by
  have hbl : Below w.heap.size w (w.alloc (.cells #[.slice ao n ca] 26)) := (Below.refl _ _).alloc (Nat.le_refl _) _
  have a1 := ha.below hbl
  refine ⟨fun j hj => ?_, fun j hj => a1.sl, fun j hj => a1.lt, fun j hj => a1.few, by simp⟩
  rw [cell_of_row _ _ _ _ _ (0, 0) (two_new _), show j = 0 from by omega]; rfl
theorem over1_any {D : FD} (hD : D ∈ fieldsL) {ao : Option Addr} {n ca : Nat} {z : Nat → Int} {w : World} (ha : Arg ao n ca z w) :
    Calls Try.prog 86 #[.int .i64 D.q, .slice (some ⟨w.heap.size, 0, none⟩) 1 1] (w.alloc (.cells #[.slice ao n ca] 26)) fun e w' => Below w.heap.size w w' ∧
      ((D.chk n z = 0 ∧ ∃ F T f, e = .returned (.tuple #[.pointer (some ⟨F, 0, none⟩), .int .i64 0]) ∧ FAt F T D f w') ∨ (D.chk n z ≠ 0 ∧ e = .returned (.tuple #[.pointer none, .int .i64 (D.chk n z)]))) := by
  have h := over_any hD (cap := 1) (many_one ha) (by omega)
  rw [show D.chks (fun _ => n) (fun _ => z) 1 = D.chk n z from by show (if (0 : Int) = 0 then D.chk n z else 0) = _; rw [if_pos rfl]] at h
  refine h.mono ?_
  rintro e w' ⟨hb', hr⟩
  have hbl : Below w.heap.size w (w.alloc (.cells #[.slice ao n ca] 26)) := (Below.refl _ _).alloc (Nat.le_refl _) _
  refine ⟨bel_up hbl hb', ?_⟩
  rcases hr with ⟨h0, F, T, f, rfl, hat, _, _⟩ | h
  · exact Or.inl ⟨h0, F, T, f, rfl, hat⟩
  · exact Or.inr h

/-- The elements below k at which a polynomial is 0, rising. -/
def FD.rootsL (D : FD) (c : Nat → Nat) (n k : Nat) : List Int := ((List.range k).filter fun x => D.val c n x n == 0).map Int.ofNat
theorem rootsL_yes {D : FD} {c : Nat → Nat} {n k : Nat} (h : D.val c n k n = 0) : D.rootsL c n (k + 1) = D.rootsL c n k ++ [(k : Int)] := by
  unfold FD.rootsL; rw [List.range_succ, List.filter_append, List.map_append]; simp [h]
theorem rootsL_no {D : FD} {c : Nat → Nat} {n k : Nat} (h : ¬ D.val c n k n = 0) : D.rootsL c n (k + 1) = D.rootsL c n k := by
  unfold FD.rootsL; rw [List.range_succ, List.filter_append, List.map_append]; simp [h]
theorem rootsL_len (D : FD) (c : Nat → Nat) (n k : Nat) : (D.rootsL c n k).length ≤ k := by
  unfold FD.rootsL
  rw [List.length_map]
  exact Nat.le_trans (List.length_filter_le _ _) (by simp)

set_option maxHeartbeats 2000000 in
set_option maxRecDepth 100000 in
theorem roots_none (q : Int) (h : ∀ D ∈ fieldsL, (D.q : Int) ≠ q) (ao : Option Addr) (n ca : Nat) (w : World) :
    Calls Try.prog 97 #[.int .i64 q, .slice ao n ca] w fun e w' => e = .returned (.tuple #[.slice none 0 0, .int .i64 1]) ∧ Below w.heap.size w w' := by
  have HB : Hid (∀ D ∈ fieldsL, (D.q : Int) ≠ q) := h
  clear h
  go_enter Try.func97, Try.ntmps97
  go_wp2_with fail
  refine (over_none q HB.out _ 1 1 _ _ (by omega) (cell_of_row _ _ _ _ _ (0, 0) (two_new _))).mono ?_
  rintro e w' ⟨rfl, rfl⟩
  go_wp2
  go_ret2
  exact ⟨rfl, (Below.refl _ _).alloc (Nat.le_refl _) _⟩

set_option maxHeartbeats 4000000 in
set_option maxRecDepth 100000 in
theorem roots_any {D : FD} (hD : D ∈ fieldsL) {ao : Option Addr} {n ca : Nat} {z : Nat → Int} {w : World} (ha : Arg ao n ca z w) :
    Calls Try.prog 97 #[.int .i64 D.q, .slice ao n ca] w fun e w' => Below w.heap.size w w' ∧
      ((D.chk n z = 0 ∧ dgn (zc n z) n ≠ 0 ∧ ∃ v, e = .returned (.tuple #[v, .int .i64 0]) ∧ OwnI w.heap.size v (D.rootsL (zc n z) n D.q) w') ∨
       (D.chk n z = 0 ∧ dgn (zc n z) n = 0 ∧ e = .returned (.tuple #[.slice none 0 0, .int .i64 5])) ∨ (D.chk n z ≠ 0 ∧ e = .returned (.tuple #[.slice none 0 0, .int .i64 (D.chk n z)]))) := by
  have HA : Hid (Arg ao n ca z w ∧ D ∈ fieldsL) := ⟨ha, hD⟩
  have h64 := (fld hD).q64
  clear ha hD
  obtain ⟨n', hn'⟩ : ∃ n', n' = dgn (zc n z) n := ⟨_, rfl⟩
  have hn1 : n' ≤ n := by rw [hn']; exact dgn_le _ _
  rw [← hn']
  have HN0 : Hid (n' = dgn (zc n z) n) := hn'
  clear hn'
  go_enter Try.func97, Try.ntmps97
  go_wp2_with fail
  refine (over1_any HA.out.2 HA.out.1).mono ?_
  rintro e w1 ⟨hb1, hr⟩
  rcases hr with ⟨h0, F, T, f, rfl, hat⟩ | ⟨h0, rfl⟩
  · have HW : Hid (D.chk n z = 0 ∧ FAt F T D f w1 ∧ Below w.heap.size w w1 ∧ Arg ao n ca z w1) := ⟨h0, hat, hb1, HA.out.1.below hb1⟩
    have hn128 := (chk_zero h0).1
    clear h0 hat hb1
    go_wp2_with fail
    refine (trims_ok HW.out.1 HW.out.2.2.2).mono ?_
    rintro e w' ⟨rfl, k1, rfl⟩
    rw [← HN0.out]
    by_cases hn0 : n' = 0
    · have hz : ((n' : Int) == 0) = true := by rw [hn0]; rfl
      have HZ : Hid (n' = 0) := hn0
      clear hn0
      go_wp2
      go_ret2
      exact ⟨below_drewN2 HW.out.2.2.1 _, Or.inr (Or.inl ⟨HW.out.1, HZ.out, rfl⟩)⟩
    · have hz : ((n' : Int) == 0) = false := by rw [beq_eq_false_iff_ne]; omega
      have HZ : Hid (n' ≠ 0) := hn0
      clear hn0
      have hs1 := HW.out.2.2.1.size
      go_wp2
      go_loopw [8, 25] (fun vl i wr => ∃ x : Nat, x ≤ D.q ∧ i = .int .i64 x ∧ OwnI w1.heap.size vl (D.rootsL (zc n z) n x) wr ∧ Below w1.heap.size w1 wr) (fun _ i _ => D.q - (intOf i).toNat)
      case atStart => exact ⟨0, by omega, rfl, OwnI.nil _ _, below_drewN2 (Below.refl _ _) _⟩
      case round =>
        obtain ⟨x, hx, rfl, hown, hbel⟩ := hrel
        have HG : Hid (OwnI w1.heap.size u8 (D.rootsL (zc n z) n x) wr ∧ Below w1.heap.size w1 wr) := ⟨hown, hbel⟩
        have hsz1 := hbel.size
        clear hown hbel
        have hlen := rootsL_len D (zc n z) n x
        by_cases hla : x < D.q
        · obtain ⟨y, hy⟩ : ∃ y, y = D.val (zc n z) n x n := ⟨_, rfl⟩
          have HC : Hid (Calls Try.prog 121 #[.pointer (some ⟨F, 0, none⟩), .slice ao n ca, .int .i64 x] wr fun e w' => e = .returned (.int .i64 (y : Nat)) ∧ ∃ n, w' = wr.drewN n) := by
            show Calls _ _ _ _ _
            rw [hy]
            exact value_any HA.out.2 (HW.out.2.1.below HG.out.2 HW.out.2.1.ltF HW.out.2.1.ltT) hla (by omega) (zc_el (fld HA.out.2) HW.out.1) (zc_sl HW.out.1 (HW.out.2.2.2.below HG.out.2).sl)
          by_cases he : y = 0
          · have hbe : ((y : Int) == 0) = true := by rw [he]; rfl
            have HL : Hid (D.rootsL (zc n z) n (x + 1) = D.rootsL (zc n z) n x ++ [(x : Int)]) := rootsL_yes (by rw [← hy, he])
            clear he hy
            go_wp2_with fail
            refine HC.out.mono ?_
            rintro e w2 ⟨rfl, n2, hw2⟩
            have HG2 : Hid (OwnI w1.heap.size u8 (D.rootsL (zc n z) n x) w2 ∧ Below w1.heap.size w1 w2 ∧ w1.heap.size ≤ w2.heap.size) := by
              rw [hw2]; exact ⟨HG.out.1.drewN _, below_drewN2 HG.out.2 _, hsz1⟩
            clear HC hw2
            go_wp2_with (at_builtin; refine append_int rfl _ _ rfl w1.heap.size _ (D.rootsL (zc n z) n x) rfl (HG2.out.1.alloc _) ⟨_, 0, none⟩ 1 x rfl (by simp) (by omega) (by have := HG2.out.2.2; simp; omega) ?_; intro v2 w3 hown3 hgrow3)
            have hb3 : Below w1.heap.size w1 w3 := (HG2.out.2.1.alloc HG2.out.2.2 _).grown hgrow3 (by have := HG2.out.2.2; simp; omega) (fun k hk => (HG2.out.1.lt k hk).1)
            go_roundw
            case rel => exact ⟨x + 1, by omega, by go_num, by rw [HL.out]; exact hown3, hb3⟩
            case measure => simp [intOf]; omega
          · have hbe : ((y : Int) == 0) = false := beq_eq_false_iff_ne.2 (by omega)
            have HL : Hid (D.rootsL (zc n z) n (x + 1) = D.rootsL (zc n z) n x) := rootsL_no (by rw [← hy]; exact he)
            clear he hy
            go_wp2_with fail
            refine HC.out.mono ?_
            rintro e w' ⟨rfl, n2, rfl⟩
            clear HC
            go_wp2
            go_roundw
            case rel => exact ⟨x + 1, by omega, by go_num, by rw [HL.out]; exact HG.out.1.drewN _, below_drewN2 HG.out.2 _⟩
            case measure => simp [intOf]; omega
        · have HE : Hid (OwnI w.heap.size u8 (D.rootsL (zc n z) n D.q) wr ∧ Below w.heap.size w wr) := by
            have h := HG.out.1.mono hs1
            rw [show x = D.q from by omega] at h
            exact ⟨h, bel_up HW.out.2.2.1 HG.out.2⟩
          go_wp2
          go_ret2
          exact ⟨HE.out.2, Or.inl ⟨HW.out.1, HZ.out, _, rfl, HE.out.1⟩⟩
  · have HW : Hid (D.chk n z ≠ 0 ∧ Below w.heap.size w w1) := ⟨h0, hb1⟩
    obtain ⟨e, he⟩ : ∃ e, e = D.chk n z := ⟨_, rfl⟩
    rw [← he] at h0 ⊢
    have hz : (e != 0) = true := by rw [bne_iff_ne]; exact h0
    have HE : Hid (e = D.chk n z) := he
    clear h0 hb1 he
    go_wp2
    go_ret2
    exact ⟨HW.out.2, Or.inr (Or.inr ⟨HW.out.1, by rw [← HE.out]; rfl⟩)⟩
end Go.Proofs.Ythmjdcajaoilgaa

/- The program's polynomials: with 1 at the end (monic); the calls that are listed: Gcd. -/
namespace Go.Proofs.Ythmjdcajaoilgaa
open Go.RowKit

/-- A polynomial's slice without noughts at the end: where it lies, its coefficients. -/
structure PA (D : FD) (ao : Option Addr) (n cap : Nat) (c : Nat → Nat) (w : World) : Prop where
  sl : Sl ao n c w
  lt : LtB ao w.heap.size
  nil : ao = none → cap = 0
  el : El D c
  trd : Trd n c
theorem PA.below {D : FD} {ao : Option Addr} {n cap : Nat} {c : Nat → Nat} {w w' : World} (h : PA D ao n cap c w) (hb : Below w.heap.size w w') : PA D ao n cap c w' :=
  ⟨h.sl.below hb h.lt, h.lt.mono hb.size, h.nil, h.el, h.trd⟩
theorem PA.drewN {D : FD} {ao : Option Addr} {n cap : Nat} {c : Nat → Nat} {w : World} (h : PA D ao n cap c w) (k : Nat) : PA D ao n cap c (w.drewN k) := ⟨h.sl, h.lt, h.nil, h.el, h.trd⟩
theorem OwnP.pa {D : FD} {base n : Nat} {v : Value} {c : Nat → Nat} {w : World} (h : OwnP base v n c w) (he : El D c) (ht : Trd n c) : ∃ ao cap, v = .slice ao n cap ∧ PA D ao n cap c w := by
  obtain ⟨ao, cap, hv, _, _, _, hl, hz, hs⟩ := h.open
  exact ⟨ao, cap, hv, hs, hl, hz, he, ht⟩

set_option maxHeartbeats 4000000 in
set_option maxRecDepth 100000 in
theorem monic_any {F T : Nat} {D : FD} (hD : D ∈ fieldsL) {g : Nat → Value} {w : World} (h : FAt F T D g w) {ao : Option Addr} {n cap : Nat} {c : Nat → Nat} (hn : n ≤ 999) (ha : PA D ao n cap c w) :
    Calls Try.prog 91 #[.pointer (some ⟨F, 0, none⟩), .slice ao n cap] w fun e w' => ∃ v, e = .returned v ∧ OwnP w.heap.size v n (D.mon c n) w' ∧ Below w.heap.size w w' := by
  have HF : Hid (FAt F T D g w ∧ D ∈ fieldsL ∧ PA D ao n cap c w) := ⟨h, hD, ha⟩
  clear h hD ha
  by_cases h0 : n = 0
  · have hz : ((n : Int) == 0) = true := by rw [h0]; rfl
    have HZ : Hid (n = 0) := h0
    clear h0
    go_enter Try.func91, Try.ntmps91
    go_wp2
    go_ret
    exact ⟨_, rfl, ⟨none, 0, by rw [HZ.out]; rfl, by have := HZ.out; omega, by omega, fun x hx => (by cases hx), fun x hx => (by cases hx), fun _ => rfl, fun h1 => absurd h1 (by have := HZ.out; omega)⟩, Below.refl _ _⟩
  · obtain ⟨l, rfl⟩ : ∃ l, n = l + 1 := ⟨n - 1, by omega⟩
    clear h0
    obtain ⟨b, off, rfl, hc⟩ := HF.out.2.2.sl l (by omega)
    obtain ⟨x, hx⟩ : ∃ x, x = c l := ⟨_, rfl⟩
    have HI : Hid (Calls Try.prog 27 #[.pointer (some ⟨F, 0, none⟩), .int .i64 (x : Nat)] w fun e w' => e = .returned (.int .i64 (D.iv x : Nat)) ∧ ∃ k, w' = w.drewN k) := by
      show Calls _ _ _ _ _
      rw [hx]; exact inv_nat' HF.out.2.1 HF.out.1 (HF.out.2.2.el l) (HF.out.2.2.trd.2 (by omega))
    rw [← hx] at hc
    have HX : Hid (x = c l) := hx
    clear hx
    go_enter Try.func91, Try.ntmps91
    go_wp2_with (go_at_call 27; refine HI.out.mono ?_; rintro e w' ⟨rfl, d, rfl⟩)
    have HP : Calls Try.prog 89 #[.pointer (some ⟨F, 0, none⟩), .slice (some ⟨b, off, none⟩) (l + 1) cap, .slice (some ⟨w.heap.size, 0, none⟩) 1 1] ((w.drewN d).alloc (.cells #[.int .i64 (D.iv x : Nat)] 3)) fun e w' =>
        ∃ v, e = .returned v ∧ OwnP w.heap.size v (l + 1) (D.mon c (l + 1)) w' ∧ Below w.heap.size w w' := by
      have hbl : Below w.heap.size w ((w.drewN d).alloc (.cells #[.int .i64 (D.iv x : Nat)] 3)) := (below_drewN2 (Below.refl _ _) d).alloc (Nat.le_refl _) _
      have hF := fld HF.out.2.1
      have hp1 := HF.out.2.2.below hbl
      have hone : Sl (some ⟨w.heap.size, 0, none⟩) 1 (fun k => if k = 0 then D.iv x else 0) ((w.drewN d).alloc (.cells #[.int .i64 (D.iv x : Nat)] 3)) := fun j hj => ⟨w.heap.size, 0, rfl, by
        have h : ((w.drewN d).alloc (.cells #[.int .i64 (D.iv x : Nat)] 3)).heap[w.heap.size]? = some (.cells #[.int .i64 (D.iv x : Nat)] 3 (0, 0)) := two_new (w := w.drewN d) _
        rw [cell_of_row _ _ _ _ _ (0, 0) h, show j = 0 from by omega]; rfl⟩
      have h := product_any HF.out.2.1 (HF.out.1.below hbl HF.out.1.ltF HF.out.1.ltT) (ca := cap) (cb := 1) (show l + 1 ≤ 1000 by omega) (show 1 ≤ 1000 by omega) HF.out.2.2.el (fun k => by show (if k = 0 then D.iv x else 0) < D.q; split; exact iv_lt HF.out.2.1 _; exact zero_lt' hF)
        (fun k hk => by show (if k = 0 then D.iv x else 0) = 0; rw [if_neg (by omega)]) hp1.sl hone hp1.lt (fun y hy => by cases hy; simp)
      have hm : pmul D (l + 1) c (fun k => if k = 0 then D.iv x else 0) = D.mon c (l + 1) := by
        rw [pmul_const hF HF.out.2.2.el HF.out.2.2.trd.1 (iv_lt HF.out.2.1 _), HX.out]; rfl
      rw [hm, (mon_trd HF.out.2.1 HF.out.2.2.el HF.out.2.2.trd).dgn (show l + 1 ≤ l + 1 + 1 by omega)] at h
      refine h.mono ?_
      rintro e w' ⟨rfl, hrow, hb'⟩
      exact ⟨_, rfl, OwnP.of_row hrow (by omega) (by omega) (by omega) (by simp), bel_up hbl hb'⟩
    refine HP.mono ?_
    rintro e w2 ⟨v, rfl, hown, hb2⟩
    have HR : Hid (OwnP w.heap.size v (l + 1) (D.mon c (l + 1)) w2 ∧ Below w.heap.size w w2) := ⟨hown, hb2⟩
    clear hown hb2 HP
    go_wp2
    go_ret
    exact ⟨v, rfl, HR.out.1, HR.out.2⟩

set_option maxHeartbeats 2000000 in
set_option maxRecDepth 100000 in
theorem gcd_none (q : Int) (h : ∀ D ∈ fieldsL, (D.q : Int) ≠ q) (ao bo : Option Addr) (n m ca cb : Nat) (w : World) :
    Calls Try.prog 55 #[.int .i64 q, .slice ao n ca, .slice bo m cb] w fun e w' => e = .returned (.tuple #[.slice none 0 0, .int .i64 1]) ∧ Below w.heap.size w w' := by
  have HB : Hid (∀ D ∈ fieldsL, (D.q : Int) ≠ q) := h
  clear h
  go_enter Try.func55, Try.ntmps55
  go_wp2_with fail
  refine (over_none q HB.out _ 2 2 _ _ (by omega) (cell_of_row _ _ _ _ _ (0, 0) (two_new _))).mono ?_
  rintro e w' ⟨rfl, rfl⟩
  go_wp2
  go_ret2
  exact ⟨rfl, (Below.refl _ _).alloc (Nat.le_refl _) _⟩

/-- A slice's length. -/
def slLen : Value → Nat
  | .slice _ n _ => n
  | _ => 0

/-- The common divisor of two lists that may be. -/
def FD.gcdL (D : FD) (n : Nat) (z : Nat → Int) (m : Nat) (y : Nat → Int) : (Nat → Nat) × Nat := D.gcd m (zc n z) (dgn (zc n z) n) (zc m y) (dgn (zc m y) m)

set_option maxHeartbeats 4000000 in
set_option maxRecDepth 100000 in
theorem gcd_any {D : FD} (hD : D ∈ fieldsL) {ao bo : Option Addr} {n m ca cb : Nat} {z y : Nat → Int} {w : World} (ha : Arg ao n ca z w) (hb : Arg bo m cb y w) :
    Calls Try.prog 55 #[.int .i64 D.q, .slice ao n ca, .slice bo m cb] w fun e w' => Below w.heap.size w w' ∧
      ((D.chk2 n z m y = 0 ∧ ∃ v, e = .returned (.tuple #[v, .int .i64 0]) ∧ OwnP w.heap.size v (D.gcdL n z m y).2 (D.mon (D.gcdL n z m y).1 (D.gcdL n z m y).2) w') ∨ (D.chk2 n z m y ≠ 0 ∧ e = .returned (.tuple #[.slice none 0 0, .int .i64 (D.chk2 n z m y)]))) := by
  have HA : Hid (Arg ao n ca z w ∧ Arg bo m cb y w ∧ D ∈ fieldsL) := ⟨ha, hb, hD⟩
  clear ha hb hD
  obtain ⟨G, hG⟩ : ∃ G, G = D.gcdL n z m y := ⟨_, rfl⟩
  rw [← hG]
  have HGG : Hid (G = D.gcdL n z m y) := hG
  clear hG
  go_enter Try.func55, Try.ntmps55
  go_wp2_with fail
  refine (over2_any HA.out.2.2 HA.out.1 HA.out.2.1).mono ?_
  rintro e w1 ⟨hb1, hr⟩
  rcases hr with ⟨h0, F, T, f, rfl, hat, hF, hT⟩ | ⟨h0, rfl⟩
  · have HW : Hid (D.chk2 n z m y = 0 ∧ FAt F T D f w1 ∧ Below w.heap.size w w1 ∧ Arg ao n ca z w1 ∧ Arg bo m cb y w1) := ⟨h0, hat, hb1, HA.out.1.below hb1, HA.out.2.1.below hb1⟩
    clear h0 hat hF hT hb1
    have c0 := chk2_zero HW.out.1
    have hn128 := (chk_zero c0.1).1
    have hm128 := (chk_zero c0.2).1
    have HN : Hid (D.chk n z = 0 ∧ D.chk m y = 0) := c0
    clear c0
    go_wp2_with fail
    refine (trims_ok HN.out.1 HW.out.2.2.2.1).mono ?_
    rintro e w' ⟨rfl, k1, rfl⟩
    go_wp2_with fail
    refine (trims_ok HN.out.2 (w := w1.drewN k1) ⟨HW.out.2.2.2.2.sl, HW.out.2.2.2.2.lt, HW.out.2.2.2.2.few, HW.out.2.2.2.2.nil, HW.out.2.2.2.2.le, HW.out.2.2.2.2.cap⟩).mono ?_
    rintro e w' ⟨rfl, k2, rfl⟩
    go_wp2
    go_loopw [1, 2] (fun va vb wr => ∃ (k n1 m1 c1 c2 : Nat) (a1 b1 : Option Addr) (p r : Nat → Nat), va = .slice a1 n1 c1 ∧ vb = .slice b1 m1 c2 ∧ n1 ≤ 128 ∧ m1 ≤ 128 ∧ Hid (m1 ≤ k ∧ D.gcd k p n1 r m1 = G) ∧ PA D a1 n1 c1 p wr ∧ PA D b1 m1 c2 r wr ∧ Below w1.heap.size w1 wr) (fun _ vb _ => slLen vb)
    case atStart =>
      have hF := fld HA.out.2.2
      have d1 := dgn_le (zc n z) n
      have d2 := dgn_le (zc m y) m
      refine ⟨m, dgn (zc n z) n, dgn (zc m y) m, ca, cb, ao, bo, zc n z, zc m y, rfl, rfl, by omega, by omega, ⟨d2, HGG.out.symm⟩, ?_, ?_, below_drewN2 (Below.refl _ _) _⟩
      · exact ⟨(zc_sl HN.out.1 HW.out.2.2.2.1.sl).less d1, HW.out.2.2.2.1.lt, HW.out.2.2.2.1.nil, zc_el hF HN.out.1, trd_dgn (zc_bd _ _)⟩
      · exact ⟨(zc_sl HN.out.2 HW.out.2.2.2.2.sl).less d2, HW.out.2.2.2.2.lt, HW.out.2.2.2.2.nil, zc_el hF HN.out.2, trd_dgn (zc_bd _ _)⟩
    case round =>
      obtain ⟨k, n1, m1, c1, c2, a1, b1, p, r, rfl, rfl, hn1, hm1, HK, hpa, hpb, hbel⟩ := hrel
      have HG : Hid (PA D a1 n1 c1 p wr ∧ PA D b1 m1 c2 r wr ∧ Below w1.heap.size w1 wr) := ⟨hpa, hpb, hbel⟩
      clear hpa hpb hbel
      by_cases hm0 : m1 = 0
      · have hz : ¬ (0 : Int) < (m1 : Int) := by omega
        have HE : Hid (G = (p, n1)) := by
          have h := HK.out.2
          rw [hm0, gcd_nil] at h; exact h.symm
        have HM : Hid (Calls Try.prog 91 #[.pointer (some ⟨F, 0, none⟩), .slice a1 n1 c1] wr fun e w' => ∃ v, e = .returned v ∧ OwnP wr.heap.size v n1 (D.mon p n1) w' ∧ Below wr.heap.size wr w') :=
          monic_any HA.out.2.2 (HW.out.2.1.below HG.out.2.2 HW.out.2.1.ltF HW.out.2.1.ltT) (by omega) HG.out.1
        clear hm0
        go_wp2_with fail
        refine HM.out.mono ?_
        rintro e w2 ⟨v, rfl, hown, hb2⟩
        have hs1 := HW.out.2.2.1.size
        have hs2 := HG.out.2.2.size
        have HR : Hid (OwnP w.heap.size v n1 (D.mon p n1) w2 ∧ Below w.heap.size w w2) := ⟨hown.mono (by omega), bel_up (bel_up HW.out.2.2.1 HG.out.2.2) hb2⟩
        clear hown hb2
        go_wp2
        go_ret2
        exact ⟨HR.out.2, Or.inl ⟨HW.out.1, v, rfl, by rw [HE.out]; exact HR.out.1⟩⟩
      · obtain ⟨l, rfl⟩ : ∃ l, m1 = l + 1 := ⟨m1 - 1, by omega⟩
        obtain ⟨k', rfl⟩ : ∃ k', k = k' + 1 := ⟨k - 1, by have := HK.out.1; omega⟩
        have HV : Hid (Calls Try.prog 90 #[.pointer (some ⟨F, 0, none⟩), .slice a1 n1 c1, .slice b1 (l + 1) c2] wr fun e w' =>
            ∃ vq vr, e = .returned (.tuple #[vq, vr]) ∧ OwnP wr.heap.size vr (dgn (D.rem p n1 r (l + 1)) n1) (D.rem p n1 r (l + 1)) w' ∧ Below wr.heap.size wr w') := by
          refine (divide_any HA.out.2.2 (HW.out.2.1.below HG.out.2.2 HW.out.2.1.ltF HW.out.2.1.ltT) (by omega) (by omega) HG.out.1.el HG.out.2.1.el HG.out.1.trd.1 HG.out.2.1.trd.1 (HG.out.2.1.trd.2 (by omega)) HG.out.1.sl HG.out.2.1.sl HG.out.1.lt HG.out.2.1.lt HG.out.1.nil).mono ?_
          rintro e w' ⟨vq, vr, rfl, _, hor, hb'⟩
          exact ⟨vq, vr, rfl, hor, hb'⟩
        have HL : Hid (dgn (D.rem p n1 r (l + 1)) n1 ≤ l ∧ Trd (dgn (D.rem p n1 r (l + 1)) n1) (D.rem p n1 r (l + 1)) ∧ El D (D.rem p n1 r (l + 1)) ∧ D.gcd k' r (l + 1) (D.rem p n1 r (l + 1)) (dgn (D.rem p n1 r (l + 1)) n1) = G) :=
          ⟨rem_len HA.out.2.2 HG.out.1.el HG.out.2.1.el HG.out.1.trd.1 HG.out.2.1.trd (by omega), rem_trd HA.out.2.2 HG.out.1.el HG.out.2.1.el HG.out.1.trd.1 HG.out.2.1.trd (by omega), rem_el HA.out.2.2 HG.out.1.el, by rw [← gcd_step D p n1 r (l + 1) k' (by omega)]; exact HK.out.2⟩
        have hk' : l + 1 ≤ k' + 1 := HK.out.1
        clear hm0 HK
        go_wp2_with fail
        refine HV.out.mono ?_
        rintro e w2 ⟨vq, vr, rfl, hor, hb2⟩
        obtain ⟨r1, rc1, rfl, hpa⟩ := hor.pa HL.out.2.2.1 HL.out.2.1
        have HR : Hid (PA D r1 (dgn (D.rem p n1 r (l + 1)) n1) rc1 (D.rem p n1 r (l + 1)) w2 ∧ PA D b1 (l + 1) c2 r w2 ∧ Below w1.heap.size w1 w2) := ⟨hpa, HG.out.2.1.below hb2, bel_up HG.out.2.2 hb2⟩
        clear hor hpa hb2 HV
        go_wp2
        go_roundw
        case rel => exact ⟨k', l + 1, _, c2, rc1, b1, r1, r, D.rem p n1 r (l + 1), rfl, rfl, by omega, by have := HL.out.1; omega, ⟨by have := HL.out.1; omega, HL.out.2.2.2⟩, HR.out.2.1, HR.out.1, HR.out.2.2⟩
        case measure =>
          show dgn (D.rem p n1 r (l + 1)) n1 < l + 1
          have := HL.out.1
          omega
  · have HW : Hid (D.chk2 n z m y ≠ 0 ∧ Below w.heap.size w w1) := ⟨h0, hb1⟩
    obtain ⟨e, he⟩ : ∃ e, e = D.chk2 n z m y := ⟨_, rfl⟩
    rw [← he] at h0 ⊢
    have hz : (e != 0) = true := by rw [bne_iff_ne]; exact h0
    have HE : Hid (e = D.chk2 n z m y) := he
    clear h0 hb1 he
    go_wp2
    go_ret2
    exact ⟨HW.out.2, Or.inr ⟨HW.out.1, by rw [← HE.out]; rfl⟩⟩
end Go.Proofs.Ythmjdcajaoilgaa

/- How many there are to try (tooMany, Tries). -/
namespace Go.Proofs.Ythmjdcajaoilgaa
open Go.RowKit

theorem pow_big {q i p : Nat} (hq : 1 ≤ q) (h : 4096 < q ^ i) (hp : i ≤ p) : 4096 < q ^ p := Nat.lt_of_lt_of_le h (Nat.pow_le_pow_right hq hp)

set_option maxHeartbeats 1000000 in
theorem tooMany_any (q p : Nat) (w : World) (hq : 1 ≤ q) (hq2 : q ≤ 64) (hp : p ≤ 1000) :
    Calls Try.prog 124 #[.int .i64 q, .int .i64 p] w fun e w' => e = .returned (.bool (decide (4096 < q ^ p))) ∧ w' = w := by
  go_enter Try.func124, Try.ntmps124
  go_wp2
  go_loop [5, 7] (fun x i => ∃ j y : Nat, j ≤ p ∧ y ≤ 4096 ∧ i = .int .i64 j ∧ x = .int .i64 y ∧ Hid (y = q ^ j)) (fun _ i => p - (intOf i).toNat)
  case atStart => exact ⟨0, 1, by omega, by omega, rfl, rfl, rfl⟩
  case round =>
    obtain ⟨j, y, hj, hy, rfl, rfl, HY⟩ := hrel
    by_cases hlt : j < p
    · have h1 : y * q ≤ 4096 * 64 := Nat.mul_le_mul hy hq2
      have h2 : (y : Int) * (q : Int) ≤ 262144 := by rw [← Int.natCast_mul]; omega
      have h3 : 0 ≤ (y : Int) * (q : Int) := by rw [← Int.natCast_mul]; omega
      have HP : Hid (y * q = q ^ (j + 1)) := by show _ = _; rw [HY.out, Nat.pow_succ]
      by_cases hbig : 4096 < y * q
      · have hb : (4096 : Int) < (y : Int) * (q : Int) := by rw [← Int.natCast_mul]; omega
        have HV : Hid (decide (4096 < q ^ p) = true) := decide_eq_true (pow_big hq (by rw [← HP.out]; exact hbig) hlt)
        go_wp2
        go_ret
        exact ⟨ret_bool HV.out.symm, rfl⟩
      · have hb : ¬ (4096 : Int) < (y : Int) * (q : Int) := by rw [← Int.natCast_mul]; omega
        go_wp2
        go_round
        case rel => exact ⟨j + 1, y * q, by omega, by omega, by go_num, by go_num, HP.out⟩
        case measure => simp [intOf]; omega
    · have HV : Hid (decide (4096 < q ^ p) = false) := decide_eq_false (by rw [show p = j from by omega, ← HY.out]; omega)
      go_wp2
      go_ret
      exact ⟨ret_bool HV.out.symm, rfl⟩

set_option maxHeartbeats 1000000 in
theorem tries_any (q d : Nat) (w : World) (hq : 1 ≤ q) (hq2 : q ≤ 64) (hd : d ≤ 1000) :
    Calls Try.prog 95 #[.int .i64 q, .int .i64 d] w fun e w' => e = .returned (.bool (decide (q ^ (d / 2) ≤ 4096))) ∧ w' = w := by
  obtain ⟨p, hp⟩ : ∃ p, p = d / 2 := ⟨_, rfl⟩
  rw [← hp]
  have HPD : Hid (p = d / 2) := hp
  have hp2 : p ≤ 500 := by omega
  clear hp
  go_enter Try.func95, Try.ntmps95
  go_wp2
  go_loop [5, 6] (fun x i => ∃ j y : Nat, j ≤ p ∧ y ≤ 4096 ∧ i = .int .i64 j ∧ x = .int .i64 y ∧ Hid (y = q ^ j)) (fun _ i => p - (intOf i).toNat)
  case atStart => exact ⟨0, 1, by omega, by omega, rfl, rfl, rfl⟩
  case round =>
    obtain ⟨j, y, hj, hy, rfl, rfl, HY⟩ := hrel
    by_cases hlt : j < p
    · have h1 : y * q ≤ 4096 * 64 := Nat.mul_le_mul hy hq2
      have h2 : (y : Int) * (q : Int) ≤ 262144 := by rw [← Int.natCast_mul]; omega
      have h3 : 0 ≤ (y : Int) * (q : Int) := by rw [← Int.natCast_mul]; omega
      have hlt2 : (j : Int) < (d : Int) / 2 := by have := HPD.out; omega
      have HP : Hid (y * q = q ^ (j + 1)) := by show _ = _; rw [HY.out, Nat.pow_succ]
      by_cases hbig : 4096 < y * q
      · have hb : (4096 : Int) < (y : Int) * (q : Int) := by rw [← Int.natCast_mul]; omega
        have HV : Hid (decide (q ^ p ≤ 4096) = false) := decide_eq_false (by have := pow_big hq (by rw [← HP.out]; exact hbig) hlt; omega)
        go_wp2
        go_ret
        exact ⟨ret_bool HV.out.symm, rfl⟩
      · have hb : ¬ (4096 : Int) < (y : Int) * (q : Int) := by rw [← Int.natCast_mul]; omega
        go_wp2
        go_round
        case rel => exact ⟨j + 1, y * q, by omega, by omega, by go_num, by go_num, HP.out⟩
        case measure => simp [intOf]; omega
    · have HV : Hid (decide (q ^ p ≤ 4096) = true) := decide_eq_true (by rw [show p = j from by omega, ← HY.out]; omega)
      have hlt2 : ¬ (j : Int) < (d : Int) / 2 := by have := HPD.out; omega
      go_wp2
      go_ret
      exact ⟨ret_bool HV.out.symm, rfl⟩
end Go.Proofs.Ythmjdcajaoilgaa

/- Does an element stand twice in a list (hasTwice)? -/
namespace Go.Proofs.Ythmjdcajaoilgaa
open Go.RowKit

/-- Some number stands twice among the first n. -/
def Twice (c : Nat → Nat) (n : Nat) : Prop := ∃ i j, i < j ∧ j < n ∧ c i = c j

set_option maxHeartbeats 2000000 in
set_option maxRecDepth 100000 in
theorem hasTwice_any {ao : Option Addr} {n cap : Nat} {c : Nat → Nat} {w : World} (h : Sl ao n c w) (hn : n ≤ 1000) (hl : LtB ao w.heap.size) (hc : ∀ j, c j < 64) :
    Calls Try.prog 126 #[.slice ao n cap] w fun e w' => (∃ b, e = .returned (.bool b) ∧ (b = true ↔ Twice c n)) ∧ Below w.heap.size w w' := by
  have HS : Hid (Sl ao n c w ∧ LtB ao w.heap.size ∧ ∀ j, c j < 64) := ⟨h, hl, hc⟩
  clear h hl hc
  go_enter Try.func126, Try.ntmps126
  go_wp2
  change Code.wp _ _ _ _ (w.alloc (.cells (Array.replicate 64 (.bool false)) 125))
  obtain ⟨w1, hw1⟩ : ∃ w1 : World, w1 = w.alloc (.cells (Array.replicate 64 (.bool false)) 125) := ⟨_, rfl⟩
  have HR1 : Hid (RowF w.heap.size 64 125 (fun _ => .bool false) w1 ∧ Below w.heap.size w w1) := by
    rw [hw1]
    refine ⟨⟨_, two_new _, by simp, fun o ho => by simp [ho]⟩, (Below.refl _ _).alloc (Nat.le_refl _) _⟩
  rw [← hw1]
  clear hw1
  go_loopw [8] (fun i wr => ∃ (r : Nat) (f : Nat → Value), r ≤ n ∧ i = .int .i64 r ∧ RowF w.heap.size 64 125 f wr ∧ (∀ x, x < 64 → f x = .bool (decide (∃ i, i < r ∧ c i = x))) ∧ ¬ Twice c r ∧ Below w.heap.size w wr) (fun i _ => n - (intOf i).toNat)
  case atStart => exact ⟨0, _, by omega, rfl, HR1.out.1, fun x _ => by rw [decide_eq_false (by rintro ⟨i, hi, _⟩; omega)], by rintro ⟨i, j, h1, h2, _⟩; omega, HR1.out.2⟩
  case round =>
    obtain ⟨r, f, hr, rfl, hrow, hf, hnt, hbel⟩ := hrel
    have HG : Hid (RowF w.heap.size 64 125 f wr ∧ (∀ x, x < 64 → f x = .bool (decide (∃ i, i < r ∧ c i = x))) ∧ ¬ Twice c r ∧ Below w.heap.size w wr) := ⟨hrow, hf, hnt, hbel⟩
    clear hrow hf hnt hbel
    by_cases hlt : r < n
    · obtain ⟨b, off, rfl, hcx⟩ := (HS.out.1.below HG.out.2.2.2 HS.out.2.1) r hlt
      obtain ⟨x, hx⟩ : ∃ x, x = c r := ⟨_, rfl⟩
      have hx64 : x < 64 := by rw [hx]; exact HS.out.2.2 r
      rw [← hx] at hcx
      have hfr := HG.out.1.free x
      by_cases hseen : ∃ i, i < r ∧ c i = x
      · have hcs : wr.cell? ⟨w.heap.size, x, none⟩ = some (.bool true) := by rw [HG.out.1.cell x (by omega), HG.out.2.1 x hx64, decide_eq_true hseen]
        have HT : Hid (Twice c n) := by
          obtain ⟨i, hi, e⟩ := hseen
          exact ⟨i, r, hi, hlt, by rw [e, hx]⟩
        clear hseen hx
        go_wp2
        go_ret
        exact ⟨⟨true, rfl, fun _ => HT.out, fun _ => rfl⟩, HG.out.2.2.2⟩
      · have hcs : wr.cell? ⟨w.heap.size, x, none⟩ = some (.bool false) := by rw [HG.out.1.cell x (by omega), HG.out.2.1 x hx64, decide_eq_false hseen]
        have HN : Hid (¬ Twice c (r + 1) ∧ ∀ y, y < 64 → upd f x (.bool true) y = .bool (decide (∃ i, i < r + 1 ∧ c i = y))) := by
          refine ⟨?_, fun y hy => ?_⟩
          · rintro ⟨i, j, h1, h2, e⟩
            by_cases ej : j = r
            · exact hseen ⟨i, by omega, by rw [e, ej, hx]⟩
            · exact HG.out.2.2.1 ⟨i, j, h1, by omega, e⟩
          · by_cases ey : y = x
            · rw [ey, upd_at, decide_eq_true ⟨r, by omega, hx.symm⟩]
            · rw [upd_ne _ _ _ ey, HG.out.2.1 y hy]
              congr 1
              rw [decide_eq_decide]
              constructor
              · rintro ⟨i, hi, e⟩; exact ⟨i, by omega, e⟩
              · rintro ⟨i, hi, e⟩
                by_cases ei : i = r
                · exact absurd (by rw [← e, ei, hx]) ey
                · exact ⟨i, by omega, e⟩
        clear hseen hx
        go_wp2
        go_roundw
        case rel => exact ⟨r + 1, _, by omega, by go_num, HG.out.1.store x _, HN.out.2, HN.out.1, HG.out.2.2.2.setCell (by simp) _⟩
        case measure => simp [intOf]; omega
    · have HT : Hid (¬ Twice c n) := by have h := HG.out.2.2.1; rw [show r = n from by omega] at h; exact h
      go_wp2
      go_ret
      exact ⟨⟨false, rfl, fun e => (by cases e), fun e => absurd e HT.out⟩, HG.out.2.2.2⟩
end Go.Proofs.Ythmjdcajaoilgaa
