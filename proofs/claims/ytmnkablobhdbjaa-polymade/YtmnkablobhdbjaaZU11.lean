/- Texts of ours, one behind the other: U11 U12 U13. -/
import Derived.Test.YtmnkablobhdbjaaZU9
/- The program's polynomials: the calls that are listed: Mul, Div, At. -/
namespace Go.Proofs.Ytmnkablobhdbjaa
open Go.RowKit

set_option maxHeartbeats 2000000 in
set_option maxRecDepth 100000 in
theorem pmul_none (q : Int) (h : ∀ D ∈ fieldsL, (D.q : Int) ≠ q) (ao bo : Option Addr) (n m ca cb : Nat) (w : World) :
    Calls Try.prog 54 #[.int .i64 q, .slice ao n ca, .slice bo m cb] w fun e w' => e = .returned (.tuple #[.slice none 0 0, .int .i64 1]) ∧ Below w.heap.size w w' := by
  have HB : Hid (∀ D ∈ fieldsL, (D.q : Int) ≠ q) := h
  clear h
  go_enter Try.func54, Try.ntmps54
  go_wp2_with fail
  refine (over_none q HB.out _ 2 2 _ _ (by omega) (cell_of_row _ _ _ _ _ (0, 0) (two_new _))).mono ?_
  rintro e w' ⟨rfl, rfl⟩
  go_wp2
  go_ret2
  exact ⟨rfl, (Below.refl _ _).alloc (Nat.le_refl _) _⟩

/-- Both lists, once they may be: over the field D, without noughts at the end. -/
theorem trims_ok {D : FD} {ao : Option Addr} {n cap : Nat} {z : Nat → Int} {w : World} (h : D.chk n z = 0) (ha : Arg ao n cap z w) :
    Calls Try.prog 82 #[.slice ao n cap] w fun e w' => e = .returned (.slice ao (dgn (zc n z) n) cap) ∧ ∃ k, w' = w.drewN k :=
  trim_any (zc_sl h ha.sl) ha.le ha.cap

set_option maxHeartbeats 4000000 in
set_option maxRecDepth 100000 in
theorem pmul_any {D : FD} (hD : D ∈ fieldsL) {ao bo : Option Addr} {n m ca cb : Nat} {z y : Nat → Int} {w : World} (ha : Arg ao n ca z w) (hb : Arg bo m cb y w) :
    Calls Try.prog 54 #[.int .i64 D.q, .slice ao n ca, .slice bo m cb] w fun e w' => Below w.heap.size w w' ∧
      ((D.chk2 n z m y = 0 ∧ dgn (zc n z) n + dgn (zc m y) m ≤ 129 ∧ ∃ v, e = .returned (.tuple #[v, .int .i64 0]) ∧ OwnP w.heap.size v (dgn (pmul D n (zc n z) (zc m y)) (dgn (zc n z) n + dgn (zc m y) m)) (pmul D n (zc n z) (zc m y)) w') ∨
       (D.chk2 n z m y = 0 ∧ 129 < dgn (zc n z) n + dgn (zc m y) m ∧ e = .returned (.tuple #[.slice none 0 0, .int .i64 4])) ∨ (D.chk2 n z m y ≠ 0 ∧ e = .returned (.tuple #[.slice none 0 0, .int .i64 (D.chk2 n z m y)]))) := by
  have HA : Hid (Arg ao n ca z w ∧ Arg bo m cb y w ∧ D ∈ fieldsL) := ⟨ha, hb, hD⟩
  clear ha hb hD
  obtain ⟨n', hn'⟩ : ∃ n', n' = dgn (zc n z) n := ⟨_, rfl⟩
  obtain ⟨m', hm'⟩ : ∃ m', m' = dgn (zc m y) m := ⟨_, rfl⟩
  have hn1 : n' ≤ n := by rw [hn']; exact dgn_le _ _
  have hm1 : m' ≤ m := by rw [hm']; exact dgn_le _ _
  rw [← hn', ← hm']
  have HN0 : Hid (n' = dgn (zc n z) n ∧ m' = dgn (zc m y) m) := ⟨hn', hm'⟩
  clear hn' hm'
  go_enter Try.func54, Try.ntmps54
  go_wp2_with fail
  refine (over2_any HA.out.2.2 HA.out.1 HA.out.2.1).mono ?_
  rintro e w1 ⟨hb1, hr⟩
  rcases hr with ⟨h0, F, T, f, rfl, hat, hF, hT⟩ | ⟨h0, rfl⟩
  · have HW : Hid (D.chk2 n z m y = 0 ∧ FAt F T D f w1 ∧ Below w.heap.size w w1 ∧ Arg ao n ca z w1 ∧ Arg bo m cb y w1) := ⟨h0, hat, hb1, HA.out.1.below hb1, HA.out.2.1.below hb1⟩
    clear h0 hat hF hT hb1
    have c0 := chk2_zero HW.out.1
    have hn128 := (chk_zero c0.1).1
    have hm128 := (chk_zero c0.2).1
    have HN : Hid (n' = dgn (zc n z) n ∧ m' = dgn (zc m y) m ∧ D.chk n z = 0 ∧ D.chk m y = 0) := ⟨HN0.out.1, HN0.out.2, c0⟩
    clear c0
    go_wp2_with fail
    refine (trims_ok HN.out.2.2.1 HW.out.2.2.2.1).mono ?_
    rintro e w' ⟨rfl, k1, rfl⟩
    rw [← HN.out.1]
    go_wp2_with fail
    refine (trims_ok HN.out.2.2.2 (w := w1.drewN k1) ⟨HW.out.2.2.2.2.sl, HW.out.2.2.2.2.lt, HW.out.2.2.2.2.few, HW.out.2.2.2.2.nil, HW.out.2.2.2.2.le, HW.out.2.2.2.2.cap⟩).mono ?_
    rintro e w' ⟨rfl, k2, rfl⟩
    rw [← HN.out.2.1]
    by_cases hbig : 129 < n' + m'
    · go_wp2
      go_ret2
      exact ⟨below_drewN2 HW.out.2.2.1 _, Or.inr (Or.inl ⟨HW.out.1, hbig, rfl⟩)⟩
    · have hF := fld HA.out.2.2
      have HP : Hid (∀ d, Calls Try.prog 83 #[.pointer (some ⟨F, 0, none⟩), .slice ao n' ca, .slice bo m' cb] (w1.drewN d) fun e w' =>
          e = .returned (.slice (some ⟨w1.heap.size, 0, none⟩) (dgn (pmul D n (zc n z) (zc m y)) (n' + m')) (n' + m')) ∧ Row w1.heap.size (n' + m') (pmul D n (zc n z) (zc m y)) w' ∧ Below w1.heap.size (w1.drewN d) w') := by
        intro d
        have b1 : Bd n' (zc n z) := by rw [HN.out.1]; exact dgn_bd (zc_bd _ _)
        have b2 : Bd m' (zc m y) := by rw [HN.out.2.1]; exact dgn_bd (zc_bd _ _)
        have h := product_any HA.out.2.2 (HW.out.2.1.drewN d) (ca := ca) (cb := cb) (show n' ≤ 1000 by omega) (show m' ≤ 1000 by omega) (zc_el hF HN.out.2.2.1) (zc_el hF HN.out.2.2.2) b2 ((zc_sl HN.out.2.2.1 HW.out.2.2.2.1.sl).less hn1) ((zc_sl HN.out.2.2.2 HW.out.2.2.2.2.sl).less hm1) HW.out.2.2.2.1.lt HW.out.2.2.2.2.lt
        rw [← pmul_to hF (zc m y) b1 hn1] at h
        exact h
      clear hF
      go_wp2_with fail
      refine (HP.out _).mono ?_
      rintro e w2 ⟨rfl, hrow, hb2⟩
      have hs := HW.out.2.2.1.size
      have HR : Hid (Row w1.heap.size (n' + m') (pmul D n (zc n z) (zc m y)) w2 ∧ Below w.heap.size w w2) := ⟨hrow, bel_up (below_drewN2 HW.out.2.2.1 _) hb2⟩
      clear hrow hb2
      go_wp2
      go_ret2
      exact ⟨HR.out.2, Or.inl ⟨HW.out.1, by omega, _, rfl, OwnP.of_row HR.out.1 (dgn_le _ _) (dgn_le _ _) (by omega) hs⟩⟩
  · have HW : Hid (D.chk2 n z m y ≠ 0 ∧ Below w.heap.size w w1) := ⟨h0, hb1⟩
    obtain ⟨e, he⟩ : ∃ e, e = D.chk2 n z m y := ⟨_, rfl⟩
    rw [← he] at h0 ⊢
    have hz : (e != 0) = true := by rw [bne_iff_ne]; exact h0
    have HE : Hid (e = D.chk2 n z m y) := he
    clear h0 hb1 he
    go_wp2
    go_ret2
    exact ⟨HW.out.2, Or.inr (Or.inr ⟨HW.out.1, by rw [← HE.out]; rfl⟩)⟩
end Go.Proofs.Ytmnkablobhdbjaa

/- The program's polynomials: the calls that are listed: Div, At. -/
namespace Go.Proofs.Ytmnkablobhdbjaa
open Go.RowKit

set_option maxHeartbeats 2000000 in
set_option maxRecDepth 100000 in
theorem pdiv_none (q : Int) (h : ∀ D ∈ fieldsL, (D.q : Int) ≠ q) (ao bo : Option Addr) (n m ca cb : Nat) (w : World) :
    Calls Try.prog 56 #[.int .i64 q, .slice ao n ca, .slice bo m cb] w fun e w' => e = .returned (.tuple #[.slice none 0 0, .slice none 0 0, .int .i64 1]) ∧ Below w.heap.size w w' := by
  have HB : Hid (∀ D ∈ fieldsL, (D.q : Int) ≠ q) := h
  clear h
  go_enter Try.func56, Try.ntmps56
  go_wp2_with fail
  refine (over_none q HB.out _ 2 2 _ _ (by omega) (cell_of_row _ _ _ _ _ (0, 0) (two_new _))).mono ?_
  rintro e w' ⟨rfl, rfl⟩
  go_wp2
  go_ret3
  exact ⟨rfl, (Below.refl _ _).alloc (Nat.le_refl _) _⟩

/-- The quotient and the rest of two polynomials of n and m coefficients. -/
def FD.quo (D : FD) (a : Nat → Nat) (n : Nat) (b : Nat → Nat) (m : Nat) : Nat → Nat := divQ D b (dgn b m - 1) (D.iv (b (dgn b m - 1))) (n - (dgn b m - 1)) a
def FD.rst (D : FD) (a : Nat → Nat) (n : Nat) (b : Nat → Nat) (m : Nat) : Nat → Nat := divR D b (dgn b m - 1) (D.iv (b (dgn b m - 1))) (n - (dgn b m - 1)) a

set_option maxHeartbeats 4000000 in
set_option maxRecDepth 100000 in
theorem pdiv_any {D : FD} (hD : D ∈ fieldsL) {ao bo : Option Addr} {n m ca cb : Nat} {z y : Nat → Int} {w : World} (ha : Arg ao n ca z w) (hb : Arg bo m cb y w) :
    Calls Try.prog 56 #[.int .i64 D.q, .slice ao n ca, .slice bo m cb] w fun e w' => Below w.heap.size w w' ∧
      ((D.chk2 n z m y = 0 ∧ dgn (zc m y) m ≠ 0 ∧ ∃ v u, e = .returned (.tuple #[v, u, .int .i64 0]) ∧ OwnP w.heap.size v (dgn (D.quo (zc n z) n (zc m y) m) (n - (dgn (zc m y) m - 1))) (D.quo (zc n z) n (zc m y) m) w' ∧ OwnP w.heap.size u (dgn (D.rst (zc n z) n (zc m y) m) n) (D.rst (zc n z) n (zc m y) m) w') ∨
       (D.chk2 n z m y = 0 ∧ dgn (zc m y) m = 0 ∧ e = .returned (.tuple #[.slice none 0 0, .slice none 0 0, .int .i64 5])) ∨ (D.chk2 n z m y ≠ 0 ∧ e = .returned (.tuple #[.slice none 0 0, .slice none 0 0, .int .i64 (D.chk2 n z m y)]))) := by
  have HA : Hid (Arg ao n ca z w ∧ Arg bo m cb y w ∧ D ∈ fieldsL) := ⟨ha, hb, hD⟩
  clear ha hb hD
  unfold FD.quo FD.rst
  obtain ⟨m', hm'⟩ : ∃ m', m' = dgn (zc m y) m := ⟨_, rfl⟩
  have hm1 : m' ≤ m := by rw [hm']; exact dgn_le _ _
  rw [← hm']
  have HN0 : Hid (m' = dgn (zc m y) m) := hm'
  clear hm'
  go_enter Try.func56, Try.ntmps56
  go_wp2_with fail
  refine (over2_any HA.out.2.2 HA.out.1 HA.out.2.1).mono ?_
  rintro e w1 ⟨hb1, hr⟩
  rcases hr with ⟨h0, F, T, f, rfl, hat, hF, hT⟩ | ⟨h0, rfl⟩
  · have HW : Hid (D.chk2 n z m y = 0 ∧ FAt F T D f w1 ∧ Below w.heap.size w w1 ∧ Arg ao n ca z w1 ∧ Arg bo m cb y w1) := ⟨h0, hat, hb1, HA.out.1.below hb1, HA.out.2.1.below hb1⟩
    clear h0 hat hF hT hb1
    have c0 := chk2_zero HW.out.1
    have hn128 := (chk_zero c0.1).1
    have hm128 := (chk_zero c0.2).1
    have HN : Hid (m' = dgn (zc m y) m ∧ D.chk n z = 0 ∧ D.chk m y = 0) := ⟨HN0.out, c0⟩
    clear c0
    go_wp2_with fail
    refine (trims_ok HN.out.2.2 HW.out.2.2.2.2).mono ?_
    rintro e w' ⟨rfl, k1, rfl⟩
    rw [← HN.out.1]
    by_cases hm0 : m' = 0
    · have hz : ((m' : Int) == 0) = true := by rw [hm0]; rfl
      have HZ : Hid (m' = 0) := hm0
      clear hm0
      go_wp2
      go_ret3
      exact ⟨below_drewN2 HW.out.2.2.1 _, Or.inr (Or.inl ⟨HW.out.1, HZ.out, rfl⟩)⟩
    · obtain ⟨l, rfl⟩ : ∃ l, m' = l + 1 := ⟨m' - 1, by omega⟩
      have hF := fld HA.out.2.2
      have HP := fun d => divide_any HA.out.2.2 (HW.out.2.1.drewN d) (ca := ca) (cb := cb) (show n ≤ 1000 by omega) (show l < 1000 by omega) (zc_el hF HN.out.2.1) (zc_el hF HN.out.2.2) (zc_bd _ _) (by rw [HN.out.1]; exact dgn_bd (zc_bd _ _)) (by
        have h := dgn_top (zc m y) m (by rw [← HN.out.1]; omega)
        rw [← HN.out.1] at h; exact h) (zc_sl HN.out.2.1 HW.out.2.2.2.1.sl) ((zc_sl HN.out.2.2 HW.out.2.2.2.2.sl).less hm1) HW.out.2.2.2.1.lt HW.out.2.2.2.2.lt HW.out.2.2.2.1.nil
      clear hF
      go_wp2_with fail
      refine (HP _).mono ?_
      rintro e w2 ⟨vq, vr, rfl, hq, hr, hb2⟩
      have hs := HW.out.2.2.1.size
      have HR : Hid (OwnP w.heap.size vq (dgn (divQ D (zc m y) l (D.iv (zc m y l)) (n - l) (zc n z)) (n - l)) (divQ D (zc m y) l (D.iv (zc m y l)) (n - l) (zc n z)) w2 ∧ OwnP w.heap.size vr (dgn (divR D (zc m y) l (D.iv (zc m y l)) (n - l) (zc n z)) n) (divR D (zc m y) l (D.iv (zc m y l)) (n - l) (zc n z)) w2 ∧ Below w.heap.size w w2) := ⟨hq.mono hs, hr.mono hs, bel_up (below_drewN2 HW.out.2.2.1 _) hb2⟩
      clear hq hr hb2 HP
      go_wp2
      go_ret3
      exact ⟨HR.out.2.2, Or.inl ⟨HW.out.1, by omega, vq, vr, rfl, HR.out.1, HR.out.2.1⟩⟩
  · have HW : Hid (D.chk2 n z m y ≠ 0 ∧ Below w.heap.size w w1) := ⟨h0, hb1⟩
    obtain ⟨e, he⟩ : ∃ e, e = D.chk2 n z m y := ⟨_, rfl⟩
    rw [← he] at h0 ⊢
    have hz : (e != 0) = true := by rw [bne_iff_ne]; exact h0
    have HE : Hid (e = D.chk2 n z m y) := he
    clear h0 hb1 he
    go_wp2
    go_ret3
    exact ⟨HW.out.2, Or.inr (Or.inr ⟨HW.out.1, by rw [← HE.out]; rfl⟩)⟩
end Go.Proofs.Ytmnkablobhdbjaa

/- The program's polynomials: the calls that are listed: At, Roots. -/
namespace Go.Proofs.Ytmnkablobhdbjaa
open Go.RowKit

theorem arg_one (x : Int) (w : World) : Arg (some ⟨w.heap.size, 0, none⟩) 1 1 (fun _ => x) (w.alloc (.cells #[.int .i64 x] 3)) := by
  refine ⟨fun j hj => ⟨w.heap.size, 0, rfl, ?_⟩, fun a ha => by cases ha; simp, by omega, fun e => (by cases e), Nat.le_refl _, by omega⟩
  rw [cell_of_row _ _ _ _ _ (0, 0) (two_new _), show j = 0 from by omega]; rfl

set_option maxHeartbeats 2000000 in
set_option maxRecDepth 100000 in
theorem pat_none (q : Int) (h : ∀ D ∈ fieldsL, (D.q : Int) ≠ q) (ao : Option Addr) (n ca : Nat) (x : Int) (w : World) :
    Calls Try.prog 87 #[.int .i64 q, .slice ao n ca, .int .i64 x] w fun e w' => e = .returned (.tuple #[.int .i64 0, .int .i64 1]) ∧ Below w.heap.size w w' := by
  have HB : Hid (∀ D ∈ fieldsL, (D.q : Int) ≠ q) := h
  clear h
  go_enter Try.func87, Try.ntmps87
  go_wp2_with fail
  have hc : ((w.alloc (.cells #[.int .i64 x] 3)).alloc (.cells #[.slice ao n ca, .slice (some ⟨w.heap.size, 0, none⟩) 1 1] 26)).cell? ⟨w.heap.size + 1, 0, none⟩ = some (.slice ao n ca) := by
    have h := two_new (w := w.alloc (.cells #[.int .i64 x] 3)) (.cells #[.slice ao n ca, .slice (some ⟨w.heap.size, 0, none⟩) 1 1] 26)
    rw [show (w.alloc (.cells #[.int .i64 x] 3)).heap.size = w.heap.size + 1 from by simp] at h
    rw [cell_of_row _ _ _ _ _ (0, 0) h]; rfl
  refine (over_none q HB.out _ 2 2 _ _ (by omega) hc).mono ?_
  rintro e w' ⟨rfl, rfl⟩
  clear hc
  go_wp2
  go_ret2
  exact ⟨rfl, ((Below.refl _ _).alloc (Nat.le_refl _) _).alloc (by simp) _⟩

theorem over_at {D : FD} (hD : D ∈ fieldsL) {ao : Option Addr} {n ca : Nat} {z : Nat → Int} (x : Int) {w : World} (ha : Arg ao n ca z w) :
    Calls Try.prog 80 #[.int .i64 D.q, .slice (some ⟨w.heap.size + 1, 0, none⟩) 2 2] ((w.alloc (.cells #[.int .i64 x] 3)).alloc (.cells #[.slice ao n ca, .slice (some ⟨w.heap.size, 0, none⟩) 1 1] 26)) fun e w' => Below w.heap.size w w' ∧
      ((D.chk2 n z 1 (fun _ => x) = 0 ∧ ∃ F T f, e = .returned (.tuple #[.pointer (some ⟨F, 0, none⟩), .int .i64 0]) ∧ FAt F T D f w') ∨ (D.chk2 n z 1 (fun _ => x) ≠ 0 ∧ e = .returned (.tuple #[.pointer none, .int .i64 (D.chk2 n z 1 (fun _ => x))]))) := by
  have hbl : Below w.heap.size w (w.alloc (.cells #[.int .i64 x] 3)) := (Below.refl _ _).alloc (Nat.le_refl _) _
  have HO := over2_any hD (ha.below hbl) (arg_one x w)
  have hsz : (w.alloc (.cells #[.int .i64 x] 3)).heap.size = w.heap.size + 1 := by simp
  rw [hsz] at HO
  refine HO.mono ?_
  rintro e w1 ⟨hb1, hr⟩
  rw [← hsz] at hb1
  refine ⟨bel_up hbl hb1, ?_⟩
  rcases hr with ⟨h0, F, T, f, rfl, hat, _, _⟩ | h
  · exact Or.inl ⟨h0, F, T, f, rfl, hat⟩
  · exact Or.inr h

set_option maxHeartbeats 4000000 in
set_option maxRecDepth 100000 in
theorem pat_any {D : FD} (hD : D ∈ fieldsL) {ao : Option Addr} {n ca : Nat} {z : Nat → Int} (x : Int) {w : World} (ha : Arg ao n ca z w) :
    Calls Try.prog 87 #[.int .i64 D.q, .slice ao n ca, .int .i64 x] w fun e w' => Below w.heap.size w w' ∧
      ((D.chk2 n z 1 (fun _ => x) = 0 ∧ e = .returned (.tuple #[.int .i64 (D.val (zc n z) n x.toNat n : Nat), .int .i64 0])) ∨ (D.chk2 n z 1 (fun _ => x) ≠ 0 ∧ e = .returned (.tuple #[.int .i64 0, .int .i64 (D.chk2 n z 1 (fun _ => x))]))) := by
  have HA : Hid (Arg ao n ca z w ∧ D ∈ fieldsL) := ⟨ha, hD⟩
  clear ha hD
  go_enter Try.func87, Try.ntmps87
  go_wp2_with fail
  refine (over_at HA.out.2 x HA.out.1).mono ?_
  rintro e w1 ⟨hb1, hr⟩
  rcases hr with ⟨h0, F, T, f, rfl, hat⟩ | ⟨h0, rfl⟩
  · have HW : Hid (D.chk2 n z 1 (fun _ => x) = 0 ∧ FAt F T D f w1 ∧ Below w.heap.size w w1 ∧ Arg ao n ca z w1) := ⟨h0, hat, hb1, HA.out.1.below hb1⟩
    clear h0 hat hb1
    have c0 := chk2_zero HW.out.1
    have hn128 := (chk_zero c0.1).1
    obtain ⟨y, hy, hyq⟩ := has_nat ((chk_zero c0.2).2 0 (by omega))
    have HN : Hid (D.chk n z = 0 ∧ D.chk 1 (fun _ => x) = 0 ∧ y < D.q) := ⟨c0.1, c0.2, hyq⟩
    have hx : x = (y : Int) := hy
    clear c0 hy hyq
    subst hx
    go_wp2_with fail
    refine (value_any HA.out.2 HW.out.2.1 HN.out.2.2 (by omega) (zc_el (fld HA.out.2) HN.out.1) (zc_sl HN.out.1 HW.out.2.2.2.sl)).mono ?_
    rintro e w' ⟨rfl, k, rfl⟩
    go_wp2
    go_ret2
    exact ⟨below_drewN2 HW.out.2.2.1 _, Or.inl ⟨HW.out.1, by rw [Int.toNat_natCast]; rfl⟩⟩
  · have HW : Hid (D.chk2 n z 1 (fun _ => x) ≠ 0 ∧ Below w.heap.size w w1) := ⟨h0, hb1⟩
    obtain ⟨e, he⟩ : ∃ e, e = D.chk2 n z 1 (fun _ => x) := ⟨_, rfl⟩
    rw [← he] at h0 ⊢
    have hz : (e != 0) = true := by rw [bne_iff_ne]; exact h0
    have HE : Hid (e = D.chk2 n z 1 (fun _ => x)) := he
    clear h0 hb1 he
    go_wp2
    go_ret2
    exact ⟨HW.out.2, Or.inr ⟨HW.out.1, by rw [← HE.out]; rfl⟩⟩
end Go.Proofs.Ytmnkablobhdbjaa
