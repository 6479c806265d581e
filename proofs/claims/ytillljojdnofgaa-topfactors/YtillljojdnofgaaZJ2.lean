/- TopFactors: the walk of the statement. -/
import Derived.Test.YtillljojdnofgaaZJ1
namespace Go.Proofs.Ytillljojdnofgaa
open Go.RowKit Go.Sort

/-- Lists of a list of lists, one by one. -/
def LO (ao : Option Addr) (L : List (Nat × (Nat → Nat))) (w : World) : Prop := ∀ (j : Nat) (p : Nat × (Nat → Nat)), L[j]? = some p → ∃ g u, ao = some ⟨g, 0, none⟩ ∧ w.cell? ⟨g, j, none⟩ = some u ∧ Elm u p w ∧ g < w.heap.size
theorem LO.below {ao : Option Addr} {L : List (Nat × (Nat → Nat))} {w w' : World} (h : LO ao L w) (hb : Below w.heap.size w w') : LO ao L w' := fun j p hp => by
  obtain ⟨g, u, e, hc, he, hg⟩ := h j p hp
  exact ⟨g, u, e, ((bcell hb).1 g j hg).trans hc, he.below hb (Nat.le_refl _), Nat.lt_of_lt_of_le hg hb.size⟩
theorem LLs.lo {base : Nat} {v : Value} {L : List (Nat × (Nat → Nat))} {w : World} (h : LLs base v L w) : ∃ ao ca, v = .slice ao L.length ca ∧ LO ao L w := by
  obtain ⟨l, h1, h2⟩ := h
  obtain ⟨ao, cap, hv, _, hlt, _, hc⟩ := h1.open
  refine ⟨ao, cap, by rw [hv, h2.1], fun j p hp => ?_⟩
  have hj : j < l.length := by rw [h2.1]; exact (List.getElem?_eq_some_iff.1 hp).1
  obtain ⟨g, e, hcl, _⟩ := hc j l[j] (List.getElem?_eq_getElem hj)
  exact ⟨g, l[j], e, hcl, h2.2 j _ p (List.getElem?_eq_getElem hj) hp, hlt _ e⟩
theorem elm_one {D : FD} (F : Fld D) (w : World) : Elm (.slice (some ⟨w.heap.size, 0, none⟩) 1 1) (0, pone) (w.alloc (.cells #[.int .i64 1] 3)) := by
  have hp := pa_one F w
  refine ⟨w.heap.size, 1, rfl, Nat.le_refl _, by omega, 1, fun _ => .int .i64 1, ⟨#[.int .i64 1], two_new _, rfl, fun o ho => ?_⟩, Nat.le_refl _, fun k hk => ?_⟩
  · rw [show o = 0 from by omega]; rfl
  · have e : k = 0 := by
      have hk : k < 0 + 1 := hk
      omega
    subst e
    rfl
theorem seven (P : Nat) (h : P < 7) : ∃ D ∈ fieldsL, D.q ≤ 9 ∧ (#[.int .i64 2, .int .i64 3, .int .i64 4, .int .i64 5, .int .i64 7, .int .i64 8, .int .i64 9] : Array Value)[P]? = some (.int .i64 (D.q : Nat)) := by
  have key : ∀ P : Fin 7, ∃ D ∈ fieldsL, D.q ≤ 9 ∧ ([2, 3, 4, 5, 7, 8, 9] : List Nat).getD P.val 0 = D.q := by decide +kernel
  obtain ⟨D, hD, h9, e⟩ := key ⟨P, h⟩
  refine ⟨D, hD, h9, ?_⟩
  rw [← e]
  match P, h with
  | 0, _ => rfl
  | 1, _ => rfl
  | 2, _ => rfl
  | 3, _ => rfl
  | 4, _ => rfl
  | 5, _ => rfl
  | 6, _ => rfl
theorem pow_small {q e : Nat} (hq : q ≤ 9) (he : e ≤ 3) : q ^ e ≤ 4096 := by
  have h1 := Nat.pow_le_pow_left hq e
  have h2 : 9 ^ e ≤ 9 ^ 3 := Nat.pow_le_pow_right (by omega) he
  omega
theorem made_mn {D : FD} (F : Fld D) {M : Nat} {y : Nat → Int} (h : Blw D.q M y) : ∃ a, Mn D M a ∧ zl M y = zl M fun j => ((a j : Nat) : Int) := by
  refine ⟨fun k => if k < M then (y k).toNat else if k = M then 1 else 0, ⟨fun k => ?_, fun k hk => ?_, ?_⟩, zl_congr fun j hj => ?_⟩
  · show (if k < M then (y k).toNat else if k = M then 1 else 0) < D.q
    by_cases e : k < M
    · rw [if_pos e]
      have := h k e
      omega
    · rw [if_neg e]
      split
      · exact one_lt' F
      · exact zero_lt' F
  · show (if k < M then (y k).toNat else if k = M then 1 else 0) = 0
    rw [if_neg (by omega), if_neg (by omega)]
  · show (if M < M then (y M).toNat else if M = M then 1 else 0) = 1
    rw [if_neg (by omega), if_pos rfl]
  · show y j = (((if j < M then (y j).toNat else if j = M then 1 else 0 : Nat)) : Int)
    rw [if_pos hj]
    have := h j hj
    omega

set_option maxHeartbeats 1000000 in
set_option maxRecDepth 100000 in
theorem topFactors_long {ao : Option Addr} {n ca : Nat} (q k m : Int) (w : World) (hn : ¬ n ≤ 64) :
    Calls Try.prog 6 #[.slice ao n ca, .int .i64 q, .int .i64 k, .int .i64 m] w fun r w' => r = .returned (.bool true) ∧ Below w.heap.size w w' := by
  have h1 : (64 : Int) < (n : Int) := by omega
  go_enter Try.func6, Try.ntmps6
  go_wp2
  go_ret
  exact ⟨rfl, Below.refl _ _⟩

set_option maxHeartbeats 8000000 in
set_option maxRecDepth 100000 in
theorem topFactors_walk {ao : Option Addr} {n ca : Nat} {z : Nat → Int} (q k m : Int) {w : World} (ha : Arg ao n ca z w) (hn : n ≤ 64) (hq : I64 q) (hk : I64 k) (hm : I64 m) :
    Calls Try.prog 6 #[.slice ao n ca, .int .i64 q, .int .i64 k, .int .i64 m] w fun r w' => r = .returned (.bool true) ∧ Below w.heap.size w w' := by
  obtain ⟨P, hP0, hP1⟩ : ∃ P : Nat, pick q 7 = (P : Int) ∧ P < 7 := by
    have h1 := pick_lo q 7 (by omega)
    have h2 := pick_hi q 7 (by omega)
    exact ⟨(pick q 7).toNat, by omega, by omega⟩
  obtain ⟨M, hM0, hM1⟩ : ∃ M : Nat, pick k 4 = (M : Int) ∧ M < 4 := by
    have h1 := pick_lo k 4 (by omega)
    have h2 := pick_hi k 4 (by omega)
    exact ⟨(pick k 4).toNat, by omega, by omega⟩
  obtain ⟨K, hK0, hK1⟩ : ∃ K : Nat, pick m 4 = (K : Int) ∧ K < 4 := by
    have h1 := pick_lo m 4 (by omega)
    have h2 := pick_hi m 4 (by omega)
    exact ⟨(pick m 4).toNat, by omega, by omega⟩
  obtain ⟨D, hD, hD9, hcell⟩ := seven P hP1
  have h2q := (fld hD).q2
  have HA : Hid (Arg ao n ca z w ∧ D ∈ fieldsL) := ⟨ha, hD⟩
  have HP1 : Hid (∀ w : World, Calls Try.prog 23 #[.int .i64 q, .int .i64 7] w fun e w' => e = .returned (.int .i64 P) ∧ w' = w) := fun w => by rw [← hP0]; exact pick_any q 7 w hq.1 hq.2 (by omega) (by omega)
  have HP2 : Hid (∀ w : World, Calls Try.prog 23 #[.int .i64 k, .int .i64 4] w fun e w' => e = .returned (.int .i64 M) ∧ w' = w) := fun w => by rw [← hM0]; exact pick_any k 4 w hk.1 hk.2 (by omega) (by omega)
  have HP3 : Hid (∀ w : World, Calls Try.prog 23 #[.int .i64 m, .int .i64 4] w fun e w' => e = .returned (.int .i64 K) ∧ w' = w) := fun w => by rw [← hK0]; exact pick_any m 4 w hm.1 hm.2 (by omega) (by omega)
  have hcl : (w.alloc (.cells #[.int .i64 2, .int .i64 3, .int .i64 4, .int .i64 5, .int .i64 7, .int .i64 8, .int .i64 9] 3)).cell? ⟨w.heap.size, P, none⟩ = some (.int .i64 (D.q : Nat)) := by
    rw [cell_of_row _ _ _ _ _ (0, 0) (two_new _)]; exact hcell
  have hPi : (P : Int) < 7 := by omega
  have hPi0 : (0 : Int) ≤ (P : Int) := by omega
  have HN : Hid (∀ w2, Below w.heap.size w w2 → ∀ f : Nat, f ≤ 100 → ∀ k : Nat, k ≤ 100 → Calls Try.prog 39 #[.slice ao n ca, .int .i64 f, .int .i64 D.q, .int .i64 k] w2 fun e w' => ∃ v y, e = .returned v ∧ OwnI w2.heap.size v (zl k y) w' ∧ Blw D.q k y ∧ Below w2.heap.size w2 w') := fun w2 hb2 f hf k hk =>
    numbers_any (HA.out.1.below hb2) (by omega) f D.q k (by omega) (by omega) (by omega) (by omega)
  clear hD hP0 hM0 hK0 ha hq hm hk hcell
  go_enter Try.func6, Try.ntmps6
  go_wp2_with fail
  refine (HP1.out _).mono ?_
  rintro e w' ⟨rfl, hw⟩
  have hw := hw.symm
  subst hw
  go_wp2_with fail
  refine (HP2.out _).mono ?_
  rintro e w' ⟨rfl, hw⟩
  have hw := hw.symm
  subst hw
  have HB0 : Hid (Below w.heap.size w (w.alloc (.cells #[.int .i64 2, .int .i64 3, .int .i64 4, .int .i64 5, .int .i64 7, .int .i64 8, .int .i64 9] 3))) := (Below.refl _ _).alloc (Nat.le_refl _) _
  clear hcl
  go_wp2_with fail
  refine (HN.out _ HB0.out 0 (by omega) M (by omega)).mono ?_
  rintro e w1 ⟨v1, y1, rfl, ho1, hbl1, hb1⟩
  obtain ⟨a, hma, hzz⟩ := made_mn (fld HA.out.2) hbl1
  rw [hzz] at ho1
  have HB1 : Hid (Below (w.alloc (.cells #[.int .i64 2, .int .i64 3, .int .i64 4, .int .i64 5, .int .i64 7, .int .i64 8, .int .i64 9] 3)).heap.size (w.alloc (.cells #[.int .i64 2, .int .i64 3, .int .i64 4, .int .i64 5, .int .i64 7, .int .i64 8, .int .i64 9] 3)) w1 ∧ OwnI (w.alloc (.cells #[.int .i64 2, .int .i64 3, .int .i64 4, .int .i64 5, .int .i64 7, .int .i64 8, .int .i64 9] 3)).heap.size v1 (zl M fun j => ((a j : Nat) : Int)) w1) := ⟨hb1, ho1⟩
  have HMa : Hid (Mn D M a) := hma
  have hsz1 := HB1.out.1.size
  clear ho1 hbl1 hb1 hzz hma
  go_wp2_with (at_builtin; refine append_int rfl _ _ rfl (w.alloc (.cells #[.int .i64 2, .int .i64 3, .int .i64 4, .int .i64 5, .int .i64 7, .int .i64 8, .int .i64 9] 3)).heap.size v1 (zl M fun j => ((a j : Nat) : Int)) rfl (HB1.out.2.alloc _) ⟨_, 0, none⟩ 1 1 rfl (by simp) (by rw [zl_len]; omega) (Nat.le_trans hsz1 (by simp)) ?_; intro va w2 hox hgx; have HEa : Hid (Elm va (M, a) w2 ∧ Below (w.alloc (.cells #[.int .i64 2, .int .i64 3, .int .i64 4, .int .i64 5, .int .i64 7, .int .i64 8, .int .i64 9] 3)).heap.size (w.alloc (.cells #[.int .i64 2, .int .i64 3, .int .i64 4, .int .i64 5, .int .i64 7, .int .i64 8, .int .i64 9] 3)) w2) := ⟨tryX_new hox HMa.out, (HB1.out.1.alloc hsz1 _).grown hgx (Nat.le_trans hsz1 (by simp)) HB1.out.2.block⟩; clear hox hgx)
  have HBw2 : Hid (Below w.heap.size w w2) := HB0.out.trans (HEa.out.2.mono (by simp))
  clear HB0 HB1 hsz1
  refine (HP3.out _).mono ?_
  rintro e w' ⟨rfl, hw⟩
  have hw := hw.symm
  subst hw
  go_wp2_with fail
  refine (HN.out _ HBw2.out 5 (by omega) K (by omega)).mono ?_
  rintro e w1 ⟨v1, y1, rfl, ho1, hbl1, hb1⟩
  obtain ⟨b, hmb, hzz⟩ := made_mn (fld HA.out.2) hbl1
  rw [hzz] at ho1
  have HB1 : Hid (Below (w2).heap.size (w2) w1 ∧ OwnI (w2).heap.size v1 (zl K fun j => ((b j : Nat) : Int)) w1) := ⟨hb1, ho1⟩
  have HMb : Hid (Mn D K b) := hmb
  have hsz1 := HB1.out.1.size
  clear ho1 hbl1 hb1 hzz hmb
  go_wp2_with (at_builtin; refine append_int rfl _ _ rfl (w2).heap.size v1 (zl K fun j => ((b j : Nat) : Int)) rfl (HB1.out.2.alloc _) ⟨_, 0, none⟩ 1 1 rfl (by simp) (by rw [zl_len]; omega) (Nat.le_trans hsz1 (by simp)) ?_; intro vb w3 hox hgx; have HEb : Hid (Elm vb (K, b) w3 ∧ Below (w2).heap.size (w2) w3) := ⟨tryX_new hox HMb.out, (HB1.out.1.alloc hsz1 _).grown hgx (Nat.le_trans hsz1 (by simp)) HB1.out.2.block⟩; clear hox hgx)
  clear HB1 hsz1
  have HC : Hid (Elm va (M, a) w3 ∧ Elm vb (K, b) w3 ∧ Below w.heap.size w w3 ∧ Mn D (M + K) (pmul D (M + 1) a b)) := ⟨HEa.out.1.below HEb.out.2 (Nat.le_refl _), HEb.out.1, bel_up HBw2.out HEb.out.2, mn_mul (fld HA.out.2) HMa.out HMb.out⟩
  refine (mul_elm HA.out.2 HMa.out HMb.out HC.out.1 HC.out.2.1 (by omega)).mono ?_
  rintro e w4 ⟨vc, rfl, hec, hb4⟩
  obtain ⟨C, hC⟩ : ∃ C, C = pmul D (M + 1) a b := ⟨_, rfl⟩
  have HCC : Hid (C = pmul D (M + 1) a b ∧ Mn D (M + K) C) := ⟨hC, by rw [hC]; exact HC.out.2.2.2⟩
  rw [← hC] at hec
  have H4 : Hid (Below w.heap.size w w4 ∧ Elm va (M, a) w4 ∧ Elm vb (K, b) w4 ∧ Elm vc (M + K, C) w4) := ⟨bel_up HC.out.2.2.1 hb4, HC.out.1.below hb4 (Nat.le_refl _), HC.out.2.1.below hb4 (Nat.le_refl _), hec⟩
  clear hC hec hb4 HC HEa HEb
  go_wp2_with fail
  refine (factors_elm HA.out.2 HCC.out.2 H4.out.2.2.2 (by omega) (pow_small hD9 (by omega))).mono ?_
  rintro e w5 ⟨vl, L, rfl, hll, hfl, hpl, hb5⟩
  have H5 : Hid (Below w.heap.size w w5 ∧ Elm va (M, a) w5 ∧ Elm vb (K, b) w5 ∧ Elm vc (M + K, C) w5 ∧ LLs w4.heap.size vl L w5 ∧ Fac D L ∧ prodL D L = C) := ⟨bel_up H4.out.1 hb5, H4.out.2.1.below hb5 (Nat.le_refl _), H4.out.2.2.1.below hb5 (Nat.le_refl _), H4.out.2.2.2.below hb5 (Nat.le_refl _), hll, hfl, hpl⟩
  clear hll hfl hpl hb5 H4
  go_wp2_with fail
  refine (factors_elm HA.out.2 HMa.out H5.out.2.1 (by omega) (pow_small hD9 (by omega))).mono ?_
  rintro e w6 ⟨vx, X, rfl, hlx, hfx, hpx, hb6⟩
  have H6 : Hid (Below w.heap.size w w6 ∧ Elm vb (K, b) w6 ∧ Elm vc (M + K, C) w6 ∧ LLs w4.heap.size vl L w6 ∧ LLs w5.heap.size vx X w6 ∧ Fac D X ∧ prodL D X = a) := ⟨bel_up H5.out.1 hb6, H5.out.2.2.1.below hb6 (Nat.le_refl _), H5.out.2.2.2.1.below hb6 (Nat.le_refl _), H5.out.2.2.2.2.1.below hb6 (Nat.le_refl _), hlx, hfx, hpx⟩
  clear hlx hfx hpx hb6
  go_wp2_with fail
  refine (factors_elm HA.out.2 HMb.out H6.out.2.1 (by omega) (pow_small hD9 (by omega))).mono ?_
  rintro e w7 ⟨vy, Y, rfl, hly, hfy, hpy, hb7⟩
  obtain ⟨lo, lc, rfl, hlo⟩ := (H6.out.2.2.2.1.below hb7 (Nat.le_refl _)).lo
  obtain ⟨xo, xc, rfl, hxo⟩ := (H6.out.2.2.2.2.1.below hb7 (Nat.le_refl _)).lo
  obtain ⟨yo, yc, rfl, hyo⟩ := hly.lo
  have H7 : Hid (Below w.heap.size w w7 ∧ Elm vc (M + K, C) w7 ∧ LO lo L w7 ∧ LO xo X w7 ∧ LO yo Y w7) := ⟨bel_up H6.out.1 hb7, H6.out.2.2.1.below hb7 (Nat.le_refl _), hlo, hxo, hyo⟩
  have hperm : L.Perm (X ++ Y) := by
    have hfxy : Fac D (X ++ Y) := fun r hr => by rcases List.mem_append.1 hr with h | h; exact H6.out.2.2.2.2.2.1 r h; exact hfy r h
    refine fac_uniq HA.out.2 L (X ++ Y) H5.out.2.2.2.2.2.1 hfxy ?_
    have hXm := prod_mn (fld HA.out.2) X H6.out.2.2.2.2.2.1.mn
    rw [H6.out.2.2.2.2.2.2] at hXm
    rw [H5.out.2.2.2.2.2.2, HCC.out.1, prod_app (fld HA.out.2) X Y H6.out.2.2.2.2.2.1.mn hfy.mn, H6.out.2.2.2.2.2.2, hpy, mn_deg hXm HMa.out]
  have hlen : L.length = X.length + Y.length := by rw [hperm.length_eq, List.length_append]
  have hdeg : degL L = M + K := by
    have hLm := prod_mn (fld HA.out.2) L H5.out.2.2.2.2.2.1.mn
    rw [H5.out.2.2.2.2.2.2] at hLm
    exact mn_deg hLm HCC.out.2
  have hsm := len_degL L H5.out.2.2.2.2.2.1
  have hL6 : L.length ≤ 6 := by omega
  have HF : Hid (Fac D L ∧ prodL D L = C ∧ L.Perm (X ++ Y) ∧ degL L = M + K ∧ ∀ p, p ∈ L → p.1 ≤ 6) := ⟨H5.out.2.2.2.2.2.1, H5.out.2.2.2.2.2.2, hperm, hdeg, fun p hp => by have := hsm.2 p hp; omega⟩
  have HXY : Hid (∀ p, (p ∈ X ∨ p ∈ Y) → p.1 ≤ 6) := fun p hp => HF.out.2.2.2.2 p (hperm.mem_iff.2 (List.mem_append.2 hp))
  clear hly hfy hpy hb7 hlo hxo hyo hperm hdeg hsm H5 H6
  have hz : (((L.length : Nat) : Int) != ((X.length : Nat) : Int) + ((Y.length : Nat) : Int)) = false := by rw [hlen]; simp
  have HLN : Hid (L.length = X.length + Y.length) := hlen
  have hX6 : X.length ≤ 6 := by omega
  have hY6 : Y.length ≤ 6 := by omega
  clear hlen
  have HO : Hid (Below w.heap.size w (w7.alloc (.cells #[.int .i64 1] 3)) ∧ Elm vc (M + K, C) (w7.alloc (.cells #[.int .i64 1] 3)) ∧ LO lo L (w7.alloc (.cells #[.int .i64 1] 3)) ∧ LO xo X (w7.alloc (.cells #[.int .i64 1] 3)) ∧ LO yo Y (w7.alloc (.cells #[.int .i64 1] 3)) ∧ Elm (.slice (some ⟨w7.heap.size, 0, none⟩) 1 1) (0, pone) (w7.alloc (.cells #[.int .i64 1] 3))) := by
    have hal : Below w7.heap.size w7 (w7.alloc (.cells #[.int .i64 1] 3)) := (Below.refl _ _).alloc (Nat.le_refl _) _
    exact ⟨bel_up H7.out.1 hal, H7.out.2.1.below hal (Nat.le_refl _), H7.out.2.2.1.below hal, H7.out.2.2.2.1.below hal, H7.out.2.2.2.2.below hal, elm_one (fld HA.out.2) w7⟩
  clear H7
  go_wp2_with fail
  go_loopw [19, 20] (fun vp vi wr => ∃ i : Nat, i ≤ L.length ∧ vi = .int .i64 i ∧ Hid (Elm vp (degL (L.take i), prodL D (L.take i)) wr ∧ Below w.heap.size w wr ∧ Elm vc (M + K, C) wr ∧ LO lo L wr ∧ LO xo X wr ∧ LO yo Y wr)) (fun _ vi _ => L.length - (intOf vi).toNat)
  case atStart => exact ⟨0, by omega, rfl, HO.out.2.2.2.2.2, HO.out.1, HO.out.2.1, HO.out.2.2.1, HO.out.2.2.2.1, HO.out.2.2.2.2.1⟩
  case round =>
    clear HO
    obtain ⟨i, hi, rfl, HG⟩ := hrel
    by_cases hlt : i < L.length
    · have hib : (i : Int) < (L.length : Int) := by omega
      have hib0 : (0 : Int) ≤ (i : Int) := by omega
      obtain ⟨p, hp⟩ : ∃ p, L[i]? = some p := ⟨L[i], List.getElem?_eq_getElem hlt⟩
      have hpm := List.mem_of_getElem? hp
      have hp6 := HF.out.2.2.2.2 p hpm
      obtain ⟨gl, vi, rfl, hci, hei, _⟩ := HG.out.2.2.2.1 i p hp
      have HPP : Hid (L[i]? = some p ∧ p ∈ L ∧ Elm vi p wr) := ⟨hp, hpm, hei⟩
      clear hp hpm hei
      go_wp2_with fail
      refine (irred_elm HA.out.2 (HF.out.1 p HPP.out.2.1) HPP.out.2.2 (by omega) (pow_small hD9 (by omega))).mono ?_
      rintro e w9 ⟨rfl, hb9⟩
      have H9 : Hid (Elm u19 (degL (L.take i), prodL D (L.take i)) w9 ∧ Below w.heap.size w w9 ∧ Elm vc (M + K, C) w9 ∧ LO (some ⟨gl, 0, none⟩) L w9 ∧ LO xo X w9 ∧ LO yo Y w9 ∧ Elm vi p w9) := ⟨HG.out.1.below hb9 (Nat.le_refl _), bel_up HG.out.2.1 hb9, HG.out.2.2.1.below hb9 (Nat.le_refl _), HG.out.2.2.2.1.below hb9, HG.out.2.2.2.2.1.below hb9, HG.out.2.2.2.2.2.below hb9, HPP.out.2.2.below hb9 (Nat.le_refl _)⟩
      have hci9 : w9.cell? ⟨gl, i, none⟩ = some vi := by
        obtain ⟨g', u', e', hc', _, hg'⟩ := HG.out.2.2.2.1 i p HPP.out.1
        cases e'
        rw [hci] at hc'
        cases hc'
        exact ((bcell hb9).1 gl i hg').trans hci
      clear hb9 hci HG
      go_wp2_with fail
      go_loopw [23, 24] (fun vn vk wi => ∃ (k d : Nat), k ≤ L.length ∧ vk = .int .i64 k ∧ vn = .int .i64 (((cntF p L k : Nat) : Int)) ∧ wi = w9.drewN d) (fun _ vk _ => L.length - (intOf vk).toNat)
      case atStart => exact ⟨0, 0, by omega, rfl, by simp [cntF], by first | rfl | trivial⟩
      case round =>
        obtain ⟨k1, d1, hk1, rfl, rfl, rfl⟩ := hrel
        by_cases hlt1 : k1 < L.length
        · have hib1 : (k1 : Int) < (L.length : Int) := by omega
          have hkb1 : (0 : Int) ≤ (k1 : Int) := by omega
          obtain ⟨r, hr⟩ : ∃ r, L[k1]? = some r := ⟨L[k1], List.getElem?_eq_getElem hlt1⟩
          have hr6 := HF.out.2.2.2.2 r (List.mem_of_getElem? hr)
          obtain ⟨gr, vr, hgr, hcr, her, _⟩ := H9.out.2.2.2.1 k1 r hr
          cases hgr
          have hstep := cntF_step (p := p) hr
          have hle1 := cntF_le p L L.length
          have hle2 := cntF_le p X X.length
          have hle3 := cntF_le p L k1
          obtain ⟨bb, hbb⟩ : ∃ bb, bb = decide (numL p = numL r) := ⟨_, rfl⟩
          have HS : Hid (∀ d, Calls Try.prog 16 #[vi, vr] (w9.drewN (d1 + d)) fun e w' => e = .returned (.bool bb) ∧ ∃ m, w' = w9.drewN (d1 + m)) := fun d => by
            refine (same_any (w := w9.drewN (d1 + d)) (H9.out.2.2.2.2.2.2.si (by omega)) (her.si (by omega))).mono ?_
            rintro e w' ⟨rfl, m, rfl⟩
            exact ⟨by rw [hbb], d + m, by rw [World.drewN_drewN, Nat.add_assoc]⟩
          have HST : Hid (cntF p L (k1 + 1) = cntF p L k1 + if bb = true then 1 else 0) := by
            show _ = _
            rw [hstep, hbb]
            by_cases e : numL p = numL r
            · rw [if_pos e, if_pos (decide_eq_true e)]
            · rw [if_neg e, if_neg (by rw [decide_eq_false e]; simp)]
          clear hr her hstep hbb
          cases bb with
          | true =>
            go_wp2
            go_big_quiet (first | (go_at_call 16; exact HS.out _))
            go_wp2
            go_roundw
            case rel => exact ⟨k1 + 1, _, by omega, by go_num, by have h := HST.out; simp only [if_true] at h; rw [h]; go_num, by first | rfl | rw [World.drewN_drewN]⟩
            case measure => simp [intOf]; omega
          | false =>
            go_wp2
            go_big_quiet (first | (go_at_call 16; exact HS.out _))
            go_wp2
            go_roundw
            case rel => exact ⟨k1 + 1, _, by omega, by go_num, by rw [show cntF p L (k1 + 1) = cntF p L k1 from by rw [HST.out]; simp], by first | rfl | rw [World.drewN_drewN]⟩
            case measure => simp [intOf]; omega
        · have hib1 : ¬ (k1 : Int) < (L.length : Int) := by omega
          have hke1 : k1 = L.length := by omega
          subst hke1
          go_wp2_with fail
          go_loopw [23, 25] (fun vn vk wi => ∃ (k d : Nat), k ≤ X.length ∧ vk = .int .i64 k ∧ vn = .int .i64 (((cntF p L L.length : Nat) : Int) - ((cntF p X k : Nat) : Int)) ∧ wi = w9.drewN d) (fun _ vk _ => X.length - (intOf vk).toNat)
          case atStart => exact ⟨0, d1, by omega, rfl, by simp [cntF], by first | rfl | trivial⟩
          case round =>
            obtain ⟨k2, d2, hk2, rfl, rfl, rfl⟩ := hrel
            by_cases hlt2 : k2 < X.length
            · have hib2 : (k2 : Int) < (X.length : Int) := by omega
              have hkb2 : (0 : Int) ≤ (k2 : Int) := by omega
              obtain ⟨r, hr⟩ : ∃ r, X[k2]? = some r := ⟨X[k2], List.getElem?_eq_getElem hlt2⟩
              have hr6 := HXY.out r (Or.inl (List.mem_of_getElem? hr))
              obtain ⟨gr, vr, rfl, hcr, her, _⟩ := H9.out.2.2.2.2.1 k2 r hr
              skip
              have hstep := cntF_step (p := p) hr
              have hle1 := cntF_le p L L.length
              have hle2 := cntF_le p X X.length
              have hle3 := cntF_le p X k2
              obtain ⟨bb, hbb⟩ : ∃ bb, bb = decide (numL p = numL r) := ⟨_, rfl⟩
              have HS : Hid (∀ d, Calls Try.prog 16 #[vi, vr] (w9.drewN (d2 + d)) fun e w' => e = .returned (.bool bb) ∧ ∃ m, w' = w9.drewN (d2 + m)) := fun d => by
                refine (same_any (w := w9.drewN (d2 + d)) (H9.out.2.2.2.2.2.2.si (by omega)) (her.si (by omega))).mono ?_
                rintro e w' ⟨rfl, m, rfl⟩
                exact ⟨by rw [hbb], d + m, by rw [World.drewN_drewN, Nat.add_assoc]⟩
              have HST : Hid (cntF p X (k2 + 1) = cntF p X k2 + if bb = true then 1 else 0) := by
                show _ = _
                rw [hstep, hbb]
                by_cases e : numL p = numL r
                · rw [if_pos e, if_pos (decide_eq_true e)]
                · rw [if_neg e, if_neg (by rw [decide_eq_false e]; simp)]
              clear hr her hstep hbb
              cases bb with
              | true =>
                go_wp2
                go_big_quiet (first | (go_at_call 16; exact HS.out _))
                go_wp2
                go_roundw
                case rel => exact ⟨k2 + 1, _, by omega, by go_num, by have h := HST.out; simp only [if_true] at h; rw [h]; go_num, by first | rfl | rw [World.drewN_drewN]⟩
                case measure => simp [intOf]; omega
              | false =>
                go_wp2
                go_big_quiet (first | (go_at_call 16; exact HS.out _))
                go_wp2
                go_roundw
                case rel => exact ⟨k2 + 1, _, by omega, by go_num, by rw [show cntF p X (k2 + 1) = cntF p X k2 from by rw [HST.out]; simp], by first | rfl | rw [World.drewN_drewN]⟩
                case measure => simp [intOf]; omega
            · have hib2 : ¬ (k2 : Int) < (X.length : Int) := by omega
              have hke2 : k2 = X.length := by omega
              subst hke2
              go_wp2_with fail
              go_loopw [23, 26] (fun vn vk wi => ∃ (k d : Nat), k ≤ Y.length ∧ vk = .int .i64 k ∧ vn = .int .i64 (((cntF p L L.length : Nat) : Int) - ((cntF p X X.length : Nat) : Int) - ((cntF p Y k : Nat) : Int)) ∧ wi = w9.drewN d) (fun _ vk _ => Y.length - (intOf vk).toNat)
              case atStart => exact ⟨0, d2, by omega, rfl, by simp [cntF], by first | rfl | trivial⟩
              case round =>
                obtain ⟨k3, d3, hk3, rfl, rfl, rfl⟩ := hrel
                by_cases hlt3 : k3 < Y.length
                · have hib3 : (k3 : Int) < (Y.length : Int) := by omega
                  have hkb3 : (0 : Int) ≤ (k3 : Int) := by omega
                  obtain ⟨r, hr⟩ : ∃ r, Y[k3]? = some r := ⟨Y[k3], List.getElem?_eq_getElem hlt3⟩
                  have hr6 := HXY.out r (Or.inr (List.mem_of_getElem? hr))
                  obtain ⟨gr, vr, rfl, hcr, her, _⟩ := H9.out.2.2.2.2.2.1 k3 r hr
                  skip
                  have hstep := cntF_step (p := p) hr
                  have hle1 := cntF_le p L L.length
                  have hle2 := cntF_le p X X.length
                  have hle3 := cntF_le p Y k3
                  obtain ⟨bb, hbb⟩ : ∃ bb, bb = decide (numL p = numL r) := ⟨_, rfl⟩
                  have HS : Hid (∀ d, Calls Try.prog 16 #[vi, vr] (w9.drewN (d3 + d)) fun e w' => e = .returned (.bool bb) ∧ ∃ m, w' = w9.drewN (d3 + m)) := fun d => by
                    refine (same_any (w := w9.drewN (d3 + d)) (H9.out.2.2.2.2.2.2.si (by omega)) (her.si (by omega))).mono ?_
                    rintro e w' ⟨rfl, m, rfl⟩
                    exact ⟨by rw [hbb], d + m, by rw [World.drewN_drewN, Nat.add_assoc]⟩
                  have HST : Hid (cntF p Y (k3 + 1) = cntF p Y k3 + if bb = true then 1 else 0) := by
                    show _ = _
                    rw [hstep, hbb]
                    by_cases e : numL p = numL r
                    · rw [if_pos e, if_pos (decide_eq_true e)]
                    · rw [if_neg e, if_neg (by rw [decide_eq_false e]; simp)]
                  clear hr her hstep hbb
                  cases bb with
                  | true =>
                    go_wp2
                    go_big_quiet (first | (go_at_call 16; exact HS.out _))
                    go_wp2
                    go_roundw
                    case rel => exact ⟨k3 + 1, _, by omega, by go_num, by have h := HST.out; simp only [if_true] at h; rw [h]; go_num, by first | rfl | rw [World.drewN_drewN]⟩
                    case measure => simp [intOf]; omega
                  | false =>
                    go_wp2
                    go_big_quiet (first | (go_at_call 16; exact HS.out _))
                    go_wp2
                    go_roundw
                    case rel => exact ⟨k3 + 1, _, by omega, by go_num, by rw [show cntF p Y (k3 + 1) = cntF p Y k3 from by rw [HST.out]; simp], by first | rfl | rw [World.drewN_drewN]⟩
                    case measure => simp [intOf]; omega
                · have hib3 : ¬ (k3 : Int) < (Y.length : Int) := by omega
                  have hke3 : k3 = Y.length := by omega
                  subst hke3
                  have hzero : ((cntF p L L.length : Nat) : Int) - ((cntF p X X.length : Nat) : Int) - ((cntF p Y Y.length : Nat) : Int) = 0 := by
                    have := cntF_perm (p := p) HF.out.2.2.1
                    omega
                  rw [hzero]
                  have H10 : Hid (Elm u19 (degL (L.take i), prodL D (L.take i)) (w9.drewN d3) ∧ Below w.heap.size w (w9.drewN d3) ∧ Elm vc (M + K, C) (w9.drewN d3) ∧ LO (some ⟨gl, 0, none⟩) L (w9.drewN d3) ∧ LO xo X (w9.drewN d3) ∧ LO yo Y (w9.drewN d3) ∧ Elm vi p (w9.drewN d3)) := by
                    have hbd : Below w9.heap.size w9 (w9.drewN d3) := below_drewN2 (Below.refl _ _) d3
                    exact ⟨H9.out.1.below hbd (Nat.le_refl _), bel_up H9.out.2.1 hbd, H9.out.2.2.1.below hbd (Nat.le_refl _), H9.out.2.2.2.1.below hbd, H9.out.2.2.2.2.1.below hbd, H9.out.2.2.2.2.2.1.below hbd, H9.out.2.2.2.2.2.2.below hbd (Nat.le_refl _)⟩
                  have hts : L.take (i + 1) = L.take i ++ [p] := by rw [List.take_add_one, HPP.out.1]; rfl
                  have htm : ∀ r, r ∈ L.take i → Mn D r.1 r.2 := fun r hr => HF.out.1.mn r (List.mem_of_mem_take hr)
                  have hsn := prod_snoc (fld HA.out.2) (L.take i) p htm (HF.out.1 p HPP.out.2.1).mn
                  have hdl : degL (L.take i) + p.1 ≤ 100 := by
                    have h1 := degL_take L (i + 1)
                    rw [hts, hsn.2, HF.out.2.2.2.1] at h1
                    omega
                  have HMM : Hid (Calls Try.prog 40 #[.int .i64 D.q, u19, vi] (w9.drewN d3) fun e w' => ∃ v, e = .returned (.tuple #[v, .int .i64 0]) ∧ Elm v (degL (L.take (i + 1)), prodL D (L.take (i + 1))) w' ∧ Below w9.heap.size (w9.drewN d3) w') := by
                    show Calls _ _ _ _ _
                    rw [hts, hsn.1, hsn.2]
                    exact mul_elm HA.out.2 (prod_mn (fld HA.out.2) _ htm) (HF.out.1 p HPP.out.2.1).mn H10.out.1 H10.out.2.2.2.2.2.2 hdl
                  clear hzero hts htm hsn hdl H9
                  go_wp2_with fail
                  refine HMM.out.mono ?_
                  rintro e w11 ⟨vn, rfl, hen, hb11⟩
                  have H11 : Hid (Elm vn (degL (L.take (i + 1)), prodL D (L.take (i + 1))) w11 ∧ Below w.heap.size w w11 ∧ Elm vc (M + K, C) w11 ∧ LO (some ⟨gl, 0, none⟩) L w11 ∧ LO xo X w11 ∧ LO yo Y w11) := ⟨hen, bel_up H10.out.2.1 hb11, H10.out.2.2.1.below hb11 (Nat.le_refl _), H10.out.2.2.2.1.below hb11, H10.out.2.2.2.2.1.below hb11, H10.out.2.2.2.2.2.1.below hb11⟩
                  clear hen hb11 H10 HMM
                  go_wp2
                  go_roundw
                  case rel => exact ⟨i + 1, by omega, by go_num, H11.out⟩
                  case measure => simp [intOf]; omega
    · have hib : ¬ (i : Int) < (L.length : Int) := by omega
      have hie : i = L.length := by omega
      subst hie
      have HS : Hid (Calls Try.prog 16 #[u19, vc] wr fun e w' => e = .returned (.bool true) ∧ ∃ n, w' = wr.drewN n) := by
        have h1 := HG.out.1
        rw [List.take_length, HF.out.2.1, HF.out.2.2.2.1] at h1
        refine (same_any (h1.si (by show M + K ≤ 1000; omega)) (HG.out.2.2.1.si (by show M + K ≤ 1000; omega))).mono ?_
        rintro e w' ⟨rfl, n, rfl⟩
        exact ⟨by rw [decide_eq_true rfl], n, rfl⟩
      go_wp2_with fail
      refine HS.out.mono ?_
      rintro e w' ⟨rfl, n9, rfl⟩
      go_wp2
      go_ret
      exact ⟨rfl, below_drewN2 HG.out.2.1 _⟩
end Go.Proofs.Ytillljojdnofgaa
