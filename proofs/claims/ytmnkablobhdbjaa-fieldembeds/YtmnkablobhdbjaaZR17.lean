/- The reference: what each element of a field becomes in a greater one, gone on (Embed). -/
import Derived.Test.YtmnkablobhdbjaaZM7
namespace Go.Proofs.Ytmnkablobhdbjaa
open Go.RowKit

theorem nums_modL {E : FD} {base g cap : Nat} {w : World} (h : OwnI base (.slice (some ⟨g, 0, none⟩) (E.m + 1) cap) E.modL w) : Nums g (E.m + 1) E.modN w := by
  intro j hj
  obtain ⟨g', cap', hv, _, _, hc, _⟩ := h.at (by intro e; have := congrArg List.length e; rw [modL_len'] at this; simp at this)
  simp only [Value.slice.injEq, Option.some.injEq, Addr.mk.injEq, and_true] at hv
  obtain ⟨rfl, _, _⟩ := hv
  rw [hc j (by rw [modL_len']; exact hj)]
  unfold FD.modL FD.modN
  by_cases e : j = E.m
  · rw [if_pos e, List.getD_eq_getElem?_getD, List.getElem?_append_right (by rw [digL_len]; omega), digL_len, e, Nat.sub_self]; rfl
  · rw [if_neg e, List.getD_eq_getElem?_getD, List.getElem?_append_left (by rw [digL_len]; omega), ← List.getD_eq_getElem?_getD, digL_get _ _ _ _ (by omega)]; rfl

set_option maxHeartbeats 16000000 in
set_option maxRecDepth 1000000 in
theorem rembed_form {D E : FD} (hD : D ∈ fieldsL) (hE : E ∈ fieldsL) (w : World) (h : ¬ (E.p = D.p ∧ D.m % E.m = 0)) :
    Calls Try.prog 44 #[.int .i64 E.q, .int .i64 D.q] w fun e w' => e = .returned (.tuple #[.slice none 0 0, .int .i64 3]) ∧ Below w.heap.size w w' := by
  have HN : Hid (D ∈ fieldsL ∧ E ∈ fieldsL) := ⟨hD, hE⟩
  have hm6 := (fld hE).m6
  have hm1 := (fld hE).m1
  have t : ((E.p : Int) != (D.p : Int)) = true ∨ (((E.p : Int) != (D.p : Int)) = false ∧ ((D.m : Int) % (E.m : Int) != 0) = true) := by
    by_cases hp : E.p = D.p
    · refine Or.inr ⟨by rw [hp]; simp, ?_⟩
      rw [← Int.natCast_emod, bne_iff_ne]; intro k; exact h ⟨hp, by exact_mod_cast k⟩
    · exact Or.inl (by rw [bne_iff_ne]; exact_mod_cast hp)
  clear h hE hD
  go_enter Try.func44, Try.ntmps44
  go_wp2_with fail
  refine (rfield_any HN.out.2 w).mono ?_
  rintro e w1 ⟨v, rfl, hown, hmod, hb1⟩
  have HB : Hid (Below w.heap.size w w1) := hb1
  have hs1 := hb1.size
  obtain ⟨gm, cm, fm, hvm, hgm⟩ := hown.row (E.m + 1) modL_len' (by omega)
  subst hvm
  clear hb1 hown hmod hgm
  unfold rf
  go_wp2_with fail
  refine (rfield_any HN.out.1 _).mono ?_
  rintro e w2 ⟨v2, rfl, hown, hmod, hb2⟩
  have HB2 : Hid (Box w1.heap.size E E.gen (.slice (some ⟨gm, 0, none⟩) (E.m + 1) cm) w2 ∧ Below w.heap.size w w2) := ⟨(box_new E E.gen _ w1).below hb2 (by simp), bel_up' (HB.out.alloc HB.out.size _) hb2⟩
  have hs2 : w1.heap.size < w2.heap.size := by have := hb2.size; simp at this; omega
  obtain ⟨gm2, cm2, fm2, hvm2, hgm2⟩ := hown.row (D.m + 1) modL_len' (by omega)
  subst hvm2
  clear hb2 hown hmod hgm2
  obtain ⟨c0, c1, c2, c3, c4⟩ := HB2.out.1
  unfold rf
  rcases t with t | ⟨t1, t2⟩
  · go_wp2
    go_ret2
    exact ⟨rfl, HB2.out.2.alloc HB2.out.2.size _⟩
  · go_wp2
    go_ret2
    exact ⟨rfl, HB2.out.2.alloc HB2.out.2.size _⟩

set_option maxHeartbeats 16000000 in
set_option maxRecDepth 1000000 in
theorem rembed_any {D E : FD} (hD : D ∈ fieldsL) (hE : E ∈ fieldsL) (w : World) (h : E.p = D.p ∧ D.m % E.m = 0) :
    Calls Try.prog 44 #[.int .i64 E.q, .int .i64 D.q] w fun e w' => ∃ v, e = .returned (.tuple #[v, .int .i64 0]) ∧ OwnI w.heap.size v (D.embL E) w' ∧ Below w.heap.size w w' := by
  have HN : Hid (D ∈ fieldsL ∧ E ∈ fieldsL ∧ E.p = D.p ∧ D.m % E.m = 0) := ⟨hD, hE, h⟩
  have hm6 := (fld hE).m6
  have hm1 := (fld hE).m1
  have hq2 := (fld hE).q2
  have hq64 := (fld hE).q64
  have hQ2 := (fld hD).q2
  have hQ64 := (fld hD).q64
  have hp64 := (fld hE).p64
  have hp2 := (fld hE).p2
  have t1 : ((E.p : Int) != (D.p : Int)) = false := by rw [h.1]; simp
  have t2 : ((D.m : Int) % (E.m : Int) != 0) = false := by rw [← Int.natCast_emod, h.2]; rfl
  clear h hE hD
  go_enter Try.func44, Try.ntmps44
  go_wp2_with fail
  refine (rfield_any HN.out.2.1 w).mono ?_
  rintro e w1 ⟨v, rfl, hown, hmod, hb1⟩
  have hs1 := hb1.size
  obtain ⟨gm, cm, fm, hvm, hgm⟩ := hown.row (E.m + 1) modL_len' (by omega)
  subst hvm
  have HB : Hid (Below w.heap.size w w1 ∧ Nums gm (E.m + 1) E.modN w1 ∧ gm < w1.heap.size) := ⟨hb1, nums_modL hown, (hown.lt gm rfl).2⟩
  clear hb1 hown hmod hgm
  unfold rf
  go_wp2_with fail
  refine (rfield_any HN.out.1 _).mono ?_
  rintro e w2 ⟨v2, rfl, hown, hmod, hb2⟩
  obtain ⟨gm2, cm2, fm2, hvm2, hgm2⟩ := hown.row (D.m + 1) modL_len' (by omega)
  subst hvm2
  have HB2 : Hid (Box w1.heap.size E E.gen (.slice (some ⟨gm, 0, none⟩) (E.m + 1) cm) w2 ∧ Below w.heap.size w w2 ∧ Nums gm (E.m + 1) E.modN w2 ∧ gm < w2.heap.size ∧ ModAt D (.slice (some ⟨gm2, 0, none⟩) (D.m + 1) cm2) D.md w2) :=
    ⟨(box_new E E.gen _ w1).below hb2 (by simp), bel_up' (HB.out.1.alloc HB.out.1.size _) hb2, (HB.out.2.1.other (Below.heap_alloc w1 _ gm HB.out.2.2)).below hb2 (by have := HB.out.2.2; simp; omega), by have h1 := HB.out.2.2; have h2 := hb2.size; simp at h2; omega, hmod⟩
  have hs2 : w1.heap.size < w2.heap.size := by have := hb2.size; simp at this; omega
  clear hb2 hown hmod hgm2
  obtain ⟨c0, c1, c2, c3, c4⟩ := HB2.out.1
  unfold rf
  go_wp2
  obtain ⟨W, hW⟩ : ∃ W : World, W = w2.alloc (.cells #[.int .i64 D.q, .int .i64 D.p, .int .i64 D.m, .int .i64 D.gen, .slice (some ⟨gm2, 0, none⟩) (D.m + 1) cm2] 28) := ⟨_, rfl⟩
  have hbW : Below w2.heap.size w2 W := by rw [hW]; exact (Below.refl _ _).alloc (Nat.le_refl _) _
  obtain ⟨G, hG⟩ : ∃ G, G = w2.heap.size := ⟨_, rfl⟩
  obtain ⟨G1, hG1⟩ : ∃ G1, G1 = w1.heap.size := ⟨_, rfl⟩
  have HA : Hid (Box G1 E E.gen (.slice (some ⟨gm, 0, none⟩) (E.m + 1) cm) W ∧ Box G D D.gen (.slice (some ⟨gm2, 0, none⟩) (D.m + 1) cm2) W ∧ Nums gm (E.m + 1) E.modN W ∧ ModAt D (.slice (some ⟨gm2, 0, none⟩) (D.m + 1) cm2) D.md W ∧ Below w.heap.size w W ∧ gm < W.heap.size) :=
    ⟨by rw [hG1]; exact HB2.out.1.below hbW hs2, by rw [hG, hW]; exact box_new D D.gen _ w2, HB2.out.2.2.1.below hbW HB2.out.2.2.2.1, HB2.out.2.2.2.2.below hbW, bel_up' HB2.out.2.1 hbW, by have h1 := HB2.out.2.2.2.1; have h2 := hbW.size; omega⟩
  have hGW : G < W.heap.size := by rw [hG, hW]; simp
  have hG1W : G1 < W.heap.size := by omega
  have hGne : G1 < G := by omega
  have hWw : w.heap.size ≤ W.heap.size := by omega
  rw [← hW, ← hG, ← hG1]
  clear hW hG hG1 hbW HB2 HB c0 c1 c2 c3 c4 t1 t2
  obtain ⟨step, hstep⟩ : ∃ step, step = (D.q - 1) / (E.q - 1) := ⟨_, rfl⟩
  have hst64 : step ≤ 64 := by rw [hstep]; exact Nat.le_trans (Nat.div_le_self _ _) (by omega)
  have HST : Hid (step = (D.q - 1) / (E.q - 1)) := hstep
  clear hstep
  go_loopg [9, 10] E.q (fun gk r i wr => ∃ k z : Nat, i = .int .i64 k ∧ r = .int .i64 z ∧ 1 ≤ k ∧ k ≤ E.q ∧ gk = (if z = 0 then E.q + 1 - k else 0) ∧ ((z = 0 ∧ (E.m ≠ 1 → k ≤ D.rootK E)) ∨ (E.m ≠ 1 ∧ z = D.root E ∧ z ≠ 0)) ∧ Below W.heap.size W wr)
  case atStart => exact ⟨1, 0, rfl, rfl, by omega, by omega, by rw [if_pos rfl]; omega, Or.inl ⟨rfl, fun hm => (rootK_is HN.out.1 HN.out.2.1 HN.out.2.2 hm).1⟩, Below.refl _ _⟩
  case round =>
    obtain ⟨k, z, rfl, rfl, hk1, hkq, hgk, hz, hbel⟩ := hrel
    have HZ : Hid (gk = (if z = 0 then E.q + 1 - k else 0) ∧ ((z = 0 ∧ (E.m ≠ 1 → k ≤ D.rootK E)) ∨ (E.m ≠ 1 ∧ z = D.root E ∧ z ≠ 0))) := ⟨hgk, hz⟩
    have hbc := hbel
    obtain ⟨a0, a1, a2, a3, a4⟩ := HA.out.1.below hbel hG1W
    obtain ⟨b0, b1, b2, b3, b4⟩ := HA.out.2.1.below hbel hGW
    clear hbel hgk hz
    by_cases hcase : E.m ≠ 1 ∧ z = 0
    · obtain ⟨hm, hz0⟩ := hcase
      have HM : Hid (E.m ≠ 1 ∧ z = 0) := ⟨hm, hz0⟩
      have u1 : (1 : Int) < (E.m : Int) := by omega
      have u2 : ((z : Int) == 0) = true := beq_iff_eq.2 (by omega)
      have hq3 : 2 < D.q := by
        have h1 := (fld HN.out.2.1).qp
        have h2 := (fld HN.out.1).qp
        have h3 : E.m ≤ D.m := Nat.le_of_dvd (by have := (fld HN.out.1).m1; omega) (Nat.dvd_of_mod_eq_zero HN.out.2.2.2)
        have h4 : D.p ^ 2 ≤ D.p ^ D.m := Nat.pow_le_pow_right (by have := (fld HN.out.1).p2; omega) (by omega)
        have h5 : 2 ^ 2 ≤ D.p ^ 2 := Nat.pow_le_pow_left (fld HN.out.1).p2 2
        omega
      clear hm hz0
      go_wp2
      obtain ⟨Q1, hQ1⟩ : ∃ Q1 : Nat, Q1 = D.q - 1 := ⟨_, rfl⟩
      obtain ⟨q1, hq1⟩ : ∃ q1 : Nat, q1 = E.q - 1 := ⟨_, rfl⟩
      obtain ⟨ks, hks⟩ : ∃ ks : Nat, ks = k * step := ⟨_, rfl⟩
      have hksb : ks ≤ 64 * 64 := by rw [hks]; exact Nat.mul_le_mul (by omega) hst64
      have hks1 : 1 ≤ ks := by
        rw [hks]
        have h1 : 1 ≤ step := by
          rw [HST.out]
          have h2 : E.q ≤ D.q := by
            rw [(fld HN.out.2.1).qp, (fld HN.out.1).qp, HN.out.2.2.1]
            exact Nat.pow_le_pow_right (by have := (fld HN.out.1).p2; omega) (Nat.le_of_dvd (by have := (fld HN.out.1).m1; omega) (Nat.dvd_of_mod_eq_zero HN.out.2.2.2))
          exact Nat.div_pos (by omega) (by omega)
        exact Nat.mul_pos hk1 h1
      have HX : Hid (D.powZ D.gen ks = (D.xk E k : Nat)) := by
        show _ = _
        rw [powZ_gen HN.out.1 hq3 ks hks1, FD.xk, hks, HST.out]
      have x1 : IntKind.i64.wrap ((D.q : Int) - 1) = (Q1 : Int) := wrap_to (by omega) (by omega)
      have x2 : IntKind.i64.wrap ((E.q : Int) - 1) = (q1 : Int) := wrap_to (by omega) (by omega)
      have x3 : (Q1 : Int).tdiv (q1 : Int) = (step : Int) := by rw [HST.out, hQ1, hq1]; rfl
      have x7 : IntKind.i64.wrap (((D.q - 1 : Nat) : Int) / ((E.q - 1 : Nat) : Int)) = (step : Int) := wrap_to (by rw [HST.out, Int.natCast_ediv]) (by omega)
      have x5 : IntKind.i64.wrap ((k : Int) * (step : Int)) = (ks : Int) := wrap_to (by rw [hks, Int.natCast_mul]) (by omega)
      have x7' : IntKind.i64.wrap ((Q1 : Int) / (q1 : Int)) = (step : Int) := wrap_to (by rw [HST.out, hQ1, hq1, Int.natCast_ediv]) (by omega)
      have x6' : ¬ q1 = 0 := by omega
      have x6 : ¬ E.q - 1 = 0 := by omega
      have x8 : ¬ (E.q : Int) - 1 = 0 := by omega
      have x9 : ¬ (((E.q - 1 : Nat) : Int)) = 0 := by omega
      clear hQ1 hq1 hks x3
      go_region_held3 (fun w' => w'.cell? ⟨G, 0, none⟩ = some (.int .i64 (D.q : Nat)) ∧ w'.cell? ⟨G, 1, none⟩ = some (.int .i64 (D.p : Nat)) ∧ w'.cell? ⟨G, 2, none⟩ = some (.int .i64 (D.m : Nat)) ∧ w'.cell? ⟨G, 3, none⟩ = some (.int .i64 (D.gen : Nat)) ∧ w'.cell? ⟨G, 4, none⟩ = some (.slice (some ⟨gm2, 0, none⟩) (D.m + 1) cm2) ∧ w'.cell? ⟨G1, 0, none⟩ = some (.int .i64 (E.q : Nat)))
        (first | go_keep | exact ⟨(HA.out.2.1.below (B := W.heap.size) (by first | exact hbc | exact hbc.drew) hGW).c0, (HA.out.2.1.below (B := W.heap.size) (by first | exact hbc | exact hbc.drew) hGW).c1, (HA.out.2.1.below (B := W.heap.size) (by first | exact hbc | exact hbc.drew) hGW).c2, (HA.out.2.1.below (B := W.heap.size) (by first | exact hbc | exact hbc.drew) hGW).c3, (HA.out.2.1.below (B := W.heap.size) (by first | exact hbc | exact hbc.drew) hGW).c4, (HA.out.1.below (B := W.heap.size) (by first | exact hbc | exact hbc.drew) hG1W).c0⟩)
        (first | (go_at_call 30; refine (rpow_any HN.out.1 D.gen _ _ (by omega) (by omega) (HA.out.2.2.2.1.below (by first | exact hbc | exact hbc.drew))).mono ?_; rintro e w' ⟨rfl, hb'⟩; replace hbc := bel_up' (by first | exact hbc | exact hbc.drew) hb'; clear hb'))
      rw [HX.out]
      have hxl := xk_lt (E := E) HN.out.1 k
      obtain ⟨x, hx⟩ : ∃ x, x = D.xk E k := ⟨_, rfl⟩
      rw [← hx]
      obtain ⟨y, hy⟩ : ∃ y, y = D.val E.modN (E.m + 1) x (E.m + 1) := ⟨_, rfl⟩
      have HC : Hid (Calls Try.prog 77 #[.agg #[.int .i64 D.q, .int .i64 D.p, .int .i64 D.m, .int .i64 D.gen, .slice (some ⟨gm2, 0, none⟩) (D.m + 1) cm2], .slice (some ⟨gm, 0, none⟩) (E.m + 1) cm, .int .i64 x] w' fun e w3 => e = .returned (.int .i64 (y : Nat)) ∧ Below w'.heap.size w' w3) := by
        rw [hy]
        exact rvalue_any HN.out.1 D.gen gm cm (E.m + 1) x E.modN (by rw [hx]; exact hxl.1) (by omega) (fun j => modN_lt HN.out.1 HN.out.2.1 HN.out.2.2.1 j) (by have h1 := HA.out.2.2.2.2.2; have h2 := hbc.size; omega) (HA.out.2.2.1.below hbc HA.out.2.2.2.2.2) (HA.out.2.2.2.1.below hbc)
      have HY : Hid (D.isRoot E k = (y == 0)) := by show _ = _; rw [FD.isRoot, hy, hx]
      have HXX : Hid (x = D.xk E k ∧ x ≠ 0) := ⟨hx, by rw [hx]; exact hxl.2⟩
      have hsw := hbc.size
      clear a0 a1 a2 a3 a4 b0 b1 b2 b3 b4 hx hxl hy x1 x2 x5 x6 x7 x8 x9 x7' x6'
      obtain ⟨a0, a1, a2, a3, a4⟩ := HA.out.1.below hbc hG1W
      obtain ⟨b0, b1, b2, b3, b4⟩ := HA.out.2.1.below hbc hGW
      go_wp2_with fail
      refine HC.out.mono ?_
      rintro e w3 ⟨rfl, hb3⟩
      have HB3 : Hid (Below W.heap.size W w3) := bel_up' hbc hb3
      clear hb3 HC a0 a1 a2 a3 a4 b0 b1 b2 b3 b4 hbc
      have hrk := rootK_is HN.out.1 HN.out.2.1 HN.out.2.2 HM.out.1
      have hkr : k ≤ D.rootK E := by
        rcases HZ.out.2 with h | h
        · exact h.2 HM.out.1
        · exact absurd HM.out.2 h.2.2
      by_cases hy0 : y = 0
      · have hyb : ((y : Int) == 0) = true := beq_iff_eq.2 (by omega)
        have HK : Hid (k = D.rootK E) := by
          show k = _
          rcases Nat.lt_or_ge k (D.rootK E) with h | h
          · have h1 := hrk.2.2.2 k hk1 h
            rw [HY.out, hy0] at h1; simp at h1
          · omega
        have hke : k < E.q := by have := HK.out; have := hrk.2.1; omega
        have HR : Hid (x = D.root E) := by show x = _; rw [FD.root, if_neg HM.out.1, ← HK.out]; exact HXX.out.1
        clear hrk hkr hy0
        go_wp2
        go_roundg 0
        case measure =>
          rw [HZ.out.1, if_pos HM.out.2]; omega
        case rel => exact ⟨k + 1, x, by go_num, rfl, by omega, by omega, by rw [if_neg HXX.out.2], Or.inr ⟨HM.out.1, HR.out, HXX.out.2⟩, HB3.out⟩
      · have hyb : ((y : Int) == 0) = false := beq_eq_false_iff_ne.2 (by omega)
        have HK : Hid (k + 1 ≤ D.rootK E) := by
          show k + 1 ≤ _
          rcases Nat.lt_or_ge k (D.rootK E) with h | h
          · exact h
          · have h2 : k = D.rootK E := by omega
            have h1 := hrk.2.2.1
            rw [← h2, HY.out] at h1
            exact absurd (beq_iff_eq.1 h1) hy0
        have hke : k < E.q := by have := HK.out; have := hrk.2.1; omega
        clear hrk hkr hy0
        go_wp2
        go_roundg (E.q + 1 - (k + 1))
        case measure =>
          rw [HZ.out.1, if_pos HM.out.2]; omega
        case rel => exact ⟨k + 1, z, by go_num, rfl, by omega, by omega, by rw [if_pos HM.out.2], Or.inl ⟨HM.out.2, fun _ => HK.out⟩, HB3.out⟩
    · have HR : Hid (z = D.root E) := by
        show z = _
        rcases HZ.out.2 with h | h
        · by_cases hm : E.m = 1
          · rw [FD.root, if_pos hm]; exact h.1
          · exact absurd ⟨hm, h.1⟩ hcase
        · exact h.2.1
      have hzq : z < D.q := by rw [HR.out]; exact root_lt HN.out.1
      have HB1 : Hid (Below W.heap.size W wr) := hbc
      have u : ¬ (1 : Int) < (E.m : Int) ∨ ((1 : Int) < (E.m : Int) ∧ ((z : Int) == 0) = false) := by
        by_cases hm : E.m = 1
        · exact Or.inl (by omega)
        · exact Or.inr ⟨by omega, beq_eq_false_iff_ne.2 (fun h => hcase ⟨hm, by omega⟩)⟩
      clear HZ hcase hbc
      rcases u with u | ⟨u1, u2⟩
      all_goals
        go_wp2
        clear a0 a1 a2 a3 a4 b0 b1 b2 b3 b4
        go_loopw [12, 13] (fun vl i wr => ∃ a : Nat, a ≤ E.q ∧ i = .int .i64 a ∧ OwnI W.heap.size vl ((D.embL E).take a) wr ∧ Below W.heap.size W wr) (fun _ i _ => E.q - (intOf i).toNat)
        case atStart => exact ⟨0, by omega, rfl, OwnI.nil _ _, HB1.out⟩
        case round =>
          clear HB1
          obtain ⟨a, ha, rfl, hown, hbel⟩ := hrel
          have HO : Hid (OwnI W.heap.size u12 ((D.embL E).take a) wr) := hown
          have hbc := hbel
          obtain ⟨a0, a1, a2, a3, a4⟩ := HA.out.1.below hbel hG1W
          obtain ⟨b0, b1, b2, b3, b4⟩ := HA.out.2.1.below hbel hGW
          clear hown hbel
          have hembl : (D.embL E).length = E.q := by unfold FD.embL; simp
          by_cases hla : a < E.q
          · obtain ⟨y, hy⟩ : ∃ y, y = D.val (fun j => dg E.p a j) E.m z E.m := ⟨_, rfl⟩
            have HY : Hid ((D.embL E).take (a + 1) = (D.embL E).take a ++ [(y : Int)]) := by
              show _ = _
              rw [List.take_add_one, List.getElem?_eq_getElem (by omega), hy, HR.out]
              simp [FD.embL]
            have HYD : Hid (y = D.val (fun j => dg E.p a j) E.m z E.m) := hy
            clear hy
            have how : Below wr.heap.size wr wr := Below.refl _ _
            go_wp2_with fail
            go_region_held3 (fun w' => w'.cell? ⟨G, 0, none⟩ = some (.int .i64 (D.q : Nat)) ∧ w'.cell? ⟨G, 1, none⟩ = some (.int .i64 (D.p : Nat)) ∧ w'.cell? ⟨G, 2, none⟩ = some (.int .i64 (D.m : Nat)) ∧ w'.cell? ⟨G, 3, none⟩ = some (.int .i64 (D.gen : Nat)) ∧ w'.cell? ⟨G, 4, none⟩ = some (.slice (some ⟨gm2, 0, none⟩) (D.m + 1) cm2) ∧ w'.cell? ⟨G1, 1, none⟩ = some (.int .i64 (E.p : Nat)) ∧ w'.cell? ⟨G1, 2, none⟩ = some (.int .i64 (E.m : Nat)))
              (first | go_keep | exact ⟨(HA.out.2.1.below (B := W.heap.size) (by first | exact hbc | exact hbc.drew) hGW).c0, (HA.out.2.1.below (B := W.heap.size) (by first | exact hbc | exact hbc.drew) hGW).c1, (HA.out.2.1.below (B := W.heap.size) (by first | exact hbc | exact hbc.drew) hGW).c2, (HA.out.2.1.below (B := W.heap.size) (by first | exact hbc | exact hbc.drew) hGW).c3, (HA.out.2.1.below (B := W.heap.size) (by first | exact hbc | exact hbc.drew) hGW).c4, (HA.out.1.below (B := W.heap.size) (by first | exact hbc | exact hbc.drew) hG1W).c1, (HA.out.1.below (B := W.heap.size) (by first | exact hbc | exact hbc.drew) hG1W).c2⟩)
              (first
                | (go_at_call 67; refine (digits_any a E.p E.m _ (by omega) (by omega) hp64 (by omega)).mono ?_; rintro e w' ⟨vd, rfl, hod, hb'⟩; obtain ⟨gd, cd, fd, rfl, hgd, hgd', hld, hcd, hrd, hfd⟩ := hod.row E.m (digL_len _ _ _) (by omega); have hnd : Nums gd E.m (fun j => dg E.p a j) w' := (fun j hj => by rw [hrd.cell j (by omega), hfd j hj, digL_get _ _ _ _ hj]); replace how := bel_up' (by first | exact how | exact how.drew) hb'; replace hbc := bel_up' (by first | exact hbc | exact hbc.drew) hb'; clear hb' hod hrd hfd)
                | (go_at_call 77; refine (rvalue_any HN.out.1 D.gen gd cd E.m z (fun j => dg E.p a j) hzq (by omega) (fun j => dg_ltq HN.out.1 HN.out.2.1 HN.out.2.2.1 a j) hgd' hnd (HA.out.2.2.2.1.below (by first | exact hbc | exact hbc.drew))).mono ?_; rintro e w' ⟨rfl, hb'⟩; replace how := bel_up' (by first | exact how | exact how.drew) hb'; replace hbc := bel_up' (by first | exact hbc | exact hbc.drew) hb'; clear hb'))
            rw [← HYD.out]
            have HG2 : Hid (OwnI W.heap.size u12 ((D.embL E).take a) w' ∧ Below W.heap.size W w' ∧ W.heap.size ≤ w'.heap.size) := ⟨HO.out.below how (fun k hk => (HO.out.lt k hk).2), hbc, hbc.size⟩
            have htl : ((D.embL E).take a).length ≤ 64 := by rw [List.length_take]; omega
            clear how hbc a0 a1 a2 a3 a4 b0 b1 b2 b3 b4
            go_wp2_with (at_builtin; refine append_int rfl _ _ rfl W.heap.size _ ((D.embL E).take a) rfl (HG2.out.1.alloc _) ⟨_, 0, none⟩ 1 y rfl (by simp) (by omega) (by have := HG2.out.2.2; simp; omega) ?_; intro v2 w3 hown3 hgrow3)
            have hb3 : Below W.heap.size W w3 := (HG2.out.2.1.alloc HG2.out.2.2 _).grown hgrow3 (by have := HG2.out.2.2; simp; omega) (fun k hk => (HG2.out.1.lt k hk).1)
            go_roundw
            case rel => exact ⟨a + 1, by omega, by go_num, by rw [HY.out]; exact hown3, hb3⟩
            case measure => simp [intOf]; omega
          · have HE : Hid ((D.embL E).take a = D.embL E) := by show _ = _; rw [List.take_of_length_le (by omega)]
            have HBB : Hid (Below W.heap.size W wr) := hbc
            clear hbc
            go_wp2
            go_ret2
            exact ⟨_, rfl, by rw [← HE.out]; exact HO.out.mono hWw, HA.out.2.2.2.2.1.trans (HBB.out.mono hWw)⟩
end Go.Proofs.Ytmnkablobhdbjaa
