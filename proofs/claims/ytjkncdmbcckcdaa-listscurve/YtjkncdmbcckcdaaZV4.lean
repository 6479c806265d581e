/- The reference's polynomials: products (PMul). -/
import Derived.Test.YtjkncdmbcckcdaaZV3
import Derived.Test.YtjkncdmbcckcdaaZW5
namespace Go.Proofs.Ytjkncdmbcckcdaa
open Go.RowKit Go.Sort

set_option maxHeartbeats 8000000 in
set_option maxRecDepth 100000 in
theorem rpmul_any {D : FD} (hD : D ∈ fieldsL) (gen gm cm : Nat) {ao bo : Option Addr} {n m ca cb : Nat} {a b : Nat → Nat} {w : World} (hn : n ≤ 1000) (hm : m ≤ 1000) (ha : El D a) (hb : El D b) (hbn : Bd n a) (hbm : Bd m b) (hA : Sl ao n a w) (hB : Sl bo m b w) (hla : LtB ao w.heap.size) (hlb : LtB bo w.heap.size)
    (hna : n ≤ ca) (hca : ca ≤ 9223372036854775807) (hza : ao = none → ca = 0) (hmb : m ≤ cb) (hcb : cb ≤ 9223372036854775807) (hzb : bo = none → cb = 0) (hM : ModAt D (.slice (some ⟨gm, 0, none⟩) (D.m + 1) cm) D.md w) :
    Calls Try.prog 68 #[rf D.q D.p D.m gen (.slice (some ⟨gm, 0, none⟩) (D.m + 1) cm), .slice ao n ca, .slice bo m cb] w fun e w' => ∃ v, e = .returned v ∧ OwnP w.heap.size v (dgn (pmul D n a b) (n + m)) (pmul D n a b) w' ∧ Below w.heap.size w w' := by
  have HF : Hid (D ∈ fieldsL ∧ El D a ∧ El D b ∧ Bd n a ∧ Bd m b) := ⟨hD, ha, hb, hbn, hbm⟩
  have HM : Hid (ModAt D (.slice (some ⟨gm, 0, none⟩) (D.m + 1) cm) D.md w) := hM
  have HB0 : Hid (Box w.heap.size D gen (.slice (some ⟨gm, 0, none⟩) (D.m + 1) cm) (w.alloc (.cells #[.int .i64 D.q, .int .i64 D.p, .int .i64 D.m, .int .i64 gen, .slice (some ⟨gm, 0, none⟩) (D.m + 1) cm] 27))) := box_new D gen _ w
  have hbl : Below w.heap.size w (w.alloc (.cells #[.int .i64 D.q, .int .i64 D.p, .int .i64 D.m, .int .i64 gen, .slice (some ⟨gm, 0, none⟩) (D.m + 1) cm] 27)) := (Below.refl _ _).alloc (Nat.le_refl _) _
  have HS : Hid (Sl ao n a (w.alloc (.cells #[.int .i64 D.q, .int .i64 D.p, .int .i64 D.m, .int .i64 gen, .slice (some ⟨gm, 0, none⟩) (D.m + 1) cm] 27)) ∧ Sl bo m b w ∧ LtB ao w.heap.size ∧ LtB bo w.heap.size ∧ (ao = none → ca = 0) ∧ (bo = none → cb = 0) ∧ Below w.heap.size w (w.alloc (.cells #[.int .i64 D.q, .int .i64 D.p, .int .i64 D.m, .int .i64 gen, .slice (some ⟨gm, 0, none⟩) (D.m + 1) cm] 27))) := ⟨hA.below hbl hla, hB, hla, hlb, hza, hzb, hbl⟩
  clear hD ha hb hbn hbm hM hA hB hla hlb hza hzb hbl
  unfold rf
  go_enter Try.func68, Try.ntmps68
  go_wp2_with fail
  refine (rtrim_any HS.out.1 hna hca HS.out.2.2.2.2.1 (HS.out.2.2.1.mono (by simp)) (by omega)).mono ?_
  rintro e w1 ⟨va, rfl, hoa, hb1⟩
  obtain ⟨n', hn'⟩ : ∃ n', n' = dgn a n := ⟨_, rfl⟩
  rw [← hn'] at hoa
  have hn1 : n' ≤ n := by rw [hn']; exact dgn_le _ _
  have hs1 := hb1.size
  have hb1' := bel_up' HS.out.2.2.2.2.2.2 hb1
  have HW1 : Hid (n' = dgn a n ∧ OwnP (w.heap.size + 1) va n' a w1 ∧ Below w.heap.size w w1 ∧ Box w.heap.size D gen (.slice (some ⟨gm, 0, none⟩) (D.m + 1) cm) w1 ∧ Sl bo m b w1) :=
    ⟨hn', by have h := hoa; simp at h; exact h, hb1', HB0.out.below hb1 (by simp), HS.out.2.1.below hb1' HS.out.2.2.2.1⟩
  have hs1' : w.heap.size < w1.heap.size := by simp at hs1; omega
  clear hoa hb1 hb1' hn' hs1 HB0
  go_wp2_with fail
  refine (rtrim_any HW1.out.2.2.2.2 hmb hcb HS.out.2.2.2.2.2.1 (HS.out.2.2.2.1.mono (by omega)) (by omega)).mono ?_
  rintro e w2 ⟨vb, rfl, hob, hb2⟩
  obtain ⟨m', hm'⟩ : ∃ m', m' = dgn b m := ⟨_, rfl⟩
  rw [← hm'] at hob
  have hm1 : m' ≤ m := by rw [hm']; exact dgn_le _ _
  have hs2 := hb2.size
  have HW2 : Hid (n' = dgn a n ∧ m' = dgn b m ∧ OwnP (w.heap.size + 1) va n' a w2 ∧ OwnP (w.heap.size + 1) vb m' b w2 ∧ Below w.heap.size w w2 ∧ Box w.heap.size D gen (.slice (some ⟨gm, 0, none⟩) (D.m + 1) cm) w2) :=
    ⟨HW1.out.1, hm', HW1.out.2.1.below hb2 (Nat.le_refl _), hob.mono (by omega), bel_up' HW1.out.2.2.1 hb2, HW1.out.2.2.2.1.below hb2 hs1'⟩
  clear hob hb2 hm' HW1 HS
  obtain ⟨a1, c1, hva, _, _, _, hla1, _, hsa⟩ := HW2.out.2.2.1.open
  obtain ⟨b1, c2, hvb, _, _, _, hlb1, _, hsb⟩ := HW2.out.2.2.2.1.open
  subst hva hvb
  have HSL : Hid (Sl a1 n' a w2 ∧ LtB a1 w2.heap.size ∧ Sl b1 m' b w2 ∧ LtB b1 w2.heap.size) := ⟨hsa, hla1, hsb, hlb1⟩
  clear hla1 hsa hlb1 hsb
  have HPM : Hid (pmul D n a b = pmul D n' a b ∧ Bd n' a ∧ Bd m' b) := by
    have h1 : Bd n' a := by rw [HW2.out.1]; exact dgn_bd HF.out.2.2.2.1
    have h2 : Bd m' b := by rw [HW2.out.2.1]; exact dgn_bd HF.out.2.2.2.2
    exact ⟨pmul_to (fld HF.out.1) b h1 hn1, h1, h2⟩
  by_cases hz1 : n' = 0 ∨ m' = 0
  · have HE : Hid (dgn (pmul D n a b) (n + m) = 0) := by
      have e : pmul D n a b = pnil := by
        rw [HPM.out.1]
        rcases hz1 with e | e
        · rw [e]; rfl
        · have hb0 : b = pnil := bd_nil_of (e ▸ HPM.out.2.2)
          rw [hb0, pmul_nil_r (fld HF.out.1)]
      show _ = _
      rw [e]
      exact dgn_is (n := n + m) (fun _ _ => rfl) (fun _ _ => rfl) (fun h => absurd rfl h)
    have HO : Hid (OwnP w.heap.size (.slice none 0 0) (dgn (pmul D n a b) (n + m)) (pmul D n a b) w2) := by
      show OwnP _ _ _ _ _
      rw [HE.out]
      exact ⟨none, 0, rfl, Nat.le_refl _, by omega, fun x hx => (by cases hx), fun x hx => (by cases hx), fun _ => rfl, fun h0 => absurd h0 (by omega)⟩
    by_cases hz2 : n' = 0
    · have e1 : ((n' : Int) == 0) = true := by rw [hz2]; rfl
      clear hz1 hz2
      go_wp2
      go_ret
      exact ⟨_, rfl, HO.out, HW2.out.2.2.2.2.1⟩
    · have e1 : ((n' : Int) == 0) = false := by rw [beq_eq_false_iff_ne]; omega
      have e2 : ((m' : Int) == 0) = true := by rw [hz1.resolve_left hz2]; rfl
      clear hz1 hz2
      go_wp2
      go_ret
      exact ⟨_, rfl, HO.out, HW2.out.2.2.2.2.1⟩
  · have h1 : n' ≠ 0 := fun e => hz1 (Or.inl e)
    have h2 : m' ≠ 0 := fun e => hz1 (Or.inr e)
    have e1 : ((n' : Int) == 0) = false := by rw [beq_eq_false_iff_ne]; omega
    have e2 : ((m' : Int) == 0) = false := by rw [beq_eq_false_iff_ne]; omega
    obtain ⟨N, hN⟩ : ∃ N, N = n' + m' - 1 := ⟨_, rfl⟩
    have HN : Hid (N + 1 = n' + m' ∧ 1 ≤ n' ∧ 1 ≤ m') := ⟨by omega, by omega, by omega⟩
    have hN2 : N ≤ 2000 := by omega
    clear hz1 h1 h2 hN
    go_wp2_with (at_make; refine make_int rfl _ _ rfl _ N rfl rfl (by have := HN.out; omega) (by omega) ?_; intro w3 hown3 hgrow3)
    have HB3 : Hid (Below w2.heap.size w2 w3 ∧ Row w2.heap.size N pnil w3) := ⟨below_grown hgrow3 (Nat.le_refl _) (fun k hk => by simp at hk), row_zeros hown3⟩
    clear hown3 hgrow3
    go_loopw [8] (fun i wr => ∃ r : Nat, r ≤ n' ∧ i = .int .i64 r ∧ Row w2.heap.size N (pmul D r a b) wr ∧ Below w2.heap.size w2 wr) (fun i _ => n' - (intOf i).toNat)
    case atStart => exact ⟨0, by omega, rfl, HB3.out.2, HB3.out.1⟩
    case round =>
      obtain ⟨r, hr, rfl, hrow, hbel⟩ := hrel
      have HG : Hid (Row w2.heap.size N (pmul D r a b) wr ∧ Below w2.heap.size w2 wr) := ⟨hrow, hbel⟩
      clear hrow hbel
      by_cases hlt : r < n'
      · go_wp2
        go_loopw [9] (fun i wr => ∃ j : Nat, j ≤ m' ∧ i = .int .i64 j ∧ Row w2.heap.size N (pin D a b r j) wr ∧ Below w2.heap.size w2 wr) (fun i _ => m' - (intOf i).toNat)
        case atStart => exact ⟨0, by omega, rfl, by rw [pin_zero]; exact HG.out.1, HG.out.2⟩
        case round =>
          clear HG
          obtain ⟨j, hj, rfl, hrow, hbel⟩ := hrel
          have HG : Hid (Row w2.heap.size N (pin D a b r j) wr ∧ Below w2.heap.size w2 wr) := ⟨hrow, hbel⟩
          have hs3 := hbel.size
          clear hrow hbel
          obtain ⟨ba, offa, rfl, hca'⟩ := (HSL.out.1.below HG.out.2 HSL.out.2.1) r hlt
          obtain ⟨x, hx⟩ : ∃ x, x = a r := ⟨_, rfl⟩
          rw [← hx] at hca'
          have HX : Hid (x = a r) := hx
          clear hx
          by_cases hjm : j < m'
          · obtain ⟨bb, offb, rfl, hcb'⟩ := (HSL.out.2.2.1.below HG.out.2 HSL.out.2.2.2) j hjm
            by_cases hx0 : x = 0
            · have hz : ((x : Int) != 0) = false := by rw [hx0]; rfl
              have HE : Hid (Row w2.heap.size N (pmul D (r + 1) a b) wr) := HG.out.1.congr (fun k _ => by
                have e : pmul D (r + 1) a b = pmul D r a b := by
                  rw [pmul, ← HX.out, hx0, pscale_zero (fld HF.out.1), psh_nil, padd_nil (fld HF.out.1) (el_mul (fld HF.out.1) a b r)]
                unfold pin
                rw [e]
                split <;> rfl)
              clear hx0
              go_wp2
              go_roundw
              case rel => exact ⟨r + 1, by omega, by go_num, HE.out, HG.out.2⟩
              case measure => simp [intOf]; omega
            · have hz : ((x : Int) != 0) = true := by rw [bne_iff_ne]; omega
              obtain ⟨s, hs⟩ : ∃ s : Nat, s = r + j := ⟨_, rfl⟩
              have hsb : (s : Int) < (N : Int) := by have := HN.out; omega
              have w1' : IntKind.i64.wrap ((r : Int) + (j : Int)) = (s : Int) := wrap_to (by omega) (by omega)
              obtain ⟨p, hp⟩ : ∃ p, p = pmul D r a b (r + j) := ⟨_, rfl⟩
              obtain ⟨y, hy⟩ : ∃ y, y = b j := ⟨_, rfl⟩
              obtain ⟨t, ht⟩ : ∃ t, t = D.mul x y := ⟨_, rfl⟩
              obtain ⟨zz, hzz⟩ : ∃ zz, zz = pmul D (r + 1) a b (r + j) := ⟨_, rfl⟩
              rw [← hy] at hcb'
              have hco : wr.cell? ⟨w2.heap.size, s, none⟩ = some (.int .i64 (p : Nat)) := by
                rw [hp, hs, ← pin_at]; exact HG.out.1.cell _ (by have := HN.out; omega)
              have hfo : wr.frozen? ⟨w2.heap.size, s, none⟩ = false := HG.out.1.free s
              have hbw : Below w.heap.size w wr := bel_up' HW2.out.2.2.2.2.1 HG.out.2
              have hbx := HW2.out.2.2.2.2.2.below (B := w2.heap.size) HG.out.2 (by omega)
              have k0 := cell_regrown hbx.c0
              have k1 := cell_regrown hbx.c1
              have k2 := cell_regrown hbx.c2
              have k3 := cell_regrown hbx.c3
              have k4 := cell_regrown hbx.c4
              have k5 := cell_regrown hco
              have k6 := cell_regrown hca'
              have k7 := cell_regrown hcb'
              have k8 := free_regrown (HG.out.1.lt) hfo
              have hxq : x < D.q := by rw [HX.out]; exact HF.out.2.1 r
              have hyq : y < D.q := by rw [hy]; exact HF.out.2.2.1 j
              have HC1 : Hid (∀ d os, Calls Try.prog 55 #[.agg #[.int .i64 D.q, .int .i64 D.p, .int .i64 D.m, .int .i64 gen, .slice (some ⟨gm, 0, none⟩) (D.m + 1) cm], .int .i64 (x : Nat), .int .i64 (y : Nat)] (grow (redrawn wr d) os) fun e w'' => e = .returned (.int .i64 (t : Nat)) ∧ ∃ p : Regrown, w'' = grow (redrawn wr p.d) p.os) := by
                intro d os
                rw [ht]
                exact Calls.regrown_of (rmul_nat HF.out.1 gen HM.out x y hxq hyq _ (bel_up' hbw (below_regrown wr d os)))
              have HC2 : Hid (∀ d os, Calls Try.prog 107 #[.agg #[.int .i64 D.q, .int .i64 D.p, .int .i64 D.m, .int .i64 gen, .slice (some ⟨gm, 0, none⟩) (D.m + 1) cm], .int .i64 (p : Nat), .int .i64 (t : Nat)] (grow (redrawn wr d) os) fun e w'' => e = .returned (.int .i64 (zz : Nat)) ∧ ∃ p : Regrown, w'' = grow (redrawn wr p.d) p.os) := by
                intro d os
                have hpq : p < D.q := by rw [hp]; exact el_mul (fld HF.out.1) a b r _
                have htq : t < D.q := by rw [ht]; exact (fld HF.out.1).mul_lt _ _
                have h := radd_nat HF.out.1 gen (.slice (some ⟨gm, 0, none⟩) (D.m + 1) cm) p t hpq htq (grow (redrawn wr d) os)
                rw [show sumD D.p D.q p t = zz from by rw [hzz, ← pin_new, hp, ht, HX.out, hy]; rfl] at h
                exact Calls.regrown_of h
              have HV : Hid (∀ k, k < N → pin D a b r (j + 1) k = if k = s then zz else pin D a b r j k) := fun k _ => by rw [hs, hzz]; exact pin_step D a b r j k
              clear hs hp hy ht hzz hco hfo hbx hcb'
              go_wp2
              refine below_tail 23 (by kernel_rfl) (by kernel_rfl) ?_
              simp only [List.take_succ_cons, List.take_zero, List.drop_succ_cons, List.drop_zero]
              repeat (go_big_quiet_step (first | (go_at_call 55; exact HC1.out _ _) | (go_at_call 107; exact HC2.out _ _)))
              refine wpQuiet_nil ?_
              intro _ hw'
              obtain ⟨⟨dq, osq⟩, hw''⟩ := hw'
              subst hw''
              go_wp2
              go_roundw
              case rel => exact ⟨j + 1, by omega, by go_num, (HG.out.1.below (below_regrown wr dq osq) HG.out.1.lt).store s zz HV.out, ((bel_up' HG.out.2 (below_regrown wr dq osq))).setCell (by simp) _⟩
              case measure => simp [intOf]; omega
          · have HE : Hid (Row w2.heap.size N (pmul D (r + 1) a b) wr) := by
              have h := HG.out.1
              rw [show j = m' from by omega, pin_all (fld HF.out.1) HPM.out.2.2 r] at h; exact h
            go_wp2
            go_roundw
            case rel => exact ⟨r + 1, by omega, by go_num, HE.out, HG.out.2⟩
            case measure => simp [intOf]; omega
      · have HE : Hid (Row w2.heap.size N (pmul D n a b) wr ∧ Below w.heap.size w wr) := by
          have h := HG.out.1
          rw [show r = n' from by omega, ← HPM.out.1] at h; exact ⟨h, bel_up' HW2.out.2.2.2.2.1 HG.out.2⟩
        have HDG : Hid (dgn (pmul D n a b) N = dgn (pmul D n a b) (n + m)) := by
          show _ = _
          rw [dgn_from (c := pmul D n a b) (n := N) (N := n + m) ?_ (by have := HN.out; omega)]
          rw [HPM.out.1]
          exact (pmul_bd (fld HF.out.1) HPM.out.2.2 n').mono (by have := HN.out; omega)
        have HT : Hid (Calls Try.prog 67 #[.slice (some ⟨w2.heap.size, 0, none⟩) N N] wr fun e w' => ∃ v, e = .returned v ∧ OwnP wr.heap.size v (dgn (pmul D n a b) N) (pmul D n a b) w' ∧ Below wr.heap.size wr w') :=
          rtrim_any (HE.out.1.sl (Nat.le_refl _)) (Nat.le_refl _) (by omega) (fun e => by cases e) (fun x hx => by cases hx; exact HE.out.1.lt) (by omega)
        go_wp2_with fail
        refine HT.out.mono ?_
        rintro e w4 ⟨v, rfl, hown, hb4⟩
        have hs4 := HE.out.2.size
        have HR : Hid (OwnP w.heap.size v (dgn (pmul D n a b) (n + m)) (pmul D n a b) w4 ∧ Below w.heap.size w w4) := by
          rw [HDG.out] at hown
          exact ⟨hown.mono hs4, bel_up' HE.out.2 hb4⟩
        clear hown hb4
        go_wp2
        go_ret
        exact ⟨v, rfl, HR.out.1, HR.out.2⟩
end Go.Proofs.Ytjkncdmbcckcdaa
