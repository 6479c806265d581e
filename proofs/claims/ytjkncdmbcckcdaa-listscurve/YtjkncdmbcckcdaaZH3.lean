/- Curves: the reference's. -/
import Derived.Test.YtjkncdmbcckcdaaZH2
namespace Go.Proofs.Ytjkncdmbcckcdaa
open Go.RowKit Go.Sort

set_option maxHeartbeats 16000000 in
set_option maxRecDepth 100000 in
theorem rcurve_any {D : FD} (hD : D ∈ fieldsL) {ao yo : Option Addr} {m my ca cy : Nat} {A : Nat → Option Addr} {N C : Nat → Nat} {Z : Nat → Nat → Int} {yz : Nat → Int} {w : World} (ha : MatZ ao m A N C Z w) (hy : Arg yo my cy yz w) (h0 : D.chk my yz = 0) (hm : m ≤ 64) :
    Calls Try.prog 22 #[.int .i64 D.q, .slice ao m ca, .slice yo my cy] w fun e w' => Below w.heap.size w w' ∧
      ((cve D (zc my yz) (dgn (zc my yz) my) N Z m m ≠ 0 ∧ e = .returned (.tuple #[.slice none 0 0, .int .i64 (cve D (zc my yz) (dgn (zc my yz) my) N Z m m)])) ∨
       (cve D (zc my yz) (dgn (zc my yz) my) N Z m m = 0 ∧ ∃ v, e = .returned (.tuple #[v, .int .i64 0]) ∧ KI v (zl (cvs D (zc my yz) (dgn (zc my yz) my) N Z m m).1 fun j => (((cvs D (zc my yz) (dgn (zc my yz) my) N Z m m).2 j : Nat) : Int)) w')) := by
  obtain ⟨Y, hY⟩ : ∃ Y, Y = zc my yz := ⟨_, rfl⟩
  obtain ⟨T, hT⟩ : ∃ T, T = dgn Y my := ⟨_, rfl⟩
  rw [← hY, ← hT]
  have hmy := (chk_zero h0).1
  have hT128 : T ≤ 128 := by rw [hT]; have := dgn_le Y my; omega
  have HH : Hid (D ∈ fieldsL ∧ MatZ ao m A N C Z w ∧ Arg yo my cy yz w ∧ D.chk my yz = 0 ∧ Y = zc my yz ∧ T = dgn Y my ∧ El D Y ∧ Bd T Y) := ⟨hD, ha, hy, h0, hY, hT, by rw [hY]; exact zc_el (fld hD) h0, by rw [hT]; exact dgn_bd (by rw [hY]; exact zc_bd _ _)⟩
  have HCk : Hid (Calls Try.prog 66 #[.int .i64 D.q, .slice yo my cy] w fun e w' => e = .returned (.int .i64 0) ∧ Below w.heap.size w w') := by
    show Calls _ _ _ _ _
    have h := polyMay_any (cap := cy) hD hy.sl hy.lt hy.few
    rw [h0] at h; exact h
  have hmi : ¬ (64 : Int) < (m : Int) := by omega
  clear hD ha hy h0 hY hT hmy
  go_enter Try.func22, Try.ntmps22
  go_wp2_with fail
  refine HCk.out.mono ?_
  rintro e w1 ⟨rfl, hb1⟩
  have H1 : Hid (Below w.heap.size w w1) := hb1
  clear hb1
  go_wp2_with fail
  refine (rfield_sl HH.out.1 w1).mono ?_
  rintro e w2 ⟨gm, cm, rfl, hmod, hb2⟩
  unfold rf
  obtain ⟨wa, hwa⟩ : ∃ wa, wa = w2.alloc (.cells #[.int .i64 D.q, .int .i64 D.p, .int .i64 D.m, .int .i64 D.gen, .slice (some ⟨gm, 0, none⟩) (D.m + 1) cm] 27) := ⟨_, rfl⟩
  have HX : Hid (Box w2.heap.size D D.gen (.slice (some ⟨gm, 0, none⟩) (D.m + 1) cm) wa ∧ wa.heap.size = w2.heap.size + 1 ∧ Below w.heap.size w wa ∧ ModAt D (.slice (some ⟨gm, 0, none⟩) (D.m + 1) cm) D.md wa) := by
    have hb : Below w2.heap.size w2 wa := by rw [hwa]; exact (Below.refl _ _).alloc (Nat.le_refl _) _
    exact ⟨by rw [hwa]; exact box_new D D.gen _ w2, by rw [hwa]; simp, bel_up' (bel_up' H1.out hb2) hb, hmod.below hb⟩
  clear hmod hb2
  go_wp2_with fail
  rw [← hwa]
  clear hwa
  have HTr : Hid (Calls Try.prog 67 #[.slice yo my cy] wa fun e w' => (∃ yt tc, e = .returned (.slice yt T tc) ∧ Arg yt T tc (fun j => ((Y j : Nat) : Int)) w') ∧ Below wa.heap.size wa w') := by
    have hB := HH.out.2.2.1.below HX.out.2.2.1
    refine (rtrim_any (zc_sl HH.out.2.2.2.1 hB.sl) hB.le hB.cap hB.nil hB.lt hB.few).mono ?_
    rintro e w' ⟨v, rfl, ho, hb⟩
    rw [← HH.out.2.2.2.2.1, ← HH.out.2.2.2.2.2.1] at ho
    obtain ⟨so, sc, rfl, ha⟩ := ho.arg (by omega)
    exact ⟨⟨so, sc, rfl, ha⟩, hb⟩
  refine HTr.out.mono ?_
  rintro e w3 ⟨⟨to', tc, rfl, hta⟩, hb3⟩
  have H3 : Hid (Arg to' T tc (fun j => ((Y j : Nat) : Int)) w3 ∧ Below wa.heap.size wa w3 ∧ Below w.heap.size w w3) := ⟨hta, hb3, bel_up' HX.out.2.2.1 hb3⟩
  clear hta hb3 HTr HCk
  go_wp2_with fail
  go_loopw [11, 12] (fun vs vi wr => ∃ (r j1 : Nat) (so : Option Addr) (sc L : Nat), r + j1 = m ∧ vs = .slice so L sc ∧ ((j1 = 0 ∧ vi = .int .i64 (-1)) ∨ ∃ j : Nat, j1 = j + 1 ∧ vi = .int .i64 (j : Nat)) ∧ Hid (cve D Y T N Z m r = 0 ∧ L = (cvs D Y T N Z m r).1 ∧ Arg so L sc (fun j => (((cvs D Y T N Z m r).2 j : Nat) : Int)) wr ∧ Below w3.heap.size w3 wr)) (fun _ vi _ => (intOf vi + 1).toNat)
  case atStart =>
    by_cases hm0 : m = 0
    · exact ⟨0, 0, none, 0, 0, by omega, rfl, Or.inl ⟨rfl, by rw [hm0]; rfl⟩, rfl, rfl, arg_nil _ _, Below.refl _ _⟩
    · exact ⟨0, m, none, 0, 0, by omega, rfl, Or.inr ⟨m - 1, by omega, by go_num⟩, rfl, rfl, arg_nil _ _, Below.refl _ _⟩
  case round =>
    obtain ⟨r, j1, so, sc, L, hrj, rfl, hvi, HG⟩ := hrel
    rename World => wA
    rcases hvi with ⟨hj0, rfl⟩ | ⟨j, hj, rfl⟩
    · have hre : m = r := by omega
      subst hre
      have HE : Hid (KI (.slice so L sc) (zl L fun j => (((cvs D Y T N Z m m).2 j : Nat) : Int)) wA) := by
        refine ⟨arg_sliceI HG.out.2.2.1 (Nat.le_refl _), fun k hk => ?_⟩
        cases so with
        | none => cases hk
        | some x => cases hk; exact HG.out.2.2.1.lt x rfl
      have HL : Hid (L = (cvs D Y T N Z m m).1) := HG.out.2.1
      go_wp2
      go_ret2
      refine ⟨bel_up' H3.out.2.2 HG.out.2.2.2, Or.inr ⟨HG.out.1, _, rfl, ?_⟩⟩
      rw [← HL.out]; exact HE.out
    · have hjm : j < m := by omega
      have hjr : m - 1 - r = j := by omega
      have hji : (j : Int) < (m : Int) := by omega
      have hj0 : (0 : Int) ≤ (j : Int) := by omega
      have hrm : r < m := by omega
      have hst := cvs_ok HH.out.1 HH.out.2.2.2.2.2.2.1 HH.out.2.2.2.2.2.2.2 r HG.out.1
      obtain ⟨c, hc⟩ : ∃ c, c = (cvs D Y T N Z m r).2 := ⟨_, rfl⟩
      have HS : Hid (El D c ∧ Trd L c ∧ L ≤ 128 ∧ Arg so L sc (fun j => ((c j : Nat) : Int)) wA ∧ L = (cvs D Y T N Z m r).1 ∧ c = (cvs D Y T N Z m r).2) := by
        rw [hc, HG.out.2.1]
        exact ⟨hst.1, hst.2.1, hst.2.2, by rw [← HG.out.2.1]; exact HG.out.2.2.1, rfl, rfl⟩
      have HB : Hid (Below w3.heap.size w3 wA ∧ cve D Y T N Z m r = 0 ∧ Below w.heap.size w wA) := ⟨HG.out.2.2.2, HG.out.1, bel_up' H3.out.2.2 HG.out.2.2.2⟩
      have hL128 := HS.out.2.2.1
      clear hst hc HG
      obtain ⟨lp, hlp⟩ : ∃ lp, lp = dgn (pmul D L c Y) (L + T) := ⟨_, rfl⟩
      have HLp : Hid (lp = dgn (pmul D L c Y) (L + T)) := hlp
      have HKp : Hid (∀ wx, Below w3.heap.size w3 wx → Box w2.heap.size D D.gen (.slice (some ⟨gm, 0, none⟩) (D.m + 1) cm) wx) := fun wx hx => HX.out.1.below (bel_up' H3.out.2.1 hx) (by have := HX.out.2.1; omega)
      have HM : Hid (Calls Try.prog 68 #[.agg #[.int .i64 D.q, .int .i64 D.p, .int .i64 D.m, .int .i64 D.gen, .slice (some ⟨gm, 0, none⟩) (D.m + 1) cm], .slice so L sc, .slice to' T tc] wA fun e w' => (∃ po pc, e = .returned (.slice po lp pc) ∧ Arg po lp pc (fun j => ((pmul D L c Y j : Nat) : Int)) w') ∧ Below wA.heap.size wA w') := by
        have hT' := H3.out.1.below HB.out.1
        have hS' := HS.out.2.2.2.1
        refine (rpmul_any HH.out.1 D.gen gm cm (by omega) (by omega) HS.out.1 HH.out.2.2.2.2.2.2.1 HS.out.2.1.1 HH.out.2.2.2.2.2.2.2 hS'.sl hT'.sl hS'.lt hT'.lt hS'.le hS'.cap hS'.nil hT'.le hT'.cap hT'.nil (HX.out.2.2.2.below (bel_up' H3.out.2.1 HB.out.1))).mono ?_
        rintro e w' ⟨v, rfl, ho, hb⟩
        rw [← HLp.out] at ho
        obtain ⟨po, pc, rfl, ha⟩ := ho.arg (by rw [HLp.out]; have := dgn_le (pmul D L c Y) (L + T); omega)
        exact ⟨⟨po, pc, rfl, ha⟩, hb⟩
      clear hlp
      have hbx := HKp.out _ HB.out.1
      obtain ⟨k0, k1, k2, k3, k4⟩ := hbx
      by_cases h129 : 129 < L + T
      · have hL0 : (0 : Int) < (L : Int) := by omega
        have hT0 : (0 : Int) < (T : Int) := by omega
        have hbig : (128 : Int) < (L : Int) + (T : Int) - 1 := by omega
        have HR : Hid (cve D Y T N Z m m = 4 ∧ Below w.heap.size w wA) := by
          refine ⟨cve_to (by omega) hrm ?_, HB.out.2.2⟩
          rw [cve, if_neg (fun hn => hn HB.out.2.1), ← HS.out.2.2.2.2.1, if_pos h129]
        clear h129 k0 k1 k2 k3 k4
        go_wp2
        go_ret2
        exact ⟨HR.out.2, Or.inl ⟨by rw [HR.out.1]; omega, by rw [HR.out.1]; rfl⟩⟩
      · have hcond : ¬ ((0 : Int) < (L : Int) ∧ (0 : Int) < (T : Int) ∧ (128 : Int) < (L : Int) + (T : Int) - 1) := by omega
        have hsm : ¬ (128 : Int) < (L : Int) + (T : Int) - 1 := by omega
        have H129 : Hid (¬ 129 < L + T) := h129
        clear h129
        have hc3 : (¬ (0 : Int) < (L : Int)) ∨ ((0 : Int) < (L : Int) ∧ ¬ (0 : Int) < (T : Int)) ∨ ((0 : Int) < (L : Int) ∧ (0 : Int) < (T : Int)) := by omega
        clear hcond
        rcases hc3 with hL0 | ⟨hL0, hT0⟩ | ⟨hL0, hT0⟩
        all_goals
          go_wp2_with fail
          refine HM.out.mono ?_
          rintro x w4 ⟨⟨po, pc, rfl, hpa⟩, hb4⟩
          have H4 : Hid (Below w3.heap.size w3 w4 ∧ Arg po lp pc (fun j => ((pmul D L c Y j : Nat) : Int)) w4 ∧ El D (pmul D L c Y) ∧ Bd lp (pmul D L c Y) ∧ lp ≤ 128 ∧ Below w.heap.size w w4) := by
            refine ⟨bel_up' HB.out.1 hb4, hpa, el_mul (fld HH.out.1) _ _ _, ?_, ?_, bel_up' HB.out.2.2 hb4⟩
            · rw [HLp.out]
              exact dgn_bd ((pmul_bd (fld HH.out.1) HH.out.2.2.2.2.2.2.2 _).mono (by omega))
            · rw [HLp.out, pmul_len HH.out.1 HS.out.1 HH.out.2.2.2.2.2.2.1 HS.out.2.1.1 HH.out.2.2.2.2.2.2.2]
              have b1 := dgn_le c L
              have b2 := dgn_le Y T
              have b3 := H129.out
              split <;> omega
          clear hb4 hpa k0 k1 k2 k3 k4 hL0 hsm
          obtain ⟨bA, oA, eA, hcA⟩ := (HH.out.2.1.below H4.out.2.2.2.2.2).cell j hjm
          subst eA
          obtain ⟨e, he⟩ : ∃ e, e = D.chk (N j) (Z j) := ⟨_, rfl⟩
          have HMy : Hid (Calls Try.prog 66 #[.int .i64 D.q, .slice (A j) (N j) (C j)] w4 fun x w' => x = .returned (.int .i64 e) ∧ Below w4.heap.size w4 w') := by
            show Calls _ _ _ _ _
            rw [he]
            exact cmay_any HH.out.1 (HH.out.2.1.below H4.out.2.2.2.2.2) hjm
          have HEr : Hid (cve D Y T N Z m (r + 1) = e) := by
            show cve D Y T N Z m (r + 1) = e
            rw [cve, if_neg (fun hn => hn HB.out.2.1), ← HS.out.2.2.2.2.1, if_neg H129.out, hjr, he]
          have HSt : Hid (cvs D Y T N Z m (r + 1) = (dgn (padd D (pmul D L c Y) (zc (N j) (Z j))) (max lp (N j)), padd D (pmul D L c Y) (zc (N j) (Z j)))) := by
            show cvs D Y T N Z m (r + 1) = _
            rw [cvs, ← HS.out.2.2.2.2.1, ← HS.out.2.2.2.2.2, hjr, ← HLp.out]
          have HCh : Hid (e = D.chk (N j) (Z j)) := he
          clear he
          go_wp2_with fail
          refine HMy.out.mono ?_
          rintro x w5 ⟨rfl, hb5⟩
          by_cases h0 : e = 0
          · have H5 : Hid (Below w3.heap.size w3 w5 ∧ Arg po lp pc (fun j => ((pmul D L c Y j : Nat) : Int)) w5 ∧ Below w.heap.size w w5) := ⟨bel_up' H4.out.1 hb5, H4.out.2.1.below hb5, bel_up' H4.out.2.2.2.2.2 hb5⟩
            have hz : (e != 0) = false := by rw [h0]; rfl
            have HPA : Hid (∀ wx, Below w5.heap.size w5 wx → Calls Try.prog 69 #[.agg #[.int .i64 D.q, .int .i64 D.p, .int .i64 D.m, .int .i64 D.gen, .slice (some ⟨gm, 0, none⟩) (D.m + 1) cm], .slice po lp pc, .slice (A j) (N j) (C j)] wx fun x w' => ∃ v, x = .returned v ∧ OwnP wx.heap.size v (dgn (padd D (pmul D L c Y) (zc (N j) (Z j))) (max lp (N j))) (padd D (pmul D L c Y) (zc (N j) (Z j))) w' ∧ Below wx.heap.size wx w') := fun wx hx =>
              crpadd_any HH.out.1 D.gen gm cm (HH.out.2.1.below (bel_up' H5.out.2.2 hx)) hjm (H5.out.2.1.below hx) H4.out.2.2.1 H4.out.2.2.2.1 H4.out.2.2.2.2.1 (by rw [← HCh.out, h0])
            have hokr : cve D Y T N Z m (r + 1) = 0 := by rw [HEr.out, h0]
            have HOk : Hid (cve D Y T N Z m (r + 1) = 0) := hokr
            have HC5 : Hid (∀ wx, Below w5.heap.size w5 wx → Box w2.heap.size D D.gen (.slice (some ⟨gm, 0, none⟩) (D.m + 1) cm) wx ∧ wx.cell? ⟨bA, oA + j, none⟩ = some (.slice (A j) (N j) (C j))) := fun wx hx => by
              refine ⟨HKp.out _ (bel_up' H5.out.1 hx), ?_⟩
              obtain ⟨b1, o1, e1, hc1⟩ := (HH.out.2.1.below (bel_up' H5.out.2.2 hx)).cell j hjm
              cases e1
              exact hc1
            obtain ⟨⟨k0, k1, k2, k3, k4⟩, kA⟩ := HC5.out _ (Below.refl _ _)
            clear hb5 h0 hokr hcA
            have hbc : Below w5.heap.size w5 w5 := Below.refl _ _
            go_wp2_with fail
            go_region_held3 (fun w' => w'.cell? ⟨w2.heap.size, 0, none⟩ = some (.int .i64 (D.q : Nat)) ∧ w'.cell? ⟨w2.heap.size, 1, none⟩ = some (.int .i64 (D.p : Nat)) ∧ w'.cell? ⟨w2.heap.size, 2, none⟩ = some (.int .i64 (D.m : Nat)) ∧ w'.cell? ⟨w2.heap.size, 3, none⟩ = some (.int .i64 (D.gen : Nat)) ∧ w'.cell? ⟨w2.heap.size, 4, none⟩ = some (.slice (some ⟨gm, 0, none⟩) (D.m + 1) cm) ∧ w'.cell? ⟨bA, oA + j, none⟩ = some (.slice (A j) (N j) (C j)))
              (first | go_keep | exact ⟨(HC5.out _ (by first | exact hbc | exact hbc.drew)).1.c0, (HC5.out _ (by first | exact hbc | exact hbc.drew)).1.c1, (HC5.out _ (by first | exact hbc | exact hbc.drew)).1.c2, (HC5.out _ (by first | exact hbc | exact hbc.drew)).1.c3, (HC5.out _ (by first | exact hbc | exact hbc.drew)).1.c4, (HC5.out _ (by first | exact hbc | exact hbc.drew)).2⟩)
              (first
                | (go_at_call 69; refine (HPA.out _ (by first | exact hbc | exact hbc.drew)).mono ?_; rintro x w6 ⟨v, rfl, ho6, hb6⟩; replace hbc : Below w5.heap.size w5 w6 := bel_up' (by first | exact hbc | exact hbc.drew) hb6))
            have hst := cvs_ok HH.out.1 HH.out.2.2.2.2.2.2.1 HH.out.2.2.2.2.2.2.2 (r + 1) HOk.out
            rw [HSt.out] at hst
            obtain ⟨so', sc', rfl, ha'⟩ := ho6.arg (by have h := hst.2.2; show dgn _ _ ≤ 1000000; omega)
            obtain ⟨L', hL'⟩ : ∃ L', L' = dgn (padd D (pmul D L c Y) (zc (N j) (Z j))) (max lp (N j)) := ⟨_, rfl⟩
            rw [← hL'] at ha' ⊢
            have HR : Hid (cve D Y T N Z m (r + 1) = 0 ∧ L' = (cvs D Y T N Z m (r + 1)).1 ∧ Arg so' L' sc' (fun j => (((cvs D Y T N Z m (r + 1)).2 j : Nat) : Int)) w6 ∧ Below w3.heap.size w3 w6) := by
              rw [HSt.out]
              exact ⟨HOk.out, hL', ha', bel_up' H5.out.1 hbc⟩
            clear hst ho6 ha' hL' hb6 hbc k0 k1 k2 k3 k4 kA
            go_wp2
            go_roundw
            case rel =>
              by_cases hj00 : j = 0
              · exact ⟨r + 1, 0, so', sc', L', by omega, rfl, Or.inl ⟨rfl, by rw [hj00]; rfl⟩, HR.out⟩
              · exact ⟨r + 1, j, so', sc', L', by omega, rfl, Or.inr ⟨j - 1, by omega, by go_num⟩, HR.out⟩
            case measure => first | (simp [intOf]; done) | (simp [intOf]; omega)
          · have HR : Hid (cve D Y T N Z m m = e ∧ e ≠ 0 ∧ Below w.heap.size w w5) := ⟨cve_to h0 hrm HEr.out, h0, bel_up' H4.out.2.2.2.2.2 hb5⟩
            have hz : (e != 0) = true := by rw [bne_iff_ne]; exact h0
            clear hb5 h0
            go_wp2
            go_ret2
            exact ⟨HR.out.2.2, Or.inl ⟨by rw [HR.out.1]; exact HR.out.2.1, by rw [HR.out.1]; rfl⟩⟩
end Go.Proofs.Ytjkncdmbcckcdaa
