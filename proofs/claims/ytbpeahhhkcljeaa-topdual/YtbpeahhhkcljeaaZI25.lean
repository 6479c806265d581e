/- Texts of ours, one behind the other: I25 I26. -/
import Derived.Test.YtbpeahhhkcljeaaZI21
/- Syndrome and Has. -/
namespace Go.Proofs.Ytbpeahhhkcljeaa
open Go.RowKit Go.Sort

/-- A syndrome that is half done: i rows, and j products of the next. -/
def syn (D : FD) (R : Nat → Nat → Nat) (z : Nat → Nat) (n i j c : Nat) : Nat := if c < i then dot D (R c) z n else if c = i then dot D (R c) z j else 0

set_option maxHeartbeats 16000000 in
set_option maxRecDepth 100000 in
theorem cSyn_ok {D : FD} (hD : D ∈ fieldsL) {ao yo : Option Addr} {m n ca my cy k : Nat} {A : Nat → Option Addr} {N C : Nat → Nat} {Z : Nat → Nat → Int} {R : Nat → Nat → Nat} {y : Nat → Int} {w : World} (ha : CdZ D ao m n A N C Z w) (hY : Arg yo my cy y w) (hR : Dul D n m (mzc N Z) k R) (hk : D.nchk my y n = 0)
    (hC : ∀ wx, Below w.heap.size w wx → Calls Try.prog 26 #[.agg #[.int .i64 D.q, .int .i64 (n : Nat), .slice ao m ca]] wx fun x w' => x = .returned (.int .i64 0) ∧ Below wx.heap.size wx w') :
    Calls Try.prog 72 #[.agg #[.int .i64 D.q, .int .i64 (n : Nat), .slice ao m ca], .slice yo my cy] w fun x w' => LstP w.heap.size k (fun i => dot D (R i) (zc my y) n) x w' ∧ Below w.heap.size w w' := by
  have hmy : my = n := by have := (nchk_ok hk).1; omega
  subst hmy
  obtain ⟨w0, hw0⟩ : ∃ w0, w0 = w.alloc (.cells #[.int .i64 D.q, .int .i64 (my : Nat), .slice ao m ca] 43) := ⟨_, rfl⟩
  have HW : Hid (Below w.heap.size w w0 ∧ CB w.heap.size D.q my (.slice ao m ca) w0) := by
    rw [hw0]; exact ⟨(Below.refl _ _).alloc (Nat.le_refl _) _, CB.new _ _ _ _⟩
  have HA : Hid (D ∈ fieldsL ∧ CdZ D ao m my A N C Z w ∧ Arg yo my cy y w ∧ Dul D my m (mzc N Z) k R ∧ D.nchk my y my = 0) := ⟨hD, ha, hY, hR, hk⟩
  have HC : Hid _ := hC
  have hn1 := ha.n1
  have hn := ha.n64
  have hkn := hR.le
  clear hD ha hY hR hC
  go_enter Try.func72, Try.ntmps72
  go_wp2_with fail
  rw [← hw0]
  clear hw0
  refine (cDual_ok HA.out.1 (HA.out.2.1.below HW.out.1) (fun wx hx => HC.out _ (bel_up' HW.out.1 hx))).mono ?_
  rintro x w1 ⟨k', R', ro, rc, rfl, hmv, hred, hb1⟩
  have hu := Dul.uniq (fld HA.out.1) HA.out.2.2.2.1 hred (fun v => Iff.rfl)
  obtain ⟨hu1, hu2⟩ := hu
  subst hu1
  obtain ⟨w2, hw2⟩ : ∃ w2, w2 = w1.alloc (.cells #[.int .i64 D.q, .int .i64 (my : Nat), .slice ro k rc] 43) := ⟨_, rfl⟩
  have H2 : Hid (Below w.heap.size w w2 ∧ CB w.heap.size D.q my (.slice ao m ca) w2 ∧ CB w1.heap.size D.q my (.slice ro k rc) w2 ∧ RL (.slice ro k rc) k my R w2) := by
    have hal : Below w1.heap.size w1 w2 := by rw [hw2]; exact (Below.refl _ _).alloc (Nat.le_refl _) _
    exact ⟨bel_up' (bel_up' HW.out.1 hb1) hal, (HW.out.2.keep hb1).keep hal, by rw [hw2]; exact CB.new _ _ _ _, (hmv.below hal).rl.congr (fun i hi => (hu2 i hi).symm)⟩
  obtain ⟨p0, p1, p2⟩ := HW.out.2.keep hb1
  have hlt0 : w.heap.size < w1.heap.size := cell_lt p0
  clear hmv hred hu2 hb1
  go_wp2_with fail
  rw [← hw2]
  clear hw2 p0 p1 p2
  refine (cnum_ok HA.out.1 (HA.out.2.2.1.below H2.out.1) HA.out.2.2.2.2).mono ?_
  rintro x w3 ⟨F, T, g, rfl, hat, hF, hT, hb3⟩
  have H3 : Hid (Below w.heap.size w w3 ∧ CB w1.heap.size D.q my (.slice ro k rc) w3 ∧ RL (.slice ro k rc) k my R w3 ∧ FAt F T D g w3 ∧ Sl yo my (zc my y) w3 ∧ LtB yo w3.heap.size) := by
    have hb := bel_up' H2.out.1 hb3
    have hA := HA.out.2.2.1.below hb
    exact ⟨hb, H2.out.2.2.1.keep hb3, H2.out.2.2.2.below hb3, hat, has_sl (nchk_ok HA.out.2.2.2.2).2 hA.sl, hA.lt⟩
  clear hat hF hT hb3
  obtain ⟨p0, p1, p2⟩ := H3.out.2.1
  have hltb : w1.heap.size < w3.heap.size := cell_lt p0
  go_wp2_with (at_make; refine make_int rfl _ _ rfl _ k rfl rfl (by omega) (by omega) ?_; intro w4 hown4 hgrow4; have hb4 : Below w3.heap.size w3 w4 := below_grown hgrow4 (Nat.le_refl _) (fun k hk => by simp at hk); have hcb4 := H3.out.2.1.keep hb4; obtain ⟨r0, r1, r2⟩ := hcb4)
  have H4 : Hid (Row w3.heap.size k pnil w4 ∧ Below w3.heap.size w3 w4) := ⟨row_zeros hown4, hb4⟩
  clear hown4 hgrow4 hb4 r0 r1 r2 p0 p1 p2
  obtain ⟨G, hG⟩ : ∃ G, G = w3.heap.size := ⟨_, rfl⟩
  rw [← hG] at H4 ⊢
  have hG0 : w3.heap.size ≤ G := by omega
  have HGe : Hid (G = w3.heap.size) := hG
  clear hG
  go_loopw [41] (fun vi wr => ∃ i : Nat, i ≤ k ∧ vi = .int .i64 i ∧ Hid (Row G k (syn D R (zc my y) my i 0) wr ∧ Below w3.heap.size w3 wr)) (fun vi _ => k - (intOf vi).toNat)
  case atStart => exact ⟨0, by omega, rfl, H4.out.1.congr (fun c _ => by unfold syn; rw [if_neg (by omega)]; split <;> rfl), by rw [HGe.out] at H4; exact H4.out.2⟩
  case round =>
    clear H4
    obtain ⟨i, hi, rfl, HG⟩ := hrel
    rename World => wA
    by_cases hlt : i < k
    · have hib : (i : Int) < (k : Int) := by omega
      have hib0 : (0 : Int) ≤ (i : Int) := by omega
      obtain ⟨ro', rc', ev, hrl⟩ := H3.out.2.2.1
      cases ev
      obtain ⟨bR, oR, xr, cx, hro, hcr3, hsr⟩ := hrl i hlt
      subst hro
      have hcr := ((bcell HG.out.2).1 bR (oR + i) (cell_lt hcr3)).trans hcr3
      have HS : Hid (Sl xr my (R i) w3 ∧ LtB xr w3.heap.size ∧ El D (R i)) := ⟨hsr, rl_lt hsr hn1, HA.out.2.2.2.1.rows.1 i hlt⟩
      clear hrl hsr hcr3
      go_wp2_with fail
      go_loopw [48] (fun vj wi => ∃ j : Nat, j ≤ my ∧ vj = .int .i64 j ∧ Hid (Row G k (syn D R (zc my y) my i j) wi ∧ Below w3.heap.size w3 wi)) (fun vj _ => my - (intOf vj).toNat)
      case atStart => exact ⟨0, by omega, rfl, HG.out.1, HG.out.2⟩
      case round =>
        clear hcr HG
        obtain ⟨j, hj, rfl, HJ⟩ := hrel
        rename World => wC
        by_cases hjn : j < my
        · have hjb : (j : Int) < (my : Int) := by omega
          have hjb0 : (0 : Int) ≤ (j : Int) := by omega
          have hb := HJ.out.2
          obtain ⟨bY, oY, hyo, hcy⟩ := (H3.out.2.2.2.2.1.below hb H3.out.2.2.2.2.2) j hjn
          subst hyo
          obtain ⟨bx, ox, hxr, hcx⟩ := (HS.out.1.below hb HS.out.2.1) j hjn
          subst hxr
          obtain ⟨x, hx⟩ : ∃ x, x = R i j := ⟨_, rfl⟩
          rw [← hx] at hcx
          obtain ⟨t, ht⟩ : ∃ t, t = zc my y j := ⟨_, rfl⟩
          rw [← ht] at hcy
          obtain ⟨u, hu⟩ : ∃ u, u = dot D (R i) (zc my y) j := ⟨_, rfl⟩
          have hco : wC.cell? ⟨G, i, none⟩ = some (.int .i64 (u : Nat)) := by
            have h := HJ.out.1.cell i hlt
            unfold syn at h
            rw [if_neg (by omega), if_pos rfl, ← hu] at h; exact h
          have hfo := HJ.out.1.free i
          obtain ⟨p, hp⟩ : ∃ p, p = D.mul x t := ⟨_, rfl⟩
          obtain ⟨v, hv⟩ : ∃ v, v = D.ad u p := ⟨_, rfl⟩
          have hatA := H3.out.2.2.2.1.below hb H3.out.2.2.2.1.ltF H3.out.2.2.2.1.ltT
          have F' := fld HA.out.1
          have HC1 : Hid (∀ d, Calls Try.prog 89 #[.pointer (some ⟨F, 0, none⟩), .int .i64 (x : Nat), .int .i64 (t : Nat)] (wC.drewN d) fun e w' => e = .returned (.int .i64 (p : Nat)) ∧ ∃ k, w' = (wC.drewN d).drewN k) := fun d => by
            rw [hp]
            exact mul_nat HA.out.1 (hatA.drewN d) (by rw [hx]; exact HS.out.2.2 j) (by rw [ht]; exact zc_lt HA.out.2.2.2.2 hjn)
          have HC2 : Hid (∀ d, Calls Try.prog 88 #[.pointer (some ⟨F, 0, none⟩), .int .i64 (u : Nat), .int .i64 (p : Nat)] (wC.drewN d) fun e w' => e = .returned (.int .i64 (v : Nat)) ∧ ∃ k, w' = (wC.drewN d).drewN k) := fun d => by
            rw [hv]
            exact add_nat HA.out.1 (hatA.drewN d) (by rw [hu]; exact dot_lt F' _ _ _) (by rw [hp]; exact F'.mul_lt _ _)
          have HV : Hid (Row G k (syn D R (zc my y) my i j) wC ∧ Below w3.heap.size w3 wC ∧ v = dot D (R i) (zc my y) (j + 1)) := ⟨HJ.out.1, HJ.out.2, by rw [hv, hp, hu, hx, ht]; rfl⟩
          clear hx ht hu hp hv hatA HJ hb F'
          go_wp2
          refine quiet_tail 16 (by kernel_rfl) (by kernel_rfl) ?_
          simp only [List.take_succ_cons, List.take_zero, List.drop_succ_cons, List.drop_zero]
          repeat (go_big_quiet_step (first | (go_at_call 89; exact Calls.quiet_of (HC1.out _)) | (go_at_call 88; exact Calls.quiet_of (HC2.out _))))
          refine wpQuiet_nil ?_
          intro _ hw'
          obtain ⟨nq, hw''⟩ := hw'
          subst hw''
          go_wp2
          go_roundw
          case rel =>
            refine ⟨j + 1, by omega, by go_num, (HV.out.1.drewN nq).store i v (fun c _ => ?_), (below_drewN2 HV.out.2.1 nq).setCell (show w3.heap.size ≤ G from hG0) _⟩
            unfold syn
            by_cases e : c = i
            · rw [if_pos e, if_neg (by omega), if_pos e, e]; exact HV.out.2.2.symm
            · rw [if_neg e, if_neg e, if_neg e]
          case measure => simp [intOf]; omega
        · have hjb : ¬ (j : Int) < (my : Int) := by omega
          have hje : my = j := by omega
          have HK2 : Hid (Row G k (syn D R (zc my y) my (i + 1) 0) wC) := HJ.out.1.congr (fun c hc => by
            unfold syn
            by_cases e : c < i
            · rw [if_pos e, if_pos (by omega)]
            · by_cases e2 : c = i
              · rw [if_neg e, if_pos e2, if_pos (by omega), ← hje]
              · rw [if_neg e, if_neg e2, if_neg (by omega)]; split <;> rfl)
          clear hje
          go_wp2
          go_roundw
          case rel => exact ⟨i + 1, by omega, by go_num, HK2.out, HJ.out.2⟩
          case measure => simp [intOf]; omega
    · have hib : ¬ (i : Int) < (k : Int) := by omega
      have hie : k = i := by omega
      subst hie
      have HZ : Hid (Below w.heap.size w wA ∧ Row G k (fun i => dot D (R i) (zc my y) my) wA ∧ w.heap.size ≤ G) := ⟨bel_up' H3.out.1 HG.out.2, HG.out.1.congr (fun c hc => by unfold syn; rw [if_pos hc]), by have := H3.out.1.size; omega⟩
      go_wp2
      go_ret2
      exact ⟨⟨G, k, by simp [go_sem], HZ.out.2.1, HZ.out.2.2, Nat.le_refl _, by omega⟩, HZ.out.1⟩
end Go.Proofs.Ytbpeahhhkcljeaa

/- Has. -/
namespace Go.Proofs.Ytbpeahhhkcljeaa
open Go.RowKit Go.Sort

theorem slz_of {ao : Option Addr} {n : Nat} {a : Nat → Nat} {w : World} (h : Sl ao n a w) : SlZ ao n (fun i => ((a i : Nat) : Int)) w := h
set_option maxHeartbeats 4000000 in
set_option maxRecDepth 100000 in
theorem cHas_ok (q n : Int) {ao yo : Option Addr} {m ca my cy k : Nat} {v : Nat → Nat} {w : World} (hk : k ≤ 1000)
    (hS : ∀ wx, Below w.heap.size w wx → Calls Try.prog 72 #[.agg #[.int .i64 q, .int .i64 n, .slice ao m ca], .slice yo my cy] wx fun x w' => LstP wx.heap.size k v x w' ∧ Below wx.heap.size wx w') :
    Calls Try.prog 43 #[.agg #[.int .i64 q, .int .i64 n, .slice ao m ca], .slice yo my cy] w fun x w' => x = .returned (.tuple #[.bool (decide (ct (fun i => !decide (((v i : Nat) : Int) = 0)) k = 0)), .int .i64 0]) ∧ Below w.heap.size w w' := by
  obtain ⟨w0, hw0⟩ : ∃ w0, w0 = w.alloc (.cells #[.int .i64 q, .int .i64 n, .slice ao m ca] 43) := ⟨_, rfl⟩
  have HW : Hid (Below w.heap.size w w0) := by rw [hw0]; exact (Below.refl _ _).alloc (Nat.le_refl _) _
  have HS : Hid _ := hS
  obtain ⟨t, ht⟩ : ∃ t, t = ct (fun i => !decide (((v i : Nat) : Int) = 0)) k := ⟨_, rfl⟩
  obtain ⟨b, hb⟩ : ∃ b, b = decide (t = 0) := ⟨_, rfl⟩
  rw [← ht, ← hb]
  have hz : (((t : Nat) : Int) == 0) = b := by
    rw [hb]
    by_cases h : t = 0
    · rw [h]; rfl
    · rw [decide_eq_false h, beq_eq_false_iff_ne]; omega
  have HT : Hid (t = ct (fun i => !decide (((v i : Nat) : Int) = 0)) k) := ht
  clear hS ht hb
  go_enter Try.func43, Try.ntmps43
  go_wp2_with fail
  rw [← hw0]
  clear hw0
  refine (HS.out _ HW.out).mono ?_
  rintro x w1 ⟨⟨gr, c, rfl, hrow, hg, hc, _⟩, hb1⟩
  have H1 : Hid (Below w.heap.size w w1 ∧ Row gr k v w1) := ⟨bel_up' HW.out hb1, hrow⟩
  have HWt : Hid (∀ cc, Calls Try.prog 28 #[.slice (some ⟨gr, 0, none⟩) k cc] w1 fun e w' => e = .returned (.int .i64 (t : Nat)) ∧ Below w1.heap.size w1 w') := fun cc => by
    rw [HT.out]
    exact weight_any (slz_of (H1.out.2.sl (Nat.le_refl _))) (by intro x hx; cases hx; exact H1.out.2.lt) hk
  clear hb1 hrow hg hc
  go_wp2_with fail
  refine (HWt.out _).mono ?_
  rintro x w2 ⟨rfl, hb2⟩
  have H2 : Hid (Below w.heap.size w w2) := bel_up' H1.out.1 hb2
  clear hb2
  go_wp2
  go_ret2
  exact ⟨by simp [go_sem], H2.out⟩
end Go.Proofs.Ytbpeahhhkcljeaa
