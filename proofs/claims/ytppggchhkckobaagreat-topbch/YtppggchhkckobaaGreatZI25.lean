/- Texts of ours, one behind the other: I25 I26 S13 S14 S15 S16. -/
import Derived.Test.YtppggchhkckobaaGreatZI18
import Derived.Test.YtppggchhkckobaaGreatZI3
import Derived.Test.YtppggchhkckobaaGreatZX18
import Derived.Test.YtppggchhkckobaaGreatZI5
/- Syndrome and Has. -/
namespace Go.Proofs.YtppggchhkckobaaGreat
open Go.RowKit Go.Sort

/-- A syndrome that is half done: i rows, and j products of the next. -/
def syn (D : FD) (R : Nat → Nat → Nat) (z : Nat → Nat) (n i j c : Nat) : Nat := if c < i then dot D (R c) z n else if c = i then dot D (R c) z j else 0

set_option maxHeartbeats 16000000 in
set_option maxRecDepth 100000 in
theorem cSyn_ok {D : FD} (hD : D ∈ fieldsL) {ao yo : Option Addr} {m n ca my cy k : Nat} {A : Nat → Option Addr} {N C : Nat → Nat} {Z : Nat → Nat → Int} {R : Nat → Nat → Nat} {y : Nat → Int} {w : World} (ha : CdZ D ao m n A N C Z w) (hY : Arg yo my cy y w) (hR : Dul D n m (mzc N Z) k R) (hk : D.nchk my y n = 0)
    (hC : ∀ wx, Below w.heap.size w wx → Calls Tryz.prog 96 #[.agg #[.int .i64 D.q, .int .i64 (n : Nat), .slice ao m ca]] wx fun x w' => x = .returned (.int .i64 0) ∧ Below wx.heap.size wx w') :
    Calls Tryz.prog 69 #[.agg #[.int .i64 D.q, .int .i64 (n : Nat), .slice ao m ca], .slice yo my cy] w fun x w' => LstP w.heap.size k (fun i => dot D (R i) (zc my y) n) x w' ∧ Below w.heap.size w w' := by
  have hmy : my = n := by have := (nchk_ok hk).1; omega
  subst hmy
  obtain ⟨w0, hw0⟩ : ∃ w0, w0 = w.alloc (.cells #[.int .i64 D.q, .int .i64 (my : Nat), .slice ao m ca] 35) := ⟨_, rfl⟩
  have HW : Hid (Below w.heap.size w w0 ∧ CB w.heap.size D.q my (.slice ao m ca) w0) := by
    rw [hw0]; exact ⟨(Below.refl _ _).alloc (Nat.le_refl _) _, CB.new _ _ _ _⟩
  have HA : Hid (D ∈ fieldsL ∧ CdZ D ao m my A N C Z w ∧ Arg yo my cy y w ∧ Dul D my m (mzc N Z) k R ∧ D.nchk my y my = 0) := ⟨hD, ha, hY, hR, hk⟩
  have HC : Hid _ := hC
  have hn1 := ha.n1
  have hn := ha.n64
  have hkn := hR.le
  clear hD ha hY hR hC
  go_enter Tryz.func69, Tryz.ntmps69
  go_wp2_with fail
  rw [← hw0]
  clear hw0
  refine (cDual_ok HA.out.1 (HA.out.2.1.below HW.out.1) (fun wx hx => HC.out _ (bel_up' HW.out.1 hx))).mono ?_
  rintro x w1 ⟨k', R', ro, rc, rfl, hmv, hred, hb1⟩
  have hu := Dul.uniq (fld HA.out.1) HA.out.2.2.2.1 hred (fun v => Iff.rfl)
  obtain ⟨hu1, hu2⟩ := hu
  subst hu1
  obtain ⟨w2, hw2⟩ : ∃ w2, w2 = w1.alloc (.cells #[.int .i64 D.q, .int .i64 (my : Nat), .slice ro k rc] 35) := ⟨_, rfl⟩
  have H2 : Hid (Below w.heap.size w w2 ∧ CB w.heap.size D.q my (.slice ao m ca) w2 ∧ CB w1.heap.size D.q my (.slice ro k rc) w2 ∧ RL (.slice ro k rc) k my R w2) := by
    have hal : Below w1.heap.size w1 w2 := by rw [hw2]; exact (Below.refl _ _).alloc (Nat.le_refl _) _
    exact ⟨bel_up' (bel_up' HW.out.1 hb1) hal, (HW.out.2.keep hb1).keep hal, by rw [hw2]; exact CB.new _ _ _ _, (hmv.below hal).rl.congr (fun i hi => (hu2 i hi).symm)⟩
  obtain ⟨p0, p1, p2⟩ := HW.out.2.keep hb1
  have hlt0 : w.heap.size < w1.heap.size := cell_lt p0
  clear hmv hred hu2 hb1
  go_wp2_with fail
  rw [← hw2]
  clear hw2 p0 p1 p2
  refine (cnum_ok HA.out.1 (HA.out.2.2.1.below H2.out.1) HA.out.2.2.2.2).mono ?_
  rintro x w3 ⟨F, T, g, rfl, hat, hF, hT, hb3⟩
  have H3 : Hid (Below w.heap.size w w3 ∧ CB w1.heap.size D.q my (.slice ro k rc) w3 ∧ RL (.slice ro k rc) k my R w3 ∧ FAt F T D g w3 ∧ Sl yo my (zc my y) w3 ∧ LtB yo w3.heap.size) := by
    have hb := bel_up' H2.out.1 hb3
    have hA := HA.out.2.2.1.below hb
    exact ⟨hb, H2.out.2.2.1.keep hb3, H2.out.2.2.2.below hb3, hat, has_sl (nchk_ok HA.out.2.2.2.2).2 hA.sl, hA.lt⟩
  clear hat hF hT hb3
  obtain ⟨p0, p1, p2⟩ := H3.out.2.1
  have hltb : w1.heap.size < w3.heap.size := cell_lt p0
  go_wp2_with (at_make; refine make_int rfl _ _ rfl _ k rfl rfl (by omega) (by omega) ?_; intro w4 hown4 hgrow4; have hb4 : Below w3.heap.size w3 w4 := below_grown hgrow4 (Nat.le_refl _) (fun k hk => by simp at hk); have hcb4 := H3.out.2.1.keep hb4; obtain ⟨r0, r1, r2⟩ := hcb4)
  have H4 : Hid (Row w3.heap.size k pnil w4 ∧ Below w3.heap.size w3 w4) := ⟨row_zeros hown4, hb4⟩
  clear hown4 hgrow4 hb4 r0 r1 r2 p0 p1 p2
  obtain ⟨G, hG⟩ : ∃ G, G = w3.heap.size := ⟨_, rfl⟩
  rw [← hG] at H4 ⊢
  have hG0 : w3.heap.size ≤ G := by omega
  have HGe : Hid (G = w3.heap.size) := hG
  clear hG
  go_loopw [41] (fun vi wr => ∃ i : Nat, i ≤ k ∧ vi = .int .i64 i ∧ Hid (Row G k (syn D R (zc my y) my i 0) wr ∧ Below w3.heap.size w3 wr)) (fun vi _ => k - (intOf vi).toNat)
  case atStart => exact ⟨0, by omega, rfl, H4.out.1.congr (fun c _ => by unfold syn; rw [if_neg (by omega)]; split <;> rfl), by rw [HGe.out] at H4; exact H4.out.2⟩
  case round =>
    clear H4
    obtain ⟨i, hi, rfl, HG⟩ := hrel
    rename World => wA
    by_cases hlt : i < k
    · have hib : (i : Int) < (k : Int) := by omega
      have hib0 : (0 : Int) ≤ (i : Int) := by omega
      obtain ⟨ro', rc', ev, hrl⟩ := H3.out.2.2.1
      cases ev
      obtain ⟨bR, oR, xr, cx, hro, hcr3, hsr⟩ := hrl i hlt
      subst hro
      have hcr := ((bcell HG.out.2).1 bR (oR + i) (cell_lt hcr3)).trans hcr3
      have HS : Hid (Sl xr my (R i) w3 ∧ LtB xr w3.heap.size ∧ El D (R i)) := ⟨hsr, rl_lt hsr hn1, HA.out.2.2.2.1.rows.1 i hlt⟩
      clear hrl hsr hcr3
      go_wp2_with fail
      go_loopw [48] (fun vj wi => ∃ j : Nat, j ≤ my ∧ vj = .int .i64 j ∧ Hid (Row G k (syn D R (zc my y) my i j) wi ∧ Below w3.heap.size w3 wi)) (fun vj _ => my - (intOf vj).toNat)
      case atStart => exact ⟨0, by omega, rfl, HG.out.1, HG.out.2⟩
      case round =>
        clear hcr HG
        obtain ⟨j, hj, rfl, HJ⟩ := hrel
        rename World => wC
        by_cases hjn : j < my
        · have hjb : (j : Int) < (my : Int) := by omega
          have hjb0 : (0 : Int) ≤ (j : Int) := by omega
          have hb := HJ.out.2
          obtain ⟨bY, oY, hyo, hcy⟩ := (H3.out.2.2.2.2.1.below hb H3.out.2.2.2.2.2) j hjn
          subst hyo
          obtain ⟨bx, ox, hxr, hcx⟩ := (HS.out.1.below hb HS.out.2.1) j hjn
          subst hxr
          obtain ⟨x, hx⟩ : ∃ x, x = R i j := ⟨_, rfl⟩
          rw [← hx] at hcx
          obtain ⟨t, ht⟩ : ∃ t, t = zc my y j := ⟨_, rfl⟩
          rw [← ht] at hcy
          obtain ⟨u, hu⟩ : ∃ u, u = dot D (R i) (zc my y) j := ⟨_, rfl⟩
          have hco : wC.cell? ⟨G, i, none⟩ = some (.int .i64 (u : Nat)) := by
            have h := HJ.out.1.cell i hlt
            unfold syn at h
            rw [if_neg (by omega), if_pos rfl, ← hu] at h; exact h
          have hfo := HJ.out.1.free i
          obtain ⟨p, hp⟩ : ∃ p, p = D.mul x t := ⟨_, rfl⟩
          obtain ⟨v, hv⟩ : ∃ v, v = D.ad u p := ⟨_, rfl⟩
          have hatA := H3.out.2.2.2.1.below hb H3.out.2.2.2.1.ltF H3.out.2.2.2.1.ltT
          have F' := fld HA.out.1
          have HC1 : Hid (∀ d, Calls Tryz.prog 105 #[.pointer (some ⟨F, 0, none⟩), .int .i64 (x : Nat), .int .i64 (t : Nat)] (wC.drewN d) fun e w' => e = .returned (.int .i64 (p : Nat)) ∧ ∃ k, w' = (wC.drewN d).drewN k) := fun d => by
            rw [hp]
            exact mul_nat HA.out.1 (hatA.drewN d) (by rw [hx]; exact HS.out.2.2 j) (by rw [ht]; exact zc_lt HA.out.2.2.2.2 hjn)
          have HC2 : Hid (∀ d, Calls Tryz.prog 104 #[.pointer (some ⟨F, 0, none⟩), .int .i64 (u : Nat), .int .i64 (p : Nat)] (wC.drewN d) fun e w' => e = .returned (.int .i64 (v : Nat)) ∧ ∃ k, w' = (wC.drewN d).drewN k) := fun d => by
            rw [hv]
            exact add_nat HA.out.1 (hatA.drewN d) (by rw [hu]; exact dot_lt F' _ _ _) (by rw [hp]; exact F'.mul_lt _ _)
          have HV : Hid (Row G k (syn D R (zc my y) my i j) wC ∧ Below w3.heap.size w3 wC ∧ v = dot D (R i) (zc my y) (j + 1)) := ⟨HJ.out.1, HJ.out.2, by rw [hv, hp, hu, hx, ht]; rfl⟩
          clear hx ht hu hp hv hatA HJ hb F'
          go_wp2
          refine quiet_tail 16 (by kernel_rfl) (by kernel_rfl) ?_
          simp only [List.take_succ_cons, List.take_zero, List.drop_succ_cons, List.drop_zero]
          repeat (go_big_quiet_step (first | (go_at_call 105; exact Calls.quiet_of (HC1.out _)) | (go_at_call 104; exact Calls.quiet_of (HC2.out _))))
          refine wpQuiet_nil ?_
          intro _ hw'
          obtain ⟨nq, hw''⟩ := hw'
          subst hw''
          go_wp2
          go_roundw
          case rel =>
            refine ⟨j + 1, by omega, by go_num, (HV.out.1.drewN nq).store i v (fun c _ => ?_), (below_drewN2 HV.out.2.1 nq).setCell (show w3.heap.size ≤ G from hG0) _⟩
            unfold syn
            by_cases e : c = i
            · rw [if_pos e, if_neg (by omega), if_pos e, e]; exact HV.out.2.2.symm
            · rw [if_neg e, if_neg e, if_neg e]
          case measure => simp [intOf]; omega
        · have hjb : ¬ (j : Int) < (my : Int) := by omega
          have hje : my = j := by omega
          have HK2 : Hid (Row G k (syn D R (zc my y) my (i + 1) 0) wC) := HJ.out.1.congr (fun c hc => by
            unfold syn
            by_cases e : c < i
            · rw [if_pos e, if_pos (by omega)]
            · by_cases e2 : c = i
              · rw [if_neg e, if_pos e2, if_pos (by omega), ← hje]
              · rw [if_neg e, if_neg e2, if_neg (by omega)]; split <;> rfl)
          clear hje
          go_wp2
          go_roundw
          case rel => exact ⟨i + 1, by omega, by go_num, HK2.out, HJ.out.2⟩
          case measure => simp [intOf]; omega
    · have hib : ¬ (i : Int) < (k : Int) := by omega
      have hie : k = i := by omega
      subst hie
      have HZ : Hid (Below w.heap.size w wA ∧ Row G k (fun i => dot D (R i) (zc my y) my) wA ∧ w.heap.size ≤ G) := ⟨bel_up' H3.out.1 HG.out.2, HG.out.1.congr (fun c hc => by unfold syn; rw [if_pos hc]), by have := H3.out.1.size; omega⟩
      go_wp2
      go_ret2
      exact ⟨⟨G, k, by simp [go_sem], HZ.out.2.1, HZ.out.2.2, Nat.le_refl _, by omega⟩, HZ.out.1⟩
end Go.Proofs.YtppggchhkckobaaGreat

/- Has. -/
namespace Go.Proofs.YtppggchhkckobaaGreat
open Go.RowKit Go.Sort

theorem slz_of {ao : Option Addr} {n : Nat} {a : Nat → Nat} {w : World} (h : Sl ao n a w) : SlZ ao n (fun i => ((a i : Nat) : Int)) w := h
set_option maxHeartbeats 4000000 in
set_option maxRecDepth 100000 in
theorem cHas_ok (q n : Int) {ao yo : Option Addr} {m ca my cy k : Nat} {v : Nat → Nat} {w : World} (hk : k ≤ 1000)
    (hS : ∀ wx, Below w.heap.size w wx → Calls Tryz.prog 69 #[.agg #[.int .i64 q, .int .i64 n, .slice ao m ca], .slice yo my cy] wx fun x w' => LstP wx.heap.size k v x w' ∧ Below wx.heap.size wx w') :
    Calls Tryz.prog 27 #[.agg #[.int .i64 q, .int .i64 n, .slice ao m ca], .slice yo my cy] w fun x w' => x = .returned (.tuple #[.bool (decide (ct (fun i => !decide (((v i : Nat) : Int) = 0)) k = 0)), .int .i64 0]) ∧ Below w.heap.size w w' := by
  obtain ⟨w0, hw0⟩ : ∃ w0, w0 = w.alloc (.cells #[.int .i64 q, .int .i64 n, .slice ao m ca] 35) := ⟨_, rfl⟩
  have HW : Hid (Below w.heap.size w w0) := by rw [hw0]; exact (Below.refl _ _).alloc (Nat.le_refl _) _
  have HS : Hid _ := hS
  obtain ⟨t, ht⟩ : ∃ t, t = ct (fun i => !decide (((v i : Nat) : Int) = 0)) k := ⟨_, rfl⟩
  obtain ⟨b, hb⟩ : ∃ b, b = decide (t = 0) := ⟨_, rfl⟩
  rw [← ht, ← hb]
  have hz : (((t : Nat) : Int) == 0) = b := by
    rw [hb]
    by_cases h : t = 0
    · rw [h]; rfl
    · rw [decide_eq_false h, beq_eq_false_iff_ne]; omega
  have HT : Hid (t = ct (fun i => !decide (((v i : Nat) : Int) = 0)) k) := ht
  clear hS ht hb
  go_enter Tryz.func27, Tryz.ntmps27
  go_wp2_with fail
  rw [← hw0]
  clear hw0
  refine (HS.out _ HW.out).mono ?_
  rintro x w1 ⟨⟨gr, c, rfl, hrow, hg, hc, _⟩, hb1⟩
  have H1 : Hid (Below w.heap.size w w1 ∧ Row gr k v w1) := ⟨bel_up' HW.out hb1, hrow⟩
  have HWt : Hid (∀ cc, Calls Tryz.prog 70 #[.slice (some ⟨gr, 0, none⟩) k cc] w1 fun e w' => e = .returned (.int .i64 (t : Nat)) ∧ Below w1.heap.size w1 w') := fun cc => by
    rw [HT.out]
    exact weight_any (slz_of (H1.out.2.sl (Nat.le_refl _))) (by intro x hx; cases hx; exact H1.out.2.lt) hk
  clear hb1 hrow hg hc
  go_wp2_with fail
  refine (HWt.out _).mono ?_
  rintro x w2 ⟨rfl, hb2⟩
  have H2 : Hid (Below w.heap.size w w2) := bel_up' H1.out.1 hb2
  clear hb2
  go_wp2
  go_ret2
  exact ⟨by simp [go_sem], H2.out⟩
end Go.Proofs.YtppggchhkckobaaGreat

/- Plain mathematics: what makes rows 0 is what the null rows span; the dual of the dual. No Go text here. -/
namespace Go.Proofs.YtppggchhkckobaaGreat

theorem lcR_spn {D : FD} (F : Fld D) {K : Nat} {R : Nat → Nat → Nat} (p v : Nat → Nat) (hR : ∀ i, i < K → El D (R i)) : ∀ k, k ≤ K → Spn D (RowsOf K R) (lcR D R p v k)
  | 0, _ => spn_nil D _
  | k + 1, h => spn_add F (lcR_spn F p v hR k (by omega)) (spn_scale F _ (spn_mem F (hR k (by omega)) ⟨k, by omega, rfl⟩))
/-- At its own place a sum of rows is what was asked for. -/
theorem lcR_own {D : FD} (F : Fld D) {K : Nat} {R : Nat → Nat → Nat} {p v : Nat → Nat} (hv : El D v) (ho : ∀ i j, i < K → j < K → R i (p j) = if i = j then 1 else 0) {j : Nat} (hj : j < K) : ∀ k, k ≤ K → lcR D R p v k (p j) = if j < k then v (p j) else 0
  | 0, _ => by rw [if_neg (by omega)]; rfl
  | k + 1, h => by
    show D.ad (lcR D R p v k (p j)) (D.mul (v (p k)) (R k (p j))) = _
    rw [lcR_own F hv ho hj k (by omega), ho k j (by omega) hj]
    by_cases e : k = j
    · subst e
      rw [if_neg (by omega), if_pos rfl, if_pos (by omega), mul1 F (hv _), zero_ad F (hv _)]
    · rw [if_neg e, mul0 F]
      by_cases e2 : j < k
      · rw [if_pos e2, if_pos (by omega), ad_zero F (hv _)]
      · rw [if_neg e2, if_neg (by omega), ad_zero F (zero_lt' F)]
theorem dot_only {D : FD} (F : Fld D) {a b : Nat → Nat} {t : Nat} : ∀ n, t < n → (∀ j, j < n → j ≠ t → D.mul (a j) (b j) = 0) → dot D a b n = D.mul (a t) (b t)
  | 0, h, _ => absurd h (by omega)
  | n + 1, h, hz => by
    show D.ad (dot D a b n) (D.mul (a n) (b n)) = _
    by_cases e : n = t
    · subst e
      have h0 : ∀ m, m ≤ n → dot D a b m = 0 := fun m => by
        induction m with
        | zero => intro _; rfl
        | succ m ih =>
          intro hm
          show D.ad (dot D a b m) (D.mul (a m) (b m)) = 0
          rw [ih (by omega), hz m (by omega) (by omega), ad_zero F (zero_lt' F)]
      rw [h0 n (Nat.le_refl _), zero_ad F (F.mul_lt _ _)]
    · rw [hz n (by omega) e, ad_zero F (dot_lt F _ _ _)]
      exact dot_only F n (by omega) (fun j hj => hz j (by omega))
theorem fcs_all {k : Nat} {p : Nat → Nat} {c : Nat} (hc : ∀ i, i < k → p i ≠ c) : ∀ n, c < n → ∃ i, i < nct k p n ∧ fcs k p n i = c
  | 0, h => absurd h (by omega)
  | n + 1, h => by
    by_cases e : c = n
    · subst e
      exact ⟨nct k p c, by rw [nct_yes hc]; omega, fcs_at k p c⟩
    · obtain ⟨i, hi, hf⟩ := fcs_all hc n (by omega)
      refine ⟨i, ?_, by rw [fcs_lo hi]; exact hf⟩
      by_cases h2 : ∀ i, i < k → p i ≠ n
      · rw [nct_yes h2]; omega
      · rw [nct_no h2]; exact hi

theorem dot_nrv {D : FD} (F : Fld D) {n k : Nat} {R : Nat → Nat → Nat} {p : Nat → Nat} (h : RRE D n k R p) {i c : Nat} (hi : i < k) (hc : c < n) (hf : ∀ j, j < k → p j ≠ c) : ∀ r, r ≤ k → dot D (R i) (nrv D R p c r) n = if i < r then 0 else R i c
  | 0, _ => by rw [if_neg (by omega)]; exact dot_unit F (h.el i hi c) hc
  | r + 1, hr => by
    have e : nrv D R p c (r + 1) = fun t => if t = p r then D.ng (R r c) else nrv D R p c r t := rfl
    have h0 : nrv D R p c r (p r) = 0 := by
      rw [nrv_free r (fun j hj e => by have := h.mono j r hj (by omega); omega), if_neg (hf r (by omega))]
    rw [e, dot_put F h0 n (h.lt r (by omega)), dot_nrv F h hi hc hf r (by omega)]
    by_cases e2 : i = r
    · subst e2
      rw [if_neg (by omega), if_pos (by omega), h.one i hi, omul F (ng_lt F (h.el i hi c)), ad_ng F (h.el i hi c)]
    · rw [h.zero i r hi (by omega) e2, zmul F]
      by_cases e3 : i < r
      · rw [if_pos e3, if_pos (by omega), ad_zero F (zero_lt' F)]
      · rw [if_neg e3, if_neg (by omega), ad_zero F (h.el i hi c)]
theorem nul_orth {D : FD} (F : Fld D) {n k : Nat} {R : Nat → Nat → Nat} {p : Nat → Nat} (h : RRE D n k R p) {i j : Nat} (hi : i < k) (hj : j < nct k p n) : dot D (R i) (nul D R p k n j) n = 0 := by
  have h1 := fcs_ok n j hj
  have h2 := dot_nrv F h hi h1.1 h1.2 k (Nat.le_refl _)
  rw [if_pos hi] at h2
  exact h2
theorem orth_nul {D : FD} (F : Fld D) {n k : Nat} {R : Nat → Nat → Nat} {p : Nat → Nat} (h : RRE D n k R p) {v : Nat → Nat} (hv : El D v) (hb : Bd n v) (ho : ∀ i, i < k → dot D (R i) v n = 0) : Spn D (RowsOf (nct k p n) (nul D R p k n)) v := by
  have hs := lcR_spn F (K := nct k p n) (R := nul D R p k n) (fcs k p n) v (fun i _ => nul_el F h.el n i) (nct k p n) (Nat.le_refl _)
  obtain ⟨s, hse⟩ : ∃ s, s = lcR D (nul D R p k n) (fcs k p n) v (nct k p n) := ⟨_, rfl⟩
  rw [← hse] at hs
  have hsel : El D s := hs.el F
  have hu : ∀ c, D.sb (v c) (s c) = 0 := by
    have horth : ∀ i, i < k → dot D (R i) (psub D v s) n = 0 := fun i hi => by
      have e : dot D v (R i) n = 0 := by rw [dot_comm F]; exact ho i hi
      have e2 : dot D s (R i) n = 0 := dot_spn F hs (fun x ⟨j, hj, hx⟩ => by rw [hx, dot_comm F]; exact nul_orth F h hi hj)
      have e3 : psub D v s = padd D v (pscale D (D.ng 1) s) := by
        funext c
        show D.sb (v c) (s c) = D.ad (v c) (D.mul (D.ng 1) (s c))
        rw [F.mul_comm, mul_ng F (one_lt' F), mul1 F (hsel c)]; rfl
      rw [dot_comm F, e3, dot_add F hv (el_scale F _ _), dot_scale F, e, e2, mul0 F, ad_zero F (zero_lt' F)]
    have hfree : ∀ c, c < n → (∀ j, j < k → p j ≠ c) → D.sb (v c) (s c) = 0 := fun c hc hf => by
      obtain ⟨j, hj, ej⟩ := fcs_all hf n hc
      have h1 := lcR_own F (K := nct k p n) (R := nul D R p k n) (p := fcs k p n) hv (fun a b ha hb => nul_one ha hb) hj (nct k p n) (Nat.le_refl _)
      rw [if_pos hj, ej, ← hse] at h1
      rw [h1, sb_self F (hv c)]
    intro c
    by_cases hc : c < n
    · by_cases hf : ∀ j, j < k → p j ≠ c
      · exact hfree c hc hf
      · obtain ⟨i, hi, e⟩ : ∃ i, i < k ∧ p i = c := Classical.byContradiction (fun hn => hf (fun j hj e => hn ⟨j, hj, e⟩))
        subst e
        have h1 := dot_only F (a := R i) (b := psub D v s) n (h.lt i hi) (fun j hj hne => by
          by_cases hf2 : ∀ l, l < k → p l ≠ j
          · show D.mul (R i j) (D.sb (v j) (s j)) = 0
            rw [hfree j hj hf2, mul0 F]
          · obtain ⟨l, hl, e⟩ : ∃ l, l < k ∧ p l = j := Classical.byContradiction (fun hn => hf2 (fun j hj e => hn ⟨j, hj, e⟩))
            subst e
            rw [h.zero i l hi hl (fun e => hne (by rw [e])), zmul F])
        rw [horth i hi, h.one i hi] at h1
        have h2 : D.mul 1 (D.sb (v (p i)) (s (p i))) = 0 := h1.symm
        rw [omul F (sb_lt F (hv _) (hsel _))] at h2
        exact h2
    · have h1 : s c = 0 := by
        have hsb : ∀ k', k' ≤ nct k p n → lcR D (nul D R p k n) (fcs k p n) v k' c = 0 := fun k' hk' => lcR_at F _ _ _ c k' (fun i hi => by rw [nul_bd h.lt (by omega) c (by omega), mul0 F])
        rw [hse]; exact hsb _ (Nat.le_refl _)
      rw [h1, hb c (by omega), sb_self F (zero_lt' F)]
  have e : v = s := by
    funext c
    exact sb_eq_zero F (hv c) (hsel c) (hu c)
  rw [e]; exact hs
/-- What makes rows 0 is what their dual spans. -/
theorem Dul.iff {D : FD} (F : Fld D) {n m k2 : Nat} {M R2 : Nat → Nat → Nat} (h : Dul D n m M k2 R2) (hM : ∀ i, i < m → El D (M i)) (v : Nat → Nat) : Spn D (RowsOf k2 R2) v ↔ El D v ∧ Bd n v ∧ ∀ i, i < m → dot D (M i) v n = 0 := by
  obtain ⟨k, R, p, p2, h1, h2, h3, h4, _⟩ := h
  rw [h4 v]
  constructor
  · intro hs
    refine ⟨hs.el F, ?_, fun i hi => ?_⟩
    · exact spn_ind (Q := Bd n) (fun _ _ => rfl) (fun u w hu hw c hc => by show D.ad (u c) (w c) = 0; rw [hu c hc, hw c hc, ad_zero F (zero_lt' F)]) (fun s u hu c hc => by show D.mul s (u c) = 0; rw [hu c hc, mul0 F]) (fun u ⟨j, hj, e⟩ => by rw [e]; exact nul_bd h1.lt hj) hs
    · have hMi := (h2 _).2 (spn_mem F (hM i hi) ⟨i, hi, rfl⟩)
      refine dot_spn F hMi (fun u ⟨j, hj, e⟩ => ?_)
      rw [e, dot_comm F]
      exact dot_spn F hs (fun x ⟨l, hl, ex⟩ => by rw [ex, dot_comm F]; exact nul_orth F h1 hj hl)
  · rintro ⟨he, hb, ho⟩
    refine orth_nul F h1 he hb (fun i hi => ?_)
    have hRi := (h2 _).1 (spn_mem F (h1.el i hi) ⟨i, hi, rfl⟩)
    exact dot_spn F hRi (fun u ⟨j, hj, e⟩ => by rw [e]; exact ho j hj)
end Go.Proofs.YtppggchhkckobaaGreat

/- Plain mathematics: the dual of the dual. No Go text here. -/
namespace Go.Proofs.YtppggchhkckobaaGreat

end Go.Proofs.YtppggchhkckobaaGreat

/- Plain mathematics: how many rows sums and meets of codes have. No Go text here. -/
namespace Go.Proofs.YtppggchhkckobaaGreat

end Go.Proofs.YtppggchhkckobaaGreat

/- Plain mathematics: the rows of sum and meet together are both's. No Go text here. -/
namespace Go.Proofs.YtppggchhkckobaaGreat

theorem RRE.take {D : FD} {n k j : Nat} {R : Nat → Nat → Nat} {p : Nat → Nat} (h : RRE D n k R p) (hj : j ≤ k) : RRE D n j R p :=
  ⟨fun i hi => h.el i (by omega), fun i hi => h.bd i (by omega), fun i hi => h.lt i (by omega), fun a b h1 h2 => h.mono a b h1 (by omega), fun i hi => h.one i (by omega), fun a b h1 h2 => h.zero a b (by omega) (by omega), fun i c hi => h.lead i c (by omega)⟩
theorem orth_back {D : FD} (F : Fld D) {n k : Nat} {R : Nat → Nat → Nat} {p : Nat → Nat} (h : RRE D n k R p) {v : Nat → Nat} (hv : El D v) (hb : Bd n v) (ho : ∀ j, j < nct k p n → dot D (nul D R p k n j) v n = 0) : Spn D (RowsOf k R) v := by
  have hs := lcR_spn F (K := k) (R := R) p v h.el k (Nat.le_refl _)
  obtain ⟨s, hse⟩ : ∃ s, s = lcR D R p v k := ⟨_, rfl⟩
  rw [← hse] at hs
  have hsel : El D s := hs.el F
  have hpiv : ∀ i, i < k → D.sb (v (p i)) (s (p i)) = 0 := fun i hi => by
    have h1 := lcR_own F (K := k) (R := R) (p := p) hv (fun a b ha hb => by
      by_cases e : a = b
      · subst e; rw [if_pos rfl, h.one a ha]
      · rw [if_neg e, h.zero a b ha hb e]) hi k (Nat.le_refl _)
    rw [if_pos hi, ← hse] at h1
    rw [h1, sb_self F (hv _)]
  have horth : ∀ j, j < nct k p n → dot D (nul D R p k n j) (psub D v s) n = 0 := fun j hj => by
    have e : dot D v (nul D R p k n j) n = 0 := by rw [dot_comm F]; exact ho j hj
    have e2 : dot D s (nul D R p k n j) n = 0 := dot_spn F hs (fun x ⟨i, hi, hx⟩ => by rw [hx]; exact nul_orth F h hi hj)
    have e3 : psub D v s = padd D v (pscale D (D.ng 1) s) := by
      funext c
      show D.sb (v c) (s c) = D.ad (v c) (D.mul (D.ng 1) (s c))
      rw [F.mul_comm, mul_ng F (one_lt' F), mul1 F (hsel c)]; rfl
    rw [dot_comm F, e3, dot_add F hv (el_scale F _ _), dot_scale F, e, e2, mul0 F, ad_zero F (zero_lt' F)]
  have hu : ∀ c, D.sb (v c) (s c) = 0 := fun c => by
    by_cases hc : c < n
    · by_cases hf : ∀ j, j < k → p j ≠ c
      · obtain ⟨j, hj, ej⟩ := fcs_all hf n hc
        subst ej
        have h1 := dot_only F (a := nul D R p k n j) (b := psub D v s) n hc (fun t ht hne => by
          by_cases hf2 : ∀ l, l < k → p l ≠ t
          · obtain ⟨l, hl, el⟩ := fcs_all hf2 n ht
            subst el
            rw [nul_one hj hl, if_neg (fun e => hne (by rw [e])), zmul F]
          · obtain ⟨l, hl, e⟩ : ∃ l, l < k ∧ p l = t := Classical.byContradiction (fun hn => hf2 (fun j hj e => hn ⟨j, hj, e⟩))
            subst e
            show D.mul _ (D.sb (v (p l)) (s (p l))) = 0
            rw [hpiv l hl, mul0 F])
        rw [horth j hj, nul_one hj hj, if_pos rfl] at h1
        have h2 : D.mul 1 (D.sb (v (fcs k p n j)) (s (fcs k p n j))) = 0 := h1.symm
        rw [omul F (sb_lt F (hv _) (hsel _))] at h2
        exact h2
      · obtain ⟨i, hi, e⟩ : ∃ i, i < k ∧ p i = c := Classical.byContradiction (fun hn => hf (fun j hj e => hn ⟨j, hj, e⟩))
        rw [← e]; exact hpiv i hi
    · have h1 : s c = 0 := by rw [hse]; exact lcR_at F _ _ _ c k (fun i hi => by rw [h.bd i hi c (by omega), mul0 F])
      rw [h1, hb c (by omega), sb_self F (zero_lt' F)]
  have e : v = s := by
    funext c
    exact sb_eq_zero F (hv c) (hsel c) (hu c)
  rw [e]; exact hs
/-- What the dual makes 0. -/
theorem Dul.back {D : FD} (F : Fld D) {n m k2 : Nat} {M R2 : Nat → Nat → Nat} (h : Dul D n m M k2 R2) (hM : ∀ i, i < m → El D (M i) ∧ Bd n (M i)) (v : Nat → Nat) : Spn D (RowsOf m M) v ↔ El D v ∧ Bd n v ∧ ∀ i, i < k2 → dot D (R2 i) v n = 0 := by
  have hR2 := h.rows
  have i2 := h.iff F (fun i hi => (hM i hi).1)
  obtain ⟨k, R, p, p2, h1, h2, h3, h4, e2⟩ := h
  constructor
  · intro hv
    refine ⟨hv.el F, ?_, fun i hi => ?_⟩
    · exact spn_ind (Q := Bd n) (fun _ _ => rfl) (fun u w hu hw c hc => by show D.ad (u c) (w c) = 0; rw [hu c hc, hw c hc, ad_zero F (zero_lt' F)]) (fun s u hu c hc => by show D.mul s (u c) = 0; rw [hu c hc, mul0 F]) (fun u ⟨j, hj, e⟩ => by rw [e]; exact (hM j hj).2) hv
    · rw [dot_comm F]
      refine dot_spn F hv (fun x ⟨j, hj, e⟩ => ?_)
      rw [e]
      exact ((i2 (R2 i)).1 (spn_mem F (hR2.1 i hi) ⟨i, hi, rfl⟩)).2.2 j hj
  · rintro ⟨he, hb, ho⟩
    refine (h2 v).1 (orth_back F h1 he hb (fun j hj => ?_))
    have hn := (h4 _).2 (spn_mem F (nul_el F h1.el n j) ⟨j, hj, rfl⟩)
    exact dot_spn F hn (fun x ⟨i, hi, e⟩ => by rw [e]; exact ho i hi)
end Go.Proofs.YtppggchhkckobaaGreat
