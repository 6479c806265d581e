/- The reference's matrices: the one form of what rows span (Reduce). -/
import Derived.Test.YtjkncdmbcckcdaaZT7
import Derived.Test.YtjkncdmbcckcdaaZT8
namespace Go.Proofs.Ytjkncdmbcckcdaa
open Go.RowKit Go.Sort

/-- While rows are put in, one by one: what there is of the first i. -/
structure RedSt (D : FD) (gen : Nat) (vm : Value) (n : Nat) (M : Nat → Nat → Nat) (w : World) (i : Nat) (vr vp : Value) (wr : World) (k : Nat) (R : Nat → Nat → Nat) (p : Nat → Nat) : Prop where
  rows : LLs (w.heap.size + 1) vr (rl k n R) wr
  piv : OwnI (w.heap.size + 1) vp (zl k fun j => ((p j : Nat) : Int)) wr
  rre : RRE D (n + 1) k R p
  spn : ∀ v, Spn D (RowsOf k R) v ↔ Spn D (RowsOf i M) v
  many : k = i ∨ ∃ j, j < i ∧ Spn D (RowsOf j M) (M j)
  bel : Below w.heap.size w wr
  box : Box w.heap.size D gen vm wr
theorem red_first {D : FD} {gen : Nat} {vm : Value} {n : Nat} {M : Nat → Nat → Nat} {w wr : World} (hb : Below w.heap.size w wr) (hx : Box w.heap.size D gen vm wr) : RedSt D gen vm n M w 0 (.slice none 0 0) (.slice none 0 0) wr 0 (fun _ => pnil) (fun _ => 0) :=
  ⟨LLs.nil _ _, OwnI.nil _ _, ⟨fun i hi => by omega, fun i hi => by omega, fun i hi => by omega, fun i j _ hj => by omega, fun i hi => by omega, fun i j hi => by omega, fun i c hi => by omega⟩, fun v => by
    rw [spn_congr (P := RowsOf 0 fun _ => pnil) (Q := RowsOf 0 M)]
    exact fun u => ⟨fun ⟨i, hi, _⟩ => by omega, fun ⟨i, hi, _⟩ => by omega⟩, Or.inl rfl, hb, hx⟩

theorem red_put_st {D : FD} (hD : D ∈ fieldsL) {gen : Nat} {vm : Value} {n : Nat} {M : Nat → Nat → Nat} {w wA wE wH wL : World} {i s q a inv g9 c9 rc rc' : Nat} {vr vp v7 : Value} {ro ro' : Option Addr} {R : Nat → Nat → Nat} {p r r' : Nat → Nat} {vs' : Nat → Value}
    (hMe : ∀ j, j ≤ i → El D (M j)) (HG : RedSt D gen vm n M w i vr vp wA s R p) (HL : Lft D (n + 1) s R p (M i) s r) (hr' : r' = pscale D inv r) (hI : D.mul (r a) inv = 1) (hZ : ∀ c, c < a → r c = 0)
    (hQ1 : ∀ j, j < q → p j < a) (hQ2 : ∀ j, q ≤ j → j < s → a < p j) (hq : q ≤ s) (hal : a < n + 1)
    (h1 : RwsO (w.heap.size + 1) ro s rc n (fun i => plss D (R i) r' (R i a)) vs' wE) (h3 : Elm (.slice (some ⟨g9, 0, none⟩) (n + 1) c9) (n, r') wE) (h4 : Below w.heap.size w wE) (h5 : Box w.heap.size D gen vm wE) (hsE : w.heap.size < wE.heap.size)
    (hW1 : OwnV wE.heap.size (.slice ro' (s + 1) rc') (vl (s + 1) (ins q (.slice (some ⟨g9, 0, none⟩) (n + 1) c9) vs')) wH) (hW2 : Below wE.heap.size wE wH)
    (hK1 : OwnI wH.heap.size v7 (zl (s + 1) (ins q ((a : Nat) : Int) (fun j => ((p j : Nat) : Int)))) wL) (hK2 : Below wH.heap.size wH wL) :
    RedSt D gen vm n M w (i + 1) (.slice ro' (s + 1) rc') v7 wL (s + 1) (ins q r' fun i => plss D (R i) r' (R i a)) (ins q a p) := by
  have F := fld hD
  have hsE2 := h4.size
  have hbEL := bel_up' hW2 hK2
  have hsW := hW2.size
  have er' : El D r' := by rw [hr']; exact el_scale F _ _
  have e1 : r' a = 1 := by rw [hr']; show D.mul inv (r a) = 1; rw [F.mul_comm]; exact hI
  have ez : ∀ c, r c = 0 → r' c = 0 := fun c hc => by rw [hr']; show D.mul inv (r c) = 0; rw [hc, mul0 F]
  have hrp := red_put F HG.rre hMe HG.spn HL (inv := inv) (at' := a) (t := q) hI hq
  rw [← hr'] at hrp
  obtain ⟨_, _, e2, hn2, _⟩ := hW1.open
  rw [vl_len] at e2
  cases e2
  have hrow : RwsO (w.heap.size + 1) ro' (s + 1) rc' n (ins q r' fun i => plss D (R i) r' (R i a)) (ins q (.slice (some ⟨g9, 0, none⟩) (n + 1) c9) vs') wL := by
    refine ⟨(hW1.below hK2 (Nat.le_refl _)).mono (by omega), fun j hj => ?_, hn2⟩
    rcases Nat.lt_trichotomy j q with e | e | e
    · rw [ins_lt e, ins_lt e]; exact (h1.row j (by omega)).below hbEL (Nat.le_refl _)
    · rw [e, ins_at, ins_at]; exact h3.below hbEL (Nat.le_refl _)
    · rw [ins_gt e, ins_gt e]; exact (h1.row (j - 1) (by omega)).below hbEL (Nat.le_refl _)
  refine ⟨hrow.lls, ?_, rre_ins F HG.rre er' ?_ hal e1 (fun c hc => ez c (hZ c hc)) (fun j hj => ez _ (HL.zero j hj)) hq hQ1 hQ2, hrp, ?_, bel_up' h4 hbEL, h5.below hbEL hsE⟩
  · rw [ins_cast]
    exact hK1.mono (by omega)
  · rw [hr']
    exact fun c hc => by show D.mul inv (r c) = 0; rw [HL.bd c hc, mul0 F]
  · rcases HG.many with h | ⟨j, hj, h⟩
    · exact Or.inl (by omega)
    · exact Or.inr ⟨j, by omega, h⟩

set_option maxHeartbeats 8000000 in
set_option maxRecDepth 100000 in
theorem rreduce_any {D : FD} (hD : D ∈ fieldsL) (gen gm cm : Nat) {ao : Option Addr} {m n ca : Nat} {M : Nat → Nat → Nat} {w : World} (hm : m ≤ 1000) (hn : n ≤ 1000) (hel : ∀ i, i < m → El D (M i) ∧ Bd (n + 1) (M i)) (hA : MatR ao m n M w) (hM : ModAt D (.slice (some ⟨gm, 0, none⟩) (D.m + 1) cm) D.md w) :
    Calls Try.prog 92 #[.agg #[.int .i64 D.q, .int .i64 D.p, .int .i64 D.m, .int .i64 gen, .slice (some ⟨gm, 0, none⟩) (D.m + 1) cm], .slice ao m ca] w fun e w' => ∃ vr vp k R p, e = .returned (.tuple #[vr, vp]) ∧ k ≤ m ∧
      LLs w.heap.size vr (rl k n R) w' ∧ OwnI w.heap.size vp (zl k fun j => ((p j : Nat) : Int)) w' ∧ RRE D (n + 1) k R p ∧ (∀ v, Spn D (RowsOf k R) v ↔ Spn D (RowsOf m M) v) ∧ (k = m ∨ ∃ j, j < m ∧ Spn D (RowsOf j M) (M j)) ∧ Below w.heap.size w w' := by
  have hbl : Below w.heap.size w (w.alloc (.cells #[.int .i64 D.q, .int .i64 D.p, .int .i64 D.m, .int .i64 gen, .slice (some ⟨gm, 0, none⟩) (D.m + 1) cm] 27)) := (Below.refl _ _).alloc (Nat.le_refl _) _
  have HF : Hid (D ∈ fieldsL ∧ (∀ i, i < m → El D (M i) ∧ Bd (n + 1) (M i)) ∧ MatR ao m n M w ∧ ModAt D (.slice (some ⟨gm, 0, none⟩) (D.m + 1) cm) D.md w) := ⟨hD, hel, hA, hM⟩
  have HB0 : Hid (RedSt D gen (.slice (some ⟨gm, 0, none⟩) (D.m + 1) cm) n M w 0 (.slice none 0 0) (.slice none 0 0) (w.alloc (.cells #[.int .i64 D.q, .int .i64 D.p, .int .i64 D.m, .int .i64 gen, .slice (some ⟨gm, 0, none⟩) (D.m + 1) cm] 27)) 0 (fun _ => pnil) (fun _ => 0)) := red_first hbl (box_new D gen _ w)
  clear hD hel hA hM hbl
  go_enter Try.func92, Try.ntmps92
  go_wp2
  go_loopw [6, 7, 8] (fun vr vp vi wr => ∃ (i k : Nat) (R : Nat → Nat → Nat) (p : Nat → Nat), i ≤ m ∧ k ≤ i ∧ vi = .int .i64 i ∧ Hid (RedSt D gen (.slice (some ⟨gm, 0, none⟩) (D.m + 1) cm) n M w i vr vp wr k R p) ∧ w.heap.size < wr.heap.size) (fun _ _ vi _ => m - (intOf vi).toNat)
  case atStart => exact ⟨0, 0, _, _, by omega, by omega, rfl, HB0.out, by simp⟩
  case round =>
    clear HB0
    obtain ⟨i, k, R, p, hi, hki, rfl, HG, hsz⟩ := hrel
    rename World => wA
    by_cases hlt : i < m
    · have hib : (i : Int) < (m : Int) := by omega
      have hib0 : (0 : Int) ≤ (i : Int) := by omega
      obtain ⟨ro, rc, vs, hvr, hrw⟩ := HG.out.rows.rws
      obtain ⟨po, cP, hvp, hpa⟩ := HG.out.piv.argL
      subst hvr hvp
      obtain ⟨b, off, u, rfl, hcm, hru⟩ := (HF.out.2.2.1.below HG.out.bel) i hlt
      obtain ⟨A, cA, rfl, hsA, hlA, hnA, _, _⟩ := hru
      have HRW : Hid (RwsO (w.heap.size + 1) ro k rc n R vs wA ∧ ArgL po k cP (fun j => ((p j : Nat) : Int)) wA) := ⟨hrw, hpa⟩
      have HC : Hid (Calls Try.prog 46 #[.slice A (n + 1) cA] wA fun e w' => ∃ v, e = .returned v ∧ OwnP wA.heap.size v (n + 1) (M i) w' ∧ Below wA.heap.size wA w') := copy_any hsA (by omega) hnA hlA
      clear hsA hlA hnA hrw hpa
      go_wp2_with fail
      refine HC.out.mono ?_
      rintro e w1 ⟨v9, rfl, ho9, hb1⟩
      have H1 : Hid (Elm v9 (n, M i) w1 ∧ (∀ b, v9.ownBlock = some b → wA.heap.size ≤ b) ∧ Below wA.heap.size wA w1) := ⟨ho9.elm, ho9.block, hb1⟩
      clear ho9 hb1 HC hcm
      go_wp2_with fail
      go_loopw [9, 10] (fun v9 vt wi => ∃ (t : Nat) (r : Nat → Nat), t ≤ k ∧ vt = .int .i64 t ∧ Hid (Lft D (n + 1) k R p (M i) t r ∧ Elm v9 (n, r) wi ∧ (∀ b, v9.ownBlock = some b → wA.heap.size ≤ b) ∧ Below wA.heap.size wA wi)) (fun _ vt _ => k - (intOf vt).toNat)
      case atStart => exact ⟨0, M i, by omega, rfl, lft_first (fld HF.out.1) (HF.out.2.1 i hlt).1 (HF.out.2.1 i hlt).2, H1.out⟩
      case round =>
        clear H1
        obtain ⟨t, r, ht, rfl, HL⟩ := hrel
        rename World => wB
        obtain ⟨g9, c9, rfl, hc91, hc92, hr9⟩ := HL.out.2.1
        by_cases htk : t < k
        · have htb : (t : Int) < (k : Int) := by omega
          have htb0 : (0 : Int) ≤ (t : Int) := by omega
          have hpt := HG.out.rre.lt t htk
          have hptb : ((p t : Nat) : Int) < (n : Int) + 1 := by omega
          have hptb0 : (0 : Int) ≤ ((p t : Nat) : Int) := by omega
          obtain ⟨gR, rfl, hcR, _⟩ := (HRW.out.1.below HL.out.2.2.2).cell t htk
          obtain ⟨gP, oP, rfl, hcP0⟩ := (HRW.out.2.sl.below HL.out.2.2.2 HRW.out.2.lt) t htk
          have hcP : wB.cell? ⟨gP, oP + t, none⟩ = some (.int .i64 (p t : Nat)) := hcP0
          clear hcP0
          obtain ⟨x, hx⟩ : ∃ x, x = r (p t) := ⟨_, rfl⟩
          have hcr : wB.cell? ⟨g9, p t, none⟩ = some (.int .i64 (x : Nat)) := by rw [hx]; exact hr9.cell (p t) hpt
          have hxq : x < D.q := by rw [hx]; exact HL.out.1.el _
          obtain ⟨k0, k1, k2, k3, k4⟩ := HG.out.box.below HL.out.2.2.2 hsz
          have HLE : Hid (∀ d, Calls Try.prog 123 #[.agg #[.int .i64 D.q, .int .i64 D.p, .int .i64 D.m, .int .i64 gen, .slice (some ⟨gm, 0, none⟩) (D.m + 1) cm], .slice (some ⟨g9, 0, none⟩) (n + 1) c9, vs t, .int .i64 x] (wB.drewN d) fun e w' => ∃ v, e = .returned v ∧ Elm v (n, plss D r (R t) x) w' ∧ (∀ b, v.ownBlock = some b → wB.heap.size ≤ b) ∧ Below wB.heap.size wB w') := fun d => by
            have hbd : Below wB.heap.size wB (wB.drewN d) := below_drewN2 (Below.refl _ _) d
            refine (rless_any (w := wB.drewN d) HF.out.1 gen gm cm hn HL.out.1.el (HG.out.rre.el t htk) hxq (HL.out.2.1.below hbd (Nat.le_refl _)) (((HRW.out.1.below HL.out.2.2.2).row t htk).below hbd (Nat.le_refl _)) ((HF.out.2.2.2.below (bel_up' HG.out.bel HL.out.2.2.2)).below hbd)).mono ?_
            rintro e w' ⟨v, rfl, h1, h2, h3⟩
            exact ⟨v, rfl, h1, h2, hbd.trans h3⟩
          have HLS : Hid (Lft D (n + 1) k R p (M i) (t + 1) (plss D r (R t) x)) := by
            have h := lft_step (fld HF.out.1) HG.out.rre (HF.out.2.1 i hlt).1 HL.out.1 htk
            rw [← hx] at h; exact h
          obtain ⟨pt, hpt'⟩ : ∃ pt, pt = p t := ⟨_, rfl⟩
          rw [← hpt'] at hcP hcr hptb hptb0
          clear hx hr9 hpt hpt'
          go_wp2
          refine quiet_tail 13 (by kernel_rfl) (by kernel_rfl) ?_
          simp only [List.take_succ_cons, List.take_zero, List.drop_succ_cons, List.drop_zero]
          repeat (go_big_quiet_step (fail))
          refine wpQuiet_nil ?_
          intro _ hw'
          obtain ⟨dd, hw''⟩ := hw'
          subst hw''
          go_wp2_with fail
          refine (HLE.out dd).mono ?_
          rintro e w2 ⟨v2, rfl, he2, hg2, hb2⟩
          have hsB := HL.out.2.2.2.size
          have HR : Hid (Lft D (n + 1) k R p (M i) (t + 1) (plss D r (R t) x) ∧ Elm v2 (n, plss D r (R t) x) w2 ∧ (∀ b, v2.ownBlock = some b → wA.heap.size ≤ b) ∧ Below wA.heap.size wA w2) := ⟨HLS.out, he2, fun b hb => by have := hg2 b hb; omega, bel_up' HL.out.2.2.2 hb2⟩
          clear he2 hg2 hb2 k0 k1 k2 k3 k4 HLE HLS
          go_wp2
          go_roundw
          case rel => exact ⟨t + 1, _, by omega, by go_num, HR.out⟩
          case measure => simp [intOf]; omega
        · have hte : t = k := by omega
          subst hte
          have htb : ¬ (t : Int) < (t : Int) := by omega
          go_wp2_with fail
          go_loopw [11] (fun va wi => ∃ a : Nat, a ≤ n + 1 ∧ va = .int .i64 a ∧ Hid (∀ c, c < a → r c = 0) ∧ wi = wB) (fun va _ => n + 1 - (intOf va).toNat)
          case atStart => exact ⟨0, by omega, rfl, fun c hc => by omega, rfl⟩
          case round =>
            obtain ⟨a, ha, rfl, HZ, hwB⟩ := hrel
            have hwB := hwB.symm
            subst hwB
            by_cases hal : a < n + 1
            · have hab : (a : Int) < (n : Int) + 1 := by omega
              have hab0 : (0 : Int) ≤ (a : Int) := by omega
              obtain ⟨x, hx⟩ : ∃ x, x = r a := ⟨_, rfl⟩
              have hca : wB.cell? ⟨g9, a, none⟩ = some (.int .i64 (x : Nat)) := by rw [hx]; exact HL.out.2.1.row.cell a hal
              have HX : Hid (x = r a) := hx
              clear hx
              by_cases hx0 : x = 0
              · have hbz : ((x : Int) == 0) = true := by rw [hx0]; rfl
                have HZ2 : Hid (∀ c, c < a + 1 → r c = 0) := fun c hc => if e : c = a then by rw [e, ← HX.out, hx0] else HZ.out c (by omega)
                clear hx0
                go_wp2
                go_roundw
                case rel => exact ⟨a + 1, by omega, by go_num, HZ2.out, by first | rfl | trivial⟩
                case measure => simp [intOf]; omega
              · have hbz : ((x : Int) == 0) = false := by rw [beq_eq_false_iff_ne]; omega
                have hae : ((a : Int) == (n : Int) + 1) = false := by rw [beq_eq_false_iff_ne]; omega
                have hxq : x < D.q := by rw [HX.out]; exact HL.out.1.el _
                obtain ⟨inv, hinv⟩ : ∃ inv, inv = D.iv x := ⟨_, rfl⟩
                have hiq : inv < D.q := by rw [hinv]; exact iv_lt HF.out.1 _
                have HI : Hid (D.mul (r a) inv = 1 ∧ r a ≠ 0) := ⟨by rw [← HX.out, hinv]; exact iv_is HF.out.1 hxq hx0, by rw [← HX.out]; exact hx0⟩
                have k0 := cell_regrown (HG.out.box.below HL.out.2.2.2 hsz).c0
                have k1 := cell_regrown (HG.out.box.below HL.out.2.2.2 hsz).c1
                have k2 := cell_regrown (HG.out.box.below HL.out.2.2.2 hsz).c2
                have k3 := cell_regrown (HG.out.box.below HL.out.2.2.2 hsz).c3
                have k4 := cell_regrown (HG.out.box.below HL.out.2.2.2 hsz).c4
                have k5 := cell_regrown hca
                have HC0 : Hid (∀ d os, Calls Try.prog 124 #[.agg #[.int .i64 D.q, .int .i64 D.p, .int .i64 D.m, .int .i64 gen, .slice (some ⟨gm, 0, none⟩) (D.m + 1) cm], .int .i64 (x : Nat)] (grow (redrawn wB d) os) fun e w'' => e = .returned (.int .i64 (inv : Nat)) ∧ ∃ p : Regrown, w'' = grow (redrawn wB p.d) p.os) := fun d os => by
                  have h := rinv_any HF.out.1 gen (x : Nat) (HF.out.2.2.2.below (bel_up' HG.out.bel (bel_up' HL.out.2.2.2 (below_regrown wB d os))))
                  rw [inv_nat HF.out.1 hxq hx0] at h
                  rw [show inv = D.pw x (D.q - 2) from by rw [hinv]; rfl]
                  exact Calls.regrown_of h
                clear hinv hx0
                go_wp2
                refine wp_region_quiet_below (by kernel_rfl) (by kernel_rfl) ?_
                repeat (go_big_quiet_step (first | (go_at_call 124; exact HC0.out _ _)))
                refine wpQuiet_nil ?_
                intro _ hw'
                obtain ⟨⟨dq, osq⟩, hw''⟩ := hw'
                subst hw''
                obtain ⟨w5, hw5⟩ : ∃ w5, w5 = grow (redrawn wB dq) osq := ⟨_, rfl⟩
                have hb5 : Below wB.heap.size wB w5 := by rw [hw5]; exact below_regrown wB dq osq
                have H5 : Hid (Elm (.slice (some ⟨g9, 0, none⟩) (n + 1) c9) (n, r) w5 ∧ Below wA.heap.size wA w5 ∧ wA.heap.size ≤ g9) := ⟨HL.out.2.1.below hb5 (Nat.le_refl _), bel_up' HL.out.2.2.2 hb5, HL.out.2.2.1 g9 rfl⟩
                rw [← hw5]
                clear hw5 hb5 k0 k1 k2 k3 k4 k5 HC0 hca
                go_wp2_with fail
                go_loopw [13] (fun vj wi => ∃ j : Nat, j ≤ n + 1 ∧ vj = .int .i64 j ∧ Hid (Elm (.slice (some ⟨g9, 0, none⟩) (n + 1) c9) (n, fun c => if c < j then D.mul inv (r c) else r c) wi ∧ Below wA.heap.size wA wi)) (fun vj _ => n + 1 - (intOf vj).toNat)
                case atStart => exact ⟨0, by omega, rfl, H5.out.1.congr (fun c _ => by rw [if_neg (by omega)]), H5.out.2.1⟩
                case round =>
                  obtain ⟨j, hj, rfl, HJ⟩ := hrel
                  rename World => wD
                  have hg9 := H5.out.2.2
                  by_cases hjl : j < n + 1
                  · have hjb : (j : Int) < (n : Int) + 1 := by omega
                    have hjb0 : (0 : Int) ≤ (j : Int) := by omega
                    have hrow := HJ.out.1.row
                    obtain ⟨y, hy⟩ : ∃ y, y = r j := ⟨_, rfl⟩
                    obtain ⟨u, hu⟩ : ∃ u, u = D.mul inv (r j) := ⟨_, rfl⟩
                    have hcy : wD.cell? ⟨g9, j, none⟩ = some (.int .i64 (y : Nat)) := by
                      have h := hrow.cell j hjl
                      rw [if_neg (by omega), ← hy] at h; exact h
                    have hyq : y < D.q := by rw [hy]; exact HL.out.1.el _
                    have hbx := HG.out.box.below HJ.out.2 hsz
                    have k0 := cell_regrown hbx.c0
                    have k1 := cell_regrown hbx.c1
                    have k2 := cell_regrown hbx.c2
                    have k3 := cell_regrown hbx.c3
                    have k4 := cell_regrown hbx.c4
                    have k5 := cell_regrown hcy
                    have k7 := free_regrown hrow.lt (hrow.free j)
                    have HC1 : Hid (∀ d os, Calls Try.prog 55 #[.agg #[.int .i64 D.q, .int .i64 D.p, .int .i64 D.m, .int .i64 gen, .slice (some ⟨gm, 0, none⟩) (D.m + 1) cm], .int .i64 (y : Nat), .int .i64 (inv : Nat)] (grow (redrawn wD d) os) fun e w'' => e = .returned (.int .i64 (u : Nat)) ∧ ∃ p : Regrown, w'' = grow (redrawn wD p.d) p.os) := fun d os => by
                      rw [hu, (fld HF.out.1).mul_comm, ← hy]
                      exact Calls.regrown_of (rmul_nat HF.out.1 gen HF.out.2.2.2 y inv hyq hiq _ (bel_up' HG.out.bel (bel_up' HJ.out.2 (below_regrown wD d os))))
                    have HV : Hid (∀ c, c < n + 1 → (if c < j + 1 then D.mul inv (r c) else r c) = if c = j then u else if c < j then D.mul inv (r c) else r c) := fun c _ => by
                      by_cases e : c = j
                      · rw [if_pos e, if_pos (by omega), hu, e]
                      · rw [if_neg e]
                        by_cases e2 : c < j
                        · rw [if_pos e2, if_pos (by omega)]
                        · rw [if_neg e2, if_neg (by omega)]
                    clear hy hu hcy hrow hbx
                    go_wp2
                    refine below_tail 10 (by kernel_rfl) (by kernel_rfl) ?_
                    simp only [List.take_succ_cons, List.take_zero, List.drop_succ_cons, List.drop_zero]
                    repeat (go_big_quiet_step (first | (go_at_call 55; exact HC1.out _ _)))
                    refine wpQuiet_nil ?_
                    intro _ hw'
                    obtain ⟨⟨ds, oss⟩, hw''⟩ := hw'
                    subst hw''
                    have hb7 := below_regrown wD ds oss
                    have H7 : Hid (Elm (.slice (some ⟨g9, 0, none⟩) (n + 1) c9) (n, fun c => if c < j then D.mul inv (r c) else r c) (grow (redrawn wD ds) oss) ∧ Below wA.heap.size wA (grow (redrawn wD ds) oss)) := ⟨HJ.out.1.below hb7 (Nat.le_refl _), bel_up' HJ.out.2 hb7⟩
                    clear hb7
                    go_wp2
                    go_roundw
                    case rel => exact ⟨j + 1, by omega, by go_num, H7.out.1.store HV.out, H7.out.2.setCell hg9 _⟩
                    case measure => simp [intOf]; omega
                  · have hjb : ¬ (j : Int) < (n : Int) + 1 := by omega
                    obtain ⟨r', hr'⟩ : ∃ r', r' = pscale D inv r := ⟨_, rfl⟩
                    have H8 : Hid (RwsO (w.heap.size + 1) ro t rc n R vs wD ∧ OwnI (w.heap.size + 1) (.slice po t cP) (zl t fun j => ((p j : Nat) : Int)) wD ∧ Elm (.slice (some ⟨g9, 0, none⟩) (n + 1) c9) (n, r') wD ∧ Below w.heap.size w wD ∧ Box w.heap.size D gen (.slice (some ⟨gm, 0, none⟩) (D.m + 1) cm) wD) :=
                      ⟨HRW.out.1.below HJ.out.2, HG.out.piv.below HJ.out.2 (fun b hb => (HG.out.piv.lt b hb).2), HJ.out.1.congr (fun c hc => by show (if c < j then D.mul inv (r c) else r c) = r' c; rw [if_pos (by omega), hr']; rfl), bel_up' HG.out.bel HJ.out.2, HG.out.box.below HJ.out.2 hsz⟩
                    have hsD : w.heap.size < wD.heap.size := by have := HJ.out.2.size; omega
                    have HR' : Hid (r' = pscale D inv r ∧ El D r') := ⟨hr', by rw [hr']; exact el_scale (fld HF.out.1) _ _⟩
                    clear hr' HJ H5
                    go_wp2_with fail
                    go_loopw [14] (fun vt wi => ∃ (s : Nat) (vs' : Nat → Value), s ≤ t ∧ vt = .int .i64 s ∧ Hid (RwsO (w.heap.size + 1) ro t rc n (fun i => if i < s then plss D (R i) r' (R i a) else R i) vs' wi ∧ OwnI (w.heap.size + 1) (.slice po t cP) (zl t fun j => ((p j : Nat) : Int)) wi ∧ Elm (.slice (some ⟨g9, 0, none⟩) (n + 1) c9) (n, r') wi ∧ Below w.heap.size w wi ∧ Box w.heap.size D gen (.slice (some ⟨gm, 0, none⟩) (D.m + 1) cm) wi) ∧ w.heap.size < wi.heap.size) (fun vt _ => t - (intOf vt).toNat)
                    case atStart => exact ⟨0, vs, by omega, rfl, ⟨H8.out.1.congr (fun i _ => by rw [if_neg (by omega)]), H8.out.2⟩, hsD⟩
                    case round =>
                      clear H8 hsD
                      obtain ⟨s, vs', hs, rfl, HS, hsE⟩ := hrel
                      rename World => wE
                      by_cases hst : s < t
                      · have hsb : (s : Int) < (t : Int) := by omega
                        have hsb0 : (0 : Int) ≤ (s : Int) := by omega
                        obtain ⟨gR, rfl, hcR, hfR, hgR1, hgR2⟩ := HS.out.1.cell s hst
                        have hes := HS.out.1.row s hst
                        rw [if_neg (by omega)] at hes
                        obtain ⟨gs, cs, hvs, _, _, hrs⟩ := hes
                        obtain ⟨y, hy⟩ : ∃ y, y = R s a := ⟨_, rfl⟩
                        have hcy : wE.cell? ⟨gs, a, none⟩ = some (.int .i64 (y : Nat)) := by rw [hy]; exact hrs.cell a hal
                        have hyq : y < D.q := by rw [hy]; exact HG.out.rre.el s hst _
                        rw [hvs] at hcR
                        obtain ⟨k0, k1, k2, k3, k4⟩ := HS.out.2.2.2.2
                        have HLE : Hid (∀ w1, Below wE.heap.size wE w1 → Calls Try.prog 123 #[.agg #[.int .i64 D.q, .int .i64 D.p, .int .i64 D.m, .int .i64 gen, .slice (some ⟨gm, 0, none⟩) (D.m + 1) cm], .slice (some ⟨gs, 0, none⟩) (n + 1) cs, .slice (some ⟨g9, 0, none⟩) (n + 1) c9, .int .i64 y] w1 fun e w' => ∃ v, e = .returned v ∧ Elm v (n, plss D (R s) r' y) w' ∧ Below wE.heap.size wE w' ∧ w'.cell? ⟨gR, s, none⟩ = some (.slice (some ⟨gs, 0, none⟩) (n + 1) cs) ∧ w'.frozen? ⟨gR, s, none⟩ = false) := fun w1 hb1 => by
                          have hrow : Elm (.slice (some ⟨gs, 0, none⟩) (n + 1) cs) (n, R s) wE := by
                            have h := HS.out.1.row s hst
                            rw [if_neg (by omega), hvs] at h; exact h
                          refine (rless_any HF.out.1 gen gm cm hn (HG.out.rre.el s hst) HR'.out.2 hyq (hrow.below hb1 (Nat.le_refl _)) (HS.out.2.2.1.below hb1 (Nat.le_refl _)) (HF.out.2.2.2.below (bel_up' HS.out.2.2.2.1 hb1))).mono ?_
                          rintro e w' ⟨v, rfl, h1, _, h3⟩
                          have hb' := bel_up' hb1 h3
                          exact ⟨v, rfl, h1, hb', ((bcell hb').1 gR s hgR2).trans hcR, by rw [World.frozen?_of_block (w := wE) (hb'.block gR hgR2)]; exact hfR⟩
                        have HVS : Hid (vs' s = .slice (some ⟨gs, 0, none⟩) (n + 1) cs ∧ y = R s a) := ⟨hvs, hy⟩
                        clear hy hrs hvs
                        go_wp2
                        refine red23 (by kernel_rfl) hsb hsb0 hab hab0 k0 k1 k2 k3 k4 hcR hcy HLE.out ?_
                        intro y92 y93 y94 y95 y96 y97 y98 y99 y100 y101 y102 y103 y104 y105 y106 y107 y108 g2 cc2 w2 he2 hb2
                        have hs2 := hb2.size
                        have hH2 := (HS.out.1.below hb2).store rfl (j := s) he2
                        have HR2 : Hid (RwsO (w.heap.size + 1) (some ⟨gR, 0, none⟩) t rc n (fun i => if i < s + 1 then plss D (R i) r' (R i a) else R i) (fun i => if i = s then .slice (some ⟨g2, 0, none⟩) (n + 1) cc2 else vs' i) (w2.setCell ⟨gR, s, none⟩ (.slice (some ⟨g2, 0, none⟩) (n + 1) cc2)) ∧ OwnI (w.heap.size + 1) (.slice po t cP) (zl t fun j => ((p j : Nat) : Int)) (w2.setCell ⟨gR, s, none⟩ (.slice (some ⟨g2, 0, none⟩) (n + 1) cc2)) ∧ Elm (.slice (some ⟨g9, 0, none⟩) (n + 1) c9) (n, r') (w2.setCell ⟨gR, s, none⟩ (.slice (some ⟨g2, 0, none⟩) (n + 1) cc2)) ∧ Below w.heap.size w (w2.setCell ⟨gR, s, none⟩ (.slice (some ⟨g2, 0, none⟩) (n + 1) cc2)) ∧ Box w.heap.size D gen (.slice (some ⟨gm, 0, none⟩) (D.m + 1) cm) (w2.setCell ⟨gR, s, none⟩ (.slice (some ⟨g2, 0, none⟩) (n + 1) cc2)) ∧ wE.heap.size ≤ (w2.setCell ⟨gR, s, none⟩ (.slice (some ⟨g2, 0, none⟩) (n + 1) cc2)).heap.size) := by
                          have hob := (HS.out.1.below hb2).own
                          refine ⟨hH2.congr (fun i hi => ?_), (HS.out.2.1.below hb2 (fun b hb => (HS.out.2.1.lt b hb).2)).setV hob rfl, (HS.out.2.2.1.below hb2 (Nat.le_refl _)).setV hob rfl, (bel_up' HS.out.2.2.2.1 hb2).setCell (by show w.heap.size ≤ gR; omega) _, (HS.out.2.2.2.2.below hb2 hsE).setOther _ (by show w.heap.size ≠ gR; omega) _, Nat.le_trans hs2 (by simp [World.setCell])⟩
                          show (if i = s then plss D (R s) r' y else if i < s then plss D (R i) r' (R i a) else R i) = if i < s + 1 then plss D (R i) r' (R i a) else R i
                          by_cases e : i = s
                          · rw [if_pos e, if_pos (by omega), e, HVS.out.2]
                          · rw [if_neg e]
                            by_cases e2 : i < s
                            · rw [if_pos e2, if_pos (by omega)]
                            · rw [if_neg e2, if_neg (by omega)]
                        clear hH2 hs2 he2 hb2 k0 k1 k2 k3 k4 hcy hcR hfR
                        go_wp2
                        go_roundw
                        case rel => exact ⟨s + 1, _, by omega, by go_num, ⟨HR2.out.1, HR2.out.2.1, HR2.out.2.2.1, HR2.out.2.2.2.1, HR2.out.2.2.2.2.1⟩, by have := HR2.out.2.2.2.2.2; omega⟩
                        case measure => simp [intOf]; omega
                      · have hsb : ¬ (s : Int) < (t : Int) := by omega
                        have hse : s = t := by omega
                        subst hse
                        have H9 : Hid (RwsO (w.heap.size + 1) ro s rc n (fun i => plss D (R i) r' (R i a)) vs' wE ∧ OwnI (w.heap.size + 1) (.slice po s cP) (zl s fun j => ((p j : Nat) : Int)) wE ∧ Elm (.slice (some ⟨g9, 0, none⟩) (n + 1) c9) (n, r') wE ∧ Below w.heap.size w wE ∧ Box w.heap.size D gen (.slice (some ⟨gm, 0, none⟩) (D.m + 1) cm) wE) := ⟨HS.out.1.congr (fun i hi => by rw [if_pos hi]), HS.out.2⟩
                        clear HS
                        go_upto_block 10 with fail
                        go_cut [15] (fun vt wx => ∃ q : Nat, q ≤ s ∧ vt = .int .i64 q ∧ Hid ((∀ j, j < q → p j < a) ∧ (∀ j, q ≤ j → j < s → a < p j)) ∧ wx = wE)
                        case first =>
                          go_wp2_with fail
                          go_loopw [15] (fun vt wi => ∃ q : Nat, q ≤ s ∧ vt = .int .i64 q ∧ Hid (∀ j, j < q → p j < a) ∧ wi = wE) (fun vt _ => s - (intOf vt).toNat)
                          case atStart => exact ⟨0, by omega, rfl, fun j hj => by omega, rfl⟩
                          case round =>
                            obtain ⟨q, hq, rfl, HQ, hwE⟩ := hrel
                            have hwE := hwE.symm
                            subst hwE
                            by_cases hqs : q < s
                            · have hqb : (q : Int) < (s : Int) := by omega
                              have hqb0 : (0 : Int) ≤ (q : Int) := by omega
                              obtain ⟨po', cP', e', hpa⟩ := H9.out.2.1.argL
                              cases e'
                              obtain ⟨gP, oP, rfl, hcP0⟩ := hpa.sl q hqs
                              have hcP : wE.cell? ⟨gP, oP + q, none⟩ = some (.int .i64 (p q : Nat)) := hcP0
                              clear hcP0 hpa
                              obtain ⟨pq, hpq⟩ : ∃ pq, pq = p q := ⟨_, rfl⟩
                              rw [← hpq] at hcP
                              have HPQ : Hid (pq = p q) := hpq
                              clear hpq
                              by_cases hpa : pq < a
                              · have hpb : (pq : Int) < (a : Int) := by omega
                                have HQ2 : Hid (∀ j, j < q + 1 → p j < a) := fun j hj => if e : j = q then by rw [e, ← HPQ.out]; exact hpa else HQ.out j (by omega)
                                go_wp2
                                go_roundw
                                case rel => exact ⟨q + 1, by omega, by go_num, HQ2.out, by first | rfl | trivial⟩
                                case measure => simp [intOf]; omega
                              · have hpb : ¬ (pq : Int) < (a : Int) := by omega
                                have HQ3 : Hid (∀ j, q ≤ j → j < s → a < p j) := fun j h1 h2 => by
                                  have hne : p q ≠ a := fun e => by
                                    have h3 := HL.out.1.zero q hqs
                                    rw [e] at h3
                                    exact HI.out.2 h3
                                  have h4 := HPQ.out
                                  by_cases e : j = q
                                  · rw [e]; omega
                                  · have := HG.out.rre.mono q j (by omega) h2
                                    omega
                                go_wp2
                                go_meet
                                case rel => exact ⟨q, hq, rfl, ⟨HQ.out, HQ3.out⟩, rfl⟩
                            · have hqb : ¬ (q : Int) < (s : Int) := by omega
                              go_wp2
                              go_meet
                              case rel => exact ⟨q, hq, rfl, ⟨HQ.out, fun j h1 h2 => by omega⟩, rfl⟩
                        case rest =>
                          obtain ⟨q, hq, rfl, HQ, hwx⟩ := hcut
                          have hwx := hwx.symm
                          subst hwx
                          have hqb : (q : Int) ≤ (s : Int) := by omega
                          have hqb0 : (0 : Int) ≤ (q : Int) := by omega
                          have hsl := H9.out.1.sl
                          have HSL : Hid (SlV ro s vs' wE ∧ (∀ j, j < s → (vs' j).oneCell' = true)) := ⟨hsl, fun j hj => (H9.out.1.row j hj).one⟩
                          clear hsl
                          go_upto_region 27 with fail
                          go_cut [6] (fun v6 wx => ∃ ro' rc', v6 = .slice ro' (s + 1) rc' ∧ Hid (OwnV wE.heap.size (.slice ro' (s + 1) rc') (vl (s + 1) (ins q (.slice (some ⟨g9, 0, none⟩) (n + 1) c9) vs')) wx ∧ Below wE.heap.size wE wx))
                          case first =>
                            rcases H9.out.1.own.2 with ⟨h1, h2⟩ | ⟨gR, cR, cur, hv, _, hcur, hle, hcm, _, _⟩
                            · rw [vl_len] at h2
                              subst h2
                              cases h1
                              have hq0 : q = 0 := by omega
                              subst hq0
                              refine red27nil (by kernel_rfl) HSL.out ?_
                              intro y123 y124 y125 y126 y127 y128 y129 y130 y131 y132 y133 y134 v3 wG ho3 hB3
                              go_wp2
                              go_meet
                              case rel =>
                                obtain ⟨ro', rc', hv3, _⟩ := ho3.open
                                rw [vl_len] at hv3
                                exact ⟨ro', rc', hv3, by rw [← hv3]; exact ho3, hB3⟩
                            · rw [vl_len] at hv hle
                              cases hv
                              by_cases hrq : rc = q
                              · have hsq : s = q := by omega
                                clear hcm
                                subst hsq
                                subst hrq
                                refine red27full (by kernel_rfl) (by omega) (by omega) HSL.out ?_
                                intro y123 y124 y125 y126 y127 y128 y129 y130 y131 y132 y133 y134 v3 wG ho3 hB3
                                go_wp2
                                go_meet
                                case rel =>
                                  obtain ⟨ro', rc', hv3, _⟩ := ho3.open
                                  rw [vl_len] at hv3
                                  exact ⟨ro', rc', hv3, by rw [← hv3]; exact ho3, hB3⟩
                              · clear hcm
                                refine red27gen (by kernel_rfl) hq hqb0 hqb (by omega) hrq (by omega) HSL.out ?_
                                intro y123 y124 y125 y126 y127 y128 y129 y130 y131 y132 y133 y134 v3 wG ho3 hB3
                                go_wp2
                                go_meet
                                case rel =>
                                  obtain ⟨ro', rc', hv3, _⟩ := ho3.open
                                  rw [vl_len] at hv3
                                  exact ⟨ro', rc', hv3, by rw [← hv3]; exact ho3, hB3⟩
                          case rest =>
                            obtain ⟨ro', rc', rfl, HW⟩ := hcut
                            rename World => wH
                            have HPV : Hid (OwnI (w.heap.size + 1) (.slice po s cP) (zl s fun j => ((p j : Nat) : Int)) wH) := H9.out.2.1.below HW.out.2 (fun b hb => (H9.out.2.1.lt b hb).2)
                            have HPL : Hid (SlZ po s (fun j => ((p j : Nat) : Int)) wH) := by
                              obtain ⟨po', cP', e', hpa⟩ := HPV.out.argL
                              cases e'
                              exact hpa.sl
                            go_upto_region 28 with fail
                            rcases HPV.out.2 with ⟨h1, h2⟩ | ⟨gP, cR, cur, hv, _, hcur, hle, hcm, _, _⟩
                            · rw [zl_len] at h2
                              subst h2
                              cases h1
                              have hq0 : q = 0 := by omega
                              subst hq0
                              refine red28nil (by kernel_rfl) HPL.out ?_
                              intro y135 y136 y137 y138 y139 y140 y141 y142 y143 y144 y145 y146 v3 wK ho3 hB3
                              have HO4 : Hid (OwnI wH.heap.size v3 (zl (0 + 1) (ins 0 ((a : Nat) : Int) (fun j => ((p j : Nat) : Int)))) wK ∧ Below wH.heap.size wH wK) := ⟨ho3, hB3⟩
                              have hsL : w.heap.size < wK.heap.size := by
                                have h1 := HW.out.2.size
                                have h2 := hB3.size
                                omega
                              clear ho3 hB3
                              go_wp2
                              go_roundw
                              case rel => exact ⟨i + 1, 0 + 1, _, _, by omega, by omega, by go_num, red_put_st HF.out.1 (fun j hj => (HF.out.2.1 j (by omega)).1) HG.out HL.out.1 HR'.out.1 HI.out.1 HZ.out HQ.out.1 HQ.out.2 (Nat.le_refl _) hal H9.out.1 H9.out.2.2.1 H9.out.2.2.2.1 H9.out.2.2.2.2 hsE HW.out.1 HW.out.2 HO4.out.1 HO4.out.2, hsL⟩
                              case measure => simp [intOf]; omega
                            · rw [zl_len] at hv hle
                              cases hv
                              by_cases hrq : cP = q
                              · have hsq : s = q := by omega
                                clear hcm
                                subst hsq
                                subst hrq
                                refine red28full (by kernel_rfl) (by omega) (by omega) HPL.out ?_
                                intro y135 y136 y137 y138 y139 y140 y141 y142 y143 y144 y145 y146 v3 wK ho3 hB3
                                have HO4 : Hid (OwnI wH.heap.size v3 (zl (cP + 1) (ins cP ((a : Nat) : Int) (fun j => ((p j : Nat) : Int)))) wK ∧ Below wH.heap.size wH wK) := ⟨ho3, hB3⟩
                                have hsL : w.heap.size < wK.heap.size := by
                                  have h1 := HW.out.2.size
                                  have h2 := hB3.size
                                  omega
                                clear ho3 hB3
                                go_wp2
                                go_roundw
                                case rel => exact ⟨i + 1, cP + 1, _, _, by omega, by omega, by go_num, red_put_st HF.out.1 (fun j hj => (HF.out.2.1 j (by omega)).1) HG.out HL.out.1 HR'.out.1 HI.out.1 HZ.out HQ.out.1 HQ.out.2 (Nat.le_refl _) hal H9.out.1 H9.out.2.2.1 H9.out.2.2.2.1 H9.out.2.2.2.2 hsE HW.out.1 HW.out.2 HO4.out.1 HO4.out.2, hsL⟩
                                case measure => simp [intOf]; omega
                              · clear hcm
                                refine red28gen (by kernel_rfl) hq hqb0 hqb (by omega) hrq (by omega) HPL.out ?_
                                intro y135 y136 y137 y138 y139 y140 y141 y142 y143 y144 y145 y146 v3 wK ho3 hB3
                                have HO4 : Hid (OwnI wH.heap.size v3 (zl (s + 1) (ins q ((a : Nat) : Int) (fun j => ((p j : Nat) : Int)))) wK ∧ Below wH.heap.size wH wK) := ⟨ho3, hB3⟩
                                have hsL : w.heap.size < wK.heap.size := by
                                  have h1 := HW.out.2.size
                                  have h2 := hB3.size
                                  omega
                                clear ho3 hB3
                                go_wp2
                                go_roundw
                                case rel => exact ⟨i + 1, s + 1, _, _, by omega, by omega, by go_num, red_put_st HF.out.1 (fun j hj => (HF.out.2.1 j (by omega)).1) HG.out HL.out.1 HR'.out.1 HI.out.1 HZ.out HQ.out.1 HQ.out.2 hq hal H9.out.1 H9.out.2.2.1 H9.out.2.2.2.1 H9.out.2.2.2.2 hsE HW.out.1 HW.out.2 HO4.out.1 HO4.out.2, hsL⟩
                                case measure => simp [intOf]; omega
            · have hae : a = n + 1 := by omega
              subst hae
              have hab : ¬ ((n + 1 : Nat) : Int) < (n : Int) + 1 := by omega
              have hae2 : (((n + 1 : Nat) : Int) == (n : Int) + 1) = true := by simp
              have HR : Hid (RedSt D gen (.slice (some ⟨gm, 0, none⟩) (D.m + 1) cm) n M w (i + 1) (.slice ro t rc) (.slice po t cP) wB t R p) := by
                have hr0 : r = pnil := by
                  funext c
                  by_cases hc : c < n + 1
                  · exact HZ.out c hc
                  · exact HL.out.1.bd c (by omega)
                have hl := HL.out.1
                rw [hr0] at hl
                have hMe : ∀ j, j ≤ i → El D (M j) := fun j hj => (HF.out.2.1 j (by omega)).1
                refine ⟨HG.out.rows.below HL.out.2.2.2 (Nat.le_refl _), HG.out.piv.below HL.out.2.2.2 (fun b hb => (HG.out.piv.lt b hb).2), HG.out.rre, red_idle (fld HF.out.1) hMe HG.out.spn hl, Or.inr ?_, bel_up' HG.out.bel HL.out.2.2.2, HG.out.box.below HL.out.2.2.2 hsz⟩
                have h1 := hl.spn
                rw [psub_nil (fld HF.out.1) (hMe i (Nat.le_refl _))] at h1
                exact ⟨i, by omega, (HG.out.spn _).1 h1⟩
              have hsB := HL.out.2.2.2.size
              go_wp2
              go_roundw
              case rel => exact ⟨i + 1, t, R, p, by omega, by omega, by go_num, HR.out, by omega⟩
              case measure => simp [intOf]; omega
    · have hib : ¬ (i : Int) < (m : Int) := by omega
      have hie : i = m := by omega
      subst hie
      go_wp2
      go_ret2
      exact ⟨_, _, rfl, k, hki, R, HG.out.rows.mono (by omega), p, HG.out.piv.mono (by omega), HG.out.rre, HG.out.spn, HG.out.many, HG.out.bel⟩
end Go.Proofs.Ytjkncdmbcckcdaa
