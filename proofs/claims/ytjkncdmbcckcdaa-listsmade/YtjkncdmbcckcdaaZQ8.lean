/- The reference's Sudan. -/
import Derived.Test.YtjkncdmbcckcdaaZQ6
import Derived.Test.YtjkncdmbcckcdaaZS4
import Derived.Test.YtjkncdmbcckcdaaZW10
namespace Go.Proofs.Ytjkncdmbcckcdaa
open Go.RowKit Go.Sort

/-- The reference's Null of these rows. -/
theorem r_null {D : FD} (hD : D ∈ fieldsL) (gen gm cm : Nat) {ao : Option Addr} {m P P1 ca : Nat} {V : Nat → Nat → Nat} {w : World} {k : Nat} {R : Nat → Nat → Nat} {p : Nat → Nat} {k2 : Nat} {R2 : Nat → Nat → Nat} {p2 : Nat → Nat} (hS : SOk D m P V k R p k2 R2 p2) (hP : P = P1 + 1) (hP2 : P ≤ 64) (hm : m ≤ 64) (hV : ∀ i, El D (V i)) (hB : ∀ i, Bd P (V i)) (hA : MatR ao m P1 V w) (hM : ModAt D (.slice (some ⟨gm, 0, none⟩) (D.m + 1) cm) D.md w) :
    Calls Try.prog 56 #[.agg #[.int .i64 D.q, .int .i64 D.p, .int .i64 D.m, .int .i64 gen, .slice (some ⟨gm, 0, none⟩) (D.m + 1) cm], .slice ao m ca, .int .i64 (P : Nat)] w fun e w' => ∃ lo lc, e = .returned (.slice lo k2 lc) ∧ LLs w.heap.size (.slice lo k2 lc) (rl k2 P1 R2) w' ∧ k2 = nct k p P ∧ Below w.heap.size w w' := by
  refine (rnull_any hD gen gm cm hP (by omega) (by omega) (fun i _ => ⟨hV i, by have := hB i; rw [hP] at this; exact this⟩) hA hM).mono ?_
  rintro e w' ⟨v, k', R', p', R2', p2', rfl, _, hR', hS', hl, hR2, hS2, hb⟩
  obtain ⟨rfl, he⟩ := rre_uniq (fld hD) hR' hS.rre (fun v => (hS' v).trans (hS.spn v).symm)
  have hc : nct k' p' P = nct k' p P := nct_congr (fun i hi => (he i hi).1) _
  have hn : nul D R' p' k' P = nul D R p k' P := nul_congr he _
  rw [hc] at hl hR2 hS2
  rw [hn] at hS2
  obtain ⟨hk2, he2⟩ := rre_uniq (fld hD) hR2 hS.rre2 (fun v => (hS2 v).trans (hS.spn2 v).symm)
  rw [hk2, rl_congr (R' := R2) (fun i hi => (he2 i (by omega)).2)] at hl
  obtain ⟨lo, lc, hv⟩ := hl.len
  rw [rl_len] at hv
  subst hv
  exact ⟨lo, lc, rfl, hl, hk2.symm, hb⟩

/-- What the walk that lays the next number reads. -/
def rbF (g j g0 rb r : Nat) (jo : Option Addr) (jl jc P cp x : Nat) (wx : World) : Prop := wx.cell? ⟨g, j, none⟩ = some (.slice jo jl jc) ∧ wx.frozen? ⟨g, j, none⟩ = false ∧ wx.cell? ⟨g0, 0, none⟩ = some (.slice (some ⟨rb, 0, none⟩) P cp) ∧ wx.cell? ⟨rb, r, none⟩ = some (.int .i64 (x : Nat))
theorem rbF.below {g j g0 rb r : Nat} {jo : Option Addr} {jl jc P cp x : Nat} {w w' : World} (h : rbF g j g0 rb r jo jl jc P cp x w) (hb : Below w.heap.size w w') : rbF g j g0 rb r jo jl jc P cp x w' := by
  obtain ⟨h1, h2, h3, h4⟩ := h
  exact ⟨(cell_same (hb.block _ (cell_lt h1))).trans h1, (frozen_same (hb.block _ (cell_lt h1))).trans h2, (cell_same (hb.block _ (cell_lt h3))).trans h3, (cell_same (hb.block _ (cell_lt h4))).trans h4⟩
theorem rbF.keep {g j g0 rb r : Nat} {jo : Option Addr} {jl jc P cp x : Nat} {base m : Nat} {ro : Option Addr} {rc : Nat} {vs : Nat → Value} {Z : Nat → List Int} {w w9 : World} (hF : rbF g j g0 rb r jo jl jc P cp x w) (h : GrS base m ro rc vs Z w) (hj : j < m) (hg : ro = some ⟨g, 0, none⟩) (h0 : g0 < base) (hr : rb < base) {ob : Option Nat} (hob : (vs j).ownBlock = ob) (hgr : w.grownBy w9 ob) : rbF g j g0 rb r jo jl jc P cp x w9 := by
  subst hob
  obtain ⟨h1, h2, h3, h4⟩ := hF
  have e2 := h.else hj hgr (cell_lt h1) (Or.inr (fun k hk e => by
    rcases (h.row j hj).apart h.own with ha | ha
    · rw [ha] at hk; cases hk
    · exact ha (by rw [hk, hg, e]; rfl)))
  have e3 := h.else hj hgr (cell_lt h3) (Or.inl h0)
  have e4 := h.else hj hgr (cell_lt h4) (Or.inl hr)
  exact ⟨(cell_same e2).trans h1, (frozen_same e2).trans h2, (cell_same e3).trans h3, (cell_same e4).trans h4⟩
theorem rb_ahead {g0 rb r P cp x base m j : Nat} {ro : Option Addr} {rc : Nat} {vs : Nat → Value} {Z : Nat → List Int} {w : World} (h : GrS base m ro rc vs Z w) (hj : j < m) (h3 : w.cell? ⟨g0, 0, none⟩ = some (.slice (some ⟨rb, 0, none⟩) P cp)) (h4 : w.cell? ⟨rb, r, none⟩ = some (.int .i64 (x : Nat))) : ∃ g jo jc, ro = some ⟨g, 0, none⟩ ∧ vs j = .slice jo (Z j).length jc ∧ rbF g j g0 rb r jo (Z j).length jc P cp x w := by
  obtain ⟨g, hg, hc, hf, _, _⟩ := h.cell j hj
  obtain ⟨jo, jc, e⟩ := (h.row j hj).form
  exact ⟨g, jo, jc, hg, e, by rw [hc, e], hf, h3, h4⟩

set_option maxHeartbeats 32000000 in
set_option maxRecDepth 100000 in
theorem rsudan_any {D : FD} (hD : D ∈ fieldsL) (gen gm cm : Nat) {xo yo : Option Addr} {n cx cy k K t : Nat} {xs y : Nat → Nat} {w : World} {k1 : Nat} {R : Nat → Nat → Nat} {p : Nat → Nat} {k2 : Nat} {R2 : Nat → Nat → Nat} {p2 : Nat → Nat} (hS : SOk D n (prs K t).length (svm D xs y (prs K t)) k1 R p k2 R2 p2) (hkK : k = K + 1) (hK1 : 1 ≤ K) (ht1 : 1 ≤ t) (htn : t ≤ n) (hkn : k ≤ n) (hn : n ≤ 64) (hx : ∀ i, i < n → xs i < D.q) (hX : Sl xo n xs w) (hlx : LtB xo w.heap.size) (hy : ∀ i, i < n → y i < D.q) (hY : Sl yo n y w) (hly : LtB yo w.heap.size) (hM : ModAt D (.slice (some ⟨gm, 0, none⟩) (D.m + 1) cm) D.md w) :
    Calls Try.prog 15 #[.agg #[.int .i64 D.q, .int .i64 D.p, .int .i64 D.m, .int .i64 gen, .slice (some ⟨gm, 0, none⟩) (D.m + 1) cm], .slice xo n cx, .int .i64 (k : Nat), .slice yo n cy, .int .i64 t] w fun e w' => Below w.heap.size w w' ∧ k2 = nct k1 p (prs K t).length ∧ ((k2 = 0 ∧ e = .returned (.tuple #[.slice none 0 0, .bool false])) ∨ (0 < k2 ∧ ∃ v, e = .returned (.tuple #[v, .bool true]) ∧ LLs w.heap.size v (gL (pyf (prs K t)) (R2 0) (prs K t).length) w')) := by
  obtain ⟨l, hl⟩ : ∃ l, l = prs K t := ⟨_, rfl⟩
  obtain ⟨P, hP⟩ : ∃ P, P = l.length := ⟨_, rfl⟩
  have hP64 : P ≤ 64 := by rw [hP, hl]; exact prs_len K t
  have hP0 : 1 ≤ P := by rw [hP, hl]; exact prs_pos ht1
  obtain ⟨P1, hP1⟩ : ∃ P1, P = P1 + 1 := ⟨P - 1, by omega⟩
  rw [← hl, ← hP] at hS ⊢
  have HL : Hid (l = prs K t ∧ P = l.length ∧ P = P1 + 1) := ⟨hl, hP, hP1⟩
  have HQ : Hid ((∀ i, i < P → pxf l i ≤ 64) ∧ (∀ i, i < P → pyf l i ≤ 64) ∧ (∀ i, i < P → pyf l i ≤ gn (pyf l) i)) := by
    rw [hP, hl]
    exact ⟨fun i hi => by have := pxf_lt hi; omega, fun i hi => by have := pyf_lt hi; omega, fun i hi => prs_gn hi⟩
  obtain ⟨wa, hwa⟩ : ∃ wa, wa = w.alloc (.cells #[.int .i64 D.q, .int .i64 D.p, .int .i64 D.m, .int .i64 gen, .slice (some ⟨gm, 0, none⟩) (D.m + 1) cm] 27) := ⟨_, rfl⟩
  have hba : Below w.heap.size w wa := by rw [hwa]; exact (Below.refl _ _).alloc (Nat.le_refl _) _
  have HF : Hid (D ∈ fieldsL ∧ SOk D n P (svm D xs y l) k1 R p k2 R2 p2 ∧ (∀ i, i < n → xs i < D.q) ∧ Sl xo n xs wa ∧ LtB xo wa.heap.size ∧ (∀ i, i < n → y i < D.q) ∧ Sl yo n y wa ∧ LtB yo wa.heap.size ∧ ModAt D (.slice (some ⟨gm, 0, none⟩) (D.m + 1) cm) D.md wa ∧ Below w.heap.size w wa) := ⟨hD, hS, hx, hX.below hba hlx, hlx.mono hba.size, hy, hY.below hba hly, hly.mono hba.size, hM.below hba, hba⟩
  have HX : Hid (Box w.heap.size D gen (.slice (some ⟨gm, 0, none⟩) (D.m + 1) cm) wa ∧ wa.heap.size = w.heap.size + 1) := ⟨by rw [hwa]; exact box_new D gen _ w, by rw [hwa]; simp⟩
  have hK2 : K ≤ 64 := by omega
  have ht64 : t ≤ 64 := by omega
  have hw1 : IntKind.i64.wrap ((k : Int) - 1) = (K : Int) := wrap_to (by omega) (by omega)
  clear hD hS hx hX hlx hy hY hly hM hba hl hP hP1 hkK
  go_enter Try.func15, Try.ntmps15
  go_wp2_with fail
  rw [← hwa]
  clear hwa
  go_loopw [12, 13] (fun vo vj wr => ∃ (j : Nat), j ≤ t ∧ vj = .int .i64 j ∧ Hid (LLs wa.heap.size vo (rpl (pro K t j)) wr ∧ Below wa.heap.size wa wr)) (fun _ vj _ => t - (intOf vj).toNat)
  case atStart => exact ⟨0, by omega, rfl, LLs.nil _ _, Below.refl _ _⟩
  case round =>
    obtain ⟨j, hj, rfl, HG⟩ := hrel
    rename World => wA
    obtain ⟨jK, hjK⟩ : ∃ jK, jK = j * K := ⟨_, rfl⟩
    have hjj : j ≤ jK := by rw [hjK]; exact Nat.le_mul_of_pos_right j hK1
    have hjb : jK ≤ 4096 := by rw [hjK]; exact Nat.le_trans (Nat.mul_le_mul (show j ≤ 64 by omega) hK2) (by omega)
    have hw2 : IntKind.i64.wrap ((j : Int) * (K : Int)) = (jK : Int) := wrap_to (by rw [hjK]; simp) (by omega)
    by_cases hlt : jK < t
    · have hib : (jK : Int) < (t : Int) := by omega
      obtain ⟨m, hm⟩ : ∃ m, m = min (t - jK) (64 - (pro K t j).length) := ⟨_, rfl⟩
      have hl := pro_len K t j
      obtain ⟨ln, hln⟩ : ∃ ln, ln = (pro K t j).length := ⟨_, rfl⟩
      rw [← hln] at hm hl
      have HM : Hid (jK = j * K ∧ ln = (pro K t j).length ∧ m = min (t - jK) (64 - ln)) := ⟨hjK, hln, hm⟩
      have hm1 : m + jK ≤ t := by omega
      have hm2 : m + ln ≤ 64 := by omega
      have hm3 : m + jK = t ∨ m + ln = 64 := by omega
      clear hjK hln hm
      go_wp2
      go_loopw [12, 14] (fun vo vi wr => ∃ (i lc : Nat) (lo : Option Addr), i ≤ m ∧ vi = .int .i64 i ∧ vo = .slice lo (ln + i) lc ∧ Hid (LLs wa.heap.size (.slice lo (ln + i) lc) (rpl (pri K t j i)) wr ∧ Below wa.heap.size wa wr)) (fun _ vi _ => m - (intOf vi).toNat)
      case atStart =>
        obtain ⟨ao, cap, e⟩ := HG.out.1.len
        rw [rpl_len] at e
        refine ⟨0, cap, ao, by omega, rfl, by rw [e, HM.out.2.1]; rfl, ?_, HG.out.2⟩
        rw [pri_zero, HM.out.2.1, Nat.add_zero, ← e]
        exact HG.out.1
      case round =>
        obtain ⟨i, lc, lo, hi, rfl, rfl, HI⟩ := hrel
        rename World => wB
        have hw3 : IntKind.i64.wrap ((i : Int) + (jK : Int)) = ((i + jK : Nat) : Int) := wrap_to (by omega) (by omega)
        by_cases him : i < m
        · have h1 : ((i + jK : Nat) : Int) < (t : Int) := by omega
          have h2 : ((ln + i : Nat) : Int) < 64 := by omega
          obtain ⟨vl', ho, he⟩ := HI.out.1
          have hll : vl'.length ≤ 1000000 := by rw [he.1, rpl_len, pri_len, ← HM.out.2.1]; omega
          have hs := HI.out.2.size
          have HO : Hid (OwnV wa.heap.size (.slice lo (ln + i) lc) vl' wB ∧ Elms vl' (rpl (pri K t j i)) wB) := ⟨ho, he⟩
          obtain ⟨wC, hwC⟩ : ∃ wC, wC = wB.alloc (.cells #[.int .i64 (i : Nat), .int .i64 (j : Nat)] 3) := ⟨_, rfl⟩
          have hbC : Below wB.heap.size wB wC := by rw [hwC]; exact (Below.refl _ _).alloc (Nat.le_refl _) _
          have HE : Hid (Elm (.slice (some ⟨wB.heap.size, 0, none⟩) 2 2) (rpp (i, j)) wC ∧ wC.heap.size = wB.heap.size + 1 ∧ Below wB.heap.size wB wC) := ⟨⟨wB.heap.size, 2, rfl, Nat.le_refl _, by omega, by rw [hwC]; exact row_two i j wB⟩, by rw [hwC]; simp, hbC⟩
          clear ho he hbC
          go_wp2_with (at_builtin; rw [← hwC]; refine append_sl rfl _ _ rfl wa.heap.size (.slice lo (ln + i) lc) vl' rfl (HO.out.1.below (bel_up' HE.out.2.2 ((Below.refl _ _).alloc (Nat.le_refl _) _)) (Nat.le_refl _)) ⟨wB.heap.size + 1, 0, none⟩ 1 (.slice (some ⟨wB.heap.size, 0, none⟩) 2 2) rfl rfl (by rw [← HE.out.2.1, cell_of_row _ _ _ _ _ (0, 0) (two_new _)]; rfl) hll (by have := HE.out.2.1; simp; omega) ?_; intro v' w6 hown6 hg6)
          have HR : Hid (LLs wa.heap.size v' (rpl (pri K t j (i + 1))) w6 ∧ Below wa.heap.size wa w6) := by
            have hal : Below wC.heap.size wC (wC.alloc (.cells #[.slice (some ⟨wB.heap.size, 0, none⟩) 2 2] 22)) := (Below.refl _ _).alloc (Nat.le_refl _) _
            have hal2 := bel_up' HE.out.2.2 hal
            rw [pri_succ, rpl_app]
            exact ⟨LLs.push (HO.out.1.below hal2 (Nat.le_refl _)) (HO.out.2.below hal2 (Nat.le_refl _)) (HE.out.1.below hal (Nat.le_refl _)) hown6 hg6, (bel_up' HI.out.2 hal2).grown hg6 (by have := HE.out.2.1; simp; omega) (fun k hk => HO.out.1.open_ge k hk)⟩
          obtain ⟨ao, cap, e⟩ := HR.out.1.len
          rw [rpl_len, pri_len, ← HM.out.2.1] at e
          clear hown6 hg6 hwC
          subst e
          go_roundw
          case rel => exact ⟨i + 1, cap, ao, by omega, by go_num, rfl, HR.out.1, HR.out.2⟩
          case measure => simp [intOf]; omega
        · have him2 : i = m := by omega
          subst him2
          have HR : Hid (LLs wa.heap.size (.slice lo (ln + i) lc) (rpl (pro K t (j + 1))) wB ∧ Below wa.heap.size wa wB) := by
            rw [← pri_end (i := i) (by rw [← HM.out.1, ← HM.out.2.1]; exact HM.out.2.2)]
            exact HI.out
          clear HM
          by_cases h1 : i + jK < t
          · have h1 : ((i + jK : Nat) : Int) < (t : Int) := by omega
            have h2 : ¬ ((ln + i : Nat) : Int) < 64 := by omega
            go_wp2
            go_roundw
            case rel => exact ⟨j + 1, by omega, by go_num, HR.out⟩
            case measure => simp [intOf]; omega
          · have h1 : ¬ ((i + jK : Nat) : Int) < (t : Int) := by omega
            go_wp2
            go_roundw
            case rel => exact ⟨j + 1, by omega, by go_num, HR.out⟩
            case measure => simp [intOf]; omega
    · have hib : ¬ (jK : Int) < (t : Int) := by omega
      have e := prs_of hK1 (show t ≤ j * K by omega)
      rw [e, ← HL.out.1] at HG
      obtain ⟨lo, lc, hv⟩ := HG.out.1.len
      rw [rpl_len, ← HL.out.2.1] at hv
      subst hv
      clear hjK hjj hjb hlt e hj
      go_wp2
      go_loopw [15, 16] (fun vm vi wr => ∃ (i : Nat) (vs : Nat → Value), i ≤ n ∧ vi = .int .i64 i ∧ Hid (MkS wA.heap.size D.q P i vm vs (fun a b => ((svm D xs y l a b : Nat) : Int)) wr ∧ Below wA.heap.size wA wr)) (fun _ vi _ => n - (intOf vi).toNat)
      case atStart => exact ⟨0, fun _ => undef, by omega, rfl, ⟨OwnV.nil _ _, fun j hj => absurd hj (by omega), fun j hj => absurd hj (by omega)⟩, Below.refl _ _⟩
      case round =>
        obtain ⟨i, vs, hi, rfl, HM⟩ := hrel
        rename World => wB
        by_cases hin : i < n
        · have hinb : (i : Int) < (n : Int) := by omega
          have hbB := bel_up' HG.out.2 HM.out.2
          obtain ⟨bx, ox, hxo, _⟩ := (HF.out.2.2.2.1.below hbB HF.out.2.2.2.2.1) i hin
          subst hxo
          obtain ⟨b2, o2, hyo, _⟩ := (HF.out.2.2.2.2.2.2.1.below hbB HF.out.2.2.2.2.2.2.2.1) i hin
          subst hyo
          obtain ⟨gl, _, _, hlo, _, _⟩ := HG.out.1.at (rpl_get (show 0 < l.length by rw [← HL.out.2.1]; omega))
          subst hlo
          clear hbB
          go_wp2
          go_loopw [17, 18] (fun vr va wr => ∃ a : Nat, a ≤ P ∧ va = .int .i64 a ∧ Hid (OwnI wB.heap.size vr (zl a fun b => ((svm D xs y l i b : Nat) : Int)) wr ∧ Below wB.heap.size wB wr)) (fun _ va _ => P - (intOf va).toNat)
          case atStart => exact ⟨0, by omega, rfl, OwnI.nil _ _, Below.refl _ _⟩
          case round =>
            obtain ⟨a, ha, rfl, HR⟩ := hrel
            rename World => wC
            by_cases hal : a < P
            · have hab : (a : Int) < (P : Int) := by omega
              have hbAC := bel_up' HM.out.2 HR.out.2
              have hbC := bel_up' HG.out.2 hbAC
              obtain ⟨_, _, e1, hcx⟩ := (HF.out.2.2.2.1.below hbC HF.out.2.2.2.2.1) i hin
              cases e1
              obtain ⟨_, _, e2, hcy⟩ := (HF.out.2.2.2.2.2.2.1.below hbC HF.out.2.2.2.2.2.2.2.1) i hin
              cases e2
              obtain ⟨_, rb, rcp, e3, hcl, hrw⟩ := (HG.out.1.below hbAC (Nat.le_refl _)).at (rpl_get (show a < l.length by rw [← HL.out.2.1]; exact hal))
              cases e3
              have hc0 : wC.cell? ⟨rb, 0, none⟩ = some (.int .i64 (pxf l a : Nat)) := hrw.cell 0 (by omega)
              have hc1 : wC.cell? ⟨rb, 1, none⟩ = some (.int .i64 (pyf l a : Nat)) := hrw.cell 1 (by omega)
              obtain ⟨px, hpx⟩ : ∃ px, px = pxf l a := ⟨_, rfl⟩
              obtain ⟨py, hpy⟩ : ∃ py, py = pyf l a := ⟨_, rfl⟩
              obtain ⟨x1, hx1⟩ : ∃ x1, x1 = xs i := ⟨_, rfl⟩
              obtain ⟨y1, hy1⟩ : ∃ y1, y1 = y i := ⟨_, rfl⟩
              rw [← hpx] at hc0
              rw [← hpy] at hc1
              rw [← hx1] at hcx
              rw [← hy1] at hcy
              have hcl : wC.cell? ⟨gl, a, none⟩ = some (.slice (some ⟨rb, 0, none⟩) 2 rcp) := hcl
              obtain ⟨X, hX⟩ : ∃ X, X = D.pn x1 px := ⟨_, rfl⟩
              obtain ⟨Y, hY⟩ : ∃ Y, Y = D.pn y1 py := ⟨_, rfl⟩
              obtain ⟨z, hz⟩ : ∃ z, z = D.mul X Y := ⟨_, rfl⟩
              have hx1q : x1 < D.q := by rw [hx1]; exact HF.out.2.2.1 i hin
              have hy1q : y1 < D.q := by rw [hy1]; exact HF.out.2.2.2.2.2.1 i hin
              have hpx64 : px ≤ 64 := by rw [hpx]; exact HQ.out.1 a hal
              have hpy64 : py ≤ 64 := by rw [hpy]; exact HQ.out.2.1 a hal
              have HPw : Hid (∀ wx (a b : Nat), Below wC.heap.size wC wx → a < D.q → b ≤ 64 → Calls Try.prog 54 #[.agg #[.int .i64 D.q, .int .i64 D.p, .int .i64 D.m, .int .i64 gen, .slice (some ⟨gm, 0, none⟩) (D.m + 1) cm], .int .i64 (a : Nat), .int .i64 (b : Nat)] wx fun e w' => e = .returned (.int .i64 (D.pn a b : Nat)) ∧ Below wx.heap.size wx w') := fun wx a b hbx ha hb => by
                refine (rpow_any HF.out.1 gen a b (by omega) (by omega) (HF.out.2.2.2.2.2.2.2.2.1.below (bel_up' hbC hbx))).mono ?_
                rintro e w' ⟨rfl, hb'⟩
                exact ⟨by rw [pn_eq ha b], hb'⟩
              have HPx : Hid (∀ d os, Calls Try.prog 54 #[.agg #[.int .i64 D.q, .int .i64 D.p, .int .i64 D.m, .int .i64 gen, .slice (some ⟨gm, 0, none⟩) (D.m + 1) cm], .int .i64 (x1 : Nat), .int .i64 (px : Nat)] (grow (redrawn wC d) os) fun e w'' => e = .returned (.int .i64 (X : Nat)) ∧ ∃ p : Regrown, w'' = grow (redrawn wC p.d) p.os) := fun d os => by
                rw [hX]
                exact Calls.regrown_of (HPw.out _ x1 px (below_regrown wC d os) hx1q hpx64)
              have HPy : Hid (∀ wx, Below wC.heap.size wC wx → ∀ d os, Calls Try.prog 54 #[.agg #[.int .i64 D.q, .int .i64 D.p, .int .i64 D.m, .int .i64 gen, .slice (some ⟨gm, 0, none⟩) (D.m + 1) cm], .int .i64 (y1 : Nat), .int .i64 (py : Nat)] (grow (redrawn wx d) os) fun e w'' => e = .returned (.int .i64 (Y : Nat)) ∧ ∃ p : Regrown, w'' = grow (redrawn wx p.d) p.os) := fun wx hbx d os => by
                rw [hY]
                exact Calls.regrown_of (HPw.out _ y1 py (bel_up' hbx (below_regrown wx d os)) hy1q hpy64)
              have HMu : Hid (∀ wx, Below wC.heap.size wC wx → Calls Try.prog 55 #[.agg #[.int .i64 D.q, .int .i64 D.p, .int .i64 D.m, .int .i64 gen, .slice (some ⟨gm, 0, none⟩) (D.m + 1) cm], .int .i64 (X : Nat), .int .i64 (Y : Nat)] wx fun e w'' => e = .returned (.int .i64 (z : Nat)) ∧ Below wx.heap.size wx w'') := fun wx hbx => by
                rw [hz]
                exact rmul_nat HF.out.1 gen HF.out.2.2.2.2.2.2.2.2.1 X Y (by rw [hX]; exact pn_lt HF.out.1 hx1q px) (by rw [hY]; exact pn_lt HF.out.1 hy1q py) _ (bel_up' hbC hbx)
              have HZ : Hid (z = svm D xs y l i a) := by
                show z = _
                unfold svm
                rw [if_pos (by rw [← HL.out.2.1]; exact hal), hz, hX, hY, hx1, hy1, hpx, hpy]
              have hbx := HX.out.1.below (B := wa.heap.size) hbC (by have := HX.out.2; omega)
              have HCl : Hid (∀ wx, Below wC.heap.size wC wx → wx.cell? ⟨b2, o2 + i, none⟩ = some (.int .i64 (y1 : Nat)) ∧ wx.cell? ⟨gl, a, none⟩ = some (.slice (some ⟨rb, 0, none⟩) 2 rcp) ∧ wx.cell? ⟨rb, 1, none⟩ = some (.int .i64 (py : Nat)) ∧ Box w.heap.size D gen (.slice (some ⟨gm, 0, none⟩) (D.m + 1) cm) wx) := fun wx hx => ⟨((bcell hx).1 _ _ (cell_lt hcy)).trans hcy, ((bcell hx).1 _ _ (cell_lt hcl)).trans hcl, ((bcell hx).1 _ _ (cell_lt hc1)).trans hc1, HX.out.1.below (B := wa.heap.size) (bel_up' hbC hx) (by have := HX.out.2; omega)⟩
              have k0 := cell_regrown hbx.c0
              have k1' := cell_regrown hbx.c1
              have k2' := cell_regrown hbx.c2
              have k3 := cell_regrown hbx.c3
              have k4 := cell_regrown hbx.c4
              have k5 := cell_regrown hcx
              have k6 := cell_regrown hcl
              have k7 := cell_regrown hc0
              clear hbAC hbC hrw hcx hcy hcl hc0 hc1 hpx hpy hx1 hy1 hX hY hz hbx hx1q hy1q hpx64 hpy64 HPw
              go_wp2
              refine wp_region_quiet_below (by kernel_rfl) (by kernel_rfl) ?_
              repeat (go_big_quiet_step (first | (go_at_call 54; exact HPx.out _ _)))
              refine wpQuiet_nil ?_
              intro _ hw'
              obtain ⟨⟨dr, osr⟩, hw''⟩ := hw'
              subst hw''
              obtain ⟨wD, hwD⟩ : ∃ wD, wD = grow (redrawn wC dr) osr := ⟨_, rfl⟩
              have HD : Hid (Below wC.heap.size wC wD) := by rw [hwD]; exact below_regrown wC dr osr
              rw [← hwD]
              clear hwD k0 k1' k2' k3 k4 k5 k6 k7 HPx
              obtain ⟨hcy, hcl, hc1, hbx⟩ := HCl.out _ HD.out
              have k0 := cell_regrown hbx.c0
              have k1' := cell_regrown hbx.c1
              have k2' := cell_regrown hbx.c2
              have k3 := cell_regrown hbx.c3
              have k4 := cell_regrown hbx.c4
              have k5 := cell_regrown hcy
              have k6 := cell_regrown hcl
              have k7 := cell_regrown hc1
              have HPy2 : Hid _ := HPy.out _ HD.out
              clear hcy hcl hc1 hbx HPy
              go_wp2
              refine wp_region_quiet_below (by kernel_rfl) (by kernel_rfl) ?_
              repeat (go_big_quiet_step (first | (go_at_call 54; exact HPy2.out _ _)))
              refine wpQuiet_nil ?_
              intro _ hw'
              obtain ⟨⟨dr, osr⟩, hw''⟩ := hw'
              subst hw''
              obtain ⟨wE, hwE⟩ : ∃ wE, wE = grow (redrawn wD dr) osr := ⟨_, rfl⟩
              have HE : Hid (Below wC.heap.size wC wE) := bel_up' HD.out (by rw [hwE]; exact below_regrown wD dr osr)
              rw [← hwE]
              clear hwE k0 k1' k2' k3 k4 k5 k6 k7 HPy2
              obtain ⟨_, _, _, hbx⟩ := HCl.out _ HE.out
              obtain ⟨k0, k1', k2', k3, k4⟩ := hbx
              go_wp2_with fail
              refine (HMu.out _ HE.out).mono ?_
              rintro e w7 ⟨rfl, hb7⟩
              have H7 : Hid (OwnI wB.heap.size u17 (zl a fun b => ((svm D xs y l i b : Nat) : Int)) w7 ∧ Below wB.heap.size wB w7) := by
                have hb := bel_up' HE.out hb7
                exact ⟨HR.out.1.below hb (fun k hk => (HR.out.1.lt k hk).2), bel_up' HR.out.2 hb⟩
              have hsz7 := H7.out.2.size
              clear hb7 k0 k1' k2' k3 k4 HCl HD HE
              go_wp2_with (at_builtin; refine append_int rfl _ _ rfl wB.heap.size _ (zl a fun b => ((svm D xs y l i b : Nat) : Int)) rfl (H7.out.1.alloc _) ⟨_, 0, none⟩ 1 (z : Int) rfl (by simp) (by rw [zl_len]; omega) (by simp; omega) ?_; intro v2 w8 hown8 hgrow8)
              have H8 : Hid (OwnI wB.heap.size v2 (zl (a + 1) fun b => ((svm D xs y l i b : Nat) : Int)) w8 ∧ Below wB.heap.size wB w8) := by
                refine ⟨?_, (H7.out.2.alloc hsz7 _).grown hgrow8 (by simp; omega) (fun k hk => (H7.out.1.lt k hk).1)⟩
                rw [zl_succ]
                rw [HZ.out] at hown8
                exact hown8
              clear hown8 hgrow8
              go_roundw
              case rel => exact ⟨a + 1, by omega, by go_num, H8.out⟩
              case measure => simp [intOf]; omega
            · have hab : ¬ (a : Int) < (P : Int) := by omega
              have haP : P = a := by omega
              have HR2 : Hid (OwnI wB.heap.size u17 (zl P fun b => ((svm D xs y l i b : Nat) : Int)) wC ∧ Below wB.heap.size wB wC) := by rw [haP]; exact HR.out
              clear HR haP
              obtain ⟨bo, cb, hbo, _⟩ := HR2.out.1.argL
              subst hbo
              have hll : (vl i vs).length ≤ 1000000 := by rw [vl_len]; omega
              have hsA := HM.out.2.size
              have hsC := HR2.out.2.size
              have H2 : Hid (MkS wA.heap.size D.q P i u15 vs (fun a b => ((svm D xs y l a b : Nat) : Int)) wC ∧ OwnI wA.heap.size (.slice bo P cb) (zl P fun b => ((svm D xs y l i b : Nat) : Int)) wC ∧ Below wA.heap.size wA wC) := ⟨HM.out.1.below HR2.out.2, HR2.out.1.mono hsA, bel_up' HM.out.2 HR2.out.2⟩
              clear HR2
              go_wp2_with (at_builtin; refine append_sl rfl _ _ rfl wA.heap.size u15 (vl i vs) rfl (H2.out.1.own.below ((Below.refl _ _).alloc (Nat.le_refl _) _) (Nat.le_refl _)) ⟨wC.heap.size, 0, none⟩ 1 (.slice bo P cb) rfl rfl (by rw [cell_of_row _ _ _ _ _ (0, 0) (two_new _)]; rfl) hll (by simp; omega) ?_; intro v' w6 hown6 hg6)
              have hall : Below wC.heap.size wC (wC.alloc (.cells #[.slice bo P cb] 22)) := (Below.refl _ _).alloc (Nat.le_refl _) _
              have H3 : Hid (MkS wA.heap.size D.q P (i + 1) v' (fun j => if j = i then .slice bo P cb else vs j) (fun a b => ((svm D xs y l a b : Nat) : Int)) w6 ∧ Below wA.heap.size wA w6) := by
                have ho := H2.out.1.below hall
                have e : (fun j => if j = i then (fun b => ((svm D xs y l i b : Nat) : Int)) else fun b => ((svm D xs y l j b : Nat) : Int)) = fun j b => ((svm D xs y l j b : Nat) : Int) := by
                  funext j b
                  by_cases e : j = i
                  · rw [if_pos e, e]
                  · rw [if_neg e]
                have hk := ho.push (H2.out.2.1.below hall (fun k hk => (H2.out.2.1.lt k hk).2)) (fun t _ => ⟨by omega, by have := svm_el HF.out.1 xs y l i t; omega⟩) hown6 hg6
                rw [e] at hk
                exact ⟨hk, (bel_up' H2.out.2.2 hall).grown hg6 (by simp; omega) (fun k hk => ho.own.open_ge k hk)⟩
              clear hown6 hg6 hall
              go_roundw
              case rel => exact ⟨i + 1, _, by omega, by go_num, H3.out⟩
              case measure => simp [intOf]; omega
        · have hinb : ¬ (i : Int) < (n : Int) := by omega
          have hie : n = i := by omega
          have HM2 : Hid (∃ mo mc, u15 = .slice mo n mc ∧ MatR mo n P1 (svm D xs y l) wB) := by
            have h := HM.out.1.matR (M := svm D xs y l) HL.out.2.2 (fun j _ t _ => rfl)
            rw [← hie] at h
            exact h
          have HB : Hid (Below wA.heap.size wA wB ∧ Below wa.heap.size wa wB) := ⟨HM.out.2, bel_up' HG.out.2 HM.out.2⟩
          clear HM hie hin hi
          obtain ⟨mo, mc, hvm, hmat⟩ := HM2.out
          subst hvm
          have HN : Hid (Calls Try.prog 56 #[.agg #[.int .i64 D.q, .int .i64 D.p, .int .i64 D.m, .int .i64 gen, .slice (some ⟨gm, 0, none⟩) (D.m + 1) cm], .slice mo n mc, .int .i64 (P : Nat)] wB fun e w' => ∃ no nc, e = .returned (.slice no k2 nc) ∧ LLs wB.heap.size (.slice no k2 nc) (rl k2 P1 R2) w' ∧ k2 = nct k1 p P ∧ Below wB.heap.size wB w') := r_null HF.out.1 gen gm cm HF.out.2.1 HL.out.2.2 hP64 hn (svm_el HF.out.1 xs y l) (fun i => by have := svm_bd D xs y l i; rw [HL.out.2.1]; exact this) hmat (HF.out.2.2.2.2.2.2.2.2.1.below HB.out.2)
          have hbx := HX.out.1.below (B := wa.heap.size) HB.out.2 (by have := HX.out.2; omega)
          obtain ⟨k0, k1', k2', k3, k4⟩ := hbx
          clear hmat HM2
          go_wp2_with fail
          refine HN.out.mono ?_
          rintro e wN ⟨no, nc, rfl, hlN, hk2, hbN⟩
          have HNN : Hid (LLs wB.heap.size (.slice no k2 nc) (rl k2 P1 R2) wN ∧ k2 = nct k1 p P ∧ Below wa.heap.size wa wN ∧ Below wA.heap.size wA wN) := ⟨hlN, hk2, bel_up' HB.out.2 hbN, bel_up' HB.out.1 hbN⟩
          clear hlN hk2 hbN k0 k1' k2' k3 k4 HN
          rcases Nat.eq_zero_or_pos k2 with hk0 | hk0
          · have hz : (((k2 : Nat) : Int) == 0) = true := by rw [hk0]; rfl
            go_wp2
            go_ret2
            exact ⟨bel_up' HF.out.2.2.2.2.2.2.2.2.2 HNN.out.2.2.1, HNN.out.2.1, Or.inl ⟨hk0, rfl⟩⟩
          · have hz : (((k2 : Nat) : Int) == 0) = false := by rw [beq_eq_false_iff_ne]; omega
            have hz2 : (0 : Int) < (k2 : Int) := by omega
            obtain ⟨g0, rb, cp, hno, hcn, hrn⟩ := HNN.out.1.at (rl_get k2 P1 R2 0 hk0)
            subst hno
            obtain ⟨gl, _, _, hlo, _, _⟩ := HG.out.1.at (rpl_get (show 0 < l.length by rw [← HL.out.2.1]; omega))
            subst hlo
            have HN0 : Hid (wN.cell? ⟨g0, 0, none⟩ = some (.slice (some ⟨rb, 0, none⟩) P cp) ∧ Row rb P (R2 0) wN) := by rw [HL.out.2.2]; exact ⟨hcn, hrn⟩
            clear hcn hrn
            obtain ⟨s, hs⟩ : ∃ s, s = R2 0 := ⟨_, rfl⟩
            obtain ⟨py, hpy⟩ : ∃ py, py = pyf l := ⟨_, rfl⟩
            have HS : Hid (s = R2 0 ∧ py = pyf l ∧ (∀ b, b < P → py b ≤ gn py b)) := ⟨hs, hpy, by rw [hpy]; exact HQ.out.2.2⟩
            rw [← hs] at HN0
            clear hs hpy
            go_wp2
            go_loopw [22, 23] (fun vo vi wr => ∃ (r m rc : Nat) (ro : Option Addr) (vs : Nat → Value), r ≤ P ∧ vi = .int .i64 r ∧ vo = .slice ro m rc ∧ Hid (m = gn py r ∧ GrS wN.heap.size m ro rc vs (gz py s r) wr ∧ Below wN.heap.size wN wr)) (fun _ vi _ => P - (intOf vi).toNat)
            case atStart => exact ⟨0, 0, 0, none, fun _ => undef, by omega, rfl, rfl, rfl, GrS.nil _ _ _ _, Below.refl _ _⟩
            case round =>
              obtain ⟨r, m, rc, ro, vs, hr, rfl, rfl, HG2⟩ := hrel
              rename World => wC
              by_cases hrP : r < P
              · have hrb : (r : Int) < (P : Int) := by omega
                obtain ⟨_, lb, lcp, e3, hcl, hrw⟩ := (HG.out.1.below (bel_up' HNN.out.2.2.2 HG2.out.2.2) (Nat.le_refl _)).at (rpl_get (show r < l.length by rw [← HL.out.2.1]; exact hrP))
                cases e3
                have hc1 : wC.cell? ⟨lb, 1, none⟩ = some (.int .i64 (pyf l r : Nat)) := hrw.cell 1 (by omega)
                have hcl : wC.cell? ⟨gl, r, none⟩ = some (.slice (some ⟨lb, 0, none⟩) 2 lcp) := hcl
                obtain ⟨j, hj⟩ : ∃ j, j = pyf l r := ⟨_, rfl⟩
                rw [← hj] at hc1
                obtain ⟨x, hx⟩ : ∃ x, x = s r := ⟨_, rfl⟩
                have hjp : j = py r := by rw [hj, HS.out.2.1]
                have hjm : j ≤ m := by rw [hjp, HG2.out.1]; exact HS.out.2.2 r hrP
                have hm64 : m ≤ r := by rw [HG2.out.1]; exact gn_le _ _
                have HP : Hid (m = gn py r ∧ j = py r ∧ x = s r ∧ GrS wN.heap.size m ro rc vs (gz py s r) wC ∧ Below wN.heap.size wN wC) := ⟨HG2.out.1, hjp, hx, HG2.out.2.1, HG2.out.2.2⟩
                have HLc : Hid (∀ wx, Below wN.heap.size wN wx → wx.cell? ⟨gl, r, none⟩ = some (.slice (some ⟨lb, 0, none⟩) 2 lcp) ∧ wx.cell? ⟨lb, 1, none⟩ = some (.int .i64 (j : Nat)) ∧ wx.cell? ⟨g0, 0, none⟩ = some (.slice (some ⟨rb, 0, none⟩) P cp) ∧ wx.cell? ⟨rb, r, none⟩ = some (.int .i64 (x : Nat)) ∧ g0 < wN.heap.size ∧ rb < wN.heap.size) := fun wx hx2 => by
                  obtain ⟨_, lb', lcp', e3, hcl', hrw'⟩ := (HG.out.1.below HNN.out.2.2.2 (Nat.le_refl _)).at (rpl_get (show r < l.length by rw [← HL.out.2.1]; exact hrP))
                  cases e3
                  have q1 := ((bcell HG2.out.2.2).1 _ _ (cell_lt hcl')).trans hcl'
                  rw [hcl] at q1
                  cases q1
                  have q2 : wN.cell? ⟨lb, 1, none⟩ = some (.int .i64 (pyf l r : Nat)) := hrw'.cell 1 (by omega)
                  rw [← hj] at q2
                  have q3 := HN0.out.2.cell r hrP
                  exact ⟨((bcell hx2).1 _ _ (cell_lt hcl')).trans hcl', ((bcell hx2).1 _ _ (cell_lt q2)).trans q2, ((bcell hx2).1 _ _ (cell_lt HN0.out.1)).trans HN0.out.1, ((bcell hx2).1 _ _ (cell_lt q3)).trans (by rw [hx]; exact q3), cell_lt HN0.out.1, HN0.out.2.lt⟩
                clear HG2 hrw hj hx hjp
                by_cases hjm2 : j = m
                · have hjb2 : (((j : Nat) : Int) == ((m : Nat) : Int)) = true := by rw [hjm2]; simp
                  have hll : (vl m vs).length ≤ 1000000 := by rw [vl_len]; omega
                  have HJ : Hid (j = m) := hjm2
                  have hszB := HP.out.2.2.2.2.size
                  clear hjm2
                  go_wp2_with (at_builtin; refine append_sl rfl _ _ rfl wN.heap.size (.slice ro m rc) (vl m vs) rfl (HP.out.2.2.2.1.own.below ((Below.refl _ _).alloc (Nat.le_refl _) _) (Nat.le_refl _)) ⟨wC.heap.size, 0, none⟩ 1 (.slice none 0 0) rfl rfl (by rw [cell_of_row _ _ _ _ _ (0, 0) (two_new _)]; rfl) hll (by simp; omega) ?_; intro v' w6 hown6 hg6; have hb6 : Below wN.heap.size wN w6 := (bel_up' HP.out.2.2.2.2 ((Below.refl _ _).alloc (Nat.le_refl _) _)).grown hg6 (by simp; omega) (fun k hk => HP.out.2.2.2.1.own.open_ge k hk); obtain ⟨hcl6, hlb6, _, _, _, _⟩ := HLc.out _ hb6)
                  obtain ⟨ro1, rc1, hv', hGp⟩ := (HP.out.2.2.2.1.below ((Below.refl _ _).alloc (Nat.le_refl _) _)).push hown6 hg6 (gz_none (fun b hb => HS.out.2.2 b (by omega)) (by rw [HP.out.1]; exact Nat.le_refl _))
                  subst hv'
                  obtain ⟨m1, hm1⟩ : ∃ m1, m1 = m + 1 := ⟨_, rfl⟩
                  obtain ⟨vs1, hvs1⟩ : ∃ vs1 : Nat → Value, vs1 = fun j => if j = m then .slice none 0 0 else vs j := ⟨_, rfl⟩
                  rw [← hm1, ← hvs1] at hGp
                  rw [← hm1]
                  have hjlt : j < m1 := by have := HJ.out; omega
                  have HQ2 : Hid (GrS wN.heap.size m1 ro1 rc1 vs1 (gz py s r) w6 ∧ Below wN.heap.size wN w6 ∧ m1 = gn py (r + 1)) := by
                    refine ⟨hGp, hb6, ?_⟩
                    show m1 = if py r = gn py r then gn py r + 1 else gn py r
                    rw [← HP.out.2.1, ← HP.out.1, if_pos HJ.out, hm1]
                  have hm165 : m1 ≤ 65 := by omega
                  clear hown6 hg6 hGp hb6 hm1 hvs1 hszB hll hjm hcl hc1
                  obtain ⟨g, jo, jc, hro, hvj, hF⟩ := rb_ahead HQ2.out.1 hjlt (HLc.out _ HQ2.out.2.1).2.2.1 (HLc.out _ HQ2.out.2.1).2.2.2.1
                  subst hro
                  obtain ⟨jl, hjl⟩ : ∃ jl, jl = (gz py s r j).length := ⟨_, rfl⟩
                  rw [← hjl] at hF hvj
                  have hzl : (gz py s r j).length ≤ 1000000 := by have := gz_len py s r j; omega
                  have HV : Hid (vs1 j = .slice jo jl jc ∧ jl = (gz py s r j).length) := ⟨hvj, hjl⟩
                  have HK5 : Hid (∀ wx, Below w6.heap.size w6 wx → rbF g j g0 rb r jo jl jc P cp x wx) := fun wx hx => hF.below hx
                  have hjmb : (j : Int) < (m1 : Int) := by omega
                  have hg0 := (HLc.out _ HQ2.out.2.1).2.2.2.2.1
                  have hrb0 := (HLc.out _ HQ2.out.2.1).2.2.2.2.2
                  clear hF hvj hjl
                  have hS5 := HK5.out _ (Below.refl w6.heap.size w6).drew
                  refine wp_region_noPanic ?_
                  refine wp_region_X (S := rbF g j g0 rb r jo jl jc P cp x) 15 (by kernel_rfl) ?_
                  refine wpAnyX_take (i := 0) (v := ?_) (by rw [List.getElem?_toArray]; rfl) (by kernel_rfl) (by kernel_rfl) (by kernel_rfl) (by kernel_rfl) (fun _ _ _ h => h) hS5 (Or.inl ⟨by rfl, ?_⟩) ?_
                  rotate_left
                  · intro wz hSz; obtain ⟨z0, z1, z2, z3⟩ := hSz; go_simp; first | done | with_reducible rfl
                  try simp only [Act.put, List.setIfInBounds_toArray, List.set_cons_zero, List.set_cons_succ]
                  refine wpAnyX_take (i := 1) (v := ?_) (by rw [List.getElem?_toArray]; rfl) (by kernel_rfl) (by kernel_rfl) (by kernel_rfl) (by kernel_rfl) (fun _ _ _ h => h) hS5 (Or.inl ⟨by rfl, ?_⟩) ?_
                  rotate_left
                  · intro wz hSz; obtain ⟨z0, z1, z2, z3⟩ := hSz; go_simp; first | done | with_reducible rfl
                  try simp only [Act.put, List.setIfInBounds_toArray, List.set_cons_zero, List.set_cons_succ]
                  refine wpAnyX_take (i := 2) (v := ?_) (by rw [List.getElem?_toArray]; rfl) (by kernel_rfl) (by kernel_rfl) (by kernel_rfl) (by kernel_rfl) (fun _ _ _ h => h) hS5 (Or.inl ⟨by rfl, ?_⟩) ?_
                  rotate_left
                  · intro wz hSz; obtain ⟨z0, z1, z2, z3⟩ := hSz; go_simp; first | done | with_reducible rfl
                  try simp only [Act.put, List.setIfInBounds_toArray, List.set_cons_zero, List.set_cons_succ]
                  refine wpAnyX_take (i := 3) (v := ?_) (by rw [List.getElem?_toArray]; rfl) (by kernel_rfl) (by kernel_rfl) (by kernel_rfl) (by kernel_rfl) (fun _ _ _ h => h) hS5 (Or.inl ⟨by rfl, ?_⟩) ?_
                  rotate_left
                  · intro wz hSz; obtain ⟨z0, z1, z2, z3⟩ := hSz; go_simp; first | done | with_reducible rfl
                  try simp only [Act.put, List.setIfInBounds_toArray, List.set_cons_zero, List.set_cons_succ]
                  refine wpAnyX_take (i := 4) (v := ?_) (by rw [List.getElem?_toArray]; rfl) (by kernel_rfl) (by kernel_rfl) (by kernel_rfl) (by kernel_rfl) (fun _ _ _ h => h) hS5 (Or.inl ⟨by rfl, ?_⟩) ?_
                  rotate_left
                  · intro wz hSz; obtain ⟨z0, z1, z2, z3⟩ := hSz; go_simp; first | done | with_reducible rfl
                  try simp only [Act.put, List.setIfInBounds_toArray, List.set_cons_zero, List.set_cons_succ]
                  refine wpAnyX_take (i := 5) (v := ?_) (by rw [List.getElem?_toArray]; rfl) (by kernel_rfl) (by kernel_rfl) (by kernel_rfl) (by kernel_rfl) (fun _ _ _ h => h) hS5 (Or.inl ⟨by rfl, ?_⟩) ?_
                  rotate_left
                  · intro wz hSz; obtain ⟨z0, z1, z2, z3⟩ := hSz; go_simp; first | done | with_reducible rfl
                  try simp only [Act.put, List.setIfInBounds_toArray, List.set_cons_zero, List.set_cons_succ]
                  refine wpAnyX_take (i := 6) (v := ?_) (by rw [List.getElem?_toArray]; rfl) (by kernel_rfl) (by kernel_rfl) (by kernel_rfl) (by kernel_rfl) (fun _ _ _ h => h) hS5 (Or.inl ⟨by rfl, ?_⟩) ?_
                  rotate_left
                  · intro wz hSz; obtain ⟨z0, z1, z2, z3⟩ := hSz; go_simp; first | done | with_reducible rfl
                  try simp only [Act.put, List.setIfInBounds_toArray, List.set_cons_zero, List.set_cons_succ]
                  refine wpAnyX_take (i := 7) (v := ?_) (by rw [List.getElem?_toArray]; rfl) (by kernel_rfl) (by kernel_rfl) (by kernel_rfl) (by kernel_rfl) (fun _ _ _ h => h) hS5 (Or.inl ⟨by rfl, ?_⟩) ?_
                  rotate_left
                  · intro wz hSz; obtain ⟨z0, z1, z2, z3⟩ := hSz; go_simp; first | done | with_reducible rfl
                  try simp only [Act.put, List.setIfInBounds_toArray, List.set_cons_zero, List.set_cons_succ]
                  refine wpAnyX_take (i := 8) (v := ?_) (by rw [List.getElem?_toArray]; rfl) (by kernel_rfl) (by kernel_rfl) (by kernel_rfl) (by kernel_rfl) (fun _ _ _ h => h) hS5 (Or.inl ⟨by rfl, ?_⟩) ?_
                  rotate_left
                  · intro wz hSz; obtain ⟨z0, z1, z2, z3⟩ := hSz; go_simp; first | done | with_reducible rfl
                  try simp only [Act.put, List.setIfInBounds_toArray, List.set_cons_zero, List.set_cons_succ]
                  refine wpAnyX_take (i := 9) (v := ?_) (by rw [List.getElem?_toArray]; rfl) (by kernel_rfl) (by kernel_rfl) (by kernel_rfl) (by kernel_rfl) (fun _ _ _ h => h) hS5 (Or.inl ⟨by rfl, ?_⟩) ?_
                  rotate_left
                  · intro wz hSz; obtain ⟨z0, z1, z2, z3⟩ := hSz; go_simp; first | done | with_reducible rfl
                  try simp only [Act.put, List.setIfInBounds_toArray, List.set_cons_zero, List.set_cons_succ]
                  refine wpAnyX_take (i := 10) (v := ?_) (by rw [List.getElem?_toArray]; rfl) (by kernel_rfl) (by kernel_rfl) (by kernel_rfl) (by kernel_rfl) (fun _ _ _ h => h) hS5 (Or.inl ⟨by rfl, ?_⟩) ?_
                  rotate_left
                  · intro wz hSz; obtain ⟨z0, z1, z2, z3⟩ := hSz; go_simp; first | done | with_reducible rfl
                  try simp only [Act.put, List.setIfInBounds_toArray, List.set_cons_zero, List.set_cons_succ]
                  refine wpAnyX_take (i := 11) (v := ?_) (by rw [List.getElem?_toArray]; rfl) (by kernel_rfl) (by kernel_rfl) (by kernel_rfl) (by kernel_rfl) (fun _ _ _ h => h) hS5 (Or.inl ⟨by rfl, ?_⟩) ?_
                  rotate_left
                  · intro wz hSz; obtain ⟨z0, z1, z2, z3⟩ := hSz; go_simp; first | done | with_reducible rfl
                  try simp only [Act.put, List.setIfInBounds_toArray, List.set_cons_zero, List.set_cons_succ]
                  have hsC := HQ2.out.2.1.size
                  refine wpAnyX_one (i := 12) (by kernel_rfl) (by rw [List.getElem?_toArray]; rfl) (fun K hK => ?_)
                  have HK : Hid _ := hK
                  clear hK
                  go_simp
                  refine HK.out _ _ (fun _ => HK5.out _ (by first | exact ((Below.refl _ _).alloc (Nat.le_refl _) _).drew | exact (Below.refl _ _).drew.alloc (Nat.le_refl _) _)) ?_
                  clear HK K
                  try simp only [Act.put, List.setIfInBounds_toArray, List.set_cons_zero, List.set_cons_succ]
                  refine wpAnyX_one (i := 13) (by kernel_rfl) (by rw [List.getElem?_toArray]; rfl) (fun K hK => ?_)
                  have HK : Hid _ := hK
                  clear hK
                  refine step_append_int_at (by rfl) _ _ (by rfl) wN.heap.size (.slice jo jl jc) (gz py s r j) (by rfl) (by rw [← HV.out.1]; exact (HQ2.out.1.below (by first | exact ((Below.refl _ _).alloc (Nat.le_refl _) _).drew | exact (Below.refl _ _).drew.alloc (Nat.le_refl _) _)).row j hjlt) ⟨_, 0, none⟩ 1 (x : Int) (by rfl) (by simp) hzl (by first | omega | (simp; omega)) ?_
                  intro g9 c9 w9 hown9 hgrow9 hat9
                  have hF9 := rbF.keep (HK5.out _ (by first | exact ((Below.refl _ _).alloc (Nat.le_refl _) _).drew | exact (Below.refl _ _).drew.alloc (Nat.le_refl _) _)) (HQ2.out.1.below (by first | exact ((Below.refl _ _).alloc (Nat.le_refl _) _).drew | exact (Below.refl _ _).drew.alloc (Nat.le_refl _) _)) hjlt rfl hg0 hrb0 (by rw [HV.out.1]) hgrow9
                  refine HK.out _ _ (fun _ => hF9) ?_
                  clear HK K
                  try simp only [Act.put, List.setIfInBounds_toArray, List.set_cons_zero, List.set_cons_succ]
                  have HF9 : Hid (rbF g j g0 rb r jo jl jc P cp x w9) := hF9
                  have hc9 := hF9.1
                  have hf9 := hF9.2.1
                  clear hF9
                  refine wpAnyX_one (i := 14) (by kernel_rfl) (by rw [List.getElem?_toArray]; rfl) (fun K hK => ?_)
                  have HK : Hid _ := hK
                  clear hK
                  go_simp
                  refine HK.out _ _ (fun _ => HF9.out) ?_
                  clear HK K
                  try simp only [Act.put, List.setIfInBounds_toArray, List.set_cons_zero, List.set_cons_succ]
                  refine wpAnyX_one (i := 15) (by kernel_rfl) (by rw [List.getElem?_toArray]; rfl) (fun K hK => ?_)
                  have HK : Hid _ := hK
                  clear hK
                  go_simp
                  refine HK.out _ _ (fun h => absurd rfl h) ?_
                  clear HK K
                  try simp only [Act.put, List.setIfInBounds_toArray, List.set_cons_zero, List.set_cons_succ]
                  refine wpAnyX_done (by kernel_rfl) (NoPanic.normal ?_)
                  have HR : Hid (GrS wN.heap.size m1 (some ⟨g, 0, none⟩) rc1 (fun i => if i = j then (.slice (some ⟨g9, 0, none⟩) ((gz py s r j).length + 1) c9) else vs1 i) (gz py s (r + 1)) (w9.setCell ⟨g, j, none⟩ (.slice (some ⟨g9, 0, none⟩) ((gz py s r j).length + 1) c9)) ∧ Below wN.heap.size wN (w9.setCell ⟨g, j, none⟩ (.slice (some ⟨g9, 0, none⟩) ((gz py s r j).length + 1) c9))) := by
                    have hx := HP.out.2.2.1
                    refine ⟨GrS.next (HQ2.out.1.below (by first | exact ((Below.refl _ _).alloc (Nat.le_refl _) _).drew | exact (Below.refl _ _).drew.alloc (Nat.le_refl _) _)) hjlt HP.out.2.1 rfl (by rw [← hx]; exact hown9) (by rw [HV.out.1]) hgrow9 hat9, ?_⟩
                    have hb : Below wN.heap.size wN w9 := (bel_up' HQ2.out.2.1 (by first | exact ((Below.refl _ _).alloc (Nat.le_refl _) _).drew | exact (Below.refl _ _).drew.alloc (Nat.le_refl _) _)).grown hgrow9 (by first | omega | (simp; omega)) (fun k hk => ((HQ2.out.1.row j hjlt).lt k (by rw [HV.out.1]; exact hk)).1)
                    refine hb.setCell ?_ _
                    obtain ⟨g', e, _, _, hge, _⟩ := HQ2.out.1.cell j hjlt
                    cases e
                    exact hge
                  clear hown9 hgrow9 hat9 hc9 hf9 HF9 hS5
                  go_wp2
                  go_roundw
                  case rel => exact ⟨r + 1, _, _, _, _, by omega, by go_num, rfl, HQ2.out.2.2, HR.out⟩
                  case measure => simp [intOf]; omega
                · have hjb2 : (((j : Nat) : Int) == ((m : Nat) : Int)) = false := by rw [beq_eq_false_iff_ne]; omega
                  have hjlt : j < m := by omega
                  have HQ2 : Hid (GrS wN.heap.size m ro rc vs (gz py s r) wC ∧ Below wN.heap.size wN wC ∧ m = gn py (r + 1)) := by
                    refine ⟨HP.out.2.2.2.1, HP.out.2.2.2.2, ?_⟩
                    show m = if py r = gn py r then gn py r + 1 else gn py r
                    rw [← HP.out.2.1, ← HP.out.1, if_neg hjm2]
                  clear hjm hjm2
                  go_wp2
                  obtain ⟨g, jo, jc, hro, hvj, hF⟩ := rb_ahead HQ2.out.1 hjlt (HLc.out _ HQ2.out.2.1).2.2.1 (HLc.out _ HQ2.out.2.1).2.2.2.1
                  subst hro
                  obtain ⟨jl, hjl⟩ : ∃ jl, jl = (gz py s r j).length := ⟨_, rfl⟩
                  rw [← hjl] at hF hvj
                  have hzl : (gz py s r j).length ≤ 1000000 := by have := gz_len py s r j; omega
                  have HV : Hid (vs j = .slice jo jl jc ∧ jl = (gz py s r j).length) := ⟨hvj, hjl⟩
                  have HK5 : Hid (∀ wx, Below wC.heap.size wC wx → rbF g j g0 rb r jo jl jc P cp x wx) := fun wx hx => hF.below hx
                  have hjmb : (j : Int) < (m : Int) := by omega
                  have hg0 := (HLc.out _ HQ2.out.2.1).2.2.2.2.1
                  have hrb0 := (HLc.out _ HQ2.out.2.1).2.2.2.2.2
                  clear hF hvj hjl
                  have hS5 := HK5.out _ (Below.refl wC.heap.size wC).drew
                  refine wp_region_noPanic ?_
                  refine wp_region_X (S := rbF g j g0 rb r jo jl jc P cp x) 15 (by kernel_rfl) ?_
                  refine wpAnyX_take (i := 0) (v := ?_) (by rw [List.getElem?_toArray]; rfl) (by kernel_rfl) (by kernel_rfl) (by kernel_rfl) (by kernel_rfl) (fun _ _ _ h => h) hS5 (Or.inl ⟨by rfl, ?_⟩) ?_
                  rotate_left
                  · intro wz hSz; obtain ⟨z0, z1, z2, z3⟩ := hSz; go_simp; first | done | with_reducible rfl
                  try simp only [Act.put, List.setIfInBounds_toArray, List.set_cons_zero, List.set_cons_succ]
                  refine wpAnyX_take (i := 1) (v := ?_) (by rw [List.getElem?_toArray]; rfl) (by kernel_rfl) (by kernel_rfl) (by kernel_rfl) (by kernel_rfl) (fun _ _ _ h => h) hS5 (Or.inl ⟨by rfl, ?_⟩) ?_
                  rotate_left
                  · intro wz hSz; obtain ⟨z0, z1, z2, z3⟩ := hSz; go_simp; first | done | with_reducible rfl
                  try simp only [Act.put, List.setIfInBounds_toArray, List.set_cons_zero, List.set_cons_succ]
                  refine wpAnyX_take (i := 2) (v := ?_) (by rw [List.getElem?_toArray]; rfl) (by kernel_rfl) (by kernel_rfl) (by kernel_rfl) (by kernel_rfl) (fun _ _ _ h => h) hS5 (Or.inl ⟨by rfl, ?_⟩) ?_
                  rotate_left
                  · intro wz hSz; obtain ⟨z0, z1, z2, z3⟩ := hSz; go_simp; first | done | with_reducible rfl
                  try simp only [Act.put, List.setIfInBounds_toArray, List.set_cons_zero, List.set_cons_succ]
                  refine wpAnyX_take (i := 3) (v := ?_) (by rw [List.getElem?_toArray]; rfl) (by kernel_rfl) (by kernel_rfl) (by kernel_rfl) (by kernel_rfl) (fun _ _ _ h => h) hS5 (Or.inl ⟨by rfl, ?_⟩) ?_
                  rotate_left
                  · intro wz hSz; obtain ⟨z0, z1, z2, z3⟩ := hSz; go_simp; first | done | with_reducible rfl
                  try simp only [Act.put, List.setIfInBounds_toArray, List.set_cons_zero, List.set_cons_succ]
                  refine wpAnyX_take (i := 4) (v := ?_) (by rw [List.getElem?_toArray]; rfl) (by kernel_rfl) (by kernel_rfl) (by kernel_rfl) (by kernel_rfl) (fun _ _ _ h => h) hS5 (Or.inl ⟨by rfl, ?_⟩) ?_
                  rotate_left
                  · intro wz hSz; obtain ⟨z0, z1, z2, z3⟩ := hSz; go_simp; first | done | with_reducible rfl
                  try simp only [Act.put, List.setIfInBounds_toArray, List.set_cons_zero, List.set_cons_succ]
                  refine wpAnyX_take (i := 5) (v := ?_) (by rw [List.getElem?_toArray]; rfl) (by kernel_rfl) (by kernel_rfl) (by kernel_rfl) (by kernel_rfl) (fun _ _ _ h => h) hS5 (Or.inl ⟨by rfl, ?_⟩) ?_
                  rotate_left
                  · intro wz hSz; obtain ⟨z0, z1, z2, z3⟩ := hSz; go_simp; first | done | with_reducible rfl
                  try simp only [Act.put, List.setIfInBounds_toArray, List.set_cons_zero, List.set_cons_succ]
                  refine wpAnyX_take (i := 6) (v := ?_) (by rw [List.getElem?_toArray]; rfl) (by kernel_rfl) (by kernel_rfl) (by kernel_rfl) (by kernel_rfl) (fun _ _ _ h => h) hS5 (Or.inl ⟨by rfl, ?_⟩) ?_
                  rotate_left
                  · intro wz hSz; obtain ⟨z0, z1, z2, z3⟩ := hSz; go_simp; first | done | with_reducible rfl
                  try simp only [Act.put, List.setIfInBounds_toArray, List.set_cons_zero, List.set_cons_succ]
                  refine wpAnyX_take (i := 7) (v := ?_) (by rw [List.getElem?_toArray]; rfl) (by kernel_rfl) (by kernel_rfl) (by kernel_rfl) (by kernel_rfl) (fun _ _ _ h => h) hS5 (Or.inl ⟨by rfl, ?_⟩) ?_
                  rotate_left
                  · intro wz hSz; obtain ⟨z0, z1, z2, z3⟩ := hSz; go_simp; first | done | with_reducible rfl
                  try simp only [Act.put, List.setIfInBounds_toArray, List.set_cons_zero, List.set_cons_succ]
                  refine wpAnyX_take (i := 8) (v := ?_) (by rw [List.getElem?_toArray]; rfl) (by kernel_rfl) (by kernel_rfl) (by kernel_rfl) (by kernel_rfl) (fun _ _ _ h => h) hS5 (Or.inl ⟨by rfl, ?_⟩) ?_
                  rotate_left
                  · intro wz hSz; obtain ⟨z0, z1, z2, z3⟩ := hSz; go_simp; first | done | with_reducible rfl
                  try simp only [Act.put, List.setIfInBounds_toArray, List.set_cons_zero, List.set_cons_succ]
                  refine wpAnyX_take (i := 9) (v := ?_) (by rw [List.getElem?_toArray]; rfl) (by kernel_rfl) (by kernel_rfl) (by kernel_rfl) (by kernel_rfl) (fun _ _ _ h => h) hS5 (Or.inl ⟨by rfl, ?_⟩) ?_
                  rotate_left
                  · intro wz hSz; obtain ⟨z0, z1, z2, z3⟩ := hSz; go_simp; first | done | with_reducible rfl
                  try simp only [Act.put, List.setIfInBounds_toArray, List.set_cons_zero, List.set_cons_succ]
                  refine wpAnyX_take (i := 10) (v := ?_) (by rw [List.getElem?_toArray]; rfl) (by kernel_rfl) (by kernel_rfl) (by kernel_rfl) (by kernel_rfl) (fun _ _ _ h => h) hS5 (Or.inl ⟨by rfl, ?_⟩) ?_
                  rotate_left
                  · intro wz hSz; obtain ⟨z0, z1, z2, z3⟩ := hSz; go_simp; first | done | with_reducible rfl
                  try simp only [Act.put, List.setIfInBounds_toArray, List.set_cons_zero, List.set_cons_succ]
                  refine wpAnyX_take (i := 11) (v := ?_) (by rw [List.getElem?_toArray]; rfl) (by kernel_rfl) (by kernel_rfl) (by kernel_rfl) (by kernel_rfl) (fun _ _ _ h => h) hS5 (Or.inl ⟨by rfl, ?_⟩) ?_
                  rotate_left
                  · intro wz hSz; obtain ⟨z0, z1, z2, z3⟩ := hSz; go_simp; first | done | with_reducible rfl
                  try simp only [Act.put, List.setIfInBounds_toArray, List.set_cons_zero, List.set_cons_succ]
                  have hsC := HQ2.out.2.1.size
                  refine wpAnyX_one (i := 12) (by kernel_rfl) (by rw [List.getElem?_toArray]; rfl) (fun K hK => ?_)
                  have HK : Hid _ := hK
                  clear hK
                  go_simp
                  refine HK.out _ _ (fun _ => HK5.out _ (by first | exact ((Below.refl _ _).alloc (Nat.le_refl _) _).drew | exact (Below.refl _ _).drew.alloc (Nat.le_refl _) _)) ?_
                  clear HK K
                  try simp only [Act.put, List.setIfInBounds_toArray, List.set_cons_zero, List.set_cons_succ]
                  refine wpAnyX_one (i := 13) (by kernel_rfl) (by rw [List.getElem?_toArray]; rfl) (fun K hK => ?_)
                  have HK : Hid _ := hK
                  clear hK
                  refine step_append_int_at (by rfl) _ _ (by rfl) wN.heap.size (.slice jo jl jc) (gz py s r j) (by rfl) (by rw [← HV.out.1]; exact (HQ2.out.1.below (by first | exact ((Below.refl _ _).alloc (Nat.le_refl _) _).drew | exact (Below.refl _ _).drew.alloc (Nat.le_refl _) _)).row j hjlt) ⟨_, 0, none⟩ 1 (x : Int) (by rfl) (by simp) hzl (by first | omega | (simp; omega)) ?_
                  intro g9 c9 w9 hown9 hgrow9 hat9
                  have hF9 := rbF.keep (HK5.out _ (by first | exact ((Below.refl _ _).alloc (Nat.le_refl _) _).drew | exact (Below.refl _ _).drew.alloc (Nat.le_refl _) _)) (HQ2.out.1.below (by first | exact ((Below.refl _ _).alloc (Nat.le_refl _) _).drew | exact (Below.refl _ _).drew.alloc (Nat.le_refl _) _)) hjlt rfl hg0 hrb0 (by rw [HV.out.1]) hgrow9
                  refine HK.out _ _ (fun _ => hF9) ?_
                  clear HK K
                  try simp only [Act.put, List.setIfInBounds_toArray, List.set_cons_zero, List.set_cons_succ]
                  have HF9 : Hid (rbF g j g0 rb r jo jl jc P cp x w9) := hF9
                  have hc9 := hF9.1
                  have hf9 := hF9.2.1
                  clear hF9
                  refine wpAnyX_one (i := 14) (by kernel_rfl) (by rw [List.getElem?_toArray]; rfl) (fun K hK => ?_)
                  have HK : Hid _ := hK
                  clear hK
                  go_simp
                  refine HK.out _ _ (fun _ => HF9.out) ?_
                  clear HK K
                  try simp only [Act.put, List.setIfInBounds_toArray, List.set_cons_zero, List.set_cons_succ]
                  refine wpAnyX_one (i := 15) (by kernel_rfl) (by rw [List.getElem?_toArray]; rfl) (fun K hK => ?_)
                  have HK : Hid _ := hK
                  clear hK
                  go_simp
                  refine HK.out _ _ (fun h => absurd rfl h) ?_
                  clear HK K
                  try simp only [Act.put, List.setIfInBounds_toArray, List.set_cons_zero, List.set_cons_succ]
                  refine wpAnyX_done (by kernel_rfl) (NoPanic.normal ?_)
                  have HR : Hid (GrS wN.heap.size m (some ⟨g, 0, none⟩) rc (fun i => if i = j then (.slice (some ⟨g9, 0, none⟩) ((gz py s r j).length + 1) c9) else vs i) (gz py s (r + 1)) (w9.setCell ⟨g, j, none⟩ (.slice (some ⟨g9, 0, none⟩) ((gz py s r j).length + 1) c9)) ∧ Below wN.heap.size wN (w9.setCell ⟨g, j, none⟩ (.slice (some ⟨g9, 0, none⟩) ((gz py s r j).length + 1) c9))) := by
                    have hx := HP.out.2.2.1
                    refine ⟨GrS.next (HQ2.out.1.below (by first | exact ((Below.refl _ _).alloc (Nat.le_refl _) _).drew | exact (Below.refl _ _).drew.alloc (Nat.le_refl _) _)) hjlt HP.out.2.1 rfl (by rw [← hx]; exact hown9) (by rw [HV.out.1]) hgrow9 hat9, ?_⟩
                    have hb : Below wN.heap.size wN w9 := (bel_up' HQ2.out.2.1 (by first | exact ((Below.refl _ _).alloc (Nat.le_refl _) _).drew | exact (Below.refl _ _).drew.alloc (Nat.le_refl _) _)).grown hgrow9 (by first | omega | (simp; omega)) (fun k hk => ((HQ2.out.1.row j hjlt).lt k (by rw [HV.out.1]; exact hk)).1)
                    refine hb.setCell ?_ _
                    obtain ⟨g', e, _, _, hge, _⟩ := HQ2.out.1.cell j hjlt
                    cases e
                    exact hge
                  clear hown9 hgrow9 hat9 hc9 hf9 HF9 hS5
                  go_wp2
                  go_roundw
                  case rel => exact ⟨r + 1, _, _, _, _, by omega, by go_num, rfl, HQ2.out.2.2, HR.out⟩
                  case measure => simp [intOf]; omega
              · have hrb : ¬ (r : Int) < (P : Int) := by omega
                have hrn : r = P := by omega
                subst hrn
                have HE : Hid (LLs w.heap.size (.slice ro m rc) (gL py s r) wC ∧ Below w.heap.size w wC ∧ k2 = nct k1 p r) := by
                  have hb1 := bel_up' HF.out.2.2.2.2.2.2.2.2.2 HNN.out.2.2.1
                  exact ⟨(HG2.out.2.1.lls HG2.out.1 HS.out.2.2).mono hb1.size, bel_up' hb1 HG2.out.2.2, HNN.out.2.1⟩
                rw [HS.out.1, HS.out.2.1] at HE
                go_wp2
                go_ret2
                exact ⟨HE.out.2.1, HE.out.2.2, Or.inr ⟨_, rfl, HE.out.1⟩⟩
end Go.Proofs.Ytjkncdmbcckcdaa
