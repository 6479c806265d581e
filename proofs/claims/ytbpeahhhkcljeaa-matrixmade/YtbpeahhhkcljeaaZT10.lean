/- The reference's matrices: linear equations (Solve). -/
import Derived.Test.YtbpeahhhkcljeaaZS4
import Derived.Test.YtbpeahhhkcljeaaZX18
namespace Go.Proofs.Ytbpeahhhkcljeaa
open Go.RowKit Go.Sort

theorem zl_aug {n : Nat} {M : Nat → Nat → Nat} {b : Nat → Nat} (i : Nat) : zl n (fun j => ((M i j : Nat) : Int)) ++ zl 1 (fun _ => ((b i : Nat) : Int)) = zl (n + 1) (fun j => ((aug n M b i j : Nat) : Int)) := by
  rw [zl_succ n (fun j => ((aug n M b i j : Nat) : Int))]
  congr 1
  · exact zl_congr (fun j hj => by unfold aug; rw [if_neg (by omega)])
  · show [((b i : Nat) : Int)] = [((aug n M b i n : Nat) : Int)]
    unfold aug
    rw [if_pos rfl]
theorem OwnI.elm {base : Nat} {v : Value} {n : Nat} {c : Nat → Nat} {w : World} (h : OwnI base v (zl (n + 1) fun j => ((c j : Nat) : Int)) w) : Elm v (n, c) w := by
  have h1 := h.ownC c (fun k hk => by rw [zl_len] at hk; rw [zl_getD _ _ k hk])
  rw [zl_len] at h1
  exact h1.elm

set_option maxHeartbeats 8000000 in
set_option maxRecDepth 100000 in
theorem rsolve_row {D : FD} (hD : D ∈ fieldsL) (gen gm cm : Nat) {ao bo : Option Addr} {m n L ca cb : Nat} {M : Nat → Nat → Nat} {b : Nat → Nat} {w : World} (hL : L = n + 1) (hm0 : 0 < m) (hm : m ≤ 1000) (hn : n ≤ 900) (hel : ∀ i, i < m → El D (M i) ∧ Bd (n + 1) (M i)) (hA : MatR ao m n M w) (hb : Sl bo m b w) (hbq : ∀ i, i < m → b i < D.q) (hM : ModAt D (.slice (some ⟨gm, 0, none⟩) (D.m + 1) cm) D.md w) :
    Calls Try.prog 62 #[.agg #[.int .i64 D.q, .int .i64 D.p, .int .i64 D.m, .int .i64 gen, .slice (some ⟨gm, 0, none⟩) (D.m + 1) cm], .slice ao m ca, .slice bo m cb] w fun e w' => Below w.heap.size w w' ∧ ∃ k R p, k ≤ m ∧ RRE D (L + 1) k R p ∧ (∀ v, Spn D (RowsOf k R) v ↔ Spn D (RowsOf m (aug L M b)) v) ∧
      (((∃ i, i < k ∧ p i = L) ∧ e = .returned (.tuple #[.slice none 0 0, .bool false])) ∨ ((∀ i, i < k → p i ≠ L) ∧ ∃ g, e = .returned (.tuple #[.slice (some ⟨g, 0, none⟩) L L, .bool true]) ∧ w.heap.size ≤ g ∧ Row g L (slx R p L k) w')) := by
  have hbl : Below w.heap.size w (w.alloc (.cells #[.int .i64 D.q, .int .i64 D.p, .int .i64 D.m, .int .i64 gen, .slice (some ⟨gm, 0, none⟩) (D.m + 1) cm] 28)) := (Below.refl _ _).alloc (Nat.le_refl _) _
  have HF : Hid (D ∈ fieldsL ∧ (∀ i, i < m → El D (M i) ∧ Bd (n + 1) (M i)) ∧ MatR ao m n M w ∧ Sl bo m b w ∧ (∀ i, i < m → b i < D.q) ∧ ModAt D (.slice (some ⟨gm, 0, none⟩) (D.m + 1) cm) D.md w) := ⟨hD, hel, hA, hb, hbq, hM⟩
  have HB0 : Hid (Box w.heap.size D gen (.slice (some ⟨gm, 0, none⟩) (D.m + 1) cm) (w.alloc (.cells #[.int .i64 D.q, .int .i64 D.p, .int .i64 D.m, .int .i64 gen, .slice (some ⟨gm, 0, none⟩) (D.m + 1) cm] 28)) ∧ Below w.heap.size w (w.alloc (.cells #[.int .i64 D.q, .int .i64 D.p, .int .i64 D.m, .int .i64 gen, .slice (some ⟨gm, 0, none⟩) (D.m + 1) cm] 28))) := ⟨box_new D gen _ w, hbl⟩
  obtain ⟨bA, oA, u0, eA, hc0, hr0⟩ := (hA.below hbl) 0 hm0
  subst eA
  obtain ⟨x0, cx0, rfl, _⟩ := hr0
  rw [show oA + 0 = oA from rfl, ← hL] at hc0
  have HN : Hid (L = n + 1) := hL
  have hL9 : L ≤ 901 := by omega
  have hm0' : (0 : Int) < (m : Int) := by omega
  clear hD hel hA hM hbl hL hb hbq
  go_enter Try.func62, Try.ntmps62
  go_wp2_with fail
  obtain ⟨w0, hw0⟩ : ∃ w0, w0 = (w.alloc (.cells #[.int .i64 D.q, .int .i64 D.p, .int .i64 D.m, .int .i64 gen, .slice (some ⟨gm, 0, none⟩) (D.m + 1) cm] 28)) := ⟨_, rfl⟩
  have hs0 : w0.heap.size = w.heap.size + 1 := by rw [hw0]; simp
  rw [← hw0] at HB0 hc0 ⊢
  clear hw0 hc0
  go_loopw [9, 10] (fun vl vi wr => ∃ i : Nat, i ≤ m ∧ vi = .int .i64 i ∧ Hid (LLs w0.heap.size vl (rl i L (aug L M b)) wr ∧ Below w0.heap.size w0 wr)) (fun _ vi _ => m - (intOf vi).toNat)
  case atStart => exact ⟨0, by omega, rfl, ⟨LLs.nil _ _, Below.refl _ _⟩⟩
  case round =>
    obtain ⟨i, hi, rfl, HG⟩ := hrel
    rename World => wA
    by_cases hlt : i < m
    · have hib : (i : Int) < (m : Int) := by omega
      have hib0 : (0 : Int) ≤ (i : Int) := by omega
      have hbA := bel_up' HB0.out.2 HG.out.2
      obtain ⟨bA', oA', uA, eA', hcA, hrA⟩ := (HF.out.2.2.1.below hbA) i hlt
      cases eA'
      obtain ⟨xA, cxA, rfl, hsA, hlA, hnA, hleA, hcapA⟩ := hrA
      rw [← HN.out] at hcA hsA
      have hbs := slz_below HF.out.2.2.2.1 hbA
      obtain ⟨bb, ob, rfl, hcb⟩ := hbs i hlt
      obtain ⟨y, hy⟩ : ∃ y, y = b i := ⟨_, rfl⟩
      replace hcb : wA.cell? ⟨bb, ob + i, none⟩ = some (.int .i64 ((b i : Nat) : Int)) := hcb
      rw [← hy] at hcb
      have HCp : Hid (∀ w1, Below wA.heap.size wA w1 → Calls Try.prog 94 #[.slice xA L cxA] w1 fun e w' => ∃ v, e = .returned v ∧ OwnI w1.heap.size v (zl L fun j => ((M i j : Nat) : Int)) w' ∧ Below w1.heap.size w1 w') := fun w1 h1 =>
        copyI_any (hsA.below h1 hlA) (by omega) hnA (hlA.mono h1.size)
      obtain ⟨lst, hov, hels⟩ := HG.out.1
      have HV : Hid (OwnV w0.heap.size u9 lst wA ∧ Elms lst (rl i L (aug L M b)) wA ∧ lst.length ≤ 1000) := ⟨hov, hels, by rw [hels.1, rl_len]; omega⟩
      have HY : Hid (y = b i) := hy
      clear hov hels hsA hlA hnA hleA hcapA hbs hy
      have hbc : Below wA.heap.size wA wA := Below.refl _ _
      have HK : Hid ((∀ wx, Below w0.heap.size w0 wx → wx.cell? ⟨bA, oA + i, none⟩ = some (.slice xA L cxA)) ∧ ∀ wx, Below w0.heap.size w0 wx → wx.cell? ⟨bb, ob + i, none⟩ = some (.int .i64 (y : Nat))) := by
        have hlA : bA < w.heap.size := by
          obtain ⟨b1, o1, u1, e1, hc1, _⟩ := HF.out.2.2.1 i hlt
          cases e1
          exact cell_lt hc1
        have hlB : bb < w.heap.size := by
          obtain ⟨b1, o1, e1, hc1⟩ := HF.out.2.2.2.1 i hlt
          cases e1
          exact cell_lt hc1
        refine ⟨fun wx hx => ?_, fun wx hx => ?_⟩
        · exact ((bcell hx).1 bA (oA + i) (by omega)).trans (((bcell HG.out.2).1 bA (oA + i) (by omega)).symm.trans hcA)
        · exact ((bcell hx).1 bb (ob + i) (by omega)).trans (((bcell HG.out.2).1 bb (ob + i) (by omega)).symm.trans hcb)
      have hz : Below w0.heap.size w0 wA := HG.out.2
      go_wp2
      refine wp_region_noPanic ?_
      go_region_held3 (fun w' => w'.cell? ⟨bA, oA + i, none⟩ = some (.slice xA L cxA) ∧ w'.cell? ⟨bb, ob + i, none⟩ = some (.int .i64 (y : Nat)))
        (first | go_keep | exact ⟨HK.out.1 _ (by first | exact hz | exact hz.drew | exact hz.alloc hz.size _ | exact hz.drew.alloc hz.size _), HK.out.2 _ (by first | exact hz | exact hz.drew | exact hz.alloc hz.size _ | exact hz.drew.alloc hz.size _)⟩)
        (first
          | (go_at_call 94; refine (HCp.out _ (by first | exact hbc | exact hbc.drew | exact hbc.alloc (Nat.le_refl _) _ | exact hbc.drew.alloc (Nat.le_refl _) _)).mono ?_; rintro e w2 ⟨v2, rfl, ho2, hb2⟩; replace hbc : Below wA.heap.size wA w2 := bel_up' (by first | exact hbc | exact hbc.drew | exact hbc.alloc (Nat.le_refl _) _ | exact hbc.drew.alloc (Nat.le_refl _) _) hb2; replace hz : Below w0.heap.size w0 w2 := HG.out.2.trans (hbc.mono HG.out.2.size))
          | (show (if Region.wanted (Oper.mk (some 36) _ _ _ _ _) _ = true then _ else _); refine step_append_ints (by rfl) _ _ (by rfl) _ v2 _ (by rfl) (by first | exact ho2 | exact ho2.alloc _) _ _ _ (fun _ => ((y : Nat) : Int)) (by rfl) (SlZ.one (by first | (simp; done) | exact ((bcell hb2).1 _ _ (by show _ < (wA.alloc _).heap.size; simp)).trans (by show (wA.alloc _).cell? _ = _; simp))) (fun e => by cases e) (by rw [zl_len]; omega) (by have := hbc.size; first | exact hb2.size | exact Nat.le_trans hb2.size (by simp) | omega | (simp; omega)) wA (by first | exact hbc | exact hbc.alloc hbc.size _) (by first | exact Nat.le_refl _ | (show wA.heap.size ≤ (wA.alloc _).heap.size; simp; done) | (simp; done)) ?_; intro v3 w3 ho3 hg3 hB3; rw [HY.out, zl_aug] at ho3; replace hbc : Below wA.heap.size wA w3 := hB3; replace hz : Below w0.heap.size w0 w3 := HG.out.2.trans (hB3.mono HG.out.2.size); obtain ⟨g3, c3, rfl, he31, he32, he33⟩ := ho3.elm)
          | (show (if Region.wanted (Oper.mk (some 38) _ _ _ _ _) _ = true then _ else _); refine step_append_sls (by rfl) _ _ (by rfl) w0.heap.size u9 lst (by rfl) (HV.out.1.below (hB3.alloc hB3.size _) (Nat.le_refl _)) _ _ _ (fun _ => .slice (some ⟨g3, 0, none⟩) (L + 1) c3) (by rfl) (SlV.one (by simp)) (fun _ _ => rfl) (fun e => by cases e) (by have := HV.out.2.2; omega) (by have h1 := hB3.size; have h2 := HG.out.2.size; simp; omega) w0 (HG.out.2.trans ((hB3.alloc hB3.size _).mono HG.out.2.size)) (Nat.le_refl _) ?_; intro v4 w4 ho4 hg4 hB4; replace hz := hB4)
          | fail)
      all_goals
        have hal : Below w3.heap.size w3 (w3.alloc (.cells #[.slice (some ⟨g3, 0, none⟩) (L + 1) c3] 23)) := (Below.refl _ _).alloc (Nat.le_refl _) _
        have hb3 := bel_up' hB3 hal
        have hoV := HV.out.1.below hb3 (Nat.le_refl _)
        have HR : Hid (LLs w0.heap.size v4 (rl (i + 1) L (aug L M b)) w4 ∧ Below w0.heap.size w0 w4) := by
          refine ⟨⟨_, ho4, ?_⟩, hB4⟩
          have h := ((HV.out.2.1.below hb3 (Nat.le_refl _)).snoc (ho3.elm.below hal (Nat.le_refl _))).grown hoV hg4
          rw [rl_succ]; exact h
        clear ho2 hb2 hbc ho3 hg3 hB3 ho4 hg4 hB4 hz hal hb3 hoV he31 he32 he33
        refine NoPanic.normal ?_
        go_wp2
        go_roundw
        case rel => exact ⟨i + 1, by omega, by go_num, HR.out⟩
        case measure => simp [intOf]; omega
    · have hib : ¬ (i : Int) < (m : Int) := by omega
      have hie : i = m := by omega
      subst hie
      have hbx := HB0.out.1.below HG.out.2 (by omega)
      have k0 := hbx.c0
      have k1 := hbx.c1
      have k2 := hbx.c2
      have k3 := hbx.c3
      have k4 := hbx.c4
      clear hbx
      obtain ⟨lo, lc, ls, rfl, hlw⟩ := HG.out.1.rws
      have HL : Hid (MatR lo i L (aug L M b) wA) := hlw.matR
      clear hlw
      have HAe : Hid (∀ j, j < i → El D (aug L M b j) ∧ Bd (L + 1) (aug L M b j)) := fun j hj => ⟨aug_el (HF.out.2.1 j hj).1 (HF.out.2.2.2.2.1 j hj), aug_bd (by rw [HN.out]; exact (HF.out.2.1 j hj).2)⟩
      go_wp2_with fail
      refine (rreduce_any HF.out.1 gen gm cm (by omega) (by omega) HAe.out HL.out (HF.out.2.2.2.2.2.below (bel_up' HB0.out.2 HG.out.2))).mono ?_
      rintro e w7 ⟨vr, vp, k, R, p, rfl, hk, hvr, hvp, hR, hS, _, hb7⟩
      obtain ⟨ro, rc, vs, rfl, hrw⟩ := hvr.rws
      obtain ⟨po, pc, rfl, hpl⟩ := hvp.argL
      have H7 : Hid (MatR ro k L R w7 ∧ ArgL po k pc (fun j => ((p j : Nat) : Int)) w7 ∧ RRE D (L + 1) k R p ∧ (∀ v, Spn D (RowsOf k R) v ↔ Spn D (RowsOf i (aug L M b)) v) ∧ Below w.heap.size w w7) := ⟨hrw.matR, hpl, hR, hS, bel_up' (bel_up' HB0.out.2 HG.out.2) hb7⟩
      clear hvr hvp hR hS hb7 hrw hpl k0 k1 k2 k3 k4
      go_wp2_with (at_make; refine make_int rfl _ _ rfl _ L rfl rfl rfl (by omega) ?_; intro w8 hown8 hgrow8)
      have H8 : Hid (Row w7.heap.size L pnil w8 ∧ Below w7.heap.size w7 w8) := ⟨row_zeros hown8, below_grown hgrow8 (Nat.le_refl _) (fun k hk => by simp at hk)⟩
      clear hown8 hgrow8
      obtain ⟨g, hg⟩ : ∃ g, g = w7.heap.size := ⟨_, rfl⟩
      have H8' : Hid (Row g L pnil w8 ∧ Below w7.heap.size w7 w8) := by rw [hg]; exact H8.out
      rw [← hg]
      have hgD : w7.heap.size ≤ g := by omega
      clear H8 hg
      go_loopw [14] (fun vj wi => ∃ j : Nat, j ≤ k ∧ vj = .int .i64 j ∧ Hid (Row g L (slx R p L j) wi ∧ Below w7.heap.size w7 wi ∧ ∀ q, q < j → p q ≠ L)) (fun vj _ => k - (intOf vj).toNat)
      case atStart => exact ⟨0, by omega, rfl, H8'.out.1.congr (fun _ _ => rfl), H8'.out.2, fun q hq => by omega⟩
      case round =>
        clear H8'
        obtain ⟨j, hj, rfl, HK⟩ := hrel
        rename World => wB
        by_cases hjk : j < k
        · have hjb : (j : Int) < (k : Int) := by omega
          have hjb0 : (0 : Int) ≤ (j : Int) := by omega
          obtain ⟨bp, op, rfl, hcp⟩ := (H7.out.2.1.sl.below HK.out.2.1 H7.out.2.1.lt) j hjk
          replace hcp : wB.cell? ⟨bp, op + j, none⟩ = some (.int .i64 ((p j : Nat) : Int)) := hcp
          obtain ⟨y, hy⟩ : ∃ y, y = p j := ⟨_, rfl⟩
          rw [← hy] at hcp
          by_cases hyL : y = L
          · have hz : ((y : Int) == (L : Int)) = true := by rw [hyL]; simp
            have HE : Hid (∃ i, i < k ∧ p i = L) := ⟨j, hjk, by rw [← hy, hyL]⟩
            clear hy hyL
            go_wp2
            go_ret2
            first
              | exact ⟨bel_up' H7.out.2.2.2.2 HK.out.2.1, k, R, p, hk, H7.out.2.2.1, H7.out.2.2.2.1, Or.inl ⟨HE.out, rfl⟩⟩
              | exact ⟨bel_up' H7.out.2.2.2.2 HK.out.2.1, k, hk, R, p, H7.out.2.2.1, H7.out.2.2.2.1, Or.inl ⟨HE.out, rfl⟩⟩
          · have hz : ((y : Int) == (L : Int)) = false := by rw [beq_eq_false_iff_ne]; omega
            have hyL2 : y < L := by have := H7.out.2.2.1.lt j hjk; omega
            have hyb : (y : Int) < (L : Int) := by omega
            obtain ⟨bA', oA', uA, rfl, hcA, hrA⟩ := (H7.out.1.below HK.out.2.1) j hjk
            obtain ⟨xA, cxA, rfl, hsA, hlA, _⟩ := hrA
            obtain ⟨bx, ox, rfl, hcx⟩ := hsA L (by omega)
            obtain ⟨x, hx⟩ : ∃ x, x = R j L := ⟨_, rfl⟩
            rw [← hx] at hcx
            have hLb : (L : Int) < (L : Int) + 1 := by omega
            have hcy := HK.out.1.cell y hyL2
            have hfy := HK.out.1.free y
            have HV : Hid (∀ c, c < L → slx R p L (j + 1) c = if c = y then x else slx R p L j c) := fun c _ => by rw [hx, hy]; rfl
            have HP : Hid (∀ q, q < j + 1 → p q ≠ L) := fun q hq => by
              by_cases e : q = j
              · rw [e, ← hy]; exact hyL
              · exact HK.out.2.2 q (by omega)
            clear hy hx hyL hsA hlA
            go_wp2
            refine quiet_tail 13 (by kernel_rfl) (by kernel_rfl) ?_
            simp only [List.take_succ_cons, List.take_zero, List.drop_succ_cons, List.drop_zero]
            repeat (go_big_quiet_step (fail))
            refine wpQuiet_nil ?_
            intro _ hw'
            obtain ⟨nq, hw''⟩ := hw'
            subst hw''
            go_wp2
            go_roundw
            case rel => exact ⟨j + 1, by omega, by go_num, (HK.out.1.drewN nq).store y x HV.out, (bel_up' HK.out.2.1 ⟨rfl, rfl, rfl, Nat.le_refl _, fun _ _ => rfl⟩ : Below w7.heap.size w7 (wB.drewN nq)).setCell hgD _, HP.out⟩
            case measure => simp [intOf]; omega
        · have hjb : ¬ (j : Int) < (k : Int) := by omega
          have hje : j = k := by omega
          subst hje
          have HE : Hid (w.heap.size ≤ g ∧ Row g L (slx R p L j) wB) := ⟨by have := H7.out.2.2.2.2.size; omega, HK.out.1⟩
          go_wp2
          go_ret2
          exact ⟨bel_up' H7.out.2.2.2.2 HK.out.2.1, j, hk, R, p, H7.out.2.2.1, H7.out.2.2.2.1, Or.inr ⟨HK.out.2.2, _, rfl, HE.out⟩⟩
theorem rsolve_any {D : FD} (hD : D ∈ fieldsL) (gen gm cm : Nat) {ao bo : Option Addr} {m n L ca cb : Nat} {M : Nat → Nat → Nat} {b : Nat → Nat} {w : World} (hL : L = n + 1) (hm0 : 0 < m) (hm : m ≤ 1000) (hn : n ≤ 900) (hel : ∀ i, i < m → El D (M i) ∧ Bd (n + 1) (M i)) (hA : MatR ao m n M w) (hb : Sl bo m b w) (hbq : ∀ i, i < m → b i < D.q) (hM : ModAt D (.slice (some ⟨gm, 0, none⟩) (D.m + 1) cm) D.md w) :
    Calls Try.prog 62 #[.agg #[.int .i64 D.q, .int .i64 D.p, .int .i64 D.m, .int .i64 gen, .slice (some ⟨gm, 0, none⟩) (D.m + 1) cm], .slice ao m ca, .slice bo m cb] w fun e w' => Below w.heap.size w w' ∧ ∃ k R p, k ≤ m ∧ RRE D (L + 1) k R p ∧ (∀ v, Spn D (RowsOf k R) v ↔ Spn D (RowsOf m (aug L M b)) v) ∧
      (((∃ i, i < k ∧ p i = L) ∧ e = .returned (.tuple #[.slice none 0 0, .bool false])) ∨ ((∀ i, i < k → p i ≠ L) ∧ ∃ v, e = .returned (.tuple #[v, .bool true]) ∧ KI v (zl L fun j => ((slx R p L k j : Nat) : Int)) w')) := by
  refine (rsolve_row hD gen gm cm hL hm0 hm hn hel hA hb hbq hM).mono ?_
  rintro e w' ⟨h1, k, R, p, h2, h3, h4, h5⟩
  refine ⟨h1, k, R, p, h2, h3, h4, ?_⟩
  rcases h5 with h5 | ⟨h5, g, rfl, h6, h7⟩
  · exact Or.inl h5
  · exact Or.inr ⟨h5, _, rfl, (OwnP.of_row (base := 0) h7 (Nat.le_refl _) (Nat.le_refl _) (by omega) (Nat.zero_le _)).ki (by omega)⟩
end Go.Proofs.Ytbpeahhhkcljeaa
