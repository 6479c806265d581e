/- The program's Parse. -/
import Derived.Test.YtaliaikahohemaaDoorZKP5
namespace Go.Proofs.YtaliaikahohemaaDoor
open Go.RowKit Go.Sort

theorem trim_at {s x : ByteArray} {w : World} (hs : s.size ≤ 5000) (hx : x = trm s) :
    Calls Tryd.prog 8 #[.string s, .string ⟨#[10]⟩] w fun e w' => e = .returned (.string x) ∧ w' = w := by
  rw [hx]
  exact trimS s ⟨#[10]⟩ w (by omega)
theorem zero_laid (w : World) : Below w.heap.size w (laid (w.alloc (.cells #[.int .i64 0, .int .i64 0, .slice none 0 0] 24)) w.heap.size 0 0 (.slice none 0 0)) := laid_below ((Below.refl _ _).alloc (Nat.le_refl _) _) (Nat.le_refl _) _ _ _

set_option maxHeartbeats 8000000 in
set_option maxRecDepth 100000 in
theorem parse_any (s : ByteArray) (mx : Int) {w : World} (hs : s.size ≤ 5000) (hm : w.cell? ⟨mxl, 0, none⟩ = some (.int .i64 mx)) (ea q n : Int) (G : Nat → Value → World → Prop)
    (hG1 : ∀ B b v wx x y u, G B v wx → b < B → RBt b wx → G B v (laid wx b x y u)) (hG2 : ∀ B B' v wx, G B v wx → B' ≤ B → G B' v wx)
    (hMk : ∀ ao A C ca wx, MatZ ao (lcN s - 1) A (tN s) C (tZ s) wx → Calls Tryd.prog 10 #[.agg #[.int .i64 (lnz (lcS s 0) 0), .int .i64 (lnz (lcS s 0) 1), .slice ao (lcN s - 1) ca]] wx fun e w' => (∃ ro k rc, e = .returned (.tuple #[.agg #[.int .i64 q, .int .i64 n, .slice ro k rc], .int .i64 ea]) ∧ G wx.heap.size (.slice ro k rc) w') ∧ Below wx.heap.size wx w') :
    Calls Tryd.prog 4 #[.string s] w fun e w' => PaP s ea q n G w e w' ∧ Below w.heap.size w w' := by
  by_cases h1 : 4000 < s.size
  · have i1 : (4000 : Int) < (s.size : Int) := by omega
    have HT : Hid (txe s = 4) := if_pos h1
    clear hMk hm hG1 hG2 h1
    go_enter Tryd.func4, Tryd.ntmps4
    go_wp2
    refine bodyPost_ret (v := .tuple #[.agg #[.int .i64 0, .int .i64 0, .slice none 0 0], .int .i64 4]) (by simp [results, Tryd.results4, go_sem]) rfl ?_
    exact ⟨Or.inl ⟨by rw [HT.out]; decide, by rw [HT.out]⟩, by first | exact zero_laid w | exact (Below.refl _ _).alloc (Nat.le_refl _) _⟩
  have i1 : ¬ (4000 : Int) < (s.size : Int) := by omega
  by_cases h2 : s.size = 0
  · have i2 := is_empty h2
    have HT : Hid (txe s = 12) := by
      show txe s = 12
      unfold txe; rw [if_neg h1, if_pos h2]
    clear hMk hm hG1 hG2 h1 h2
    go_enter Tryd.func4, Tryd.ntmps4
    go_wp2
    refine bodyPost_ret (v := .tuple #[.agg #[.int .i64 0, .int .i64 0, .slice none 0 0], .int .i64 12]) (by simp [results, Tryd.results4, go_sem]) rfl ?_
    exact ⟨Or.inl ⟨by rw [HT.out]; decide, by rw [HT.out]⟩, by first | exact zero_laid w | exact (Below.refl _ _).alloc (Nat.le_refl _) _⟩
  have i2 := not_empty h2
  have HG : Hid ((∀ B b v wx x y u, G B v wx → b < B → RBt b wx → G B v (laid wx b x y u)) ∧ ∀ B B' v wx, G B v wx → B' ≤ B → G B' v wx) := ⟨hG1, hG2⟩
  obtain ⟨x, hx⟩ : ∃ x, x = trm s := ⟨_, rfl⟩
  obtain ⟨m, hmm⟩ : ∃ m, m = lcN s := ⟨_, rfl⟩
  obtain ⟨S, hS⟩ : ∃ S, S = lcS s := ⟨_, rfl⟩
  have hlc : lcN s = pcN 10 (trm s) := if_neg h2
  have HX : Hid (x = trm s ∧ m = lcN s ∧ S = lcS s ∧ m = pcN 10 x ∧ S = pcS 10 x) := ⟨hx, hmm, hS, by rw [hmm, hlc, hx], by rw [hS, hx]; rfl⟩
  have hm0 : 0 < m := by rw [hmm, hlc]; exact pcN_pos _ _
  have hm1 : m ≤ 5001 := by have := lcN_le s; omega
  have HSl : Hid (∀ k, (S k).size ≤ 5000) := fun k => by rw [hS]; have := lcS_le s k; omega
  have hxs : x.size ≤ 5000 := by rw [hx]; have := trm_le s; omega
  have HT : Hid (txe s = fer (pqe s) m) := by
    show txe s = _
    unfold txe; rw [if_neg h1, if_neg h2, hmm]
  have HMk : Hid (∀ ao A C ca wx, MatZ ao (m - 1) A (tN s) C (tZ s) wx → Calls Tryd.prog 10 #[.agg #[.int .i64 (lnz (lcS s 0) 0), .int .i64 (lnz (lcS s 0) 1), .slice ao (m - 1) ca]] wx fun e w' => (∃ ro k rc, e = .returned (.tuple #[.agg #[.int .i64 q, .int .i64 n, .slice ro k rc], .int .i64 ea]) ∧ G wx.heap.size (.slice ro k rc) w') ∧ Below wx.heap.size wx w') := by rw [hmm]; exact hMk
  have HMx : Hid (∀ wx, Below w.heap.size w wx → wx.cell? ⟨mxl, 0, none⟩ = some (.int .i64 mx)) := fun wx hb => (hb.cell (p := ⟨mxl, 0, none⟩) (cell_lt hm)).trans hm
  clear hMk hm hG1 hG2 h1 h2 hlc hx hmm hS
  obtain ⟨w0, hw0⟩ : ∃ w0, w0 = (w.alloc (.cells #[.int .i64 0, .int .i64 0, .slice none 0 0] 24)).alloc (.cells #[.int .i64 0, .int .i64 0, .slice none 0 0] 24) := ⟨_, rfl⟩
  have HW : Hid (Below w.heap.size w w0 ∧ RB w.heap.size w0 ∧ RB (w.heap.size + 1) w0 ∧ CB (w.heap.size + 1) 0 0 (.slice none 0 0) w0 ∧ w0.heap.size = w.heap.size + 2 ∧ RBt w.heap.size w0) := by
    obtain ⟨h1, h2, h3, h4⟩ := two_boxes 0 0 0 0 (.slice none 0 0) (.slice none 0 0) w
    have h5 := RB.new (.int .i64 0) (.int .i64 0) (.slice none 0 0) (w.alloc (.cells #[.int .i64 0, .int .i64 0, .slice none 0 0] 24))
    have h6 := (RB.new (.int .i64 0) (.int .i64 0) (.slice none 0 0) w).keep (w' := (w.alloc (.cells #[.int .i64 0, .int .i64 0, .slice none 0 0] 24)).alloc (.cells #[.int .i64 0, .int .i64 0, .slice none 0 0] 24)) ((Below.refl _ _).alloc (Nat.le_refl _) _)
    have hs1 : (w.alloc (.cells #[.int .i64 0, .int .i64 0, .slice none 0 0] 24)).heap.size = w.heap.size + 1 := by simp
    rw [hs1] at h5
    rw [hw0]; exact ⟨h1, h6, h5, h3, by simp, (RBt.new _ w).keep ((Below.refl _ _).alloc (Nat.le_refl _) _)⟩
  go_enter Tryd.func4, Tryd.ntmps4
  go_wp2_with first
    | (go_at_call 8; refine (trim_at hs HX.out.1).mono ?_; rintro e w' ⟨rfl, rfl⟩; rw [← hw0]; clear hw0)
    | (go_at_call 7; refine (split_at hxs (HMx.out _ HW.out.1) HX.out.2.2.2.1 HX.out.2.2.2.2).mono ?_; rintro e w1 ⟨rfl, hsr, hb1, hsz⟩)
  obtain ⟨a, ha⟩ : ∃ a, a = w.heap.size := ⟨_, rfl⟩
  obtain ⟨g, hg⟩ : ∃ g, g = w0.heap.size := ⟨_, rfl⟩
  rw [← hg] at hsr
  have H1 : Hid (PaS a (a + 1) g (g + 1) m 0 S 0 0 (.slice none 0 0) (fun _ => undef) (tN s) (tZ s) w1 ∧ Below w.heap.size w w1 ∧ g = a + 2 ∧ a = w.heap.size ∧ w1.heap.size = g + 1) := by
    have h5 := HW.out.2.2.2.2.1
    rw [ha]
    exact ⟨⟨HW.out.2.1.keep hb1, HW.out.2.2.2.2.2.keep hb1, HW.out.2.2.1.keep hb1, HW.out.2.2.2.1.keep hb1, RdS.nil _ _ _ _ _, hsr⟩, bel_up' HW.out.1 hb1, by omega, rfl, by omega⟩
  try rw [← hg]
  try rw [← ha]
  clear hsr hb1 hsz hg ha
  go_loopw [20] (fun vi wr => ∃ (t : Nat) (v : Value) (vs : Nat → Value), t ≤ m ∧ vi = .int .i64 (t : Nat) ∧ Hid (PaS a (a + 1) g (g + 1) m (t - 1) S (hdq s t) (hdn s t) v vs (tN s) (tZ s) wr ∧ Below w.heap.size w wr ∧ g < wr.heap.size ∧ fer (pqe s) t = 0)) (fun vi _ => m - (intOf vi).toNat)
  case atStart => exact ⟨0, _, _, by omega, rfl, H1.out.1, H1.out.2.1, by have := H1.out.2.2.2.2; omega, rfl⟩
  case round =>
    obtain ⟨t, v, vs, ht, rfl, HI⟩ := hrel
    rename World => wr
    by_cases hlt : t < m
    · have hib : (t : Int) < (m : Int) := by omega
      have hib0 : (0 : Int) ≤ (t : Int) := by omega
      have hcell := HI.out.1.sr t hlt
      obtain ⟨l, hl⟩ : ∃ l, l = S t := ⟨_, rfl⟩
      rw [← hl] at hcell
      have HL : Hid (l = lcS s t ∧ l.size ≤ 5000) := ⟨by rw [hl, HX.out.2.2.1], by rw [hl]; exact HSl.out t⟩
      clear hl
      obtain ⟨x0, HE⟩ : ∃ x0, Hid (lne l = x0) := ⟨_, rfl⟩
      by_cases h0 : x0 = 0
      · subst h0
        obtain ⟨k, HK⟩ : ∃ k, Hid (k = pcN 32 l) := ⟨_, rfl⟩
        have hk1 : k ≤ 5001 := by rw [HK.out]; have := pcN_le 32 l; have := HL.out.2; omega
        by_cases ht0 : t = 0
        · subst ht0
          by_cases hk2 : k = 2
          · have i4 : ((k : Int) != 2) = false := by rw [hk2]; rfl
            have HF : Hid (fer (pqe s) 1 = 0) := by
              show fer (pqe s) 1 = 0
              rw [fer_next rfl]; exact pqe_two (by rw [← HL.out.1]; exact HE.out) (by rw [← HL.out.1, ← HK.out]; exact hk2)
            subst hk2
            go_wp2_with (go_at_call 9; refine (readLine_ok HL.out.2 (HMx.out _ HI.out.2.1) HK.out HE.out).mono ?_; rintro e w2 ⟨⟨gl, cl, rfl, hol, hcl⟩, hb2⟩; have hq0 := hcl 0 (by omega); have hq1 := hcl 1 (by omega); obtain ⟨⟨y0, c0⟩, ⟨y1, c1⟩, ⟨y2, c2⟩, f0, f1, f2⟩ := HI.out.1.rb.keep hb2)
            obtain ⟨qv, HQ0⟩ : ∃ qv, Hid (qv = lnz l 0) := ⟨_, rfl⟩
            obtain ⟨nv, HN0⟩ : ∃ nv, Hid (nv = lnz l 1) := ⟨_, rfl⟩
            rw [← HQ0.out] at hq0
            rw [← HN0.out] at hq1
            have HB2 : Hid (PaS a (a + 1) g (g + 1) m 0 S 0 0 v vs (tN s) (tZ s) w2 ∧ Below w.heap.size w w2 ∧ g < w2.heap.size) := ⟨HI.out.1.below hb2 HI.out.2.2.1, bel_up' HI.out.2.1 hb2, Nat.lt_of_lt_of_le HI.out.2.2.1 hb2.size⟩
            have hgl : gl ≠ a + 1 := by
              have h1 := (hol.lt gl rfl).1
              have h2 := HI.out.2.2.1
              have h3 := H1.out.2.2.1
              omega
            have hgl2 : a + 1 ≠ gl := fun e => hgl e.symm
            clear hol hcl hb2
            go_region
            go_wp2
            go_roundw
            case rel =>
              refine ⟨1, v, vs, by omega, by go_num, ?_⟩
              have h3 := H1.out.2.2.1
              have h4 := H1.out.2.2.2.1
              have hP := HB2.out.1.head qv nv (by omega) (by omega) (by omega)
              have hq1 : hdq s 1 = qv := by rw [HQ0.out, HL.out.1]; rfl
              have hn1 : hdn s 1 = nv := by rw [HN0.out, HL.out.1]; rfl
              rw [hq1, hn1]
              have hbd : ∀ u : World, Below u.heap.size u u.drew := fun u => (Below.refl _ _).drew
              refine ⟨hP.below (hbd _) ?_, ((HB2.out.2.1.setCell (by show w.heap.size ≤ a + 1; omega) _).setCell (by show w.heap.size ≤ a + 1; omega) _).drew, ?_, HF.out⟩
              · simp; exact HB2.out.2.2
              · simp; exact HB2.out.2.2
            case measure => simp [intOf]; omega
          · have i4 : ((k : Int) != 2) = true := by rw [bne_iff_ne]; omega
            have HF : Hid (txe s = 6) := by
              have hp : pqe s 0 = 6 := pqe_six (by rw [← HL.out.1]; exact HE.out) (by rw [← HL.out.1, ← HK.out]; exact hk2)
              have h1 : fer (pqe s) (0 + 1) = 6 := by rw [fer_next rfl, hp]
              show txe s = 6
              rw [HT.out, fer_stay (i := 0 + 1) (by rw [h1]; decide) m (by omega), h1]
            clear hk2
            go_wp2_with (go_at_call 9; refine (readLine_ok HL.out.2 (HMx.out _ HI.out.2.1) HK.out HE.out).mono ?_; rintro e w2 ⟨⟨gl, cl, rfl, hol, hcl⟩, hb2⟩; clear hol hcl; obtain ⟨⟨y0, c0⟩, ⟨y1, c1⟩, ⟨y2, c2⟩, f0, f1, f2⟩ := HI.out.1.ra.keep hb2)
            obtain ⟨w3, hw3⟩ : ∃ w3, w3 = laid w2 a 0 0 (.slice none 0 0) := ⟨_, rfl⟩
            have H3 : Hid (CB a 0 0 (.slice none 0 0) w3 ∧ Below w.heap.size w w3) := by
              rw [hw3]; exact ⟨laid_cb (HI.out.1.ra.keep hb2) _ _ _, laid_below (bel_up' HI.out.2.1 hb2) (by rw [H1.out.2.2.2.1]; exact Nat.le_refl _) _ _ _⟩
            unfold laid at hw3
            rw [← hw3]
            clear hw3 c0 c1 c2 f0 f1 f2
            obtain ⟨c0, c1, c2⟩ := H3.out.1
            refine bodyPost_ret (v := .tuple #[.agg #[.int .i64 0, .int .i64 0, .slice none 0 0], .int .i64 6]) (by simp [results, Tryd.results4, go_sem, c0, c1, c2]) rfl ?_
            exact ⟨Or.inl ⟨by rw [HF.out]; decide, by rw [HF.out]⟩, H3.out.2⟩
        · have i3 : (0 : Int) < (t : Int) := by omega
          obtain ⟨t', HTT⟩ : ∃ t', Hid (t = t' + 1) := ⟨t - 1, by show t = t - 1 + 1; omega⟩
          have HF : Hid (fer (pqe s) (t + 1) = 0) := by
            show fer (pqe s) (t + 1) = 0
            rw [fer_next HI.out.2.2.2]; exact pqe_more (by rw [← HL.out.1]; exact HE.out) (by omega)
          have HO : Hid (k = tN s t' ∧ lnz l = tZ s t' ∧ hdq s (t + 1) = hdq s t ∧ hdn s (t + 1) = hdn s t) := by
            refine ⟨by rw [HK.out, HL.out.1, HTT.out]; rfl, by rw [HL.out.1, HTT.out]; rfl, ?_, ?_⟩
            · unfold hdq; rw [if_neg (by omega), if_neg (by omega)]
            · unfold hdn; rw [if_neg (by omega), if_neg (by omega)]
          go_wp2_with first
            | (go_at_call 9; refine (readLine_ok HL.out.2 (HMx.out _ HI.out.2.1) HK.out HE.out).mono ?_; rintro e w2 ⟨⟨gl, cl, rfl, hol, hcl⟩, hb2⟩; have hs2 := hb2.size; have hP2 := HI.out.1.below hb2 HI.out.2.2.1; have hc2 := hP2.cb.c2)
            | (at_builtin; refine append_sl rfl _ _ rfl (g + 1) _ (vl (t - 1) vs) rfl ?_ ⟨_, 0, none⟩ 1 (.slice (some ⟨gl, 0, none⟩) k cl) rfl rfl ?_ ?_ ?_ ?_)
          · exact (hP2.rd.below ((Below.refl _ _).alloc (Nat.le_refl _) _)).own
          · simp
          · rw [vl_len]; omega
          · have := HI.out.2.2.1; simp; omega
          · intro v3 w3 hown3 hgrow3
            obtain ⟨o3, n3, c3, hv3⟩ : ∃ o3 n3 c3, v3 = .slice o3 n3 c3 := by
              obtain ⟨mo, mc, hv, _⟩ := hown3.open
              exact ⟨_, _, _, hv⟩
            subst hv3
            have hb3 : Below (g + 1) (w2.alloc (.cells #[.slice (some ⟨gl, 0, none⟩) k cl] 33)) w3 := below_grown hgrow3 (by have := HI.out.2.2.1; simp; omega) (fun k hk => hP2.rd.own.open_ge k hk)
            obtain ⟨⟨y0, c0⟩, ⟨y1, c1⟩, ⟨y2, c2⟩, f0, f1, f2⟩ := (hP2.rb.keep ((Below.refl _ _).alloc (Nat.le_refl _) _)).under hb3 (by have := H1.out.2.2.1; omega)
            have HY : Hid (PaS a (a + 1) g (g + 1) m t S (hdq s (t + 1)) (hdn s (t + 1)) (.slice o3 n3 c3) (fun j => if j = t - 1 then .slice (some ⟨gl, 0, none⟩) k cl else vs j) (tN s) (tZ s) (w3.setCell ⟨a + 1, 2, none⟩ (.slice o3 n3 c3)) ∧ Below w.heap.size w (w3.setCell ⟨a + 1, 2, none⟩ (.slice o3 n3 c3)) ∧ g < (w3.setCell ⟨a + 1, 2, none⟩ (.slice o3 n3 c3)).heap.size ∧ fer (pqe s) (t + 1) = 0) := by
              have h3 := H1.out.2.2.1
              have h4 := H1.out.2.2.2.1
              have h5 := HI.out.2.2.1
              have hal : Below w2.heap.size w2 (w2.alloc (.cells #[.slice (some ⟨gl, 0, none⟩) k cl] 33)) := (Below.refl _ _).alloc (Nat.le_refl _) _
              have hu : OwnI (g + 1) (.slice (some ⟨gl, 0, none⟩) k cl) (zl (tN s (t - 1)) (tZ s (t - 1))) (w2.alloc (.cells #[.slice (some ⟨gl, 0, none⟩) k cl] 33)) := by
                have ht' : t - 1 = t' := by have := HTT.out; omega
                rw [ht', ← HO.out.1, ← HO.out.2.1]
                exact (hol.alloc _).mono (by omega)
              have hM := (hP2.below hal (by omega)).more hu hown3 hgrow3 hb3 (by omega) (by omega) (by omega) (by omega) (by omega)
              rw [show t - 1 + 1 = t by omega] at hM
              rw [HO.out.2.2.1, HO.out.2.2.2]
              have hb4 : Below w.heap.size w w3 := (bel_up' (bel_up' HI.out.2.1 hb2) hal).trans (hb3.mono (by omega))
              refine ⟨hM, hb4.setCell (by show w.heap.size ≤ a + 1; omega) _, ?_, HF.out⟩
              have h6 := hb3.size
              simp at h6 ⊢
              omega
            clear hown3 hgrow3 hb3 hb2 hP2 hol hcl hc2 hs2
            go_wp2
            clear c0 c1 c2 f0 f1 f2
            go_roundw
            case rel => exact ⟨t + 1, (.slice o3 n3 c3), _, by omega, by go_num, HY.out⟩
            case measure => simp [intOf]; omega
      · have i0 : (x0 != 0) = true := by rw [bne_iff_ne]; exact h0
        have HF : Hid (txe s = x0 ∧ x0 ≠ 0) := by
          have hp : pqe s t = x0 := pqe_line (by rw [← HL.out.1]; exact HE.out) h0
          have h1 : fer (pqe s) (t + 1) = x0 := by rw [fer_next HI.out.2.2.2, hp]
          refine ⟨?_, h0⟩
          rw [HT.out, fer_stay (i := t + 1) (by rw [h1]; exact h0) m (by omega), h1]
        clear h0
        go_wp2_with (go_at_call 9; refine (readLine_no HL.out.2 (HMx.out _ HI.out.2.1) HE.out HF.out.2).mono ?_; rintro e w2 ⟨rfl, hb2⟩; obtain ⟨⟨y0, c0⟩, ⟨y1, c1⟩, ⟨y2, c2⟩, f0, f1, f2⟩ := HI.out.1.ra.keep hb2)
        obtain ⟨w3, hw3⟩ : ∃ w3, w3 = laid w2 a 0 0 (.slice none 0 0) := ⟨_, rfl⟩
        have H3 : Hid (CB a 0 0 (.slice none 0 0) w3 ∧ Below w.heap.size w w3) := by
          rw [hw3]; exact ⟨laid_cb (HI.out.1.ra.keep hb2) _ _ _, laid_below (bel_up' HI.out.2.1 hb2) (by rw [H1.out.2.2.2.1]; exact Nat.le_refl _) _ _ _⟩
        unfold laid at hw3
        rw [← hw3]
        clear hw3 c0 c1 c2 f0 f1 f2
        obtain ⟨c0, c1, c2⟩ := H3.out.1
        refine bodyPost_ret (v := .tuple #[.agg #[.int .i64 0, .int .i64 0, .slice none 0 0], .int .i64 x0]) (by simp [results, Tryd.results4, go_sem, c0, c1, c2]) rfl ?_
        exact ⟨Or.inl ⟨by rw [HF.out.1]; exact HF.out.2, by rw [HF.out.1]⟩, H3.out.2⟩
    · have hib : ¬ (t : Int) < (m : Int) := by omega
      have hte : t = m := by omega
      obtain ⟨mo, mc, hv, hmat⟩ := HI.out.1.rd.matZ (fun j => by show pcN 32 (lcS s (j + 1)) ≤ 1000000; have := pcN_le 32 (lcS s (j + 1)); have := lcS_le s (j + 1); omega)
      subst hv
      have HQ : Hid (hdq s t = lnz (lcS s 0) 0 ∧ hdn s t = lnz (lcS s 0) 1) := by
        rw [hte]
        exact ⟨if_neg (by omega), if_neg (by omega)⟩
      have HM2 : Hid (MatZ mo (m - 1) (fun j => slA (vs j)) (tN s) (fun j => slC (vs j)) (tZ s) wr) := by rw [← hte]; exact hmat
      have hcb := HI.out.1.cb
      rw [HQ.out.1, HQ.out.2, hte] at hcb
      obtain ⟨a0, a1, a2⟩ := hcb
      obtain ⟨qq, hqq⟩ : ∃ qq, qq = lnz (lcS s 0) 0 := ⟨_, rfl⟩
      obtain ⟨nn, hnn⟩ : ∃ nn, nn = lnz (lcS s 0) 1 := ⟨_, rfl⟩
      rw [← hqq] at a0
      rw [← hnn] at a1
      have HMk2 : Hid (∀ wx, wx = wr → Calls Tryd.prog 10 #[.agg #[.int .i64 qq, .int .i64 nn, .slice mo (m - 1) mc]] wx fun e w' => (∃ ro k rc, e = .returned (.tuple #[.agg #[.int .i64 q, .int .i64 n, .slice ro k rc], .int .i64 ea]) ∧ G wx.heap.size (.slice ro k rc) w') ∧ Below wx.heap.size wx w') := fun wx hx => by
        subst hx
        rw [hqq, hnn]; exact HMk.out _ _ _ _ _ HM2.out
      have HT0 : Hid (txe s = 0) := by
        show txe s = 0
        rw [HT.out, ← hte]; exact HI.out.2.2.2
      clear hte hmat hqq hnn
      go_wp2_with (go_at_call 10; refine (HMk2.out _ rfl).mono ?_; rintro e w2 ⟨⟨ro, rk, rc, rfl, hgv⟩, hb2⟩; obtain ⟨⟨y0, c0⟩, ⟨y1, c1⟩, ⟨y2, c2⟩, f0, f1, f2⟩ := HI.out.1.ra.keep hb2)
      obtain ⟨w3, hw3⟩ : ∃ w3, w3 = laid w2 a q n (.slice ro rk rc) := ⟨_, rfl⟩
      have H3 : Hid (CB a q n (.slice ro rk rc) w3 ∧ Below w.heap.size w w3 ∧ G w.heap.size (.slice ro rk rc) w3) := by
        have h5 := H1.out.2.2.2.1
        have h6 := HI.out.2.2.1
        have h7 := H1.out.2.2.1
        rw [hw3]; exact ⟨laid_cb (HI.out.1.ra.keep hb2) _ _ _, laid_below (bel_up' HI.out.2.1 hb2) (by rw [h5]; exact Nat.le_refl _) _ _ _, HG.out.2 _ _ _ _ (HG.out.1 _ _ _ _ _ _ _ hgv (by omega) (HI.out.1.ta.keep hb2)) (by omega)⟩
      unfold laid at hw3
      rw [← hw3]
      clear hw3 c0 c1 c2 f0 f1 f2
      obtain ⟨c0, c1, c2⟩ := H3.out.1
      refine bodyPost_ret (v := .tuple #[.agg #[.int .i64 q, .int .i64 n, .slice ro rk rc], .int .i64 ea]) (by simp [results, Tryd.results4, go_sem, c0, c1, c2]) rfl ?_
      exact ⟨Or.inr ⟨HT0.out, ro, rk, rc, rfl, H3.out.2.2⟩, H3.out.2.1⟩
end Go.Proofs.YtaliaikahohemaaDoor
