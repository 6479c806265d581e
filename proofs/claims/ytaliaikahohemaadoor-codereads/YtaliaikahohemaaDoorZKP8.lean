/- The reference's CodeParse. -/
import Derived.Test.YtaliaikahohemaaDoorZKP7
namespace Go.Proofs.YtaliaikahohemaaDoor
open Go.RowKit Go.Sort

/-- What CodeParse tells. -/
def RpP (s : ByteArray) (ea q n : Int) (G : Nat → Value → World → Prop) (w : World) (e : Ending) (w' : World) : Prop :=
  (txe s ≠ 0 ∧ e = .returned (.tuple #[.agg #[.int .i64 0, .int .i64 0, .slice none 0 0], .int .i64 (txe s)])) ∨
  (txe s = 0 ∧ ea ≠ 0 ∧ e = .returned (.tuple #[.agg #[.int .i64 0, .int .i64 0, .slice none 0 0], .int .i64 ea])) ∨
  (txe s = 0 ∧ ea = 0 ∧ ∃ ro k rc, e = .returned (.tuple #[.agg #[.int .i64 q, .int .i64 n, .slice ro k rc], .int .i64 0]) ∧ G w.heap.size (.slice ro k rc) w')
theorem lines_at {s : ByteArray} {w : World} {m : Nat} {S : Nat → ByteArray} (hs : s.size ≤ 5000) (hm : m = lcN s) (hS : S = lcS s) :
    Calls Tryd.prog 11 #[.string s] w fun e w' => (∃ g cap, e = .returned (.slice (some ⟨g, 0, none⟩) m cap) ∧ w.heap.size ≤ g ∧ g < w'.heap.size ∧ SR g m S w') ∧ Below w.heap.size w w' := by
  rw [hm, hS]
  refine (rlines_any s w hs).mono ?_
  rintro e w' ⟨⟨g, cap, h1, _, h3⟩, h4⟩
  exact ⟨⟨g, cap, h1, h3⟩, h4⟩
theorem line_err {s : ByteArray} {m t : Nat} {x : Int} (hT : txe s = fer (pqe s) m) (hI : fer (pqe s) t = 0) (hp : pqe s t = x) (h0 : x ≠ 0) (ht : t < m) : txe s = x := by
  have h1 : fer (pqe s) (t + 1) = x := by rw [fer_next hI, hp]
  rw [hT, fer_stay (i := t + 1) (by rw [h1]; exact h0) m (by omega), h1]
theorem word_err {l : ByteArray} {j : Nat} {x : Int} (hI : fer (fun i => (rnb (pcS 32 l i)).1) j = 0) (hp : (rnb (pcS 32 l j)).1 = x) (h0 : x ≠ 0) (hj : j < pcN 32 l) : lne l = x := by
  have h1 : fer (fun i => (rnb (pcS 32 l i)).1) (j + 1) = x := by rw [fer_next hI, hp]
  unfold lne
  rw [fer_stay (i := j + 1) (by rw [h1]; exact h0) _ (by omega), h1]

set_option maxHeartbeats 16000000 in
set_option maxRecDepth 100000 in
theorem rparse_any (s : ByteArray) {w : World} (hs : s.size ≤ 5000) (ea q n : Int) (G : Nat → Value → World → Prop)
    (hG1 : ∀ B b v wx x y u, G B v wx → b < B → RBt b wx → G B v (laid wx b x y u)) (hG2 : ∀ B B' v wx, G B v wx → B' ≤ B → G B' v wx)
    (hMay : ∀ ao A C ca wx, MatZ ao (lcN s - 1) A (tN s) C (tZ s) wx → Calls Tryd.prog 13 #[.agg #[.int .i64 (lnz (lcS s 0) 0), .int .i64 (lnz (lcS s 0) 1), .slice ao (lcN s - 1) ca]] wx fun e w' => e = .returned (.int .i64 ea) ∧ Below wx.heap.size wx w')
    (hMd : ea = 0 → ∀ ao A C ca wx, MatZ ao (lcN s - 1) A (tN s) C (tZ s) wx → Calls Tryd.prog 14 #[.agg #[.int .i64 (lnz (lcS s 0) 0), .int .i64 (lnz (lcS s 0) 1), .slice ao (lcN s - 1) ca]] wx fun e w' => (∃ ro k rc, e = .returned (.agg #[.int .i64 q, .int .i64 n, .slice ro k rc]) ∧ G wx.heap.size (.slice ro k rc) w') ∧ Below wx.heap.size wx w') :
    Calls Tryd.prog 5 #[.string s] w fun e w' => RpP s ea q n G w e w' ∧ Below w.heap.size w w' := by
  by_cases h1 : 4000 < s.size
  · have i1 : (4000 : Int) < (s.size : Int) := by omega
    have HT : Hid (txe s = 4) := if_pos h1
    clear hMay hMd hG1 hG2 h1
    go_enter Tryd.func5, Tryd.ntmps5
    go_wp2
    refine bodyPost_ret (v := .tuple #[.agg #[.int .i64 0, .int .i64 0, .slice none 0 0], .int .i64 4]) (by simp [results, Tryd.results5, go_sem]) rfl ?_
    exact ⟨Or.inl ⟨by rw [HT.out]; decide, by rw [HT.out]⟩, by first | exact zero_laid w | exact (Below.refl _ _).alloc (Nat.le_refl _) _⟩
  have i1 : ¬ (4000 : Int) < (s.size : Int) := by omega
  obtain ⟨w0, hw0⟩ : ∃ w0, w0 = w.alloc (.cells #[.int .i64 0, .int .i64 0, .slice none 0 0] 24) := ⟨_, rfl⟩
  obtain ⟨a, HAe⟩ : ∃ a, Hid (a = w.heap.size) := ⟨_, rfl⟩
  have HW : Hid (Below w.heap.size w w0 ∧ RB a w0 ∧ w0.heap.size = a + 1 ∧ RBt a w0) := by
    rw [hw0, HAe.out]; exact ⟨(Below.refl _ _).alloc (Nat.le_refl _) _, RB.new _ _ _ w, by simp, RBt.new _ w⟩
  obtain ⟨m, hmm⟩ : ∃ m, m = lcN s := ⟨_, rfl⟩
  obtain ⟨S, hS⟩ : ∃ S, S = lcS s := ⟨_, rfl⟩
  have HX : Hid (m = lcN s ∧ S = lcS s) := ⟨hmm, hS⟩
  by_cases h2 : s.size = 0
  · have HT : Hid (txe s = 12) := by
      show txe s = 12
      unfold txe; rw [if_neg h1, if_pos h2]
    have hm0 : m = 0 := by rw [hmm]; exact if_pos h2
    clear hMay hMd hG1 hG2 h1 h2 hmm hS
    subst hm0
    go_enter Tryd.func5, Tryd.ntmps5
    go_wp2_with (go_at_call 11; rw [← hw0, ← HAe.out]; clear hw0; refine (lines_at hs HX.out.1 HX.out.2).mono ?_; rintro e w2 ⟨⟨g, cap, rfl, hgl, hgw, hsr⟩, hb2⟩; obtain ⟨⟨y0, c0⟩, ⟨y1, c1⟩, ⟨y2, c2⟩, f0, f1, f2⟩ := HW.out.2.1.keep hb2)
    obtain ⟨w3, hw3⟩ : ∃ w3, w3 = laid w2 a 0 0 (.slice none 0 0) := ⟨_, rfl⟩
    have H3 : Hid (CB a 0 0 (.slice none 0 0) w3 ∧ Below w.heap.size w w3) := by
      rw [hw3]; exact ⟨laid_cb (HW.out.2.1.keep hb2) _ _ _, laid_below (bel_up' HW.out.1 hb2) (by rw [HAe.out]; exact Nat.le_refl _) _ _ _⟩
    unfold laid at hw3
    rw [← hw3]
    clear hw3 c0 c1 c2 f0 f1 f2
    obtain ⟨c0, c1, c2⟩ := H3.out.1
    refine bodyPost_ret (v := .tuple #[.agg #[.int .i64 0, .int .i64 0, .slice none 0 0], .int .i64 12]) (by simp [results, Tryd.results5, go_sem, c0, c1, c2]) rfl ?_
    exact ⟨Or.inl ⟨by rw [HT.out]; decide, by rw [HT.out]⟩, H3.out.2⟩
  have hlc : lcN s = pcN 10 (trm s) := if_neg h2
  have hm0 : 0 < m := by rw [hmm, hlc]; exact pcN_pos _ _
  have hm1 : m ≤ 5001 := by have := lcN_le s; omega
  have hmz : ((m : Int) == 0) = false := by rw [beq_eq_false_iff_ne]; omega
  have HSl : Hid (∀ k, (S k).size ≤ 5000) := fun k => by rw [hS]; have := lcS_le s k; omega
  have HT : Hid (txe s = fer (pqe s) m) := by
    show txe s = _
    unfold txe; rw [if_neg h1, if_neg h2, hmm]
  have HC : Hid ((∀ ao A C ca wx, MatZ ao (m - 1) A (tN s) C (tZ s) wx → Calls Tryd.prog 13 #[.agg #[.int .i64 (lnz (lcS s 0) 0), .int .i64 (lnz (lcS s 0) 1), .slice ao (m - 1) ca]] wx fun e w' => e = .returned (.int .i64 ea) ∧ Below wx.heap.size wx w') ∧ (ea = 0 → ∀ ao A C ca wx, MatZ ao (m - 1) A (tN s) C (tZ s) wx → Calls Tryd.prog 14 #[.agg #[.int .i64 (lnz (lcS s 0) 0), .int .i64 (lnz (lcS s 0) 1), .slice ao (m - 1) ca]] wx fun e w' => (∃ ro k rc, e = .returned (.agg #[.int .i64 q, .int .i64 n, .slice ro k rc]) ∧ G wx.heap.size (.slice ro k rc) w') ∧ Below wx.heap.size wx w')) := by rw [hmm]; exact ⟨hMay, hMd⟩
  have HG : Hid ((∀ B b v wx x y u, G B v wx → b < B → RBt b wx → G B v (laid wx b x y u)) ∧ ∀ B B' v wx, G B v wx → B' ≤ B → G B' v wx) := ⟨hG1, hG2⟩
  clear hMay hMd hG1 hG2 h1 h2 hlc hmm hS
  go_enter Tryd.func5, Tryd.ntmps5
  go_wp2_with (go_at_call 11; rw [← hw0, ← HAe.out]; clear hw0; refine (lines_at hs HX.out.1 HX.out.2).mono ?_; rintro e w1 ⟨⟨g, cap, rfl, hgl, hgw, hsr⟩, hb1⟩)
  obtain ⟨b, hbe⟩ : ∃ b, b = w1.heap.size := ⟨_, rfl⟩
  obtain ⟨w2, hw2⟩ : ∃ w2, w2 = w1.alloc (.cells #[.int .i64 0, .int .i64 0, .slice none 0 0] 24) := ⟨_, rfl⟩
  have H1 : Hid (PaS a b g (b + 1) m 0 S 0 0 (.slice none 0 0) (fun _ => undef) (tN s) (tZ s) w2 ∧ Below w.heap.size w w2 ∧ a < g ∧ g < b ∧ w2.heap.size = b + 1) := by
    have hal : Below w1.heap.size w1 w2 := by rw [hw2]; exact (Below.refl _ _).alloc (Nat.le_refl _) _
    have h3 := HW.out.2.2.1
    refine ⟨⟨(HW.out.2.1.keep hb1).keep hal, (HW.out.2.2.2.keep hb1).keep hal, ?_, ?_, RdS.nil _ _ _ _ _, hsr.kept hal hgw⟩, bel_up' (bel_up' HW.out.1 hb1) hal, by omega, by omega, ?_⟩
    · rw [hw2, hbe]; exact RB.new _ _ _ w1
    · rw [hw2, hbe]; exact CB.new 0 0 _ w1
    · rw [hw2, hbe]; simp
  rw [← hbe, ← hw2]
  clear hw2 hbe hsr hb1 hgl hgw
  go_loopw [6] (fun vi wr => ∃ (t : Nat) (v : Value) (vs : Nat → Value), t ≤ m ∧ vi = .int .i64 (t : Nat) ∧ Hid (PaS a b g (b + 1) m (t - 1) S (hdq s t) (hdn s t) v vs (tN s) (tZ s) wr ∧ Below w.heap.size w wr ∧ b < wr.heap.size ∧ fer (pqe s) t = 0)) (fun vi _ => m - (intOf vi).toNat)
  case atStart => exact ⟨0, _, _, by omega, rfl, H1.out.1, H1.out.2.1, by have := H1.out.2.2.2.2; omega, rfl⟩
  case round =>
    obtain ⟨t, v, vs, ht, rfl, HI⟩ := hrel
    rename World => wr
    by_cases hlt : t < m
    · have hib : (t : Int) < (m : Int) := by omega
      have hib0 : (0 : Int) ≤ (t : Int) := by omega
      have hcell := HI.out.1.sr t hlt
      obtain ⟨l, hl⟩ : ∃ l, l = S t := ⟨_, rfl⟩
      rw [← hl] at hcell
      have HL : Hid (l = lcS s t ∧ l.size ≤ 5000) := ⟨by rw [hl, HX.out.2], by rw [hl]; exact HSl.out t⟩
      clear hl
      obtain ⟨k, HK⟩ : ∃ k, Hid (k = pcN 32 l) := ⟨_, rfl⟩
      obtain ⟨W, HWd⟩ : ∃ W, Hid (W = pcS 32 l) := ⟨_, rfl⟩
      have hk1 : k ≤ 5001 := by rw [HK.out]; have := pcN_le 32 l; have := HL.out.2; omega
      have hk0 : 0 < k := by rw [HK.out]; exact pcN_pos _ _
      go_wp2_with (go_at_call 12; refine (cut_at HL.out.2 HK.out HWd.out rfl).mono ?_; rintro e w3 ⟨⟨gw, cw, rfl, hcw, hgw, hsw⟩, hb3⟩)
      have H3 : Hid (SR gw k W w3 ∧ Below wr.heap.size wr w3 ∧ gw < w3.heap.size ∧ wr.heap.size ≤ gw) := ⟨hsw, hb3, hsw.lt hk0, hgw⟩
      clear hsw hb3 hcell hcw hgw
      go_loopw [8, 9] (fun v8 vj wx => ∃ (j : Nat), j ≤ k ∧ vj = .int .i64 (j : Nat) ∧ Hid (OwnI w3.heap.size v8 (zl j (lnz l)) wx ∧ Below w3.heap.size w3 wx ∧ fer (fun i => (rnb (W i)).1) j = 0)) (fun _ vj _ => k - (intOf vj).toNat)
      case atStart => exact ⟨0, by omega, rfl, OwnI.nil _ _, Below.refl _ _, rfl⟩
      case round =>
        obtain ⟨j, hj, rfl, HJ⟩ := hrel
        rename World => wx
        have HBx : Hid (Below wr.heap.size wr wx ∧ Below w.heap.size w wx ∧ RB a wx) := by
          have h1 := bel_up' H3.out.2.1 HJ.out.2.1
          exact ⟨h1, bel_up' HI.out.2.1 h1, HI.out.1.ra.keep h1⟩
        by_cases hlj : j < k
        · have hjb : (j : Int) < (k : Int) := by omega
          have hjb0 : (0 : Int) ≤ (j : Int) := by omega
          have hcw := (H3.out.1.kept HJ.out.2.1 H3.out.2.2.1) j hlj
          obtain ⟨y, hy⟩ : ∃ y, y = W j := ⟨_, rfl⟩
          rw [← hy] at hcw
          have HY : Hid (y = W j ∧ y = pcS 32 l j ∧ y.size ≤ 5000) := by
            have h1 : y = pcS 32 l j := by rw [hy, HWd.out]
            exact ⟨hy, h1, by rw [h1]; have := pcS_le 32 l j; have := HL.out.2; omega⟩
          have hys : y.size ≤ 5000 := HY.out.2.2
          clear hy
          have HER : Hid (∀ x, (rnb y).1 = x → x ≠ 0 → txe s = x) := fun x hx h0 => by
            have h1 : lne l = x := word_err (by have := HJ.out.2.2; rw [HWd.out] at this; exact this) (by rw [← HY.out.2.1]; exact hx) h0 (by rw [← HK.out]; exact hlj)
            exact line_err HT.out HI.out.2.2.2 (pqe_line (by rw [← HL.out.1]; exact h1) h0) h0 hlt
          by_cases he : y.size = 0
          · have i3 := is_empty he
            have HF : Hid (txe s = 11) := HER.out 11 (by rw [rnb_none he]) (by decide)
            clear he
            obtain ⟨⟨y0, c0⟩, ⟨y1, c1⟩, ⟨y2, c2⟩, f0, f1, f2⟩ := HBx.out.2.2
            go_wp2
            obtain ⟨wz, hwz⟩ : ∃ wz, wz = laid wx a 0 0 (.slice none 0 0) := ⟨_, rfl⟩
            have HZ : Hid (CB a 0 0 (.slice none 0 0) wz ∧ Below w.heap.size w wz) := by
              rw [hwz]; exact ⟨laid_cb (HBx.out.2.2) _ _ _, laid_below (HBx.out.2.1) (by rw [HAe.out]; exact Nat.le_refl _) _ _ _⟩
            unfold laid at hwz
            rw [← hwz]
            clear hwz c0 c1 c2 f0 f1 f2
            obtain ⟨c0, c1, c2⟩ := HZ.out.1
            refine bodyPost_ret (v := .tuple #[.agg #[.int .i64 0, .int .i64 0, .slice none 0 0], .int .i64 11]) (by simp [results, Tryd.results5, go_sem, c0, c1, c2]) rfl ?_
            exact ⟨Or.inl ⟨by rw [HF.out]; decide, by rw [HF.out]⟩, HZ.out.2⟩
          · have i3 := not_empty he
            have HNe : Hid (y.size ≠ 0) := he
            have hy0 : 0 < y.size := by omega
            clear he
            go_wp2
            go_loopw [10, 11] (fun vn vi wy => ∃ (i z : Nat), i ≤ y.size ∧ z ≤ 2000000 ∧ vn = .int .i64 (z : Nat) ∧ vi = .int .i64 (i : Nat) ∧ wy = wx ∧ Hid ((z = bvl y i ∨ (10000 ≤ z ∧ 10000 ≤ bvl y i)) ∧ ∀ j, j < i → 48 ≤ bts y j ∧ bts y j ≤ 57)) (fun _ vi _ => y.size - (intOf vi).toNat)
            case atStart => exact ⟨0, 0, by omega, by omega, rfl, rfl, rfl, Or.inl rfl, fun j hj => absurd hj (by omega)⟩
            case round =>
              obtain ⟨i, z, hi, hz, rfl, rfl, hwy, HD⟩ := hrel
              have hwy := hwy.symm
              subst hwy
              by_cases hli : i < y.size
              · have hki : (i : Int) < (y.size : Int) := by omega
                have hki0 : (0 : Int) ≤ (i : Int) := by omega
                have hbt := bts_at y i hli
                have hb256 := bts_lt y i
                by_cases hd1 : bts y i < 48
                · have i4 : ((y[i]'hli).toNat : Int) < 48 := by omega
                  have HF : Hid (txe s = 11) := HER.out 11 (by rw [rnb_bad hli (Or.inl hd1)]) (by decide)
                  clear hbt hb256 hd1
                  obtain ⟨⟨y0, c0⟩, ⟨y1, c1⟩, ⟨y2, c2⟩, f0, f1, f2⟩ := HBx.out.2.2
                  go_wp2
                  obtain ⟨wz, hwz⟩ : ∃ wz, wz = laid wx a 0 0 (.slice none 0 0) := ⟨_, rfl⟩
                  have HZ : Hid (CB a 0 0 (.slice none 0 0) wz ∧ Below w.heap.size w wz) := by
                    rw [hwz]; exact ⟨laid_cb (HBx.out.2.2) _ _ _, laid_below (HBx.out.2.1) (by rw [HAe.out]; exact Nat.le_refl _) _ _ _⟩
                  unfold laid at hwz
                  rw [← hwz]
                  clear hwz c0 c1 c2 f0 f1 f2
                  obtain ⟨c0, c1, c2⟩ := HZ.out.1
                  refine bodyPost_ret (v := .tuple #[.agg #[.int .i64 0, .int .i64 0, .slice none 0 0], .int .i64 11]) (by simp [results, Tryd.results5, go_sem, c0, c1, c2]) rfl ?_
                  exact ⟨Or.inl ⟨by rw [HF.out]; decide, by rw [HF.out]⟩, HZ.out.2⟩
                have i4 : ¬ ((y[i]'hli).toNat : Int) < 48 := by omega
                by_cases hd2 : 57 < bts y i
                · have i5 : (57 : Int) < ((y[i]'hli).toNat : Int) := by omega
                  have HF : Hid (txe s = 11) := HER.out 11 (by rw [rnb_bad hli (Or.inr hd2)]) (by decide)
                  clear hbt hb256 hd1 hd2
                  obtain ⟨⟨y0, c0⟩, ⟨y1, c1⟩, ⟨y2, c2⟩, f0, f1, f2⟩ := HBx.out.2.2
                  go_wp2
                  obtain ⟨wz, hwz⟩ : ∃ wz, wz = laid wx a 0 0 (.slice none 0 0) := ⟨_, rfl⟩
                  have HZ : Hid (CB a 0 0 (.slice none 0 0) wz ∧ Below w.heap.size w wz) := by
                    rw [hwz]; exact ⟨laid_cb (HBx.out.2.2) _ _ _, laid_below (HBx.out.2.1) (by rw [HAe.out]; exact Nat.le_refl _) _ _ _⟩
                  unfold laid at hwz
                  rw [← hwz]
                  clear hwz c0 c1 c2 f0 f1 f2
                  obtain ⟨c0, c1, c2⟩ := HZ.out.1
                  refine bodyPost_ret (v := .tuple #[.agg #[.int .i64 0, .int .i64 0, .slice none 0 0], .int .i64 11]) (by simp [results, Tryd.results5, go_sem, c0, c1, c2]) rfl ?_
                  exact ⟨Or.inl ⟨by rw [HF.out]; decide, by rw [HF.out]⟩, HZ.out.2⟩
                have i5 : ¬ (57 : Int) < ((y[i]'hli).toNat : Int) := by omega
                obtain ⟨d, hdd⟩ : ∃ d, d = bts y i - 48 := ⟨_, rfl⟩
                have hd10 : d < 10 := by omega
                have wu : IntKind.u8.wrap (((y[i]'hli).toNat : Int) - 48) = (d : Int) := by
                  rw [show ((y[i]'hli).toNat : Int) - 48 = (d : Int) by omega]
                  have : ∀ x : Nat, x < 10 → IntKind.u8.wrap (x : Int) = (x : Int) := by decide +kernel
                  exact this d hd10
                have HDn : Hid (bvl y (i + 1) = bvl y i * 10 + d ∧ ∀ j, j < i + 1 → 48 ≤ bts y j ∧ bts y j ≤ 57) := by
                  refine ⟨by rw [bvl_next hli, hdd], fun j hj => ?_⟩
                  by_cases e : j = i
                  · rw [e]; omega
                  · exact HD.out.2 j (by omega)
                clear hbt hb256 hd1 hd2 hdd
                by_cases hz1 : z < 100000
                · have i6 : (z : Int) < 100000 := by omega
                  have HZn : Hid ((10 * z + d = bvl y (i + 1) ∨ (10000 ≤ 10 * z + d ∧ 10000 ≤ bvl y (i + 1))) ∧ ∀ j, j < i + 1 → 48 ≤ bts y j ∧ bts y j ≤ 57) := by
                    have h1 := HD.out.1
                    have h2 := HDn.out.1
                    exact ⟨by omega, HDn.out.2⟩
                  go_wp2
                  go_roundw
                  case rel => exact ⟨i + 1, 10 * z + d, by omega, by omega, by go_num, by go_num, by first | rfl | trivial, HZn.out⟩
                  case measure => simp [intOf]; omega
                · have i6 : ¬ (z : Int) < 100000 := by omega
                  have HZn : Hid ((z = bvl y (i + 1) ∨ (10000 ≤ z ∧ 10000 ≤ bvl y (i + 1))) ∧ ∀ j, j < i + 1 → 48 ≤ bts y j ∧ bts y j ≤ 57) := by
                    have h1 := HD.out.1
                    have h2 := HDn.out.1
                    exact ⟨by omega, HDn.out.2⟩
                  go_wp2
                  go_roundw
                  case rel => exact ⟨i + 1, z, by omega, by omega, rfl, by go_num, by first | rfl | trivial, HZn.out⟩
                  case measure => simp [intOf]; omega
              · have hki : ¬ (i : Int) < (y.size : Int) := by omega
                have hie : i = y.size := by omega
                have HDg : Hid ((z = bvl y y.size ∨ (10000 ≤ z ∧ 10000 ≤ bvl y y.size)) ∧ ∀ j, j < y.size → 48 ≤ bts y j ∧ bts y j ≤ 57) := by
                  have h := HD.out
                  rw [hie] at h
                  exact h
                have hb0 := bts_at y 0 hy0
                clear hie
                by_cases hz0 : 1 < y.size ∧ bts y 0 = 48
                · have i7 : (1 : Int) < (y.size : Int) := by omega
                  have i8 : (((y[0]'hy0).toNat : Int) == 48) = true := by rw [beq_iff_eq]; omega
                  have HF : Hid (txe s = 11) := HER.out 11 (by rw [rnb_zero hz0.1 hz0.2]) (by decide)
                  clear hz0 hb0
                  obtain ⟨⟨y0, c0⟩, ⟨y1, c1⟩, ⟨y2, c2⟩, f0, f1, f2⟩ := HBx.out.2.2
                  go_wp2
                  obtain ⟨wz, hwz⟩ : ∃ wz, wz = laid wx a 0 0 (.slice none 0 0) := ⟨_, rfl⟩
                  have HZ : Hid (CB a 0 0 (.slice none 0 0) wz ∧ Below w.heap.size w wz) := by
                    rw [hwz]; exact ⟨laid_cb (HBx.out.2.2) _ _ _, laid_below (HBx.out.2.1) (by rw [HAe.out]; exact Nat.le_refl _) _ _ _⟩
                  unfold laid at hwz
                  rw [← hwz]
                  clear hwz c0 c1 c2 f0 f1 f2
                  obtain ⟨c0, c1, c2⟩ := HZ.out.1
                  refine bodyPost_ret (v := .tuple #[.agg #[.int .i64 0, .int .i64 0, .slice none 0 0], .int .i64 11]) (by simp [results, Tryd.results5, go_sem, c0, c1, c2]) rfl ?_
                  exact ⟨Or.inl ⟨by rw [HF.out]; decide, by rw [HF.out]⟩, HZ.out.2⟩
                have HGd : Hid (rnb y = if 9999 < bvl y y.size then (4, 0) else (0, bvl y y.size)) := rnb_good HNe.out hz0 HDg.out.2
                by_cases hz9 : 9999 < z
                · have i9 : (9999 : Int) < (z : Int) := by omega
                  have HF : Hid (txe s = 4) := HER.out 4 (by rw [HGd.out, if_pos (by have := HDg.out.1; omega)]) (by decide)
                  obtain ⟨⟨y0, c0⟩, ⟨y1, c1⟩, ⟨y2, c2⟩, f0, f1, f2⟩ := HBx.out.2.2
                  by_cases hl1 : 1 < y.size
                  · have i7 : (1 : Int) < (y.size : Int) := by omega
                    have i8 : (((y[0]'hy0).toNat : Int) == 48) = false := by rw [beq_eq_false_iff_ne]; omega
                    clear hz0 hb0 hl1 hz9
                    go_wp2
                    obtain ⟨wz, hwz⟩ : ∃ wz, wz = laid wx a 0 0 (.slice none 0 0) := ⟨_, rfl⟩
                    have HZ : Hid (CB a 0 0 (.slice none 0 0) wz ∧ Below w.heap.size w wz) := by
                      rw [hwz]; exact ⟨laid_cb (HBx.out.2.2) _ _ _, laid_below (HBx.out.2.1) (by rw [HAe.out]; exact Nat.le_refl _) _ _ _⟩
                    unfold laid at hwz
                    rw [← hwz]
                    clear hwz c0 c1 c2 f0 f1 f2
                    obtain ⟨c0, c1, c2⟩ := HZ.out.1
                    refine bodyPost_ret (v := .tuple #[.agg #[.int .i64 0, .int .i64 0, .slice none 0 0], .int .i64 4]) (by simp [results, Tryd.results5, go_sem, c0, c1, c2]) rfl ?_
                    exact ⟨Or.inl ⟨by rw [HF.out]; decide, by rw [HF.out]⟩, HZ.out.2⟩
                  · have i7 : ¬ (1 : Int) < (y.size : Int) := by omega
                    clear hz0 hb0 hl1 hz9
                    go_wp2
                    obtain ⟨wz, hwz⟩ : ∃ wz, wz = laid wx a 0 0 (.slice none 0 0) := ⟨_, rfl⟩
                    have HZ : Hid (CB a 0 0 (.slice none 0 0) wz ∧ Below w.heap.size w wz) := by
                      rw [hwz]; exact ⟨laid_cb (HBx.out.2.2) _ _ _, laid_below (HBx.out.2.1) (by rw [HAe.out]; exact Nat.le_refl _) _ _ _⟩
                    unfold laid at hwz
                    rw [← hwz]
                    clear hwz c0 c1 c2 f0 f1 f2
                    obtain ⟨c0, c1, c2⟩ := HZ.out.1
                    refine bodyPost_ret (v := .tuple #[.agg #[.int .i64 0, .int .i64 0, .slice none 0 0], .int .i64 4]) (by simp [results, Tryd.results5, go_sem, c0, c1, c2]) rfl ?_
                    exact ⟨Or.inl ⟨by rw [HF.out]; decide, by rw [HF.out]⟩, HZ.out.2⟩
                · have i9 : ¬ (9999 : Int) < (z : Int) := by omega
                  have hrz : rnb y = (0, z) := by
                    have h1 := HDg.out.1
                    rw [HGd.out, if_neg (by omega), show bvl y y.size = z by omega]
                  have HR : Hid (fer (fun i => (rnb (W i)).1) (j + 1) = 0 ∧ lnz l j = (z : Int)) := by
                    refine ⟨?_, ?_⟩
                    · rw [fer_next HJ.out.2.2]
                      show (rnb (W j)).1 = 0
                      rw [← HY.out.1, hrz]
                    · unfold lnz
                      rw [← HY.out.2.1, hrz]
                  have hsx := HJ.out.2.1.size
                  clear hrz
                  by_cases hl1 : 1 < y.size
                  · have i7 : (1 : Int) < (y.size : Int) := by omega
                    have i8 : (((y[0]'hy0).toNat : Int) == 48) = false := by rw [beq_eq_false_iff_ne]; omega
                    clear hz0 hb0 hl1 hz9
                    go_wp2_with (at_builtin; refine append_int rfl _ _ rfl w3.heap.size _ (zl j (lnz l)) rfl (HJ.out.1.alloc _) ⟨_, 0, none⟩ 1 (z : Int) rfl (by simp) (by rw [zl_len]; omega) (by simp; omega) ?_; intro v5 w5 hown5 hgrow5)
                    have HYy : Hid (OwnI w3.heap.size v5 (zl (j + 1) (lnz l)) w5 ∧ Below w3.heap.size w3 w5 ∧ fer (fun i => (rnb (W i)).1) (j + 1) = 0) := by
                      refine ⟨?_, (HJ.out.2.1.alloc hsx _).grown hgrow5 (by simp; omega) (fun k hk => (HJ.out.1.lt k hk).1), HR.out.1⟩
                      rw [zl_succ, HR.out.2]; exact hown5
                    clear hown5 hgrow5
                    go_roundw
                    case rel => exact ⟨j + 1, by omega, by go_num, HYy.out⟩
                    case measure => simp [intOf]; omega
                  · have i7 : ¬ (1 : Int) < (y.size : Int) := by omega
                    clear hz0 hb0 hl1 hz9
                    go_wp2_with (at_builtin; refine append_int rfl _ _ rfl w3.heap.size _ (zl j (lnz l)) rfl (HJ.out.1.alloc _) ⟨_, 0, none⟩ 1 (z : Int) rfl (by simp) (by rw [zl_len]; omega) (by simp; omega) ?_; intro v5 w5 hown5 hgrow5)
                    have HYy : Hid (OwnI w3.heap.size v5 (zl (j + 1) (lnz l)) w5 ∧ Below w3.heap.size w3 w5 ∧ fer (fun i => (rnb (W i)).1) (j + 1) = 0) := by
                      refine ⟨?_, (HJ.out.2.1.alloc hsx _).grown hgrow5 (by simp; omega) (fun k hk => (HJ.out.1.lt k hk).1), HR.out.1⟩
                      rw [zl_succ, HR.out.2]; exact hown5
                    clear hown5 hgrow5
                    go_roundw
                    case rel => exact ⟨j + 1, by omega, by go_num, HYy.out⟩
                    case measure => simp [intOf]; omega
        · have hjb : ¬ (j : Int) < (k : Int) := by omega
          have hjk : j = k := by omega
          have hok := HJ.out.1
          rw [hjk] at hok
          have hne : zl k (lnz l) ≠ [] := by
            intro e
            have h3 := zl_len k (lnz l)
            rw [e] at h3
            have h3 : 0 = k := h3
            omega
          obtain ⟨gl, cl, hv8, _, _, hcl, _⟩ := hok.at hne
          rw [zl_len] at hv8 hcl
          subst hv8
          have HE : Hid (lne l = 0 ∧ OwnI w3.heap.size (.slice (some ⟨gl, 0, none⟩) k cl) (zl k (lnz l)) wx ∧ ∀ i, i < k → wx.cell? ⟨gl, i, none⟩ = some (.int .i64 (lnz l i))) := by
            refine ⟨?_, hok, fun i hi => by rw [hcl i hi, zl_getD k _ i hi]⟩
            have h := HJ.out.2.2
            rw [hjk, HWd.out, HK.out] at h
            exact h
          clear hjk hok hne hcl
          have HPx : Hid (PaS a b g (b + 1) m (t - 1) S (hdq s t) (hdn s t) v vs (tN s) (tZ s) wx ∧ b < wx.heap.size ∧ g < b ∧ a < g) := ⟨HI.out.1.below HBx.out.1 (by have := HI.out.2.2.1; have := H1.out.2.2.2.1; omega), Nat.lt_of_lt_of_le HI.out.2.2.1 HBx.out.1.size, H1.out.2.2.2.1, H1.out.2.2.1⟩
          by_cases ht0 : t = 0
          · subst ht0
            by_cases hk2 : k = 2
            · have i4 : ((k : Int) != 2) = false := by rw [hk2]; rfl
              have HF : Hid (fer (pqe s) 1 = 0) := by
                show fer (pqe s) 1 = 0
                rw [fer_next rfl]; exact pqe_two (by rw [← HL.out.1]; exact HE.out.1) (by rw [← HL.out.1, ← HK.out]; exact hk2)
              have hq0 := HE.out.2.2 0 (by omega)
              have hq1 := HE.out.2.2 1 (by omega)
              subst hk2
              obtain ⟨qv, HQ0⟩ : ∃ qv, Hid (qv = lnz l 0) := ⟨_, rfl⟩
              obtain ⟨nv, HN0⟩ : ∃ nv, Hid (nv = lnz l 1) := ⟨_, rfl⟩
              rw [← HQ0.out] at hq0
              rw [← HN0.out] at hq1
              have hgl : gl ≠ b := by
                have h1 := (HE.out.2.1.lt gl rfl).1
                have h2 := HI.out.2.2.1
                have h3 := H3.out.2.1.size
                omega
              have hgl2 : b ≠ gl := fun e => hgl e.symm
              obtain ⟨⟨y0, c0⟩, ⟨y1, c1⟩, ⟨y2, c2⟩, f0, f1, f2⟩ := HPx.out.1.rb
              go_wp2
              clear c0 c1 c2 f0 f1 f2 hq0 hq1
              go_roundw
              case rel =>
                refine ⟨1, v, vs, by omega, by go_num, ?_⟩
                have h4 := HAe.out
                have h5 := HPx.out.2.2
                have hP := HPx.out.1.head qv nv (by omega) (by omega) (by omega)
                have hq1 : hdq s 1 = qv := by rw [HQ0.out, HL.out.1]; rfl
                have hn1 : hdn s 1 = nv := by rw [HN0.out, HL.out.1]; rfl
                rw [hq1, hn1]
                refine ⟨hP, (HBx.out.2.1.setCell (by show w.heap.size ≤ b; omega) _).setCell (by show w.heap.size ≤ b; omega) _, ?_, HF.out⟩
                simp; exact HPx.out.2.1
              case measure => simp [intOf]; omega
            · have i4 : ((k : Int) != 2) = true := by rw [bne_iff_ne]; omega
              have HF : Hid (txe s = 6) := line_err HT.out rfl (pqe_six (by rw [← HL.out.1]; exact HE.out.1) (by rw [← HL.out.1, ← HK.out]; exact hk2)) (by decide) hlt
              clear hk2
              obtain ⟨⟨y0, c0⟩, ⟨y1, c1⟩, ⟨y2, c2⟩, f0, f1, f2⟩ := HBx.out.2.2
              go_wp2
              obtain ⟨wz, hwz⟩ : ∃ wz, wz = laid wx a 0 0 (.slice none 0 0) := ⟨_, rfl⟩
              have HZ : Hid (CB a 0 0 (.slice none 0 0) wz ∧ Below w.heap.size w wz) := by
                rw [hwz]; exact ⟨laid_cb (HBx.out.2.2) _ _ _, laid_below (HBx.out.2.1) (by rw [HAe.out]; exact Nat.le_refl _) _ _ _⟩
              unfold laid at hwz
              rw [← hwz]
              clear hwz c0 c1 c2 f0 f1 f2
              obtain ⟨c0, c1, c2⟩ := HZ.out.1
              refine bodyPost_ret (v := .tuple #[.agg #[.int .i64 0, .int .i64 0, .slice none 0 0], .int .i64 6]) (by simp [results, Tryd.results5, go_sem, c0, c1, c2]) rfl ?_
              exact ⟨Or.inl ⟨by rw [HF.out]; decide, by rw [HF.out]⟩, HZ.out.2⟩
          · have i3 : (0 : Int) < (t : Int) := by omega
            obtain ⟨t', HTT⟩ : ∃ t', Hid (t = t' + 1) := ⟨t - 1, by show t = t - 1 + 1; omega⟩
            have HF : Hid (fer (pqe s) (t + 1) = 0) := by
              show fer (pqe s) (t + 1) = 0
              rw [fer_next HI.out.2.2.2]; exact pqe_more (by rw [← HL.out.1]; exact HE.out.1) (by omega)
            have HO : Hid (k = tN s t' ∧ lnz l = tZ s t' ∧ hdq s (t + 1) = hdq s t ∧ hdn s (t + 1) = hdn s t) := by
              refine ⟨by rw [HK.out, HL.out.1, HTT.out]; rfl, by rw [HL.out.1, HTT.out]; rfl, ?_, ?_⟩
              · unfold hdq; rw [if_neg (by omega), if_neg (by omega)]
              · unfold hdn; rw [if_neg (by omega), if_neg (by omega)]
            have hc2 := HPx.out.1.cb.c2
            go_wp2_with (at_builtin; refine append_sl rfl _ _ rfl (b + 1) _ (vl (t - 1) vs) rfl (HPx.out.1.rd.below ((Below.refl _ _).alloc (Nat.le_refl _) _)).own ⟨_, 0, none⟩ 1 (.slice (some ⟨gl, 0, none⟩) k cl) rfl rfl (by simp) (by rw [vl_len]; omega) (by have := HPx.out.2.1; simp; omega) ?_; intro v5 w5 hown5 hgrow5; obtain ⟨o5, n5, c5, hv5⟩ : ∃ o5 n5 c5, v5 = .slice o5 n5 c5 := (by obtain ⟨mo, mc, hv, _⟩ := hown5.open; exact ⟨_, _, _, hv⟩); subst hv5; obtain ⟨⟨y0, c0⟩, ⟨y1, c1⟩, ⟨y2, c2⟩, f0, f1, f2⟩ := (HPx.out.1.rb.keep ((Below.refl _ _).alloc (Nat.le_refl _) (.cells #[.slice (some ⟨gl, 0, none⟩) k cl] 33))).under (B := b + 1) (below_grown hgrow5 (by have := HPx.out.2.1; simp; omega) (fun k hk => HPx.out.1.rd.own.open_ge k hk)) (by omega))
            have hal : Below wx.heap.size wx (wx.alloc (.cells #[.slice (some ⟨gl, 0, none⟩) k cl] 33)) := (Below.refl _ _).alloc (Nat.le_refl _) _
            have hb5 : Below (b + 1) (wx.alloc (.cells #[.slice (some ⟨gl, 0, none⟩) k cl] 33)) w5 := below_grown hgrow5 (by have := HPx.out.2.1; simp; omega) (fun k hk => HPx.out.1.rd.own.open_ge k hk)
            have HYy : Hid (PaS a b g (b + 1) m t S (hdq s (t + 1)) (hdn s (t + 1)) (.slice o5 n5 c5) (fun j => if j = t - 1 then .slice (some ⟨gl, 0, none⟩) k cl else vs j) (tN s) (tZ s) (w5.setCell ⟨b, 2, none⟩ (.slice o5 n5 c5)) ∧ Below w.heap.size w (w5.setCell ⟨b, 2, none⟩ (.slice o5 n5 c5)) ∧ b < (w5.setCell ⟨b, 2, none⟩ (.slice o5 n5 c5)).heap.size ∧ fer (pqe s) (t + 1) = 0) := by
              have h4 := HAe.out
              have h5 := HPx.out.2
              have h6 := HI.out.2.2.1
              have h7 := H3.out.2.1.size
              have hu : OwnI (b + 1) (.slice (some ⟨gl, 0, none⟩) k cl) (zl (tN s (t - 1)) (tZ s (t - 1))) (wx.alloc (.cells #[.slice (some ⟨gl, 0, none⟩) k cl] 33)) := by
                have ht' : t - 1 = t' := by have := HTT.out; omega
                rw [ht', ← HO.out.1, ← HO.out.2.1]
                exact (HE.out.2.1.alloc _).mono (by omega)
              have hM := (HPx.out.1.below hal (by omega)).more hu hown5 hgrow5 hb5 (by omega) (by omega) (by omega) (by omega) (by omega)
              rw [show t - 1 + 1 = t by omega] at hM
              rw [HO.out.2.2.1, HO.out.2.2.2]
              have hb6 : Below w.heap.size w w5 := (bel_up' HBx.out.2.1 hal).trans (hb5.mono (by omega))
              refine ⟨hM, hb6.setCell (by show w.heap.size ≤ b; omega) _, ?_, HF.out⟩
              have h8 := hb5.size
              simp at h8 ⊢
              omega
            clear hown5 hgrow5 hb5 hal hc2 c0 c1 c2 f0 f1 f2
            go_roundw
            case rel => exact ⟨t + 1, _, _, by omega, by go_num, HYy.out⟩
            case measure => simp [intOf]; omega
    · have hib : ¬ (t : Int) < (m : Int) := by omega
      have hte : t = m := by omega
      obtain ⟨mo, mc, hv, hmat⟩ := HI.out.1.rd.matZ (fun j => by show pcN 32 (lcS s (j + 1)) ≤ 1000000; have := pcN_le 32 (lcS s (j + 1)); have := lcS_le s (j + 1); omega)
      subst hv
      have HQ : Hid (hdq s t = lnz (lcS s 0) 0 ∧ hdn s t = lnz (lcS s 0) 1) := by
        rw [hte]
        exact ⟨if_neg (by omega), if_neg (by omega)⟩
      have HM2 : Hid (MatZ mo (m - 1) (fun j => slA (vs j)) (tN s) (fun j => slC (vs j)) (tZ s) wr) := by rw [← hte]; exact hmat
      have hcb := HI.out.1.cb
      rw [HQ.out.1, HQ.out.2, hte] at hcb
      obtain ⟨qq, hqq⟩ : ∃ qq, qq = lnz (lcS s 0) 0 := ⟨_, rfl⟩
      obtain ⟨nn, hnn⟩ : ∃ nn, nn = lnz (lcS s 0) 1 := ⟨_, rfl⟩
      rw [← hqq, ← hnn] at hcb
      have HCb : Hid (CB b qq nn (.slice mo (m - 1) mc) wr) := hcb
      have HMa : Hid (∀ wx, Below wr.heap.size wr wx → Calls Tryd.prog 13 #[.agg #[.int .i64 qq, .int .i64 nn, .slice mo (m - 1) mc]] wx fun e w' => e = .returned (.int .i64 ea) ∧ Below wx.heap.size wx w') := fun wx hx => by
        rw [hqq, hnn]; exact HC.out.1 _ _ _ _ _ (HM2.out.below hx)
      have HMd : Hid (ea = 0 → ∀ wx, Below wr.heap.size wr wx → Calls Tryd.prog 14 #[.agg #[.int .i64 qq, .int .i64 nn, .slice mo (m - 1) mc]] wx fun e w' => (∃ ro k rc, e = .returned (.agg #[.int .i64 q, .int .i64 n, .slice ro k rc]) ∧ G wx.heap.size (.slice ro k rc) w') ∧ Below wx.heap.size wx w') := fun he wx hx => by
        rw [hqq, hnn]; exact HC.out.2 he _ _ _ _ _ (HM2.out.below hx)
      have HT0 : Hid (txe s = 0) := by
        show txe s = 0
        rw [HT.out, ← hte]; exact HI.out.2.2.2
      clear hte hmat hqq hnn hcb
      obtain ⟨a0, a1, a2⟩ := HCb.out
      by_cases he : ea = 0
      · have i4 : (ea != 0) = false := by rw [he]; rfl
        have HEa : Hid (ea = 0) := he
        clear he
        go_wp2_with first
          | (go_at_call 13; refine (HMa.out _ (Below.refl _ _)).mono ?_; rintro e w4 ⟨rfl, hb4⟩; obtain ⟨d0, d1, d2⟩ := HCb.out.keep hb4)
          | (go_at_call 14; refine (HMd.out HEa.out _ hb4).mono ?_; rintro e w5 ⟨⟨ro, rk, rc, rfl, hgv⟩, hb5⟩; obtain ⟨⟨y0, c0⟩, ⟨y1, c1⟩, ⟨y2, c2⟩, f0, f1, f2⟩ := (HI.out.1.ra.keep hb4).keep hb5)
        obtain ⟨wz, hwz⟩ : ∃ wz, wz = laid w5 a q n (.slice ro rk rc) := ⟨_, rfl⟩
        have HZ : Hid (CB a q n (.slice ro rk rc) wz ∧ Below w.heap.size w wz ∧ G w.heap.size (.slice ro rk rc) wz) := by
          have h5 := HAe.out
          have h6 := HI.out.2.2.1
          have h7 := H1.out.2.2
          have h8 := hb4.size
          rw [hwz]; exact ⟨laid_cb ((HI.out.1.ra.keep hb4).keep hb5) _ _ _, laid_below (bel_up' (bel_up' HI.out.2.1 hb4) hb5) (by rw [h5]; exact Nat.le_refl _) _ _ _, HG.out.2 _ _ _ _ (HG.out.1 _ _ _ _ _ _ _ hgv (by omega) ((HI.out.1.ta.keep hb4).keep hb5)) (by omega)⟩
        unfold laid at hwz
        rw [← hwz]
        clear hwz c0 c1 c2 f0 f1 f2
        obtain ⟨c0, c1, c2⟩ := HZ.out.1
        refine bodyPost_ret (v := .tuple #[.agg #[.int .i64 q, .int .i64 n, .slice ro rk rc], .int .i64 0]) (by simp [results, Tryd.results5, go_sem, c0, c1, c2]) rfl ?_
        exact ⟨Or.inr (Or.inr ⟨HT0.out, HEa.out, ro, rk, rc, rfl, HZ.out.2.2⟩), HZ.out.2.1⟩
      · have i4 : (ea != 0) = true := by rw [bne_iff_ne]; exact he
        have HEa : Hid (ea ≠ 0) := he
        clear he
        go_wp2_with (go_at_call 13; refine (HMa.out _ (Below.refl _ _)).mono ?_; rintro e w4 ⟨rfl, hb4⟩; obtain ⟨⟨y0, c0⟩, ⟨y1, c1⟩, ⟨y2, c2⟩, f0, f1, f2⟩ := HI.out.1.ra.keep hb4)
        obtain ⟨wz, hwz⟩ : ∃ wz, wz = laid w4 a 0 0 (.slice none 0 0) := ⟨_, rfl⟩
        have HZ : Hid (CB a 0 0 (.slice none 0 0) wz ∧ Below w.heap.size w wz) := by
          rw [hwz]; exact ⟨laid_cb (HI.out.1.ra.keep hb4) _ _ _, laid_below (bel_up' HI.out.2.1 hb4) (by rw [HAe.out]; exact Nat.le_refl _) _ _ _⟩
        unfold laid at hwz
        rw [← hwz]
        clear hwz c0 c1 c2 f0 f1 f2
        obtain ⟨c0, c1, c2⟩ := HZ.out.1
        refine bodyPost_ret (v := .tuple #[.agg #[.int .i64 0, .int .i64 0, .slice none 0 0], .int .i64 ea]) (by simp [results, Tryd.results5, go_sem, c0, c1, c2]) rfl ?_
        exact ⟨Or.inr (Or.inl ⟨HT0.out, HEa.out, rfl⟩), HZ.out.2⟩
end Go.Proofs.YtaliaikahohemaaDoor
