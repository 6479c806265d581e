/- Golay's codes: the reference's Golay. -/
import Derived.Test.YtjkncdmbcckcdaaZG3
import Derived.Test.YtjkncdmbcckcdaaZI39
namespace Go.Proofs.Ytjkncdmbcckcdaa
open Go.RowKit Go.Sort

/-- A code's variable, whole. -/
def CBF (b : Nat) (q n : Int) (v : Value) (w : World) : Prop := ∃ f, RowF b 3 49 f w ∧ f 0 = .int .i64 q ∧ f 1 = .int .i64 n ∧ f 2 = v
theorem CBF.cb {b : Nat} {q n : Int} {v : Value} {w : World} (h : CBF b q n v w) : CB b q n v w ∧ w.frozen? ⟨b, 2, none⟩ = false := by
  obtain ⟨f, hf, h0, h1, h2⟩ := h
  exact ⟨⟨by rw [hf.cell 0 (by omega), h0], by rw [hf.cell 1 (by omega), h1], by rw [hf.cell 2 (by omega), h2]⟩, hf.free 2⟩
theorem CBF.rbt {b : Nat} {q n : Int} {v : Value} {w : World} (h : CBF b q n v w) : RBt b w := by
  obtain ⟨f, ⟨cs, h1, _, _⟩, _⟩ := h
  exact ⟨cs, h1⟩
theorem CBF.put {b : Nat} {q n : Int} {v : Value} {w : World} (h : CBF b q n v w) (v' : Value) : CBF b q n v' (w.setCell ⟨b, 2, none⟩ v') := by
  obtain ⟨f, hf, h0, h1, h2⟩ := h
  exact ⟨_, hf.store 2 v', by unfold upd; rw [if_neg (by omega), h0], by unfold upd; rw [if_neg (by omega), h1], by unfold upd; rw [if_pos rfl]⟩
theorem CBF.below {b B : Nat} {q n : Int} {v : Value} {w w' : World} (h : CBF b q n v w) (hb : Below B w w') (hB : b < B) : CBF b q n v w' := by
  obtain ⟨f, hf, h⟩ := h
  exact ⟨f, hf.below hb hB, h⟩
theorem CBF.new (q n : Int) (v : Value) (w : World) : CBF w.heap.size q n v (w.alloc (.cells #[.int .i64 q, .int .i64 n, v] 49)) := by
  refine ⟨fun i => if i = 0 then .int .i64 q else if i = 1 then .int .i64 n else v, ⟨_, two_new _, rfl, fun o ho => ?_⟩, rfl, rfl, rfl⟩
  have : o = 0 ∨ o = 1 ∨ o = 2 := by omega
  rcases this with rfl | rfl | rfl <;> rfl
theorem LLs.stored {base b : Nat} {v : Value} {L : List (Nat × (Nat → Nat))} {w : World} (h : LLs base v L w) (ht : RBt b w) (o : Nat) (u : Value) : LLs base v L (w.setCell ⟨b, o, none⟩ u) := by
  obtain ⟨l, h1, h2⟩ := h
  refine ⟨l, h1.same (fun g hg => Below.heap_setCell w ⟨b, o, none⟩ u g (h1.notCode ht g hg)), h2.1, fun j x p hx hp => ?_⟩
  obtain ⟨g, cap, e, a1, a2, hr⟩ := h2.2 j x p hx hp
  exact ⟨g, cap, e, a1, a2, hr.other (Below.heap_setCell w ⟨b, o, none⟩ u g (hr.notCode ht))⟩

set_option maxHeartbeats 16000000 in
set_option maxRecDepth 100000 in
theorem rgolay_any {D : FD} (hD : D ∈ fieldsL) {go : Option Addr} {m n n1 K cg : Nat} {g : Nat → Nat} {w : World} (hG : Arg go m cg (fun j => ((g j : Nat) : Int)) w) (eg : El D g) (bg : Bd m g) (hnn : n = n1 + 1) (hn : n ≤ 63) (hm : 1 ≤ m) (hK : K + m = n + 1) :
    Calls Try.prog 26 #[.int .i64 D.q, .int .i64 (n : Nat), .slice go m cg] w fun x w' => ∃ k R ro rc, x = .returned (.agg #[.int .i64 D.q, .int .i64 (n + 1 : Nat), .slice ro k rc]) ∧ LLs w.heap.size (.slice ro k rc) (rl k n R) w' ∧ Red D (n + 1) K (fun i => xtd D n (psh i g)) k R ∧ Below w.heap.size w w' := by
  obtain ⟨w0, hw0⟩ : ∃ w0, w0 = (w.alloc (.cells #[.int .i64 0, .int .i64 0, .slice none 0 0] 49)).alloc (.cells #[.int .i64 D.q, .int .i64 (n : Nat), .slice none 0 0] 49) := ⟨_, rfl⟩
  have HW : Hid (Below w.heap.size w w0 ∧ CBF w.heap.size 0 0 (.slice none 0 0) w0 ∧ CBF (w.heap.size + 1) D.q (n : Nat) (.slice none 0 0) w0 ∧ w0.heap.size = w.heap.size + 2) := by
    obtain ⟨w1, hw1⟩ : ∃ w1, w1 = w.alloc (.cells #[.int .i64 0, .int .i64 0, .slice none 0 0] 49) := ⟨_, rfl⟩
    obtain ⟨g1, g2, g3⟩ := box_at 0 0 (.slice none 0 0) w
    have k1 := CBF.new 0 0 (.slice none 0 0) w
    rw [← hw1] at g1 g2 g3 k1 hw0
    obtain ⟨l1, l2, l3⟩ := box_at D.q (n : Nat) (.slice none 0 0) w1
    have k2 := CBF.new D.q (n : Nat) (.slice none 0 0) w1
    rw [← hw0] at l1 l2 l3 k2
    rw [g3] at k2
    exact ⟨bel_up' g1 l1, k1.below l1 (by omega), k2, by omega⟩
  have HA : Hid (D ∈ fieldsL ∧ Arg go m cg (fun j => ((g j : Nat) : Int)) w ∧ El D g ∧ Bd m g ∧ n = n1 + 1 ∧ K + m = n + 1) := ⟨hD, hG, eg, bg, hnn, hK⟩
  have hn0 : 1 ≤ n := by omega
  have hKb : K ≤ 64 := by omega
  have hm64 : m ≤ 64 + 1 := by omega
  clear hD hG eg bg hnn hK
  obtain ⟨N1, hN1⟩ : ∃ N1, N1 = n + 1 := ⟨_, rfl⟩
  rw [← hN1]
  have HN : Hid (N1 = n + 1) := hN1
  clear hN1
  go_enter Try.func26, Try.ntmps26
  go_wp2
  rw [← hw0]
  clear hw0
  go_loopw [8] (fun vk wr => ∃ (k : Nat) (v : Value), k ≤ K ∧ vk = .int .i64 k ∧ Hid (CBF w.heap.size 0 0 (.slice none 0 0) wr ∧ CBF (w.heap.size + 1) D.q (n : Nat) v wr ∧ LLs (w.heap.size + 2) v (rl k n1 fun i => psh i g) wr ∧ Below w.heap.size w wr ∧ w.heap.size + 2 ≤ wr.heap.size)) (fun vk _ => K - (intOf vk).toNat)
  case atStart => exact ⟨0, _, by omega, rfl, HW.out.2.1, HW.out.2.2.1, LLs.nil _ _, HW.out.1, by have := HW.out.2.2.2; omega⟩
  case round =>
    clear HW
    obtain ⟨k, v, hk, rfl, HG⟩ := hrel
    rename World => wr
    have hKm := HA.out.2.2.2.2.2
    by_cases hlt : k < K
    · have hib : (k : Int) + (m : Int) ≤ (n : Int) := by omega
      have hsz := HG.out.2.2.2.2
      go_wp2_with (first | (at_make; refine make_int rfl _ _ rfl _ n rfl rfl (by omega) (by omega) ?_; intro w2 hown2 hgrow2))
      have H2 : Hid (Row wr.heap.size n pnil w2 ∧ Below wr.heap.size wr w2) := ⟨row_zeros hown2, below_grown hgrow2 (Nat.le_refl _) (fun k hk => by simp at hk)⟩
      clear hown2 hgrow2
      go_loopw [10] (fun vi wx => ∃ i : Nat, i ≤ m ∧ vi = .int .i64 i ∧ Hid (Row wr.heap.size n (fun j => if k ≤ j ∧ j < k + i then g (j - k) else 0) wx ∧ Below wr.heap.size wr wx)) (fun vi _ => m - (intOf vi).toNat)
      case atStart =>
        refine ⟨0, by omega, rfl, ?_, H2.out.2⟩
        have e : (fun j => if k ≤ j ∧ j < k + 0 then g (j - k) else 0) = pnil := by
          funext j
          rw [if_neg (by omega)]; rfl
        rw [e]; exact H2.out.1
      case round =>
        obtain ⟨i, hi, rfl, HI⟩ := hrel
        rename World => wx
        by_cases hli : i < m
        · have hjb : (i : Int) < (m : Int) := by omega
          have hjb0 : (0 : Int) ≤ (i : Int) := by omega
          obtain ⟨ik, hik⟩ : ∃ ik, ik = i + k := ⟨_, rfl⟩
          have hikn : ik < n := by omega
          have hik1 : (i : Int) + (k : Int) = (ik : Int) := by omega
          have hik2 : (i : Int) + (k : Int) < (n : Int) := by omega
          have hik3 : (0 : Int) ≤ (i : Int) + (k : Int) := by omega
          have hik4 : ((i : Int) + (k : Int)).toNat = ik := by omega
          obtain ⟨b, off, hgo, hc⟩ := (HA.out.2.1.below (bel_up' HG.out.2.2.2.1 HI.out.2)).sl i hli
          subst hgo
          obtain ⟨y, hy⟩ : ∃ y, y = g i := ⟨_, rfl⟩
          have hcy : wx.cell? ⟨b, off + i, none⟩ = some (.int .i64 (y : Nat)) := by rw [hy]; exact hc
          have hcr := HI.out.1.cell ik hikn
          have hfr := HI.out.1.free ik
          have HR : Hid (Row wr.heap.size n (fun j => if k ≤ j ∧ j < k + (i + 1) then g (j - k) else 0) (wx.setCell ⟨wr.heap.size, ik, none⟩ (.int .i64 (y : Nat))) ∧ Below wr.heap.size wr (wx.setCell ⟨wr.heap.size, ik, none⟩ (.int .i64 (y : Nat)))) := by
            refine ⟨HI.out.1.store ik y (fun j _ => ?_), HI.out.2.setCell (Nat.le_refl _) _⟩
            by_cases e : j = ik
            · rw [if_pos e, if_pos (by omega), hy, show j - k = i by omega]
            · rw [if_neg e]
              by_cases e2 : k ≤ j ∧ j < k + i
              · rw [if_pos e2, if_pos (by omega)]
              · rw [if_neg e2, if_neg (by omega)]
          clear hc hy hik
          go_wp2
          go_roundw
          case rel => exact ⟨i + 1, by omega, by go_num, by first | exact HR.out | (simp only [hik4] at *; exact HR.out)⟩
          case measure => simp [intOf]; omega
        · have hjb : ¬ (i : Int) < (m : Int) := by omega
          have hie : m = i := by omega
          subst hie
          have hcbf := HG.out.2.1.below HI.out.2 (by omega)
          obtain ⟨⟨p0, p1, p2⟩, pf⟩ := hcbf.cb
          obtain ⟨lst, hov, hels⟩ := HG.out.2.2.1.below HI.out.2 (Nat.le_refl _)
          have hll : lst.length ≤ 1000000 := by rw [hels.1, rl_len]; omega
          have hsx := HI.out.2.size
          have HV : Hid (OwnV (w.heap.size + 2) v lst wx ∧ Elms lst (rl k n1 fun i => psh i g) wx ∧ Elm (.slice (some ⟨wr.heap.size, 0, none⟩) n n) (n1, psh k g) wx) := by
            refine ⟨hov, hels, wr.heap.size, n, ?_, ?_, by omega, ?_⟩
            · rw [← HA.out.2.2.2.2.1]
            · show n1 + 1 ≤ n
              have := HA.out.2.2.2.2.1
              omega
            · have e : (fun j => if k ≤ j ∧ j < k + m then g (j - k) else 0) = psh k g := by
                funext j
                unfold psh
                by_cases e1 : k ≤ j
                · rw [if_pos e1]
                  by_cases e2 : j < k + m
                  · rw [if_pos ⟨e1, e2⟩]
                  · rw [if_neg (by omega), HA.out.2.2.2.1 (j - k) (by omega)]
                · rw [if_neg e1, if_neg (fun h => e1 h.1)]
              have h := HI.out.1
              rw [e] at h
              show Row wr.heap.size (n1 + 1) (psh k g) wx
              rw [← HA.out.2.2.2.2.1]; exact h
          clear hov hels
          go_wp2_with (first
            | (at_builtin
               refine append_sl rfl _ _ rfl (w.heap.size + 2) v lst rfl (HV.out.1.below ((Below.refl _ _).alloc (Nat.le_refl _) _) (Nat.le_refl _)) ⟨wx.heap.size, 0, none⟩ 1 (.slice (some ⟨wr.heap.size, 0, none⟩) n n) rfl rfl (by rw [cell_of_row _ _ _ _ _ (0, 0) (two_new _)]; rfl) hll (by simp; omega) ?_
               intro v' w6 hown6 hg6
               have hal : Below wx.heap.size wx (wx.alloc (.cells #[.slice (some ⟨wr.heap.size, 0, none⟩) n n] 22)) := (Below.refl _ _).alloc (Nat.le_refl _) _
               have ho := HV.out.1.below hal (Nat.le_refl _)
               have hbw : Below (w.heap.size + 2) wr w6 := ((HI.out.2.mono hsz).trans (hal.mono (by omega))).grown hg6 (by simp; omega) (fun k hk => ho.open_ge k hk)
               have hcb6 := HG.out.2.1.below hbw (by omega)
               have H6 : Hid (CBF (w.heap.size + 1) D.q (n : Nat) v w6 ∧ CBF w.heap.size 0 0 (.slice none 0 0) w6 ∧ LLs (w.heap.size + 2) v' (rl (k + 1) n1 fun i => psh i g) w6 ∧ Below w.heap.size w w6 ∧ w.heap.size + 2 ≤ w6.heap.size) := by
                 refine ⟨hcb6, HG.out.1.below hbw (by omega), ⟨_, hown6, ?_⟩, HG.out.2.2.2.1.trans (hbw.mono (by omega)), by have := hbw.size; omega⟩
                 have h := ((HV.out.2.1.below hal (Nat.le_refl _)).snoc (HV.out.2.2.below hal (Nat.le_refl _))).grown ho hg6
                 rw [rl_succ]; exact h
               obtain ⟨so, sc, hv'⟩ := H6.out.2.2.1.slc
               rw [rl_len] at hv'
               subst hv'
               obtain ⟨⟨s0, s1, s2⟩, sf⟩ := hcb6.cb
               clear hown6 hg6 hal ho hbw hcb6))
          have HR : Hid (CBF w.heap.size 0 0 (.slice none 0 0) (w6.setCell ⟨w.heap.size + 1, 2, none⟩ (.slice so (k + 1) sc)) ∧ CBF (w.heap.size + 1) D.q (n : Nat) (.slice so (k + 1) sc) (w6.setCell ⟨w.heap.size + 1, 2, none⟩ (.slice so (k + 1) sc)) ∧ LLs (w.heap.size + 2) (.slice so (k + 1) sc) (rl (k + 1) n1 fun i => psh i g) (w6.setCell ⟨w.heap.size + 1, 2, none⟩ (.slice so (k + 1) sc)) ∧ Below w.heap.size w (w6.setCell ⟨w.heap.size + 1, 2, none⟩ (.slice so (k + 1) sc)) ∧ w.heap.size + 2 ≤ (w6.setCell ⟨w.heap.size + 1, 2, none⟩ (.slice so (k + 1) sc)).heap.size) := by
            have hs : (w6.setCell ⟨w.heap.size + 1, 2, none⟩ (.slice so (k + 1) sc)).heap.size = w6.heap.size := by simp
            exact ⟨H6.out.2.1.below ((Below.refl (w.heap.size + 1) w6).setCell (Nat.le_refl _) _) (by omega), H6.out.1.put (.slice so (k + 1) sc), H6.out.2.2.1.stored H6.out.1.rbt 2 (.slice so (k + 1) sc), H6.out.2.2.2.1.setCell (show w.heap.size ≤ w.heap.size + 1 by omega) _, by rw [hs]; exact H6.out.2.2.2.2⟩
          clear p0 p1 p2 pf s0 s1 s2 sf
          go_roundw
          case rel => exact ⟨k + 1, _, by omega, by go_num, HR.out⟩
          case measure => simp [intOf]; omega
    · have hib : ¬ (k : Int) + (m : Int) ≤ (n : Int) := by omega
      have hke : K = k := by omega
      subst hke
      obtain ⟨lo, lc, hv⟩ := HG.out.2.2.1.slc
      rw [rl_len] at hv
      subst hv
      have HX : Hid (Calls Try.prog 71 #[.agg #[.int .i64 D.q, .int .i64 (n : Nat), .slice lo K lc]] wr fun e w' => ∃ k R ro rc, e = .returned (.agg #[.int .i64 D.q, .int .i64 (N1 : Nat), .slice ro k rc]) ∧ LLs wr.heap.size (.slice ro k rc) (rl k n R) w' ∧ Red D N1 K (fun i => xtd D n (psh i g)) k R ∧ Below wr.heap.size wr w') := by
        rw [HN.out]
        refine rext_any HA.out.1 (by omega) hn HA.out.2.2.2.2.1 (fun i hi => ⟨el_sh (fld HA.out.1) i HA.out.2.2.1, fun j hj => ?_⟩) HG.out.2.2.1.matR'.1
        unfold psh
        split
        · exact HA.out.2.2.2.1 (j - i) (by omega)
        · rfl
      obtain ⟨⟨p0, p1, p2⟩, pf⟩ := HG.out.2.1.cb
      go_wp2_with fail
      refine HX.out.mono ?_
      rintro e w2 ⟨k, R, ro, rc, rfl, hl2, hr2, hb2⟩
      have H2 : Hid (LLs wr.heap.size (.slice ro k rc) (rl k n R) w2 ∧ Red D N1 K (fun i => xtd D n (psh i g)) k R ∧ Below w.heap.size w w2 ∧ RB w.heap.size w2 ∧ RBt w.heap.size w2 ∧ w.heap.size ≤ wr.heap.size) := by
        have hc := HG.out.1.below hb2 (by have := HG.out.2.2.2.2; omega)
        exact ⟨hl2, hr2, bel_up' HG.out.2.2.2.1 hb2, RB.of hc.cb.1 hc.rbt, hc.rbt, HG.out.2.2.2.1.size⟩
      clear hl2 hr2 hb2 p0 p1 p2 pf
      obtain ⟨⟨x0, c0⟩, ⟨x1, c1⟩, ⟨x2, c2⟩, f0, f1, f2⟩ := H2.out.2.2.2.1
      go_wp2
      obtain ⟨w3, hw3⟩ : ∃ w3, w3 = laid w2 w.heap.size D.q (N1 : Nat) (.slice ro k rc) := ⟨_, rfl⟩
      have H3 : Hid (CB w.heap.size D.q (N1 : Nat) (.slice ro k rc) w3 ∧ LLs w.heap.size (.slice ro k rc) (rl k n R) w3 ∧ Below w.heap.size w w3) := by
        rw [hw3]; exact ⟨laid_cb H2.out.2.2.2.1 _ _ _, (H2.out.1.laid H2.out.2.2.2.2.1 _ _ _).mono H2.out.2.2.2.2.2, laid_below H2.out.2.2.1 (Nat.le_refl _) _ _ _⟩
      unfold laid at hw3
      rw [← hw3]
      clear hw3 c0 c1 c2 f0 f1 f2
      obtain ⟨c0, c1, c2⟩ := H3.out.1
      refine bodyPost_ret (v := .agg #[.int .i64 D.q, .int .i64 (N1 : Nat), .slice ro k rc]) (by simp [results, Try.results26, go_sem, c0, c1, c2]) rfl ?_
      exact ⟨_, R, _, _, rfl, H3.out.2.1, H2.out.2.1, H3.out.2.2⟩
end Go.Proofs.Ytjkncdmbcckcdaa
