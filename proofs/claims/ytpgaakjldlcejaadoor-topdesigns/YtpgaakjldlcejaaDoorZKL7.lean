/- Texts of ours, one behind the other: KL7 KL8 KL9 KL10 KL11 S47 S49 S50 S52 S53 KN1 S54 S55 S56. -/
import Derived.Test.YtpgaakjldlcejaaDoorZKL4
import Derived.Test.YtpgaakjldlcejaaDoorZI7
import Derived.Test.YtpgaakjldlcejaaDoorZS4
import Derived.Test.YtpgaakjldlcejaaDoorZG3
import Derived.Test.YtpgaakjldlcejaaDoorZKL3
import Derived.Test.YtpgaakjldlcejaaDoorZK7
import Derived.Test.YtpgaakjldlcejaaDoorZR5
import Derived.Test.YtpgaakjldlcejaaDoorZV7
/- code.Weights: the words of a code, gone through. -/
namespace Go.Proofs.YtpgaakjldlcejaaDoor
open Go.RowKit Go.Sort Go.Shelf
attribute [local go_sem] Oper.semAt_some

theorem MV.wdr {B k rc n : Nat} {ro : Option Addr} {R : Nat → Nat → Nat} {w : World} (h : MV B (.slice ro k rc) k n R w) : ∃ (Gm mm : Nat) (hm : Nat → Nat), WdR ro n k B Gm mm R hm w ∧ (0 < k → Gm < w.heap.size) ∧ ∀ i, i < k → hm i < w.heap.size := by
  rcases h with ⟨e, _⟩ | ⟨G, mc, mm, hm, ev, hM⟩
  · exact ⟨0, 0, fun _ => 0, fun hk => absurd hk (by omega), fun hk => absurd hk (by omega), fun i hi => absurd hi (by omega)⟩
  · cases ev
    exact ⟨G, mm, hm, fun _ => ⟨rfl, hM⟩, fun _ => hM.ltG, fun i hi => hM.lt i hi⟩
/-- What Weights tells of a code that may be. -/
def WsP (D : FD) (n m : Nat) (M : Nat → Nat → Nat) (w : World) (x : Ending) (w' : World) : Prop :=
  ∃ k R, Red D n m M k R ∧ Below w.heap.size w w' ∧ ((D.q ^ k ≤ 4096 ∧ ∃ g, w.heap.size ≤ g ∧ Row g (n + 1) (wcn D R n k (D.q ^ k)) w' ∧ x = .returned (.tuple #[.slice (some ⟨g, 0, none⟩) (n + 1) (n + 1), .int .i64 0])) ∨
    (¬ D.q ^ k ≤ 4096 ∧ x = .returned (.tuple #[.slice none 0 0, .int .i64 4])))

set_option maxHeartbeats 8000000 in
set_option maxRecDepth 100000 in
theorem weights_ok {D : FD} (hD : D ∈ fieldsL) {ao : Option Addr} {m n ca : Nat} {M : Nat → Nat → Nat} {w : World} (hn1 : 1 ≤ n) (hn : n ≤ 64)
    (hS : ∀ wx, Below w.heap.size w wx → Calls Tryd.prog 22 #[.agg #[.int .i64 D.q, .int .i64 (n : Nat), .slice ao m ca]] wx (SmP D n m M wx)) :
    Calls Tryd.prog 9 #[.agg #[.int .i64 D.q, .int .i64 (n : Nat), .slice ao m ca]] w (WsP D n m M w) := by
  obtain ⟨w0, hw0⟩ : ∃ w0, w0 = w.alloc (.cells #[.int .i64 D.q, .int .i64 (n : Nat), .slice ao m ca] 28) := ⟨_, rfl⟩
  have hb0 : Below w.heap.size w w0 := by rw [hw0]; exact (Below.refl _ _).alloc (Nat.le_refl _) _
  have HS := hS w0 hb0
  replace HS : Hid (Calls Tryd.prog 22 #[.agg #[.int .i64 D.q, .int .i64 (n : Nat), .slice ao m ca]] w0 (SmP D n m M w0)) := HS
  refine callsIn_wide.1 (callsIn_of_wp_marks (n := 0) Tryd.func9 rfl trivial ?_ rfl)
  refine wpIn_wide.2 ?_
  simp only [Tryd.ntmps9, List.size_toArray, List.length_cons, List.length_nil, Nat.reduceAdd, Nat.reduceSub, Array.replicate_succ, Array.replicate_zero, List.push_toArray, List.append_toArray, List.nil_append, List.cons_append]
  go_wp2_with fail
  rw [← hw0]
  have HB0 : Hid (Below w.heap.size w w0 ∧ w0.heap.size = w.heap.size + 1 ∧ RB w.heap.size w0) := ⟨hb0, by rw [hw0]; simp, by rw [hw0]; exact RB.new _ _ _ _⟩
  clear hw0 hb0 hS
  refine HS.out.mono ?_
  rintro x w1 ⟨k, R, hred, hb1, hx⟩
  have H1 : Hid (Below w.heap.size w w1 ∧ RB w.heap.size w1 ∧ Red D n m M k R ∧ w0.heap.size ≤ w1.heap.size) := ⟨below_two' HB0.out.1 hb1, HB0.out.2.2.keep hb1, hred, hb1.size⟩
  clear hred hb1
  obtain ⟨⟨x0, c0⟩, ⟨x1, c1⟩, ⟨x2, c2⟩, f0, f1, f2⟩ := H1.out.2.1
  rcases hx with ⟨hfew, ro, rc, hkr, hmv, rfl⟩ | ⟨hmany, rfl⟩
  · obtain ⟨w2, hw2⟩ : ∃ w2, w2 = laid w1 w.heap.size D.q n (.slice ro k rc) := ⟨_, rfl⟩
    have H2 : Hid (CB w.heap.size D.q n (.slice ro k rc) w2 ∧ MV w0.heap.size (.slice ro k rc) k n R w2 ∧ Below w.heap.size w w2) := by
      have := HB0.out.2.1
      rw [hw2]; exact ⟨laid_cb H1.out.2.1 _ _ _, laid_mv hmv (by omega) _ _ _, laid_below H1.out.1 (Nat.le_refl _) _ _ _⟩
    have HKR : Hid (D.q ^ k ≤ 4096 ∧ k ≤ rc ∧ rc ≤ 1000000) := ⟨hfew, hkr⟩
    obtain ⟨e0, e1, e2⟩ := H2.out.1
    rw [hw2] at e0 e1 e2
    unfold laid at e0 e1 e2 hw2
    obtain ⟨n1, hn1e⟩ : ∃ n1, n1 = n + 1 := ⟨_, rfl⟩
    have wn1 : IntKind.i64.wrap ((n : Int) + 1) = (n1 : Int) := wrap_to (by omega) (by omega)
    have HN1 : Hid (n1 = n + 1) := hn1e
    have hn1b : n1 ≤ 65 := by omega
    clear hmv hfew hkr hn1e
    have HW2 : Hid (w2 = ((w1.setCell ⟨w.heap.size, 0, none⟩ (.int .i64 D.q)).setCell ⟨w.heap.size, 1, none⟩ (.int .i64 n)).setCell ⟨w.heap.size, 2, none⟩ (.slice ro k rc)) := hw2
    go_wp2_with (at_make; refine make_int rfl _ _ rfl _ n1 rfl rfl rfl (by omega) ?_; rw [← HW2.out]; intro w3 hown3 hgrow3; have hb3 : Below w2.heap.size w2 w3 := below_grown hgrow3 (Nat.le_refl _) (fun k hk => by cases hk); have hcb3 := H2.out.1.keep hb3; obtain ⟨a0, a1, a2⟩ := hcb3; have hlt3 : w.heap.size < w3.heap.size := cell_lt a0; clear e0 e1 e2 c0 c1 c2 f0 f1 f2)
    obtain ⟨gO, hgO⟩ : ∃ gO, gO = w1.heap.size := ⟨_, rfl⟩
    have hs2 : w2.heap.size = w1.heap.size := by rw [HW2.out]; simp [World.setCell]
    have hrow3 := row_zeros hown3
    rw [hs2, ← hgO] at hrow3
    rw [← hgO]
    obtain ⟨w4, hw4⟩ : ∃ w4, w4 = w3.alloc (.cells #[.slice (some ⟨gO, 0, none⟩) n1 n1] 32) := ⟨_, rfl⟩
    rw [← hw4]
    have hs4 : w4.heap.size = w3.heap.size + 1 := by rw [hw4]; simp
    have hb4 : Below w3.heap.size w3 w4 := by rw [hw4]; exact (Below.refl _ _).alloc (Nat.le_refl _) _
    have hbx4 : w4.cell? ⟨w3.heap.size, 0, none⟩ = some (.slice (some ⟨gO, 0, none⟩) n1 n1) := by rw [hw4]; simp
    have hs3 : w2.heap.size ≤ w3.heap.size := hb3.size
    obtain ⟨w5, hw5⟩ : ∃ w5, w5 = w4.alloc (.cells #[.int .i64 D.q, .int .i64 (n : Nat), .slice ro k rc] 28) := ⟨_, rfl⟩
    have hb5 : Below w4.heap.size w4 w5 := by rw [hw5]; exact (Below.refl _ _).alloc (Nat.le_refl _) _
    have hs5 : w5.heap.size = w4.heap.size + 1 := by rw [hw5]; simp
    have hcb5 : CB w4.heap.size D.q n (.slice ro k rc) w5 := by rw [hw5]; exact CB.new _ _ _ _
    obtain ⟨Gm, mm, hm, hWR2, hGl2, hhl2⟩ := H2.out.2.1.wdr
    have hWR5 : WdR ro n k w0.heap.size Gm mm R hm w5 := fun hk => ⟨(hWR2 hk).1, (((hWR2 hk).2.below hb3).below hb4).below hb5⟩
    have HWR : Hid (WdR ro n k w0.heap.size Gm mm R hm w5 ∧ (0 < k → Gm < gO) ∧ ∀ i, i < k → hm i < gO) := ⟨hWR5, fun hk => by have := hGl2 hk; omega, fun i hi => by have := hhl2 i hi; omega⟩
    clear hWR2 hGl2 hhl2 hWR5
    have hrow5 : Row gO n1 pnil w5 := (hrow3.below hb4 hrow3.lt).below hb5 (by have := hrow3.lt; omega)
    have hbx5 : w5.cell? ⟨w3.heap.size, 0, none⟩ = some (.slice (some ⟨gO, 0, none⟩) n1 n1) := ((bcell hb5).1 _ 0 (cell_lt hbx4)).trans hbx4
    have hbw5 : Below w.heap.size w w5 := below_two' (below_two' (below_two' H2.out.2.2 hb3) hb4) hb5
    refine (words_any D.q n (.slice ro k rc) w4).mono ?_
    rintro e w5' ⟨rfl, he5⟩
    rw [← hw5] at he5
    subst he5
    obtain ⟨cb, hcbe⟩ : ∃ cb, cb = w4.heap.size := ⟨_, rfl⟩
    obtain ⟨bO, hbO⟩ : ∃ bO, bO = w3.heap.size := ⟨_, rfl⟩
    rw [← hcbe] at hcb5 ⊢
    rw [← hbO] at hbx5
    try rw [← hbO]
    have hsz1 := H1.out.2.2.2
    have HO : Hid (w.heap.size < gO ∧ gO < bO ∧ bO < cb ∧ cb < w5'.heap.size) := ⟨by have := HB0.out.2.1; omega, by have := hrow3.lt; omega, by omega, by omega⟩
    have HX : Hid (CB cb D.q n (.slice ro k rc) w5' ∧ Row gO n1 pnil w5' ∧ w5'.cell? ⟨bO, 0, none⟩ = some (.slice (some ⟨gO, 0, none⟩) n1 n1) ∧ Below w.heap.size w w5') := ⟨hcb5, hrow5, hbx5, hbw5⟩
    clear hw5 hw4 hb5 hb4 hbx4 hrow5 hbx5 hbw5 hcb5 hrow3 hs5 hs4 hs3 hs2 hown3 hgrow3 hb3 a0 a1 a2 hlt3 hcbe hbO hgO hsz1 HW2 hw2
    have hFl := fld hD
    have HRel : Hid (∀ i, i < k → El D (R i)) := H1.out.2.2.1.rows.1
    have hWR := HWR.out.1
    have hGl : 0 < k → ¬ Gm = gO := fun hk => by have := HWR.out.2.1 hk; omega
    have hhl : ∀ i, i < k → ¬ hm i = gO := fun i hi => by have := HWR.out.2.2 i hi; omega
    have hseq := words_seq (own := fun x => x = gO) hD HX.out.1 hWR hn1 (by omega) HKR.out.2.1 HKR.out.2.2 (by have := HKR.out.1; omega) HRel.out (fun x e => by have := HO.out; omega) (fun e => by have := HO.out; omega) hGl hhl
    have HQ : Hid (SeqI Tryd.prog 26 #[.pointer (some ⟨cb, 0, none⟩)] (D.q ^ k) (WdE D R n k w5'.heap.size) (fun x => x = gO) w5') := hseq
    clear hseq hWR hGl hhl
    go_wp2
    refine range_law (gf := 26) (lb := #[.pointer (some ⟨cb, 0, none⟩)]) rfl (enters_of Tryd.func26 (by kernel_rfl) rfl) HQ.out (fun x e => by have := HO.out; omega) (fun r args X h => by obtain ⟨z, g, c, _, _, ha, _⟩ := h; rw [ha]; rfl)
      (fun r X => Row gO n1 (wcn D R n k r) X ∧ X.cell? ⟨bO, 0, none⟩ = some (.slice (some ⟨gO, 0, none⟩) n1 n1) ∧ Below w.heap.size w X ∧ w5'.heap.size ≤ X.heap.size) ?stable (fun r args X Y h hg => h.grc hg) ?start
      (fun args => { tmps := #[.agg #[.int .i64 D.q, .int .i64 (n : Nat), .slice ao m ca], .pointer (some ⟨w.heap.size, 0, none⟩), .slice none 0 0, .int .i64 0, .int .i64 0, .pointer (some ⟨bO, 0, none⟩), args.getD 0 undef, .tuple #[.agg #[.int .i64 D.q, .int .i64 (n : Nat), .slice ro k rc], .int .i64 0], .agg #[.int .i64 D.q, .int .i64 (n : Nat), .slice ao m ca], .tuple #[.agg #[.int .i64 D.q, .int .i64 (n : Nat), .slice ro k rc], .int .i64 0], .agg #[.int .i64 D.q, .int .i64 (n : Nat), .slice ro k rc], .int .i64 0, .int .i64 0, .bool false, undef, .pointer (some ⟨w.heap.size, 1, none⟩), .int .i64 (n : Nat), .int .i64 (n1 : Nat), .slice (some ⟨gO, 0, none⟩) n1 n1, .agg #[.int .i64 D.q, .int .i64 (n : Nat), .slice ro k rc], .func (.func 26) #[] #[.pointer (some ⟨cb, 0, none⟩)], args.getD 0 undef, undef, undef, undef, undef, undef, undef, undef, undef], defers := [] })
      ?assign ?body ?done
    case stable =>
      rintro r X Y ⟨h1, h2, h3, h4⟩ hg
      have hbO : bO < w5'.heap.size := by have := HO.out; omega
      refine ⟨h1.grc hg, ?_, ?_, by have := hg.size; omega⟩
      · have e := hg.same bO (by omega) (Or.inl hbO)
        unfold World.cell? at h2 ⊢
        rw [e]; exact h2
      · exact h3.trans ⟨hg.os, hg.tape, hg.output, hg.size, fun i hi => hg.same i (by have := h3.size; omega) (Or.inl (by have := HO.out; omega))⟩
    case start => exact ⟨HX.out.2.1, HX.out.2.2.1, HX.out.2.2.2, Nat.le_refl _⟩
    case assign =>
      intro l r args X K he hK
      obtain ⟨g, c, ha, _⟩ := he.word hFl
      subst ha
      gi_wp2
      exact hK
    case body =>
      rintro l r args X hr ⟨h1, h2, h3, h4⟩ he
      obtain ⟨g, c, ha, hc1, hc2, hrow, hge⟩ := he.word hFl
      subst ha
      obtain ⟨t, ht⟩ : ∃ t, t = wgr D R n k r := ⟨_, rfl⟩
      have htn : t ≤ n := by rw [ht]; exact ct_most _ _
      have ht1 : t < n1 := by have := HN1.out; omega
      have hti : (t : Int) < (n1 : Int) := by omega
      have hti0 : (0 : Int) ≤ (t : Int) := by omega
      have hcell := h1.cell t ht1
      have hfree := h1.free t
      obtain ⟨y, hy⟩ : ∃ y, y = wcn D R n k r t := ⟨_, rfl⟩
      rw [← hy] at hcell
      have hyr : y ≤ 4096 := by
        have h5 := wcn_le D R n k r t
        have h6 := HKR.out.1
        omega
      obtain ⟨y1, hy1⟩ : ∃ y1, y1 = y + 1 := ⟨_, rfl⟩
      have wy : IntKind.i64.wrap ((y : Int) + 1) = (y1 : Int) := wrap_to (by omega) (by omega)
      have HWt : Hid (∀ j, Calls Tryd.prog 23 #[.slice (some ⟨g, 0, none⟩) n c] (X.drewN j) fun e w' => e = .returned (.int .i64 (t : Nat)) ∧ w' = X.drewN j) := fun j => by
        rw [ht]; exact weightS_any (a := fun i => ((wdr D R k r i : Nat) : Int)) ((hrow.drewN j).sl (Nat.le_refl _)).z (by omega)
      have HS : Hid (∀ j, Row gO n1 (wcn D R n k (r + 1)) ((X.drewN j).setCell ⟨gO, t, none⟩ (.int .i64 (y1 : Nat)))) := fun j => (h1.drewN j).store t y1 fun i _ => by
        show wcn D R n k r i + (if i = wgr D R n k r then 1 else 0) = _
        rw [← ht]
        by_cases e : i = t
        · rw [if_pos e, if_pos e, e, ← hy, hy1]
        · rw [if_neg e, if_neg e]; rfl
      have HI : Hid (X.cell? ⟨bO, 0, none⟩ = some (.slice (some ⟨gO, 0, none⟩) n1 n1) ∧ Below w.heap.size w X ∧ w5'.heap.size ≤ X.heap.size) := ⟨h2, h3, h4⟩
      clear ht hy hy1 h1 hrow he h3 h4
      gi_wp2
      refine quiet_round 7 (by rintro ⟨a, w, h⟩; exact absurd h.1 (by intro h; cases h)) (by kernel_rfl) (by kernel_rfl) (by kernel_rfl) ?_
      simp only [List.take_succ_cons, List.take_zero, List.drop_succ_cons, List.drop_zero]
      repeat (go_big_quiet_step ((go_at_call 23; exact Calls.quiet_of_same (HWt.out _))))
      refine wpQuiet_nil ?_
      intro _ hw'
      obtain ⟨nq, hw''⟩ := hw'
      subst hw''
      go_wp2
      have hbg : bO ≠ gO := by have := HO.out; omega
      refine ⟨⟨rfl, rfl, rfl, by simp [World.setCell], fun x _ hx => Below.heap_setCell _ _ _ _ hx⟩, HS.out nq, ?_, ?_, HI.out.2.2⟩
      · have e := Below.heap_setCell (X.drewN nq) ⟨gO, t, none⟩ (.int .i64 (y1 : Nat)) bO hbg
        have h5 := HI.out.1
        unfold World.cell? at h5 ⊢
        rw [e]; exact h5
      · have h6 : Below w.heap.size w (X.drewN nq) := ⟨HI.out.2.1.os, HI.out.2.1.tape, HI.out.2.1.output, HI.out.2.1.size, HI.out.2.1.block⟩
        exact h6.setCell (by have := HO.out; show w.heap.size ≤ gO; omega) _
    case done =>
      rintro De We hDe ⟨h1, h2, h3, h4⟩ hK
      have HE : Hid (Row gO n1 (wcn D R n k (D.q ^ k)) (We.putObj De (.deferred none)) ∧ Below w.heap.size w (We.putObj De (.deferred none))) := by
        have hO := HO.out
        refine ⟨h1.other (World.putObj_heap_other (by omega)), ?_⟩
        exact h3.grown (grownBy_putObj' _ _ _) h3.size (fun k hk => by cases hk; omega)
      go_wp2
      refine ⟨by simp, .inl ⟨_, _, rfl, run_takeDeferred hK, ?_⟩⟩
      refine ⟨.tuple #[.slice (some ⟨gO, 0, none⟩) n1 n1, .int .i64 0], by simp [results, Tryd.results9, go_sem], ?_⟩
      have hn1e := HN1.out
      refine ⟨k, R, H1.out.2.2.1, HE.out.2, Or.inl ⟨HKR.out.1, gO, by have := HO.out; omega, ?_, ?_⟩⟩
      · rw [← hn1e]; exact HE.out.1
      · rw [← hn1e]
  · have HM : Hid (¬ D.q ^ k ≤ 4096) := hmany
    obtain ⟨w2, hw2⟩ : ∃ w2, w2 = laid w1 w.heap.size 0 0 (.slice none 0 0) := ⟨_, rfl⟩
    have HB : Hid (Below w.heap.size w w2) := by rw [hw2]; exact laid_below H1.out.1 (Nat.le_refl _) _ _ _
    unfold laid at hw2
    go_wp2
    rw [← hw2]
    refine ⟨.tuple #[.slice none 0 0, .int .i64 4], by simp [results, Tryd.results9, go_sem], ?_⟩
    exact ⟨k, R, H1.out.2.2.1, HB.out, Or.inr ⟨HM.out, rfl⟩⟩
end Go.Proofs.YtpgaakjldlcejaaDoor

/- code.Weights where there is none; code.Distance. -/
namespace Go.Proofs.YtpgaakjldlcejaaDoor
open Go.RowKit Go.Sort Go.Shelf

end Go.Proofs.YtpgaakjldlcejaaDoor

/- code.Nearest: the first word that differs least. -/
namespace Go.Proofs.YtpgaakjldlcejaaDoor
open Go.RowKit Go.Sort Go.Shelf
attribute [local go_sem] Oper.semAt_some

end Go.Proofs.YtpgaakjldlcejaaDoor

/- All words of a code: the walk of the reference's Words. -/
namespace Go.Proofs.YtpgaakjldlcejaaDoor
open Go.RowKit Go.Sort

end Go.Proofs.YtpgaakjldlcejaaDoor

/- The reference's Weighed and Least. -/
namespace Go.Proofs.YtpgaakjldlcejaaDoor
open Go.RowKit Go.Sort

end Go.Proofs.YtpgaakjldlcejaaDoor

/- Plain mathematics: through values at different places goes just one short polynomial, and equations of powers are met by it alone. No Go text here. -/
namespace Go.Proofs.YtpgaakjldlcejaaDoor
open Go.RowKit Go.Sort

end Go.Proofs.YtpgaakjldlcejaaDoor

/- Plain mathematics: sums over a field's elements, and over all words. No Go text here. -/
namespace Go.Proofs.YtpgaakjldlcejaaDoor
open Go.RowKit Go.Sort

end Go.Proofs.YtpgaakjldlcejaaDoor

/- Plain mathematics: MacWilliams' identity, by sums over all words. No Go text here. -/
namespace Go.Proofs.YtpgaakjldlcejaaDoor
open Go.RowKit Go.Sort

/-- A word's weight. -/
def wtn (u : Nat → Nat) (n : Nat) : Nat := ct (fun i => !decide (((u i : Nat) : Int) = 0)) n
end Go.Proofs.YtpgaakjldlcejaaDoor

/- Plain mathematics: the weights of a code, gone through by its messages, and MacWilliams' identity for them. No Go text here. -/
namespace Go.Proofs.YtpgaakjldlcejaaDoor
open Go.RowKit Go.Sort

end Go.Proofs.YtpgaakjldlcejaaDoor

/- A code's weights and those of its dual: what weights.Dual makes of them. -/
namespace Go.Proofs.YtpgaakjldlcejaaDoor
open Go.RowKit Go.Sort

/-- No more rows than there were. -/
theorem Red.few {D : FD} (hD : D ∈ fieldsL) {n m k : Nat} {M R : Nat → Nat → Nat} (h : Red D n m M k R) (he : ∀ i, i < m → El D (M i) ∧ Bd n (M i)) : k ≤ m := by
  obtain ⟨k', R', p', hk, hr, hs⟩ := rre_ex hD (fun i hi => (he i hi).1) (fun i hi => (he i hi).2)
  have := (Red.uniq (fld hD) h ⟨p', hr, hs⟩ (fun _ => Iff.rfl)).1
  omega
end Go.Proofs.YtpgaakjldlcejaaDoor

/- TopMacWilliams: the walk of the statement, whatever raw numbers it is given. -/
namespace Go.Proofs.YtpgaakjldlcejaaDoor
open Go.RowKit Go.Sort

theorem Cod.wts {D : FD} (hD : D ∈ fieldsL) {n m : Nat} (ca : Nat) {ao : Option Addr} {M : Nat → Nat → Nat} {w : World} (h : Cod D n ao m M w) :
    Calls Tryd.prog 9 #[.agg #[.int .i64 D.q, .int .i64 (n : Nat), .slice ao m ca]] w (WsP D n m M w) := by
  have hr := h.rows (fld hD)
  have hc := h.chk hD ca
  obtain ⟨A, N, C, Z, h1, h2⟩ := h
  refine (weights_ok hD hr.2.1.1 hr.2.1.2 (M := mzc N Z) (fun wx hx => small_ok hD (h1.below hx) (fun wy hy => hc wy (bel_up' hx hy)))).mono ?_
  rintro x w' ⟨k, R, hred, hrest⟩
  exact ⟨k, R, hred.of_eq h2, hrest⟩
end Go.Proofs.YtpgaakjldlcejaaDoor

/- Plain mathematics: the bounds of Singleton, Delsarte and Plotkin for a code whose words lie apart. No Go text here. -/
namespace Go.Proofs.YtpgaakjldlcejaaDoor
open Go.RowKit Go.Sort

end Go.Proofs.YtpgaakjldlcejaaDoor

/- Plain mathematics: Griesmer's bound (words of a code where others are nought). No Go text here. -/
namespace Go.Proofs.YtpgaakjldlcejaaDoor
open Go.RowKit Go.Sort

end Go.Proofs.YtpgaakjldlcejaaDoor

/- Plain mathematics: Hamming's bound (balls around a code's words), and Varshamov's number against it. No Go text here. -/
namespace Go.Proofs.YtpgaakjldlcejaaDoor
open Go.RowKit Go.Sort

end Go.Proofs.YtpgaakjldlcejaaDoor
