/- Texts of ours, one behind the other: KL4 KL5 KL6. -/
import Derived.Test.YtpgaakjldlcejaaDoorZKL3
import Derived.Test.YtpgaakjldlcejaaDoorZKD10
import Derived.Test.YtpgaakjldlcejaaDoorZI1
import Derived.Test.YtpgaakjldlcejaaDoorZW14
import Derived.Test.YtpgaakjldlcejaaDoorZI7
import Derived.Test.YtpgaakjldlcejaaDoorZS4
/- Ranges over span.Words: the iterator's contract. -/
namespace Go.Proofs.YtpgaakjldlcejaaDoor
open Go.RowKit Go.Sort

/-- The rows of a code that is ranged over: none, or k of n elements in blocks of their own. -/
def WdR (ro : Option Addr) (n K B G mm : Nat) (R : Nat → Nat → Nat) (h : Nat → Nat) (w : World) : Prop := 0 < K → (ro = some ⟨G, 0, none⟩ ∧ Mx B G mm K n R h w)

theorem make_run (n : Nat) (hn : n ≤ 1000000) (w : World) : ∃ w', (Instr.makeSlice 32 (.int .i64 (n : Nat)) (.int .i64 (n : Nat))).run Tryd.prog w = .ok (.slice (some ⟨w.heap.size, 0, none⟩) n n) w' ∧ Row w.heap.size n pnil w' ∧ Below w.heap.size w w' := by
  obtain ⟨i0, hi, hz0, hz1, hz2⟩ := info_parts Tryd.infoInt
  refine ⟨_, run_make_row (P := Tryd.prog) 32 3 i0 (.int .i64 0) Tryd.underlying32 hi hz0 hz1 rfl .i64 .i64 n (by rw [hz2]; omega) (by omega) w, ⟨n, fun _ => .int .i64 0, ⟨_, two_new _, ?_, fun o ho => ?_⟩, Nat.le_refl _, fun _ _ => rfl⟩, (Below.refl _ _).alloc (Nat.le_refl _) _⟩
  · simp [madeCells]
  · simp [madeCells, ho, Nat.mod_one]
theorem below_two' {A a b c : World} (h : Below A.heap.size A a) (h2 : Below a.heap.size a b) (hc : b = c := by rfl) : Below A.heap.size A c := by
  subst hc
  exact h.trans ⟨h2.os, h2.tape, h2.output, h2.size, fun k hk => h2.block k (by have := h.size; omega)⟩
set_option maxHeartbeats 16000000 in
set_option maxRecDepth 100000 in
theorem words_seq {D : FD} (hD : D ∈ fieldsL) {ro : Option Addr} {n K rc B G mm cb : Nat} {R : Nat → Nat → Nat} {h : Nat → Nat} {own : Nat → Prop} {w : World}
    (hcb : CB cb D.q n (.slice ro K rc) w) (hW : WdR ro n K B G mm R h w) (hn1 : 1 ≤ n) (hn : n ≤ 1000) (hK : K ≤ rc) (hrc : rc ≤ 1000000) (hq : D.q ^ K ≤ 1000000) (hR : ∀ i, i < K → El D (R i))
    (hoB : ∀ k, own k → k < w.heap.size) (hoc : ¬ own cb) (hoG : 0 < K → ¬ own G) (hoh : ∀ i, i < K → ¬ own (h i)) :
    SeqI Tryd.prog 26 #[.pointer (some ⟨cb, 0, none⟩)] (D.q ^ K) (WdE D R n K w.heap.size) own w := by
  intro l J W hbW hl hlW hJ hY hj0
  refine callsIn_wide.2 ?_
  have hcW := hcb.keep hbW
  have HF : Hid (D ∈ fieldsL ∧ WdR ro n K B G mm R h W ∧ (∀ i, i < K → El D (R i)) ∧ (∀ k, own k → k < w.heap.size) ∧ (0 < K → ¬ own G) ∧ (∀ i, i < K → ¬ own (h i)) ∧ J 0 W ∧ w.heap.size ≤ W.heap.size) := ⟨hD, fun hk => ⟨(hW hk).1, (hW hk).2.below hbW⟩, hR, hoB, hoG, hoh, hj0, hbW.size⟩
  have HJ : Hid ((∀ r X Y, J r X → Below X.heap.size X Y → J r Y) ∧ ∀ r args X, r < D.q ^ K → J r X → WdE D R n K w.heap.size r args X → YieldAt Fence.wide 0 Tryd.prog l args X fun e Y => e = .returned (.bool true) ∧ J (r + 1) Y ∧ KpO (fun k => own k ∨ k = l) X Y) := ⟨hJ, hY⟩
  have HGo : Hid (∀ F T g wx gw, FAt F T D g wx → W.heap.size ≤ F → W.heap.size ≤ T → Row gw n pnil wx → W.heap.size ≤ gw → Below W.heap.size W wx → Calls Tryd.prog 28 #[.pointer (some ⟨F, 0, none⟩), .slice (some ⟨gw, 0, none⟩) n n, .slice ro K rc, .func (.yield l) #[] #[]] wx fun e Y => e = .returned (.bool true) ∧ J (D.q ^ K) Y ∧ KpO (fun k => own k ∨ k = l) wx Y) := fun F T g wx gw hat hFw hTw hrow hgw hx => by
    have hs := hx.size
    have hsW := HF.out.2.2.2.2.2.2.2
    have hol : ∀ k, W.heap.size ≤ k → ¬ (own k ∨ k = l) := fun k hk e => by
      rcases e with e | e
      · have := HF.out.2.2.2.1 k e; omega
      · omega
    refine (gt_any (G := G) (mc := rc) (mm := mm) (B := B) (B0 := w.heap.size) (h := h) (g := g) (own := fun k => own k ∨ k = l) (J := J) hD hn1 hn hK hrc hq hR (hol F hFw) (hol T hTw) (fun hk e => ?_) (fun i hi e => ?_) hl (fun k e => ?_) HJ.out.1 HJ.out.2 K 0 (fun _ => 0) (.slice ro K rc) gw n wx (Nat.zero_add K) (fun i hi => absurd hi (by omega)) ?_ hrow (by omega) (by omega) (by omega) (by omega) hat (fun hk => ((HF.out.2.1 hk).2).below hx) (Nat.le_refl _) (by omega) ?_).mono ?_
    · rcases e with e | e
      · exact HF.out.2.2.2.2.1 hk e
      · have := (hW hk).2.ltG; omega
    · rcases e with e | e
      · exact HF.out.2.2.2.2.2.1 i hi e
      · have := (hW (by omega)).2.lt i hi; omega
    · rcases e with e | e
      · exact Or.inl (HF.out.2.2.2.1 k e)
      · exact Or.inr e
    · by_cases hk : 0 < K
      · refine Or.inl ⟨hk, ?_⟩
        rw [(HF.out.2.1 hk).1]; rfl
      · have hk0 : K = 0 := by omega
        exact Or.inr ⟨hk0.symm, ro, rc, by rw [hk0]⟩
    · show J (0 * D.q ^ K) wx
      rw [Nat.zero_mul]
      exact HJ.out.1 0 W wx HF.out.2.2.2.2.2.2.1 hx
    · rintro e Y ⟨rfl, h1, hk⟩
      have h2 : J ((0 + 1) * D.q ^ K) Y := h1
      rw [Nat.zero_add, Nat.one_mul] at h2
      exact ⟨rfl, h2, hk⟩
  have hzE : ((0 : Int) == 0) = true := rfl
  have HNo : Hid (¬ (own cb ∨ cb = l)) := fun e => by
    rcases e with e | e
    · exact hoc e
    · have h5 : cb < w.heap.size := cell_lt hcb.c0
      omega
  clear hD hcb hW hR hoB hoc hoG hoh hJ hY hj0 hq hK hrc hbW hl hlW
  obtain ⟨c0, c1, c2⟩ := hcW
  have HNw : Hid (Calls Tryd.prog 27 #[.int .i64 D.q] W fun e w' => ∃ F T g, e = .returned (.tuple #[.pointer (some ⟨F, 0, none⟩), .int .i64 0]) ∧ FAt F T D g w' ∧ W.heap.size ≤ F ∧ W.heap.size ≤ T ∧ Below W.heap.size W w') := new_any HF.out.1 W
  have HCc : Hid (∀ wx, Below W.heap.size W wx → wx.cell? ⟨cb, 1, none⟩ = some (.int .i64 (n : Nat)) ∧ wx.cell? ⟨cb, 2, none⟩ = some (.slice ro K rc)) := fun wx hx => ⟨((bcell hx).1 cb 1 (cell_lt c1)).trans c1, ((bcell hx).1 cb 2 (cell_lt c2)).trans c2⟩
  have HCk : Hid (∀ wx Y, Below W.heap.size W wx → KpO (fun k => own k ∨ k = l) wx Y → Y.cell? ⟨cb, 1, none⟩ = some (.int .i64 (n : Nat)) ∧ Y.cell? ⟨cb, 2, none⟩ = some (.slice ro K rc)) := fun wx Y hx hk => by
    have h := HCc.out wx hx
    have e := hk.same cb (cell_lt h.1) HNo.out
    unfold World.cell? at h ⊢
    rw [e]; exact h
  show Calls Tryd.prog 26 #[.func (.yield l) #[] #[], .pointer (some ⟨cb, 0, none⟩)] W _
  go_enter Tryd.func26, Tryd.ntmps26
  go_wp2_with fail
  refine HNw.out.mono ?_
  rintro e w1 ⟨F, T, g, rfl, hat, hF1, hT1, hb1⟩
  have HA : Hid (FAt F T D g w1 ∧ W.heap.size ≤ F ∧ W.heap.size ≤ T ∧ Below W.heap.size W w1) := ⟨hat, hF1, hT1, hb1⟩
  have hbc : Below W.heap.size W w1 := hb1
  have hcc := HCc.out _ hb1
  clear hat hF1 hT1 hb1
  go_wp2
  obtain ⟨w4, hmk, hr4, hb4⟩ := make_run n (by omega) w1.drew
  have hbc4 : Below W.heap.size W w4 := below_two' hbc.drew hb4
  have hcc4 := HCc.out _ hbc4
  have hat4 : FAt F T D g w4 := (show FAt F T D g w1.drew from HA.out.1.drewN 1).below hb4 HA.out.1.ltF HA.out.1.ltT
  have HX : Hid (FAt F T D g w4 ∧ Row w1.heap.size n pnil w4 ∧ Below W.heap.size W w4) := ⟨hat4, hr4, hbc4⟩
  clear hat4 hr4 hb4
  refine wp_region_noPanic ?_
  go_region_held3 (fun w' => w'.cell? ⟨cb, 1, none⟩ = some (.int .i64 (n : Nat)) ∧ w'.cell? ⟨cb, 2, none⟩ = some (.slice ro K rc)) (first | go_keep | exact HCk.out _ _ HX.out.2.2 hk5 | exact hcc4 | exact hcc | exact HCc.out _ (by first | exact hbc4 | exact hbc | exact hbc.drew))
    (first
      | (go_at_call 28; refine (HGo.out F T g _ _ HX.out.1 HA.out.2.1 HA.out.2.2.1 HX.out.2.1 HA.out.2.2.2.size HX.out.2.2).mono ?_; rintro e w5 ⟨rfl, hj5, hk5⟩)
      | fail)
  refine NoPanic.normal ?_
  refine bodyPost_end (results_none rfl _ _ _) rfl ?_
  exact ⟨⟨_, rfl⟩, hj5⟩
end Go.Proofs.YtpgaakjldlcejaaDoor

/- Codes: those of few words (code.small). -/
namespace Go.Proofs.YtpgaakjldlcejaaDoor
open Go.RowKit Go.Sort

theorem laid_rb {b b' : Nat} {w : World} (h : RB b' w) (hne : b' ≠ b) (q n : Int) (v : Value) : RB b' (laid w b q n v) := by
  have e := laid_heap w b q n v hne
  have ec : ∀ o, (laid w b q n v).cell? ⟨b', o, none⟩ = w.cell? ⟨b', o, none⟩ := fun o => by simp [World.cell?, e]
  have ef : ∀ o, (laid w b q n v).frozen? ⟨b', o, none⟩ = w.frozen? ⟨b', o, none⟩ := fun o => World.frozen?_of_block e
  exact ⟨by rw [ec]; exact h.c0, by rw [ec]; exact h.c1, by rw [ec]; exact h.c2, by rw [ef]; exact h.f0, by rw [ef]; exact h.f1, by rw [ef]; exact h.f2⟩
/-- What small tells of a code that may be. -/
def SmP (D : FD) (n m : Nat) (M : Nat → Nat → Nat) (w : World) (x : Ending) (w' : World) : Prop :=
  ∃ k R, Red D n m M k R ∧ Below w.heap.size w w' ∧ ((D.q ^ k ≤ 4096 ∧ ∃ ro rc, (k ≤ rc ∧ rc ≤ 1000000) ∧ MV w.heap.size (.slice ro k rc) k n R w' ∧ x = .returned (.tuple #[.agg #[.int .i64 D.q, .int .i64 (n : Nat), .slice ro k rc], .int .i64 0])) ∨
    (¬ D.q ^ k ≤ 4096 ∧ x = .returned (.tuple #[.agg #[.int .i64 0, .int .i64 0, .slice none 0 0], .int .i64 4])))
set_option maxHeartbeats 8000000 in
set_option maxRecDepth 100000 in
theorem small_ok {D : FD} (hD : D ∈ fieldsL) {ao : Option Addr} {m n ca : Nat} {A : Nat → Option Addr} {N C : Nat → Nat} {Z : Nat → Nat → Int} {w : World} (ha : CdZ D ao m n A N C Z w)
    (hC : ∀ wx, Below w.heap.size w wx → Calls Tryd.prog 24 #[.agg #[.int .i64 D.q, .int .i64 (n : Nat), .slice ao m ca]] wx fun x w' => x = .returned (.int .i64 0) ∧ Below wx.heap.size wx w') :
    Calls Tryd.prog 22 #[.agg #[.int .i64 D.q, .int .i64 (n : Nat), .slice ao m ca]] w (SmP D n m (mzc N Z) w) := by
  obtain ⟨w0, hw0⟩ : ∃ w0, w0 = (w.alloc (.cells #[.int .i64 D.q, .int .i64 (n : Nat), .slice ao m ca] 28)).alloc (.cells #[.int .i64 0, .int .i64 0, .slice none 0 0] 28) := ⟨_, rfl⟩
  have HW : Hid (Below w.heap.size w w0 ∧ RB w.heap.size w0 ∧ RB (w.heap.size + 1) w0 ∧ w0.heap.size = w.heap.size + 2) := by
    obtain ⟨h1, h2, h3, h4⟩ := two_boxes D.q n 0 0 (.slice ao m ca) (.slice none 0 0) w
    have h5 := RBt.new #[.int .i64 D.q, .int .i64 n, .slice ao m ca] w
    have h6 := RBt.new #[.int .i64 0, .int .i64 0, .slice none 0 0] (w.alloc (.cells #[.int .i64 D.q, .int .i64 n, .slice ao m ca] 28))
    rw [show (w.alloc (.cells #[.int .i64 D.q, .int .i64 n, .slice ao m ca] 28)).heap.size = w.heap.size + 1 by simp] at h6
    have h7 : RBt w.heap.size w0 := by
      obtain ⟨cs, hcs⟩ := h5
      exact ⟨cs, by rw [hw0, Below.heap_alloc _ _ _ (by simp)]; exact hcs⟩
    rw [hw0] at h7 ⊢
    exact ⟨h1, RB.of h2 h7, RB.of h3 h6, by simp⟩
  have HA : Hid (D ∈ fieldsL ∧ CdZ D ao m n A N C Z w0) := ⟨hD, ha.below HW.out.1⟩
  have HC : Hid _ := hC
  have hq2 := (fld hD).q2
  have hq64 := (fld hD).q64
  clear hD ha hC
  go_enter Tryd.func22, Tryd.ntmps22
  go_wp2_with fail
  rw [← hw0]
  clear hw0
  refine (cMakeC_ok HA.out.1 HA.out.2 (fun wx hx => HC.out wx (HW.out.1.trans (hx.mono HW.out.1.size)))).mono ?_
  rintro x w1 ⟨k, R, ro, rc, rfl, hkr, hmv, hred, hb1⟩
  have H1 : Hid (Below w.heap.size w w1 ∧ RB w.heap.size w1 ∧ RB (w.heap.size + 1) w1 ∧ MV w0.heap.size (.slice ro k rc) k n R w1 ∧ Red D n m (mzc N Z) k R) := ⟨bel_up' HW.out.1 hb1, HW.out.2.1.keep hb1, HW.out.2.2.1.keep hb1, hmv, hred⟩
  have HKR : Hid (k ≤ rc ∧ rc ≤ 1000000) := hkr
  have hk6 : k ≤ 1000000 := by omega
  clear hb1 hmv hred hkr
  obtain ⟨⟨x0, c0⟩, ⟨x1, c1⟩, ⟨x2, c2⟩, f0, f1, f2⟩ := H1.out.2.1
  obtain ⟨w2, hw2⟩ : ∃ w2, w2 = laid w1 w.heap.size D.q n (.slice ro k rc) := ⟨_, rfl⟩
  have H2 : Hid (CB w.heap.size D.q n (.slice ro k rc) w2 ∧ RB (w.heap.size + 1) w2 ∧ MV w0.heap.size (.slice ro k rc) k n R w2 ∧ Below w.heap.size w w2) := by
    have := HW.out.2.2.2
    rw [hw2]; exact ⟨laid_cb H1.out.2.1 _ _ _, laid_rb H1.out.2.2.1 (by omega) _ _ _, laid_mv H1.out.2.2.2.1 (by omega) _ _ _, laid_below H1.out.1 (Nat.le_refl _) _ _ _⟩
  have hcb2 := H2.out.1
  obtain ⟨e0, e1, e2⟩ := hcb2
  rw [hw2] at e0 e1 e2
  unfold laid at e0 e1 e2 hw2
  go_wp2
  rw [← hw2]
  clear hw2 e0 e1 e2 c0 c1 c2 f0 f1 f2
  go_loopw [5, 18] (fun vm vi wr => ∃ (i x : Nat), i ≤ k ∧ x ≤ 4096 ∧ vm = .int .i64 (x : Nat) ∧ vi = .int .i64 (i : Nat) ∧ Hid (x = D.q ^ i ∧ wr = w2)) (fun _ vi _ => k - (intOf vi).toNat)
  case atStart => exact ⟨0, 1, by omega, by omega, rfl, rfl, rfl, rfl⟩
  case round =>
    obtain ⟨i, x, hi, hx, rfl, rfl, HG⟩ := hrel
    rename World => wr
    have hwr : wr = w2 := HG.out.2
    subst hwr
    have hcb := H2.out.1
    obtain ⟨a0, a1, a2⟩ := hcb
    by_cases hlt : i < k
    · have hib : (i : Int) < (k : Int) := by omega
      obtain ⟨y, hy⟩ : ∃ y, y = x * D.q := ⟨_, rfl⟩
      have hyb : y ≤ 262144 := by rw [hy]; exact Nat.le_trans (Nat.mul_le_mul hx hq64) (by omega)
      have wy : IntKind.i64.wrap ((x : Int) * (D.q : Int)) = (y : Int) := wrap_to (by rw [hy]; simp) (by omega)
      have HY : Hid (y = D.q ^ (i + 1)) := by show y = D.q ^ (i + 1); rw [hy, HG.out.1, Nat.pow_succ]
      clear hy
      by_cases hbig : 4096 < y
      · have hz : (4096 : Int) < (y : Int) := by omega
        have HB : Hid (¬ D.q ^ k ≤ 4096) := fun h => by
          have h1 : D.q ^ (i + 1) ≤ D.q ^ k := Nat.pow_le_pow_right (by omega) (by omega)
          have := HY.out; omega
        clear hbig
        obtain ⟨⟨y0, d0⟩, ⟨y1, d1⟩, ⟨y2, d2⟩, g0, g1, g2⟩ := H2.out.2.1
        go_wp2
        obtain ⟨w3, hw3⟩ : ∃ w3, w3 = laid wr (w.heap.size + 1) 0 0 (.slice none 0 0) := ⟨_, rfl⟩
        have H3 : Hid (CB (w.heap.size + 1) 0 0 (.slice none 0 0) w3 ∧ Below w.heap.size w w3) := by
          rw [hw3]; exact ⟨laid_cb H2.out.2.1 _ _ _, laid_below H2.out.2.2.2 (by omega) _ _ _⟩
        unfold laid at hw3
        rw [← hw3]
        clear hw3 d0 d1 d2 g0 g1 g2 a0 a1 a2
        obtain ⟨c0, c1, c2⟩ := H3.out.1
        refine bodyPost_ret (v := .tuple #[.agg #[.int .i64 0, .int .i64 0, .slice none 0 0], .int .i64 4]) (by simp [results, Tryd.results22, go_sem, c0, c1, c2]) rfl ?_
        exact ⟨k, R, H1.out.2.2.2.2, H3.out.2, Or.inr ⟨HB.out, rfl⟩⟩
      · have hz : ¬ (4096 : Int) < (y : Int) := by omega
        have hyl : y ≤ 4096 := by omega
        clear hbig
        go_wp2
        go_roundw
        case rel => exact ⟨i + 1, y, by omega, hyl, rfl, by go_num, HY.out, by first | rfl | trivial⟩
        case measure => simp [intOf]; omega
    · have hib : ¬ (i : Int) < (k : Int) := by omega
      have hie : i = k := by omega
      have HB : Hid (D.q ^ k ≤ 4096) := by show D.q ^ k ≤ 4096; rw [← hie, ← HG.out.1]; exact hx
      clear hie
      obtain ⟨⟨y0, d0⟩, ⟨y1, d1⟩, ⟨y2, d2⟩, g0, g1, g2⟩ := H2.out.2.1
      go_wp2
      obtain ⟨w3, hw3⟩ : ∃ w3, w3 = laid wr (w.heap.size + 1) D.q n (.slice ro k rc) := ⟨_, rfl⟩
      have H3 : Hid (CB (w.heap.size + 1) D.q n (.slice ro k rc) w3 ∧ Below w.heap.size w w3 ∧ MV w.heap.size (.slice ro k rc) k n R w3) := by
        have := HW.out.2.2.2
        rw [hw3]; exact ⟨laid_cb H2.out.2.1 _ _ _, laid_below H2.out.2.2.2 (by omega) _ _ _, (laid_mv H2.out.2.2.1 (by omega) _ _ _).mono (by omega)⟩
      unfold laid at hw3
      rw [← hw3]
      clear hw3 d0 d1 d2 g0 g1 g2 a0 a1 a2
      obtain ⟨c0, c1, c2⟩ := H3.out.1
      refine bodyPost_ret (v := .tuple #[.agg #[.int .i64 D.q, .int .i64 (n : Nat), .slice ro k rc], .int .i64 0]) (by simp [results, Tryd.results22, go_sem, c0, c1, c2]) rfl ?_
      exact ⟨k, R, H1.out.2.2.2.2, H3.out.2.1, Or.inl ⟨HB.out, ro, rc, HKR.out, H3.out.2.2, rfl⟩⟩
end Go.Proofs.YtpgaakjldlcejaaDoor

/- The words of a code by their numbers; how many have a weight. -/
namespace Go.Proofs.YtpgaakjldlcejaaDoor
open Go.RowKit Go.Sort

set_option maxHeartbeats 4000000 in
theorem words_any (q n : Int) (v : Value) (w : World) :
    Calls Tryd.prog 11 #[.agg #[.int .i64 q, .int .i64 n, v]] w fun e w' => e = .returned (.func (.func 26) #[] #[.pointer (some ⟨w.heap.size, 0, none⟩)]) ∧ w' = w.alloc (.cells #[.int .i64 q, .int .i64 n, v] 28) := by
  go_enter Tryd.func11, Tryd.ntmps11
  go_wp2
  go_ret
  exact ⟨rfl, rfl⟩
set_option maxHeartbeats 4000000 in
set_option maxRecDepth 100000 in
theorem weightS_any {ao : Option Addr} {n ca : Nat} {a : Nat → Int} {w : World} (hA : SlZ ao n a w) (hn : n ≤ 1000) :
    Calls Tryd.prog 23 #[.slice ao n ca] w fun e w' => e = .returned (.int .i64 (ct (fun i => !decide (a i = 0)) n : Nat)) ∧ w' = w := by
  have HF : Hid (SlZ ao n a w) := hA
  clear hA
  go_enter Tryd.func23, Tryd.ntmps23
  go_wp2
  go_loopw [3, 8] (fun vm vi wr => ∃ (r m : Nat), r ≤ n ∧ m ≤ r ∧ vm = .int .i64 (m : Nat) ∧ vi = .int .i64 r ∧ Hid (m = ct (fun i => !decide (a i = 0)) r ∧ wr = w)) (fun _ vi _ => n - (intOf vi).toNat)
  case atStart => exact ⟨0, 0, by omega, by omega, rfl, rfl, rfl, rfl⟩
  case round =>
    obtain ⟨r, m, hr, hmr, rfl, rfl, HG⟩ := hrel
    rename World => wr
    by_cases hlt : r < n
    · have hib : (r : Int) < (n : Int) := by omega
      obtain ⟨ba, oa, hao, hca⟩ := HF.out r hlt
      rw [← HG.out.2] at hca
      subst hao
      obtain ⟨x, hx⟩ : ∃ x, x = a r := ⟨_, rfl⟩
      rw [← hx] at hca
      by_cases e : x = 0
      · have hz : (x != 0) = false := by rw [e]; simp
        have HV : Hid (m = ct (fun i => !decide (a i = 0)) (r + 1)) := by
          show m = ct (fun i => !decide (a i = 0)) r + if (!decide (a r = 0)) = true then 1 else 0
          rw [← HG.out.1, decide_eq_true (by rw [← hx]; exact e)]; rfl
        clear e hx
        go_wp2
        go_roundw
        case rel => exact ⟨r + 1, m, by omega, by omega, rfl, by go_num, HV.out, HG.out.2⟩
        case measure => simp [intOf]; omega
      · have hz : (x != 0) = true := by rw [bne_iff_ne]; exact e
        have HV : Hid (m + 1 = ct (fun i => !decide (a i = 0)) (r + 1)) := by
          show m + 1 = ct (fun i => !decide (a i = 0)) r + if (!decide (a r = 0)) = true then 1 else 0
          rw [← HG.out.1, decide_eq_false (by rw [← hx]; exact e)]; rfl
        clear e hx
        go_wp2
        go_roundw
        case rel => exact ⟨r + 1, m + 1, by omega, by omega, by go_num, by go_num, HV.out, HG.out.2⟩
        case measure => simp [intOf]; omega
    · have hib : ¬ (r : Int) < (n : Int) := by omega
      have hre : n = r := by omega
      subst hre
      go_wp2
      go_ret
      exact ⟨by rw [HG.out.1]; rfl, HG.out.2⟩

theorem hnm_div {q : Nat} (hq : 2 ≤ q) {z : Nat → Nat} {i : Nat} : ∀ t, (∀ j, j < i + t → z j < q) → hnm q z (i + t) / q ^ t = hnm q z i
  | 0, _ => by rw [Nat.pow_zero, Nat.div_one]; rfl
  | t + 1, h => by
    have h1 := hnm_div hq (z := z) (i := i) t (fun j hj => h j (by omega))
    have h2 := h (i + t) (by omega)
    show (hnm q z (i + t) * q + z (i + t)) / q ^ (t + 1) = _
    rw [Nat.pow_succ', ← Nat.div_div_eq_div_mul, Nat.mul_comm (hnm q z (i + t)) q, Nat.mul_add_div (by omega), Nat.div_eq_of_lt h2, Nat.add_zero]
    exact h1
theorem hnm_dgs {q K : Nat} (hq : 2 ≤ q) {z : Nat → Nat} (hz : ∀ j, j < K → z j < q) (i : Nat) (hi : i < K) : z i = dgs q K (hnm q z K) i := by
  have h := hnm_div hq (z := z) (i := i + 1) (K - 1 - i) (fun j hj => hz j (by omega))
  rw [show i + 1 + (K - 1 - i) = K by omega] at h
  unfold dgs
  rw [if_pos hi, h]
  show z i = (hnm q z i * q + z i) % q
  rw [Nat.mul_comm, Nat.mul_add_mod, Nat.mod_eq_of_lt (hz i hi)]
/-- The r-th word. -/
def wdr (D : FD) (R : Nat → Nat → Nat) (K r : Nat) : Nat → Nat := enw D R (dgs D.q K r) K
/-- Its weight. -/
def wgr (D : FD) (R : Nat → Nat → Nat) (n K r : Nat) : Nat := ct (fun i => !decide (((wdr D R K r i : Nat) : Int) = 0)) n
/-- Of the first words, how many have a weight. -/
def wcn (D : FD) (R : Nat → Nat → Nat) (n K : Nat) : Nat → Nat → Nat
  | 0 => fun _ => 0
  | r + 1 => fun x => wcn D R n K r x + if x = wgr D R n K r then 1 else 0
theorem wcn_le (D : FD) (R : Nat → Nat → Nat) (n K : Nat) : ∀ r x, wcn D R n K r x ≤ r
  | 0, x => Nat.le_refl 0
  | r + 1, x => by
    have := wcn_le D R n K r x
    show wcn D R n K r x + (if x = wgr D R n K r then 1 else 0) ≤ r + 1
    split <;> omega
theorem ct_most (p : Nat → Bool) : ∀ n, ct p n ≤ n
  | 0 => Nat.le_refl 0
  | n + 1 => by
    have := ct_most p n
    show ct p n + (if p n = true then 1 else 0) ≤ n + 1
    split <;> omega
theorem WdE.word {D : FD} (F : Fld D) {R : Nat → Nat → Nat} {n K B0 r : Nat} {args : Array Value} {X : World} (h : WdE D R n K B0 r args X) : ∃ g c, args = #[.slice (some ⟨g, 0, none⟩) n c] ∧ n ≤ c ∧ c ≤ 9223372036854775807 ∧ Row g n (wdr D R K r) X ∧ B0 ≤ g := by
  obtain ⟨z, g, c, hz, hr, ha, h1, h2, h3, h4⟩ := h
  refine ⟨g, c, ha, h1, h2, ?_, h4⟩
  unfold wdr
  rw [← enw_zc (z := z) (fun i hi => by rw [← hr]; exact hnm_dgs F.q2 hz i hi)]
  exact h3
theorem Row.grc {g n B : Nat} {c : Nat → Nat} {X Y : World} (h : Row g n c X) (hg : GrC B X Y) : Row g n c Y := by
  refine h.other (hg.same g h.lt (Or.inr fun o ho => ?_))
  obtain ⟨cap, f, ⟨cs, h1, _⟩, _⟩ := h
  rw [h1] at ho
  cases ho; rfl
theorem WdE.grc {D : FD} {R : Nat → Nat → Nat} {n K B0 B r : Nat} {args : Array Value} {X Y : World} (h : WdE D R n K B0 r args X) (hg : GrC B X Y) : WdE D R n K B0 r args Y := by
  obtain ⟨z, g, c, hz, hr, ha, h1, h2, h3, h4⟩ := h
  exact ⟨z, g, c, hz, hr, ha, h1, h2, h3.grc hg, h4⟩
end Go.Proofs.YtpgaakjldlcejaaDoor
