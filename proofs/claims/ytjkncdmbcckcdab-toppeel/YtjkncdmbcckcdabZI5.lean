/- Texts of ours, one behind the other: I5 I6 I7. -/
import Derived.Test.YtjkncdmbcckcdabZI4
import Derived.Test.YtjkncdmbcckcdabZW4
/- Codes: the rows that tell one place each (unit), and the dual. -/
namespace Go.Proofs.Ytjkncdmbcckcdab
open Go.RowKit Go.Sort

set_option maxHeartbeats 4000000 in
set_option maxRecDepth 100000 in
theorem unit_any (n : Nat) (hn : n ≤ 1000) (w : World) :
    Calls Try.prog 33 #[.int .i64 (n : Nat)] w fun e w' => e = .returned (.slice (some ⟨w.heap.size, 0, none⟩) n n) ∧ (∃ h, Mx w.heap.size w.heap.size n n n unr h w') ∧ Below w.heap.size w w' := by
  go_enter Try.func33, Try.ntmps33
  go_wp2_with (at_make; refine make_sls rfl _ _ rfl _ n rfl rfl rfl (by omega) ?_; intro w1 hrow1 hgrow1)
  have HB1 : Hid (Mx w.heap.size w.heap.size n 0 n unr (fun _ => 0) w1 ∧ Below w.heap.size w w1) := ⟨⟨⟨_, hrow1, fun i hi => absurd hi (by omega)⟩, fun i hi => absurd hi (by omega), Nat.le_refl _, fun i hi => absurd hi (by omega), fun i hi => absurd hi (by omega), fun i hi => absurd hi (by omega), by omega⟩, below_grown hgrow1 (Nat.le_refl _) (fun k hk => by simp at hk)⟩
  clear hrow1 hgrow1
  go_loopw [9] (fun i wr => ∃ r : Nat, ∃ h : Nat → Nat, r ≤ n ∧ i = .int .i64 r ∧ Hid (Mx w.heap.size w.heap.size n r n unr h wr ∧ Below w.heap.size w wr)) (fun i _ => n - (intOf i).toNat)
  case atStart => exact ⟨0, _, by omega, rfl, HB1.out⟩
  case round =>
    clear HB1
    obtain ⟨r, h, hr, rfl, HG⟩ := hrel
    rename World => wr
    by_cases hlt : r < n
    · have hib : (r : Int) < (n : Int) := by omega
      have hsz := HG.out.2.size
      have hG := HG.out.1.ltG
      go_wp2_with (at_make; refine make_int rfl _ _ rfl _ n rfl rfl (by omega) (by omega) ?_; intro w2 hown2 hgrow2; have hb2 : Below wr.heap.size wr w2 := below_grown hgrow2 (Nat.le_refl _) (fun k hk => by simp at hk); obtain ⟨f, hf, _⟩ := (HG.out.1.below hb2).outer; have hcG := hf.cell r hlt; have hfG := hf.free r; have hcG2 := (hf.store r (.slice (some ⟨wr.heap.size, 0, none⟩) n n)).cell r hlt; rw [upd_at] at hcG2; have hrw := (row_zeros hown2).other (Below.heap_setCell w2 ⟨w.heap.size, r, none⟩ (.slice (some ⟨wr.heap.size, 0, none⟩) n n) wr.heap.size (by show wr.heap.size ≠ w.heap.size; omega)); have hrc := hrw.cell r hlt; have hrf := hrw.free r)
      go_roundw
      case rel =>
        have hrow3 : Row wr.heap.size n (unr r) ((w2.setCell ⟨w.heap.size, r, none⟩ (.slice (some ⟨wr.heap.size, 0, none⟩) n n)).setCell ⟨wr.heap.size, r, none⟩ (.int .i64 (1 : Nat))) := hrw.store r 1 (fun i _ => by unfold unr; rfl)
        have hpush := HG.out.1.push hlt hb2 ((Below.refl _ _).setCell (show wr.heap.size ≤ wr.heap.size from Nat.le_refl _) _) hrow3 hsz
        refine ⟨r + 1, _, by omega, by go_num, hpush.congr (fun i hi j hj => ?_), (bel_up HG.out.2 hb2).trans ?_⟩
        · by_cases e : i = r
          · rw [if_pos e, e]
          · rw [if_neg e]
        · exact ((Below.refl w.heap.size w2).setCell (Nat.le_refl _) _).setCell hsz _
      case measure => simp [intOf]; omega
    · have e : r = n := by omega
      subst e
      go_wp2
      go_ret
      exact ⟨rfl, ⟨_, HG.out.1⟩, HG.out.2⟩

theorem MV.form {B : Nat} {v : Value} {k n : Nat} {R : Nat → Nat → Nat} {w : World} (h : MV B v k n R w) : ∃ ro rc, v = .slice ro k rc := by
  rcases h with ⟨e, ao, ca, ev⟩ | ⟨G, mc, m, hh, ev, hm⟩
  · rw [e]; exact ⟨ao, ca, ev⟩
  · exact ⟨_, _, ev⟩

set_option maxHeartbeats 8000000 in
set_option maxRecDepth 100000 in
theorem dual_any {D : FD} (hD : D ∈ fieldsL) {ao : Option Addr} {m n ca : Nat} {A : Nat → Option Addr} {N C : Nat → Nat} {Z : Nat → Nat → Int} {w : World} (h : CdZ D ao m n A N C Z w) :
    Calls Try.prog 17 #[.agg #[.int .i64 D.q, .int .i64 (n : Nat), .slice ao m ca]] w fun e w' => ∃ k R ro rc, e = .returned (.agg #[.int .i64 D.q, .int .i64 (n : Nat), .slice ro k rc]) ∧ MV w.heap.size (.slice ro k rc) k n R w' ∧ Dul D n m (mzc N Z) k R ∧ Below w.heap.size w w' := by
  have hm := h.few (fld hD)
  have hn := h.n64
  have HA : Hid (D ∈ fieldsL ∧ CdZ D ao m n A N C Z w) := ⟨hD, h⟩
  clear hD h
  obtain ⟨wc, hwc⟩ : ∃ wc, wc = ((w.alloc (.cells #[.int .i64 D.q, .int .i64 (n : Nat), .slice ao m ca] 27)).alloc (.cells #[.int .i64 0, .int .i64 0, .slice none 0 0] 27)).alloc (.cells #[.int .i64 D.q, .int .i64 (n : Nat), .slice none 0 0] 27) := ⟨_, rfl⟩
  have HW : Hid (Below w.heap.size w wc ∧ RB (w.heap.size + 1) wc ∧ (CB (w.heap.size + 1 + 1) D.q n (.slice none 0 0) wc ∧ wc.frozen? ⟨w.heap.size + 1 + 1, 2, none⟩ = false) ∧ wc.heap.size = w.heap.size + 3) := by
    have hs1 : (w.alloc (.cells #[.int .i64 D.q, .int .i64 (n : Nat), .slice ao m ca] 27)).heap.size = w.heap.size + 1 := by simp
    have h1 := RB.new (.int .i64 0) (.int .i64 0) (.slice none 0 0) (w.alloc (.cells #[.int .i64 D.q, .int .i64 (n : Nat), .slice ao m ca] 27))
    have h2 := CB.new D.q n (.slice none 0 0) ((w.alloc (.cells #[.int .i64 D.q, .int .i64 (n : Nat), .slice ao m ca] 27)).alloc (.cells #[.int .i64 0, .int .i64 0, .slice none 0 0] 27))
    have h3 := (RB.new (.int .i64 D.q) (.int .i64 (n : Nat)) (.slice none 0 0) ((w.alloc (.cells #[.int .i64 D.q, .int .i64 (n : Nat), .slice ao m ca] 27)).alloc (.cells #[.int .i64 0, .int .i64 0, .slice none 0 0] 27))).f2
    have h4 := h1.keep ((Below.refl _ _).alloc (Nat.le_refl _) (.cells #[.int .i64 D.q, .int .i64 (n : Nat), .slice none 0 0] 27))
    have hs2 : ((w.alloc (.cells #[.int .i64 D.q, .int .i64 (n : Nat), .slice ao m ca] 27)).alloc (.cells #[.int .i64 0, .int .i64 0, .slice none 0 0] 27)).heap.size = w.heap.size + 1 + 1 := by simp
    rw [hs1] at h4
    rw [hs2] at h2 h3
    rw [hwc]
    exact ⟨bel_up' (bel_up' ((Below.refl _ _).alloc (Nat.le_refl _) _) ((Below.refl _ _).alloc (Nat.le_refl _) _)) ((Below.refl _ _).alloc (Nat.le_refl _) _), h4, ⟨h2, h3⟩, by simp⟩
  go_enter Try.func17, Try.ntmps17
  by_cases hm0 : m = 0
  · have hmb : (((m : Nat) : Int) == 0) = true := by rw [hm0]; rfl
    have HM : Hid (m = 0) := hm0
    clear hm0
    go_wp2_with fail
    rw [← hwc]
    clear hwc
    refine (unit_any n (by omega) wc).mono ?_
    rintro e w1 ⟨rfl, ⟨hh, hmx⟩, hb1⟩
    have H1 : Hid (MV wc.heap.size (.slice (some ⟨wc.heap.size, 0, none⟩) n n) n n unr w1 ∧ Dul D n m (mzc N Z) n unr ∧ Below w.heap.size w w1 ∧ RB (w.heap.size + 1) w1 ∧ CB (w.heap.size + 1 + 1) D.q n (.slice none 0 0) w1 ∧ w1.frozen? ⟨w.heap.size + 1 + 1, 2, none⟩ = false) := by
      have hfr : w1.frozen? ⟨w.heap.size + 1 + 1, 2, none⟩ = false := by
        have := hb1.block (w.heap.size + 1 + 1) (by have := HW.out.2.2.2; omega)
        have e : w1.frozen? ⟨w.heap.size + 1 + 1, 2, none⟩ = wc.frozen? ⟨w.heap.size + 1 + 1, 2, none⟩ := by simp [World.frozen?, this]
        exact e.trans HW.out.2.2.1.2
      refine ⟨?_, ?_, bel_up' HW.out.1 hb1, HW.out.2.1.keep hb1, HW.out.2.2.1.1.keep hb1, hfr⟩
      · exact Or.inr ⟨_, _, _, hh, rfl, hmx⟩
      · refine ⟨0, fun _ => pnil, fun _ => 0, fun i => i, rre_none _ _ _ _, fun v => ?_, unr_rre (fld HA.out.1) n, fun v => ?_, (fcs_none _ n).1.symm⟩
        · rw [HM.out]
          exact rows_congr (fun i hi => absurd hi (by omega)) v
        · rw [(fcs_none _ n).1]
          exact rows_congr (fun i hi => (nul_none _ _ n i hi).symm) v
    clear hmx hb1
    obtain ⟨⟨x0, c0⟩, ⟨x1, c1⟩, ⟨x2, c2⟩, f0, f1, f2⟩ := H1.out.2.2.2.1
    have hcb := H1.out.2.2.2.2.1
    obtain ⟨d0, d1, d2⟩ := hcb
    have g2 := H1.out.2.2.2.2.2
    go_wp2
    obtain ⟨w2, hw2⟩ : ∃ w2, w2 = w1.setCell ⟨w.heap.size + 1 + 1, 2, none⟩ (.slice (some ⟨wc.heap.size, 0, none⟩) n n) := ⟨_, rfl⟩
    obtain ⟨w3, hw3⟩ : ∃ w3, w3 = laid w2 (w.heap.size + 1) D.q n (.slice (some ⟨wc.heap.size, 0, none⟩) n n) := ⟨_, rfl⟩
    have H2 : Hid (CB (w.heap.size + 1) D.q n (.slice (some ⟨wc.heap.size, 0, none⟩) n n) w3 ∧ MV w.heap.size (.slice (some ⟨wc.heap.size, 0, none⟩) n n) n n unr w3 ∧ Below w.heap.size w w3) := by
      have hw2' : ∀ g, g ≠ w.heap.size + 1 + 1 → w2.heap[g]? = w1.heap[g]? := fun g hg => by rw [hw2]; exact Below.heap_setCell _ _ _ _ hg
      have hrb : RB (w.heap.size + 1) w2 := by
        have hh := hw2' (w.heap.size + 1) (by omega)
        have e : ∀ o, w2.cell? ⟨w.heap.size + 1, o, none⟩ = w1.cell? ⟨w.heap.size + 1, o, none⟩ := fun o => by simp [World.cell?, hh]
        have f : ∀ o, w2.frozen? ⟨w.heap.size + 1, o, none⟩ = w1.frozen? ⟨w.heap.size + 1, o, none⟩ := fun o => by simp [World.frozen?, hh]
        have hr := H1.out.2.2.2.1
        obtain ⟨⟨y0, e0⟩, ⟨y1, e1⟩, ⟨y2, e2⟩, t0, t1, t2⟩ := hr
        exact ⟨⟨y0, (e 0).trans e0⟩, ⟨y1, (e 1).trans e1⟩, ⟨y2, (e 2).trans e2⟩, (f 0).trans t0, (f 1).trans t1, (f 2).trans t2⟩
      have hmv : MV wc.heap.size (.slice (some ⟨wc.heap.size, 0, none⟩) n n) n n unr w2 := by
        have hs := HW.out.2.2.2
        rcases H1.out.1 with h | ⟨G, mc, m', hh, ev, hm'⟩
        · exact Or.inl h
        · exact Or.inr ⟨G, mc, m', hh, ev, hm'.keep (hw2' G (by have := hm'.geG; omega)) (fun i hi => hw2' _ (by have := hm'.ge i hi; omega))⟩
      have hb2 : Below w.heap.size w w2 := by rw [hw2]; exact H1.out.2.2.1.setCell (by show w.heap.size ≤ w.heap.size + 1 + 1; omega) _
      rw [hw3]
      exact ⟨laid_cb hrb _ _ _, (laid_mv hmv (by have := HW.out.2.2.2; omega) _ _ _).mono (by have := HW.out.2.2.2; omega), laid_below hb2 (by omega) _ _ _⟩
    unfold laid at hw3
    rw [← hw2, ← hw3]
    clear hw2 hw3 c0 c1 c2 f0 f1 f2 d0 d1 d2 g2
    obtain ⟨c0, c1, c2⟩ := H2.out.1
    refine bodyPost_ret (v := .agg #[.int .i64 D.q, .int .i64 (n : Nat), (.slice (some ⟨wc.heap.size, 0, none⟩) n n)]) (by simp [results, Try.results17, go_sem, c0, c1, c2]) rfl ?_
    exact ⟨_, unr, _, _, rfl, H2.out.2.1, H1.out.2.1, H2.out.2.2⟩
  · have hmb : (((m : Nat) : Int) == 0) = false := by rw [beq_eq_false_iff_ne]; omega
    have HM : Hid (0 < m) := by show 0 < m; omega
    clear hm0
    go_wp2_with fail
    rw [← hwc]
    clear hwc
    refine (mnull_any HA.out.1 (HA.out.2.mat.below HW.out.1) hm).mono ?_
    rintro e w1 ⟨hb1, hr⟩
    rcases hr with ⟨h0, _⟩ | ⟨_, v, k', R', p', k2, R, p2, W, rfl, _, hW, hre, hsp, hmv, hk2, hre2, hsp2⟩
    · exact absurd HA.out.2.chk h0
    have hWn : W = n := by rw [hW HM.out, HA.out.2.wd HM.out]
    subst hWn
    have hke := nul_full HA.out.1 hre hre2 hsp2
    obtain ⟨k, hk⟩ : ∃ k, k = nct k' p' W := ⟨_, rfl⟩
    have H1 : Hid (MV wc.heap.size v k W R w1 ∧ Dul D W m (mzc N Z) k R ∧ Below w.heap.size w w1 ∧ RB (w.heap.size + 1) w1 ∧ CB (w.heap.size + 1 + 1) D.q W (.slice none 0 0) w1 ∧ w1.frozen? ⟨w.heap.size + 1 + 1, 2, none⟩ = false) := by
      have hfr : w1.frozen? ⟨w.heap.size + 1 + 1, 2, none⟩ = false := by
        have := hb1.block (w.heap.size + 1 + 1) (by have := HW.out.2.2.2; omega)
        have e : w1.frozen? ⟨w.heap.size + 1 + 1, 2, none⟩ = wc.frozen? ⟨w.heap.size + 1 + 1, 2, none⟩ := by simp [World.frozen?, this]
        exact e.trans HW.out.2.2.1.2
      refine ⟨by rw [hk]; exact hmv, ?_, bel_up' HW.out.1 hb1, HW.out.2.1.keep hb1, HW.out.2.2.1.1.keep hb1, hfr⟩
      rw [hk, ← hke]
      exact ⟨k', R', p', p2, hre, hsp, hre2, hsp2, hke⟩
    have hvf := H1.out.1.form
    obtain ⟨vo, vc, hvv⟩ := hvf
    subst hvv
    clear hb1 hre hsp hmv hk2 hre2 hsp2 hke hk hW
    obtain ⟨⟨x0, c0⟩, ⟨x1, c1⟩, ⟨x2, c2⟩, f0, f1, f2⟩ := H1.out.2.2.2.1
    have hcb := H1.out.2.2.2.2.1
    obtain ⟨d0, d1, d2⟩ := hcb
    have g2 := H1.out.2.2.2.2.2
    go_wp2
    obtain ⟨w2, hw2⟩ : ∃ w2, w2 = w1.setCell ⟨w.heap.size + 1 + 1, 2, none⟩ (.slice vo k vc) := ⟨_, rfl⟩
    obtain ⟨w3, hw3⟩ : ∃ w3, w3 = laid w2 (w.heap.size + 1) D.q W (.slice vo k vc) := ⟨_, rfl⟩
    have H2 : Hid (CB (w.heap.size + 1) D.q W (.slice vo k vc) w3 ∧ MV w.heap.size (.slice vo k vc) k W R w3 ∧ Below w.heap.size w w3) := by
      have hw2' : ∀ g, g ≠ w.heap.size + 1 + 1 → w2.heap[g]? = w1.heap[g]? := fun g hg => by rw [hw2]; exact Below.heap_setCell _ _ _ _ hg
      have hrb : RB (w.heap.size + 1) w2 := by
        have hh := hw2' (w.heap.size + 1) (by omega)
        have e : ∀ o, w2.cell? ⟨w.heap.size + 1, o, none⟩ = w1.cell? ⟨w.heap.size + 1, o, none⟩ := fun o => by simp [World.cell?, hh]
        have f : ∀ o, w2.frozen? ⟨w.heap.size + 1, o, none⟩ = w1.frozen? ⟨w.heap.size + 1, o, none⟩ := fun o => by simp [World.frozen?, hh]
        have hr := H1.out.2.2.2.1
        obtain ⟨⟨y0, e0⟩, ⟨y1, e1⟩, ⟨y2, e2⟩, t0, t1, t2⟩ := hr
        exact ⟨⟨y0, (e 0).trans e0⟩, ⟨y1, (e 1).trans e1⟩, ⟨y2, (e 2).trans e2⟩, (f 0).trans t0, (f 1).trans t1, (f 2).trans t2⟩
      have hmv : MV wc.heap.size (.slice vo k vc) k W R w2 := by
        have hs := HW.out.2.2.2
        rcases H1.out.1 with h | ⟨G, mc, m', hh, ev, hm'⟩
        · exact Or.inl h
        · exact Or.inr ⟨G, mc, m', hh, ev, hm'.keep (hw2' G (by have := hm'.geG; omega)) (fun i hi => hw2' _ (by have := hm'.ge i hi; omega))⟩
      have hb2 : Below w.heap.size w w2 := by rw [hw2]; exact H1.out.2.2.1.setCell (by show w.heap.size ≤ w.heap.size + 1 + 1; omega) _
      rw [hw3]
      exact ⟨laid_cb hrb _ _ _, (laid_mv hmv (by have := HW.out.2.2.2; omega) _ _ _).mono (by have := HW.out.2.2.2; omega), laid_below hb2 (by omega) _ _ _⟩
    unfold laid at hw3
    rw [← hw2, ← hw3]
    clear hw2 hw3 c0 c1 c2 f0 f1 f2 d0 d1 d2 g2
    obtain ⟨c0, c1, c2⟩ := H2.out.1
    refine bodyPost_ret (v := .agg #[.int .i64 D.q, .int .i64 (W : Nat), (.slice vo k vc)]) (by simp [results, Try.results17, go_sem, c0, c1, c2]) rfl ?_
    exact ⟨_, R, _, _, rfl, H2.out.2.1, H1.out.2.1, H2.out.2.2⟩
end Go.Proofs.Ytjkncdmbcckcdab

/- Codes: a word, and another one so many times (span.Plus). -/
namespace Go.Proofs.Ytjkncdmbcckcdab
open Go.RowKit Go.Sort

/-- The first r numbers have been added to. -/
def pup (D : FD) (a b : Nat → Nat) (x r : Nat) : Nat → Nat := fun j => if j < r then D.ad (a j) (D.mul x (b j)) else a j

set_option maxHeartbeats 4000000 in
set_option maxRecDepth 100000 in
theorem plus_any {F T : Nat} {D : FD} (hD : D ∈ fieldsL) {g : Nat → Value} {w : World} (hat : FAt F T D g w) {ao bo : Option Addr} {n ca cb x : Nat} {a b : Nat → Nat} (hn1 : 1 ≤ n) (hn : n ≤ 1000) (hx : x < D.q) (ha : El D a) (hb : El D b) (hA : Sl ao n a w) (hla : LtB ao w.heap.size) (hna : ao = none → ca = 0) (hB : Sl bo n b w) (hlb : LtB bo w.heap.size) :
    Calls Try.prog 20 #[.pointer (some ⟨F, 0, none⟩), .slice ao n ca, .int .i64 (x : Nat), .slice bo n cb] w fun e w' => ∃ gr c, e = .returned (.slice (some ⟨gr, 0, none⟩) n c) ∧ w.heap.size ≤ gr ∧ n ≤ c ∧ c ≤ 9223372036854775807 ∧ Row gr n (padd D a (pscale D x b)) w' ∧ Below w.heap.size w w' := by
  have HF : Hid (D ∈ fieldsL ∧ FAt F T D g w ∧ x < D.q ∧ El D a ∧ El D b ∧ Sl ao n a w ∧ LtB ao w.heap.size ∧ (ao = none → ca = 0) ∧ Sl bo n b w ∧ LtB bo w.heap.size) := ⟨hD, hat, hx, ha, hb, hA, hla, hna, hB, hlb⟩
  clear hD hat hx ha hb hA hla hna hB hlb
  go_enter Try.func20, Try.ntmps20
  go_wp2_with fail
  refine (clone_any HF.out.2.2.2.2.2.1 (by omega) HF.out.2.2.2.2.2.2.2.1 HF.out.2.2.2.2.2.2.1).mono ?_
  rintro e w1 ⟨v, rfl, hov, hb1⟩
  obtain ⟨vo, vc, hv, hc1, hc2, hge, hlt, _, hrow⟩ := hov
  obtain ⟨gr, hgr, hrw⟩ := hrow (by omega)
  clear hrow
  subst hgr
  subst hv
  have hG := hge _ rfl
  have H1 : Hid (Row gr n a w1 ∧ Below w.heap.size w w1 ∧ w.heap.size ≤ gr) := ⟨hrw, hb1, hG⟩
  have hG' : w.heap.size ≤ gr := hG
  clear hge hlt hrw hb1 hG
  go_wp2
  go_loopw [16] (fun i wr => ∃ r : Nat, r ≤ n ∧ i = .int .i64 r ∧ Hid (Row gr n (pup D a b x r) wr ∧ Below w.heap.size w wr)) (fun i _ => n - (intOf i).toNat)
  case atStart => exact ⟨0, by omega, rfl, H1.out.1.congr (fun j _ => by unfold pup; rw [if_neg (by omega)]), H1.out.2.1⟩
  case round =>
    obtain ⟨r, hr, rfl, HG⟩ := hrel
    rename World => wA
    by_cases hlt : r < n
    · have hib : (r : Int) < (n : Int) := by omega
      obtain ⟨bb, ob, hbo, hcb⟩ := (HF.out.2.2.2.2.2.2.2.2.1.below HG.out.2 HF.out.2.2.2.2.2.2.2.2.2) r hlt
      subst hbo
      obtain ⟨y, hy⟩ : ∃ y, y = b r := ⟨_, rfl⟩
      rw [← hy] at hcb
      have hco : wA.cell? ⟨gr, r, none⟩ = some (.int .i64 (a r : Nat)) := by
        have h := HG.out.1.cell r hlt
        unfold pup at h
        rw [if_neg (by omega)] at h; exact h
      have hfo := HG.out.1.free r
      obtain ⟨u, hu⟩ : ∃ u, u = a r := ⟨_, rfl⟩
      rw [← hu] at hco
      obtain ⟨p, hp⟩ : ∃ p, p = D.mul x y := ⟨_, rfl⟩
      obtain ⟨z, hz⟩ : ∃ z, z = D.ad u p := ⟨_, rfl⟩
      have hatA := HF.out.2.1.below HG.out.2 HF.out.2.1.ltF HF.out.2.1.ltT
      have HC1 : Hid (∀ d, Calls Try.prog 40 #[.pointer (some ⟨F, 0, none⟩), .int .i64 (x : Nat), .int .i64 (y : Nat)] (wA.drewN d) fun e w' => e = .returned (.int .i64 (p : Nat)) ∧ ∃ k, w' = (wA.drewN d).drewN k) := fun d => by
        rw [hp]
        exact mul_nat HF.out.1 (hatA.drewN d) HF.out.2.2.1 (by rw [hy]; exact HF.out.2.2.2.2.1 r)
      have HC2 : Hid (∀ d, Calls Try.prog 39 #[.pointer (some ⟨F, 0, none⟩), .int .i64 (u : Nat), .int .i64 (p : Nat)] (wA.drewN d) fun e w' => e = .returned (.int .i64 (z : Nat)) ∧ ∃ k, w' = (wA.drewN d).drewN k) := fun d => by
        rw [hz]
        exact add_nat HF.out.1 (hatA.drewN d) (by rw [hu]; exact HF.out.2.2.2.1 r) (by rw [hp]; exact (fld HF.out.1).mul_lt _ _)
      have HV : Hid (Row gr n (pup D a b x r) wA ∧ Below w.heap.size w wA ∧ z = D.ad (a r) (D.mul x (b r))) := ⟨HG.out.1, HG.out.2, by rw [hz, hp, hu, hy]⟩
      clear hy hu hp hz hatA HG
      go_wp2
      refine quiet_tail 13 (by kernel_rfl) (by kernel_rfl) ?_
      simp only [List.take_succ_cons, List.take_zero, List.drop_succ_cons, List.drop_zero]
      repeat (go_big_quiet_step (first | (go_at_call 40; exact Calls.quiet_of (HC1.out _)) | (go_at_call 39; exact Calls.quiet_of (HC2.out _))))
      refine wpQuiet_nil ?_
      intro _ hw'
      obtain ⟨nq, hw''⟩ := hw'
      subst hw''
      go_wp2
      go_roundw
      case rel =>
        refine ⟨r + 1, by omega, by go_num, (HV.out.1.drewN nq).store r z (fun k _ => ?_), (below_drewN2 HV.out.2.1 nq).setCell (by omega) _⟩
        unfold pup
        by_cases e : k = r
        · rw [if_pos (by omega), if_pos e, e]; exact HV.out.2.2.symm
        · rw [if_neg e]
          by_cases e2 : k < r
          · rw [if_pos (by omega), if_pos e2]
          · rw [if_neg (by omega), if_neg e2]
      case measure => simp [intOf]; omega
    · have hib : ¬ (r : Int) < (n : Int) := by omega
      have hrn : r = n := by omega
      subst hrn
      have HE : Hid (Row gr r (padd D a (pscale D x b)) wA ∧ Below w.heap.size w wA) := ⟨HG.out.1.congr (fun j hj => by unfold pup; rw [if_pos hj]; rfl), HG.out.2⟩
      go_wp2
      go_ret
      exact ⟨_, _, rfl, hG', hc1, hc2, HE.out⟩
end Go.Proofs.Ytjkncdmbcckcdab

/- Sums of codes: plain mathematics. -/
namespace Go.Proofs.Ytjkncdmbcckcdab
open Go.RowKit

end Go.Proofs.Ytjkncdmbcckcdab
