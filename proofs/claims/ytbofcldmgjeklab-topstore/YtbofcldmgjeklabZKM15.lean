/- The square of a file: square. -/
import Derived.Test.YtbofcldmgjeklabZS48
import Derived.Test.YtbofcldmgjeklabZKM6
namespace Go.Proofs.Ytbofcldmgjeklab
open Go.RowKit Go.Sort Go.Shelf
attribute [local go_sem] Oper.semAt_some

theorem row_grc {g n B : Nat} {c : Nat → Nat} {X Y : World} (h : Row g n c X) (hg : GrC B X Y) : Row g n c Y := by
  refine h.other (hg.same g h.lt (Or.inr fun o ho => ?_))
  obtain ⟨cap, f, ⟨cs, h1, _⟩, _⟩ := h
  rw [h1] at ho
  cases ho; rfl
theorem cell_grc {B b o : Nat} {v : Value} {X Y : World} (h : X.cell? ⟨b, o, none⟩ = some v) (hg : GrC B X Y) (hb : b < B) : Y.cell? ⟨b, o, none⟩ = some v := by
  have e := hg.same b (cell_lt h) (Or.inl hb)
  unfold World.cell? at h ⊢
  rw [e]; exact h
theorem mx_grc {B0 G m k n B : Nat} {R : Nat → Nat → Nat} {h : Nat → Nat} {X Y : World} (H : Mx B0 G m k n R h X) (hg : GrC B X Y) (hG : G < B) (hh : ∀ i, i < k → h i < B) : Mx B0 G m k n R h Y :=
  H.keep (hg.same G H.ltG (Or.inl hG)) (fun i hi => hg.same _ (H.lt i hi) (Or.inl (hh i hi)))
theorem sl_grc {B n : Nat} {ao : Option Addr} {c : Nat → Nat} {X Y : World} (h : Sl ao n c X) (hg : GrC B X Y) (hb : LtB ao B) : Sl ao n c Y := fun j hj => by
  obtain ⟨b, off, e, hc⟩ := h j hj
  exact ⟨b, off, e, cell_grc hc hg (hb _ e)⟩
theorem cell_other {b o b' o' : Nat} {v u : Value} {X : World} (h : X.cell? ⟨b, o, none⟩ = some v) (hne : b ≠ b') : (X.setCell ⟨b', o', none⟩ u).cell? ⟨b, o, none⟩ = some v := by
  have e := Below.heap_setCell X ⟨b', o', none⟩ u b hne
  unfold World.cell? at h ⊢
  rw [e]; exact h

/-- What a round of square reads. -/
def SqS (oO bw : Nat) (vo vf : Value) (hi hj d i j bf of r y : Nat) (w : World) : Prop :=
  w.cell? ⟨oO, 0, none⟩ = some vo ∧ w.cell? ⟨bw + 1, i, none⟩ = some (.slice (some ⟨hi, 0, none⟩) d d) ∧ w.cell? ⟨bw + 1, j, none⟩ = some (.slice (some ⟨hj, 0, none⟩) d d) ∧ w.cell? ⟨bw, 0, none⟩ = some vf ∧ w.cell? ⟨oO + 1, 0, none⟩ = some (.int .i64 (r : Nat)) ∧ w.cell? ⟨bf, of, none⟩ = some (.int .i64 (y : Nat))
theorem SqS.set {oO bw hi hj d i j bf of r y b o : Nat} {vo vf u : Value} {w : World} (h : SqS oO bw vo vf hi hj d i j bf of r y w) (h1 : oO < b ∨ b < oO) (h2 : bw + 1 < b ∨ b < bw) (h3 : oO + 1 ≠ b) (h4 : bf ≠ b) : SqS oO bw vo vf hi hj d i j bf of r y (w.setCell ⟨b, o, none⟩ u) := by
  obtain ⟨a0, a1, a2, a3, a4, a5⟩ := h
  exact ⟨cell_other a0 (by omega), cell_other a1 (by omega), cell_other a2 (by omega), cell_other a3 (by omega), cell_other a4 (by omega), cell_other a5 (by omega)⟩

set_option maxHeartbeats 8000000 in
set_option maxRecDepth 100000 in
theorem square_any {B F k d fc : Nat} {n : Int} {fo : Option Addr} {c : Nat → Nat} {w : World} (hP : PlA B F n k d w) (hk : k ≤ d) (hd : d ≤ 15) (hS : Sl fo (fsz k d) c w) (hl : LtB fo w.heap.size) :
    Calls Try.prog 58 #[.pointer (some ⟨B, 0, none⟩), .slice fo (fsz k d) fc] w fun e w' => ∃ G h, e = .returned (.slice (some ⟨G, 0, none⟩) d d) ∧ Mx w.heap.size G d d d (sqr k d c (fsz k d)) h w' ∧ Below w.heap.size w w' := by
  obtain ⟨nf, hnf⟩ : ∃ nf, nf = fsz k d := ⟨_, rfl⟩
  have HNF : Hid (nf = pls k k + k * (d - k) ∧ nf ≤ 1000) := ⟨hnf.trans (fsz_is k d), by have h := fsz_le hk hd; rw [hnf]; unfold fsz; omega⟩
  rw [← hnf] at hS ⊢
  obtain ⟨w0, hw0⟩ : ∃ w0, w0 = w.alloc (.cells #[.slice fo nf fc] 22) := ⟨_, rfl⟩
  have hb0 : Below w.heap.size w w0 := by rw [hw0]; exact (Below.refl _ _).alloc (Nat.le_refl _) _
  have hs0 : w0.heap.size = w.heap.size + 1 := by rw [hw0]; simp
  have hx0 : w0.cell? ⟨w.heap.size, 0, none⟩ = some (.slice fo nf fc) := by rw [hw0]; simp
  have HN : Hid (Calls Try.prog 101 #[.pointer (some ⟨B, 0, none⟩)] w0 fun e w' => e = .returned (.slice (some ⟨w0.heap.size, 0, none⟩) d d) ∧ (∃ h, Mx w0.heap.size w0.heap.size d d d (fun _ => pnil) h w') ∧ Below w0.heap.size w0 w') := noughts_any (hP.below hb0) (by omega)
  have H0 : Hid (PlA B F n k d w ∧ k ≤ d ∧ d ≤ 15 ∧ Sl fo nf c w ∧ LtB fo w.heap.size ∧ Below w.heap.size w w0 ∧ w0.heap.size = w.heap.size + 1 ∧ w0.cell? ⟨w.heap.size, 0, none⟩ = some (.slice fo nf fc)) := ⟨hP, hk, hd, hS, hl, hb0, hs0, hx0⟩
  clear hP hk hd hS hl hb0 hs0 hx0 hnf
  refine callsIn_wide.1 (callsIn_of_wp_marks (n := 0) Try.func58 rfl trivial ?_ rfl)
  refine wpIn_wide.2 ?_
  simp only [Try.ntmps58, List.size_toArray, List.length_cons, List.length_nil, Nat.reduceAdd, Nat.reduceSub, Array.replicate_succ, Array.replicate_zero, List.push_toArray, List.append_toArray, List.nil_append, List.cons_append]
  go_wp2_with fail
  rw [← hw0]
  refine HN.out.mono ?_
  rintro e w1 ⟨rfl, ⟨h, hM⟩, hb1⟩
  have hs0 := H0.out.2.2.2.2.2.2.1
  have hBl : B < w.heap.size := cell_lt H0.out.1.f
  have hs1 : w0.heap.size ≤ w1.heap.size := hb1.size
  obtain ⟨oO, hoO⟩ : ∃ oO, oO = w1.heap.size := ⟨_, rfl⟩
  obtain ⟨w2, hw2⟩ : ∃ w2, w2 = w1.alloc (.cells #[.slice (some ⟨w.heap.size + 1, 0, none⟩) d d] 39) := ⟨_, rfl⟩
  obtain ⟨W, hW⟩ : ∃ W, W = w2.alloc (.cells #[.int .i64 0] 3) := ⟨_, rfl⟩
  have hb2 : Below w1.heap.size w1 w2 := by rw [hw2]; exact (Below.refl _ _).alloc (Nat.le_refl _) _
  have hbW : Below w2.heap.size w2 W := by rw [hW]; exact (Below.refl _ _).alloc (Nat.le_refl _) _
  have hs2 : w2.heap.size = oO + 1 := by rw [hw2, hoO]; simp
  have hsW : W.heap.size = oO + 2 := by rw [hW]; simp [hs2]
  have hbw1 : Below w.heap.size w w1 := bel_up' H0.out.2.2.2.2.2.1 hb1
  have hbwW : Below w.heap.size w W := bel_up' (bel_up' hbw1 hb2) hbW
  have hx1 : w1.cell? ⟨w.heap.size, 0, none⟩ = some (.slice fo nf fc) := ((bcell hb1).1 _ 0 (by omega)).trans H0.out.2.2.2.2.2.2.2
  have hxW : W.cell? ⟨w.heap.size, 0, none⟩ = some (.slice fo nf fc) := ((bcell hbW).1 _ 0 (by omega)).trans (((bcell hb2).1 _ 0 (by omega)).trans hx1)
  have hoW : W.cell? ⟨oO, 0, none⟩ = some (.slice (some ⟨w.heap.size + 1, 0, none⟩) d d) := ((bcell hbW).1 _ 0 (by omega)).trans (by rw [hw2, hoO]; simp)
  have haW : Row (oO + 1) 1 (fun _ => 0) W := by
    refine ⟨1, fun _ => .int .i64 0, ⟨#[.int .i64 0], ?_, rfl, fun o ho => ?_⟩, Nat.le_refl _, fun _ _ => rfl⟩
    · rw [hW, ← hs2]; exact World.alloc_heap_new _ _
    · rw [show o = 0 by omega]; rfl
  obtain ⟨own, hown⟩ : ∃ own : Nat → Prop, own = fun x => x = oO + 1 ∨ ∃ i, i < d ∧ x = h i := ⟨_, rfl⟩
  have hMW : Mx w0.heap.size w0.heap.size d d d (sqr k d c 0) h W := ((hM.below hb2).below hbW).congr (fun a _ b _ => (sqr_zero k d c a b).symm)
  have hhl : ∀ i, i < d → h i < oO := fun i hi => by have := hM.lt i hi; omega
  have hhg : ∀ i, i < d → w0.heap.size ≤ h i := fun i hi => hM.ge i hi
  have hPW := H0.out.1.below hbwW
  have hoB : ¬ own B := by
    rw [hown]
    rintro (e | ⟨i, hi, e⟩)
    · omega
    · have := hhg i hi; omega
  have hseq := places_seq (own := own) hPW H0.out.2.1 H0.out.2.2.1 hoB
  rw [← HNF.out.1] at hseq
  have hSW : Sl fo nf c W := fun j hj => by
    obtain ⟨b, off, e, hc⟩ := H0.out.2.2.2.1 j hj
    exact ⟨b, off, e, ((bcell hbwW).1 b _ (H0.out.2.2.2.2.1 _ e)).trans hc⟩
  have HW : Hid (W.heap.size = oO + 2 ∧ w0.heap.size ≤ oO ∧ w0.heap.size = w.heap.size + 1 ∧ B < w.heap.size ∧ (∀ i, i < d → h i < oO) ∧ (∀ i, i < d → w0.heap.size ≤ h i) ∧ LtB fo w.heap.size ∧ k ≤ d ∧ d ≤ 15) := ⟨hsW, by omega, hs0, hBl, hhl, hhg, H0.out.2.2.2.2.1, H0.out.2.1, H0.out.2.2.1⟩
  have HI : Hid (Mx w0.heap.size w0.heap.size d d d (sqr k d c 0) h W ∧ W.cell? ⟨oO, 0, none⟩ = some (.slice (some ⟨w.heap.size + 1, 0, none⟩) d d) ∧ Row (oO + 1) 1 (fun _ => 0) W ∧ W.cell? ⟨w.heap.size, 0, none⟩ = some (.slice fo nf fc) ∧ Sl fo nf c W ∧ Below w.heap.size w W) := ⟨hMW, hoW, haW, hxW, hSW, hbwW⟩
  have HQ : Hid (SeqB Try.prog 102 #[.pointer (some ⟨B, 0, none⟩)] #[] nf (PlE k d) own W) := hseq
  have HOw : Hid (own = fun x => x = oO + 1 ∨ ∃ i, i < d ∧ x = h i) := hown
  have HWW : Hid (W = (w1.alloc (.cells #[.slice (some ⟨w.heap.size + 1, 0, none⟩) d d] 39)).alloc (.cells #[.int .i64 0] 3) ∧ oO = w1.heap.size) := ⟨by rw [hW, hw2], hoO⟩
  have HS0 : Hid (w0.heap.size = w.heap.size + 1) := hs0
  clear hW hw2 hoO hb2 hbW hs2 hsW hbw1 hbwW hx1 hxW hoW haW hMW hhl hhg hPW hoB hseq hSW hs1 hM hb1 hs0 hBl hown
  rw [HS0.out]
  go_wp2
  rw [← HWW.out.1, ← HWW.out.2]
  refine range_lawB (gf := 102) (ra := #[.pointer (some ⟨B, 0, none⟩)]) (lb := #[]) rfl (enters_of Try.func102 (by kernel_rfl) rfl) HQ.out (fun x e => by
      rw [HOw.out] at e
      have h1 := HW.out.1
      rcases e with e | ⟨i, hi, e⟩
      · omega
      · have := HW.out.2.2.2.2.1 i hi; omega) (fun r args X he => by obtain ⟨i, j, ha, _⟩ := he; rw [ha]; rfl)
    (fun r X => Mx w0.heap.size w0.heap.size d d d (sqr k d c r) h X ∧ X.cell? ⟨oO, 0, none⟩ = some (.slice (some ⟨w.heap.size + 1, 0, none⟩) d d) ∧ Row (oO + 1) 1 (fun _ => r) X ∧ X.cell? ⟨w.heap.size, 0, none⟩ = some (.slice fo nf fc) ∧ Sl fo nf c X ∧ Below w.heap.size w X) ?stable (fun r args X Y he hg => he) ?start
    (fun args => { tmps := #[.pointer (some ⟨B, 0, none⟩), .slice fo nf fc, undef, .pointer (some ⟨w.heap.size, 0, none⟩), .slice none 0 0, .pointer (some ⟨oO, 0, none⟩), .pointer (some ⟨oO + 1, 0, none⟩), args.getD 0 undef, args.getD 1 undef, .pointer (some ⟨B, 0, none⟩), .slice (some ⟨w.heap.size + 1, 0, none⟩) d d, .pointer (some ⟨B, 0, none⟩), .func (.func 102) #[.pointer (some ⟨B, 0, none⟩)] #[], args.getD 0 undef, args.getD 1 undef, undef, undef, undef, undef, undef, undef, undef, undef, undef, undef, undef, undef, undef, undef, undef, undef, undef, undef, undef, undef, undef, undef, undef], defers := [] })
    ?assign ?body ?done
  case stable =>
    rintro r X Y ⟨h1, h2, h3, h4, h5, h6⟩ hg
    have hw := HW.out
    refine ⟨mx_grc h1 hg (by omega) (fun i hi => by have := hw.2.2.2.2.1 i hi; omega), cell_grc h2 hg (by omega), row_grc h3 hg, cell_grc h4 hg (by omega), sl_grc h5 hg (fun x hx => by have := hw.2.2.2.2.2.2.1 x hx; omega), ?_⟩
    exact h6.trans ⟨hg.os, hg.tape, hg.output, hg.size, fun i hi => hg.same i (by have := h6.size; omega) (Or.inl (by omega))⟩
  case start => exact HI.out
  case assign =>
    intro l r args X K he hK
    obtain ⟨i, j, ha, _⟩ := he
    subst ha
    gi_wp2
    exact hK
  case body =>
    rintro l r args X hr ⟨h1, h2, h3, h4, h5, h6⟩ he
    obtain ⟨i, j, ha, hi, hij, hj, hre⟩ := ple_is HW.out.2.2.2.2.2.2.2.1 he
    subst ha
    clear he
    have hid : i < d := by omega
    have hib : (i : Int) < (d : Int) := by omega
    have hjb : (j : Int) < (d : Int) := by omega
    have hrb : (r : Int) < (nf : Int) := by omega
    obtain ⟨bf, of, rfl, hcf⟩ := h5 r hr
    obtain ⟨y, hy⟩ : ∃ y, y = c r := ⟨_, rfl⟩
    rw [← hy] at hcf
    have hci := h1.cell i hid
    have hcj := h1.cell j hj
    rw [HS0.out] at hci hcj
    have hca := h3.cell 0 (by omega)
    have hra : r ≤ 1000 := by have := HNF.out.2; omega
    have HX : Hid (Mx w0.heap.size w0.heap.size d d d (sqr k d c r) h X ∧ X.cell? ⟨oO, 0, none⟩ = some (.slice (some ⟨w.heap.size + 1, 0, none⟩) d d) ∧ Row (oO + 1) 1 (fun _ => r) X ∧ X.cell? ⟨w.heap.size, 0, none⟩ = some (.slice (some ⟨bf, of, none⟩) nf fc) ∧ Sl (some ⟨bf, of, none⟩) nf c X ∧ Below w.heap.size w X) := ⟨h1, h2, h3, h4, h5, h6⟩
    have HY : Hid (y = c r ∧ i < k ∧ i ≤ j ∧ j < d ∧ r = plr k d i j) := ⟨hy, hi, hij, hj, hre⟩
    have hi0 : (0 : Int) ≤ (i : Int) := by omega
    have hj0 : (0 : Int) ≤ (j : Int) := by omega
    have hr0 : (0 : Int) ≤ (r : Int) := by omega
    obtain ⟨X1, hX1⟩ : ∃ X1, X1 = X.drew.setCell ⟨h i, j, none⟩ (.int .i64 (y : Nat)) := ⟨_, rfl⟩
    obtain ⟨X2, hX2⟩ : ∃ X2, X2 = X1.setCell ⟨h j, i, none⟩ (.int .i64 (y : Nat)) := ⟨_, rfl⟩
    have hwf := HW.out
    have hhi1 := hwf.2.2.2.2.1 i hid
    have hhj1 := hwf.2.2.2.2.1 j hj
    have hhi2 := hwf.2.2.2.2.2.1 i hid
    have hhj2 := hwf.2.2.2.2.2.1 j hj
    have hbfl : bf < w.heap.size := hwf.2.2.2.2.2.2.1 _ rfl
    have hnG : ∀ a, a < d → h a ≠ w0.heap.size := fun a ha => h1.ne a ha
    have hnGi := hnG i hid
    have hnGj := hnG j hj
    have hMd : Mx w0.heap.size w0.heap.size d d d (sqr k d c r) h X.drew := h1.drewN 1
    have hrow1 := hMd.row i hid
    have hM1 : Mx w0.heap.size w0.heap.size d d d (fun a b => if a = i ∧ b = j then y else sqr k d c r a b) h X1 := by
      rw [hX1]
      refine (hMd.write hid ((Tch.refl _ _).setCell j (.int .i64 (y : Nat))) (hrow1.store j y (d := fun b => if b = j then y else sqr k d c r i b) (fun b _ => rfl))).congr (fun a _ b _ => ?_)
      by_cases e : a = i
      · rw [if_pos e]
        by_cases e2 : b = j
        · rw [if_pos e2, if_pos ⟨e, e2⟩]
        · rw [if_neg e2, if_neg (fun x => e2 x.2), e]
      · rw [if_neg e, if_neg (fun x => e x.1)]
    have hrow2 := hM1.row j hj
    have hM2 : Mx w0.heap.size w0.heap.size d d d (sqr k d c (r + 1)) h X2 := by
      rw [hX2]
      refine (hM1.write hj ((Tch.refl _ _).setCell i (.int .i64 (y : Nat))) (hrow2.store i y (d := fun b => if b = i then y else if j = i ∧ b = j then y else sqr k d c r j b) (fun b _ => rfl))).congr (fun a _ b _ => ?_)
      rw [sqr_next hwf.2.2.2.2.2.2.2.1 c hi hij hj hre, ← hy]
      by_cases e : a = j
      · rw [if_pos e]
        by_cases e2 : b = i
        · rw [if_pos e2, if_pos (Or.inr ⟨e, e2⟩)]
        · rw [if_neg e2]
          by_cases e3 : j = i ∧ b = j
          · omega
          · rw [if_neg e3, if_neg (fun x => by omega), e]
      · rw [if_neg e]
        by_cases e2 : a = i ∧ b = j
        · rw [if_pos e2, if_pos (Or.inl e2)]
        · rw [if_neg e2, if_neg (fun x => by omega)]
    have HR1 : Hid (X.drew.cell? ⟨h i, j, none⟩ = some (.int .i64 (sqr k d c r i j : Nat)) ∧ X.drew.frozen? ⟨h i, j, none⟩ = false) := ⟨hrow1.cell j hj, hrow1.free j⟩
    have HR2 : Hid (X1.cell? ⟨h j, i, none⟩ = some (.int .i64 ((if j = i ∧ i = j then y else sqr k d c r j i) : Nat)) ∧ X1.frozen? ⟨h j, i, none⟩ = false) := ⟨hrow2.cell i hid, hrow2.free i⟩
    have HR3 : Hid (X.drew.frozen? ⟨h j, i, none⟩ = false) := (hMd.row j hj).free i
    have HX1 : Hid (X1 = X.drew.setCell ⟨h i, j, none⟩ (.int .i64 (y : Nat))) := hX1
    have HX2 : Hid (X2 = X1.setCell ⟨h j, i, none⟩ (.int .i64 (y : Nat))) := hX2
    have hS0' : SqS oO w.heap.size (.slice (some ⟨w.heap.size + 1, 0, none⟩) d d) (.slice (some ⟨bf, of, none⟩) nf fc) (h i) (h j) d i j bf (of + r) r y X.drew := ⟨h2, hci, hcj, h4, hca, hcf⟩
    have hs1' : SqS oO w.heap.size (.slice (some ⟨w.heap.size + 1, 0, none⟩) d d) (.slice (some ⟨bf, of, none⟩) nf fc) (h i) (h j) d i j bf (of + r) r y (X.drew.setCell ⟨h i, j, none⟩ (.int .i64 (y : Nat))) := hS0'.set (by omega) (by omega) (by omega) (by omega)
    have HS1 : Hid (SqS oO w.heap.size (.slice (some ⟨w.heap.size + 1, 0, none⟩) d d) (.slice (some ⟨bf, of, none⟩) nf fc) (h i) (h j) d i j bf (of + r) r y (X.drew.setCell ⟨h i, j, none⟩ (.int .i64 (y : Nat)))) := hs1'
    have HS2 : Hid (SqS oO w.heap.size (.slice (some ⟨w.heap.size + 1, 0, none⟩) d d) (.slice (some ⟨bf, of, none⟩) nf fc) (h i) (h j) d i j bf (of + r) r y (X1.setCell ⟨h j, i, none⟩ (.int .i64 (y : Nat)))) := by
      rw [hX1]; exact hs1'.set (by omega) (by omega) (by omega) (by omega)
    have hra2 : Row (oO + 1) 1 (fun _ => r) X2 := by
      rw [hX2, hX1]
      exact ((h3.drewN 1).other (Below.heap_setCell _ _ _ _ (by show oO + 1 ≠ h i; omega))).other (Below.heap_setCell _ _ _ _ (by show oO + 1 ≠ h j; omega))
    have hbw2 : Below w.heap.size w X2 := by
      rw [hX2, hX1]
      exact ((below_drewN2 h6 1).setCell (by show w.heap.size ≤ h i; omega) _).setCell (by show w.heap.size ≤ h j; omega) _
    have hkp2 : KpO own X X2 := by
      rw [hX2, hX1]
      have e0 : KpO own X X.drew := ⟨rfl, rfl, rfl, Nat.le_refl _, fun _ _ _ => rfl⟩
      exact (e0.trans (KpO.setCell _ _ _ (by rw [HOw.out]; exact Or.inr ⟨i, hid, rfl⟩))).trans (KpO.setCell _ _ _ (by rw [HOw.out]; exact Or.inr ⟨j, hj, rfl⟩))
    have hsl2 : Sl (some ⟨bf, of, none⟩) nf c X2 := fun t ht => by
      obtain ⟨b, off, e, hcc⟩ := h5 t ht
      refine ⟨b, off, e, ?_⟩
      cases e
      rw [hX2, hX1]
      exact cell_other (cell_other (show X.drew.cell? _ = _ from hcc) (by omega)) (by omega)
    have HM2 : Hid (Mx w0.heap.size w0.heap.size d d d (sqr k d c (r + 1)) h X2 ∧ Row (oO + 1) 1 (fun _ => r) X2 ∧ Below w.heap.size w X2 ∧ KpO own X X2 ∧ Sl (some ⟨bf, of, none⟩) nf c X2) := ⟨hM2, hra2, hbw2, hkp2, hsl2⟩
    clear hX1 hX2 hwf hhi1 hhj1 hhi2 hhj2 hbfl hnG hnGi hnGj hMd hrow1 hrow2 hM1 hM2 hS0' hs1' hra2 hbw2 hkp2 hsl2
    clear hy hre h1 h3 h5 h6
    -- round
    gi_wp2
    have hS0 : SqS oO w.heap.size (.slice (some ⟨w.heap.size + 1, 0, none⟩) d d) (.slice (some ⟨bf, of, none⟩) nf fc) (h i) (h j) d i j bf (of + r) r y X.drew := ⟨h2, hci, hcj, h4, hca, hcf⟩
    refine round_region_L (S := SqS oO w.heap.size (.slice (some ⟨w.heap.size + 1, 0, none⟩) d d) (.slice (some ⟨bf, of, none⟩) nf fc) (h i) (h j) d i j bf (of + r) r y) [] (by rintro ⟨a, w, h⟩; exact absurd h.1 (by intro h; cases h)) (by kernel_rfl) (by kernel_rfl) ?_
    refine wpAnyL_take (i := 0) (v := ?_) (by rw [List.getElem?_toArray]; rfl) (by decide +kernel) (by decide +kernel) (by decide +kernel) (by decide +kernel) (by decide +kernel) (fun _ _ _ h => h) hS0 (Or.inl ⟨by rfl, ?_⟩) ?_
    rotate_left
    · intro wz hSz; obtain ⟨z0, z1, z2, z3, z4, z5⟩ := hSz; go_simp; first | done | with_reducible rfl | (simp only [hi0, hib, hj0, hjb, hr0, hrb, and_self, if_true, Int.toNat_natCast]; first | done | with_reducible rfl) | (simp [hi0, hib, hj0, hjb, hr0, hrb]; first | done | with_reducible rfl)
    try simp only [Act.put, List.setIfInBounds_toArray, List.set_cons_zero, List.set_cons_succ]
    refine wpAnyL_take (i := 1) (v := ?_) (by rw [List.getElem?_toArray]; rfl) (by decide +kernel) (by decide +kernel) (by decide +kernel) (by decide +kernel) (by decide +kernel) (fun _ _ _ h => h) hS0 (Or.inl ⟨by rfl, ?_⟩) ?_
    rotate_left
    · intro wz hSz; obtain ⟨z0, z1, z2, z3, z4, z5⟩ := hSz; go_simp; first | done | with_reducible rfl | (simp only [hi0, hib, hj0, hjb, hr0, hrb, and_self, if_true, Int.toNat_natCast]; first | done | with_reducible rfl) | (simp [hi0, hib, hj0, hjb, hr0, hrb]; first | done | with_reducible rfl)
    try simp only [Act.put, List.setIfInBounds_toArray, List.set_cons_zero, List.set_cons_succ]
    refine wpAnyL_take (i := 2) (v := ?_) (by rw [List.getElem?_toArray]; rfl) (by decide +kernel) (by decide +kernel) (by decide +kernel) (by decide +kernel) (by decide +kernel) (fun _ _ _ h => h) hS0 (Or.inl ⟨by rfl, ?_⟩) ?_
    rotate_left
    · intro wz hSz; obtain ⟨z0, z1, z2, z3, z4, z5⟩ := hSz; go_simp; first | done | with_reducible rfl | (simp only [hi0, hib, hj0, hjb, hr0, hrb, and_self, if_true, Int.toNat_natCast]; first | done | with_reducible rfl) | (simp [hi0, hib, hj0, hjb, hr0, hrb]; first | done | with_reducible rfl)
    try simp only [Act.put, List.setIfInBounds_toArray, List.set_cons_zero, List.set_cons_succ]
    refine wpAnyL_take (i := 3) (v := ?_) (by rw [List.getElem?_toArray]; rfl) (by decide +kernel) (by decide +kernel) (by decide +kernel) (by decide +kernel) (by decide +kernel) (fun _ _ _ h => h) hS0 (Or.inl ⟨by rfl, ?_⟩) ?_
    rotate_left
    · intro wz hSz; obtain ⟨z0, z1, z2, z3, z4, z5⟩ := hSz; go_simp; first | done | with_reducible rfl | (simp only [hi0, hib, hj0, hjb, hr0, hrb, and_self, if_true, Int.toNat_natCast]; first | done | with_reducible rfl) | (simp [hi0, hib, hj0, hjb, hr0, hrb]; first | done | with_reducible rfl)
    try simp only [Act.put, List.setIfInBounds_toArray, List.set_cons_zero, List.set_cons_succ]
    refine wpAnyL_take (i := 4) (v := ?_) (by rw [List.getElem?_toArray]; rfl) (by decide +kernel) (by decide +kernel) (by decide +kernel) (by decide +kernel) (by decide +kernel) (fun _ _ _ h => h) hS0 (Or.inl ⟨by rfl, ?_⟩) ?_
    rotate_left
    · intro wz hSz; obtain ⟨z0, z1, z2, z3, z4, z5⟩ := hSz; go_simp; first | done | with_reducible rfl | (simp only [hi0, hib, hj0, hjb, hr0, hrb, and_self, if_true, Int.toNat_natCast]; first | done | with_reducible rfl) | (simp [hi0, hib, hj0, hjb, hr0, hrb]; first | done | with_reducible rfl)
    try simp only [Act.put, List.setIfInBounds_toArray, List.set_cons_zero, List.set_cons_succ]
    refine wpAnyL_take (i := 5) (v := ?_) (by rw [List.getElem?_toArray]; rfl) (by decide +kernel) (by decide +kernel) (by decide +kernel) (by decide +kernel) (by decide +kernel) (fun _ _ _ h => h) hS0 (Or.inl ⟨by rfl, ?_⟩) ?_
    rotate_left
    · intro wz hSz; obtain ⟨z0, z1, z2, z3, z4, z5⟩ := hSz; go_simp; first | done | with_reducible rfl | (simp only [hi0, hib, hj0, hjb, hr0, hrb, and_self, if_true, Int.toNat_natCast]; first | done | with_reducible rfl) | (simp [hi0, hib, hj0, hjb, hr0, hrb]; first | done | with_reducible rfl)
    try simp only [Act.put, List.setIfInBounds_toArray, List.set_cons_zero, List.set_cons_succ]
    refine wpAnyL_take (i := 6) (v := ?_) (by rw [List.getElem?_toArray]; rfl) (by decide +kernel) (by decide +kernel) (by decide +kernel) (by decide +kernel) (by decide +kernel) (fun _ _ _ h => h) hS0 (Or.inl ⟨by rfl, ?_⟩) ?_
    rotate_left
    · intro wz hSz; obtain ⟨z0, z1, z2, z3, z4, z5⟩ := hSz; go_simp; first | done | with_reducible rfl | (simp only [hi0, hib, hj0, hjb, hr0, hrb, and_self, if_true, Int.toNat_natCast]; first | done | with_reducible rfl) | (simp [hi0, hib, hj0, hjb, hr0, hrb]; first | done | with_reducible rfl)
    try simp only [Act.put, List.setIfInBounds_toArray, List.set_cons_zero, List.set_cons_succ]
    refine wpAnyL_take (i := 7) (v := ?_) (by rw [List.getElem?_toArray]; rfl) (by decide +kernel) (by decide +kernel) (by decide +kernel) (by decide +kernel) (by decide +kernel) (fun _ _ _ h => h) hS0 (Or.inl ⟨by rfl, ?_⟩) ?_
    rotate_left
    · intro wz hSz; obtain ⟨z0, z1, z2, z3, z4, z5⟩ := hSz; go_simp; first | done | with_reducible rfl | (simp only [hi0, hib, hj0, hjb, hr0, hrb, and_self, if_true, Int.toNat_natCast]; first | done | with_reducible rfl) | (simp [hi0, hib, hj0, hjb, hr0, hrb]; first | done | with_reducible rfl)
    try simp only [Act.put, List.setIfInBounds_toArray, List.set_cons_zero, List.set_cons_succ]
    refine wpAnyL_take (i := 8) (v := ?_) (by rw [List.getElem?_toArray]; rfl) (by decide +kernel) (by decide +kernel) (by decide +kernel) (by decide +kernel) (by decide +kernel) (fun _ _ _ h => h) hS0 (Or.inl ⟨by rfl, ?_⟩) ?_
    rotate_left
    · intro wz hSz; obtain ⟨z0, z1, z2, z3, z4, z5⟩ := hSz; go_simp; first | done | with_reducible rfl | (simp only [hi0, hib, hj0, hjb, hr0, hrb, and_self, if_true, Int.toNat_natCast]; first | done | with_reducible rfl) | (simp [hi0, hib, hj0, hjb, hr0, hrb]; first | done | with_reducible rfl)
    try simp only [Act.put, List.setIfInBounds_toArray, List.set_cons_zero, List.set_cons_succ]
    refine wpAnyL_take (i := 9) (v := ?_) (by rw [List.getElem?_toArray]; rfl) (by decide +kernel) (by decide +kernel) (by decide +kernel) (by decide +kernel) (by decide +kernel) (fun _ _ _ h => h) hS0 (Or.inl ⟨by rfl, ?_⟩) ?_
    rotate_left
    · intro wz hSz; obtain ⟨z0, z1, z2, z3, z4, z5⟩ := hSz; go_simp; first | done | with_reducible rfl | (simp only [hi0, hib, hj0, hjb, hr0, hrb, and_self, if_true, Int.toNat_natCast]; first | done | with_reducible rfl) | (simp [hi0, hib, hj0, hjb, hr0, hrb]; first | done | with_reducible rfl)
    try simp only [Act.put, List.setIfInBounds_toArray, List.set_cons_zero, List.set_cons_succ]
    refine wpAnyL_take (i := 10) (v := ?_) (by rw [List.getElem?_toArray]; rfl) (by decide +kernel) (by decide +kernel) (by decide +kernel) (by decide +kernel) (by decide +kernel) (fun _ _ _ h => h) hS0 (Or.inl ⟨by rfl, ?_⟩) ?_
    rotate_left
    · intro wz hSz; obtain ⟨z0, z1, z2, z3, z4, z5⟩ := hSz; go_simp; first | done | with_reducible rfl | (simp only [hi0, hib, hj0, hjb, hr0, hrb, and_self, if_true, Int.toNat_natCast]; first | done | with_reducible rfl) | (simp [hi0, hib, hj0, hjb, hr0, hrb]; first | done | with_reducible rfl)
    try simp only [Act.put, List.setIfInBounds_toArray, List.set_cons_zero, List.set_cons_succ]
    refine wpAnyL_take (i := 11) (v := ?_) (by rw [List.getElem?_toArray]; rfl) (by decide +kernel) (by decide +kernel) (by decide +kernel) (by decide +kernel) (by decide +kernel) (fun _ _ _ h => h) hS0 (Or.inl ⟨by rfl, ?_⟩) ?_
    rotate_left
    · intro wz hSz; obtain ⟨z0, z1, z2, z3, z4, z5⟩ := hSz; go_simp; first | done | with_reducible rfl | (simp only [hi0, hib, hj0, hjb, hr0, hrb, and_self, if_true, Int.toNat_natCast]; first | done | with_reducible rfl) | (simp [hi0, hib, hj0, hjb, hr0, hrb]; first | done | with_reducible rfl)
    try simp only [Act.put, List.setIfInBounds_toArray, List.set_cons_zero, List.set_cons_succ]
    refine wpAnyL_take (i := 12) (v := ?_) (by rw [List.getElem?_toArray]; rfl) (by decide +kernel) (by decide +kernel) (by decide +kernel) (by decide +kernel) (by decide +kernel) (fun _ _ _ h => h) hS0 (Or.inl ⟨by rfl, ?_⟩) ?_
    rotate_left
    · intro wz hSz; obtain ⟨z0, z1, z2, z3, z4, z5⟩ := hSz; go_simp; first | done | with_reducible rfl | (simp only [hi0, hib, hj0, hjb, hr0, hrb, and_self, if_true, Int.toNat_natCast]; first | done | with_reducible rfl) | (simp [hi0, hib, hj0, hjb, hr0, hrb]; first | done | with_reducible rfl)
    try simp only [Act.put, List.setIfInBounds_toArray, List.set_cons_zero, List.set_cons_succ]
    refine wpAnyL_take (i := 13) (v := ?_) (by rw [List.getElem?_toArray]; rfl) (by decide +kernel) (by decide +kernel) (by decide +kernel) (by decide +kernel) (by decide +kernel) (fun _ _ _ h => h) hS0 (Or.inl ⟨by rfl, ?_⟩) ?_
    rotate_left
    · intro wz hSz; obtain ⟨z0, z1, z2, z3, z4, z5⟩ := hSz; go_simp; first | done | with_reducible rfl | (simp only [hi0, hib, hj0, hjb, hr0, hrb, and_self, if_true, Int.toNat_natCast]; first | done | with_reducible rfl) | (simp [hi0, hib, hj0, hjb, hr0, hrb]; first | done | with_reducible rfl)
    try simp only [Act.put, List.setIfInBounds_toArray, List.set_cons_zero, List.set_cons_succ]
    refine wpAnyL_take (i := 14) (v := ?_) (by rw [List.getElem?_toArray]; rfl) (by decide +kernel) (by decide +kernel) (by decide +kernel) (by decide +kernel) (by decide +kernel) (fun _ _ _ h => h) hS0 (Or.inl ⟨by rfl, ?_⟩) ?_
    rotate_left
    · intro wz hSz; obtain ⟨z0, z1, z2, z3, z4, z5⟩ := hSz; go_simp; first | done | with_reducible rfl | (simp only [hi0, hib, hj0, hjb, hr0, hrb, and_self, if_true, Int.toNat_natCast]; first | done | with_reducible rfl) | (simp [hi0, hib, hj0, hjb, hr0, hrb]; first | done | with_reducible rfl)
    try simp only [Act.put, List.setIfInBounds_toArray, List.set_cons_zero, List.set_cons_succ]
    refine wpAnyL_take (i := 15) (v := ?_) (by rw [List.getElem?_toArray]; rfl) (by decide +kernel) (by decide +kernel) (by decide +kernel) (by decide +kernel) (by decide +kernel) (fun _ _ _ h => h) hS0 (Or.inl ⟨by rfl, ?_⟩) ?_
    rotate_left
    · intro wz hSz; obtain ⟨z0, z1, z2, z3, z4, z5⟩ := hSz; go_simp; first | done | with_reducible rfl | (simp only [hi0, hib, hj0, hjb, hr0, hrb, and_self, if_true, Int.toNat_natCast]; first | done | with_reducible rfl) | (simp [hi0, hib, hj0, hjb, hr0, hrb]; first | done | with_reducible rfl)
    try simp only [Act.put, List.setIfInBounds_toArray, List.set_cons_zero, List.set_cons_succ]
    refine wpAnyL_take (i := 16) (v := ?_) (by rw [List.getElem?_toArray]; rfl) (by decide +kernel) (by decide +kernel) (by decide +kernel) (by decide +kernel) (by decide +kernel) (fun _ _ _ h => h) hS0 (Or.inl ⟨by rfl, ?_⟩) ?_
    rotate_left
    · intro wz hSz; obtain ⟨z0, z1, z2, z3, z4, z5⟩ := hSz; go_simp; first | done | with_reducible rfl | (simp only [hi0, hib, hj0, hjb, hr0, hrb, and_self, if_true, Int.toNat_natCast]; first | done | with_reducible rfl) | (simp [hi0, hib, hj0, hjb, hr0, hrb]; first | done | with_reducible rfl)
    try simp only [Act.put, List.setIfInBounds_toArray, List.set_cons_zero, List.set_cons_succ]
    refine wpAnyL_take (i := 17) (v := ?_) (by rw [List.getElem?_toArray]; rfl) (by decide +kernel) (by decide +kernel) (by decide +kernel) (by decide +kernel) (by decide +kernel) (fun _ _ _ h => h) hS0 (Or.inl ⟨by rfl, ?_⟩) ?_
    rotate_left
    · intro wz hSz; obtain ⟨z0, z1, z2, z3, z4, z5⟩ := hSz; go_simp; first | done | with_reducible rfl | (simp only [hi0, hib, hj0, hjb, hr0, hrb, and_self, if_true, Int.toNat_natCast]; first | done | with_reducible rfl) | (simp [hi0, hib, hj0, hjb, hr0, hrb]; first | done | with_reducible rfl)
    try simp only [Act.put, List.setIfInBounds_toArray, List.set_cons_zero, List.set_cons_succ]
    refine wpAnyL_take (i := 18) (v := ?_) (by rw [List.getElem?_toArray]; rfl) (by decide +kernel) (by decide +kernel) (by decide +kernel) (by decide +kernel) (by decide +kernel) (fun _ _ _ h => h) hS0 (Or.inl ⟨by rfl, ?_⟩) ?_
    rotate_left
    · intro wz hSz; obtain ⟨z0, z1, z2, z3, z4, z5⟩ := hSz; go_simp; first | done | with_reducible rfl | (simp only [hi0, hib, hj0, hjb, hr0, hrb, and_self, if_true, Int.toNat_natCast]; first | done | with_reducible rfl) | (simp [hi0, hib, hj0, hjb, hr0, hrb]; first | done | with_reducible rfl)
    try simp only [Act.put, List.setIfInBounds_toArray, List.set_cons_zero, List.set_cons_succ]
    have f1 := HR1.out.1
    have f2 := HR1.out.2
    refine wpAnyL_one (i := 19) (by kernel_rfl) (by rw [List.getElem?_toArray]; rfl) (fun K hK => ?_)
    have HK : Hid _ := hK
    clear hK
    go_simp
    refine HK.out _ _ (fun _ => HS1.out) ?_
    clear HK K
    try simp only [Act.put, List.setIfInBounds_toArray, List.set_cons_zero, List.set_cons_succ]
    replace hS0 := HS1.out
    clear f1 f2
    refine wpAnyL_take (i := 20) (v := ?_) (by rw [List.getElem?_toArray]; rfl) (by decide +kernel) (by decide +kernel) (by decide +kernel) (by decide +kernel) (by decide +kernel) (fun _ _ _ h => h) hS0 (Or.inl ⟨by rfl, ?_⟩) ?_
    rotate_left
    · intro wz hSz; obtain ⟨z0, z1, z2, z3, z4, z5⟩ := hSz; go_simp; first | done | with_reducible rfl | (simp only [hi0, hib, hj0, hjb, hr0, hrb, and_self, if_true, Int.toNat_natCast]; first | done | with_reducible rfl) | (simp [hi0, hib, hj0, hjb, hr0, hrb]; first | done | with_reducible rfl)
    try simp only [Act.put, List.setIfInBounds_toArray, List.set_cons_zero, List.set_cons_succ]
    have f1 := HR2.out.1
    have f2 := HR2.out.2
    rw [HX1.out] at f1 f2
    replace f1 : (X.setCell ⟨h i, j, none⟩ (.int .i64 (y : Nat))).cell? ⟨h j, i, none⟩ = some (.int .i64 ((if j = i ∧ i = j then y else sqr k d c r j i) : Nat)) := f1
    replace f2 : X.frozen? ⟨h j, i, none⟩ = false := by
      have e : X.drew.frozen? ⟨h j, i, none⟩ = false := HR3.out
      exact e
    refine wpAnyL_one (i := 21) (by kernel_rfl) (by rw [List.getElem?_toArray]; rfl) (fun K hK => ?_)
    have HK : Hid _ := hK
    clear hK
    go_simp
    refine HK.out _ _ (fun _ => by have e := HS2.out; rw [HX1.out] at e; exact e) ?_
    clear HK K
    try simp only [Act.put, List.setIfInBounds_toArray, List.set_cons_zero, List.set_cons_succ]
    refine wpAnyL_done (by kernel_rfl) ?_
    have e2 : ((X.setCell ⟨h i, j, none⟩ (.int .i64 (y : Nat))).setCell ⟨h j, i, none⟩ (.int .i64 (y : Nat))).drew = X2 := by rw [HX2.out, HX1.out]; rfl
    rw [e2]
    clear e2 f1 f2 hS0
    have ca := HM2.out.2.1.cell 0 (by omega)
    have cf := HM2.out.2.1.free 0
    gi_wp2
    have hwf := HW.out
    have hbfl : bf < w.heap.size := hwf.2.2.2.2.2.2.1 _ rfl
    have e1 : ((r : Int) + 1) = ((r + 1 : Nat) : Int) := by omega
    rw [e1, ← HS0.out]
    have s2 := HS2.out
    rw [← HX2.out] at s2
    obtain ⟨q0, _, _, q3, _, _⟩ := s2
    refine ⟨HM2.out.2.2.2.1.trans (KpO.setCell _ _ _ (by rw [HOw.out]; exact Or.inl rfl)), HM2.out.1.keep (Below.heap_setCell _ _ _ _ (by show w0.heap.size ≠ oO + 1; omega)) (fun a ha => Below.heap_setCell _ _ _ _ (by have := hwf.2.2.2.2.1 a ha; show h a ≠ oO + 1; omega)), by rw [HS0.out]; exact q0, HM2.out.2.1.store 0 (r + 1) (fun t ht => by rw [if_pos (by omega)]), cell_other q3 (by omega), fun t ht => ?_, HM2.out.2.2.1.setCell (by show w.heap.size ≤ oO + 1; omega) _⟩
    obtain ⟨b, off, e, hcc⟩ := HM2.out.2.2.2.2 t ht
    cases e
    exact ⟨bf, of, rfl, cell_other hcc (by omega)⟩
  case done =>
    rintro De We hDe ⟨h1, h2, h3, h4, h5, h6⟩ hK
    have hwf := HW.out
    have HE : Hid (Mx w0.heap.size w0.heap.size d d d (sqr k d c nf) h (We.putObj De (.deferred none)) ∧ Below w.heap.size w (We.putObj De (.deferred none))) := by
      refine ⟨h1.keep (World.putObj_heap_other (by omega)) (fun a ha => World.putObj_heap_other (by have := hwf.2.2.2.2.1 a ha; omega)), ?_⟩
      exact h6.grown (grownBy_putObj' _ _ _) h6.size (fun k hk => by cases hk; omega)
    clear h1 h3 h4 h5 h6 hwf
    go_wp2
    refine ⟨by simp, .inl ⟨_, _, rfl, run_takeDeferred hK, ?_⟩⟩
    refine ⟨.slice (some ⟨w.heap.size + 1, 0, none⟩) d d, by simp [results, Try.results58, go_sem], ?_⟩
    exact ⟨_, h, rfl, by rw [← HS0.out]; exact HE.out.1.mono (by have := HS0.out; omega), HE.out.2⟩
end Go.Proofs.Ytbofcldmgjeklab
