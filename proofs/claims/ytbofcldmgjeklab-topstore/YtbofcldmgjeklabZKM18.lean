/- The file of a square: file (printed by make/km18.py). -/
import Derived.Test.YtbofcldmgjeklabZKM17
import Derived.Test.YtbofcldmgjeklabZK4
namespace Go.Proofs.Ytbofcldmgjeklab
open Go.RowKit Go.Sort Go.Shelf
attribute [local go_sem] Oper.semAt_some

/-- 'append' of one number where there is room, at a step of a region that draws its order. -/
theorem step_append_fit {ops : Array Oper} {o : Oper} {a : Act} {w : World} {K : Act → World → Prop} {Q : Exit → Act → World → Prop} {E : Prop} (hgd : o.guard = none) (s x : Operand)
    (ho : o.op = .call { callee := .builtin .append, args := #[s, x], argTypes := #[22, 22] })
    (base g cap : Nat) (l : List Int) (hs : a.eval s = .slice (some ⟨g, 0, none⟩) l.length cap) (hown : OwnI base (.slice (some ⟨g, 0, none⟩) l.length cap) l w) (ad : Addr) (c : Nat) (y : Int) (hx : a.eval x = .slice (some ad) 1 c) (hcell : w.cell? ad = some (.int .i64 y)) (hfit : l.length + 1 ≤ cap)
    (h : ∀ w', OwnI base (.slice (some ⟨g, 0, none⟩) (l.length + 1 : Nat) cap) (l ++ [y]) w' → w.grownBy w' (some g) → K (a.put o.dst (.slice (some ⟨g, 0, none⟩) (l.length + 1 : Nat) cap)) w') :
    if Region.wanted o (yielded ops a.tmps) = true then Oper.wp Try.prog o a w K Q else E := by
  have hw : Region.wanted o (yielded ops a.tmps) = true := by simp [Region.wanted, hgd]
  rw [if_pos hw]
  obtain ⟨i0, hi, hz0, hz1, hz2⟩ := info_parts Try.infoInt
  obtain ⟨w', hrun, r1, r2⟩ := run_append_fits (P := Try.prog) w base 22 o.type 3 i0 1 Try.underlying22 hi hz1 g l.length cap (l.map (Value.int .i64)) hown ad 1 c [.int .i64 y] rfl (by
    intro j u hj
    match j, hj with
    | 0, hj =>
      simp at hj; subst hj
      have : ad.add 0 = ad := by cases ad with | mk b o s => cases s <;> simp [Addr.add]
      rw [this]; exact hcell) (by intro u hu; simp at hu; subst hu; rfl) hfit
  unfold Oper.wp
  simp [execOp, ho, resolve, invoke, builtin, hs, hx, hrun, Result.andThen]
  refine h w' ?_ r2
  unfold OwnI
  rw [List.map_append, List.length_append]
  exact r1
/-- There is a list that has the square's numbers at their places. -/
theorem file_ex (k d : Nat) (Q : Nat → Nat → Nat) : ∃ c : Nat → Nat, ∀ i j, i < k → i ≤ j → j < d → c (plr k d i j) = Q i j := by
  classical
  refine ⟨fun r => if h : ∃ p : Nat × Nat, p.1 < k ∧ p.1 ≤ p.2 ∧ p.2 < d ∧ plr k d p.1 p.2 = r then Q (Classical.choose h).1 (Classical.choose h).2 else 0, fun i j hi hij hj => ?_⟩
  have h : ∃ p : Nat × Nat, p.1 < k ∧ p.1 ≤ p.2 ∧ p.2 < d ∧ plr k d p.1 p.2 = plr k d i j := ⟨(i, j), hi, hij, hj, rfl⟩
  have e := Classical.choose_spec h
  have e2 := plr_inj e.1 e.2.1 e.2.2.1 hi hij hj e.2.2.2
  show (if h : ∃ p : Nat × Nat, p.1 < k ∧ p.1 ≤ p.2 ∧ p.2 < d ∧ plr k d p.1 p.2 = plr k d i j then Q (Classical.choose h).1 (Classical.choose h).2 else 0) = Q i j
  rw [dif_pos h, e2.1, e2.2]
theorem ownI_grc {B base : Nat} {v : Value} {l : List Int} {X Y : World} (h : OwnI base v l X) (hg : GrC B X Y) (hb : ∀ k, v.ownBlock = some k → k < B) : OwnI base v l Y :=
  h.same (fun k hk => hg.same k (h.lt k hk).2 (Or.inl (hb k hk)))
theorem rowF_grc {T n B : Nat} {t : TypeId} {f : Nat → Value} {X Y : World} (h : RowF T n t f X) (hg : GrC B X Y) (hT : T < B) : RowF T n t f Y := h.other (hg.same T h.lt (Or.inl hT))
/-- What a round of file reads. -/
def FlS (oO bw G hi d mc i j y : Nat) (vo : Value) (w : World) : Prop :=
  w.cell? ⟨oO, 0, none⟩ = some vo ∧ w.cell? ⟨bw, 0, none⟩ = some (.slice (some ⟨G, 0, none⟩) d mc) ∧ w.cell? ⟨G, i, none⟩ = some (.slice (some ⟨hi, 0, none⟩) d d) ∧ w.cell? ⟨hi, j, none⟩ = some (.int .i64 (y : Nat))

set_option maxHeartbeats 8000000 in
set_option maxRecDepth 100000 in
theorem sfile_any {B F k d B0 G m mc n : Nat} {Q : Nat → Nat → Nat} {h : Nat → Nat} {w : World} (hP : PlA B F (n : Nat) (k : Nat) (d : Nat) w) (hk : k ≤ d) (hd : d ≤ 15) (hM : Mx B0 G m d d Q h w) :
    Calls Try.prog 63 #[.pointer (some ⟨B, 0, none⟩), .slice (some ⟨G, 0, none⟩) d mc] w fun e w' => ∃ v, ∃ c : Nat → Nat, e = .returned v ∧ OwnI w.heap.size v (zl (fsz k d) fun r => ((c r : Nat) : Int)) w' ∧ (∀ i j, i < k → i ≤ j → j < d → c (plr k d i j) = Q i j) ∧ Below w.heap.size w w' := by
  obtain ⟨c, hc⟩ := file_ex k d Q
  have HC : Hid (∀ i j, i < k → i ≤ j → j < d → c (plr k d i j) = Q i j) := hc
  obtain ⟨nf, hnf⟩ : ∃ nf, nf = fsz k d := ⟨_, rfl⟩
  have HNF : Hid (nf = pls k k + k * (d - k) ∧ nf = fsz k d) := ⟨hnf.trans (fsz_is k d), hnf⟩
  have hnf1 : nf ≤ 1000 := by have h := fsz_le hk hd; rw [hnf]; unfold fsz; omega
  obtain ⟨w0, hw0⟩ : ∃ w0, w0 = w.alloc (.cells #[.slice (some ⟨G, 0, none⟩) d mc] 39) := ⟨_, rfl⟩
  have hb0 : Below w.heap.size w w0 := by rw [hw0]; exact (Below.refl _ _).alloc (Nat.le_refl _) _
  have hs0 : w0.heap.size = w.heap.size + 1 := by rw [hw0]; simp
  have hx0 : w0.cell? ⟨w.heap.size, 0, none⟩ = some (.slice (some ⟨G, 0, none⟩) d mc) := by rw [hw0]; simp
  have HSz : Hid (Calls Try.prog 18 #[.pointer (some ⟨B, 0, none⟩)] w0 fun e w' => e = .returned (.int .i64 (nf : Nat)) ∧ ∃ j, w' = w0.drewN j) := by
    show Calls _ _ _ _ _
    rw [hnf]; exact psize_any (hP.below hb0) hk hd
  have H0 : Hid (PlA B F (n : Nat) (k : Nat) (d : Nat) w ∧ k ≤ d ∧ d ≤ 15 ∧ Mx B0 G m d d Q h w ∧ Below w.heap.size w w0 ∧ w0.heap.size = w.heap.size + 1 ∧ w0.cell? ⟨w.heap.size, 0, none⟩ = some (.slice (some ⟨G, 0, none⟩) d mc)) := ⟨hP, hk, hd, hM, hb0, hs0, hx0⟩
  obtain ⟨i0, hit, hz0, hz1, hz2⟩ := info_parts Try.infoInt
  clear hP hk hd hM hb0 hs0 hx0 hnf hc
  refine callsIn_wide.1 (callsIn_of_wp_marks (n := 0) Try.func63 rfl trivial ?_ rfl)
  refine wpIn_wide.2 ?_
  simp only [Try.ntmps63, List.size_toArray, List.length_cons, List.length_nil, Nat.reduceAdd, Nat.reduceSub, Array.replicate_succ, Array.replicate_zero, List.push_toArray, List.append_toArray, List.nil_append, List.cons_append]
  go_wp2_with fail
  rw [← hw0]
  refine HSz.out.mono ?_
  rintro e w' ⟨rfl, j0, hw⟩
  have HJ : Hid (Below w0.heap.size w0 w' ∧ w'.heap.size = w0.heap.size) := by rw [hw]; exact ⟨below_drewN2 (Below.refl _ _) _, rfl⟩
  clear hw
  go_wp2_with (at_make; refine wpList_make_own _ rfl _ _ 22 rfl w'.heap.size 3 i0 (.int .i64 0) 1 Try.underlying22 hit hz0 hz1 .i64 .i64 (nf : Int) nf rfl rfl rfl (by rw [hz2]; omega) (by unfold maxLen; omega) (Nat.le_refl _) ?_; intro w1 hown1 hgrow1)
  have hb1 : Below w'.heap.size w' w1 := below_grown hgrow1 (Nat.le_refl _) (fun k hk => by simp at hk)
  have hs0 := H0.out.2.2.2.2.2.1
  have hs' := HJ.out.2
  have hBl : B < w.heap.size := cell_lt H0.out.1.f
  have hs1 : w'.heap.size ≤ w1.heap.size := hb1.size
  obtain ⟨oO, hoO⟩ : ∃ oO, oO = w1.heap.size := ⟨_, rfl⟩
  obtain ⟨gL, hgL⟩ : ∃ gL, gL = w'.heap.size := ⟨_, rfl⟩
  obtain ⟨W, hW⟩ : ∃ W, W = w1.alloc (.cells #[.slice (some ⟨gL, 0, none⟩) 0 nf] 22) := ⟨_, rfl⟩
  have hbW : Below w1.heap.size w1 W := by rw [hW]; exact (Below.refl _ _).alloc (Nat.le_refl _) _
  have hsW : W.heap.size = oO + 1 := by rw [hW, hoO]; simp
  have hown0 : OwnI w'.heap.size (.slice (some ⟨gL, 0, none⟩) 0 nf) [] w1 := by rw [hgL]; exact hown1
  have hgo : gL < oO := by have := (hown0.lt gL rfl).2; omega
  have hbwW : Below w.heap.size w W := bel_up' (bel_up' (bel_up' H0.out.2.2.2.2.1 HJ.out.1) hb1) hbW
  have hxW : W.cell? ⟨w.heap.size, 0, none⟩ = some (.slice (some ⟨G, 0, none⟩) d mc) := ((bcell hbW).1 _ 0 (by omega)).trans (((bcell hb1).1 _ 0 (by omega)).trans (((bcell HJ.out.1).1 _ 0 (by omega)).trans H0.out.2.2.2.2.2.2))
  have hoW : RowF oO 1 22 (fun _ => .slice (some ⟨gL, 0, none⟩) (0 : Nat) nf) W := by
    refine ⟨#[.slice (some ⟨gL, 0, none⟩) 0 nf], ?_, rfl, fun o ho => ?_⟩
    · rw [hW, hoO]; exact World.alloc_heap_new _ _
    · rw [show o = 0 by omega]; rfl
  obtain ⟨own, hown⟩ : ∃ own : Nat → Prop, own = fun x => x = oO ∨ x = gL := ⟨_, rfl⟩
  have hPW := H0.out.1.below hbwW
  have hoB : ¬ own B := by
    rw [hown]
    rintro (e | e) <;> omega
  have hseq := places_seq (own := own) hPW H0.out.2.1 H0.out.2.2.1 hoB
  rw [← HNF.out.1] at hseq
  have HW : Hid (W.heap.size = oO + 1 ∧ gL < oO ∧ w.heap.size < gL ∧ k ≤ d ∧ G < w.heap.size ∧ ∀ i, i < d → h i < w.heap.size) := ⟨hsW, hgo, by omega, H0.out.2.1, H0.out.2.2.2.1.ltG, fun i hi => H0.out.2.2.2.1.lt i hi⟩
  have HI : Hid (OwnI gL (.slice (some ⟨gL, 0, none⟩) (0 : Nat) nf) (zl 0 fun r => ((c r : Nat) : Int)) W ∧ RowF oO 1 22 (fun _ => .slice (some ⟨gL, 0, none⟩) (0 : Nat) nf) W ∧ W.cell? ⟨w.heap.size, 0, none⟩ = some (.slice (some ⟨G, 0, none⟩) d mc) ∧ Mx B0 G m d d Q h W ∧ Below w.heap.size w W) := ⟨by
    have := hown0.below hbW (fun k hk => (hown0.lt k hk).2)
    rw [← hgL] at this
    exact this, hoW, hxW, H0.out.2.2.2.1.below hbwW, hbwW⟩
  have HQ : Hid (SeqB Try.prog 102 #[.pointer (some ⟨B, 0, none⟩)] #[] nf (PlE k d) own W) := hseq
  have HOw : Hid (own = fun x => x = oO ∨ x = gL) := hown
  have HWW : Hid (W = w1.alloc (.cells #[.slice (some ⟨gL, 0, none⟩) 0 nf] 22) ∧ oO = w1.heap.size ∧ gL = w'.heap.size) := ⟨hW, hoO, hgL⟩
  clear hW hoO hgL hb1 hbW hsW hown0 hgo hbwW hxW hoW hPW hoB hseq hs1 hs0 hs' hBl hown hown1 hgrow1
  rw [← HWW.out.2.2, ← HWW.out.2.1, ← HWW.out.1]
  refine range_lawB (gf := 102) (ra := #[.pointer (some ⟨B, 0, none⟩)]) (lb := #[]) rfl (enters_of Try.func102 (by kernel_rfl) rfl) HQ.out (fun x e => by
      rw [HOw.out] at e
      have h1 := HW.out
      rcases e with e | e <;> omega) (fun r args X he => by obtain ⟨i, j, ha, _⟩ := he; rw [ha]; rfl)
    (fun r X => OwnI gL (.slice (some ⟨gL, 0, none⟩) (r : Nat) nf) (zl r fun r => ((c r : Nat) : Int)) X ∧ RowF oO 1 22 (fun _ => .slice (some ⟨gL, 0, none⟩) (r : Nat) nf) X ∧ X.cell? ⟨w.heap.size, 0, none⟩ = some (.slice (some ⟨G, 0, none⟩) d mc) ∧ Mx B0 G m d d Q h X ∧ Below w.heap.size w X) ?stable (fun r args X Y he hg => he) ?start
    (fun args => { tmps := #[.pointer (some ⟨B, 0, none⟩), .slice (some ⟨G, 0, none⟩) d mc, undef, .pointer (some ⟨w.heap.size, 0, none⟩), .slice none 0 0, .pointer (some ⟨oO, 0, none⟩), args.getD 0 undef, args.getD 1 undef, .pointer (some ⟨B, 0, none⟩), .int .i64 (nf : Nat), .slice (some ⟨gL, 0, none⟩) 0 nf, .pointer (some ⟨B, 0, none⟩), .func (.func 102) #[.pointer (some ⟨B, 0, none⟩)] #[], args.getD 0 undef, args.getD 1 undef, undef, undef, undef, undef, undef, undef, undef, undef, undef, undef, undef], defers := [] })
    ?assign ?body ?done
  case stable =>
    rintro r X Y ⟨h1, h2, h3, h4, h5⟩ hg
    have hw := HW.out
    refine ⟨ownI_grc h1 hg (fun k hk => by cases hk; show gL < _; omega), rowF_grc h2 hg (by omega), cell_grc h3 hg (by omega), mx_grc h4 hg (by omega) (fun i hi => by have := hw.2.2.2.2.2 i hi; omega), ?_⟩
    exact h5.trans ⟨hg.os, hg.tape, hg.output, hg.size, fun i hi => hg.same i (by have := h5.size; omega) (Or.inl (by omega))⟩
  case start => exact HI.out
  case assign =>
    intro l r args X K he hK
    obtain ⟨i, j, ha, _⟩ := he
    subst ha
    gi_wp2
    exact hK
  case body =>
    rintro l r args X hr ⟨h1, h2, h3, h4, h5⟩ he
    obtain ⟨i, j, ha, hi, hij, hj, hre⟩ := ple_is HW.out.2.2.2.1 he
    subst ha
    clear he
    have hid : i < d := by omega
    have hib : (i : Int) < (d : Int) := by omega
    have hjb : (j : Int) < (d : Int) := by omega
    have hi0 : (0 : Int) ≤ (i : Int) := by omega
    have hj0 : (0 : Int) ≤ (j : Int) := by omega
    obtain ⟨y, hy⟩ : ∃ y, y = Q i j := ⟨_, rfl⟩
    have hco := h2.cell 0 (by omega)
    have hfo := h2.free 0
    have hci := h4.cell i hid
    have hcj := (h4.row i hid).cell j hj
    rw [← hy] at hcj
    have HY : Hid (y = c r) := by show y = c r; rw [hy, hre, HC.out i j hi hij hj]
    have HX : Hid (OwnI gL (.slice (some ⟨gL, 0, none⟩) (r : Nat) nf) (zl r fun r => ((c r : Nat) : Int)) X ∧ RowF oO 1 22 (fun _ => .slice (some ⟨gL, 0, none⟩) (r : Nat) nf) X ∧ X.cell? ⟨w.heap.size, 0, none⟩ = some (.slice (some ⟨G, 0, none⟩) d mc) ∧ Mx B0 G m d d Q h X ∧ Below w.heap.size w X) := ⟨h1, h2, h3, h4, h5⟩
    have hXs := h5.size
    obtain ⟨X1, hX1⟩ : ∃ X1, X1 = X.drew.alloc (.cells #[.int .i64 (y : Nat)] 3) := ⟨_, rfl⟩
    have hX1' : (X.alloc (.cells #[.int .i64 (y : Nat)] 3)).drew = X1 := by rw [hX1]; rfl
    have hb1 : Below X.heap.size X X1 := by rw [hX1]; exact (Below.refl _ _).drew.alloc (Nat.le_refl _) _
    have HX1 : Hid (Below X.heap.size X X1 ∧ X1.heap.size = X.heap.size + 1 ∧ X1.cell? ⟨X.heap.size, 0, none⟩ = some (.int .i64 (y : Nat))) := ⟨hb1, by rw [hX1]; simp, by rw [hX1]; exact two_cell X.drew (.int .i64 (y : Nat))⟩
    have hS0 : FlS oO w.heap.size G (h i) d mc i j y (.slice (some ⟨gL, 0, none⟩) (r : Nat) nf) X.drew := ⟨hco, h3, hci, hcj⟩
    have HS1 : Hid (FlS oO w.heap.size G (h i) d mc i j y (.slice (some ⟨gL, 0, none⟩) (r : Nat) nf) X1) := ⟨((bcell hb1).1 _ _ (cell_lt hco)).trans hco, ((bcell hb1).1 _ _ (cell_lt h3)).trans h3, ((bcell hb1).1 _ _ (cell_lt hci)).trans hci, ((bcell hb1).1 _ _ (cell_lt hcj)).trans hcj⟩
    have HXe : Hid (X1 = X.drew.alloc (.cells #[.int .i64 (y : Nat)] 3) ∧ (X.alloc (.cells #[.int .i64 (y : Nat)] 3)).drew = X1) := ⟨hX1, hX1'⟩
    clear h1 h2 h4 h5 hre hy hb1 hX1 hX1'
    gi_wp2
    refine round_region_L (S := FlS oO w.heap.size G (h i) d mc i j y (.slice (some ⟨gL, 0, none⟩) (r : Nat) nf)) [10] (by rintro ⟨a, w, h⟩; exact absurd h.1 (by intro h; cases h)) (by kernel_rfl) (by kernel_rfl) ?_
    refine wpAnyL_take (i := 0) (v := ?_) (by rw [List.getElem?_toArray]; rfl) (by decide +kernel) (by decide +kernel) (by decide +kernel) (by decide +kernel) (by decide +kernel) (fun _ _ _ h => h) hS0 (Or.inl ⟨by rfl, ?_⟩) ?_
    rotate_left
    · intro wz hSz; obtain ⟨z0, z1, z2, z3⟩ := hSz; go_simp; first | done | with_reducible rfl | (simp only [hi0, hib, hj0, hjb, and_self, if_true, Int.toNat_natCast]; first | done | with_reducible rfl) | (simp [hi0, hib, hj0, hjb]; first | done | with_reducible rfl)
    try simp only [Act.put, List.setIfInBounds_toArray, List.set_cons_zero, List.set_cons_succ]
    refine wpAnyL_take (i := 1) (v := ?_) (by rw [List.getElem?_toArray]; rfl) (by decide +kernel) (by decide +kernel) (by decide +kernel) (by decide +kernel) (by decide +kernel) (fun _ _ _ h => h) hS0 (Or.inl ⟨by rfl, ?_⟩) ?_
    rotate_left
    · intro wz hSz; obtain ⟨z0, z1, z2, z3⟩ := hSz; go_simp; first | done | with_reducible rfl | (simp only [hi0, hib, hj0, hjb, and_self, if_true, Int.toNat_natCast]; first | done | with_reducible rfl) | (simp [hi0, hib, hj0, hjb]; first | done | with_reducible rfl)
    try simp only [Act.put, List.setIfInBounds_toArray, List.set_cons_zero, List.set_cons_succ]
    refine wpAnyL_take (i := 2) (v := ?_) (by rw [List.getElem?_toArray]; rfl) (by decide +kernel) (by decide +kernel) (by decide +kernel) (by decide +kernel) (by decide +kernel) (fun _ _ _ h => h) hS0 (Or.inl ⟨by rfl, ?_⟩) ?_
    rotate_left
    · intro wz hSz; obtain ⟨z0, z1, z2, z3⟩ := hSz; go_simp; first | done | with_reducible rfl | (simp only [hi0, hib, hj0, hjb, and_self, if_true, Int.toNat_natCast]; first | done | with_reducible rfl) | (simp [hi0, hib, hj0, hjb]; first | done | with_reducible rfl)
    try simp only [Act.put, List.setIfInBounds_toArray, List.set_cons_zero, List.set_cons_succ]
    refine wpAnyL_take (i := 3) (v := ?_) (by rw [List.getElem?_toArray]; rfl) (by decide +kernel) (by decide +kernel) (by decide +kernel) (by decide +kernel) (by decide +kernel) (fun _ _ _ h => h) hS0 (Or.inl ⟨by rfl, ?_⟩) ?_
    rotate_left
    · intro wz hSz; obtain ⟨z0, z1, z2, z3⟩ := hSz; go_simp; first | done | with_reducible rfl | (simp only [hi0, hib, hj0, hjb, and_self, if_true, Int.toNat_natCast]; first | done | with_reducible rfl) | (simp [hi0, hib, hj0, hjb]; first | done | with_reducible rfl)
    try simp only [Act.put, List.setIfInBounds_toArray, List.set_cons_zero, List.set_cons_succ]
    refine wpAnyL_take (i := 4) (v := ?_) (by rw [List.getElem?_toArray]; rfl) (by decide +kernel) (by decide +kernel) (by decide +kernel) (by decide +kernel) (by decide +kernel) (fun _ _ _ h => h) hS0 (Or.inl ⟨by rfl, ?_⟩) ?_
    rotate_left
    · intro wz hSz; obtain ⟨z0, z1, z2, z3⟩ := hSz; go_simp; first | done | with_reducible rfl | (simp only [hi0, hib, hj0, hjb, and_self, if_true, Int.toNat_natCast]; first | done | with_reducible rfl) | (simp [hi0, hib, hj0, hjb]; first | done | with_reducible rfl)
    try simp only [Act.put, List.setIfInBounds_toArray, List.set_cons_zero, List.set_cons_succ]
    refine wpAnyL_take (i := 5) (v := ?_) (by rw [List.getElem?_toArray]; rfl) (by decide +kernel) (by decide +kernel) (by decide +kernel) (by decide +kernel) (by decide +kernel) (fun _ _ _ h => h) hS0 (Or.inl ⟨by rfl, ?_⟩) ?_
    rotate_left
    · intro wz hSz; obtain ⟨z0, z1, z2, z3⟩ := hSz; go_simp; first | done | with_reducible rfl | (simp only [hi0, hib, hj0, hjb, and_self, if_true, Int.toNat_natCast]; first | done | with_reducible rfl) | (simp [hi0, hib, hj0, hjb]; first | done | with_reducible rfl)
    try simp only [Act.put, List.setIfInBounds_toArray, List.set_cons_zero, List.set_cons_succ]
    refine wpAnyL_take (i := 6) (v := ?_) (by rw [List.getElem?_toArray]; rfl) (by decide +kernel) (by decide +kernel) (by decide +kernel) (by decide +kernel) (by decide +kernel) (fun _ _ _ h => h) hS0 (Or.inl ⟨by rfl, ?_⟩) ?_
    rotate_left
    · intro wz hSz; obtain ⟨z0, z1, z2, z3⟩ := hSz; go_simp; first | done | with_reducible rfl | (simp only [hi0, hib, hj0, hjb, and_self, if_true, Int.toNat_natCast]; first | done | with_reducible rfl) | (simp [hi0, hib, hj0, hjb]; first | done | with_reducible rfl)
    try simp only [Act.put, List.setIfInBounds_toArray, List.set_cons_zero, List.set_cons_succ]
    refine wpAnyL_take (i := 7) (v := ?_) (by rw [List.getElem?_toArray]; rfl) (by decide +kernel) (by decide +kernel) (by decide +kernel) (by decide +kernel) (by decide +kernel) (fun _ _ _ h => h) hS0 (Or.inl ⟨by rfl, ?_⟩) ?_
    rotate_left
    · intro wz hSz; obtain ⟨z0, z1, z2, z3⟩ := hSz; go_simp; first | done | with_reducible rfl | (simp only [hi0, hib, hj0, hjb, and_self, if_true, Int.toNat_natCast]; first | done | with_reducible rfl) | (simp [hi0, hib, hj0, hjb]; first | done | with_reducible rfl)
    try simp only [Act.put, List.setIfInBounds_toArray, List.set_cons_zero, List.set_cons_succ]
    refine wpAnyL_one (i := 8) (by kernel_rfl) (by rw [List.getElem?_toArray]; rfl) (fun K hK => ?_)
    have HK : Hid _ := hK
    clear hK
    go_simp
    first | rw [HXe.out.2] | rw [← HXe.out.1]
    refine HK.out _ _ (fun _ => HS1.out) ?_
    clear HK K
    try simp only [Act.put, List.setIfInBounds_toArray, List.set_cons_zero, List.set_cons_succ]

    refine wpAnyL_one (i := 9) (by kernel_rfl) (by rw [List.getElem?_toArray]; rfl) (fun K hK => ?_)
    refine step_append_fit (by rfl) _ _ (by rfl) gL gL nf (zl r fun r => ((c r : Nat) : Int)) (by rw [zl_len]; rfl) (by rw [zl_len]; exact HX.out.1.below HX1.out.1 (fun k hk => (HX.out.1.lt k hk).2)) ⟨X.heap.size, 0, none⟩ 1 (y : Int) (by rfl) HX1.out.2.2 (by rw [zl_len]; omega) ?_
    intro X2 hown2 hgrow2
    rw [zl_len] at hown2 ⊢
    have HX2 : Hid (OwnI gL (.slice (some ⟨gL, 0, none⟩) (r + 1 : Nat) nf) (zl (r + 1) fun r => ((c r : Nat) : Int)) X2 ∧ X1.grownBy X2 (some gL)) := ⟨by
      rw [zl_succ, ← HY.out]; exact hown2, hgrow2⟩
    have HS2 : Hid (FlS oO w.heap.size G (h i) d mc i j y (.slice (some ⟨gL, 0, none⟩) (r : Nat) nf) X2) := by
      obtain ⟨a0, a1, a2, a3⟩ := HS1.out
      have hwf := HW.out
      have hhi := hwf.2.2.2.2.2 i hid
      exact ⟨hgrow2.cell a0 (fun e => by have e : oO = gL := Option.some.inj e; omega), hgrow2.cell a1 (fun e => by have e : w.heap.size = gL := Option.some.inj e; omega), hgrow2.cell a2 (fun e => by have e : G = gL := Option.some.inj e; omega), hgrow2.cell a3 (fun e => by have e : h i = gL := Option.some.inj e; omega)⟩
    refine hK _ _ (fun _ => HS2.out) ?_
    clear hK K hown2 hgrow2
    try simp only [Act.put, List.setIfInBounds_toArray, List.set_cons_zero, List.set_cons_succ]
    have hwf := HW.out
    have hr2 : RowF oO 1 22 (fun _ => .slice (some ⟨gL, 0, none⟩) (r : Nat) nf) X2 := (HX.out.2.1.below HX1.out.1 HX.out.2.1.lt).grown HX2.out.2 (fun e => by cases e; omega)
    have c2 := hr2.cell 0 (by omega)
    have f2 := hr2.free 0
    have HR3 : Hid (RowF oO 1 22 (fun _ => .slice (some ⟨gL, 0, none⟩) (r + 1 : Nat) nf) (X2.setCell ⟨oO, 0, none⟩ (.slice (some ⟨gL, 0, none⟩) (r + 1 : Nat) nf))) := (hr2.store 0 _).congr (fun o ho => by rw [show o = 0 by omega]; rfl)
    clear hr2 hwf
    refine wpAnyL_one (i := 10) (by kernel_rfl) (by rw [List.getElem?_toArray]; rfl) (fun K hK => ?_)
    have HK : Hid _ := hK
    clear hK
    go_simp
    refine HK.out _ _ (fun h => absurd (by simp) h) ?_
    clear HK K
    try simp only [Act.put, List.setIfInBounds_toArray, List.set_cons_zero, List.set_cons_succ]
    refine wpAnyL_done (by kernel_rfl) ?_
    clear c2 f2
    gi_wp2
    have hwf := HW.out
    have hXs := HX.out.2.2.2.2.size
    have hk1 : KpO own X X1 := KpO.of_below HX1.out.1
    have hg2 := HX2.out.2
    have hk2 : KpO own X1 X2 := ⟨hg2.os, hg2.tape, hg2.output, hg2.size, fun x hx hn => hg2.block x hx (fun e => hn (by rw [HOw.out]; exact Or.inr (Option.some.inj e)))⟩
    have hb2 : Below w.heap.size w X2 := (bel_up' HX.out.2.2.2.2 HX1.out.1).trans (below_grown hg2 (by have := HX1.out.1.size; omega) (fun x hx => by cases hx; omega))
    have hs2 := HS2.out
    refine ⟨(hk1.trans hk2).trans (KpO.setCell _ _ _ (by rw [HOw.out]; exact Or.inl rfl)), HX2.out.1.same (fun x hx => Below.heap_setCell _ _ _ _ (by cases hx; show gL ≠ oO; omega)), HR3.out, cell_other hs2.2.1 (by omega), ?_, hb2.setCell (by show w.heap.size ≤ oO; omega) _⟩
    have hM1 := HX.out.2.2.2.1.below HX1.out.1
    have hM2 : Mx B0 G m d d Q h X2 := hM1.keep (hg2.block G hM1.ltG (fun e => by have e : G = gL := Option.some.inj e; omega)) (fun a ha => hg2.block (h a) (hM1.lt a ha) (fun e => by have e : h a = gL := Option.some.inj e; have := hwf.2.2.2.2.2 a ha; omega))
    exact hM2.keep (Below.heap_setCell _ _ _ _ (by show G ≠ oO; omega)) (fun a ha => Below.heap_setCell _ _ _ _ (by have := hwf.2.2.2.2.2 a ha; show h a ≠ oO; omega))
  case done =>
    rintro De We hDe ⟨h1, h2, h3, h4, h5⟩ hK
    have hwf := HW.out
    have c2 := h2.cell 0 (by omega)
    have HE : Hid (OwnI gL (.slice (some ⟨gL, 0, none⟩) (nf : Nat) nf) (zl nf fun r => ((c r : Nat) : Int)) (We.putObj De (.deferred none)) ∧ Below w.heap.size w (We.putObj De (.deferred none))) := by
      refine ⟨h1.same (fun x hx => World.putObj_heap_other (by cases hx; show gL ≠ De; omega)), ?_⟩
      exact h5.grown (grownBy_putObj' _ _ _) h5.size (fun k hk => by cases hk; omega)
    have HgL : Hid (w.heap.size ≤ gL) := by have := HW.out; show w.heap.size ≤ gL; omega
    clear h1 h2 h3 h4 h5 hwf
    go_wp2
    refine ⟨by simp, .inl ⟨_, _, rfl, run_takeDeferred hK, ?_⟩⟩
    refine ⟨.slice (some ⟨gL, 0, none⟩) nf nf, by simp [results, Try.results63, go_sem], ?_⟩
    exact ⟨_, c, rfl, by rw [← HNF.out.2]; exact HE.out.1.mono HgL.out, HC.out, HE.out.2⟩
end Go.Proofs.Ytbofcldmgjeklab
