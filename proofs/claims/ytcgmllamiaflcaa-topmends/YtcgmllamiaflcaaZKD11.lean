/- The program's reed: byEquations (printed by make/kd11.py). -/
import Derived.Test.YtcgmllamiaflcaaZS29
import Derived.Test.YtcgmllamiaflcaaZX20
namespace Go.Proofs.Ytcgmllamiaflcaa
open Go.RowKit Go.Sort

/-- The equations as they lie: i of them laid. -/
structure EqS (G H n W i b2 : Nat) (vs : Nat → Value) (M : Nat → Nat → Nat) (rt : Nat → Nat) (w : World) : Prop where
  rows : RowF G n 22 (fun r => if r < i then vs r else .slice none 0 0) w
  right : Row H n (fun r => if r < i then rt r else 0) w
  own : ∀ r, r < i → OwnP b2 (vs r) W (M r) w
  lG : G < b2
  lH : H < b2
  ne : G ≠ H
theorem EqS.below {G H n W i b2 : Nat} {vs : Nat → Value} {M : Nat → Nat → Nat} {rt : Nat → Nat} {w w' : World} (h : EqS G H n W i b2 vs M rt w) (hb : Below w.heap.size w w') : EqS G H n W i b2 vs M rt w' :=
  ⟨h.rows.below hb h.rows.lt, h.right.below hb h.right.lt, fun r hr => (h.own r hr).below hb (Nat.le_refl _), h.lG, h.lH, h.ne⟩
theorem EqS.step {G H n W i b2 : Nat} {vs : Nat → Value} {M : Nat → Nat → Nat} {rt : Nat → Nat} {v : Value} {w w' : World} (h : EqS G H n W i b2 vs M rt w) (hb : Below w.heap.size w w') (hv : OwnP w.heap.size v W (M i) w') (hb2 : b2 ≤ w.heap.size) :
    EqS G H n W (i + 1) b2 (fun r => if r = i then v else vs r) M rt ((w'.setCell ⟨G, i, none⟩ v).setCell ⟨H, i, none⟩ (.int .i64 (rt i : Nat))) := by
  have h' := h.below hb
  have hlG := h.lG
  have hlH := h.lH
  refine ⟨?_, ?_, fun r hr => ?_, h.lG, h.lH, h.ne⟩
  · refine ((h'.rows.store i v).setOther _ h.ne _).congr (fun o _ => ?_)
    show (if o = i then v else if o < i then vs o else .slice none 0 0) = if o < i + 1 then (if o = i then v else vs o) else .slice none 0 0
    by_cases e : o = i
    · rw [if_pos e, if_pos (by omega), if_pos e]
    · rw [if_neg e, if_neg e]
      by_cases e2 : o < i
      · rw [if_pos e2, if_pos (by omega)]
      · rw [if_neg e2, if_neg (by omega)]
  · refine (h'.right.other (Below.heap_setCell w' ⟨G, i, none⟩ v H (fun e => h.ne e.symm))).store i (rt i) (fun j _ => ?_)
    by_cases e : j = i
    · rw [if_pos e, if_pos (by omega), e]
    · rw [if_neg e]
      by_cases e2 : j < i
      · rw [if_pos e2, if_pos (by omega)]
      · rw [if_neg e2, if_neg (by omega)]
  · by_cases e : r = i
    · rw [if_pos e, e]
      exact ((hv.mono hb2).setOther _ (fun g hg => by have := (hv.mono hb2).block g hg; show g ≠ G; omega) _).setOther _ (fun g hg => by have := (hv.mono hb2).block g hg; show g ≠ H; omega) _
    · rw [if_neg e]
      have ho := h'.own r (by omega)
      exact (ho.setOther _ (fun g hg => by have := ho.block g hg; show g ≠ G; omega) _).setOther _ (fun g hg => by have := ho.block g hg; show g ≠ H; omega) _
theorem EqS.mat {G H n W b2 : Nat} {vs : Nat → Value} {M : Nat → Nat → Nat} {rt : Nat → Nat} {w : World} (h : EqS G H n W n b2 vs M rt w) (hW : W ≤ 1000000) : MatZ (some ⟨G, 0, none⟩) n (fun r => slA (vs r)) (fun _ => W) (fun r => slC (vs r)) (fun r j => ((M r j : Nat) : Int)) w := by
  have key : ∀ i, i < n → vs i = .slice (slA (vs i)) W (slC (vs i)) ∧ Arg (slA (vs i)) W (slC (vs i)) (fun j => ((M i j : Nat) : Int)) w := fun i hi => by
    obtain ⟨so, sc, hv, ha⟩ := (h.own i hi).arg hW
    rw [hv]
    exact ⟨rfl, ha⟩
  refine ⟨fun i hi => ⟨G, 0, rfl, ?_⟩, fun i hi => (key i hi).2.sl, fun i hi => (key i hi).2.le, fun i hi => (key i hi).2.cap, fun i hi => (key i hi).2.nil, fun i hi => hW⟩
  rw [Nat.zero_add, h.rows.cell i hi, if_pos hi]
  exact congrArg some (key i hi).1
theorem rwq_el {D : FD} (F : Fld D) (x y long wr : Nat) : El D (rwq D x y long wr) := fun c => by
  unfold rwq
  split
  · exact xp_lt F _ _
  · split
    · exact ng_lt F (F.mul_lt _ _)
    · exact zero_lt' F
theorem rwq_bd (D : FD) (x y long wr : Nat) : Bd (long + wr) (rwq D x y long wr) := fun c hc => by
  unfold rwq
  rw [if_neg (by omega), if_neg (by omega)]
/-- What Solve says of the equations. -/
def SqP (D : FD) (n k wr : Nat) (xs y : Nat → Nat) (wx : World) (e : Ending) (w' : World) : Prop := Below wx.heap.size wx w' ∧ (((∀ a, ¬ (El D a ∧ Bd k a ∧ 2 * ofs D k n xs y a ≤ n - k)) ∧ e = .returned (.tuple #[.slice none 0 0, .bool false, .int .i64 0])) ∨ ∃ s gx, El D s ∧ (∀ a, El D a → Bd k a → 2 * ofs D k n xs y a ≤ n - k → cutN (k + wr) s = pmul D k a (eqE wr (k + wr) s)) ∧ e = .returned (.tuple #[.slice (some ⟨gx, 0, none⟩) (k + wr + wr) (k + wr + wr), .bool true, .int .i64 0]) ∧ wx.heap.size ≤ gx ∧ Row gx (k + wr + wr) s w')
theorem solve_eqs {D : FD} (hD : D ∈ fieldsL) {G H n k wr b2 : Nat} {vs : Nat → Value} {xs y : Nat → Nat} {w : World} (h : EqS G H n (k + wr + wr) n b2 vs (fun i => rwq D (xs i) (y i) (k + wr) wr) (fun i => D.mul (y i) (D.xp (xs i) wr)) w) (hn : n ≤ 64) (hk1 : 1 ≤ k) (hk : k ≤ n) (hwr : wr = (n - k) / 2) (hx : ∀ i, i < n → xs i < D.q) (hne : ∀ i j, i < n → j < n → i ≠ j → xs i ≠ xs j) :
    Calls Try.prog 58 #[.int .i64 D.q, .slice (some ⟨G, 0, none⟩) n n, .slice (some ⟨H, 0, none⟩) n n] w (SqP D n k wr xs y w) := by
  have F := fld hD
  obtain ⟨W, hW⟩ : ∃ W, W = k + wr + wr := ⟨_, rfl⟩
  have hWn : W ≤ n := by omega
  rw [← hW] at h
  have hmc := mchk_nat (D := D) (m := n) (P := W) (V := fun i => rwq D (xs i) (y i) (k + wr) wr) hn (by omega) (by omega) (fun i => rwq_el F _ _ _ _)
  have hrt : Sl (some ⟨H, 0, none⟩) n (fun i => D.mul (y i) (D.xp (xs i) wr)) w := (h.right.sl (Nat.le_refl _)).congr (fun j hj => if_pos hj)
  have hall : D.allHas (fun j => ((D.mul (y j) (D.xp (xs j) wr) : Nat) : Int)) n = true := allHas_iff.2 (fun j _ => has_of_lt (F.mul_lt _ _))
  have hzM : ∀ i, mzc (fun _ => W) (fun i j => ((rwq D (xs i) (y i) (k + wr) wr j : Nat) : Int)) i = rwq D (xs i) (y i) (k + wr) wr := fun i => zc_nat (by rw [hW]; exact rwq_bd D _ _ _ _)
  have hzb : ∀ i, i < n → zc n (fun j => ((D.mul (y j) (D.xp (xs j) wr) : Nat) : Int)) i = D.mul (y i) (D.xp (xs i) wr) := fun i hi => by
    unfold zc
    rw [if_pos hi]; exact Int.toNat_natCast _
  refine (msolve_row hD (ca := n) (cb := n) (h.mat (by omega)) (by omega) hrt.z).mono ?_
  rintro e w' ⟨hb, ⟨h1, _⟩ | ⟨_, h1, _⟩ | ⟨_, _, k', R, p, W', _, h4, h5, h6, hh⟩⟩
  · exact absurd hmc h1
  · rw [hall] at h1; cases h1
  · have hW' : W' = W := h4 (by omega)
    subst hW'
    have hel : ∀ i, i < n → El D (mzc (fun _ => W') (fun i j => ((rwq D (xs i) (y i) (k + wr) wr j : Nat) : Int)) i) := fun i _ => by rw [hzM]; exact rwq_el F _ _ _ _
    have hbq : ∀ i, i < n → zc n (fun j => ((D.mul (y j) (D.xp (xs j) wr) : Nat) : Int)) i < D.q := fun i hi => by rw [hzb i hi]; exact F.mul_lt _ _
    refine ⟨hb, ?_⟩
    rcases hh with ⟨⟨i, g1, g2, g3⟩, rfl⟩ | ⟨h7, gx, rfl, h8, h9, _⟩
    · refine Or.inl ⟨fun a ha => g3 ?_, rfl⟩
      obtain ⟨u, hu⟩ := eqs_have F (wr := wr) (y := y) hx (a := a) (k := k) (by have := ha.2.2; omega)
      refine sol_meets F h5 hel hbq h6 (u := u) (fun j hj => ?_) i g1 g2
      rw [hzM, hzb j hj, hW]
      exact hu j hj
    · obtain ⟨s1, s2⟩ := sol_is F h5 h7 hel hbq h6
      refine Or.inr ⟨slx R p W' k', gx, s1, fun a ea ba ho => ?_, by rw [hW], h8, by rw [← hW]; exact h9⟩
      refine eqs_find F (y := y) (by omega) hx hne s1 (fun i hi => ?_) (by omega)
      have := s2 i hi
      rw [hzM, hzb i hi, hW] at this
      rw [hW]
      exact this

def EqI2 (D : FD) (n k wr : Nat) (xs y : Nat → Nat) (G H b2 : Nat) (w1 : World) (vi : Value) (wr' : World) : Prop := ∃ (i : Nat) (vs : Nat → Value), i ≤ n ∧ vi = .int .i64 (i : Nat) ∧ Hid (EqS G H n (k + wr + wr) i b2 vs (fun i => rwq D (xs i) (y i) (k + wr) wr) (fun i => D.mul (y i) (D.xp (xs i) wr)) wr' ∧ Below w1.heap.size w1 wr' ∧ b2 ≤ wr'.heap.size ∧ w1.heap.size ≤ G ∧ w1.heap.size ≤ H)

set_option maxHeartbeats 16000000 in
set_option maxRecDepth 100000 in
theorem byEquations_any {F T : Nat} {D : FD} (hD : D ∈ fieldsL) {g : Nat → Value} {w : World} (hat : FAt F T D g w) {xo yo : Option Addr} {n k xc yc : Nat} {xs y : Nat → Nat} (hX : Arg xo n xc (fun j => ((xs j : Nat) : Int)) w) (hY : Arg yo n yc (fun j => ((y j : Nat) : Int)) w) (hn : n ≤ 64) (hk1 : 1 ≤ k) (hk : k ≤ n) (hx : ∀ i, i < n → xs i < D.q) (hne : ∀ i j, i < n → j < n → i ≠ j → xs i ≠ xs j) (hy : ∀ i, i < n → y i < D.q) :
    Calls Try.prog 34 #[.agg #[.pointer (some ⟨F, 0, none⟩), .int .i64 (k : Nat), .slice xo n xc, .slice yo n yc]] w (FindP D n k xs y w) := by
  obtain ⟨w0, hw0⟩ : ∃ w0, w0 = w.alloc (.cells #[.pointer (some ⟨F, 0, none⟩), .int .i64 (k : Nat), .slice xo n xc, .slice yo n yc] 80) := ⟨_, rfl⟩
  have hb0 : Below w.heap.size w w0 := by rw [hw0]; exact (Below.refl _ _).alloc (Nat.le_refl _) _
  have hs0 : w0.heap.size = w.heap.size + 1 := by rw [hw0]; simp
  have r0 : RowF w.heap.size 4 80 (hbx' #[.pointer (some ⟨F, 0, none⟩), .int .i64 (k : Nat), .slice xo n xc, .slice yo n yc]) w0 := by rw [hw0]; exact rowF_new _ _ _ _ rfl
  have HBx : Hid (∀ wx, Below w0.heap.size w0 wx → wx.cell? ⟨w.heap.size, 0, none⟩ = some (.pointer (some ⟨F, 0, none⟩)) ∧ wx.cell? ⟨w.heap.size, 1, none⟩ = some (.int .i64 (k : Nat)) ∧ wx.cell? ⟨w.heap.size, 2, none⟩ = some (.slice xo n xc) ∧ wx.cell? ⟨w.heap.size, 3, none⟩ = some (.slice yo n yc)) := fun wx hb => by
    have h := r0.below hb (by omega)
    exact ⟨h.cell 0 (by omega), h.cell 1 (by omega), h.cell 2 (by omega), h.cell 3 (by omega)⟩
  have HF : Hid (D ∈ fieldsL ∧ FAt F T D g w0 ∧ Arg xo n xc (fun j => ((xs j : Nat) : Int)) w0 ∧ Arg yo n yc (fun j => ((y j : Nat) : Int)) w0 ∧ Below w.heap.size w w0) := ⟨hD, hat.below hb0 hat.ltF hat.ltT, hX.below hb0, hY.below hb0, hb0⟩
  have HX : Hid ((∀ i, i < n → xs i < D.q) ∧ (∀ i j, i < n → j < n → i ≠ j → xs i ≠ xs j) ∧ ∀ i, i < n → y i < D.q) := ⟨hx, hne, hy⟩
  have HFt : Hid (∀ wx, Below w0.heap.size w0 wx → FAt F T D g wx) := fun wx hb => HF.out.2.1.below hb HF.out.2.1.ltF HF.out.2.1.ltT
  have hn1 : 1 ≤ n := by omega
  have HSp : Hid (∀ wx, Calls Try.prog 56 #[.agg #[.pointer (some ⟨F, 0, none⟩), .int .i64 (k : Nat), .slice xo n xc, .slice yo n yc]] wx fun e w' => e = .returned (.int .i64 ((n : Int) - (k : Int))) ∧ Below wx.heap.size wx w') := fun wx => spare_any F (k : Nat) xo yo n xc n yc (by omega) (by omega) (by omega) wx
  clear hD hat hX hY hb0 r0 hx hne hy
  obtain ⟨wr, hwr⟩ : ∃ wr, wr = (n - k) / 2 := ⟨_, rfl⟩
  obtain ⟨long, hlong⟩ : ∃ long, long = k + wr := ⟨_, rfl⟩
  have hq2 : Int.tdiv ((n : Int) - (k : Int)) 2 = (wr : Int) := by
    rw [Int.tdiv_eq_ediv_of_nonneg (by omega)]; omega
  have hlw : (k : Int) + (wr : Int) = (long : Int) := by omega
  have hwr64 : wr ≤ 32 := by omega
  have hl64 : long ≤ 64 := by omega
  have hlW : long + wr ≤ 64 := by omega
  have HL : Hid (wr = (n - k) / 2 ∧ long = k + wr) := ⟨hwr, hlong⟩
  clear hwr hlong
  obtain ⟨b0, b1, b2, b3⟩ := HBx.out w0 (Below.refl _ _)
  have hl0 : w.heap.size < w0.heap.size := by omega
  go_enter Try.func34, Try.ntmps34
  go_wp2_with fail
  rw [← hw0]
  clear hw0
  refine (HSp.out w0).mono ?_
  rintro e w1 ⟨rfl, hb1⟩
  have H1 : Hid (Below w0.heap.size w0 w1) := hb1
  clear hb1 b0 b1 b2 b3
  obtain ⟨b0, b1, b2, b3⟩ := HBx.out w1 H1.out
  have hl1 : w.heap.size < w1.heap.size := by have := H1.out.size; omega
  go_upto_region 3 with fail
  go_cut [6, 7] (fun v6 v7 wx => ∃ G H, v6 = .slice (some ⟨G, 0, none⟩) n n ∧ v7 = .slice (some ⟨H, 0, none⟩) n n ∧ Hid (RowF G n 22 (fun _ => .slice none 0 0) wx ∧ Row H n pnil wx ∧ G ≠ H ∧ w1.heap.size ≤ G ∧ w1.heap.size ≤ H ∧ Below w1.heap.size w1 wx))
  case first =>
    have HSk : Hid (∀ wx, Below w1.heap.size w1 wx → wx.cell? ⟨w.heap.size, 2, none⟩ = some (.slice xo n xc)) := fun wx hb => (HBx.out wx (bel_up' H1.out hb)).2.2.1
    have hS0 := HSk.out w1.drew (Below.refl _ _).drew
    clear b0 b1 b2 b3
    refine wp_region_noPanic ?_
    refine wp_region_L (S := fun wz => wz.cell? ⟨w.heap.size, 2, none⟩ = some (.slice xo n xc)) [] (by kernel_rfl) ?_
    refine wpAnyL_take (i := 0) (v := ?_) (by rw [List.getElem?_toArray]; rfl) (by decide +kernel) (by decide +kernel) (by decide +kernel) (by decide +kernel) (by decide +kernel) (fun _ _ _ h => h) hS0 (Or.inl ⟨by rfl, ?_⟩) ?_
    rotate_left
    · intro wz hSz; have z0 : wz.cell? ⟨w.heap.size, 2, none⟩ = some (.slice xo n xc) := hSz; go_simp; first | done | with_reducible rfl | (trace_state; simp [hcb1, hcb2, hcb3]; first | done | with_reducible rfl)
    try simp only [Act.put, List.setIfInBounds_toArray, List.set_cons_zero, List.set_cons_succ]
    refine wpAnyL_take (i := 1) (v := ?_) (by rw [List.getElem?_toArray]; rfl) (by decide +kernel) (by decide +kernel) (by decide +kernel) (by decide +kernel) (by decide +kernel) (fun _ _ _ h => h) hS0 (Or.inl ⟨by rfl, ?_⟩) ?_
    rotate_left
    · intro wz hSz; have z0 : wz.cell? ⟨w.heap.size, 2, none⟩ = some (.slice xo n xc) := hSz; go_simp; first | done | with_reducible rfl | (trace_state; simp [hcb1, hcb2, hcb3]; first | done | with_reducible rfl)
    try simp only [Act.put, List.setIfInBounds_toArray, List.set_cons_zero, List.set_cons_succ]
    refine wpAnyL_take (i := 2) (v := ?_) (by rw [List.getElem?_toArray]; rfl) (by decide +kernel) (by decide +kernel) (by decide +kernel) (by decide +kernel) (by decide +kernel) (fun _ _ _ h => h) hS0 (Or.inl ⟨by rfl, ?_⟩) ?_
    rotate_left
    · intro wz hSz; have z0 : wz.cell? ⟨w.heap.size, 2, none⟩ = some (.slice xo n xc) := hSz; go_simp; first | done | with_reducible rfl | (trace_state; simp [hcb1, hcb2, hcb3]; first | done | with_reducible rfl)
    try simp only [Act.put, List.setIfInBounds_toArray, List.set_cons_zero, List.set_cons_succ]
    refine wpAnyL_take (i := 4) (v := ?_) (by rw [List.getElem?_toArray]; rfl) (by decide +kernel) (by decide +kernel) (by decide +kernel) (by decide +kernel) (by decide +kernel) (fun _ _ _ h => h) hS0 (Or.inl ⟨by rfl, ?_⟩) ?_
    rotate_left
    · intro wz hSz; have z0 : wz.cell? ⟨w.heap.size, 2, none⟩ = some (.slice xo n xc) := hSz; go_simp; first | done | with_reducible rfl | (trace_state; simp [hcb1, hcb2, hcb3]; first | done | with_reducible rfl)
    try simp only [Act.put, List.setIfInBounds_toArray, List.set_cons_zero, List.set_cons_succ]
    refine wpAnyL_take (i := 5) (v := ?_) (by rw [List.getElem?_toArray]; rfl) (by decide +kernel) (by decide +kernel) (by decide +kernel) (by decide +kernel) (by decide +kernel) (fun _ _ _ h => h) hS0 (Or.inl ⟨by rfl, ?_⟩) ?_
    rotate_left
    · intro wz hSz; have z0 : wz.cell? ⟨w.heap.size, 2, none⟩ = some (.slice xo n xc) := hSz; go_simp; first | done | with_reducible rfl | (trace_state; simp [hcb1, hcb2, hcb3]; first | done | with_reducible rfl)
    try simp only [Act.put, List.setIfInBounds_toArray, List.set_cons_zero, List.set_cons_succ]
    refine wpAnyL_take (i := 6) (v := ?_) (by rw [List.getElem?_toArray]; rfl) (by decide +kernel) (by decide +kernel) (by decide +kernel) (by decide +kernel) (by decide +kernel) (fun _ _ _ h => h) hS0 (Or.inl ⟨by rfl, ?_⟩) ?_
    rotate_left
    · intro wz hSz; have z0 : wz.cell? ⟨w.heap.size, 2, none⟩ = some (.slice xo n xc) := hSz; go_simp; first | done | with_reducible rfl | (trace_state; simp [hcb1, hcb2, hcb3]; first | done | with_reducible rfl)
    try simp only [Act.put, List.setIfInBounds_toArray, List.set_cons_zero, List.set_cons_succ]
    refine wpAnyL_two (i := 3) (k := 7) (by kernel_rfl) (by rw [List.getElem?_toArray]; rfl) (by rw [List.getElem?_toArray]; rfl) (fun K hK => ?_) (fun K hK => ?_)
    · have HK : Hid _ := hK
      clear hK
      refine step_make_sls rfl _ _ rfl n rfl rfl (by omega) ?_
      intro w2 hr2 hb2 hs2
      have H2 : Hid (Below w1.heap.size w1 w2) := bel_up' (Below.refl _ _).drew hb2
      have hS2 := HSk.out _ H2.out
      refine HK.out _ _ (fun _ => hS2) ?_
      clear HK K
      try simp only [Act.put, List.setIfInBounds_toArray, List.set_cons_zero, List.set_cons_succ]
      refine wpAnyL_take (i := 8) (v := ?_) (by rw [List.getElem?_toArray]; rfl) (by decide +kernel) (by decide +kernel) (by decide +kernel) (by decide +kernel) (by decide +kernel) (fun _ _ _ h => h) hS2 (Or.inl ⟨by rfl, ?_⟩) ?_
      rotate_left
      · intro wz hSz; have z0 : wz.cell? ⟨w.heap.size, 2, none⟩ = some (.slice xo n xc) := hSz; go_simp; first | done | with_reducible rfl | (trace_state; simp [hcb1, hcb2, hcb3]; first | done | with_reducible rfl)
      try simp only [Act.put, List.setIfInBounds_toArray, List.set_cons_zero, List.set_cons_succ]
      refine wpAnyL_one (i := 7) (by kernel_rfl) (by rw [List.getElem?_toArray]; rfl) (fun K hK => ?_)
      have HK : Hid _ := hK
      clear hK
      refine step_make_int rfl _ _ rfl n rfl rfl (by omega) ?_
      intro w3 hr3 hb3 hs3
      have H3 : Hid (Below w1.heap.size w1 w3) := bel_up' H2.out hb3
      have hS3 := HSk.out _ H3.out
      refine HK.out _ _ (fun _ => hS3) ?_
      clear HK K
      try simp only [Act.put, List.setIfInBounds_toArray, List.set_cons_zero, List.set_cons_succ]
      refine wpAnyL_take (i := 9) (v := ?_) (by rw [List.getElem?_toArray]; rfl) (by decide +kernel) (by decide +kernel) (by decide +kernel) (by decide +kernel) (by decide +kernel) (fun _ _ _ h => h) hS3 (Or.inl ⟨by rfl, ?_⟩) ?_
      rotate_left
      · intro wz hSz; have z0 : wz.cell? ⟨w.heap.size, 2, none⟩ = some (.slice xo n xc) := hSz; go_simp; first | done | with_reducible rfl | (trace_state; simp [hcb1, hcb2, hcb3]; first | done | with_reducible rfl)
      try simp only [Act.put, List.setIfInBounds_toArray, List.set_cons_zero, List.set_cons_succ]
      refine wpAnyL_done (by kernel_rfl) (NoPanic.normal ?_)
      have HR : Hid (RowF w1.heap.size n 22 (fun _ => .slice none 0 0) w3 ∧ Row (w1.heap.size + 1) n pnil w3 ∧ w1.heap.size ≠ w1.heap.size + 1 ∧ w1.heap.size ≤ w1.heap.size ∧ w1.heap.size ≤ w1.heap.size + 1 ∧ Below w1.heap.size w1 w3) := by
        have e2 : w2.heap.size = w1.heap.size + 1 := hs2
        have hr2' := hr2.below hb3 hr2.lt
        rw [e2] at hr3
        exact ⟨hr2', hr3, by omega, by omega, by omega, H3.out⟩
      clear hr2 hr3 hb2 hb3 hs2 hs3 hS0 hS2 hS3
      go_wp2
      go_meet
      case rel => exact ⟨_, _, rfl, rfl, HR.out⟩
    · have HK : Hid _ := hK
      clear hK
      refine step_make_int rfl _ _ rfl n rfl rfl (by omega) ?_
      intro w2 hr2 hb2 hs2
      have H2 : Hid (Below w1.heap.size w1 w2) := bel_up' (Below.refl _ _).drew hb2
      have hS2 := HSk.out _ H2.out
      refine HK.out _ _ (fun _ => hS2) ?_
      clear HK K
      try simp only [Act.put, List.setIfInBounds_toArray, List.set_cons_zero, List.set_cons_succ]
      refine wpAnyL_one (i := 3) (by kernel_rfl) (by rw [List.getElem?_toArray]; rfl) (fun K hK => ?_)
      have HK : Hid _ := hK
      clear hK
      refine step_make_sls rfl _ _ rfl n rfl rfl (by omega) ?_
      intro w3 hr3 hb3 hs3
      have H3 : Hid (Below w1.heap.size w1 w3) := bel_up' H2.out hb3
      have hS3 := HSk.out _ H3.out
      refine HK.out _ _ (fun _ => hS3) ?_
      clear HK K
      try simp only [Act.put, List.setIfInBounds_toArray, List.set_cons_zero, List.set_cons_succ]
      refine wpAnyL_take (i := 8) (v := ?_) (by rw [List.getElem?_toArray]; rfl) (by decide +kernel) (by decide +kernel) (by decide +kernel) (by decide +kernel) (by decide +kernel) (fun _ _ _ h => h) hS3 (Or.inl ⟨by rfl, ?_⟩) ?_
      rotate_left
      · intro wz hSz; have z0 : wz.cell? ⟨w.heap.size, 2, none⟩ = some (.slice xo n xc) := hSz; go_simp; first | done | with_reducible rfl | (trace_state; simp [hcb1, hcb2, hcb3]; first | done | with_reducible rfl)
      try simp only [Act.put, List.setIfInBounds_toArray, List.set_cons_zero, List.set_cons_succ]
      refine wpAnyL_take (i := 9) (v := ?_) (by rw [List.getElem?_toArray]; rfl) (by decide +kernel) (by decide +kernel) (by decide +kernel) (by decide +kernel) (by decide +kernel) (fun _ _ _ h => h) hS3 (Or.inl ⟨by rfl, ?_⟩) ?_
      rotate_left
      · intro wz hSz; have z0 : wz.cell? ⟨w.heap.size, 2, none⟩ = some (.slice xo n xc) := hSz; go_simp; first | done | with_reducible rfl | (trace_state; simp [hcb1, hcb2, hcb3]; first | done | with_reducible rfl)
      try simp only [Act.put, List.setIfInBounds_toArray, List.set_cons_zero, List.set_cons_succ]
      refine wpAnyL_done (by kernel_rfl) (NoPanic.normal ?_)
      have HR : Hid (RowF (w1.heap.size + 1) n 22 (fun _ => .slice none 0 0) w3 ∧ Row w1.heap.size n pnil w3 ∧ w1.heap.size + 1 ≠ w1.heap.size ∧ w1.heap.size ≤ w1.heap.size + 1 ∧ w1.heap.size ≤ w1.heap.size ∧ Below w1.heap.size w1 w3) := by
        have e2 : w2.heap.size = w1.heap.size + 1 := hs2
        have hr2' := hr2.below hb3 hr2.lt
        rw [e2] at hr3
        exact ⟨hr3, hr2', by omega, by omega, by omega, H3.out⟩
      clear hr2 hr3 hb2 hb3 hs2 hs3 hS0 hS2 hS3
      go_wp2
      go_meet
      case rel => exact ⟨_, _, rfl, rfl, HR.out⟩
  case rest =>
  obtain ⟨G, H, rfl, rfl, HC⟩ := hcut
  rename World => w2
  clear b0 b1 b2 b3
  have HQ : Hid (EqI2 D n k wr xs y G H w2.heap.size w1 (.int .i64 (0 : Nat)) w2) := ⟨0, fun _ => .slice none 0 0, by omega, rfl, ⟨HC.out.1.congr (fun o _ => (if_neg (by omega)).symm), HC.out.2.1.congr (fun o _ => (if_neg (by omega)).symm), fun r hr => absurd hr (by omega), HC.out.1.lt, HC.out.2.1.lt, HC.out.2.2.1⟩, HC.out.2.2.2.2.2, Nat.le_refl _, HC.out.2.2.2.1, HC.out.2.2.2.2.1⟩
  obtain ⟨bs, hbs⟩ : ∃ bs, bs = w2.heap.size := ⟨_, rfl⟩
  rw [← hbs] at HQ
  clear hbs HC
  go_wp2
  go_loopw [29] (fun vi wx => EqI2 D n k wr xs y G H bs w1 vi wx) (fun vi _ => n - (intOf vi).toNat)
  case atStart => exact HQ.out
  case round =>
    clear HQ
    obtain ⟨i, vs, hi, rfl, HI⟩ := hrel
    rename World => wA
    obtain ⟨b0, b1, b2, b3⟩ := HBx.out wA (bel_up' H1.out HI.out.2.1)
    have hlA : w.heap.size < wA.heap.size := by have := HI.out.2.1.size; omega
    by_cases hlt : i < n
    · have hib : (i : Int) < (n : Int) := by omega
      have hi0 : (0 : Int) ≤ (i : Int) := by omega
      have HEq : Hid (Calls Try.prog 57 #[.agg #[.pointer (some ⟨F, 0, none⟩), .int .i64 (k : Nat), .slice xo n xc, .slice yo n yc], .int .i64 (i : Nat), .int .i64 (long : Nat), .int .i64 (wr : Nat)] wA fun e w' => ∃ v, e = .returned (.tuple #[v, .int .i64 (D.mul (y i) (D.xp (xs i) wr) : Nat)]) ∧ OwnI wA.heap.size v (zl (long + wr) fun c => ((rwq D (xs i) (y i) long wr c : Nat) : Int)) w' ∧ Below wA.heap.size wA w') := by
        have hb := bel_up' H1.out HI.out.2.1
        exact equation_any HF.out.1 (HFt.out wA hb) (HF.out.2.2.1.below hb) (HF.out.2.2.2.1.below hb) HX.out.1 HX.out.2.2 i long wr hlt (by omega) (by omega)
      obtain ⟨rv, hrv⟩ : ∃ rv, rv = D.mul (y i) (D.xp (xs i) wr) := ⟨_, rfl⟩
      rw [← hrv] at HEq
      go_wp2_with fail
      refine HEq.out.mono ?_
      rintro e w4 ⟨v, rfl, hv, hb4⟩
      have hv4 : OwnP wA.heap.size v (k + wr + wr) (rwq D (xs i) (y i) (k + wr) wr) w4 := by
        have h := hv.ownC (rwq D (xs i) (y i) long wr) (fun c hc => by rw [zl_len] at hc; exact zl_getD _ _ c hc)
        rw [zl_len, HL.out.2] at h
        exact h
      obtain ⟨ro, rc, rfl, _⟩ := hv4.arg (by omega)
      have hS4 := HI.out.1.below hb4
      have hcG := hS4.rows.cell i hlt
      have hfG := hS4.rows.free i
      have hcH := hS4.right.cell i hlt
      have hfH := hS4.right.free i
      have hst := HI.out.1.step hb4 hv4 HI.out.2.2.1
      rw [← hrv] at hst
      have hGH : G ≠ H := hS4.ne
      rw [if_neg (by omega)] at hcG hcH
      have hcH2 := (hS4.right.other (Below.heap_setCell w4 ⟨G, i, none⟩ (.slice ro (k + wr + wr : Nat) rc) H (fun e => hGH e.symm))).cell i hlt
      rw [if_neg (by omega)] at hcH2
      have HS : Hid (EqI2 D n k wr xs y G H bs w1 (.int .i64 ((i : Nat) + 1 : Int)) ((w4.setCell ⟨G, i, none⟩ (.slice ro (k + wr + wr : Nat) rc)).setCell ⟨H, i, none⟩ (.int .i64 (rv : Nat)))) := by
        refine ⟨i + 1, _, by omega, rfl, hst, ((bel_up' HI.out.2.1 hb4).setCell HI.out.2.2.2.1 _).setCell HI.out.2.2.2.2 _, ?_, HI.out.2.2.2⟩
        have := HI.out.2.2.1
        have := hb4.size
        simp
        omega
      clear hv hb4 hv4 hst hrv hS4
      go_wp2
      go_roundw
      case rel => exact HS.out
      case measure => simp [intOf]; omega
    · have hib : ¬ (i : Int) < (n : Int) := by omega
      have hie : n = i := by omega
      subst hie
      have HSv : Hid (Calls Try.prog 58 #[.int .i64 D.q, .slice (some ⟨G, 0, none⟩) n n, .slice (some ⟨H, 0, none⟩) n n] wA (SqP D n k wr xs y wA)) := solve_eqs HF.out.1 HI.out.1 hn hk1 hk HL.out.1 HX.out.1 HX.out.2.1
      have HBA : Hid (Below w0.heap.size w0 wA) := bel_up' H1.out HI.out.2.1
      go_wp2_with fail
      refine (size_any (HFt.out wA HBA.out)).mono ?_
      rintro e w' ⟨rfl, hw⟩
      have hw := hw.symm
      subst hw
      go_wp2_with fail
      refine HSv.out.mono ?_
      rintro e w5 ⟨hb5, ⟨hno, rfl⟩ | ⟨s, gx, es, hs, rfl, hgx, hrow⟩⟩
      · have H5 : Hid (FindP D n k xs y w (.returned (.tuple #[.slice none 0 0, .bool false])) w5) := by
          refine ⟨bel_up' HF.out.2.2.2.2 (bel_up' HBA.out hb5), _, _, 0, pnil, rfl, ⟨none, 0, rfl, Nat.le_refl _, by omega, fun x hx => (by cases hx), fun x hx => (by cases hx), fun _ => rfl, fun h => absurd h (by omega)⟩, el_nil (fld HF.out.1), ⟨fun _ _ => rfl, fun h => absurd rfl h⟩, by omega, fun a ea ba ho => absurd ⟨ea, ba, ho⟩ (hno a)⟩
        clear hb5 hno
        go_wp2
        go_ret2
        exact H5.out
      · have H5 : Hid (Below w0.heap.size w0 w5 ∧ El D s ∧ (∀ a, El D a → Bd k a → 2 * ofs D k n xs y a ≤ n - k → cutN (k + wr) s = pmul D k a (eqE wr (k + wr) s)) ∧ Row gx (k + wr + wr) s w5) := ⟨bel_up' HBA.out hb5, es, hs, hrow⟩
        clear hb5 es hs hrow HSv HI
        obtain ⟨W, hW⟩ : ∃ W, W = k + wr + wr := ⟨_, rfl⟩
        rw [← hW] at H5 ⊢
        clear b0 b1 b2 b3
        obtain ⟨b0, b1, b2, b3⟩ := HBx.out w5 H5.out.1
        have hl5 : w.heap.size < w5.heap.size := by have := H5.out.1.size; omega
        have hlW2 : W = long + wr := by rw [hW, HL.out.2]
        have hcb1 : (0 : Int) ≤ (long : Int) := by omega
        have hcb2 : (long : Int) ≤ (W : Int) := by omega
        have hcb3 : W - long = wr := by omega
        have HW : Hid (W = k + wr + wr ∧ W = long + wr) := ⟨hW, hlW2⟩
        have hgx5 : gx < w5.heap.size := H5.out.2.2.2.lt
        clear hW hlW2
        go_upto_region 12 with fail
        by_cases hwz : wr = 0
        · subst hwz
          have hWl : long = W := by rw [HW.out.2]; rfl
          subst hWl
          have HSk : Hid (∀ wx, Below w5.heap.size w5 wx → wx.cell? ⟨w.heap.size, 0, none⟩ = some (.pointer (some ⟨F, 0, none⟩))) := fun wx hb => (HBx.out wx (bel_up' H5.out.1 hb)).1
          have hS0 := HSk.out w5.drew (Below.refl _ _).drew
          clear b0 b1 b2 b3
          refine wp_region_noPanic ?_
          refine wp_region_L (S := fun wz => wz.cell? ⟨w.heap.size, 0, none⟩ = some (.pointer (some ⟨F, 0, none⟩))) [] (by kernel_rfl) ?_
          refine wpAnyL_take (i := 0) (v := ?_) (by rw [List.getElem?_toArray]; rfl) (by decide +kernel) (by decide +kernel) (by decide +kernel) (by decide +kernel) (by decide +kernel) (fun _ _ _ h => h) hS0 (Or.inl ⟨by rfl, ?_⟩) ?_
          rotate_left
          · intro wz hSz; have z0 : wz.cell? ⟨w.heap.size, 0, none⟩ = some (.pointer (some ⟨F, 0, none⟩)) := hSz; go_simp; first | done | with_reducible rfl | (trace_state; simp [hcb1, hcb2, hcb3]; first | done | with_reducible rfl)
          try simp only [Act.put, List.setIfInBounds_toArray, List.set_cons_zero, List.set_cons_succ]
          refine wpAnyL_take (i := 1) (v := ?_) (by rw [List.getElem?_toArray]; rfl) (by decide +kernel) (by decide +kernel) (by decide +kernel) (by decide +kernel) (by decide +kernel) (fun _ _ _ h => h) hS0 (Or.inl ⟨by rfl, ?_⟩) ?_
          rotate_left
          · intro wz hSz; have z0 : wz.cell? ⟨w.heap.size, 0, none⟩ = some (.pointer (some ⟨F, 0, none⟩)) := hSz; go_simp; first | done | with_reducible rfl | (trace_state; simp [hcb1, hcb2, hcb3]; first | done | with_reducible rfl)
          try simp only [Act.put, List.setIfInBounds_toArray, List.set_cons_zero, List.set_cons_succ]
          refine wpAnyL_take (i := 2) (v := ?_) (by rw [List.getElem?_toArray]; rfl) (by decide +kernel) (by decide +kernel) (by decide +kernel) (by decide +kernel) (by decide +kernel) (fun _ _ _ h => h) hS0 (Or.inl ⟨by rfl, ?_⟩) ?_
          rotate_left
          · intro wz hSz; have z0 : wz.cell? ⟨w.heap.size, 0, none⟩ = some (.pointer (some ⟨F, 0, none⟩)) := hSz; go_simp; first | done | with_reducible rfl | (trace_state; simp [hcb1, hcb2, hcb3]; first | done | with_reducible rfl)
          try simp only [Act.put, List.setIfInBounds_toArray, List.set_cons_zero, List.set_cons_succ]
          refine wpAnyL_take (i := 3) (v := ?_) (by rw [List.getElem?_toArray]; rfl) (by decide +kernel) (by decide +kernel) (by decide +kernel) (by decide +kernel) (by decide +kernel) (fun _ _ _ h => h) hS0 (Or.inl ⟨by rfl, ?_⟩) ?_
          rotate_left
          · intro wz hSz; have z0 : wz.cell? ⟨w.heap.size, 0, none⟩ = some (.pointer (some ⟨F, 0, none⟩)) := hSz; go_simp; first | done | with_reducible rfl | (trace_state; simp [hcb1, hcb2, hcb3]; first | done | with_reducible rfl)
          try simp only [Act.put, List.setIfInBounds_toArray, List.set_cons_zero, List.set_cons_succ]
          refine wpAnyL_take (i := 4) (v := ?_) (by rw [List.getElem?_toArray]; rfl) (by decide +kernel) (by decide +kernel) (by decide +kernel) (by decide +kernel) (by decide +kernel) (fun _ _ _ h => h) hS0 (Or.inl ⟨by rfl, ?_⟩) ?_
          rotate_left
          · intro wz hSz; have z0 : wz.cell? ⟨w.heap.size, 0, none⟩ = some (.pointer (some ⟨F, 0, none⟩)) := hSz; go_simp; first | done | with_reducible rfl | (trace_state; simp [hcb1, hcb2, hcb3]; first | done | with_reducible rfl)
          try simp only [Act.put, List.setIfInBounds_toArray, List.set_cons_zero, List.set_cons_succ]
          refine wpAnyL_take (i := 5) (v := ?_) (by rw [List.getElem?_toArray]; rfl) (by decide +kernel) (by decide +kernel) (by decide +kernel) (by decide +kernel) (by decide +kernel) (fun _ _ _ h => h) hS0 (Or.inl ⟨by rfl, ?_⟩) ?_
          rotate_left
          · intro wz hSz; have z0 : wz.cell? ⟨w.heap.size, 0, none⟩ = some (.pointer (some ⟨F, 0, none⟩)) := hSz; go_simp; first | done | with_reducible rfl | (trace_state; simp [hcb1, hcb2, hcb3]; first | done | with_reducible rfl)
          try simp only [Act.put, List.setIfInBounds_toArray, List.set_cons_zero, List.set_cons_succ]
          refine wpAnyL_take (i := 6) (v := ?_) (by rw [List.getElem?_toArray]; rfl) (by decide +kernel) (by decide +kernel) (by decide +kernel) (by decide +kernel) (by decide +kernel) (fun _ _ _ h => h) hS0 (Or.inl ⟨by rfl, ?_⟩) ?_
          rotate_left
          · intro wz hSz; have z0 : wz.cell? ⟨w.heap.size, 0, none⟩ = some (.pointer (some ⟨F, 0, none⟩)) := hSz; go_simp; first | done | with_reducible rfl | (trace_state; simp [hcb1, hcb2, hcb3]; first | done | with_reducible rfl)
          try simp only [Act.put, List.setIfInBounds_toArray, List.set_cons_zero, List.set_cons_succ]
          refine wpAnyL_take (i := 7) (v := ?_) (by rw [List.getElem?_toArray]; rfl) (by decide +kernel) (by decide +kernel) (by decide +kernel) (by decide +kernel) (by decide +kernel) (fun _ _ _ h => h) hS0 (Or.inl ⟨by rfl, ?_⟩) ?_
          rotate_left
          · intro wz hSz; have z0 : wz.cell? ⟨w.heap.size, 0, none⟩ = some (.pointer (some ⟨F, 0, none⟩)) := hSz; go_simp; first | done | with_reducible rfl | (trace_state; simp [hcb1, hcb2, hcb3]; first | done | with_reducible rfl)
          try simp only [Act.put, List.setIfInBounds_toArray, List.set_cons_zero, List.set_cons_succ]
          refine wpAnyL_one (i := 8) (by kernel_rfl) (by rw [List.getElem?_toArray]; rfl) (fun K hK => ?_)
          have HK : Hid _ := hK
          clear hK
          go_simp
          obtain ⟨w6, hw6⟩ : ∃ w6, w6 = w5.drew.alloc (.cells #[.int .i64 1] 3) := ⟨_, rfl⟩
          have G6 : Hid (Below w5.heap.size w5 w6 ∧ w6.heap.size = w5.heap.size + 1 ∧ w6.cell? ⟨w5.heap.size, 0, none⟩ = some (.int .i64 ((1 : Nat) : Int))) := by
            rw [hw6]; exact ⟨(Below.refl _ _).drew.alloc (Nat.le_refl _) _, by simp, by have h := two_cell w5.drew (.int .i64 1); exact h⟩
          have hw6' : (w5.alloc (.cells #[.int .i64 1] 3)).drew = w6 := by rw [hw6]; rfl
          first | rw [hw6'] | rw [← hw6]
          refine HK.out _ _ (fun _ => HSk.out _ G6.out.1) ?_
          clear HK K hw6 hw6'
          try simp only [Act.put, List.setIfInBounds_toArray, List.set_cons_zero, List.set_cons_succ]
          refine wpAnyL_one (i := 9) (by kernel_rfl) (by rw [List.getElem?_toArray]; rfl) (fun K hK => ?_)
          have HK : Hid _ := hK
          clear hK
          refine step_append_full (by rfl) _ _ (by rfl) _ 0 (fun j => s (long + j)) (by rfl) (fun j hj => absurd hj (by omega)) ⟨w5.heap.size, 0, none⟩ 1 1 (by rfl) G6.out.2.2 (by omega) ?_
          intro cap w7 hcap1 hcap2 hr7 hb7
          have H7 : Hid (Below w5.heap.size w5 w7 ∧ Row w6.heap.size (0 + 1) (eqE 0 long s) w7) := ⟨bel_up' G6.out.1 hb7, hr7.congr (fun j hj => by
            show (if j < 0 then s (long + j) else 1) = (if j < 0 then s (long + j) else if j = 0 then 1 else 0)
            by_cases e : j < 0
            · rw [if_pos e, if_pos e]
            · rw [if_neg e, if_neg e, if_pos (by omega)])⟩
          refine HK.out _ _ (fun _ => HSk.out _ H7.out.1) ?_
          clear HK K hr7 hb7
          try simp only [Act.put, List.setIfInBounds_toArray, List.set_cons_zero, List.set_cons_succ]
          have HQt : Hid (Calls Try.prog 59 #[.pointer (some ⟨F, 0, none⟩), .slice (some ⟨gx, 0, none⟩) long long, .slice (some ⟨w6.heap.size, 0, none⟩) (0 + 1 : Nat) cap] w7 (FindP D n k xs y w7)) := by
            have F' := fld HF.out.1
            have hrw := H5.out.2.2.2.below H7.out.1 hgx5
            have eE := eqE_el F' (wr := 0) (long := long) H5.out.2.1
            have zB : zc long (fun j => ((s j : Nat) : Int)) = cutN long s := by
              funext j
              show (if j < long then ((s j : Nat) : Int).toNat else 0) = if j < long then s j else 0
              split
              · exact Int.toNat_natCast _
              · rfl
            have zT : zc (0 + 1) (fun j => ((eqE 0 long s j : Nat) : Int)) = eqE 0 long s := zc_nat (eqE_bd _ _ _)
            have hck : D.chk2 long (fun j => ((s j : Nat) : Int)) (0 + 1) (fun j => ((eqE 0 long s j : Nat) : Int)) = 0 := by
              unfold FD.chk2
              rw [if_pos (chk_nat H5.out.2.1 (by omega))]
              exact chk_nat eE (by omega)
            have tE : Trd (0 + 1) (eqE 0 long s) := ⟨eqE_bd _ _ _, fun _ => by rw [Nat.add_sub_cancel, eqE_top]; omega⟩
            have d2 : dgn (eqE 0 long s) (0 + 1) = 0 + 1 := dgn_self tE.2
            have hA1 : Arg (some ⟨gx, 0, none⟩) long long (fun j => ((s j : Nat) : Int)) w7 := ⟨(hrw.sl (by omega)).z, fun x hx => by cases hx; exact hrw.lt, by omega, fun e => (by cases e), by omega, by omega⟩
            have hA2 : Arg (some ⟨w6.heap.size, 0, none⟩) (0 + 1) cap (fun j => ((eqE 0 long s j : Nat) : Int)) w7 := ⟨(H7.out.2.sl (Nat.le_refl _)).z, fun x hx => by cases hx; exact H7.out.2.lt, by omega, fun e => (by cases e), hcap1, hcap2⟩
            have h := quotient_any HF.out.1 (HFt.out w7 (bel_up' H5.out.1 H7.out.1)) hA1 hA2 hck (by rw [zT, d2]; omega)
            rw [zB, zT] at h
            refine h.mono ?_
            rintro e w' ⟨v, rfl, ho, hb'⟩
            obtain ⟨s1, s2⟩ := quo_short HF.out.1 (cutN long s) (eqE 0 long s) long (0 + 1)
            refine ⟨hb', v, _, _, _, rfl, ho, s1, trd_dgn s2, by have := dgn_le (D.quo (cutN long s) long (eqE 0 long s) (0 + 1)) (long - (dgn (eqE 0 long s) (0 + 1) - 1)); omega, fun a ea ba hoa => ?_⟩
            have eC : El D (cutN long s) := fun j => by
              unfold cutN
              split
              · exact H5.out.2.1 j
              · exact zero_lt' F'
            have bC : Bd long (cutN long s) := fun j hj => by
              unfold cutN
              exact if_neg (by omega)
            have hB := H5.out.2.2.1 a ea ba hoa
            rw [← HL.out.2] at hB
            obtain ⟨u1, u2⟩ := quo_exact HF.out.1 (N := cutN long s) (n := long) eC bC eE tE.1 (by rw [d2]; omega) ea ba hB
            refine ⟨?_, u1⟩
            rw [u2]
            exact decide_eq_true (dgn_nil long)
          refine wpAnyL_one (i := 10) (by kernel_rfl) (by rw [List.getElem?_toArray]; rfl) (fun K hK => ?_)
          have HK : Hid _ := hK
          clear hK
          go_simp
          refine HQt.out.mono ?_
          rintro e w8 ⟨hb8, v, ok, lf, f, rfl, h1, h2, h3, h4, h5⟩
          have H8 : Hid (FindP D n k xs y w (.returned (.tuple #[v, .bool ok])) w8) := by
            have hb07 := bel_up' HF.out.2.2.2.2 (bel_up' H5.out.1 H7.out.1)
            exact ⟨bel_up' hb07 hb8, v, ok, lf, f, rfl, h1.mono hb07.size, h2, h3, h4, h5⟩
          have hS8 := HSk.out _ (bel_up' H7.out.1 hb8)
          clear hb8 h1 h2 h3 h4 h5
          refine HK.out _ _ (fun _ => hS8) ?_
          clear HK K
          try simp only [Act.put, List.setIfInBounds_toArray, List.set_cons_zero, List.set_cons_succ]
          refine wpAnyL_take (i := 11) (v := ?_) (by rw [List.getElem?_toArray]; rfl) (by decide +kernel) (by decide +kernel) (by decide +kernel) (by decide +kernel) (by decide +kernel) (fun _ _ _ h => h) hS8 (Or.inl ⟨by rfl, ?_⟩) ?_
          rotate_left
          · intro wz hSz; have z0 : wz.cell? ⟨w.heap.size, 0, none⟩ = some (.pointer (some ⟨F, 0, none⟩)) := hSz; go_simp; first | done | with_reducible rfl | (trace_state; simp [hcb1, hcb2, hcb3]; first | done | with_reducible rfl)
          try simp only [Act.put, List.setIfInBounds_toArray, List.set_cons_zero, List.set_cons_succ]
          refine wpAnyL_take (i := 12) (v := ?_) (by rw [List.getElem?_toArray]; rfl) (by decide +kernel) (by decide +kernel) (by decide +kernel) (by decide +kernel) (by decide +kernel) (fun _ _ _ h => h) hS8 (Or.inl ⟨by rfl, ?_⟩) ?_
          rotate_left
          · intro wz hSz; have z0 : wz.cell? ⟨w.heap.size, 0, none⟩ = some (.pointer (some ⟨F, 0, none⟩)) := hSz; go_simp; first | done | with_reducible rfl | (trace_state; simp [hcb1, hcb2, hcb3]; first | done | with_reducible rfl)
          try simp only [Act.put, List.setIfInBounds_toArray, List.set_cons_zero, List.set_cons_succ]
          refine wpAnyL_take (i := 13) (v := ?_) (by rw [List.getElem?_toArray]; rfl) (by decide +kernel) (by decide +kernel) (by decide +kernel) (by decide +kernel) (by decide +kernel) (fun _ _ _ h => h) hS8 (Or.inl ⟨by rfl, ?_⟩) ?_
          rotate_left
          · intro wz hSz; have z0 : wz.cell? ⟨w.heap.size, 0, none⟩ = some (.pointer (some ⟨F, 0, none⟩)) := hSz; go_simp; first | done | with_reducible rfl | (trace_state; simp [hcb1, hcb2, hcb3]; first | done | with_reducible rfl)
          try simp only [Act.put, List.setIfInBounds_toArray, List.set_cons_zero, List.set_cons_succ]
          refine wpAnyL_take (i := 14) (v := ?_) (by rw [List.getElem?_toArray]; rfl) (by decide +kernel) (by decide +kernel) (by decide +kernel) (by decide +kernel) (by decide +kernel) (fun _ _ _ h => h) hS8 (Or.inl ⟨by rfl, ?_⟩) ?_
          rotate_left
          · intro wz hSz; have z0 : wz.cell? ⟨w.heap.size, 0, none⟩ = some (.pointer (some ⟨F, 0, none⟩)) := hSz; go_simp; first | done | with_reducible rfl | (trace_state; simp [hcb1, hcb2, hcb3]; first | done | with_reducible rfl)
          try simp only [Act.put, List.setIfInBounds_toArray, List.set_cons_zero, List.set_cons_succ]
          refine wpAnyL_done (by kernel_rfl) (NoPanic.normal ?_)
          clear hS0 hS8
          go_wp2
          go_ret2
          exact H8.out

        · have hWl : ¬ W = long := fun e => hwz (by have := HW.out.2; omega)
          have HSk : Hid (∀ wx, Below w5.heap.size w5 wx → wx.cell? ⟨w.heap.size, 0, none⟩ = some (.pointer (some ⟨F, 0, none⟩))) := fun wx hb => (HBx.out wx (bel_up' H5.out.1 hb)).1
          have hS0 := HSk.out w5.drew (Below.refl _ _).drew
          clear b0 b1 b2 b3
          refine wp_region_noPanic ?_
          refine wp_region_L (S := fun wz => wz.cell? ⟨w.heap.size, 0, none⟩ = some (.pointer (some ⟨F, 0, none⟩))) [] (by kernel_rfl) ?_
          refine wpAnyL_take (i := 0) (v := ?_) (by rw [List.getElem?_toArray]; rfl) (by decide +kernel) (by decide +kernel) (by decide +kernel) (by decide +kernel) (by decide +kernel) (fun _ _ _ h => h) hS0 (Or.inl ⟨by rfl, ?_⟩) ?_
          rotate_left
          · intro wz hSz; have z0 : wz.cell? ⟨w.heap.size, 0, none⟩ = some (.pointer (some ⟨F, 0, none⟩)) := hSz; go_simp; first | done | with_reducible rfl | (trace_state; simp [hcb1, hcb2, hcb3]; first | done | with_reducible rfl)
          try simp only [Act.put, List.setIfInBounds_toArray, List.set_cons_zero, List.set_cons_succ]
          refine wpAnyL_take (i := 1) (v := ?_) (by rw [List.getElem?_toArray]; rfl) (by decide +kernel) (by decide +kernel) (by decide +kernel) (by decide +kernel) (by decide +kernel) (fun _ _ _ h => h) hS0 (Or.inl ⟨by rfl, ?_⟩) ?_
          rotate_left
          · intro wz hSz; have z0 : wz.cell? ⟨w.heap.size, 0, none⟩ = some (.pointer (some ⟨F, 0, none⟩)) := hSz; go_simp; first | done | with_reducible rfl | (trace_state; simp [hcb1, hcb2, hcb3]; first | done | with_reducible rfl)
          try simp only [Act.put, List.setIfInBounds_toArray, List.set_cons_zero, List.set_cons_succ]
          refine wpAnyL_take (i := 2) (v := ?_) (by rw [List.getElem?_toArray]; rfl) (by decide +kernel) (by decide +kernel) (by decide +kernel) (by decide +kernel) (by decide +kernel) (fun _ _ _ h => h) hS0 (Or.inl ⟨by rfl, ?_⟩) ?_
          rotate_left
          · intro wz hSz; have z0 : wz.cell? ⟨w.heap.size, 0, none⟩ = some (.pointer (some ⟨F, 0, none⟩)) := hSz; go_simp; first | done | with_reducible rfl | (trace_state; simp [hcb1, hcb2, hcb3]; first | done | with_reducible rfl)
          try simp only [Act.put, List.setIfInBounds_toArray, List.set_cons_zero, List.set_cons_succ]
          refine wpAnyL_take (i := 3) (v := ?_) (by rw [List.getElem?_toArray]; rfl) (by decide +kernel) (by decide +kernel) (by decide +kernel) (by decide +kernel) (by decide +kernel) (fun _ _ _ h => h) hS0 (Or.inl ⟨by rfl, ?_⟩) ?_
          rotate_left
          · intro wz hSz; have z0 : wz.cell? ⟨w.heap.size, 0, none⟩ = some (.pointer (some ⟨F, 0, none⟩)) := hSz; go_simp; first | done | with_reducible rfl | (trace_state; simp [hcb1, hcb2, hcb3]; first | done | with_reducible rfl)
          try simp only [Act.put, List.setIfInBounds_toArray, List.set_cons_zero, List.set_cons_succ]
          refine wpAnyL_take (i := 4) (v := ?_) (by rw [List.getElem?_toArray]; rfl) (by decide +kernel) (by decide +kernel) (by decide +kernel) (by decide +kernel) (by decide +kernel) (fun _ _ _ h => h) hS0 (Or.inl ⟨by rfl, ?_⟩) ?_
          rotate_left
          · intro wz hSz; have z0 : wz.cell? ⟨w.heap.size, 0, none⟩ = some (.pointer (some ⟨F, 0, none⟩)) := hSz; go_simp; first | done | with_reducible rfl | (trace_state; simp [hcb1, hcb2, hcb3]; first | done | with_reducible rfl)
          try simp only [Act.put, List.setIfInBounds_toArray, List.set_cons_zero, List.set_cons_succ]
          refine wpAnyL_take (i := 5) (v := ?_) (by rw [List.getElem?_toArray]; rfl) (by decide +kernel) (by decide +kernel) (by decide +kernel) (by decide +kernel) (by decide +kernel) (fun _ _ _ h => h) hS0 (Or.inl ⟨by rfl, ?_⟩) ?_
          rotate_left
          · intro wz hSz; have z0 : wz.cell? ⟨w.heap.size, 0, none⟩ = some (.pointer (some ⟨F, 0, none⟩)) := hSz; go_simp; first | done | with_reducible rfl | (trace_state; simp [hcb1, hcb2, hcb3]; first | done | with_reducible rfl)
          try simp only [Act.put, List.setIfInBounds_toArray, List.set_cons_zero, List.set_cons_succ]
          refine wpAnyL_take (i := 6) (v := ?_) (by rw [List.getElem?_toArray]; rfl) (by decide +kernel) (by decide +kernel) (by decide +kernel) (by decide +kernel) (by decide +kernel) (fun _ _ _ h => h) hS0 (Or.inl ⟨by rfl, ?_⟩) ?_
          rotate_left
          · intro wz hSz; have z0 : wz.cell? ⟨w.heap.size, 0, none⟩ = some (.pointer (some ⟨F, 0, none⟩)) := hSz; go_simp; first | done | with_reducible rfl | (trace_state; simp [hcb1, hcb2, hcb3]; first | done | with_reducible rfl)
          try simp only [Act.put, List.setIfInBounds_toArray, List.set_cons_zero, List.set_cons_succ]
          refine wpAnyL_take (i := 7) (v := ?_) (by rw [List.getElem?_toArray]; rfl) (by decide +kernel) (by decide +kernel) (by decide +kernel) (by decide +kernel) (by decide +kernel) (fun _ _ _ h => h) hS0 (Or.inl ⟨by rfl, ?_⟩) ?_
          rotate_left
          · intro wz hSz; have z0 : wz.cell? ⟨w.heap.size, 0, none⟩ = some (.pointer (some ⟨F, 0, none⟩)) := hSz; go_simp; first | done | with_reducible rfl | (trace_state; simp [hcb1, hcb2, hcb3]; first | done | with_reducible rfl)
          try simp only [Act.put, List.setIfInBounds_toArray, List.set_cons_zero, List.set_cons_succ]
          refine wpAnyL_one (i := 8) (by kernel_rfl) (by rw [List.getElem?_toArray]; rfl) (fun K hK => ?_)
          have HK : Hid _ := hK
          clear hK
          go_simp
          obtain ⟨w6, hw6⟩ : ∃ w6, w6 = w5.drew.alloc (.cells #[.int .i64 1] 3) := ⟨_, rfl⟩
          have G6 : Hid (Below w5.heap.size w5 w6 ∧ w6.heap.size = w5.heap.size + 1 ∧ w6.cell? ⟨w5.heap.size, 0, none⟩ = some (.int .i64 ((1 : Nat) : Int))) := by
            rw [hw6]; exact ⟨(Below.refl _ _).drew.alloc (Nat.le_refl _) _, by simp, by have h := two_cell w5.drew (.int .i64 1); exact h⟩
          have hw6' : (w5.alloc (.cells #[.int .i64 1] 3)).drew = w6 := by rw [hw6]; rfl
          first | rw [hw6'] | rw [← hw6]
          refine HK.out _ _ (fun _ => HSk.out _ G6.out.1) ?_
          clear HK K hw6 hw6'
          try simp only [Act.put, List.setIfInBounds_toArray, List.set_cons_zero, List.set_cons_succ]
          refine wpAnyL_one (i := 9) (by kernel_rfl) (by rw [List.getElem?_toArray]; rfl) (fun K hK => ?_)
          have HK : Hid _ := hK
          clear hK
          refine step_append_full (by rfl) _ _ (by rfl) _ wr (fun j => s (long + j)) (by rfl) (fun j hj => by rw [add_off]; exact ((bcell G6.out.1).1 gx (long + j) hgx5).trans (H5.out.2.2.2.cell (long + j) (by have := HW.out.2; omega))) ⟨w5.heap.size, 0, none⟩ 1 1 (by rfl) G6.out.2.2 (by omega) ?_
          intro cap w7 hcap1 hcap2 hr7 hb7
          have H7 : Hid (Below w5.heap.size w5 w7 ∧ Row w6.heap.size (wr + 1) (eqE wr long s) w7) := ⟨bel_up' G6.out.1 hb7, hr7.congr (fun j hj => by
            show (if j < wr then s (long + j) else 1) = (if j < wr then s (long + j) else if j = wr then 1 else 0)
            by_cases e : j < wr
            · rw [if_pos e, if_pos e]
            · rw [if_neg e, if_neg e, if_pos (by omega)])⟩
          refine HK.out _ _ (fun _ => HSk.out _ H7.out.1) ?_
          clear HK K hr7 hb7
          try simp only [Act.put, List.setIfInBounds_toArray, List.set_cons_zero, List.set_cons_succ]
          have HQt : Hid (Calls Try.prog 59 #[.pointer (some ⟨F, 0, none⟩), .slice (some ⟨gx, 0, none⟩) long W, .slice (some ⟨w6.heap.size, 0, none⟩) (wr + 1 : Nat) cap] w7 (FindP D n k xs y w7)) := by
            have F' := fld HF.out.1
            have hrw := H5.out.2.2.2.below H7.out.1 hgx5
            have eE := eqE_el F' (wr := wr) (long := long) H5.out.2.1
            have zB : zc long (fun j => ((s j : Nat) : Int)) = cutN long s := by
              funext j
              show (if j < long then ((s j : Nat) : Int).toNat else 0) = if j < long then s j else 0
              split
              · exact Int.toNat_natCast _
              · rfl
            have zT : zc (wr + 1) (fun j => ((eqE wr long s j : Nat) : Int)) = eqE wr long s := zc_nat (eqE_bd _ _ _)
            have hck : D.chk2 long (fun j => ((s j : Nat) : Int)) (wr + 1) (fun j => ((eqE wr long s j : Nat) : Int)) = 0 := by
              unfold FD.chk2
              rw [if_pos (chk_nat H5.out.2.1 (by omega))]
              exact chk_nat eE (by omega)
            have tE : Trd (wr + 1) (eqE wr long s) := ⟨eqE_bd _ _ _, fun _ => by rw [Nat.add_sub_cancel, eqE_top]; omega⟩
            have d2 : dgn (eqE wr long s) (wr + 1) = wr + 1 := dgn_self tE.2
            have hA1 : Arg (some ⟨gx, 0, none⟩) long W (fun j => ((s j : Nat) : Int)) w7 := ⟨(hrw.sl (by omega)).z, fun x hx => by cases hx; exact hrw.lt, by omega, fun e => (by cases e), by omega, by omega⟩
            have hA2 : Arg (some ⟨w6.heap.size, 0, none⟩) (wr + 1) cap (fun j => ((eqE wr long s j : Nat) : Int)) w7 := ⟨(H7.out.2.sl (Nat.le_refl _)).z, fun x hx => by cases hx; exact H7.out.2.lt, by omega, fun e => (by cases e), hcap1, hcap2⟩
            have h := quotient_any HF.out.1 (HFt.out w7 (bel_up' H5.out.1 H7.out.1)) hA1 hA2 hck (by rw [zT, d2]; omega)
            rw [zB, zT] at h
            refine h.mono ?_
            rintro e w' ⟨v, rfl, ho, hb'⟩
            obtain ⟨s1, s2⟩ := quo_short HF.out.1 (cutN long s) (eqE wr long s) long (wr + 1)
            refine ⟨hb', v, _, _, _, rfl, ho, s1, trd_dgn s2, by have := dgn_le (D.quo (cutN long s) long (eqE wr long s) (wr + 1)) (long - (dgn (eqE wr long s) (wr + 1) - 1)); omega, fun a ea ba hoa => ?_⟩
            have eC : El D (cutN long s) := fun j => by
              unfold cutN
              split
              · exact H5.out.2.1 j
              · exact zero_lt' F'
            have bC : Bd long (cutN long s) := fun j hj => by
              unfold cutN
              exact if_neg (by omega)
            have hB := H5.out.2.2.1 a ea ba hoa
            rw [← HL.out.2] at hB
            obtain ⟨u1, u2⟩ := quo_exact HF.out.1 (N := cutN long s) (n := long) eC bC eE tE.1 (by rw [d2]; omega) ea ba hB
            refine ⟨?_, u1⟩
            rw [u2]
            exact decide_eq_true (dgn_nil long)
          refine wpAnyL_one (i := 10) (by kernel_rfl) (by rw [List.getElem?_toArray]; rfl) (fun K hK => ?_)
          have HK : Hid _ := hK
          clear hK
          go_simp
          refine HQt.out.mono ?_
          rintro e w8 ⟨hb8, v, ok, lf, f, rfl, h1, h2, h3, h4, h5⟩
          have H8 : Hid (FindP D n k xs y w (.returned (.tuple #[v, .bool ok])) w8) := by
            have hb07 := bel_up' HF.out.2.2.2.2 (bel_up' H5.out.1 H7.out.1)
            exact ⟨bel_up' hb07 hb8, v, ok, lf, f, rfl, h1.mono hb07.size, h2, h3, h4, h5⟩
          have hS8 := HSk.out _ (bel_up' H7.out.1 hb8)
          clear hb8 h1 h2 h3 h4 h5
          refine HK.out _ _ (fun _ => hS8) ?_
          clear HK K
          try simp only [Act.put, List.setIfInBounds_toArray, List.set_cons_zero, List.set_cons_succ]
          refine wpAnyL_take (i := 11) (v := ?_) (by rw [List.getElem?_toArray]; rfl) (by decide +kernel) (by decide +kernel) (by decide +kernel) (by decide +kernel) (by decide +kernel) (fun _ _ _ h => h) hS8 (Or.inl ⟨by rfl, ?_⟩) ?_
          rotate_left
          · intro wz hSz; have z0 : wz.cell? ⟨w.heap.size, 0, none⟩ = some (.pointer (some ⟨F, 0, none⟩)) := hSz; go_simp; first | done | with_reducible rfl | (trace_state; simp [hcb1, hcb2, hcb3]; first | done | with_reducible rfl)
          try simp only [Act.put, List.setIfInBounds_toArray, List.set_cons_zero, List.set_cons_succ]
          refine wpAnyL_take (i := 12) (v := ?_) (by rw [List.getElem?_toArray]; rfl) (by decide +kernel) (by decide +kernel) (by decide +kernel) (by decide +kernel) (by decide +kernel) (fun _ _ _ h => h) hS8 (Or.inl ⟨by rfl, ?_⟩) ?_
          rotate_left
          · intro wz hSz; have z0 : wz.cell? ⟨w.heap.size, 0, none⟩ = some (.pointer (some ⟨F, 0, none⟩)) := hSz; go_simp; first | done | with_reducible rfl | (trace_state; simp [hcb1, hcb2, hcb3]; first | done | with_reducible rfl)
          try simp only [Act.put, List.setIfInBounds_toArray, List.set_cons_zero, List.set_cons_succ]
          refine wpAnyL_take (i := 13) (v := ?_) (by rw [List.getElem?_toArray]; rfl) (by decide +kernel) (by decide +kernel) (by decide +kernel) (by decide +kernel) (by decide +kernel) (fun _ _ _ h => h) hS8 (Or.inl ⟨by rfl, ?_⟩) ?_
          rotate_left
          · intro wz hSz; have z0 : wz.cell? ⟨w.heap.size, 0, none⟩ = some (.pointer (some ⟨F, 0, none⟩)) := hSz; go_simp; first | done | with_reducible rfl | (trace_state; simp [hcb1, hcb2, hcb3]; first | done | with_reducible rfl)
          try simp only [Act.put, List.setIfInBounds_toArray, List.set_cons_zero, List.set_cons_succ]
          refine wpAnyL_take (i := 14) (v := ?_) (by rw [List.getElem?_toArray]; rfl) (by decide +kernel) (by decide +kernel) (by decide +kernel) (by decide +kernel) (by decide +kernel) (fun _ _ _ h => h) hS8 (Or.inl ⟨by rfl, ?_⟩) ?_
          rotate_left
          · intro wz hSz; have z0 : wz.cell? ⟨w.heap.size, 0, none⟩ = some (.pointer (some ⟨F, 0, none⟩)) := hSz; go_simp; first | done | with_reducible rfl | (trace_state; simp [hcb1, hcb2, hcb3]; first | done | with_reducible rfl)
          try simp only [Act.put, List.setIfInBounds_toArray, List.set_cons_zero, List.set_cons_succ]
          refine wpAnyL_done (by kernel_rfl) (NoPanic.normal ?_)
          clear hS0 hS8
          go_wp2
          go_ret2
          exact H8.out
end Go.Proofs.Ytcgmllamiaflcaa
