/- The program's byPowers: numbers laid by their powers of y. -/
import Derived.Test.YtcgmllamiaflcaaZQ3
import Derived.Test.YtcgmllamiaflcaaZQ2
namespace Go.Proofs.Ytcgmllamiaflcaa
open Go.RowKit Go.Sort

/-- What stays where one list grows: cells elsewhere. -/
theorem GrS.else {base n : Nat} {ro : Option Addr} {rc : Nat} {vs : Nat → Value} {Z : Nat → List Int} {w w1 : World} (h : GrS base n ro rc vs Z w) {j b : Nat} (hj : j < n) (hgr : w.grownBy w1 (vs j).ownBlock) (hb : b < w.heap.size) (hne : b < base ∨ ∀ g, (vs j).ownBlock = some g → g ≠ b) : w1.heap[b]? = w.heap[b]? := by
  refine hgr.block b hb ?_
  intro e
  rcases hne with hne | hne
  · have := ((h.row j hj).lt b e.symm).1
    omega
  · exact hne b e.symm rfl
theorem cell_same {w w1 : World} {b o : Nat} (h : w1.heap[b]? = w.heap[b]?) : w1.cell? ⟨b, o, none⟩ = w.cell? ⟨b, o, none⟩ := by
  simp [World.cell?, h]
theorem frozen_same {w w1 : World} {b o : Nat} (h : w1.heap[b]? = w.heap[b]?) : w1.frozen? ⟨b, o, none⟩ = w.frozen? ⟨b, o, none⟩ := by
  simp [World.frozen?, h]

theorem OwnI.form {base : Nat} {v : Value} {l : List Int} {w : World} (h : OwnI base v l w) : ∃ ao cap, v = .slice ao l.length cap := by
  rcases h.2 with ⟨h1, h2⟩ | ⟨g, cap, cur, hv, _⟩
  · exact ⟨none, 0, by rw [h1, h2]⟩
  · exact ⟨_, cap, hv⟩
/-- The number of product a is laid. -/
theorem GrS.next {base m : Nat} {ro : Option Addr} {rc : Nat} {vs : Nat → Value} {p s : Nat → Nat} {r j g : Nat} {w w1 : World} {u : Value} (h : GrS base m ro rc vs (gz p s r) w) (hj : j < m) (hjp : j = p r) (hg : ro = some ⟨g, 0, none⟩) (hu : OwnI base u (gz p s r j ++ [((s r : Nat) : Int)]) w1) {ob : Option Nat} (hob : (vs j).ownBlock = ob) (hgr : w.grownBy w1 ob) (hat : u.ownBlock = ob ∨ u.ownBlock = some w.heap.size) :
    GrS base m ro rc (fun i => if i = j then u else vs i) (gz p s (r + 1)) (w1.setCell ⟨g, j, none⟩ u) := by
  subst hob
  refine (h.store hj hg hu hgr hat).congr (fun i _ => ?_)
  show _ = (if i = p r then gz p s r i ++ [((s r : Nat) : Int)] else gz p s r i)
  rw [← hjp]
/-- What the next number's walk reads, wherever it stands. -/
def bpF (pb g j bs os r : Nat) (jo : Option Addr) (jl jc i x : Nat) (wx : World) : Prop := wx.cell? ⟨pb, 0, none⟩ = some (.int .i64 (i : Nat)) ∧ wx.cell? ⟨pb, 1, none⟩ = some (.int .i64 (j : Nat)) ∧ wx.cell? ⟨g, j, none⟩ = some (.slice jo jl jc) ∧ wx.frozen? ⟨g, j, none⟩ = false ∧ wx.cell? ⟨bs, os + r, none⟩ = some (.int .i64 (x : Nat))

theorem bpF.below {pb g j bs os r : Nat} {jo : Option Addr} {jl jc i x : Nat} {w w' : World} (h : bpF pb g j bs os r jo jl jc i x w) (hb : Below w.heap.size w w') : bpF pb g j bs os r jo jl jc i x w' := by
  obtain ⟨h1, h2, h3, h4, h5⟩ := h
  exact ⟨(cell_same (hb.block _ (cell_lt h1))).trans h1, (cell_same (hb.block _ (cell_lt h2))).trans h2, (cell_same (hb.block _ (cell_lt h3))).trans h3, (frozen_same (hb.block _ (cell_lt h3))).trans h4, (cell_same (hb.block _ (cell_lt h5))).trans h5⟩
theorem bpF.keep {pb g j bs os r : Nat} {jo : Option Addr} {jl jc i x : Nat} {base m : Nat} {ro : Option Addr} {rc : Nat} {vs : Nat → Value} {Z : Nat → List Int} {w w9 : World} (hF : bpF pb g j bs os r jo jl jc i x w) (h : GrS base m ro rc vs Z w) (hj : j < m) (hg : ro = some ⟨g, 0, none⟩) (hpb : ∀ k, (vs j).ownBlock = some k → k ≠ pb) (hbs : bs < base) {ob : Option Nat} (hob : (vs j).ownBlock = ob) (hgr : w.grownBy w9 ob) : bpF pb g j bs os r jo jl jc i x w9 := by
  subst hob
  obtain ⟨h1, h2, h3, h4, h5⟩ := hF
  have e1 := h.else hj hgr (cell_lt h1) (Or.inr hpb)
  have e2 := h.else hj hgr (cell_lt h3) (Or.inr (fun k hk e => by
    rcases (h.row j hj).apart h.own with ha | ha
    · rw [ha] at hk; cases hk
    · exact ha (by rw [hk, hg, e]; rfl)))
  have e3 := h.else hj hgr (cell_lt h5) (Or.inl hbs)
  exact ⟨(cell_same e1).trans h1, (cell_same e1).trans h2, (cell_same e2).trans h3, (frozen_same e2).trans h4, (cell_same e3).trans h5⟩
theorem bpF.three {pb g j bs os r : Nat} {jo : Option Addr} {jl jc i x : Nat} {w : World} (h : bpF pb g j bs os r jo jl jc i x w) : w.cell? ⟨pb, 0, none⟩ = some (.int .i64 (i : Nat)) ∧ w.cell? ⟨pb, 1, none⟩ = some (.int .i64 (j : Nat)) ∧ w.cell? ⟨bs, os + r, none⟩ = some (.int .i64 (x : Nat)) := ⟨h.1, h.2.1, h.2.2.2.2⟩
theorem bpF.set {pb g j bs os r : Nat} {jo : Option Addr} {jl jc i x : Nat} {w : World} (h : bpF pb g j bs os r jo jl jc i x w) (h1 : g ≠ pb) (h2 : g ≠ bs) (v : Value) : (w.setCell ⟨g, j, none⟩ v).cell? ⟨pb, 0, none⟩ = some (.int .i64 (i : Nat)) ∧ (w.setCell ⟨g, j, none⟩ v).cell? ⟨pb, 1, none⟩ = some (.int .i64 (j : Nat)) ∧ (w.setCell ⟨g, j, none⟩ v).cell? ⟨bs, os + r, none⟩ = some (.int .i64 (x : Nat)) := by
  have e1 := Below.heap_setCell w ⟨g, j, none⟩ v pb (fun e => h1 e.symm)
  have e2 := Below.heap_setCell w ⟨g, j, none⟩ v bs (fun e => h2 e.symm)
  exact ⟨(cell_same e1).trans h.1, (cell_same e1).trans h.2.1, (cell_same e2).trans h.2.2.2.2⟩
theorem bpF.ne {pb g j bs os r : Nat} {jo : Option Addr} {jl jc i x : Nat} {base m : Nat} {ro : Option Addr} {rc : Nat} {vs : Nat → Value} {Z : Nat → List Int} {w : World} (hF : bpF pb g j bs os r jo jl jc i x w) (h : GrS base m ro rc vs Z w) (hj : j < m) (hg : ro = some ⟨g, 0, none⟩) (hbs : bs < base) : g ≠ pb ∧ g ≠ bs := by
  obtain ⟨g', e, hc, _, hb, _⟩ := h.cell 0 (by omega)
  rw [hg] at e
  cases e
  refine ⟨fun e => ?_, by omega⟩
  obtain ⟨ao, cap, ev⟩ := (h.row 0 (by omega)).form
  have := hF.1
  rw [← e, hc, ev] at this
  cases this
/-- Ahead of the next number: the lists, and what is read. -/
theorem bp_ahead {pb bs os r i x base m j : Nat} {ro : Option Addr} {rc : Nat} {vs : Nat → Value} {Z : Nat → List Int} {w : World} (h : GrS base m ro rc vs Z w) (hj : j < m) (hp0 : w.cell? ⟨pb, 0, none⟩ = some (.int .i64 (i : Nat))) (hp1 : w.cell? ⟨pb, 1, none⟩ = some (.int .i64 (j : Nat))) (hs : w.cell? ⟨bs, os + r, none⟩ = some (.int .i64 (x : Nat))) : ∃ g jo jc, ro = some ⟨g, 0, none⟩ ∧ vs j = .slice jo (Z j).length jc ∧ bpF pb g j bs os r jo (Z j).length jc i x w := by
  obtain ⟨g, hg, hc, hf, _, _⟩ := h.cell j hj
  obtain ⟨jo, jc, e⟩ := (h.row j hj).form
  exact ⟨g, jo, jc, hg, e, hp0, hp1, by rw [hc, e], hf, hs⟩

set_option maxHeartbeats 8000000 in
set_option maxRecDepth 100000 in
theorem byPowers_any {ao so : Option Addr} {n ca cs : Nat} {px py s : Nat → Nat} {w : World} (hn : n ≤ 64) (hA : SlQ ao n px py w) (hS : Sl so n s w) (hlS : LtB so w.heap.size) (hp : ∀ b, b < n → py b ≤ gn py b) :
    Calls Try.prog 48 #[.slice ao n ca, .slice so n cs] w fun e w' => ∃ v, e = .returned v ∧ LLs w.heap.size v (gL py s n) w' ∧ Below w.heap.size w w' := by
  have HF : Hid (SlQ ao n px py w ∧ Sl so n s w ∧ LtB so w.heap.size ∧ (∀ b, b < n → py b ≤ gn py b)) := ⟨hA, hS, hlS, hp⟩
  clear hA hS hlS hp
  go_enter Try.func48, Try.ntmps48
  go_wp2
  go_loopw [5, 10] (fun vo vi wr => ∃ (r m rc : Nat) (ro : Option Addr) (vs : Nat → Value), r ≤ n ∧ vi = .int .i64 r ∧ vo = .slice ro m rc ∧ Hid (m = gn py r ∧ GrS w.heap.size m ro rc vs (gz py s r) wr ∧ Below w.heap.size w wr)) (fun _ vi _ => n - (intOf vi).toNat)
  case atStart => exact ⟨0, 0, 0, none, fun _ => undef, by omega, rfl, rfl, rfl, GrS.nil _ _ _ _, Below.refl _ _⟩
  case round =>
    obtain ⟨r, m, rc, ro, vs, hr, rfl, rfl, HG⟩ := hrel
    rename World => wA
    by_cases hlt : r < n
    · have hib : (r : Int) < (n : Int) := by omega
      obtain ⟨bx, hxo, hc0, hc1⟩ := (HF.out.1.below HG.out.2.2) r hlt
      subst hxo
      obtain ⟨i, hi⟩ : ∃ i, i = px r := ⟨_, rfl⟩
      obtain ⟨j, hj⟩ : ∃ j, j = py r := ⟨_, rfl⟩
      rw [← hi] at hc0
      rw [← hj] at hc1
      have hjm : j ≤ m := by rw [hj, HG.out.1]; exact HF.out.2.2.2 r hlt
      have hm64 : m ≤ r := by rw [HG.out.1]; exact gn_le _ _
      have HX : Hid (j = py r) := hj
      clear hi hj
      obtain ⟨bs, os, hso, hcs⟩ := (HF.out.2.1.below HG.out.2.2 HF.out.2.2.1) r hlt
      subst hso
      obtain ⟨x, hx⟩ : ∃ x, x = s r := ⟨_, rfl⟩
      have hbs := HF.out.2.2.1 _ rfl
      obtain ⟨pb, hpb⟩ : ∃ pb, pb = wA.heap.size := ⟨_, rfl⟩
      obtain ⟨wB, hwB⟩ : ∃ wB, wB = wA.alloc (.cells #[.int .i64 (i : Nat), .int .i64 (j : Nat)] 94) := ⟨_, rfl⟩
      have hp0 : wB.cell? ⟨pb, 0, none⟩ = some (.int .i64 (i : Nat)) := by rw [hwB, hpb, cell_of_row _ _ _ _ _ (0, 0) (two_new _)]; rfl
      have hp1 : wB.cell? ⟨pb, 1, none⟩ = some (.int .i64 (j : Nat)) := by rw [hwB, hpb, cell_of_row _ _ _ _ _ (0, 0) (two_new _)]; rfl
      have hbB : Below wA.heap.size wA wB := by rw [hwB]; exact (Below.refl _ _).alloc (Nat.le_refl _) _
      have hsB : wB.heap.size = pb + 1 := by rw [hwB, hpb]; simp
      have hszA := HG.out.2.2.size
      have HP : Hid (m = gn py r ∧ j = py r ∧ x = s r ∧ GrS w.heap.size m ro rc vs (gz py s r) wB ∧ Below w.heap.size w wB ∧ (∀ i, i < m → ∀ g, (vs i).ownBlock = some g → g < pb) ∧ (∀ g, (Value.slice ro m rc).ownBlock = some g → g < pb) ∧ wB.heap.size = pb + 1 ∧ w.heap.size ≤ pb) := by
        refine ⟨HG.out.1, HX.out, hx, HG.out.2.1.below hbB, bel_up' HG.out.2.2 hbB, fun i hi g hg => by rw [hpb]; exact ((HG.out.2.1.row i hi).lt g hg).2, fun g hg => by rw [hpb]; exact (World.ownsRow.lt HG.out.2.1.own g hg).2, hsB, by rw [hpb]; exact hszA⟩
      have HP2 : Hid (x = s r ∧ j = py r) := ⟨HP.out.2.2.1, HP.out.2.1⟩
      have HS : Hid (wA.heap.size + 1 = wB.heap.size ∧ pb = wA.heap.size) := ⟨by rw [hsB, hpb], hpb⟩
      clear hbB hsB HG HX hcs hx hszA
      by_cases hjm2 : j = m
      · have hjb : (((j : Nat) : Int) == ((m : Nat) : Int)) = true := by rw [hjm2]; simp
        have hll : (vl m vs).length ≤ 1000000 := by rw [vl_len]; omega
        have HJ : Hid (j = m) := hjm2
        have hszB := HP.out.2.2.2.2.1.size
        clear hjm2
        go_wp2_with (at_builtin; rw [← hwB]; refine append_sl rfl _ _ rfl w.heap.size (.slice ro m rc) (vl m vs) rfl (HP.out.2.2.2.1.own.below ((Below.refl _ _).alloc (Nat.le_refl _) _) (Nat.le_refl _)) ⟨wA.heap.size + 1, 0, none⟩ 1 (.slice none 0 0) rfl rfl (by rw [HS.out.1, cell_of_row _ _ _ _ _ (0, 0) (two_new _)]; rfl) hll (by simp; omega) ?_; intro v' w6 hown6 hg6)
        obtain ⟨ro1, rc1, hv', hGp⟩ := (HP.out.2.2.2.1.below ((Below.refl _ _).alloc (Nat.le_refl _) _)).push hown6 hg6 (gz_none (fun b hb => HF.out.2.2.2 b (by omega)) (by rw [HP.out.1]; exact Nat.le_refl _))
        subst hv'
        obtain ⟨m1, hm1⟩ : ∃ m1, m1 = m + 1 := ⟨_, rfl⟩
        obtain ⟨vs1, hvs1⟩ : ∃ vs1 : Nat → Value, vs1 = fun j => if j = m then .slice none 0 0 else vs j := ⟨_, rfl⟩
        rw [← hm1, ← hvs1] at hGp
        rw [← hm1]
        have hjlt : j < m1 := by have := HJ.out; omega
        have hal : Below wB.heap.size wB (wB.alloc (.cells #[.slice none 0 0] 22)) := (Below.refl _ _).alloc (Nat.le_refl _) _
        have hb6 : Below w.heap.size w w6 := (bel_up' HP.out.2.2.2.2.1 hal).grown hg6 (by simp; omega) (fun k hk => HP.out.2.2.2.1.own.open_ge k hk)
        have hpk : w6.heap[pb]? = wB.heap[pb]? := by
          have h1 : (wB.alloc (.cells #[.slice none 0 0] 22)).heap[pb]? = wB.heap[pb]? := hal.block pb (by have := HP.out.2.2.2.2.2.2.2.1; omega)
          rw [← h1]
          refine hg6.block pb (by simp; have := HP.out.2.2.2.2.2.2.2.1; omega) ?_
          intro e
          have := HP.out.2.2.2.2.2.2.1 pb e.symm
          omega
        have HQ : Hid (GrS w.heap.size m1 ro1 rc1 vs1 (gz py s r) w6 ∧ Below w.heap.size w w6 ∧ m1 = gn py (r + 1) ∧ w6.cell? ⟨pb, 0, none⟩ = some (.int .i64 (i : Nat)) ∧ w6.cell? ⟨pb, 1, none⟩ = some (.int .i64 (j : Nat)) ∧ w6.cell? ⟨bs, os + r, none⟩ = some (.int .i64 (x : Nat)) ∧ (∀ k, (vs1 j).ownBlock = some k → k ≠ pb) ∧ bs < w.heap.size) := by
          refine ⟨hGp, hb6, ?_, (cell_same hpk).trans hp0, (cell_same hpk).trans hp1, ?_, ?_, hbs⟩
          · show m1 = if py r = gn py r then gn py r + 1 else gn py r
            rw [← HP.out.2.1, ← HP.out.1, if_pos HJ.out, hm1]
          · rw [HP.out.2.2.1]
            obtain ⟨_, _, e, h⟩ := (HF.out.2.1.below hb6 HF.out.2.2.1) r hlt
            cases e
            exact h
          · intro k hk
            rw [hvs1] at hk
            have hk : (if j = m then Value.slice none 0 0 else vs j).ownBlock = some k := hk
            rw [if_pos HJ.out] at hk
            cases hk
        have hm165 : m1 ≤ 65 := by omega
        rw [← HS.out.2]
        clear hown6 hg6 hGp hal hb6 hpk hm1 hvs1 hp0 hp1 hc0 hc1 hwB hpb HS HP hszB hll hjm
        obtain ⟨g, jo, jc, hro, hvj, hF⟩ := bp_ahead HQ.out.1 hjlt HQ.out.2.2.2.1 HQ.out.2.2.2.2.1 HQ.out.2.2.2.2.2.1
        subst hro
        obtain ⟨jl, hjl⟩ : ∃ jl, jl = (gz py s r j).length := ⟨_, rfl⟩
        rw [← hjl] at hF hvj
        have hzl : (gz py s r j).length ≤ 1000000 := by have := gz_len py s r j; omega
        have HV : Hid (vs1 j = .slice jo jl jc ∧ jl = (gz py s r j).length) := ⟨hvj, hjl⟩
        have HK5 : Hid (∀ wx, Below w6.heap.size w6 wx → bpF pb g j bs os r jo jl jc i x wx) := fun wx hx => hF.below hx
        have HKx : Hid (∀ wx, Below w6.heap.size w6 wx → wx.cell? ⟨pb, 0, none⟩ = some (.int .i64 (i : Nat)) ∧ wx.cell? ⟨pb, 1, none⟩ = some (.int .i64 (j : Nat)) ∧ wx.cell? ⟨bs, os + r, none⟩ = some (.int .i64 (x : Nat))) := fun wx hx => (hF.below hx).three
        have hne := hF.ne HQ.out.1 hjlt rfl HQ.out.2.2.2.2.2.2.2
        have HNe : Hid (g ≠ pb ∧ g ≠ bs) := hne
        have ht3 := (HK5.out _ (Below.refl _ _).drew).2.2.1
        have hjmb : (j : Int) < (m1 : Int) := by omega
        clear hF hvj hjl
        have hS5 := HK5.out _ (Below.refl w6.heap.size w6).drew
        refine wp_region_noPanic ?_
        refine wp_region_X (S := bpF pb g j bs os r jo jl jc i x) 15 (by kernel_rfl) ?_
        refine wpAnyX_take (i := 0) (v := ?_) (by rw [List.getElem?_toArray]; rfl) (by kernel_rfl) (by kernel_rfl) (by kernel_rfl) (by kernel_rfl) (fun _ _ _ h => h) hS5 (Or.inl ⟨by rfl, ?_⟩) ?_
        rotate_left
        · intro wz hSz; obtain ⟨z0, z1, z2, z3, z4⟩ := hSz; go_simp; first | done | with_reducible rfl
        try simp only [Act.put, List.setIfInBounds_toArray, List.set_cons_zero, List.set_cons_succ]
        refine wpAnyX_take (i := 1) (v := ?_) (by rw [List.getElem?_toArray]; rfl) (by kernel_rfl) (by kernel_rfl) (by kernel_rfl) (by kernel_rfl) (fun _ _ _ h => h) hS5 (Or.inl ⟨by rfl, ?_⟩) ?_
        rotate_left
        · intro wz hSz; obtain ⟨z0, z1, z2, z3, z4⟩ := hSz; go_simp; first | done | with_reducible rfl
        try simp only [Act.put, List.setIfInBounds_toArray, List.set_cons_zero, List.set_cons_succ]
        refine wpAnyX_take (i := 2) (v := ?_) (by rw [List.getElem?_toArray]; rfl) (by kernel_rfl) (by kernel_rfl) (by kernel_rfl) (by kernel_rfl) (fun _ _ _ h => h) hS5 (Or.inl ⟨by rfl, ?_⟩) ?_
        rotate_left
        · intro wz hSz; obtain ⟨z0, z1, z2, z3, z4⟩ := hSz; go_simp; first | done | with_reducible rfl
        try simp only [Act.put, List.setIfInBounds_toArray, List.set_cons_zero, List.set_cons_succ]
        refine wpAnyX_take (i := 3) (v := ?_) (by rw [List.getElem?_toArray]; rfl) (by kernel_rfl) (by kernel_rfl) (by kernel_rfl) (by kernel_rfl) (fun _ _ _ h => h) hS5 (Or.inl ⟨by rfl, ?_⟩) ?_
        rotate_left
        · intro wz hSz; obtain ⟨z0, z1, z2, z3, z4⟩ := hSz; go_simp; first | done | with_reducible rfl
        try simp only [Act.put, List.setIfInBounds_toArray, List.set_cons_zero, List.set_cons_succ]
        refine wpAnyX_take (i := 4) (v := ?_) (by rw [List.getElem?_toArray]; rfl) (by kernel_rfl) (by kernel_rfl) (by kernel_rfl) (by kernel_rfl) (fun _ _ _ h => h) hS5 (Or.inl ⟨by rfl, ?_⟩) ?_
        rotate_left
        · intro wz hSz; obtain ⟨z0, z1, z2, z3, z4⟩ := hSz; go_simp; first | done | with_reducible rfl
        try simp only [Act.put, List.setIfInBounds_toArray, List.set_cons_zero, List.set_cons_succ]
        refine wpAnyX_take (i := 5) (v := ?_) (by rw [List.getElem?_toArray]; rfl) (by kernel_rfl) (by kernel_rfl) (by kernel_rfl) (by kernel_rfl) (fun _ _ _ h => h) hS5 (Or.inl ⟨by rfl, ?_⟩) ?_
        rotate_left
        · intro wz hSz; obtain ⟨z0, z1, z2, z3, z4⟩ := hSz; go_simp; first | done | with_reducible rfl
        try simp only [Act.put, List.setIfInBounds_toArray, List.set_cons_zero, List.set_cons_succ]
        refine wpAnyX_take (i := 6) (v := ?_) (by rw [List.getElem?_toArray]; rfl) (by kernel_rfl) (by kernel_rfl) (by kernel_rfl) (by kernel_rfl) (fun _ _ _ h => h) hS5 (Or.inl ⟨by rfl, ?_⟩) ?_
        rotate_left
        · intro wz hSz; obtain ⟨z0, z1, z2, z3, z4⟩ := hSz; go_simp; first | done | with_reducible rfl
        try simp only [Act.put, List.setIfInBounds_toArray, List.set_cons_zero, List.set_cons_succ]
        refine wpAnyX_take (i := 7) (v := ?_) (by rw [List.getElem?_toArray]; rfl) (by kernel_rfl) (by kernel_rfl) (by kernel_rfl) (by kernel_rfl) (fun _ _ _ h => h) hS5 (Or.inl ⟨by rfl, ?_⟩) ?_
        rotate_left
        · intro wz hSz; obtain ⟨z0, z1, z2, z3, z4⟩ := hSz; go_simp; first | done | with_reducible rfl
        try simp only [Act.put, List.setIfInBounds_toArray, List.set_cons_zero, List.set_cons_succ]
        refine wpAnyX_take (i := 8) (v := ?_) (by rw [List.getElem?_toArray]; rfl) (by kernel_rfl) (by kernel_rfl) (by kernel_rfl) (by kernel_rfl) (fun _ _ _ h => h) hS5 (Or.inl ⟨by rfl, ?_⟩) ?_
        rotate_left
        · intro wz hSz; obtain ⟨z0, z1, z2, z3, z4⟩ := hSz; go_simp; first | done | with_reducible rfl
        try simp only [Act.put, List.setIfInBounds_toArray, List.set_cons_zero, List.set_cons_succ]
        refine wpAnyX_take (i := 9) (v := ?_) (by rw [List.getElem?_toArray]; rfl) (by kernel_rfl) (by kernel_rfl) (by kernel_rfl) (by kernel_rfl) (fun _ _ _ h => h) hS5 (Or.inl ⟨by rfl, ?_⟩) ?_
        rotate_left
        · intro wz hSz; obtain ⟨z0, z1, z2, z3, z4⟩ := hSz; go_simp; first | done | with_reducible rfl
        try simp only [Act.put, List.setIfInBounds_toArray, List.set_cons_zero, List.set_cons_succ]
        refine wpAnyX_take (i := 10) (v := ?_) (by rw [List.getElem?_toArray]; rfl) (by kernel_rfl) (by kernel_rfl) (by kernel_rfl) (by kernel_rfl) (fun _ _ _ h => h) hS5 (Or.inl ⟨by rfl, ?_⟩) ?_
        rotate_left
        · intro wz hSz; obtain ⟨z0, z1, z2, z3, z4⟩ := hSz; go_simp; first | done | with_reducible rfl
        try simp only [Act.put, List.setIfInBounds_toArray, List.set_cons_zero, List.set_cons_succ]
        refine wpAnyX_take (i := 11) (v := ?_) (by rw [List.getElem?_toArray]; rfl) (by kernel_rfl) (by kernel_rfl) (by kernel_rfl) (by kernel_rfl) (fun _ _ _ h => h) hS5 (Or.inl ⟨by rfl, ?_⟩) ?_
        rotate_left
        · intro wz hSz; obtain ⟨z0, z1, z2, z3, z4⟩ := hSz; go_simp; first | done | with_reducible rfl
        try simp only [Act.put, List.setIfInBounds_toArray, List.set_cons_zero, List.set_cons_succ]
        have hsC := HQ.out.2.1.size
        refine wpAnyX_one (i := 12) (by kernel_rfl) (by rw [List.getElem?_toArray]; rfl) (fun K hK => ?_)
        have HK : Hid _ := hK
        clear hK
        go_simp
        refine HK.out _ _ (fun _ => HK5.out _ (by first | exact ((Below.refl _ _).alloc (Nat.le_refl _) _).drew | exact (Below.refl _ _).drew.alloc (Nat.le_refl _) _)) ?_
        clear HK K
        try simp only [Act.put, List.setIfInBounds_toArray, List.set_cons_zero, List.set_cons_succ]
        refine wpAnyX_one (i := 13) (by kernel_rfl) (by rw [List.getElem?_toArray]; rfl) (fun K hK => ?_)
        have HK : Hid _ := hK
        clear hK
        refine step_append_int_at (by rfl) _ _ (by rfl) w.heap.size (.slice jo jl jc) (gz py s r j) (by rfl) (by rw [← HV.out.1]; exact (HQ.out.1.below (by first | exact ((Below.refl _ _).alloc (Nat.le_refl _) _).drew | exact (Below.refl _ _).drew.alloc (Nat.le_refl _) _)).row j hjlt) ⟨_, 0, none⟩ 1 (x : Int) (by rfl) (by simp) hzl (by first | omega | (simp; omega)) ?_
        intro g9 c9 w9 hown9 hgrow9 hat9
        have hF9 := bpF.keep (HK5.out _ (by first | exact ((Below.refl _ _).alloc (Nat.le_refl _) _).drew | exact (Below.refl _ _).drew.alloc (Nat.le_refl _) _)) (HQ.out.1.below (by first | exact ((Below.refl _ _).alloc (Nat.le_refl _) _).drew | exact (Below.refl _ _).drew.alloc (Nat.le_refl _) _)) hjlt rfl HQ.out.2.2.2.2.2.2.1 HQ.out.2.2.2.2.2.2.2 (by rw [HV.out.1]) hgrow9
        refine HK.out _ _ (fun _ => hF9) ?_
        clear HK K
        try simp only [Act.put, List.setIfInBounds_toArray, List.set_cons_zero, List.set_cons_succ]
        have HF9 : Hid (bpF pb g j bs os r jo jl jc i x w9) := hF9
        have hc9 := hF9.2.2.1
        have hf9 := hF9.2.2.2.1
        clear hF9
        refine wpAnyX_one (i := 14) (by kernel_rfl) (by rw [List.getElem?_toArray]; rfl) (fun K hK => ?_)
        have HK : Hid _ := hK
        clear hK
        go_simp
        refine HK.out _ _ (fun _ => HF9.out) ?_
        clear HK K
        try simp only [Act.put, List.setIfInBounds_toArray, List.set_cons_zero, List.set_cons_succ]
        refine wpAnyX_one (i := 15) (by kernel_rfl) (by rw [List.getElem?_toArray]; rfl) (fun K hK => ?_)
        have HK : Hid _ := hK
        clear hK
        go_simp
        refine HK.out _ _ (fun h => absurd rfl h) ?_
        clear HK K
        try simp only [Act.put, List.setIfInBounds_toArray, List.set_cons_zero, List.set_cons_succ]
        refine wpAnyX_done (by kernel_rfl) (NoPanic.normal ?_)
        have HR : Hid (GrS w.heap.size m1 (some ⟨g, 0, none⟩) rc1 (fun i => if i = j then (.slice (some ⟨g9, 0, none⟩) ((gz py s r j).length + 1) c9) else vs1 i) (gz py s (r + 1)) (w9.setCell ⟨g, j, none⟩ (.slice (some ⟨g9, 0, none⟩) ((gz py s r j).length + 1) c9)) ∧ Below w.heap.size w (w9.setCell ⟨g, j, none⟩ (.slice (some ⟨g9, 0, none⟩) ((gz py s r j).length + 1) c9))) := by
          have hx := HP2.out.1
          refine ⟨GrS.next (HQ.out.1.below (by first | exact ((Below.refl _ _).alloc (Nat.le_refl _) _).drew | exact (Below.refl _ _).drew.alloc (Nat.le_refl _) _)) hjlt HP2.out.2 rfl (by rw [← hx]; exact hown9) (by rw [HV.out.1]) hgrow9 hat9, ?_⟩
          have hb : Below w.heap.size w w9 := (bel_up' HQ.out.2.1 (by first | exact ((Below.refl _ _).alloc (Nat.le_refl _) _).drew | exact (Below.refl _ _).drew.alloc (Nat.le_refl _) _)).grown hgrow9 (by first | omega | (simp; omega)) (fun k hk => ((HQ.out.1.row j hjlt).lt k (by rw [HV.out.1]; exact hk)).1)
          refine hb.setCell ?_ _
          obtain ⟨g', e, _, _, hge, _⟩ := HQ.out.1.cell j hjlt
          cases e
          exact hge
        clear hown9 hgrow9 hat9 hc9 hf9 HF9 hS5
        go_wp2
        go_roundw
        case rel => exact ⟨r + 1, _, _, _, _, by omega, by go_num, rfl, HQ.out.2.2.1, HR.out⟩
        case measure => simp [intOf]; omega
      · have hjb : (((j : Nat) : Int) == ((m : Nat) : Int)) = false := by rw [beq_eq_false_iff_ne]; omega
        have hjlt : j < m := by omega
        go_wp2
        have HQ : Hid (GrS w.heap.size m ro rc vs (gz py s r) wB ∧ Below w.heap.size w wB ∧ m = gn py (r + 1) ∧ wB.cell? ⟨pb, 0, none⟩ = some (.int .i64 (i : Nat)) ∧ wB.cell? ⟨pb, 1, none⟩ = some (.int .i64 (j : Nat)) ∧ wB.cell? ⟨bs, os + r, none⟩ = some (.int .i64 (x : Nat)) ∧ (∀ k, (vs j).ownBlock = some k → k ≠ pb) ∧ bs < w.heap.size) := by
          refine ⟨HP.out.2.2.2.1, HP.out.2.2.2.2.1, ?_, hp0, hp1, ?_, ?_, hbs⟩
          · show m = if py r = gn py r then gn py r + 1 else gn py r
            rw [← HP.out.2.1, ← HP.out.1, if_neg hjm2]
          · rw [HP.out.2.2.1]
            obtain ⟨_, _, e, h⟩ := (HF.out.2.1.below HP.out.2.2.2.2.1 HF.out.2.2.1) r hlt
            cases e
            exact h
          · intro k hk
            have := HP.out.2.2.2.2.2.1 j hjlt k hk
            omega
        rw [← HS.out.2, ← hwB]
        clear hp0 hp1 hc0 hc1 hwB hpb HS HP hjm hjm2
        obtain ⟨g, jo, jc, hro, hvj, hF⟩ := bp_ahead HQ.out.1 hjlt HQ.out.2.2.2.1 HQ.out.2.2.2.2.1 HQ.out.2.2.2.2.2.1
        subst hro
        obtain ⟨jl, hjl⟩ : ∃ jl, jl = (gz py s r j).length := ⟨_, rfl⟩
        rw [← hjl] at hF hvj
        have hzl : (gz py s r j).length ≤ 1000000 := by have := gz_len py s r j; omega
        have HV : Hid (vs j = .slice jo jl jc ∧ jl = (gz py s r j).length) := ⟨hvj, hjl⟩
        have HK5 : Hid (∀ wx, Below wB.heap.size wB wx → bpF pb g j bs os r jo jl jc i x wx) := fun wx hx => hF.below hx
        have HKx : Hid (∀ wx, Below wB.heap.size wB wx → wx.cell? ⟨pb, 0, none⟩ = some (.int .i64 (i : Nat)) ∧ wx.cell? ⟨pb, 1, none⟩ = some (.int .i64 (j : Nat)) ∧ wx.cell? ⟨bs, os + r, none⟩ = some (.int .i64 (x : Nat))) := fun wx hx => (hF.below hx).three
        have hne := hF.ne HQ.out.1 hjlt rfl HQ.out.2.2.2.2.2.2.2
        have HNe : Hid (g ≠ pb ∧ g ≠ bs) := hne
        have ht3 := (HK5.out _ (Below.refl _ _).drew).2.2.1
        have hjmb : (j : Int) < (m : Int) := by omega
        clear hF hvj hjl
        have hS5 := HK5.out _ (Below.refl wB.heap.size wB).drew
        refine wp_region_noPanic ?_
        refine wp_region_X (S := bpF pb g j bs os r jo jl jc i x) 15 (by kernel_rfl) ?_
        refine wpAnyX_take (i := 0) (v := ?_) (by rw [List.getElem?_toArray]; rfl) (by kernel_rfl) (by kernel_rfl) (by kernel_rfl) (by kernel_rfl) (fun _ _ _ h => h) hS5 (Or.inl ⟨by rfl, ?_⟩) ?_
        rotate_left
        · intro wz hSz; obtain ⟨z0, z1, z2, z3, z4⟩ := hSz; go_simp; first | done | with_reducible rfl
        try simp only [Act.put, List.setIfInBounds_toArray, List.set_cons_zero, List.set_cons_succ]
        refine wpAnyX_take (i := 1) (v := ?_) (by rw [List.getElem?_toArray]; rfl) (by kernel_rfl) (by kernel_rfl) (by kernel_rfl) (by kernel_rfl) (fun _ _ _ h => h) hS5 (Or.inl ⟨by rfl, ?_⟩) ?_
        rotate_left
        · intro wz hSz; obtain ⟨z0, z1, z2, z3, z4⟩ := hSz; go_simp; first | done | with_reducible rfl
        try simp only [Act.put, List.setIfInBounds_toArray, List.set_cons_zero, List.set_cons_succ]
        refine wpAnyX_take (i := 2) (v := ?_) (by rw [List.getElem?_toArray]; rfl) (by kernel_rfl) (by kernel_rfl) (by kernel_rfl) (by kernel_rfl) (fun _ _ _ h => h) hS5 (Or.inl ⟨by rfl, ?_⟩) ?_
        rotate_left
        · intro wz hSz; obtain ⟨z0, z1, z2, z3, z4⟩ := hSz; go_simp; first | done | with_reducible rfl
        try simp only [Act.put, List.setIfInBounds_toArray, List.set_cons_zero, List.set_cons_succ]
        refine wpAnyX_take (i := 3) (v := ?_) (by rw [List.getElem?_toArray]; rfl) (by kernel_rfl) (by kernel_rfl) (by kernel_rfl) (by kernel_rfl) (fun _ _ _ h => h) hS5 (Or.inl ⟨by rfl, ?_⟩) ?_
        rotate_left
        · intro wz hSz; obtain ⟨z0, z1, z2, z3, z4⟩ := hSz; go_simp; first | done | with_reducible rfl
        try simp only [Act.put, List.setIfInBounds_toArray, List.set_cons_zero, List.set_cons_succ]
        refine wpAnyX_take (i := 4) (v := ?_) (by rw [List.getElem?_toArray]; rfl) (by kernel_rfl) (by kernel_rfl) (by kernel_rfl) (by kernel_rfl) (fun _ _ _ h => h) hS5 (Or.inl ⟨by rfl, ?_⟩) ?_
        rotate_left
        · intro wz hSz; obtain ⟨z0, z1, z2, z3, z4⟩ := hSz; go_simp; first | done | with_reducible rfl
        try simp only [Act.put, List.setIfInBounds_toArray, List.set_cons_zero, List.set_cons_succ]
        refine wpAnyX_take (i := 5) (v := ?_) (by rw [List.getElem?_toArray]; rfl) (by kernel_rfl) (by kernel_rfl) (by kernel_rfl) (by kernel_rfl) (fun _ _ _ h => h) hS5 (Or.inl ⟨by rfl, ?_⟩) ?_
        rotate_left
        · intro wz hSz; obtain ⟨z0, z1, z2, z3, z4⟩ := hSz; go_simp; first | done | with_reducible rfl
        try simp only [Act.put, List.setIfInBounds_toArray, List.set_cons_zero, List.set_cons_succ]
        refine wpAnyX_take (i := 6) (v := ?_) (by rw [List.getElem?_toArray]; rfl) (by kernel_rfl) (by kernel_rfl) (by kernel_rfl) (by kernel_rfl) (fun _ _ _ h => h) hS5 (Or.inl ⟨by rfl, ?_⟩) ?_
        rotate_left
        · intro wz hSz; obtain ⟨z0, z1, z2, z3, z4⟩ := hSz; go_simp; first | done | with_reducible rfl
        try simp only [Act.put, List.setIfInBounds_toArray, List.set_cons_zero, List.set_cons_succ]
        refine wpAnyX_take (i := 7) (v := ?_) (by rw [List.getElem?_toArray]; rfl) (by kernel_rfl) (by kernel_rfl) (by kernel_rfl) (by kernel_rfl) (fun _ _ _ h => h) hS5 (Or.inl ⟨by rfl, ?_⟩) ?_
        rotate_left
        · intro wz hSz; obtain ⟨z0, z1, z2, z3, z4⟩ := hSz; go_simp; first | done | with_reducible rfl
        try simp only [Act.put, List.setIfInBounds_toArray, List.set_cons_zero, List.set_cons_succ]
        refine wpAnyX_take (i := 8) (v := ?_) (by rw [List.getElem?_toArray]; rfl) (by kernel_rfl) (by kernel_rfl) (by kernel_rfl) (by kernel_rfl) (fun _ _ _ h => h) hS5 (Or.inl ⟨by rfl, ?_⟩) ?_
        rotate_left
        · intro wz hSz; obtain ⟨z0, z1, z2, z3, z4⟩ := hSz; go_simp; first | done | with_reducible rfl
        try simp only [Act.put, List.setIfInBounds_toArray, List.set_cons_zero, List.set_cons_succ]
        refine wpAnyX_take (i := 9) (v := ?_) (by rw [List.getElem?_toArray]; rfl) (by kernel_rfl) (by kernel_rfl) (by kernel_rfl) (by kernel_rfl) (fun _ _ _ h => h) hS5 (Or.inl ⟨by rfl, ?_⟩) ?_
        rotate_left
        · intro wz hSz; obtain ⟨z0, z1, z2, z3, z4⟩ := hSz; go_simp; first | done | with_reducible rfl
        try simp only [Act.put, List.setIfInBounds_toArray, List.set_cons_zero, List.set_cons_succ]
        refine wpAnyX_take (i := 10) (v := ?_) (by rw [List.getElem?_toArray]; rfl) (by kernel_rfl) (by kernel_rfl) (by kernel_rfl) (by kernel_rfl) (fun _ _ _ h => h) hS5 (Or.inl ⟨by rfl, ?_⟩) ?_
        rotate_left
        · intro wz hSz; obtain ⟨z0, z1, z2, z3, z4⟩ := hSz; go_simp; first | done | with_reducible rfl
        try simp only [Act.put, List.setIfInBounds_toArray, List.set_cons_zero, List.set_cons_succ]
        refine wpAnyX_take (i := 11) (v := ?_) (by rw [List.getElem?_toArray]; rfl) (by kernel_rfl) (by kernel_rfl) (by kernel_rfl) (by kernel_rfl) (fun _ _ _ h => h) hS5 (Or.inl ⟨by rfl, ?_⟩) ?_
        rotate_left
        · intro wz hSz; obtain ⟨z0, z1, z2, z3, z4⟩ := hSz; go_simp; first | done | with_reducible rfl
        try simp only [Act.put, List.setIfInBounds_toArray, List.set_cons_zero, List.set_cons_succ]
        have hsC := HQ.out.2.1.size
        refine wpAnyX_one (i := 12) (by kernel_rfl) (by rw [List.getElem?_toArray]; rfl) (fun K hK => ?_)
        have HK : Hid _ := hK
        clear hK
        go_simp
        refine HK.out _ _ (fun _ => HK5.out _ (by first | exact ((Below.refl _ _).alloc (Nat.le_refl _) _).drew | exact (Below.refl _ _).drew.alloc (Nat.le_refl _) _)) ?_
        clear HK K
        try simp only [Act.put, List.setIfInBounds_toArray, List.set_cons_zero, List.set_cons_succ]
        refine wpAnyX_one (i := 13) (by kernel_rfl) (by rw [List.getElem?_toArray]; rfl) (fun K hK => ?_)
        have HK : Hid _ := hK
        clear hK
        refine step_append_int_at (by rfl) _ _ (by rfl) w.heap.size (.slice jo jl jc) (gz py s r j) (by rfl) (by rw [← HV.out.1]; exact (HQ.out.1.below (by first | exact ((Below.refl _ _).alloc (Nat.le_refl _) _).drew | exact (Below.refl _ _).drew.alloc (Nat.le_refl _) _)).row j hjlt) ⟨_, 0, none⟩ 1 (x : Int) (by rfl) (by simp) hzl (by first | omega | (simp; omega)) ?_
        intro g9 c9 w9 hown9 hgrow9 hat9
        have hF9 := bpF.keep (HK5.out _ (by first | exact ((Below.refl _ _).alloc (Nat.le_refl _) _).drew | exact (Below.refl _ _).drew.alloc (Nat.le_refl _) _)) (HQ.out.1.below (by first | exact ((Below.refl _ _).alloc (Nat.le_refl _) _).drew | exact (Below.refl _ _).drew.alloc (Nat.le_refl _) _)) hjlt rfl HQ.out.2.2.2.2.2.2.1 HQ.out.2.2.2.2.2.2.2 (by rw [HV.out.1]) hgrow9
        refine HK.out _ _ (fun _ => hF9) ?_
        clear HK K
        try simp only [Act.put, List.setIfInBounds_toArray, List.set_cons_zero, List.set_cons_succ]
        have HF9 : Hid (bpF pb g j bs os r jo jl jc i x w9) := hF9
        have hc9 := hF9.2.2.1
        have hf9 := hF9.2.2.2.1
        clear hF9
        refine wpAnyX_one (i := 14) (by kernel_rfl) (by rw [List.getElem?_toArray]; rfl) (fun K hK => ?_)
        have HK : Hid _ := hK
        clear hK
        go_simp
        refine HK.out _ _ (fun _ => HF9.out) ?_
        clear HK K
        try simp only [Act.put, List.setIfInBounds_toArray, List.set_cons_zero, List.set_cons_succ]
        refine wpAnyX_one (i := 15) (by kernel_rfl) (by rw [List.getElem?_toArray]; rfl) (fun K hK => ?_)
        have HK : Hid _ := hK
        clear hK
        go_simp
        refine HK.out _ _ (fun h => absurd rfl h) ?_
        clear HK K
        try simp only [Act.put, List.setIfInBounds_toArray, List.set_cons_zero, List.set_cons_succ]
        refine wpAnyX_done (by kernel_rfl) (NoPanic.normal ?_)
        have HR : Hid (GrS w.heap.size m (some ⟨g, 0, none⟩) rc (fun i => if i = j then (.slice (some ⟨g9, 0, none⟩) ((gz py s r j).length + 1) c9) else vs i) (gz py s (r + 1)) (w9.setCell ⟨g, j, none⟩ (.slice (some ⟨g9, 0, none⟩) ((gz py s r j).length + 1) c9)) ∧ Below w.heap.size w (w9.setCell ⟨g, j, none⟩ (.slice (some ⟨g9, 0, none⟩) ((gz py s r j).length + 1) c9))) := by
          have hx := HP2.out.1
          refine ⟨GrS.next (HQ.out.1.below (by first | exact ((Below.refl _ _).alloc (Nat.le_refl _) _).drew | exact (Below.refl _ _).drew.alloc (Nat.le_refl _) _)) hjlt HP2.out.2 rfl (by rw [← hx]; exact hown9) (by rw [HV.out.1]) hgrow9 hat9, ?_⟩
          have hb : Below w.heap.size w w9 := (bel_up' HQ.out.2.1 (by first | exact ((Below.refl _ _).alloc (Nat.le_refl _) _).drew | exact (Below.refl _ _).drew.alloc (Nat.le_refl _) _)).grown hgrow9 (by first | omega | (simp; omega)) (fun k hk => ((HQ.out.1.row j hjlt).lt k (by rw [HV.out.1]; exact hk)).1)
          refine hb.setCell ?_ _
          obtain ⟨g', e, _, _, hge, _⟩ := HQ.out.1.cell j hjlt
          cases e
          exact hge
        clear hown9 hgrow9 hat9 hc9 hf9 HF9 hS5
        go_wp2
        go_roundw
        case rel => exact ⟨r + 1, _, _, _, _, by omega, by go_num, rfl, HQ.out.2.2.1, HR.out⟩
        case measure => simp [intOf]; omega
    · have hib : ¬ (r : Int) < (n : Int) := by omega
      have hrn : r = n := by omega
      subst hrn
      have HE : Hid (LLs w.heap.size (.slice ro m rc) (gL py s r) wA ∧ Below w.heap.size w wA) := ⟨HG.out.2.1.lls HG.out.1 HF.out.2.2.2, HG.out.2.2⟩
      go_wp2
      go_ret
      exact ⟨_, rfl, HE.out⟩
end Go.Proofs.Ytcgmllamiaflcaa
