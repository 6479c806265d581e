/- Nets out of raw numbers (NetOf; printed by make/kg1.py). -/
import Derived.Test.YthkjaiihlphgfaaZKF14
import Derived.Test.YthkjaiihlphgfaaZL10
import Derived.Test.YthkjaiihlphgfaaZS9
namespace Go.Proofs.Ythkjaiihlphgfaa
open Go.RowKit Go.Sort

theorem Try.infoE : (Try.prog.info? 89).map (fun i => (i.zero, i.size, i.bytes)) = some (some (.agg #[.int .i64 0, .int .i64 0]), 2, 16) := by kernel_rfl
/-- The cells of edges. -/
def edc (l : List (Int × Int)) : List Value := l.flatMap fun p => [.int .i64 p.1, .int .i64 p.2]
theorem edc_get : ∀ (l : List (Int × Int)) (a : Nat), a < l.length → (edc l)[a * 2]? = some (.int .i64 (l.getD a (0, 0)).1) ∧ (edc l)[a * 2 + 1]? = some (.int .i64 (l.getD a (0, 0)).2)
  | [], a, h => absurd h (by simp)
  | x :: l, 0, _ => ⟨rfl, rfl⟩
  | x :: l, a + 1, h => by
    have := edc_get l a (by rw [List.length_cons] at h; omega)
    show (Value.int .i64 x.1 :: Value.int .i64 x.2 :: edc l)[(a + 1) * 2]? = _ ∧ (Value.int .i64 x.1 :: Value.int .i64 x.2 :: edc l)[(a + 1) * 2 + 1]? = _
    rw [show (a + 1) * 2 = a * 2 + 1 + 1 from by omega, List.getElem?_cons_succ, List.getElem?_cons_succ, List.getElem?_cons_succ, List.getElem?_cons_succ]
    exact this
theorem edc_app (l m : List (Int × Int)) : edc (l ++ m) = edc l ++ edc m := by
  unfold edc
  rw [List.flatMap_append]
/-- The slice v of edges, made behind block number base, holds the edges l. -/
def OwnE (base : Nat) (v : Value) (l : List (Int × Int)) (w : World) : Prop := w.ownsRow base 89 2 v l.length (edc l)
theorem OwnE.nil (base : Nat) (w : World) : OwnE base (.slice none 0 0) [] w := World.ownsRow_nil _ _ _ _
theorem OwnE.below {base B : Nat} {v : Value} {l : List (Int × Int)} {w w' : World} (h : OwnE base v l w) (hb : Below B w w') (hB : w.heap.size ≤ B) : OwnE base v l w' := by
  obtain ⟨h1, h2⟩ := h
  refine ⟨h1, ?_⟩
  rcases h2 with h2 | ⟨g, cap, cur, hv, hg, hh, r⟩
  · exact Or.inl h2
  · exact Or.inr ⟨g, cap, cur, hv, hg, by rw [hb.block g (Nat.lt_of_lt_of_le (lt_of_block hh) hB)]; exact hh, r⟩
theorem OwnE.set {base b o : Nat} {v u : Value} {l : List (Int × Int)} {w : World} (h : OwnE base v l w) (hb : b < base) : OwnE base v l (w.setCell ⟨b, o, none⟩ u) := by
  obtain ⟨h1, h2⟩ := h
  refine ⟨h1, ?_⟩
  rcases h2 with h2 | ⟨g, cap, cur, hv, hg, hh, r⟩
  · exact Or.inl h2
  · exact Or.inr ⟨g, cap, cur, hv, hg, by rw [Below.heap_setCell _ _ _ _ (by show g ≠ b; omega)]; exact hh, r⟩
theorem OwnE.open {base : Nat} {v : Value} {l : List (Int × Int)} {w : World} (h : OwnE base v l w) : ∃ ao cap, v = .slice ao l.length cap ∧ EdZ ao l.length (fun j => (l.getD j (0, 0)).1) (fun j => (l.getD j (0, 0)).2) w := by
  rcases h.2 with ⟨h1, h2⟩ | ⟨g, cap, cur, hv, hg, hh, hle, hcm, hsz, htake⟩
  · exact ⟨none, 0, by rw [h1, h2], fun j hj => absurd hj (by omega)⟩
  · refine ⟨_, cap, hv, fun j hj => ⟨g, 0, rfl, ?_, ?_⟩⟩
    · rw [Nat.zero_add, cell_of_row w g (j * 2) cur 89 (0, 0) hh, ← Array.getElem?_toList]
      have h3 : (cur.toList.take (l.length * 2))[j * 2]? = (edc l)[j * 2]? := by rw [htake]
      rw [List.getElem?_take, if_pos (by omega)] at h3
      rw [h3]; exact (edc_get l j hj).1
    · rw [Nat.zero_add, cell_of_row w g (j * 2 + 1) cur 89 (0, 0) hh, ← Array.getElem?_toList]
      have h3 : (cur.toList.take (l.length * 2))[j * 2 + 1]? = (edc l)[j * 2 + 1]? := by rw [htake]
      rw [List.getElem?_take, if_pos (by omega)] at h3
      rw [h3]; exact (edc_get l j hj).2
/-- 'append(l, api.Edge{x, y})', at a step of a region that draws its order. -/
theorem step_append_e {ops : Array Oper} {o : Oper} {a : Act} {w : World} {K : Act → World → Prop} {Q : Exit → Act → World → Prop} {E : Prop} (hgd : o.guard = none) (s x : Operand)
    (ho : o.op = .call { callee := .builtin .append, args := #[s, x], argTypes := #[22, 22] })
    (base : Nat) (v : Value) (l : List (Int × Int)) (hs : a.eval s = v) (hown : OwnE base v l w) (g : Nat) (c : Nat) (p : Int × Int) (hx : a.eval x = .slice (some ⟨g, 0, none⟩) 1 c) (hc0 : w.cell? ⟨g, 0, none⟩ = some (.int .i64 p.1)) (hc1 : w.cell? ⟨g, 1, none⟩ = some (.int .i64 p.2))
    (hlen : l.length ≤ 1000000) (hbase : base ≤ w.heap.size)
    (h : ∀ v' w', OwnE base v' (l ++ [p]) w' → w.grownBy w' v.ownBlock → K (a.put o.dst v') w') : if Region.wanted o (yielded ops a.tmps) = true then Oper.wp Try.prog o a w K Q else E := by
  have hw : Region.wanted o (yielded ops a.tmps) = true := by simp [Region.wanted, hgd]
  rw [if_pos hw]
  obtain ⟨i0, hi, hz0, hz1, hz2⟩ := info_parts Try.infoE
  refine wp_append_own w s x 22 ho base 89 i0 (.agg #[.int .i64 0, .int .i64 0]) 2 16 Try.underlying22 hi hz0 hz1 hz2 rfl (by decide) v l.length _ hs hown ⟨g, 0, none⟩ 1 c [.int .i64 p.1, .int .i64 p.2] hx rfl ?_ ?_ ?_ ?_ hbase ?_
  · intro j u hj
    match j, hj with
    | 0, hj =>
      simp at hj; subst hj
      exact hc0
    | 1, hj =>
      simp at hj; subst hj
      exact hc1
  · intro u hu
    simp at hu
    rcases hu with rfl | rfl <;> rfl
  · unfold maxLen; omega
  · omega
  · intro v' w' hown' hgrow _
    refine h v' w' ?_ hgrow
    unfold OwnE
    rw [List.length_append, edc_app]
    exact hown'
/-- A net's cells that may be written, in block b. -/
structure NR (b : Nat) (n : Int) (v : Value) (w : World) : Prop where
  nb : NB b n v w
  f0 : w.frozen? ⟨b, 0, none⟩ = false
  f1 : w.frozen? ⟨b, 1, none⟩ = false
theorem NR.new (n : Int) (v : Value) (w : World) : NR w.heap.size n v (w.alloc (.cells #[.int .i64 n, v] 24)) := ⟨NB.new n v w, frozen_of_row _ _ _ _ _ (two_new _), frozen_of_row _ _ _ _ _ (two_new _)⟩
theorem NR.same {b : Nat} {n : Int} {v : Value} {w w' : World} (h : NR b n v w) (hh : w'.heap[b]? = w.heap[b]?) : NR b n v w' := by
  have e : ∀ o, w'.cell? ⟨b, o, none⟩ = w.cell? ⟨b, o, none⟩ := fun o => by simp [World.cell?, hh]
  have f : ∀ o, w'.frozen? ⟨b, o, none⟩ = w.frozen? ⟨b, o, none⟩ := fun o => by simp [World.frozen?, hh]
  exact ⟨⟨(e 0).trans h.nb.c0, (e 1).trans h.nb.c1⟩, (f 0).trans h.f0, (f 1).trans h.f1⟩
theorem NR.keep {b : Nat} {n : Int} {v : Value} {w w' : World} (h : NR b n v w) (hb : Below w.heap.size w w') : NR b n v w' := h.same (hb.block b (cell_lt h.nb.c0))
theorem NR.put {b : Nat} {n : Int} {v u : Value} {w : World} (h : NR b n v w) : NR b n u (w.setCell ⟨b, 1, none⟩ u) := by
  have n01 : (⟨b, 0, none⟩ : Addr) ≠ ⟨b, 1, none⟩ := fun e => by cases e
  refine ⟨⟨?_, World.cell?_setCell_same _ _ _ h.nb.c1⟩, ?_, ?_⟩
  · rw [World.cell?_setCell_other _ _ _ _ n01.symm]; exact h.nb.c0
  · rw [World.frozen?_setCell]; exact h.f0
  · rw [World.frozen?_setCell]; exact h.f1
theorem NR.other {b g o : Nat} {n : Int} {v u : Value} {w : World} (h : NR b n v w) (hne : b ≠ g) : NR b n v (w.setCell ⟨g, o, none⟩ u) := h.same (Below.heap_setCell _ _ _ _ hne)
/-- A net is laid. -/
def laidN (w : World) (b : Nat) (n : Int) (v : Value) : World := (w.setCell ⟨b, 0, none⟩ (.int .i64 n)).setCell ⟨b, 1, none⟩ v
theorem laidN_below {B b : Nat} {u w : World} (h : Below B u w) (hb : B ≤ b) (n : Int) (v : Value) : Below B u (laidN w b n v) := (h.setCell hb _).setCell hb _
theorem setE_below {B b : Nat} {u w : World} (h : Below B u w) (hb : B ≤ b) (v : Value) : Below B u (w.setCell ⟨b, 1, none⟩ v) := h.setCell hb _
theorem laidN_nb {b : Nat} {n x : Int} {u v : Value} {w : World} (h : NR b x u w) : NB b n v (laidN w b n v) := by
  have n01 : (⟨b, 0, none⟩ : Addr) ≠ ⟨b, 1, none⟩ := fun e => by cases e
  refine ⟨?_, ?_⟩
  · unfold laidN
    rw [World.cell?_setCell_other _ _ _ _ n01.symm, World.cell?_setCell_same _ _ _ h.nb.c0]
  · exact World.cell?_setCell_same _ _ _ (by rw [World.cell?_setCell_other _ _ _ _ n01]; exact h.nb.c1)

/-- Edges of a net of N nodes. -/
def EdF (N : Nat) (l : List (Int × Int)) : Prop := ∀ j, j < l.length → 0 ≤ (l.getD j (0, 0)).1 ∧ (l.getD j (0, 0)).1 < (l.getD j (0, 0)).2 ∧ (l.getD j (0, 0)).2 < (N : Int)
theorem EdF.push {N a b : Nat} {l : List (Int × Int)} (h : EdF N l) (h1 : a < b) (h2 : b < N) : EdF N (l ++ [((a : Int), (b : Int))]) := fun j hj => by
  rw [List.length_append] at hj
  rw [List.getD_eq_getElem?_getD]
  by_cases c : j < l.length
  · rw [List.getElem?_append_left c, ← List.getD_eq_getElem?_getD]; exact h j c
  · have e : j = l.length := by have : j < l.length + 1 := hj; omega
    rw [e, List.getElem?_append_right (Nat.le_refl _), Nat.sub_self]
    show 0 ≤ (a : Int) ∧ (a : Int) < (b : Int) ∧ (b : Int) < (N : Int)
    omega
set_option maxHeartbeats 16000000 in
set_option maxRecDepth 100000 in
theorem netOf_may {ao : Option Addr} {n ca : Nat} {z : Nat → Int} (nodes edges : Int) {w : World} (ha : Arg ao n ca z w) (hn : n ≤ 256) (h1 : I64 nodes) (h2 : I64 edges) :
    Calls Try.prog 19 #[.slice ao n ca, .int .i64 nodes, .int .i64 edges] w fun e w' => ∃ (k m ec : Nat) (eo : Option Addr) (F T : Nat → Int), e = .returned (.agg #[.int .i64 (k : Nat), .slice eo m ec]) ∧ EdZ eo m F T w' ∧ 2 ≤ k ∧ k ≤ 8 ∧ m ≤ 24 ∧ Below w.heap.size w w' ∧ ∀ i, i < m → 0 ≤ F i ∧ F i < T i ∧ T i < (k : Int) := by
  have HPi : ∀ (x : Int) (q : Nat), I64 x → 1 ≤ q → q ≤ 100 → ∃ M : Nat, M < q ∧ ∀ w : World, Calls Try.prog 21 #[.int .i64 x, .int .i64 (q : Nat)] w fun e w' => e = .returned (.int .i64 (M : Nat)) ∧ w' = w := fun x q hx h1 h2 => by
    have h3 := pick_lo x (q : Int) (by omega)
    have h4 := pick_hi x (q : Int) (by omega)
    exact ⟨(pick x (q : Int)).toNat, by omega, fun w => by rw [Int.toNat_of_nonneg h3]; exact pick_any x q w hx.1 hx.2 (by omega) (by omega)⟩
  obtain ⟨N0, hN0, hp1⟩ := HPi nodes 7 h1 (by omega) (by omega)
  obtain ⟨M0, hM0, hp2⟩ := HPi edges 25 h2 (by omega) (by omega)
  obtain ⟨N1, hN1⟩ : ∃ N1, N1 = 2 + N0 := ⟨_, rfl⟩
  obtain ⟨N2, hN2⟩ : ∃ N2, N2 = 1 + N0 := ⟨_, rfl⟩
  have hwN : IntKind.i64.wrap (2 + (N0 : Int)) = (N1 : Int) := wrap_to (by omega) (by omega)
  have hwN2 : IntKind.i64.wrap ((N1 : Int) - 1) = (N2 : Int) := wrap_to (by omega) (by omega)
  have H1 : Hid (∀ w : World, Calls Try.prog 21 #[.int .i64 nodes, .int .i64 7] w fun e w' => e = .returned (.int .i64 (N0 : Nat)) ∧ w' = w) := hp1
  have H2 : Hid (∀ w : World, Calls Try.prog 21 #[.int .i64 edges, .int .i64 25] w fun e w' => e = .returned (.int .i64 (M0 : Nat)) ∧ w' = w) := hp2
  have HP : Hid (∀ (x : Int) (q : Nat), I64 x → 1 ≤ q → q ≤ 100 → ∃ M : Nat, M < q ∧ ∀ w : World, Calls Try.prog 21 #[.int .i64 x, .int .i64 (q : Nat)] w fun e w' => e = .returned (.int .i64 (M : Nat)) ∧ w' = w) := HPi
  have HNb : Hid (2 ≤ N1 ∧ N1 ≤ 8 ∧ 1 ≤ N2 ∧ N2 ≤ 7) := by constructor <;> omega
  have HNc : Hid (N2 + 1 = N1) := by show _ = _; omega
  obtain ⟨wa, hwa⟩ : ∃ wa, wa = w.alloc (.cells #[.int .i64 0, .slice none 0 0] 24) := ⟨_, rfl⟩
  obtain ⟨wb, hwb⟩ : ∃ wb, wb = wa.alloc (.cells #[.int .i64 (N1 : Nat), .slice none 0 0] 24) := ⟨_, rfl⟩
  obtain ⟨B6, hB6⟩ : ∃ B6, B6 = w.heap.size := ⟨_, rfl⟩
  obtain ⟨B7, hB7⟩ : ∃ B7, B7 = wa.heap.size := ⟨_, rfl⟩
  obtain ⟨bs, hbs⟩ : ∃ bs, bs = wb.heap.size := ⟨_, rfl⟩
  have h67 : B6 + 1 = B7 := by rw [hB6, hB7, hwa]; simp
  have hba : Below w.heap.size w wa := by rw [hwa]; exact (Below.refl _ _).alloc (Nat.le_refl _) _
  have hbb : Below wa.heap.size wa wb := by rw [hwb]; exact (Below.refl _ _).alloc (Nat.le_refl _) _
  have HA : Hid (Arg ao n ca z w ∧ B6 = w.heap.size ∧ B6 < B7 ∧ B7 < bs ∧ bs ≤ wb.heap.size) := ⟨ha, hB6, by rw [hB6, hB7, hwa]; simp, by rw [hB7, hbs, hwb]; simp, by omega⟩
  have HW : Hid (NR B6 0 (.slice none 0 0) wb ∧ NR B7 (N1 : Nat) (.slice none 0 0) wb ∧ Below w.heap.size w wb) := ⟨by rw [hB6]; exact NR.keep (by rw [hwa]; exact NR.new _ _ _) hbb, by rw [hB7, hwb]; exact NR.new _ _ _, bel_up' hba hbb⟩
  clear ha h1 h2 hp1 hp2 HPi hN1 hN2 hba hbb hN0
  go_enter Try.func19, Try.ntmps19
  go_wp2_with fail
  rw [← hwa]
  refine (H1.out wa).mono ?_
  rintro e w' ⟨rfl, hw⟩
  have hw := hw.symm
  subst hw
  go_wp2
  try rw [← hwa]
  rw [← hwb]
  rw [← hB6, h67]
  clear hwa hwb hB6 hB7 hbs h67
  go_loopw [8] (fun vi wr => ∃ (i : Nat) (v : Value) (l : List (Int × Int)), i ≤ M0 ∧ vi = .int .i64 i ∧ Hid (OwnE bs v l wr ∧ l.length = i ∧ NR B6 0 (.slice none 0 0) wr ∧ NR B7 (N1 : Nat) v wr ∧ Below w.heap.size w wr ∧ bs ≤ wr.heap.size) ∧ Hid (EdF N1 l)) (fun vi _ => M0 - (intOf vi).toNat)
  case atStart => exact ⟨0, .slice none 0 0, [], by omega, rfl, ⟨OwnE.nil _ _, rfl, HW.out.1, HW.out.2.1, HW.out.2.2, HA.out.2.2.2.2⟩, fun j hj => absurd hj (by simp)⟩
  case round =>
    obtain ⟨i, v, l, hi, rfl, HI, HEF⟩ := hrel
    rename World => wr
    by_cases hlt : i < M0
    · have hib : (i : Int) < (M0 : Int) := by omega
      obtain ⟨i2, hi2⟩ : ∃ i2, i2 = 2 * i := ⟨_, rfl⟩
      have hw1 : IntKind.i64.wrap (2 * (i : Int)) = (i2 : Int) := wrap_to (by omega) (by omega)
      obtain ⟨i3, hi3⟩ : ∃ i3, i3 = i2 + 1 := ⟨_, rfl⟩
      have hw2 : IntKind.i64.wrap ((i2 : Int) + 1) = (i3 : Int) := wrap_to (by omega) (by omega)
      have hi3b : i2 ≤ 50 ∧ i3 ≤ 51 := by omega
      have HR2 : Hid (∀ (wx : World), Below w.heap.size w wx → Calls Try.prog 24 #[.slice ao n ca, .int .i64 (2 * (i : Int))] wx fun e w' => (∃ x, e = .returned (.int .i64 x) ∧ I64 x) ∧ ∃ k, w' = wx.drewN k) := fun wx hx => by
        rw [show (2 * (i : Int)) = ((2 * i : Nat) : Int) by omega]
        exact raw_any (HA.out.1.below hx) (by omega) (2 * i) (by omega)
      have HR3 : Hid (∀ (wx : World), Below w.heap.size w wx → Calls Try.prog 24 #[.slice ao n ca, .int .i64 (2 * (i : Int) + 1)] wx fun e w' => (∃ x, e = .returned (.int .i64 x) ∧ I64 x) ∧ ∃ k, w' = wx.drewN k) := fun wx hx => by
        rw [show (2 * (i : Int) + 1) = ((2 * i + 1 : Nat) : Int) by omega]
        exact raw_any (HA.out.1.below hx) (by omega) (2 * i + 1) (by omega)
      clear hi2 hi3
      have HR : Hid (∀ (j : Nat) (wx : World), j ≤ 100 → Below w.heap.size w wx → Calls Try.prog 24 #[.slice ao n ca, .int .i64 (j : Nat)] wx fun e w' => (∃ x, e = .returned (.int .i64 x) ∧ I64 x) ∧ ∃ k, w' = wx.drewN k) := fun j wx hj hx => raw_any (HA.out.1.below hx) (by omega) j (by omega)
      have hq := HI.out.2.2.2.1.nb
      obtain ⟨q0, q1⟩ := hq
      go_wp2_with fail
      refine (H2.out wr).mono ?_
      rintro e w' ⟨rfl, hw⟩
      have hw := hw.symm
      subst hw
      go_wp2
      clear q0 q1
      have HK5 : Hid (∀ wx, Below wr.heap.size wr wx → (fun wx : World => wx.cell? ⟨B7, 0, none⟩ = some (.int .i64 (N1 : Nat)) ∧ True) wx) := fun wx hx => ⟨(HI.out.2.2.2.1.keep hx).nb.c0, trivial⟩
      obtain ⟨wd, hwd⟩ : ∃ wd, wd = wr.drew := ⟨_, rfl⟩
      have H3 : Hid (Below wr.heap.size wr wd) := by rw [hwd]; exact (Below.refl wr.heap.size wr).drew
      have hS0 := HK5.out _ H3.out
      refine wp_region_noPanic ?_
      refine wp_region_X (S := fun wx : World => wx.cell? ⟨B7, 0, none⟩ = some (.int .i64 (N1 : Nat)) ∧ True) 9 (by kernel_rfl) ?_
      rw [← hwd]
      clear hwd
      refine wpAnyX_take (i := 0) (v := ?_) (by rw [List.getElem?_toArray]; rfl) (by kernel_rfl) (by kernel_rfl) (by kernel_rfl) (by kernel_rfl) (fun _ _ _ h => h) hS0 (Or.inl ⟨by rfl, ?_⟩) ?_
      rotate_left
      · intro wz hSz; obtain ⟨z0, z1⟩ := hSz; go_simp; first | done | with_reducible rfl
      try simp only [Act.put, List.setIfInBounds_toArray, List.set_cons_zero, List.set_cons_succ]
      refine wpAnyX_take (i := 1) (v := ?_) (by rw [List.getElem?_toArray]; rfl) (by kernel_rfl) (by kernel_rfl) (by kernel_rfl) (by kernel_rfl) (fun _ _ _ h => h) hS0 (Or.inl ⟨by rfl, ?_⟩) ?_
      rotate_left
      · intro wz hSz; obtain ⟨z0, z1⟩ := hSz; go_simp; first | done | with_reducible rfl
      try simp only [Act.put, List.setIfInBounds_toArray, List.set_cons_zero, List.set_cons_succ]
      refine wpAnyX_take (i := 2) (v := ?_) (by rw [List.getElem?_toArray]; rfl) (by kernel_rfl) (by kernel_rfl) (by kernel_rfl) (by kernel_rfl) (fun _ _ _ h => h) hS0 (Or.inl ⟨by rfl, ?_⟩) ?_
      rotate_left
      · intro wz hSz; obtain ⟨z0, z1⟩ := hSz; go_simp; first | done | with_reducible rfl
      try simp only [Act.put, List.setIfInBounds_toArray, List.set_cons_zero, List.set_cons_succ]
      refine wpAnyX_take (i := 4) (v := ?_) (by rw [List.getElem?_toArray]; rfl) (by kernel_rfl) (by kernel_rfl) (by kernel_rfl) (by kernel_rfl) (fun _ _ _ h => h) hS0 (Or.inl ⟨by rfl, ?_⟩) ?_
      rotate_left
      · intro wz hSz; obtain ⟨z0, z1⟩ := hSz; go_simp; first | done | with_reducible rfl
      try simp only [Act.put, List.setIfInBounds_toArray, List.set_cons_zero, List.set_cons_succ]
      refine wpAnyX_take (i := 5) (v := ?_) (by rw [List.getElem?_toArray]; rfl) (by kernel_rfl) (by kernel_rfl) (by kernel_rfl) (by kernel_rfl) (fun _ _ _ h => h) hS0 (Or.inl ⟨by rfl, ?_⟩) ?_
      rotate_left
      · intro wz hSz; obtain ⟨z0, z1⟩ := hSz; go_simp; first | done | with_reducible rfl
      try simp only [Act.put, List.setIfInBounds_toArray, List.set_cons_zero, List.set_cons_succ]
      refine wpAnyX_take (i := 6) (v := ?_) (by rw [List.getElem?_toArray]; rfl) (by kernel_rfl) (by kernel_rfl) (by kernel_rfl) (by kernel_rfl) (fun _ _ _ h => h) hS0 (Or.inl ⟨by rfl, ?_⟩) ?_
      rotate_left
      · intro wz hSz; obtain ⟨z0, z1⟩ := hSz; go_simp; first | done | with_reducible rfl
      try simp only [Act.put, List.setIfInBounds_toArray, List.set_cons_zero, List.set_cons_succ]
      refine wpAnyX_one (i := 3) (by kernel_rfl) (by rw [List.getElem?_toArray]; rfl) (fun KK hK => ?_)
      have HK : Hid _ := hK
      clear hK
      go_simp
      refine (by first | exact HR.out i2 wd (by omega) (bel_up' HI.out.2.2.2.2.1 H3.out) | exact HR2.out wd (bel_up' HI.out.2.2.2.2.1 H3.out) : Calls _ _ _ _ _).mono ?_
      rintro e w5 ⟨⟨x5, rfl, hx5⟩, k5, hw5x⟩
      have H5 : Hid (Below wr.heap.size wr w5) := by rw [hw5x]; exact below_drewN2 H3.out _
      clear hw5x
      refine HK.out _ _ (fun _ => HK5.out _ H5.out) ?_
      clear HK KK
      try simp only [Act.put, List.setIfInBounds_toArray, List.set_cons_zero, List.set_cons_succ]
      refine wpAnyX_one (i := 7) (by kernel_rfl) (by rw [List.getElem?_toArray]; rfl) (fun KK hK => ?_)
      have HK : Hid _ := hK
      clear hK
      go_simp
      obtain ⟨M6, hM6, hpk⟩ := HP.out x5 N2 hx5 (by have := HNb.out; omega) (by have := HNb.out; omega)
      refine (hpk w5).mono ?_
      rintro e w' ⟨rfl, hw⟩
      have hw := hw.symm
      subst hw
      clear hpk
      refine HK.out _ _ (fun _ => HK5.out _ H5.out) ?_
      clear HK KK
      try simp only [Act.put, List.setIfInBounds_toArray, List.set_cons_zero, List.set_cons_succ]
      obtain ⟨tt, htt⟩ : ∃ tt, tt = 1 + M6 := ⟨_, rfl⟩
      have htb : 1 ≤ tt ∧ tt ≤ 7 := by have := HNb.out; omega
      have HTT : Hid (tt < N1) := by have := HNc.out; show tt < N1; omega
      have hwt : IntKind.i64.wrap (1 + (M6 : Int)) = (tt : Int) := wrap_to (by omega) (by omega)
      clear htt
      refine wpAnyX_one (i := 8) (by kernel_rfl) (by rw [List.getElem?_toArray]; rfl) (fun KK hK => ?_)
      have HK : Hid _ := hK
      clear hK
      go_simp
      refine HK.out _ _ (fun _ => HK5.out _ H5.out) ?_
      clear HK KK
      try simp only [Act.put, List.setIfInBounds_toArray, List.set_cons_zero, List.set_cons_succ]
      refine wpAnyX_one (i := 9) (by kernel_rfl) (by rw [List.getElem?_toArray]; rfl) (fun KK hK => ?_)
      have HK : Hid _ := hK
      clear hK
      go_simp
      refine HK.out _ _ (fun h => absurd rfl h) ?_
      clear HK KK
      try simp only [Act.put, List.setIfInBounds_toArray, List.set_cons_zero, List.set_cons_succ]
      refine wpAnyX_done (by kernel_rfl) (NoPanic.normal ?_)
      clear HK5 H3 hS0
      obtain ⟨wd2, hwd2⟩ : ∃ wd2, wd2 = w5.drew := ⟨_, rfl⟩
      have H7 : Hid (Below wr.heap.size wr wd2) := by rw [hwd2]; exact H5.out.drew
      have HK5 : Hid (∀ wx, Below wr.heap.size wr wx → (fun wx : World => wx.cell? ⟨B7, 1, none⟩ = some v ∧ True) wx) := fun wx hx => ⟨(HI.out.2.2.2.1.keep hx).nb.c1, trivial⟩
      have hS0 := HK5.out _ H7.out
      go_wp2
      refine wp_region_noPanic ?_
      refine wp_region_X (S := fun wx : World => wx.cell? ⟨B7, 1, none⟩ = some v ∧ True) 14 (by kernel_rfl) ?_
      rw [← hwd2]
      clear hwd2 H5
      refine wpAnyX_take (i := 0) (v := ?_) (by rw [List.getElem?_toArray]; rfl) (by kernel_rfl) (by kernel_rfl) (by kernel_rfl) (by kernel_rfl) (fun _ _ _ h => h) hS0 (Or.inl ⟨by rfl, ?_⟩) ?_
      rotate_left
      · intro wz hSz; obtain ⟨z0, z1⟩ := hSz; go_simp; first | done | with_reducible rfl
      try simp only [Act.put, List.setIfInBounds_toArray, List.set_cons_zero, List.set_cons_succ]
      refine wpAnyX_take (i := 1) (v := ?_) (by rw [List.getElem?_toArray]; rfl) (by kernel_rfl) (by kernel_rfl) (by kernel_rfl) (by kernel_rfl) (fun _ _ _ h => h) hS0 (Or.inl ⟨by rfl, ?_⟩) ?_
      rotate_left
      · intro wz hSz; obtain ⟨z0, z1⟩ := hSz; go_simp; first | done | with_reducible rfl
      try simp only [Act.put, List.setIfInBounds_toArray, List.set_cons_zero, List.set_cons_succ]
      refine wpAnyX_take (i := 2) (v := ?_) (by rw [List.getElem?_toArray]; rfl) (by kernel_rfl) (by kernel_rfl) (by kernel_rfl) (by kernel_rfl) (fun _ _ _ h => h) hS0 (Or.inl ⟨by rfl, ?_⟩) ?_
      rotate_left
      · intro wz hSz; obtain ⟨z0, z1⟩ := hSz; go_simp; first | done | with_reducible rfl
      try simp only [Act.put, List.setIfInBounds_toArray, List.set_cons_zero, List.set_cons_succ]
      refine wpAnyX_take (i := 3) (v := ?_) (by rw [List.getElem?_toArray]; rfl) (by kernel_rfl) (by kernel_rfl) (by kernel_rfl) (by kernel_rfl) (fun _ _ _ h => h) hS0 (Or.inl ⟨by rfl, ?_⟩) ?_
      rotate_left
      · intro wz hSz; obtain ⟨z0, z1⟩ := hSz; go_simp; first | done | with_reducible rfl
      try simp only [Act.put, List.setIfInBounds_toArray, List.set_cons_zero, List.set_cons_succ]
      refine wpAnyX_take (i := 4) (v := ?_) (by rw [List.getElem?_toArray]; rfl) (by kernel_rfl) (by kernel_rfl) (by kernel_rfl) (by kernel_rfl) (fun _ _ _ h => h) hS0 (Or.inl ⟨by rfl, ?_⟩) ?_
      rotate_left
      · intro wz hSz; obtain ⟨z0, z1⟩ := hSz; go_simp; first | done | with_reducible rfl
      try simp only [Act.put, List.setIfInBounds_toArray, List.set_cons_zero, List.set_cons_succ]
      refine wpAnyX_take (i := 5) (v := ?_) (by rw [List.getElem?_toArray]; rfl) (by kernel_rfl) (by kernel_rfl) (by kernel_rfl) (by kernel_rfl) (fun _ _ _ h => h) hS0 (Or.inl ⟨by rfl, ?_⟩) ?_
      rotate_left
      · intro wz hSz; obtain ⟨z0, z1⟩ := hSz; go_simp; first | done | with_reducible rfl
      try simp only [Act.put, List.setIfInBounds_toArray, List.set_cons_zero, List.set_cons_succ]
      refine wpAnyX_take (i := 7) (v := ?_) (by rw [List.getElem?_toArray]; rfl) (by kernel_rfl) (by kernel_rfl) (by kernel_rfl) (by kernel_rfl) (fun _ _ _ h => h) hS0 (Or.inl ⟨by rfl, ?_⟩) ?_
      rotate_left
      · intro wz hSz; obtain ⟨z0, z1⟩ := hSz; go_simp; first | done | with_reducible rfl
      try simp only [Act.put, List.setIfInBounds_toArray, List.set_cons_zero, List.set_cons_succ]
      refine wpAnyX_take (i := 9) (v := ?_) (by rw [List.getElem?_toArray]; rfl) (by kernel_rfl) (by kernel_rfl) (by kernel_rfl) (by kernel_rfl) (fun _ _ _ h => h) hS0 (Or.inl ⟨by rfl, ?_⟩) ?_
      rotate_left
      · intro wz hSz; obtain ⟨z0, z1⟩ := hSz; go_simp; first | done | with_reducible rfl
      try simp only [Act.put, List.setIfInBounds_toArray, List.set_cons_zero, List.set_cons_succ]
      refine wpAnyX_one (i := 6) (by kernel_rfl) (by rw [List.getElem?_toArray]; rfl) (fun KK hK => ?_)
      have HK : Hid _ := hK
      clear hK
      go_simp
      refine (by first | exact HR.out i3 wd2 (by omega) (bel_up' HI.out.2.2.2.2.1 H7.out) | exact HR3.out wd2 (bel_up' HI.out.2.2.2.2.1 H7.out) : Calls _ _ _ _ _).mono ?_
      rintro e w8 ⟨⟨x8, rfl, hx8⟩, k8, hw8x⟩
      have H8 : Hid (Below wr.heap.size wr w8) := by rw [hw8x]; exact below_drewN2 H7.out _
      clear hw8x
      refine HK.out _ _ (fun _ => HK5.out _ H8.out) ?_
      clear HK KK
      try simp only [Act.put, List.setIfInBounds_toArray, List.set_cons_zero, List.set_cons_succ]
      refine wpAnyX_one (i := 8) (by kernel_rfl) (by rw [List.getElem?_toArray]; rfl) (fun KK hK => ?_)
      have HK : Hid _ := hK
      clear hK
      go_simp
      obtain ⟨M9, hM9, hpk⟩ := HP.out x8 tt hx8 (by omega) (by omega)
      refine (hpk w8).mono ?_
      rintro e w' ⟨rfl, hw⟩
      have hw := hw.symm
      subst hw
      clear hpk
      refine HK.out _ _ (fun _ => HK5.out _ H8.out) ?_
      clear HK KK
      try simp only [Act.put, List.setIfInBounds_toArray, List.set_cons_zero, List.set_cons_succ]
      refine wpAnyX_one (i := 10) (by kernel_rfl) (by rw [List.getElem?_toArray]; rfl) (fun KK hK => ?_)
      have HK : Hid _ := hK
      clear hK
      go_simp
      refine HK.out _ _ (fun _ => HK5.out _ H8.out) ?_
      clear HK KK
      try simp only [Act.put, List.setIfInBounds_toArray, List.set_cons_zero, List.set_cons_succ]
      refine wpAnyX_one (i := 11) (by kernel_rfl) (by rw [List.getElem?_toArray]; rfl) (fun KK hK => ?_)
      have HK : Hid _ := hK
      clear hK
      go_simp
      obtain ⟨w10, hw10⟩ : ∃ wx : World, wx = w8.alloc (.cells #[.int .i64 (M9 : Nat), .int .i64 (tt : Nat)] 89) := ⟨_, rfl⟩
      have hb10 : Below w8.heap.size w8 w10 := by rw [hw10]; exact (Below.refl _ _).alloc (Nat.le_refl _) _
      obtain ⟨g, hg⟩ : ∃ g : Nat, g = w8.heap.size := ⟨_, rfl⟩
      have HY : Hid (Below wr.heap.size wr w10 ∧ w10.cell? ⟨g, 0, none⟩ = some (.int .i64 (M9 : Nat)) ∧ w10.cell? ⟨g, 1, none⟩ = some (.int .i64 (tt : Nat)) ∧ OwnE bs v l w10) := ⟨bel_up' H8.out hb10, by rw [hw10, hg, cell_of_row _ _ _ _ _ (0, 0) (two_new _)]; rfl, by rw [hw10, hg, cell_of_row _ _ _ _ _ (0, 0) (two_new _)]; rfl, HI.out.1.below (bel_up' H8.out hb10) (Nat.le_refl _)⟩
      rw [← hw10, ← hg]
      clear hw10 hb10 hg
      refine HK.out _ _ (fun _ => HK5.out _ HY.out.1) ?_
      clear HK KK
      try simp only [Act.put, List.setIfInBounds_toArray, List.set_cons_zero, List.set_cons_succ]
      refine wpAnyX_one (i := 12) (by kernel_rfl) (by rw [List.getElem?_toArray]; rfl) (fun KK hK => ?_)
      have HK : Hid _ := hK
      clear hK
      refine step_append_e (by rfl) _ _ (by rfl) bs v l (by rfl) HY.out.2.2.2 g 1 ((M9 : Int), (tt : Int)) (by rfl) HY.out.2.1 HY.out.2.2.1 (by have := HI.out.2.1; omega) (Nat.le_trans HI.out.2.2.2.2.2 HY.out.1.size) ?_
      intro V2 w11 hown hgr
      obtain ⟨eo2, n2, ec2, hv2⟩ : ∃ eo2 n2 ec2, V2 = .slice eo2 n2 ec2 := by obtain ⟨a, b, c, _⟩ := hown.open; exact ⟨_, _, _, c⟩
      subst hv2
      have HX : Hid (OwnE bs (.slice eo2 n2 ec2) (l ++ [((M9 : Int), (tt : Int))]) w11 ∧ NR B6 0 (.slice none 0 0) w11 ∧ NR B7 (N1 : Nat) v w11 ∧ Below w.heap.size w w11 ∧ bs ≤ w11.heap.size) := by
        have hlo : ∀ q, v.ownBlock = some q → bs ≤ q := fun q hq => (World.ownsRow.lt HY.out.2.2.2 q hq).1
        have h6 := HI.out.2.2.1.keep HY.out.1
        have h7 := HI.out.2.2.2.1.keep HY.out.1
        have hAo := HA.out
        refine ⟨hown, h6.same (hgr.block B6 (cell_lt h6.nb.c0) (fun e => by have := hlo B6 e.symm; omega)), h7.same (hgr.block B7 (cell_lt h7.nb.c0) (fun e => by have := hlo B7 e.symm; omega)), Below.grown (bel_up' HI.out.2.2.2.2.1 HY.out.1) hgr (Below.size (bel_up' HI.out.2.2.2.2.1 HY.out.1)) (fun q hq => by have := hlo q hq; omega), Nat.le_trans (Nat.le_trans HI.out.2.2.2.2.2 HY.out.1.size) hgr.size⟩
      clear hown hgr
      refine HK.out _ _ (fun _ => ⟨HX.out.2.2.1.nb.c1, trivial⟩) ?_
      clear HK KK
      try simp only [Act.put, List.setIfInBounds_toArray, List.set_cons_zero, List.set_cons_succ]
      refine wpAnyX_one (i := 13) (by kernel_rfl) (by rw [List.getElem?_toArray]; rfl) (fun KK hK => ?_)
      have HK : Hid _ := hK
      clear hK
      go_simp
      refine HK.out _ _ (fun _ => ⟨HX.out.2.2.1.nb.c1, trivial⟩) ?_
      clear HK KK
      try simp only [Act.put, List.setIfInBounds_toArray, List.set_cons_zero, List.set_cons_succ]
      have hq := HX.out.2.2.1
      obtain ⟨⟨q0, q1⟩, f0, f1⟩ := hq
      refine wpAnyX_one (i := 14) (by kernel_rfl) (by rw [List.getElem?_toArray]; rfl) (fun KK hK => ?_)
      have HK : Hid _ := hK
      clear hK
      go_simp
      refine HK.out _ _ (fun h => absurd rfl h) ?_
      clear HK KK
      try simp only [Act.put, List.setIfInBounds_toArray, List.set_cons_zero, List.set_cons_succ]
      refine wpAnyX_done (by kernel_rfl) (NoPanic.normal ?_)
      obtain ⟨w12, hw12⟩ : ∃ w12, w12 = w11.setCell ⟨B7, 1, none⟩ (.slice eo2 n2 ec2) := ⟨_, rfl⟩
      have HE : Hid (OwnE bs (.slice eo2 n2 ec2) (l ++ [((M9 : Int), (tt : Int))]) w12 ∧ (l ++ [((M9 : Int), (tt : Int))]).length = i + 1 ∧ NR B6 0 (.slice none 0 0) w12 ∧ NR B7 (N1 : Nat) (.slice eo2 n2 ec2) w12 ∧ Below w.heap.size w w12 ∧ bs ≤ w12.heap.size) := by
        have hAo := HA.out
        have hbl := setE_below HX.out.2.2.2.1 (show w.heap.size ≤ B7 by omega) (.slice eo2 n2 ec2)
        rw [hw12]
        exact ⟨HX.out.1.set (by omega), by rw [List.length_append, HI.out.2.1]; rfl, HX.out.2.1.other (by omega), HX.out.2.2.1.put, hbl, by simpa using HX.out.2.2.2.2⟩
      try rw [← hw12]
      clear hw12 q0 q1 f0 f1
      go_wp2
      go_roundw
      case rel => exact ⟨i + 1, (.slice eo2 n2 ec2), _, by omega, by go_num, HE.out, HEF.out.push hM9 HTT.out⟩
      case measure => simp [intOf]; omega
    · have hib : ¬ (i : Int) < (M0 : Int) := by omega
      obtain ⟨eo, ec, hv, hE⟩ := HI.out.1.open
      rw [HI.out.2.1] at hv hE
      obtain ⟨F, hF⟩ : ∃ F : Nat → Int, F = fun j => (l.getD j (0, 0)).1 := ⟨_, rfl⟩
      obtain ⟨T, hT⟩ : ∃ T : Nat → Int, T = fun j => (l.getD j (0, 0)).2 := ⟨_, rfl⟩
      have HFT : Hid (∀ j, j < i → 0 ≤ F j ∧ F j < T j ∧ T j < (N1 : Int)) := fun j hj => by rw [hF, hT]; exact HEF.out j (by rw [HI.out.2.1]; exact hj)
      rw [← hF, ← hT] at hE
      subst hv
      obtain ⟨wz, hwz⟩ : ∃ wz, wz = laidN wr B6 (N1 : Nat) (.slice eo i ec) := ⟨_, rfl⟩
      have HZ : Hid (EdZ eo i F T wz ∧ NB B6 (N1 : Nat) (.slice eo i ec) wz ∧ Below w.heap.size w wz) := by
        refine ⟨?_, ?_, ?_⟩
        · rw [hwz]
          obtain ⟨eo', ec', hv', hE'⟩ := ((HI.out.1.set (b := B6) (o := 0) (u := .int .i64 (N1 : Nat)) (by have := HA.out; omega)).set (b := B6) (o := 1) (u := .slice eo i ec) (by have := HA.out; omega)).open
          rw [HI.out.2.1, ← hF, ← hT] at hE'
          cases hv'
          exact hE'
        · rw [hwz]; exact laidN_nb HI.out.2.2.1
        · rw [hwz]; exact laidN_below HI.out.2.2.2.2.1 (by have := HA.out.2.1; omega) _ _
      have hq := HI.out.2.2.2.1.nb
      obtain ⟨q0, q1⟩ := hq
      have hr := HI.out.2.2.1
      obtain ⟨⟨p0, p1⟩, f0, f1⟩ := hr
      have hne : B7 ≠ B6 := by have := HA.out; omega
      clear hE hF hT
      go_wp2_with fail
      refine (H2.out wr).mono ?_
      rintro e w' ⟨rfl, hw⟩
      have hw := hw.symm
      subst hw
      go_wp2
      unfold laidN at hwz
      try rw [← hwz]
      clear hwz q0 q1 p0 p1 f0 f1 hne
      have hq := HZ.out.2.1
      obtain ⟨q0, q1⟩ := hq
      refine bodyPost_ret (v := .agg #[.int .i64 (N1 : Nat), .slice eo i ec]) (by simp [results, Try.results19, go_sem, q0, q1]) rfl ?_
      exact ⟨N1, i, ec, eo, F, T, rfl, HZ.out.1, HNb.out.1, HNb.out.2.1, by omega, HZ.out.2.2, HFT.out⟩
theorem netOf_any {ao : Option Addr} {n ca : Nat} {z : Nat → Int} (nodes edges : Int) {w : World} (ha : Arg ao n ca z w) (hn : n ≤ 256) (h1 : I64 nodes) (h2 : I64 edges) :
    Calls Try.prog 19 #[.slice ao n ca, .int .i64 nodes, .int .i64 edges] w fun e w' => ∃ (k m ec : Nat) (eo : Option Addr) (F T : Nat → Int), e = .returned (.agg #[.int .i64 (k : Nat), .slice eo m ec]) ∧ EdZ eo m F T w' ∧ 2 ≤ k ∧ k ≤ 8 ∧ m ≤ 24 ∧ Below w.heap.size w w' := by
  refine (netOf_may nodes edges ha hn h1 h2).mono ?_
  rintro e w' ⟨k, m, ec, eo, F, T, a1, a2, a3, a4, a5, a6, _⟩
  exact ⟨k, m, ec, eo, F, T, a1, a2, a3, a4, a5, a6⟩
end Go.Proofs.Ythkjaiihlphgfaa
