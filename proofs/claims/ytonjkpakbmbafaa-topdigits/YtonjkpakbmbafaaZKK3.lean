/- The tables of package digits, whole (lay), and the rules (rules: a map of structs with functions). -/
import Derived.Test.YtonjkpakbmbafaaZKK2
import Derived.Maps.OwnSet
namespace Go.Proofs.Ytonjkpakbmbafaa
open Go.RowKit Go.Maps

/-- The tables as a value. -/
structure TabD (cs : Array Value) : Prop where
  size : cs.size = 290
  grp : ∀ i j, i < 10 → j < 10 → cs[i * 10 + j]? = some (nvl (dih i j))
  ends : ∀ i, i < 10 → cs[100 + i]? = some (nvl (dnv i))
  trn : ∀ x k, x < 10 → k < 8 → cs[110 + k * 10 + x]? = some (nvl (vtk k x))
  sqr : ∀ i j, i < 10 → j < 10 → cs[190 + i * 10 + j]? = some (nvl (dsq i j))
theorem TabD.one {cs : Array Value} (h : TabD cs) (o : Nat) (ho : o < 290) : ∃ x, cs[o]? = some (nvl x) := by
  by_cases h1 : o < 100
  · have := h.grp (o / 10) (o % 10) (by omega) (by omega)
    rw [show o / 10 * 10 + o % 10 = o by omega] at this
    exact ⟨_, this⟩
  by_cases h2 : o < 110
  · have := h.ends (o - 100) (by omega)
    rw [show 100 + (o - 100) = o by omega] at this
    exact ⟨_, this⟩
  by_cases h3 : o < 190
  · have := h.trn ((o - 110) % 10) ((o - 110) / 10) (by omega) (by omega)
    rw [show 110 + (o - 110) / 10 * 10 + (o - 110) % 10 = o by omega] at this
    exact ⟨_, this⟩
  · have := h.sqr ((o - 190) / 10) ((o - 190) % 10) (by omega) (by omega)
    rw [show 190 + (o - 190) / 10 * 10 + (o - 190) % 10 = o by omega] at this
    exact ⟨_, this⟩
theorem TabD.all {cs : Array Value} (h : TabD cs) : cs.all (·.oneCell') = true := by
  rw [Array.all_eq_true]
  intro i hi
  obtain ⟨x, hx⟩ := h.one i (by rw [← h.size]; exact hi)
  rw [Array.getElem?_eq_getElem hi] at hx
  rw [Option.some.inj hx]; rfl
theorem und_tab : ∃ l, Try.prog.underlying 95 = some (.struct l) := by
  have h : (match Try.prog.underlying 95 with | some (.struct _) => true | _ => false) = true := by kernel_rfl
  cases hq : Try.prog.underlying 95 with
  | none => rw [hq] at h; cases h
  | some d =>
    rw [hq] at h
    cases d <;> first | exact ⟨_, rfl⟩ | cases h
theorem inf_tab {cs : Array Value} (h : cs.size = 290) : (Try.prog.info? 95).map (·.size) = some cs.size := by rw [h]; kernel_rfl
set_option maxRecDepth 1000000 in
theorem zer_tab : Try.zeroCells95.size = 290 := by kernel_rfl
theorem put_row (w : World) (g : Nat) (t : TypeId) (old cells : Array Value) (hg : w.heap[g]? = some (.cells old t (0, 0))) (ho : old.size = cells.size) (h1 : cells.all (·.oneCell') = true) :
    (storeCells ⟨g, 0, none⟩ cells.toList).run Try.prog w = .ok () (w.setRow g cells) := by
  have := run_storeCells_from (P := Try.prog) g t cells.toList 0 old w hg (by simp; omega) (fun v hv => (Array.all_eq_true_iff_forall_mem.1 h1) v (by simpa using hv))
  simpa using this
theorem setRow_gr (w : World) (g : Nat) (cs : Array Value) : w.grownBy (w.setRow g cs) (some g) := ⟨rfl, rfl, rfl, by simp [World.setRow], fun k _ hk => setRow_other w g k cs (fun e => hk (by rw [e]))⟩
theorem row_any {cs : Array Value} {n : Nat} {t : TypeId} (h : cs.size = n) (w : World) : RowF w.heap.size n t (fun o => cs.getD o undef) (w.alloc (.cells cs t)) :=
  ⟨cs, heap_new w _, h, fun o ho => by
    rw [Array.getElem?_eq_getElem (by omega)]
    show some _ = some (cs.getD o undef)
    unfold Array.getD
    rw [dif_pos (by omega)]; rfl⟩

set_option maxHeartbeats 4000000 in
set_option maxRecDepth 100000 in
theorem lay_any (w : World) :
    Calls Try.prog 58 #[] w fun e w' => ∃ cs, e = .returned (.agg cs) ∧ TabD cs ∧ Below w.heap.size w w' := by
  obtain ⟨d, hu⟩ := und_tab
  go_enter Try.func58, Try.ntmps58
  go_wp2_with fail
  obtain ⟨Z, hZ⟩ : ∃ Z, Z = Try.zeroCells95 := ⟨_, rfl⟩
  have hzs : Z.size = 290 := by rw [hZ]; exact zer_tab
  rw [← hZ]
  clear hZ
  obtain ⟨w1, hw1⟩ : ∃ w1, w1 = w.alloc (.cells Z 95) := ⟨_, rfl⟩
  rw [← hw1]
  have hs1 : w1.heap.size = w.heap.size + 1 := by rw [hw1]; show (w.heap.push _).size = _; simp
  rw [← hs1]
  have hr0 : RowF w.heap.size 290 95 (fun o => Z.getD o undef) w1 := by rw [hw1]; exact row_any hzs w
  obtain ⟨w2, hw2⟩ : ∃ w2, w2 = w1.alloc (.cells Z 95) := ⟨_, rfl⟩
  have hr1 : RowF w1.heap.size 290 95 (fun o => Z.getD o undef) w2 := by rw [hw2]; exact row_any hzs w1
  have hb2 : Below w.heap.size w w2 := by rw [hw2, hw1]; exact ((Below.refl _ _).alloc (Nat.le_refl _) _).alloc (by show w.heap.size ≤ (w.heap.push _).size; simp) _
  have hr2 : RowF w.heap.size 290 95 (fun o => Z.getD o undef) w2 := by rw [hw2]; exact hr0.alloc _
  rw [← hw2]
  obtain ⟨G, hG⟩ : ∃ G, G = w1.heap.size := ⟨_, rfl⟩
  rw [← hG] at hr1 ⊢
  have hGB : w.heap.size < G := by omega
  clear hw1 hw2 hr0 hG hs1
  refine (layGroup_any hr1).mono ?_
  rintro e w3 ⟨rfl, g3, hr3, hg3, -, hgr3⟩
  have hb3 : Below w.heap.size w w3 := hb2.trans (below_grown hgr3 hb2.size (fun k hk => by cases hk; omega))
  have hz3 := hr2.grown hgr3 (by intro e; cases e; omega)
  go_wp2_with fail
  refine (layTurned_any hr3).mono ?_
  rintro e w4 ⟨rfl, g4, hr4, hg4, hk4, hgr4⟩
  have hb4 : Below w.heap.size w w4 := hb3.trans (below_grown hgr4 hb3.size (fun k hk => by cases hk; omega))
  have hz4 := hz3.grown hgr4 (by intro e; cases e; omega)
  go_wp2_with fail
  refine (laySquare_any hr4).mono ?_
  rintro e w5 ⟨rfl, g5, hr5, hg5, hk5, hgr5⟩
  have hb5 : Below w.heap.size w w5 := hb4.trans (below_grown hgr5 hb4.size (fun k hk => by cases hk; omega))
  have hz5 := hz4.grown hgr5 (by intro e; cases e; omega)
  obtain ⟨cs, hc1, hc2, hc3⟩ := hr5
  obtain ⟨c0, hd1, hd2, hd3⟩ := hz5
  have HT : Hid (TabD cs) := ⟨hc2, fun i j hi hj => by rw [hc3 _ (by omega), hk5 _ (by omega), hk4 _ (by omega), hg3.grp i j hi hj (by omega)], fun i hi => by rw [hc3 _ (by omega), hk5 _ (by omega), hk4 _ (by omega), hg3.ends i hi (by omega)],
    fun x k hx hk => by rw [hc3 _ (by omega), hk5 _ (by omega), hg4.at' x k hx hk (by omega)], fun i j hi hj => by rw [hc3 _ (by omega), hg5.at' i j hi hj (by omega)]⟩
  have HB : Hid (Below w.heap.size w (w5.setRow w.heap.size cs)) := hb5.trans (below_grown (setRow_gr _ _ _) hb5.size (fun k hk => by cases hk; omega))
  have hi := inf_tab hc2
  have hh : c0.size = cs.size := by rw [hc2, hd2]
  have ha := HT.out.all
  clear hb2 hb3 hb4 hb5 hg3 hk4 hg4 hk5 hg5 hr1 hr2 hr3 hr4 hz3 hz4 hgr3 hgr4 hgr5 hc3 hd3 hzs
  go_wp2_with fail
  refine wp_load_row 95 _ rfl G rfl 95 cs (0, 0) (.struct d) hc1 hu rfl hi ?_
  have hst := put_row w5 w.heap.size _ c0 cs hd1 hh ha
  go_wp2_with fail
  refine bodyPost_ret (results_cell_row rfl _ _ w.heap.size 95 cs (0, 0) (.struct d) rfl (setRow_heap _ _ _ _ _ _ hd1) hu rfl hi) rfl ?_
  exact ⟨cs, rfl, HT.out, HB.out⟩
end Go.Proofs.Ytonjkpakbmbafaa
