/- Texts of ours, one behind the other: S96 KW1 KW2 KW3. -/
import Derived.Test.YtbnkekeeceicaaaZS92
import Derived.Test.YtbnkekeeceicaaaZS47
import Derived.Test.YtbnkekeeceicaaaZI24
import Derived.ArgAppend
/- Sorting: two rising parts merged in their place. -/
namespace Go.Proofs.Ytbnkekeeceicaaa

/-- The first led to place k. -/
def shu (p : Nat → Nat) (a k : Nat) : Nat → Nat := fun x => if a ≤ x ∧ x < k then p (x + 1) else if x = k then p a else p x
theorem shu_zero (p : Nat → Nat) (a : Nat) : shu p a a = p := by
  funext x
  unfold shu
  rw [if_neg (by omega)]
  by_cases c : x = a
  · rw [if_pos c, c]
  · rw [if_neg c]
theorem shu_next {p : Nat → Nat} {a k : Nat} (h : a ≤ k) : shu p a (k + 1) = swq (shu p a k) k (k + 1) := by
  funext x
  have s1 : shu p a k k = p a := by unfold shu; rw [if_neg (by omega), if_pos rfl]
  have s2 : shu p a k (k + 1) = p (k + 1) := by unfold shu; rw [if_neg (by omega), if_neg (by omega)]
  show shu p a (k + 1) x = if x = k then shu p a k (k + 1) else if x = k + 1 then shu p a k k else shu p a k x
  rw [s1, s2]
  unfold shu
  by_cases c : x = k
  · rw [if_pos c, if_pos (by omega), c]
  · rw [if_neg c]
    by_cases d : x = k + 1
    · rw [if_pos d, if_neg (by omega), if_pos d]
    · rw [if_neg d]
      by_cases e : a ≤ x ∧ x < k
      · rw [if_pos e, if_pos (by omega), if_neg d]
      · rw [if_neg e, if_neg (by omega), if_neg d, if_neg c]
theorem shu_sdd {K p : Nat → Nat} {a b i : Nat} (hi : a + 1 ≤ i) (hib : i ≤ b) (hs : Sdd K p (a + 1) b) (h1 : ∀ x, a + 1 ≤ x → x < i → K (p x) < K (p a)) (h2 : ∀ x, i ≤ x → x < b → K (p a) ≤ K (p x)) : Sdd K (shu p a (i - 1)) a b := fun x y q1 q2 q3 => by
  unfold shu
  by_cases c : x < i - 1
  · rw [if_pos ⟨q1, c⟩]
    by_cases d : y < i - 1
    · rw [if_pos ⟨by omega, d⟩]; exact hs _ _ (by omega) (by omega) (by omega)
    · rw [if_neg (by omega)]
      by_cases e : y = i - 1
      · rw [if_pos e]; exact Nat.le_of_lt (h1 _ (by omega) (by omega))
      · rw [if_neg e]; exact Nat.le_trans (Nat.le_of_lt (h1 _ (by omega) (by omega))) (h2 y (by omega) q3)
  · rw [if_neg (by omega)]
    by_cases d : x = i - 1
    · rw [if_pos d, if_neg (by omega)]
      by_cases e : y = i - 1
      · rw [if_pos e]; exact Nat.le_refl _
      · rw [if_neg e]; exact h2 y (by omega) q3
    · rw [if_neg d, if_neg (by omega), if_neg (by omega)]; exact hs x y (by omega) q2 q3
/-- The last led down to place k. -/
def shd (p : Nat → Nat) (m k : Nat) : Nat → Nat := fun x => if k < x ∧ x ≤ m then p (x - 1) else if x = k then p m else p x
theorem shd_zero (p : Nat → Nat) (m : Nat) : shd p m m = p := by
  funext x
  unfold shd
  rw [if_neg (by omega)]
  by_cases c : x = m
  · rw [if_pos c, c]
  · rw [if_neg c]
theorem shd_next {p : Nat → Nat} {m k : Nat} (h : k ≤ m) (h0 : 0 < k) : shd p m (k - 1) = swq (shd p m k) k (k - 1) := by
  funext x
  have s1 : shd p m k k = p m := by unfold shd; rw [if_neg (by omega), if_pos rfl]
  have s2 : shd p m k (k - 1) = p (k - 1) := by unfold shd; rw [if_neg (by omega), if_neg (by omega)]
  show shd p m (k - 1) x = if x = k then shd p m k (k - 1) else if x = k - 1 then shd p m k k else shd p m k x
  rw [s1, s2]
  unfold shd
  by_cases c : x = k
  · rw [if_pos c, if_pos (by omega), c]
  · rw [if_neg c]
    by_cases d : x = k - 1
    · rw [if_pos d, if_neg (by omega), if_pos d]
    · rw [if_neg d]
      by_cases e : k < x ∧ x ≤ m
      · rw [if_pos e, if_pos (by omega), if_neg d]
      · rw [if_neg e, if_neg (by omega), if_neg d, if_neg c]
theorem shd_sdd {K p : Nat → Nat} {a m i : Nat} (hi : a ≤ i) (him : i ≤ m) (hs : Sdd K p a m) (h1 : ∀ x, a ≤ x → x < i → K (p x) ≤ K (p m)) (h2 : ∀ x, i ≤ x → x < m → K (p m) < K (p x)) : Sdd K (shd p m i) a (m + 1) := fun x y q1 q2 q3 => by
  unfold shd
  by_cases c : x < i
  · rw [if_neg (by omega), if_neg (by omega)]
    by_cases d : y < i
    · rw [if_neg (by omega), if_neg (by omega)]; exact hs x y q1 q2 (by omega)
    · by_cases e : y = i
      · rw [if_neg (by omega), if_pos e]; exact h1 x q1 c
      · rw [if_pos (by omega)]; exact hs x (y - 1) q1 (by omega) (by omega)
  · by_cases d : x = i
    · rw [if_neg (by omega), if_pos d]
      by_cases e : y = i
      · rw [if_neg (by omega), if_pos e]; exact Nat.le_refl _
      · rw [if_pos (by omega)]; exact Nat.le_of_lt (h2 (y - 1) (by omega) (by omega))
    · rw [if_pos (by omega), if_pos (by omega)]; exact hs _ _ (by omega) (by omega) (by omega)
/-- Where the two parts are cut: what lies left is nowhere above what lies right. -/
theorem sym_parts {K p : Nat → Nat} {a k b st en md : Nat} (hak : a ≤ st) (hst : st ≤ k) (hen : k ≤ en) (hb : en ≤ b) (hmd : st + en = md + k) (hU : Sdd K p a k) (hV : Sdd K p k b) (hA : a < st → en < b → K (p (st - 1)) ≤ K (p en)) (hB : st < k → k < en → K (p (en - 1)) ≤ K (p st)) :
    Sdd K (rtd p k (k - st) (en - k)) a st ∧ Sdd K (rtd p k (k - st) (en - k)) st md ∧ Sdd K (rtd p k (k - st) (en - k)) md en ∧ Sdd K (rtd p k (k - st) (en - k)) en b ∧ ∀ x y, a ≤ x → x < md → md ≤ y → y < b → K (rtd p k (k - st) (en - k) x) ≤ K (rtd p k (k - st) (en - k) y) := by
  have e1 : ∀ x, x < st → rtd p k (k - st) (en - k) x = p x := fun x hx => by unfold rtd; rw [if_neg (by omega), if_neg (by omega)]
  have e2 : ∀ x, st ≤ x → x < md → rtd p k (k - st) (en - k) x = p (x + (k - st)) := fun x h1 h2 => by unfold rtd; rw [if_pos (by omega)]
  have e3 : ∀ x, md ≤ x → x < en → rtd p k (k - st) (en - k) x = p (x - (en - k)) := fun x h1 h2 => by unfold rtd; rw [if_neg (by omega), if_pos (by omega)]
  have e4 : ∀ x, en ≤ x → rtd p k (k - st) (en - k) x = p x := fun x h1 => by unfold rtd; rw [if_neg (by omega), if_neg (by omega)]
  refine ⟨fun i j h1 h2 h3 => ?_, fun i j h1 h2 h3 => ?_, fun i j h1 h2 h3 => ?_, fun i j h1 h2 h3 => ?_, fun x y h1 h2 h3 h4 => ?_⟩
  · rw [e1 i (by omega), e1 j h3]; exact hU i j h1 h2 (by omega)
  · rw [e2 i h1 (by omega), e2 j (by omega) h3]; exact hV _ _ (by omega) (by omega) (by omega)
  · rw [e3 i h1 (by omega), e3 j (by omega) h3]; exact hU _ _ (by omega) (by omega) (by omega)
  · rw [e4 i h1, e4 j (by omega)]; exact hV _ _ (by omega) (by omega) (by omega)
  · by_cases c : x < st
    · rw [e1 x c]
      by_cases d : y < en
      · rw [e3 y h3 d]; exact hU _ _ h1 (by omega) (by omega)
      · rw [e4 y (by omega)]
        exact Nat.le_trans (hU x (st - 1) h1 (by omega) (by omega)) (Nat.le_trans (hA (by omega) (by omega)) (hV en y (by omega) (by omega) h4))
    · rw [e2 x (by omega) h2]
      by_cases d : y < en
      · rw [e3 y h3 d]
        exact Nat.le_trans (hV (x + (k - st)) (en - 1) (by omega) (by omega) (by omega)) (Nat.le_trans (hB (by omega) (by omega)) (hU st _ (by omega) (by omega) (by omega)))
      · rw [e4 y (by omega)]; exact hV _ _ (by omega) (by omega) h4
/-- The parts sorted, all is. -/
theorem sym_done {m a md b : Nat} {K p1 p2 p3 : Nat → Nat} (hb : b ≤ m) (hmd : md ≤ b) (h : ∀ x y, a ≤ x → x < md → md ≤ y → y < b → K (p1 x) ≤ K (p1 y)) (r2 : Rng m a md p1 p2) (s2 : Sdd K p2 a md) (r3 : Rng m md b p2 p3) (s3 : Sdd K p3 md b) : Sdd K p3 a b := by
  have e3 : ∀ x, x < md → p3 x = p2 x := fun x hx => r3.1 x (by omega)
  have e2 : ∀ y, md ≤ y → p2 y = p1 y := fun y hy => r2.1 y (by omega)
  have hL : ∀ x, a ≤ x → x < md → ∀ y, md ≤ y → y < b → K (p2 x) ≤ K (p1 y) := fun x h1 h2 y h3 h4 => by
    have := r2.all (by omega) (fun v => decide (K v ≤ K (p1 y))) (fun x q1 q2 => decide_eq_true (h x y q1 q2 h3 h4)) x h1 h2
    exact of_decide_eq_true this
  refine Sdd.join (c := md) (s2.cg (fun x _ hx => e3 x hx)) s3 (fun x y h1 h2 h3 h4 => ?_)
  rw [e3 x h2]
  have := r3.all hb (fun v => decide (K (p2 x) ≤ K v)) (fun y q1 q2 => decide_eq_true (by rw [e2 y q1]; exact hL x h1 h2 y q1 q2)) y h3 h4
  exact of_decide_eq_true this
end Go.Proofs.Ytbnkekeeceicaaa

/- Nets: a map of numbers that the call makes. -/
namespace Go.Proofs.Ytbnkekeeceicaaa
open Go.RowKit Go.Maps

/-- A map that has each number of a list, with another number. -/
structure MnD (D : DataW Value) (L : List Nat) (c : Nat → Int) : Prop where
  im : IsMap D
  yes : ∀ k, k ∈ L → D.atKey (.int .i64 (k : Nat)) (.lit (.int .i64 0)) = .lit (.int .i64 (c k))
  has : ∀ x : Int, Maps.has D (.int .i64 x) = true ↔ ∃ k ∈ L, x = ((k : Nat) : Int)
theorem MnD.nil (c : Nat → Int) : MnD (.map []) [] c := ⟨isMap_empty, fun k h => (by cases h), fun x => ⟨fun h => (by cases h), fun ⟨_, h, _⟩ => (by cases h)⟩⟩
theorem MnD.put {D : DataW Value} {L : List Nat} {c : Nat → Int} (h : MnD D L c) (k : Nat) (v : Int) : MnD (D.put (.int .i64 (k : Nat)) (.lit (.int .i64 v))) (L ++ [k]) (fun j => if j = k then v else c j) := by
  refine ⟨h.im.put _ _, fun j hj => ?_, fun x => ?_⟩
  · by_cases e : j = k
    · rw [if_pos e, e]; exact atKey_put_same h.im (ct_lit _) _ _
    · rw [if_neg e, atKey_put_other (by intro c; cases c; exact e (by omega))]
      exact h.yes j ((List.mem_append.1 hj).resolve_right (fun c => e (List.mem_singleton.1 c)))
  · by_cases e : x = ((k : Nat) : Int)
    · subst e
      exact ⟨fun _ => ⟨k, by simp, rfl⟩, fun _ => has_put_same h.im (ct_lit _) _⟩
    · rw [has_put_other (by intro c; cases c; exact e rfl), h.has x]
      constructor
      · rintro ⟨j, hj, rfl⟩; exact ⟨j, by simp [hj], rfl⟩
      · rintro ⟨j, hj, rfl⟩
        rcases List.mem_append.1 hj with c | c
        · exact ⟨j, c, rfl⟩
        · rw [List.mem_singleton.1 c] at e; exact absurd rfl e
theorem MnD.in' {D : DataW Value} {L : List Nat} {c : Nat → Int} (h : MnD D L c) {k : Nat} (hk : k ∈ L) : Maps.has D (.int .i64 ((k : Nat) : Int)) = true := (h.has _).2 ⟨k, hk, rfl⟩
theorem MnD.out' {D : DataW Value} {L : List Nat} {c : Nat → Int} (h : MnD D L c) {k : Nat} (hk : k ∉ L) : Maps.has D (.int .i64 ((k : Nat) : Int)) = false := by
  cases e : Maps.has D (.int .i64 ((k : Nat) : Int)) with
  | false => rfl
  | true =>
    obtain ⟨j, hj, q⟩ := (h.has _).1 e
    exact absurd (by rw [show k = j by omega]; exact hj) hk
/-- Such a map in memory. -/
def MapN (B : Nat) (L : List Nat) (c : Nat → Int) (w : World) : Prop := ∃ D : DataW Value, w.ownsMap Try.prog 3 (plainElem Try.prog 3) B L.length D ∧ MnD D L c
theorem MapN.same {B : Nat} {L : List Nat} {c : Nat → Int} {w w' : World} (h : MapN B L c w) (e : w'.heap[B]? = w.heap[B]?) : MapN B L c w' := by
  obtain ⟨D, ⟨es, clock, hb, Ft, hs, hD⟩, h2⟩ := h
  exact ⟨D, ⟨es, clock, e.trans hb, Ft, hs, hD⟩, h2⟩
theorem MapN.lt {B : Nat} {L : List Nat} {c : Nat → Int} {w : World} (h : MapN B L c w) : B < w.heap.size := by
  obtain ⟨D, ⟨es, clock, hb, _⟩, _⟩ := h
  exact lt_of_block hb
theorem MapN.below {B : Nat} {L : List Nat} {c : Nat → Int} {w w' : World} (h : MapN B L c w) (hb : Below w.heap.size w w') : MapN B L c w' := h.same (hb.block B h.lt)
end Go.Proofs.Ytbnkekeeceicaaa

/- Nets: a stream in memory; an edge as one way more can take it (free). -/
namespace Go.Proofs.Ytbnkekeeceicaaa
open Go.RowKit Go.Sort

/-- A stream's variable: its net, its node, which edges are used, how many ways. -/
structure StB (B ub n t k : Nat) (eo : Option Addr) (m ec : Nat) (us : Nat → Bool) (w : World) : Prop where
  blk : w.heap[B]? = some (.cells #[.int .i64 (n : Nat), .slice eo m ec, .int .i64 (t : Nat), .slice (some ⟨ub, 0, none⟩) m m, .int .i64 (k : Nat)] 50 (0, 0))
  row : RowF ub m 4 (fun j => .bool (us j)) w
  ne : B ≠ ub
theorem StB.c0 {B ub n t k : Nat} {eo : Option Addr} {m ec : Nat} {us : Nat → Bool} {w : World} (h : StB B ub n t k eo m ec us w) : w.cell? ⟨B, 0, none⟩ = some (.int .i64 (n : Nat)) := by rw [cell_of_row _ _ _ _ _ (0, 0) h.blk]; rfl
theorem StB.c1 {B ub n t k : Nat} {eo : Option Addr} {m ec : Nat} {us : Nat → Bool} {w : World} (h : StB B ub n t k eo m ec us w) : w.cell? ⟨B, 1, none⟩ = some (.slice eo m ec) := by rw [cell_of_row _ _ _ _ _ (0, 0) h.blk]; rfl
theorem StB.c2 {B ub n t k : Nat} {eo : Option Addr} {m ec : Nat} {us : Nat → Bool} {w : World} (h : StB B ub n t k eo m ec us w) : w.cell? ⟨B, 2, none⟩ = some (.int .i64 (t : Nat)) := by rw [cell_of_row _ _ _ _ _ (0, 0) h.blk]; rfl
theorem StB.c3 {B ub n t k : Nat} {eo : Option Addr} {m ec : Nat} {us : Nat → Bool} {w : World} (h : StB B ub n t k eo m ec us w) : w.cell? ⟨B, 3, none⟩ = some (.slice (some ⟨ub, 0, none⟩) m m) := by rw [cell_of_row _ _ _ _ _ (0, 0) h.blk]; rfl
theorem StB.c4 {B ub n t k : Nat} {eo : Option Addr} {m ec : Nat} {us : Nat → Bool} {w : World} (h : StB B ub n t k eo m ec us w) : w.cell? ⟨B, 4, none⟩ = some (.int .i64 (k : Nat)) := by rw [cell_of_row _ _ _ _ _ (0, 0) h.blk]; rfl
theorem StB.below {B ub n t k : Nat} {eo : Option Addr} {m ec : Nat} {us : Nat → Bool} {w w' : World} (h : StB B ub n t k eo m ec us w) (hb : Below w.heap.size w w') : StB B ub n t k eo m ec us w' :=
  ⟨(hb.block B (lt_of_block h.blk)).trans h.blk, h.row.other (hb.block ub (RowF.lt h.row)), h.ne⟩

theorem und_edg : ∃ l, Try.prog.underlying 45 = some (.struct l) := by
  have h : (match Try.prog.underlying 45 with | some (.struct _) => true | _ => false) = true := by kernel_rfl
  revert h
  cases Try.prog.underlying 45 with
  | none => intro h; cases h
  | some d => cases d <;> first | (intro _; exact ⟨_, rfl⟩) | (intro h; cases h)
theorem inf_edg (x y : Value) : (Try.prog.info? 45).map (·.size) = some (#[x, y] : Array Value).size := by show _ = some 2; kernel_rfl
theorem two_old {w : World} (o o' : Obj) : ((w.alloc o).alloc o').heap[w.heap.size]? = some o := (Below.heap_alloc _ _ _ (by simp)).trans (two_new o)
set_option maxHeartbeats 4000000 in
set_option maxRecDepth 100000 in
theorem sfree_any {B ub n t k : Nat} {eo : Option Addr} {m ec : Nat} {us : Nat → Bool} {F T : Nat → Nat} {e : Nat} {w : World} (hS : StB B ub n t k eo m ec us w) (hE : EdZ eo m (fun i => ((F i : Nat) : Int)) (fun i => ((T i : Nat) : Int)) w) (he : e < m) :
    Calls Try.prog 48 #[.pointer (some ⟨B, 0, none⟩), .int .i64 (e : Nat)] w fun r w' => r = .returned (.agg #[.int .i64 (frF F T us e : Nat), .int .i64 (frT F T us e : Nat)]) ∧ Below w.heap.size w w' := by
  obtain ⟨b, off, rfl, e0, e1⟩ := hE e he
  obtain ⟨x, hx⟩ : ∃ x, x = F e := ⟨_, rfl⟩
  obtain ⟨y, hy⟩ : ∃ y, y = T e := ⟨_, rfl⟩
  replace e0 : w.cell? ⟨b, off + e * 2, none⟩ = some (.int .i64 (x : Nat)) := by rw [hx]; exact e0
  replace e1 : w.cell? ⟨b, off + e * 2 + 1, none⟩ = some (.int .i64 (y : Nat)) := by rw [hy]; exact e1
  have c1 := hS.c1
  have c3 := hS.c3
  have cu := RowF.cell hS.row e he
  obtain ⟨u, hu⟩ : ∃ u, u = us e := ⟨_, rfl⟩
  replace cu : w.cell? ⟨ub, e, none⟩ = some (.bool u) := by rw [hu]; exact cu
  have heb : (e : Int) < (m : Int) := by omega
  have heb0 : (0 : Int) ≤ (e : Int) := by omega
  have HR : Hid (frF F T us e = (if u = true then y else x) ∧ frT F T us e = if u = true then x else y) := by unfold frF frT; rw [hu, hx, hy]; exact ⟨rfl, rfl⟩
  have hB := lt_of_block hS.blk
  have hub := RowF.lt hS.row
  have hbl := cell_lt e0
  clear hS hE hx hy hu
  go_enter Try.func48, Try.ntmps48
  obtain ⟨d, hd⟩ := und_edg
  cases u with
  | true =>
    go_wp2
    refine bodyPost_ret (results_cell_row rfl _ _ w.heap.size 45 #[.int .i64 (y : Nat), .int .i64 (x : Nat)] (0, 0) (.struct d) rfl (two_old _ _) hd rfl (inf_edg _ _)) rfl ?_
    refine ⟨by rw [HR.out.1, HR.out.2]; simp, ((Below.refl _ _).alloc (Nat.le_refl _) _).alloc (by simp) _⟩
  | false =>
    go_wp2
    refine bodyPost_ret (results_cell_row rfl _ _ w.heap.size 45 #[.int .i64 (x : Nat), .int .i64 (y : Nat)] (0, 0) (.struct d) rfl (two_old _ _) hd rfl (inf_edg _ _)) rfl ?_
    refine ⟨by rw [HR.out.1, HR.out.2]; simp, ((Below.refl _ _).alloc (Nat.le_refl _) _).alloc (by simp) _⟩
end Go.Proofs.Ytbnkekeeceicaaa

/- A list of the call's own of which the first are taken off: appended to. -/
namespace Go.Proofs.Ytbnkekeeceicaaa
open Go.RowKit Go.Sort

/-- Numbers that lie somewhere in a block of the call's own. -/
def OwnK (base : Nat) (v : Value) (l : List Int) (w : World) : Prop := ∃ (g off cap N : Nat) (f : Nat → Value), v = .slice (some ⟨g, off, none⟩) l.length cap ∧ base ≤ g ∧ RowF g N 3 f w ∧ l.length ≤ cap ∧ cap ≤ 9223372036854775807 ∧ off + cap ≤ N ∧ ∀ j, j < l.length → f (off + j) = .int .i64 (l.getD j 0)
theorem OwnK.of {base : Nat} {v : Value} {l : List Int} {w : World} (h : OwnI base v l w) (hl : l ≠ []) : OwnK base v l w := by
  have h0 : 0 < l.length := List.length_pos_iff.2 hl
  obtain ⟨g, cap, f, e1, g1, g2, g3, g4, g5, g6⟩ := h.row l.length rfl h0
  exact ⟨g, 0, cap, cap, f, e1, g1, g5, g3, by unfold maxLen at g4; omega, by omega, fun j hj => by rw [Nat.zero_add]; exact g6 j hj⟩
theorem OwnK.same {base : Nat} {v : Value} {l : List Int} {w w' : World} (h : OwnK base v l w) (e : ∀ g, v.ownBlock = some g → w'.heap[g]? = w.heap[g]?) : OwnK base v l w' := by
  obtain ⟨g, off, cap, N, f, rfl, h1, h2, h3⟩ := h
  exact ⟨g, off, cap, N, f, rfl, h1, h2.other (e g rfl), h3⟩
theorem OwnK.lt {base : Nat} {v : Value} {l : List Int} {w : World} (h : OwnK base v l w) : ∀ g, v.ownBlock = some g → base ≤ g ∧ g < w.heap.size := by
  obtain ⟨g, off, cap, N, f, rfl, h1, h2, h3⟩ := h
  intro k hk
  cases hk
  exact ⟨h1, RowF.lt h2⟩
theorem OwnK.below {base : Nat} {v : Value} {l : List Int} {w w' : World} (h : OwnK base v l w) (hb : Below w.heap.size w w') : OwnK base v l w' := h.same (fun g hg => hb.block g (h.lt g hg).2)
theorem OwnK.form {base : Nat} {v : Value} {l : List Int} {w : World} (h : OwnK base v l w) : ∃ g off cap, v = .slice (some ⟨g, off, none⟩) l.length cap ∧ l.length ≤ cap ∧ cap ≤ 9223372036854775807 ∧ (0 < l.length → w.cell? ⟨g, off, none⟩ = some (.int .i64 (l.getD 0 0))) := by
  obtain ⟨g, off, cap, N, f, rfl, h1, h2, h3, h4, h5, h6⟩ := h
  exact ⟨g, off, cap, rfl, h3, h4, fun h0 => by rw [RowF.cell h2 off (by omega)]; have := h6 0 h0; rw [Nat.add_zero] at this; rw [this]⟩
/-- The first taken off. -/
theorem OwnK.tail {base g off cap : Nat} {x : Int} {l : List Int} {w : World} (h : OwnK base (.slice (some ⟨g, off, none⟩) (l.length + 1) cap) (x :: l) w) : (cap = 1 → OwnK base (.slice (some ⟨g, off, none⟩) l.length 0) l w) ∧ (cap ≠ 1 → OwnK base (.slice (some ⟨g, off + 1, none⟩) l.length (cap - 1)) l w) := by
  obtain ⟨g', off', cap', N, f, e, h1, h2, h3, h4, h5, h6⟩ := h
  cases e
  rw [List.length_cons] at h3 h6
  refine ⟨fun hc => ?_, fun hc => ?_⟩
  · refine ⟨g, off, 0, N, f, rfl, h1, h2, by omega, by omega, by omega, fun j hj => absurd hj (by omega)⟩
  · refine ⟨g, off + 1, cap - 1, N, f, rfl, h1, h2, by omega, by omega, by omega, fun j hj => ?_⟩
    have := h6 (j + 1) (by omega)
    rw [show off + 1 + j = off + (j + 1) by omega, this]
    rfl
theorem OwnK.push {base g off cap N : Nat} {f : Nat → Value} {l : List Int} {x : Int} {w : World} (h1 : base ≤ g) (h2 : RowF g N 3 f w) (h4 : cap ≤ 9223372036854775807) (h5 : off + cap ≤ N) (h6 : ∀ j, j < l.length → f (off + j) = .int .i64 (l.getD j 0)) (hr : l.length + 1 ≤ cap) :
    OwnK base (.slice (some ⟨g, off, none⟩) (l.length + 1) cap) (l ++ [x]) (w.setCell ⟨g, off + l.length, none⟩ (.int .i64 x)) := by
  have hl : (l ++ [x]).length = l.length + 1 := by simp
  refine ⟨g, off, cap, N, _, by rw [hl], h1, RowF.store h2 (off + l.length) (.int .i64 x), by rw [hl]; exact hr, h4, h5, fun j hj => ?_⟩
  rw [hl] at hj
  unfold upd
  by_cases c : j = l.length
  · rw [if_pos (by omega), c]
    simp
  · rw [if_neg (by omega), h6 j (by omega)]
    rw [List.getD_eq_getElem?_getD, List.getD_eq_getElem?_getD, List.getElem?_append_left (by omega)]

set_option maxHeartbeats 2000000 in
theorem append_k {ops : Array Oper} {rest : List Oper} {o : Oper} {a : Act} {w : World} {Q : Exit → Act → World → Prop} (hgd : o.guard = none) (s x : Operand)
    (ho : o.op = .call { callee := .builtin .append, args := #[s, x], argTypes := #[22, 22] })
    (base : Nat) (v : Value) (l : List Int) (hs : a.eval s = v) (hown : OwnK base v l w) (ad : Addr) (c : Nat) (y : Int) (hx : a.eval x = .slice (some ad) 1 c) (hcell : w.cell? ad = some (.int .i64 y))
    (hlen : l.length ≤ 1000000) (hbase : base ≤ w.heap.size)
    (h : ∀ v' w', OwnK base v' (l ++ [y]) w' → w.grownBy w' v.ownBlock → wpList Try.prog ops Q rest (a.put o.dst v') w') : wpList Try.prog ops Q (o :: rest) a w := by
  obtain ⟨g, off, cap, N, f, rfl, h1, h2, h3, h4, h5, h6⟩ := hown
  obtain ⟨i0, hi, hz0, hz1, hz2⟩ := info_parts Try.infoInt
  have h0 : ∀ ad : Addr, ad.add 0 = ad := fun ad => by cases ad with | mk b o s => cases s <;> simp [Addr.add]
  refine wpList_append_arg (P := Try.prog) w hgd s x 22 ho 3 i0 (.int .i64 0) 1 8 Try.underlying22 hi hz0 hz1 hz2 rfl (by decide) g off l.length cap (l.map (Value.int .i64)) hs (by simp) ?_ ad 1 c [.int .i64 y] hx rfl ?_ ?_ ?_ ?_ ?_ ?_ ?_
  · intro j u hj
    have hjl : j < l.length := by have := (List.getElem?_eq_some_iff.1 hj).1; simpa using this
    rw [RowF.cell h2 (off + j) (by omega), h6 j hjl]
    rw [List.getElem?_map, List.getElem?_eq_getElem hjl] at hj
    rw [← hj, List.getD_eq_getElem?_getD, List.getElem?_eq_getElem hjl]
    rfl
  · intro j u hj
    match j, hj with
    | 0, hj =>
      simp at hj; subst hj
      rw [h0]; exact hcell
  · intro u hu; simp at hu; subst hu; rfl
  · intro hr j hj
    have hj0 : j = 0 := by simp at hj; omega
    subst hj0
    refine ⟨?_, RowF.free h2 _⟩
    rw [RowF.cell h2 _ (by omega)]; rfl
  · unfold maxLen; omega
  · omega
  · intro hr
    refine h _ _ ?_ ?_
    · have := OwnK.push (x := y) h1 h2 h4 h5 h6 hr
      simpa [World.setCells] using this
    · have := grown_set (grown_refl w (some g)) (off + l.length) (.int .i64 y)
      simpa [World.setCells, Value.ownBlock] using this
  · intro hr v' w' hown' hgr
    refine h v' w' ?_ (grown_none hgr)
    have hI : OwnI w.heap.size v' (l ++ [y]) w' := by
      unfold OwnI
      rw [List.length_append, List.map_append]
      exact hown'
    obtain ⟨g', off', cap', N', f', e, k1, k2⟩ := OwnK.of hI (by simp)
    exact ⟨g', off', cap', N', f', e, Nat.le_trans hbase k1, k2⟩
end Go.Proofs.Ytbnkekeeceicaaa
