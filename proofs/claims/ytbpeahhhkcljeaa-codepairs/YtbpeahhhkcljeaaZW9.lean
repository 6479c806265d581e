/- Texts of ours, one behind the other: W9 T2 T4. -/
import Derived.Test.YtbpeahhhkcljeaaZS2
/- Lists of lists of the call's own: others' lists laid behind them (append(v, l...)), also at a step of a region that draws its order. -/
namespace Go.Proofs.Ytbpeahhhkcljeaa
open Go.RowKit

/-- The first n cells of the slice that begins at ao are vs. -/
def SlV (ao : Option Addr) (n : Nat) (vs : Nat → Value) (w : World) : Prop := ∀ j, j < n → ∃ b off, ao = some ⟨b, off, none⟩ ∧ w.cell? ⟨b, off + j, none⟩ = some (vs j)
/-- The first n of vs, as a list. -/
def vl (n : Nat) (vs : Nat → Value) : List Value := (List.range n).map vs
theorem vl_len (n : Nat) (vs : Nat → Value) : (vl n vs).length = n := by simp [vl]
theorem vl_get (n : Nat) (vs : Nat → Value) (j : Nat) (hj : j < n) : (vl n vs)[j]? = some (vs j) := by
  unfold vl
  rw [List.getElem?_map, List.getElem?_range hj]; rfl

theorem own_emptyV {base g : Nat} {w : World} (h : w.heap[g]? = some (.cells #[] 23 (0, 0))) (hb : base ≤ g) : OwnV base (.slice (some ⟨g, 0, none⟩) 0 0) [] w :=
  ⟨rfl, Or.inr ⟨g, 0, #[], rfl, hb, h, Nat.le_refl _, by unfold maxLen; omega, rfl, rfl⟩⟩
theorem own_e1 (w : World) {base : Nat} (hb : base ≤ w.heap.size) : OwnV base (.slice (some ⟨w.heap.size, 0, none⟩) 0 0) [] (w.alloc (.cells #[] 23)) := own_emptyV (two_new _) hb
theorem own_e2 (w : World) (o : Obj) {base : Nat} (hb : base ≤ w.heap.size) : OwnV base (.slice (some ⟨w.heap.size, 0, none⟩) 0 0) [] ((w.alloc (.cells #[] 23)).alloc o) := World.ownsRow.alloc (own_e1 w hb) o
theorem own_e3 (w : World) (o : Obj) {base : Nat} (hb : base ≤ w.heap.size) : OwnV base (.slice (some ⟨w.heap.size + 1, 0, none⟩) 0 0) [] ((w.alloc o).alloc (.cells #[] 23)) := by
  have h := own_e1 (w.alloc o) (base := base) (by simp; omega)
  simp at h
  exact h
theorem own_i1 (w : World) {base : Nat} (hb : base ≤ w.heap.size) : OwnI base (.slice (some ⟨w.heap.size, 0, none⟩) 0 0) [] (w.alloc (.cells #[] 3)) := own_empty (two_new _) hb
theorem own_i2 (w : World) (o : Obj) {base : Nat} (hb : base ≤ w.heap.size) : OwnI base (.slice (some ⟨w.heap.size, 0, none⟩) 0 0) [] ((w.alloc (.cells #[] 3)).alloc o) := World.ownsRow.alloc (own_i1 w hb) o
theorem own_i3 (w : World) (o : Obj) {base : Nat} (hb : base ≤ w.heap.size) : OwnI base (.slice (some ⟨w.heap.size + 1, 0, none⟩) 0 0) [] ((w.alloc o).alloc (.cells #[] 3)) := by
  have h := own_i1 (w.alloc o) (base := base) (by simp; omega)
  simp at h
  exact h
theorem OwnV.grown {base : Nat} {v : Value} {l : List Value} {w w' : World} {row : Option Nat} (h : OwnV base v l w) (hg : w.grownBy w' row) (hne : v.ownBlock = none ∨ v.ownBlock ≠ row) : OwnV base v l w' := World.ownsRow.kept h hg hne
theorem OwnV.alloc {base : Nat} {v : Value} {l : List Value} {w : World} (h : OwnV base v l w) (o : Obj) : OwnV base v l (w.alloc o) := World.ownsRow.alloc h o

theorem SlV.below {ao : Option Addr} {n : Nat} {vs : Nat → Value} {w w' : World} (h : SlV ao n vs w) (hb : Below w.heap.size w w') : SlV ao n vs w' := fun j hj => by
  obtain ⟨b, off, e, hc⟩ := h j hj
  have hlt : b < w.heap.size := by
    rcases Nat.lt_or_ge b w.heap.size with e | e
    · exact e
    · exfalso
      have h1 : w.heap[b]? = none := Array.getElem?_eq_none e
      simp [World.cell?, h1] at hc
  exact ⟨b, off, e, ((bcell hb).1 b (off + j) hlt).trans hc⟩
theorem SlV.less {ao : Option Addr} {n m : Nat} {vs : Nat → Value} {w : World} (h : SlV ao n vs w) (hm : m ≤ n) : SlV ao m vs w := fun j hj => h j (by omega)
theorem SlV.shift {g n q : Nat} {vs : Nat → Value} {w : World} (h : SlV (some ⟨g, 0, none⟩) n vs w) (hq : q ≤ n) : SlV (some ⟨g, q, none⟩) (n - q) (fun j => vs (q + j)) w := fun j hj => by
  obtain ⟨b, off, e, hc⟩ := h (q + j) (by omega)
  cases e
  exact ⟨g, q, rfl, by rw [Nat.zero_add] at hc; exact hc⟩
theorem SlV.one {g : Nat} {v : Value} {w : World} (h : w.cell? ⟨g, 0, none⟩ = some v) : SlV (some ⟨g, 0, none⟩) 1 (fun _ => v) w := fun j hj => ⟨g, 0, rfl, by rw [show 0 + j = 0 from by omega]; exact h⟩
theorem SlZ.one {g : Nat} {x : Int} {w : World} (h : w.cell? ⟨g, 0, none⟩ = some (.int .i64 x)) : SlZ (some ⟨g, 0, none⟩) 1 (fun _ => x) w := fun j hj => ⟨g, 0, rfl, by rw [show 0 + j = 0 from by omega]; exact h⟩
theorem SlZ.shift {g o n q : Nat} {z : Nat → Int} {w : World} (h : SlZ (some ⟨g, o, none⟩) n z w) (hq : q ≤ n) : SlZ (some ⟨g, o + q, none⟩) (n - q) (fun j => z (q + j)) w := fun j hj => by
  obtain ⟨b, off, e, hc⟩ := h (q + j) (by omega)
  cases e
  exact ⟨g, o + q, rfl, by rw [Nat.add_assoc]; exact hc⟩
theorem SlZ.less {ao : Option Addr} {n m : Nat} {z : Nat → Int} {w : World} (h : SlZ ao n z w) (hm : m ≤ n) : SlZ ao m z w := fun j hj => h j (by omega)

theorem slz_below {ao : Option Addr} {n : Nat} {z : Nat → Int} {w w' : World} (h : SlZ ao n z w) (hb : Below w.heap.size w w') : SlZ ao n z w' := fun j hj => by
  obtain ⟨b, off, e, hc⟩ := h j hj
  have hlt : b < w.heap.size := by
    rcases Nat.lt_or_ge b w.heap.size with e | e
    · exact e
    · exfalso
      have h1 : w.heap[b]? = none := Array.getElem?_eq_none e
      simp [World.cell?, h1] at hc
  exact ⟨b, off, e, ((bcell hb).1 b (off + j) hlt).trans hc⟩
theorem slz_shift0 {g n q : Nat} {z : Nat → Int} {w : World} (h : SlZ (some ⟨g, 0, none⟩) n z w) (hq : q ≤ n) : SlZ (some ⟨g, q, none⟩) (n - q) (fun j => z (q + j)) w := fun j hj => by
  obtain ⟨b, off, e, hc⟩ := h (q + j) (by omega)
  cases e
  exact ⟨g, q, rfl, by rw [Nat.zero_add] at hc; exact hc⟩
theorem step_append_sls {ops : Array Oper} {o : Oper} {a : Act} {w : World} {K : Act → World → Prop} {Q : Exit → Act → World → Prop} {E : Prop} (hgd : o.guard = none) (s x : Operand)
    (ho : o.op = .call { callee := .builtin .append, args := #[s, x], argTypes := #[22, 22] })
    (base : Nat) (v : Value) (l : List Value) (hs : a.eval s = v) (hown : OwnV base v l w) (ao : Option Addr) (n sc : Nat) (vs : Nat → Value) (hx : a.eval x = .slice ao n sc) (hS : SlV ao n vs w) (hone : ∀ j, j < n → (vs j).oneCell' = true) (hnil : ao = none → sc = 0)
    (hlen : l.length + n ≤ 1000000) (hbase : base ≤ w.heap.size) (w0 : World) (hb0 : Below w0.heap.size w0 w) (hge : w0.heap.size ≤ base)
    (h : ∀ v' w', OwnV base v' (l ++ vl n vs) w' → w.grownBy w' v.ownBlock → Below w0.heap.size w0 w' → K (a.put o.dst v') w') : if Region.wanted o (yielded ops a.tmps) = true then Oper.wp Try.prog o a w K Q else E := by
  have hw : Region.wanted o (yielded ops a.tmps) = true := by simp [Region.wanted, hgd]
  rw [if_pos hw]
  obtain ⟨i0, hi, hz0, hz1, hz2⟩ := info_parts Try.infoSl
  cases ao with
  | none =>
    have h0 : n = 0 := by
      rcases Nat.eq_zero_or_pos n with e | e
      · exact e
      · obtain ⟨b, off, h1, _⟩ := hS 0 e
        cases h1
    subst h0
    rw [hnil rfl] at hx
    have hrun := run_append_owned_none (P := Try.prog) (w := w) base 22 o.type 23 i0 1 Try.underlying22 hi v l.length l hown
    unfold Oper.wp
    simp [execOp, ho, resolve, invoke, builtin, hs, hx, hrun, Result.andThen]
    refine h v w ?_ (grown_refl _ _) hb0
    have e : l ++ vl 0 vs = l := by simp [vl]
    rw [e]; exact hown
  | some ad =>
    refine wp_append_own w s x 22 ho base 23 i0 (.slice none 0 0) 1 24 Try.underlying22 hi hz0 hz1 hz2 rfl (by decide) v l.length _ hs hown ad n sc (vl n vs) hx (by rw [vl_len]; omega) ?_ ?_ ?_ ?_ hbase ?_
    · intro j u hj
      have hj' : j < n := by
        have := (List.getElem?_eq_some_iff.1 hj).1
        rwa [vl_len] at this
      rw [vl_get n vs j hj'] at hj
      cases hj
      obtain ⟨b, off, e, hc⟩ := hS j hj'
      cases e
      rw [add_off]; exact hc
    · intro u hu
      obtain ⟨k, hk, rfl⟩ := List.mem_map.1 hu
      exact hone k (List.mem_range.1 hk)
    · unfold maxLen; omega
    · omega
    · intro v' w' hown' hgrow _
      refine h v' w' ?_ hgrow (hb0.grown hgrow hb0.size (fun k hk => Nat.le_trans hge (World.ownsRow.lt hown k hk).1))
      unfold OwnV
      rw [List.length_append, vl_len]
      exact hown'
theorem step_append_ints {ops : Array Oper} {o : Oper} {a : Act} {w : World} {K : Act → World → Prop} {Q : Exit → Act → World → Prop} {E : Prop} (hgd : o.guard = none) (s x : Operand)
    (ho : o.op = .call { callee := .builtin .append, args := #[s, x], argTypes := #[23, 23] })
    (base : Nat) (v : Value) (l : List Int) (hs : a.eval s = v) (hown : OwnI base v l w) (ao : Option Addr) (n sc : Nat) (z : Nat → Int) (hx : a.eval x = .slice ao n sc) (hS : SlZ ao n z w) (hnil : ao = none → sc = 0)
    (hlen : l.length + n ≤ 1000000) (hbase : base ≤ w.heap.size) (w0 : World) (hb0 : Below w0.heap.size w0 w) (hge : w0.heap.size ≤ base)
    (h : ∀ v' w', OwnI base v' (l ++ zl n z) w' → w.grownBy w' v.ownBlock → Below w0.heap.size w0 w' → K (a.put o.dst v') w') : if Region.wanted o (yielded ops a.tmps) = true then Oper.wp Try.prog o a w K Q else E := by
  have hw : Region.wanted o (yielded ops a.tmps) = true := by simp [Region.wanted, hgd]
  rw [if_pos hw]
  obtain ⟨i0, hi, hz0, hz1, hz2⟩ := info_parts Try.infoInt
  cases ao with
  | none =>
    have h0 : n = 0 := by
      rcases Nat.eq_zero_or_pos n with e | e
      · exact e
      · obtain ⟨b, off, h1, _⟩ := hS 0 e
        cases h1
    subst h0
    rw [hnil rfl] at hx
    have hrun := run_append_owned_none (P := Try.prog) (w := w) base 23 o.type 3 i0 1 Try.underlying23 hi v l.length _ hown
    unfold Oper.wp
    simp [execOp, ho, resolve, invoke, builtin, hs, hx, hrun, Result.andThen]
    refine h v w ?_ (grown_refl _ _) hb0
    have e : l ++ zl 0 z = l := by simp [zl]
    rw [e]; exact hown
  | some ad =>
    refine wp_append_own w s x 23 ho base 3 i0 (.int .i64 0) 1 8 Try.underlying23 hi hz0 hz1 hz2 rfl (by decide) v l.length _ hs hown ad n sc ((zl n z).map (Value.int .i64)) hx (by rw [List.length_map, zl_len]; omega) ?_ ?_ ?_ ?_ hbase ?_
    · intro j u hj
      have hj' : j < n := by
        have := (List.getElem?_eq_some_iff.1 hj).1
        rwa [List.length_map, zl_len] at this
      rw [List.getElem?_map, zl_get n z j hj'] at hj
      cases hj
      obtain ⟨b, off, e, hc⟩ := hS j hj'
      cases e
      rw [add_off]; exact hc
    · intro u hu
      obtain ⟨k, _, rfl⟩ := List.mem_map.1 hu
      rfl
    · unfold maxLen; omega
    · omega
    · intro v' w' hown' hgrow _
      refine h v' w' ?_ hgrow (hb0.grown hgrow hb0.size (fun k hk => Nat.le_trans hge (World.ownsRow.lt hown k hk).1))
      unfold OwnI
      rw [List.map_append, List.length_append, zl_len]
      exact hown'
end Go.Proofs.Ytbpeahhhkcljeaa

/- The reference's matrices: rows as they are handed in; a row's first number that is not 0. -/
namespace Go.Proofs.Ytbpeahhhkcljeaa
open Go.RowKit Go.Sort

theorem cell_lt {w : World} {a : Addr} {v : Value} (h : w.cell? a = some v) : a.block < w.heap.size := by
  rcases Nat.lt_or_ge a.block w.heap.size with e | e
  · exact e
  · exfalso
    have h1 : w.heap[a.block]? = none := Array.getElem?_eq_none e
    simp [World.cell?, h1] at h
/-- The slice u reads as n + 1 elements c. -/
def Rwv (u : Value) (n : Nat) (c : Nat → Nat) (w : World) : Prop := ∃ A ca, u = .slice A (n + 1) ca ∧ Sl A (n + 1) c w ∧ LtB A w.heap.size ∧ (A = none → ca = 0) ∧ n + 1 ≤ ca ∧ ca ≤ 9223372036854775807
theorem Rwv.below {u : Value} {n : Nat} {c : Nat → Nat} {w w' : World} (h : Rwv u n c w) (hb : Below w.heap.size w w') : Rwv u n c w' := by
  obtain ⟨A, ca, h1, h2, h3, h4, h5, h6⟩ := h
  exact ⟨A, ca, h1, h2.below hb h3, h3.mono hb.size, h4, h5, h6⟩
theorem Elm.rwv {v : Value} {n : Nat} {c : Nat → Nat} {w : World} (h : Elm v (n, c) w) : Rwv v n c w := by
  obtain ⟨ao, cap, e, h1, h2, hs, hl, hn⟩ := h.sl
  exact ⟨ao, cap, e, hs, hl, hn, h1, h2⟩
/-- The slice of slices that begins at ao: m rows M of n + 1 elements. -/
def MatR (ao : Option Addr) (m n : Nat) (M : Nat → Nat → Nat) (w : World) : Prop := ∀ i, i < m → ∃ b off u, ao = some ⟨b, off, none⟩ ∧ w.cell? ⟨b, off + i, none⟩ = some u ∧ Rwv u n (M i) w
theorem MatR.below {ao : Option Addr} {m n : Nat} {M : Nat → Nat → Nat} {w w' : World} (h : MatR ao m n M w) (hb : Below w.heap.size w w') : MatR ao m n M w' := fun i hi => by
  obtain ⟨b, off, u, e, hc, hr⟩ := h i hi
  exact ⟨b, off, u, e, ((bcell hb).1 b (off + i) (cell_lt hc)).trans hc, hr.below hb⟩
/-- k rows R of n + 1 numbers, as a list. -/
def rl (k n : Nat) (R : Nat → Nat → Nat) : List (Nat × (Nat → Nat)) := (List.range k).map fun i => (n, R i)
theorem rl_len (k n : Nat) (R : Nat → Nat → Nat) : (rl k n R).length = k := by simp [rl]
theorem rl_get (k n : Nat) (R : Nat → Nat → Nat) (j : Nat) (hj : j < k) : (rl k n R)[j]? = some (n, R j) := by
  unfold rl
  rw [List.getElem?_map, List.getElem?_range hj]; rfl
theorem rl_congr {k n : Nat} {R R' : Nat → Nat → Nat} (h : ∀ i, i < k → R i = R' i) : rl k n R = rl k n R' := by
  unfold rl
  exact List.map_congr_left (fun j hj => by rw [h j (List.mem_range.1 hj)])
/-- Rows of a list of lists of the call's own, with the outer list where it lies. -/
structure RwsO (base : Nat) (ro : Option Addr) (k rc n : Nat) (R : Nat → Nat → Nat) (vs : Nat → Value) (w : World) : Prop where
  own : OwnV base (.slice ro k rc) (vl k vs) w
  row : ∀ j, j < k → Elm (vs j) (n, R j) w
  nil : ro = none → rc = 0
theorem LLs.rws {base : Nat} {v : Value} {k n : Nat} {R : Nat → Nat → Nat} {w : World} (h : LLs base v (rl k n R) w) : ∃ ro rc vs, v = .slice ro k rc ∧ RwsO base ro k rc n R vs w := by
  obtain ⟨l, h1, h2⟩ := h
  obtain ⟨ro, rc, hv, hn, _, _, _⟩ := h1.open
  have hl : l.length = k := by rw [h2.1, rl_len]
  rw [hl] at hv
  refine ⟨ro, rc, fun j => l.getD j undef, hv, ?_, fun j hj => ?_, hn⟩
  · have e : vl k (fun j => l.getD j undef) = l := by
      apply List.ext_getElem (by rw [vl_len, hl])
      intro i hi1 hi2
      rw [vl_len] at hi1
      have h3 := vl_get k (fun j => l.getD j undef) i hi1
      rw [List.getElem?_eq_getElem (by rw [vl_len]; exact hi1)] at h3
      have h4 := Option.some.inj h3
      rw [h4, List.getD_eq_getElem?_getD, List.getElem?_eq_getElem hi2]; rfl
    rw [e, ← hv]; exact h1
  · have hj' : j < l.length := by omega
    refine h2.2 j _ _ ?_ (rl_get k n R j hj)
    rw [List.getD_eq_getElem?_getD, List.getElem?_eq_getElem hj']; rfl
theorem RwsO.lls {base : Nat} {ro : Option Addr} {k rc n : Nat} {R : Nat → Nat → Nat} {vs : Nat → Value} {w : World} (h : RwsO base ro k rc n R vs w) : LLs base (.slice ro k rc) (rl k n R) w := by
  refine ⟨vl k vs, h.own, by rw [vl_len, rl_len], fun j v p hv hp => ?_⟩
  have hj : j < k := by have := (List.getElem?_eq_some_iff.1 hv).1; rwa [vl_len] at this
  rw [vl_get k vs j hj] at hv
  rw [rl_get k n R j hj] at hp
  cases hv; cases hp
  exact h.row j hj
theorem RwsO.below {base : Nat} {ro : Option Addr} {k rc n : Nat} {R : Nat → Nat → Nat} {vs : Nat → Value} {w w' : World} (h : RwsO base ro k rc n R vs w) (hb : Below w.heap.size w w') : RwsO base ro k rc n R vs w' :=
  ⟨h.own.below hb (Nat.le_refl _), fun j hj => (h.row j hj).below hb (Nat.le_refl _), h.nil⟩
/-- The cell of row j. -/
theorem RwsO.cell {base : Nat} {ro : Option Addr} {k rc n : Nat} {R : Nat → Nat → Nat} {vs : Nat → Value} {w : World} (h : RwsO base ro k rc n R vs w) (j : Nat) (hj : j < k) : ∃ g, ro = some ⟨g, 0, none⟩ ∧ w.cell? ⟨g, j, none⟩ = some (vs j) ∧ w.frozen? ⟨g, j, none⟩ = false ∧ base ≤ g ∧ g < w.heap.size := by
  obtain ⟨ro', rc', e, _, hlt, hge, hc⟩ := h.own.open
  rw [vl_len] at e
  cases e
  obtain ⟨g, e, h1, h2⟩ := hc j (vs j) (vl_get k vs j hj)
  exact ⟨g, e, h1, h2, hge _ e, hlt _ e⟩
theorem RwsO.sl {base : Nat} {ro : Option Addr} {k rc n : Nat} {R : Nat → Nat → Nat} {vs : Nat → Value} {w : World} (h : RwsO base ro k rc n R vs w) : SlV ro k vs w := fun j hj => by
  obtain ⟨g, e, h1, _⟩ := h.cell j hj
  exact ⟨g, 0, e, by rw [Nat.zero_add]; exact h1⟩
/-- Row j is another one now. -/
theorem RwsO.store {base : Nat} {ro : Option Addr} {k rc n : Nat} {R : Nat → Nat → Nat} {vs : Nat → Value} {w : World} (h : RwsO base ro k rc n R vs w) {g j : Nat} (hg : ro = some ⟨g, 0, none⟩) {u : Value} {c : Nat → Nat} (hu : Elm u (n, c) w) :
    RwsO base ro k rc n (fun i => if i = j then c else R i) (fun i => if i = j then u else vs i) (w.setCell ⟨g, j, none⟩ u) := by
  have hown := h.own
  have hap : ∀ {v : Value} {p : Nat × (Nat → Nat)}, Elm v p w → Elm v p (w.setCell ⟨g, j, none⟩ u) := by
    rintro v p ⟨g', cap, e, h1, h2, hr⟩
    refine ⟨g', cap, e, h1, h2, hr.other (Below.heap_setCell w _ u g' ?_)⟩
    intro e'
    have hne := hr.apart hown
    rw [hg] at hne
    exact hne (by rw [e']; rfl)
  refine ⟨?_, fun i hi => ?_, h.nil⟩
  · rcases hown.2 with ⟨h1, _⟩ | ⟨g', cap, cur, hv, hb, hh, hle, hcm, hsz, htake⟩
    · rw [hg] at h1; cases h1
    · rw [hg, vl_len] at hv
      cases hv
      have hlt := lt_of_block hh
      have h' : w.heap[g] = .cells cur 23 (0, 0) := by simpa [Array.getElem?_eq_getElem hlt] using hh
      refine ⟨by rw [vl_len]; omega, Or.inr ⟨g, rc, cur.setIfInBounds j u, by rw [hg, vl_len], hb, ?_, by rw [vl_len]; rw [vl_len] at hle; exact hle, hcm, by rw [Array.size_setIfInBounds]; exact hsz, ?_⟩⟩
      · show (w.heap.modify g _)[g]? = _
        rw [Array.getElem?_eq_getElem (by simpa using hlt), Array.getElem_modify_self, h']
        rfl
      · rw [vl_len] at htake ⊢
        apply List.ext_getElem?
        intro i
        have h3 : (cur.toList.take (k * 1))[i]? = (vl k vs)[i]? := by rw [htake]
        rw [List.getElem?_take] at h3 ⊢
        by_cases hi : i < k * 1
        · rw [if_pos hi] at h3 ⊢
          have hik : i < k := by omega
          rw [vl_get k vs i hik] at h3
          rw [vl_get k _ i hik, Array.getElem?_toList, Array.getElem?_setIfInBounds]
          rw [Array.getElem?_toList] at h3
          by_cases e : j = i
          · rw [if_pos e, if_pos (by have := (Array.getElem?_eq_some_iff.1 h3).1; omega), if_pos e.symm]
          · rw [if_neg e, if_neg (fun x => e x.symm)]; exact h3
        · rw [if_neg hi, List.getElem?_eq_none (by rw [vl_len]; omega)]
  · show Elm (if i = j then u else vs i) (n, if i = j then c else R i) _
    by_cases e : i = j
    · rw [if_pos e, if_pos e]; exact hap hu
    · rw [if_neg e, if_neg e]; exact hap (h.row i hi)
/-- A list of numbers is no list of lists. -/
theorem OwnI.apart {base base' : Nat} {u v : Value} {l : List Int} {l' : List Value} {w : World} (h : OwnI base u l w) (h' : OwnV base' v l' w) : u.ownBlock = none ∨ u.ownBlock ≠ v.ownBlock := by
  rcases h.2 with ⟨h1, _⟩ | ⟨g, cap, cur, hv, _, hh, _⟩
  · left; rw [h1]; rfl
  · right
    rcases h'.2 with ⟨h2, _⟩ | ⟨g', cap', cur', hv', _, hh', _⟩
    · rw [hv, h2]; intro e; cases e
    · rw [hv, hv']
      intro e
      have e : some g = some g' := e
      cases e
      rw [hh] at hh'
      simp at hh'
theorem Elm.setV {base g j : Nat} {v' u : Value} {l : List Value} {v : Value} {p : Nat × (Nat → Nat)} {w : World} (h : Elm v p w) (ho : OwnV base v' l w) (hg : v'.ownBlock = some g) : Elm v p (w.setCell ⟨g, j, none⟩ u) := by
  obtain ⟨g', cap, e, h1, h2, hr⟩ := h
  refine ⟨g', cap, e, h1, h2, hr.other (Below.heap_setCell w _ u g' ?_)⟩
  intro e'
  exact hr.apart ho (by rw [hg, e'])
theorem OwnI.setV {base base' g j : Nat} {v v' u : Value} {l : List Int} {l' : List Value} {w : World} (h : OwnI base v l w) (ho : OwnV base' v' l' w) (hg : v'.ownBlock = some g) : OwnI base v l (w.setCell ⟨g, j, none⟩ u) :=
  h.kept (grown_set (grown_refl w (some g)) j u) (by rw [← hg]; exact h.apart ho)
/-- A number of a row of the call's own is another one now. -/
theorem Elm.store {g n cap j x : Nat} {c d : Nat → Nat} {w : World} (h : Elm (.slice (some ⟨g, 0, none⟩) (n + 1) cap) (n, c) w) (hd : ∀ i, i < n + 1 → d i = if i = j then x else c i) : Elm (.slice (some ⟨g, 0, none⟩) (n + 1) cap) (n, d) (w.setCell ⟨g, j, none⟩ (.int .i64 (x : Nat))) := by
  obtain ⟨g', cap', e, h1, h2, hr⟩ := h
  cases e
  exact ⟨g, cap, rfl, h1, h2, hr.store j x hd⟩
theorem Elm.row {g n cap : Nat} {c : Nat → Nat} {w : World} (h : Elm (.slice (some ⟨g, 0, none⟩) (n + 1) cap) (n, c) w) : Row g (n + 1) c w := by
  obtain ⟨g', cap', e, h1, h2, hr⟩ := h
  cases e
  exact hr
theorem Elm.congr {v : Value} {n : Nat} {c d : Nat → Nat} {w : World} (h : Elm v (n, c) w) (e : ∀ i, i < n + 1 → c i = d i) : Elm v (n, d) w := by
  obtain ⟨g', cap', e', h1, h2, hr⟩ := h
  exact ⟨g', cap', e', h1, h2, hr.congr e⟩
theorem RwsO.congr {base : Nat} {ro : Option Addr} {k rc n : Nat} {R R' : Nat → Nat → Nat} {vs : Nat → Value} {w : World} (h : RwsO base ro k rc n R vs w) (e : ∀ i, i < k → R i = R' i) : RwsO base ro k rc n R' vs w := ⟨h.own, fun j hj => by rw [← e j hj]; exact h.row j hj, h.nil⟩
theorem vl_ins (k t : Nat) (ht : t ≤ k) (v : Value) (vs : Nat → Value) : vl (k + 1) (ins t v vs) = vl t vs ++ vl 1 (fun _ => v) ++ vl (k - t) (fun j => vs (t + j)) := by
  apply List.ext_getElem?
  intro i
  by_cases hi : i < k + 1
  · rw [vl_get _ _ i hi]
    rcases Nat.lt_trichotomy i t with e | e | e
    · rw [ins_lt e, List.append_assoc, List.getElem?_append_left (by rw [vl_len]; exact e), vl_get _ _ i e]
    · rw [e, ins_at, List.append_assoc, List.getElem?_append_right (by rw [vl_len]; omega), vl_len, Nat.sub_self, List.getElem?_append_left (by rw [vl_len]; omega), vl_get _ _ 0 (by omega)]
    · rw [ins_gt e, List.getElem?_append_right (by rw [List.length_append, vl_len, vl_len]; omega), List.length_append, vl_len, vl_len, vl_get _ _ _ (by omega), show t + (i - (t + 1)) = i - 1 from by omega]
  · rw [List.getElem?_eq_none (by rw [vl_len]; omega), List.getElem?_eq_none (by rw [List.length_append, List.length_append, vl_len, vl_len, vl_len]; omega)]
theorem zl_ins (k t : Nat) (ht : t ≤ k) (v : Int) (z : Nat → Int) : zl (k + 1) (ins t v z) = zl t z ++ zl 1 (fun _ => v) ++ zl (k - t) (fun j => z (t + j)) := by
  apply List.ext_getElem?
  intro i
  by_cases hi : i < k + 1
  · rw [zl_get _ _ i hi]
    rcases Nat.lt_trichotomy i t with e | e | e
    · rw [ins_lt e, List.append_assoc, List.getElem?_append_left (by rw [zl_len]; exact e), zl_get _ _ i e]
    · rw [e, ins_at, List.append_assoc, List.getElem?_append_right (by rw [zl_len]; omega), zl_len, Nat.sub_self, List.getElem?_append_left (by rw [zl_len]; omega), zl_get _ _ 0 (by omega)]
    · rw [ins_gt e, List.getElem?_append_right (by rw [List.length_append, zl_len, zl_len]; omega), List.length_append, zl_len, zl_len, zl_get _ _ _ (by omega), show t + (i - (t + 1)) = i - 1 from by omega]
  · rw [List.getElem?_eq_none (by rw [zl_len]; omega), List.getElem?_eq_none (by rw [List.length_append, List.length_append, zl_len, zl_len, zl_len]; omega)]
theorem ins_cast (t a : Nat) (p : Nat → Nat) : (fun j => ((ins t a p j : Nat) : Int)) = ins t (a : Int) (fun j => ((p j : Nat) : Int)) := by
  funext j
  unfold ins
  split
  · rfl
  · split <;> rfl
end Go.Proofs.Ytbpeahhhkcljeaa

/- The reference's matrices: products (Product). -/
namespace Go.Proofs.Ytbpeahhhkcljeaa
open Go.RowKit Go.Sort

theorem rl_succ (k n : Nat) (R : Nat → Nat → Nat) : rl (k + 1) n R = rl k n R ++ [(n, R k)] := by
  unfold rl
  rw [List.range_succ, List.map_append]; rfl

end Go.Proofs.Ytbpeahhhkcljeaa
