/- Texts of ours, one behind the other: W7 V9 V10 N7. -/
import Derived.Test.YtonjkpakbmbafaaZW6
import Derived.Test.YtonjkpakbmbafaaZV7
import Derived.Deep.CutBlock
import Derived.Deep.DeepCutAuto
/- Lists of numbers that a call makes for itself: others' numbers laid behind them (append(v, l...)); a copy, as a plain list. -/
namespace Go.Proofs.Ytonjkpakbmbafaa
open Go.RowKit

/-- The first n numbers of z, as a list. -/
def zl (n : Nat) (z : Nat → Int) : List Int := (List.range n).map z
theorem zl_len (n : Nat) (z : Nat → Int) : (zl n z).length = n := by simp [zl]
theorem zl_get (n : Nat) (z : Nat → Int) (j : Nat) (hj : j < n) : (zl n z)[j]? = some (z j) := by
  unfold zl
  rw [List.getElem?_map, List.getElem?_range hj]; rfl
theorem zl_getD (n : Nat) (z : Nat → Int) (j : Nat) (hj : j < n) : (zl n z).getD j 0 = z j := by
  rw [List.getD_eq_getElem?_getD, zl_get n z j hj]; rfl
theorem zl_congr {n : Nat} {z y : Nat → Int} (h : ∀ j, j < n → z j = y j) : zl n z = zl n y := by
  unfold zl
  exact List.map_congr_left (fun j hj => h j (List.mem_range.1 hj))
theorem zl_succ (n : Nat) (z : Nat → Int) : zl (n + 1) z = zl n z ++ [z n] := by
  unfold zl
  rw [List.range_succ, List.map_append]; rfl

/-- 'append(v, l...)', v the call's own list. -/
theorem append_ints {ops : Array Oper} {rest : List Oper} {o : Oper} {a : Act} {w : World} {Q : Exit → Act → World → Prop} (hgd : o.guard = none) (s x : Operand)
    (ho : o.op = .call { callee := .builtin .append, args := #[s, x], argTypes := #[22, 22] })
    (base : Nat) (v : Value) (l : List Int) (hs : a.eval s = v) (hown : OwnI base v l w) (ao : Option Addr) (n sc : Nat) (z : Nat → Int) (hx : a.eval x = .slice ao n sc) (hS : SlZ ao n z w) (hnil : ao = none → sc = 0)
    (hn : l.length + n ≤ 1000000) (hbase : base ≤ w.heap.size)
    (h : ∀ v' w', OwnI base v' (l ++ zl n z) w' → w.grownBy w' v.ownBlock → wpList Try.prog ops Q rest (a.put o.dst v') w') : wpList Try.prog ops Q (o :: rest) a w := by
  obtain ⟨i0, hi, hz0, hz1, hz2⟩ := info_parts Try.infoInt
  cases ao with
  | none =>
    have h0 : n = 0 := by
      rcases Nat.eq_zero_or_pos n with e | e
      · exact e
      · obtain ⟨b, off, h1, _⟩ := hS 0 e
        cases h1
    subst h0
    rw [hnil rfl] at hx
    refine wpList_append_own_none hgd s x 22 ho base 3 i0 1 Try.underlying22 hi v l.length _ hs hown hx ?_
    exact h v w (by have e : l ++ zl 0 z = l := by simp [zl]
                    rw [e]; exact hown) (grown_refl _ _)
  | some ad =>
    refine wpList_append_own _ hgd s x 22 ho base 3 i0 (.int .i64 0) 1 8 Try.underlying22 hi hz0 hz1 hz2 rfl (by decide) v l.length _ hs hown ad n sc ((zl n z).map (Value.int .i64)) hx (by rw [List.length_map, zl_len]; omega) ?_ ?_ ?_ ?_ hbase ?_
    · intro j u hj
      have hj' : j < n := by
        have := (List.getElem?_eq_some_iff.1 hj).1
        rwa [List.length_map, zl_len] at this
      rw [List.getElem?_map, zl_get n z j hj'] at hj
      cases hj
      obtain ⟨b, off, e, hc⟩ := hS j hj'
      cases e
      rw [add_off]; exact hc
    · intro u hu
      obtain ⟨k, _, rfl⟩ := List.mem_map.1 hu
      rfl
    · unfold maxLen; omega
    · omega
    · intro v' w' hown' hgrow _
      refine h v' w' ?_ hgrow
      unfold OwnI
      rw [List.map_append, List.length_append, zl_len]
      exact hown'

set_option maxHeartbeats 1000000 in
set_option maxRecDepth 100000 in
theorem copyI_any {ao : Option Addr} {n cap : Nat} {z : Nat → Int} {w : World} (h : SlZ ao n z w) (hn : n ≤ 1000000) (hnil : ao = none → cap = 0) (hl : LtB ao w.heap.size) :
    Calls Try.prog 56 #[.slice ao n cap] w fun e w' => ∃ v, e = .returned v ∧ OwnI w.heap.size v (zl n z) w' ∧ Below w.heap.size w w' := by
  have HS : Hid (SlZ ao n z w ∧ (ao = none → cap = 0) ∧ LtB ao w.heap.size) := ⟨h, hnil, hl⟩
  clear h hnil hl
  go_enter Try.func56, Try.ntmps56
  go_wp2_with (at_builtin; refine append_ints rfl _ _ rfl w.heap.size _ [] rfl (own_empty (two_new _) (Nat.le_refl _)) ao n cap z rfl (HS.out.1.below ((Below.refl _ _).alloc (Nat.le_refl _) _) HS.out.2.2) HS.out.2.1 (by simpa using hn) (by simp) ?_; intro v' w' hown hgrow)
  go_ret
  exact ⟨_, rfl, hown, ((Below.refl _ _).alloc (Nat.le_refl _) _).grown hgrow (by simp) (by intro k hk; have hk : some w.heap.size = some k := hk; cases hk; exact Nat.le_refl _)⟩

theorem OwnI.block {base : Nat} {v : Value} {l : List Int} {w : World} (h : OwnI base v l w) : ∀ k, v.ownBlock = some k → base ≤ k := fun k hk => (h.lt k hk).1
theorem OwnP.block {base n : Nat} {v : Value} {c : Nat → Nat} {w : World} (h : OwnP base v n c w) : ∀ k, v.ownBlock = some k → base ≤ k := by
  obtain ⟨ao, cap, rfl, _, _, hg, _⟩ := h
  intro k hk
  cases ao with
  | none => cases hk
  | some x =>
    have hk : some x.block = some k := hk
    cases hk
    exact hg x rfl

/-- What lies elsewhere stays where one block is written. -/
theorem Elm.apart {v : Value} {p : Nat × (Nat → Nat)} {w w' : World} {g : Nat} (h : Elm v p w) (hg : w.grownBy w' (some g)) (hne : v.ownBlock ≠ some g) : Elm v p w' := by
  obtain ⟨g', cap, e, h1, h2, hr⟩ := h
  refine ⟨g', cap, e, h1, h2, hr.other (hg.block g' hr.lt ?_)⟩
  intro e'
  rw [e] at hne
  exact hne e'
/-- A list of lists, none of which lies in block g. -/
def LLx (g base : Nat) (v : Value) (L : List (Nat × (Nat → Nat))) (w : World) : Prop := ∃ l, OwnV base v l w ∧ Elms l L w ∧ ∀ u ∈ l, u.ownBlock ≠ some g
theorem LLx.below {g base B : Nat} {v : Value} {L : List (Nat × (Nat → Nat))} {w w' : World} (h : LLx g base v L w) (hb : Below B w w') (hB : w.heap.size ≤ B) : LLx g base v L w' := by
  obtain ⟨l, h1, h2, h3⟩ := h
  exact ⟨l, h1.below hb hB, h2.below hb hB, h3⟩
theorem LLx.apart {g base N : Nat} {c : Nat → Nat} {v : Value} {L : List (Nat × (Nat → Nat))} {w w' : World} (h : LLx g base v L w) (hr : Row g N c w) (hg : w.grownBy w' (some g)) : LLx g base v L w' := by
  obtain ⟨l, h1, h2, h3⟩ := h
  refine ⟨l, World.ownsRow.kept h1 hg (Or.inr fun e => hr.apart h1 e.symm), ⟨h2.1, fun j u p hu hp => (h2.2 j u p hu hp).apart hg (h3 u (List.mem_of_getElem? hu))⟩, h3⟩
end Go.Proofs.Ytonjkpakbmbafaa

/- The reference's polynomials: the next list (Next), which is ahead (Below). -/
namespace Go.Proofs.Ytonjkpakbmbafaa
open Go.RowKit

end Go.Proofs.Ytonjkpakbmbafaa

/- The reference's polynomials: parts (Factors). -/
namespace Go.Proofs.Ytonjkpakbmbafaa
open Go.RowKit Go.Sort

end Go.Proofs.Ytonjkpakbmbafaa

/- Plain mathematics of polynomials, gone on: Euclid's lemma; parting is unique. No Go text here. -/
namespace Go.Proofs.Ytonjkpakbmbafaa

/-- It can't be parted: it is the first of all that divide it. -/
def Irr (D : FD) (p : Nat × (Nat → Nat)) : Prop := Lst D p.2 p.1 p.2

/-- None of them can be parted. -/
def Fac (D : FD) (L : List (Nat × (Nat → Nat))) : Prop := ∀ p, p ∈ L → Irr D p
theorem Fac.mn {D : FD} {L : List (Nat × (Nat → Nat))} (h : Fac D L) : ∀ p, p ∈ L → Mn D p.1 p.2 := fun p hp => (h p hp).mn
end Go.Proofs.Ytonjkpakbmbafaa
