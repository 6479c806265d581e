/- Texts of ours, one behind the other: V7 V8 N5 N6 U18 U19 W6 U20 U21 U22 W7 V9 V10 N7. -/
import Derived.Test.YtcgmllamiaflcaaZV6
import Derived.Test.YtcgmllamiaflcaaZN2
import Derived.Test.YtcgmllamiaflcaaZU11
import Derived.WalkMore
import Derived.ScopeJumps
import Derived.Deep.LoopGhost
import Derived.Deep.CutBlock
import Derived.Deep.DeepCutAuto
/- The reference's polynomials: with 1 at the end (Monic); common divisors (PGcd). -/
namespace Go.Proofs.Ytcgmllamiaflcaa
open Go.RowKit Go.Sort

end Go.Proofs.Ytcgmllamiaflcaa

/- The reference's polynomials: common divisors (PGcd). -/
namespace Go.Proofs.Ytcgmllamiaflcaa
open Go.RowKit Go.Sort

end Go.Proofs.Ytcgmllamiaflcaa

/- Plain mathematics of polynomials, gone on: through given places, step by step. No Go text here. -/
namespace Go.Proofs.Ytcgmllamiaflcaa

theorem mul_ne {D : FD} (hD : D ∈ fieldsL) {a b : Nat} (_ha : a < D.q) (hb : b < D.q) (h1 : a ≠ 0) (h2 : b ≠ 0) : D.mul a b ≠ 0 := by
  have F := fld hD
  intro e
  rw [← mul0 F a] at e
  exact h2 (mul_cancel F h1 hb (zero_lt' F) e)

end Go.Proofs.Ytcgmllamiaflcaa

/- Plain mathematics of polynomials, gone on: those that end with 1, in order; the least one that divides; parting by it, again and again. No Go text here. -/
namespace Go.Proofs.Ytcgmllamiaflcaa

/-- A polynomial of degree d that ends with 1. -/
structure Mn (D : FD) (d : Nat) (c : Nat → Nat) : Prop where
  el : El D c
  bd : Bd (d + 1) c
  top : c d = 1
end Go.Proofs.Ytcgmllamiaflcaa

/- The program's polynomials through given places (through). -/
namespace Go.Proofs.Ytcgmllamiaflcaa
open Go.RowKit

theorem neg_nat {F T : Nat} {D : FD} (hD : D ∈ fieldsL) {g : Nat → Value} {w : World} (h : FAt F T D g w) {a : Nat} (ha : a < D.q) :
    Calls Try.prog 41 #[.pointer (some ⟨F, 0, none⟩), .int .i64 a] w fun e w' => e = .returned (.int .i64 (D.ng a : Nat)) ∧ ∃ n, w' = w.drewN n := by
  have k := neg_any hD h a
  rw [FD.negZ, if_pos (nat_has ha), Int.toNat_natCast] at k
  exact k
end Go.Proofs.Ytcgmllamiaflcaa

/- The next polynomial that ends with 1 (after). -/
namespace Go.Proofs.Ytcgmllamiaflcaa
open Go.RowKit

end Go.Proofs.Ytcgmllamiaflcaa

/- Lists of lists of numbers that a call makes for itself: one list more. -/
namespace Go.Proofs.Ytcgmllamiaflcaa
open Go.RowKit

theorem Try.infoSl : (Try.prog.info? 22).map (fun i => (i.zero, i.size, i.bytes)) = some (some (.slice none 0 0), 1, 24) := by kernel_rfl

/-- The slice v of slices, made behind block number base, holds the slices l. -/
def OwnV (base : Nat) (v : Value) (l : List Value) (w : World) : Prop := w.ownsRow base 22 1 v l.length l
theorem OwnV.nil (base : Nat) (w : World) : OwnV base (.slice none 0 0) [] w := World.ownsRow_nil _ _ _ _
theorem OwnV.below {base B : Nat} {v : Value} {l : List Value} {w w' : World} (h : OwnV base v l w) (hb : Below B w w') (hB : w.heap.size ≤ B) : OwnV base v l w' := by
  obtain ⟨h1, h2⟩ := h
  refine ⟨h1, ?_⟩
  rcases h2 with h2 | ⟨g, cap, cur, hv, hg, hh, r⟩
  · exact Or.inl h2
  · exact Or.inr ⟨g, cap, cur, hv, hg, by rw [hb.block g (Nat.lt_of_lt_of_le (lt_of_block hh) hB)]; exact hh, r⟩
theorem OwnV.mono {base base' : Nat} {v : Value} {l : List Value} {w : World} (h : OwnV base v l w) (hb : base' ≤ base) : OwnV base' v l w := by
  obtain ⟨h1, h2⟩ := h
  refine ⟨h1, ?_⟩
  rcases h2 with h2 | ⟨g, cap, cur, hv, hg, r⟩
  · exact Or.inl h2
  · exact Or.inr ⟨g, cap, cur, hv, by omega, r⟩
/-- Opened: where it lies. -/
theorem OwnV.open {base : Nat} {v : Value} {l : List Value} {w : World} (h : OwnV base v l w) : ∃ ao cap, v = .slice ao l.length cap ∧ (ao = none → cap = 0) ∧ LtB ao w.heap.size ∧ GeB ao base ∧
    ∀ (j : Nat) (u : Value), l[j]? = some u → ∃ g, ao = some ⟨g, 0, none⟩ ∧ w.cell? ⟨g, j, none⟩ = some u ∧ w.frozen? ⟨g, j, none⟩ = false := by
  rcases h.2 with ⟨h1, h2⟩ | ⟨g, cap, cur, hv, hg, hh, hle, hcm, hsz, htake⟩
  · refine ⟨none, 0, by rw [h1, h2], fun _ => rfl, fun x hx => (by cases hx), fun x hx => (by cases hx), fun j u hj => ?_⟩
    rw [List.length_eq_zero_iff.1 h2] at hj
    simp at hj
  · refine ⟨_, cap, hv, fun e => (by cases e), fun x hx => (by cases hx; exact lt_of_block hh), fun x hx => (by cases hx; exact hg), fun j u hj => ⟨g, rfl, ?_, frozen_of_row w g j cur 22 hh⟩⟩
    have hj' := (List.getElem?_eq_some_iff.1 hj).1
    rw [cell_of_row w g j cur 22 (0, 0) hh, ← Array.getElem?_toList]
    have h3 : (cur.toList.take (l.length * 1))[j]? = l[j]? := by rw [htake]
    rw [List.getElem?_take, if_pos (by omega)] at h3
    rw [h3]; exact hj

/-- 'l = append(l, y)', l a slice of slices of the call's own. -/
theorem append_sl {ops : Array Oper} {rest : List Oper} {o : Oper} {a : Act} {w : World} {Q : Exit → Act → World → Prop} (hgd : o.guard = none) (s x : Operand)
    (ho : o.op = .call { callee := .builtin .append, args := #[s, x], argTypes := #[43, 43] })
    (base : Nat) (v : Value) (l : List Value) (hs : a.eval s = v) (hown : OwnV base v l w) (ad : Addr) (c : Nat) (y : Value) (hy : y.oneCell' = true) (hx : a.eval x = .slice (some ad) 1 c) (hcell : w.cell? ad = some y)
    (hlen : l.length ≤ 1000000) (hbase : base ≤ w.heap.size)
    (h : ∀ v' w', OwnV base v' (l ++ [y]) w' → w.grownBy w' v.ownBlock → wpList Try.prog ops Q rest (a.put o.dst v') w') : wpList Try.prog ops Q (o :: rest) a w := by
  obtain ⟨i0, hi, hz0, hz1, hz2⟩ := info_parts Try.infoSl
  refine wpList_append_own _ hgd s x 43 ho base 22 i0 (.slice none 0 0) 1 24 Try.underlying43 hi hz0 hz1 hz2 rfl (by decide) v l.length _ hs hown ad 1 c [y] hx rfl ?_ ?_ ?_ ?_ hbase ?_
  · intro j u hj
    match j, hj with
    | 0, hj =>
      simp at hj; subst hj
      have : ad.add 0 = ad := by cases ad with | mk b o s => cases s <;> simp [Addr.add]
      rw [this]; exact hcell
  · intro u hu; simp at hu; subst hu; exact hy
  · unfold maxLen; omega
  · omega
  · intro v' w' hown' hgrow _
    refine h v' w' ?_ hgrow
    unfold OwnV
    rw [List.length_append]
    exact hown'

/-- A row of numbers is no row of slices. -/
theorem Row.apart {base g N : Nat} {c : Nat → Nat} {v : Value} {l : List Value} {w : World} (h : Row g N c w) (ho : OwnV base v l w) : some g ≠ v.ownBlock := by
  obtain ⟨cap, f, ⟨cs, h1, _⟩, _⟩ := h
  rcases ho.2 with ⟨h2, _⟩ | ⟨g', cap', cur, hv, _, hh, _⟩
  · rw [h2]; intro e; cases e
  · rw [hv]
    intro e
    have e : some g = some g' := e
    cases e
    rw [h1] at hh
    simp at hh
/-- The slice v is polynomial p (its degree, its coefficients), in a row of numbers. -/
def Elm (v : Value) (p : Nat × (Nat → Nat)) (w : World) : Prop := ∃ g cap, v = .slice (some ⟨g, 0, none⟩) (p.1 + 1) cap ∧ p.1 + 1 ≤ cap ∧ cap ≤ 9223372036854775807 ∧ Row g (p.1 + 1) p.2 w
theorem Elm.one {v : Value} {p : Nat × (Nat → Nat)} {w : World} (h : Elm v p w) : v.oneCell' = true := by
  obtain ⟨g, cap, rfl, _⟩ := h
  rfl
theorem Elm.below {v : Value} {p : Nat × (Nat → Nat)} {w w' : World} (h : Elm v p w) {B : Nat} (hb : Below B w w') (hB : w.heap.size ≤ B) : Elm v p w' := by
  obtain ⟨g, cap, e, h1, h2, hr⟩ := h
  exact ⟨g, cap, e, h1, h2, hr.below hb (Nat.lt_of_lt_of_le hr.lt hB)⟩
theorem Elm.grown {base : Nat} {u v : Value} {p : Nat × (Nat → Nat)} {l : List Value} {w w' : World} (h : Elm u p w) (ho : OwnV base v l w) (hg : w.grownBy w' v.ownBlock) : Elm u p w' := by
  obtain ⟨g, cap, e, h1, h2, hr⟩ := h
  exact ⟨g, cap, e, h1, h2, hr.other (hg.block g hr.lt (hr.apart ho))⟩
theorem OwnP.elm {base d : Nat} {v : Value} {c : Nat → Nat} {w : World} (h : OwnP base v (d + 1) c w) : Elm v (d, c) w := by
  obtain ⟨ao, cap, hv, h1, h2, _, _, _, hr⟩ := h
  obtain ⟨g, e, hrow⟩ := hr (by omega)
  exact ⟨g, cap, by rw [hv, e], h1, h2, hrow⟩
theorem Elm.sl {v : Value} {p : Nat × (Nat → Nat)} {w : World} (h : Elm v p w) : ∃ ao cap, v = .slice ao (p.1 + 1) cap ∧ p.1 + 1 ≤ cap ∧ cap ≤ 9223372036854775807 ∧ Sl ao (p.1 + 1) p.2 w ∧ LtB ao w.heap.size ∧ (ao = none → cap = 0) := by
  obtain ⟨g, cap, e, h1, h2, hr⟩ := h
  exact ⟨_, cap, e, h1, h2, hr.sl (Nat.le_refl _), fun x hx => (by cases hx; exact hr.lt), fun e => (by cases e)⟩
/-- Slice by slice. -/
def Elms (l : List Value) (L : List (Nat × (Nat → Nat))) (w : World) : Prop := l.length = L.length ∧ ∀ (j : Nat) (v : Value) (p : Nat × (Nat → Nat)), l[j]? = some v → L[j]? = some p → Elm v p w
theorem Elms.nil (w : World) : Elms [] [] w := ⟨rfl, fun j v p h _ => by simp at h⟩
theorem Elms.snoc {l : List Value} {L : List (Nat × (Nat → Nat))} {v : Value} {p : Nat × (Nat → Nat)} {w : World} (h : Elms l L w) (hv : Elm v p w) : Elms (l ++ [v]) (L ++ [p]) w := by
  refine ⟨by rw [List.length_append, List.length_append, h.1]; rfl, fun j u r hu hr => ?_⟩
  by_cases hj : j < l.length
  · rw [List.getElem?_append_left hj] at hu
    rw [List.getElem?_append_left (by rw [← h.1]; exact hj)] at hr
    exact h.2 j u r hu hr
  · rw [List.getElem?_append_right (by omega)] at hu
    rw [List.getElem?_append_right (by rw [← h.1]; omega), ← h.1] at hr
    cases hk : j - l.length with
    | zero =>
      rw [hk] at hu hr
      simp at hu hr
      subst hu; subst hr; exact hv
    | succ k =>
      rw [hk] at hu
      simp at hu
theorem Elms.below {l : List Value} {L : List (Nat × (Nat → Nat))} {w w' : World} (h : Elms l L w) {B : Nat} (hb : Below B w w') (hB : w.heap.size ≤ B) : Elms l L w' := ⟨h.1, fun j v p hv hp => (h.2 j v p hv hp).below hb hB⟩
theorem Elms.grown {base : Nat} {v : Value} {l' l : List Value} {L : List (Nat × (Nat → Nat))} {w w' : World} (h : Elms l L w) (ho : OwnV base v l' w) (hg : w.grownBy w' v.ownBlock) : Elms l L w' := ⟨h.1, fun j u p hu hp => (h.2 j u p hu hp).grown ho hg⟩
/-- The list of lists v, made behind block number base: the polynomials L. -/
def LLs (base : Nat) (v : Value) (L : List (Nat × (Nat → Nat))) (w : World) : Prop := ∃ l, OwnV base v l w ∧ Elms l L w
theorem LLs.nil (base : Nat) (w : World) : LLs base (.slice none 0 0) [] w := ⟨[], OwnV.nil _ _, Elms.nil _⟩
theorem LLs.below {base B : Nat} {v : Value} {L : List (Nat × (Nat → Nat))} {w w' : World} (h : LLs base v L w) (hb : Below B w w') (hB : w.heap.size ≤ B) : LLs base v L w' := by
  obtain ⟨l, h1, h2⟩ := h
  exact ⟨l, h1.below hb hB, h2.below hb hB⟩
theorem LLs.mono {base base' : Nat} {v : Value} {L : List (Nat × (Nat → Nat))} {w : World} (h : LLs base v L w) (hb : base' ≤ base) : LLs base' v L w := by
  obtain ⟨l, h1, h2⟩ := h
  exact ⟨l, h1.mono hb, h2⟩
end Go.Proofs.Ytcgmllamiaflcaa

/- The program's parts of a polynomial: what is kept, a division. -/
namespace Go.Proofs.Ytcgmllamiaflcaa
open Go.RowKit

end Go.Proofs.Ytcgmllamiaflcaa

/- The program's parts of a polynomial: the walk (parts). -/
namespace Go.Proofs.Ytcgmllamiaflcaa
open Go.RowKit

theorem OwnV.open_ge {base : Nat} {v : Value} {l : List Value} {w : World} (h : OwnV base v l w) : ∀ k, v.ownBlock = some k → base ≤ k := by
  intro k hk
  rcases h.2 with ⟨h1, _⟩ | ⟨g, cap, cur, hv, hg, _⟩
  · rw [h1] at hk; cases hk
  · rw [hv] at hk
    have hk : some g = some k := hk
    cases hk; exact hg

end Go.Proofs.Ytcgmllamiaflcaa

/- The program's polynomials: the calls that are listed: Through, Factors, Irreducible. -/
namespace Go.Proofs.Ytcgmllamiaflcaa
open Go.RowKit

theorem LLs.slice {base : Nat} {v : Value} {L : List (Nat × (Nat → Nat))} {w : World} (h : LLs base v L w) : ∃ ao cap, v = .slice ao L.length cap := by
  obtain ⟨l, h1, h2⟩ := h
  obtain ⟨ao, cap, hv, _⟩ := h1.open
  exact ⟨ao, cap, by rw [hv, h2.1]⟩

end Go.Proofs.Ytcgmllamiaflcaa

/- Lists of numbers that a call makes for itself: others' numbers laid behind them (append(v, l...)); a copy, as a plain list. -/
namespace Go.Proofs.Ytcgmllamiaflcaa
open Go.RowKit

/-- The first n numbers of z, as a list. -/
def zl (n : Nat) (z : Nat → Int) : List Int := (List.range n).map z
theorem zl_len (n : Nat) (z : Nat → Int) : (zl n z).length = n := by simp [zl]
theorem zl_get (n : Nat) (z : Nat → Int) (j : Nat) (hj : j < n) : (zl n z)[j]? = some (z j) := by
  unfold zl
  rw [List.getElem?_map, List.getElem?_range hj]; rfl
theorem zl_getD (n : Nat) (z : Nat → Int) (j : Nat) (hj : j < n) : (zl n z).getD j 0 = z j := by
  rw [List.getD_eq_getElem?_getD, zl_get n z j hj]; rfl
theorem zl_congr {n : Nat} {z y : Nat → Int} (h : ∀ j, j < n → z j = y j) : zl n z = zl n y := by
  unfold zl
  exact List.map_congr_left (fun j hj => h j (List.mem_range.1 hj))
theorem zl_succ (n : Nat) (z : Nat → Int) : zl (n + 1) z = zl n z ++ [z n] := by
  unfold zl
  rw [List.range_succ, List.map_append]; rfl

/-- Numbers from 0 on: a polynomial's row. -/
theorem OwnI.ownC {base : Nat} {v : Value} {l : List Int} {w : World} (h : OwnI base v l w) (c : Nat → Nat) (hc : ∀ k, k < l.length → l.getD k 0 = (c k : Nat)) : OwnP base v l.length c w := by
  rcases h.2 with ⟨h1, h2⟩ | ⟨g, cap, cur, hv, hg, hh, hle, hcm, hsz, htake⟩
  · exact ⟨none, 0, by rw [h1, h2], by omega, by omega, fun x hx => (by cases hx), fun x hx => (by cases hx), fun _ => rfl, fun h0 => absurd h0 (by omega)⟩
  · refine ⟨_, cap, hv, hle, by unfold maxLen at hcm; omega, fun x hx => (by cases hx; exact hg), fun x hx => (by cases hx; exact lt_of_block hh), fun e => (by cases e), fun _ => ⟨g, rfl, cap, fun k => (cur[k]?).getD (.int .i64 0), ⟨cur, hh, by omega, fun k hk => ?_⟩, hle, fun k hk => ?_⟩⟩
    · show _ = some (Option.getD _ _)
      rw [Array.getElem?_eq_getElem (by omega)]; rfl
    · have h3 : (cur.toList.take (l.length * 1))[k]? = (l.map (Value.int .i64))[k]? := by rw [htake]
      rw [List.getElem?_take, if_pos (by omega), List.getElem?_map, List.getElem?_eq_getElem hk] at h3
      show (cur[k]?).getD _ = _
      have h4 := hc k hk
      rw [List.getD_eq_getElem?_getD, List.getElem?_eq_getElem hk] at h4
      rw [← Array.getElem?_toList, h3]
      show Value.int .i64 _ = _
      rw [← h4]; rfl
theorem OwnI.block {base : Nat} {v : Value} {l : List Int} {w : World} (h : OwnI base v l w) : ∀ k, v.ownBlock = some k → base ≤ k := fun k hk => (h.lt k hk).1
theorem OwnP.block {base n : Nat} {v : Value} {c : Nat → Nat} {w : World} (h : OwnP base v n c w) : ∀ k, v.ownBlock = some k → base ≤ k := by
  obtain ⟨ao, cap, rfl, _, _, hg, _⟩ := h
  intro k hk
  cases ao with
  | none => cases hk
  | some x =>
    have hk : some x.block = some k := hk
    cases hk
    exact hg x rfl

/-- What lies elsewhere stays where one block is written. -/
theorem Elm.apart {v : Value} {p : Nat × (Nat → Nat)} {w w' : World} {g : Nat} (h : Elm v p w) (hg : w.grownBy w' (some g)) (hne : v.ownBlock ≠ some g) : Elm v p w' := by
  obtain ⟨g', cap, e, h1, h2, hr⟩ := h
  refine ⟨g', cap, e, h1, h2, hr.other (hg.block g' hr.lt ?_)⟩
  intro e'
  rw [e] at hne
  exact hne e'
end Go.Proofs.Ytcgmllamiaflcaa

/- The reference's polynomials: the next list (Next), which is ahead (Below). -/
namespace Go.Proofs.Ytcgmllamiaflcaa
open Go.RowKit

end Go.Proofs.Ytcgmllamiaflcaa

/- The reference's polynomials: parts (Factors). -/
namespace Go.Proofs.Ytcgmllamiaflcaa
open Go.RowKit Go.Sort

end Go.Proofs.Ytcgmllamiaflcaa

/- Plain mathematics of polynomials, gone on: Euclid's lemma; parting is unique. No Go text here. -/
namespace Go.Proofs.Ytcgmllamiaflcaa

end Go.Proofs.Ytcgmllamiaflcaa
