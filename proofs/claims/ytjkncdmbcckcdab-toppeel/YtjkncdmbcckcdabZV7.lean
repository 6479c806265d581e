/- Texts of ours, one behind the other: V7 V8 N5 N6 U18 U19 W6 U20 U21 U22 W7 V9 V10 N7. -/
import Derived.Test.YtjkncdmbcckcdabZV6
import Derived.Test.YtjkncdmbcckcdabZN1
import Derived.Test.YtjkncdmbcckcdabZU9
import Derived.WalkMore
import Derived.ScopeJumps
import Derived.Deep.LoopGhost
import Derived.Deep.CutBlock
import Derived.Deep.DeepCutAuto
/- The reference's polynomials: with 1 at the end (Monic); common divisors (PGcd). -/
namespace Go.Proofs.Ytjkncdmbcckcdab
open Go.RowKit Go.Sort

end Go.Proofs.Ytjkncdmbcckcdab

/- The reference's polynomials: common divisors (PGcd). -/
namespace Go.Proofs.Ytjkncdmbcckcdab
open Go.RowKit Go.Sort

end Go.Proofs.Ytjkncdmbcckcdab

/- Plain mathematics of polynomials, gone on: through given places, step by step. No Go text here. -/
namespace Go.Proofs.Ytjkncdmbcckcdab

end Go.Proofs.Ytjkncdmbcckcdab

/- Plain mathematics of polynomials, gone on: those that end with 1, in order; the least one that divides; parting by it, again and again. No Go text here. -/
namespace Go.Proofs.Ytjkncdmbcckcdab

end Go.Proofs.Ytjkncdmbcckcdab

/- The program's polynomials through given places (through). -/
namespace Go.Proofs.Ytjkncdmbcckcdab
open Go.RowKit

theorem neg_nat {F T : Nat} {D : FD} (hD : D ∈ fieldsL) {g : Nat → Value} {w : World} (h : FAt F T D g w) {a : Nat} (ha : a < D.q) :
    Calls Try.prog 68 #[.pointer (some ⟨F, 0, none⟩), .int .i64 a] w fun e w' => e = .returned (.int .i64 (D.ng a : Nat)) ∧ ∃ n, w' = w.drewN n := by
  have k := neg_any hD h a
  rw [FD.negZ, if_pos (nat_has ha), Int.toNat_natCast] at k
  exact k
end Go.Proofs.Ytjkncdmbcckcdab

/- The next polynomial that ends with 1 (after). -/
namespace Go.Proofs.Ytjkncdmbcckcdab
open Go.RowKit

end Go.Proofs.Ytjkncdmbcckcdab

/- Lists of lists of numbers that a call makes for itself: one list more. -/
namespace Go.Proofs.Ytjkncdmbcckcdab
open Go.RowKit

theorem Try.infoSl : (Try.prog.info? 22).map (fun i => (i.zero, i.size, i.bytes)) = some (some (.slice none 0 0), 1, 24) := by kernel_rfl

/-- The slice v of slices, made behind block number base, holds the slices l. -/
def OwnV (base : Nat) (v : Value) (l : List Value) (w : World) : Prop := w.ownsRow base 22 1 v l.length l
theorem OwnV.nil (base : Nat) (w : World) : OwnV base (.slice none 0 0) [] w := World.ownsRow_nil _ _ _ _
theorem OwnV.below {base B : Nat} {v : Value} {l : List Value} {w w' : World} (h : OwnV base v l w) (hb : Below B w w') (hB : w.heap.size ≤ B) : OwnV base v l w' := by
  obtain ⟨h1, h2⟩ := h
  refine ⟨h1, ?_⟩
  rcases h2 with h2 | ⟨g, cap, cur, hv, hg, hh, r⟩
  · exact Or.inl h2
  · exact Or.inr ⟨g, cap, cur, hv, hg, by rw [hb.block g (Nat.lt_of_lt_of_le (lt_of_block hh) hB)]; exact hh, r⟩
theorem OwnV.mono {base base' : Nat} {v : Value} {l : List Value} {w : World} (h : OwnV base v l w) (hb : base' ≤ base) : OwnV base' v l w := by
  obtain ⟨h1, h2⟩ := h
  refine ⟨h1, ?_⟩
  rcases h2 with h2 | ⟨g, cap, cur, hv, hg, r⟩
  · exact Or.inl h2
  · exact Or.inr ⟨g, cap, cur, hv, by omega, r⟩
/-- Opened: where it lies. -/
theorem OwnV.open {base : Nat} {v : Value} {l : List Value} {w : World} (h : OwnV base v l w) : ∃ ao cap, v = .slice ao l.length cap ∧ (ao = none → cap = 0) ∧ LtB ao w.heap.size ∧ GeB ao base ∧
    ∀ (j : Nat) (u : Value), l[j]? = some u → ∃ g, ao = some ⟨g, 0, none⟩ ∧ w.cell? ⟨g, j, none⟩ = some u ∧ w.frozen? ⟨g, j, none⟩ = false := by
  rcases h.2 with ⟨h1, h2⟩ | ⟨g, cap, cur, hv, hg, hh, hle, hcm, hsz, htake⟩
  · refine ⟨none, 0, by rw [h1, h2], fun _ => rfl, fun x hx => (by cases hx), fun x hx => (by cases hx), fun j u hj => ?_⟩
    rw [List.length_eq_zero_iff.1 h2] at hj
    simp at hj
  · refine ⟨_, cap, hv, fun e => (by cases e), fun x hx => (by cases hx; exact lt_of_block hh), fun x hx => (by cases hx; exact hg), fun j u hj => ⟨g, rfl, ?_, frozen_of_row w g j cur 22 hh⟩⟩
    have hj' := (List.getElem?_eq_some_iff.1 hj).1
    rw [cell_of_row w g j cur 22 (0, 0) hh, ← Array.getElem?_toList]
    have h3 : (cur.toList.take (l.length * 1))[j]? = l[j]? := by rw [htake]
    rw [List.getElem?_take, if_pos (by omega)] at h3
    rw [h3]; exact hj

/-- 'l = append(l, y)', l a slice of slices of the call's own. -/
theorem append_sl {ops : Array Oper} {rest : List Oper} {o : Oper} {a : Act} {w : World} {Q : Exit → Act → World → Prop} (hgd : o.guard = none) (s x : Operand)
    (ho : o.op = .call { callee := .builtin .append, args := #[s, x], argTypes := #[24, 24] })
    (base : Nat) (v : Value) (l : List Value) (hs : a.eval s = v) (hown : OwnV base v l w) (ad : Addr) (c : Nat) (y : Value) (hy : y.oneCell' = true) (hx : a.eval x = .slice (some ad) 1 c) (hcell : w.cell? ad = some y)
    (hlen : l.length ≤ 1000000) (hbase : base ≤ w.heap.size)
    (h : ∀ v' w', OwnV base v' (l ++ [y]) w' → w.grownBy w' v.ownBlock → wpList Try.prog ops Q rest (a.put o.dst v') w') : wpList Try.prog ops Q (o :: rest) a w := by
  obtain ⟨i0, hi, hz0, hz1, hz2⟩ := info_parts Try.infoSl
  refine wpList_append_own _ hgd s x 24 ho base 22 i0 (.slice none 0 0) 1 24 Try.underlying24 hi hz0 hz1 hz2 rfl (by decide) v l.length _ hs hown ad 1 c [y] hx rfl ?_ ?_ ?_ ?_ hbase ?_
  · intro j u hj
    match j, hj with
    | 0, hj =>
      simp at hj; subst hj
      have : ad.add 0 = ad := by cases ad with | mk b o s => cases s <;> simp [Addr.add]
      rw [this]; exact hcell
  · intro u hu; simp at hu; subst hu; exact hy
  · unfold maxLen; omega
  · omega
  · intro v' w' hown' hgrow _
    refine h v' w' ?_ hgrow
    unfold OwnV
    rw [List.length_append]
    exact hown'

/-- A row of numbers is no row of slices. -/
theorem Row.apart {base g N : Nat} {c : Nat → Nat} {v : Value} {l : List Value} {w : World} (h : Row g N c w) (ho : OwnV base v l w) : some g ≠ v.ownBlock := by
  obtain ⟨cap, f, ⟨cs, h1, _⟩, _⟩ := h
  rcases ho.2 with ⟨h2, _⟩ | ⟨g', cap', cur, hv, _, hh, _⟩
  · rw [h2]; intro e; cases e
  · rw [hv]
    intro e
    have e : some g = some g' := e
    cases e
    rw [h1] at hh
    simp at hh
end Go.Proofs.Ytjkncdmbcckcdab

/- The program's parts of a polynomial: what is kept, a division. -/
namespace Go.Proofs.Ytjkncdmbcckcdab
open Go.RowKit

end Go.Proofs.Ytjkncdmbcckcdab

/- The program's parts of a polynomial: the walk (parts). -/
namespace Go.Proofs.Ytjkncdmbcckcdab
open Go.RowKit

theorem OwnV.open_ge {base : Nat} {v : Value} {l : List Value} {w : World} (h : OwnV base v l w) : ∀ k, v.ownBlock = some k → base ≤ k := by
  intro k hk
  rcases h.2 with ⟨h1, _⟩ | ⟨g, cap, cur, hv, hg, _⟩
  · rw [h1] at hk; cases hk
  · rw [hv] at hk
    have hk : some g = some k := hk
    cases hk; exact hg

end Go.Proofs.Ytjkncdmbcckcdab

/- The program's polynomials: the calls that are listed: Through, Factors, Irreducible. -/
namespace Go.Proofs.Ytjkncdmbcckcdab
open Go.RowKit

end Go.Proofs.Ytjkncdmbcckcdab

/- Lists of numbers that a call makes for itself: others' numbers laid behind them (append(v, l...)); a copy, as a plain list. -/
namespace Go.Proofs.Ytjkncdmbcckcdab
open Go.RowKit

/-- The first n numbers of z, as a list. -/
def zl (n : Nat) (z : Nat → Int) : List Int := (List.range n).map z
theorem zl_len (n : Nat) (z : Nat → Int) : (zl n z).length = n := by simp [zl]
theorem zl_get (n : Nat) (z : Nat → Int) (j : Nat) (hj : j < n) : (zl n z)[j]? = some (z j) := by
  unfold zl
  rw [List.getElem?_map, List.getElem?_range hj]; rfl
theorem zl_getD (n : Nat) (z : Nat → Int) (j : Nat) (hj : j < n) : (zl n z).getD j 0 = z j := by
  rw [List.getD_eq_getElem?_getD, zl_get n z j hj]; rfl
theorem zl_congr {n : Nat} {z y : Nat → Int} (h : ∀ j, j < n → z j = y j) : zl n z = zl n y := by
  unfold zl
  exact List.map_congr_left (fun j hj => h j (List.mem_range.1 hj))
theorem zl_succ (n : Nat) (z : Nat → Int) : zl (n + 1) z = zl n z ++ [z n] := by
  unfold zl
  rw [List.range_succ, List.map_append]; rfl

/-- 'append(v, l...)', v the call's own list. -/
theorem append_ints {ops : Array Oper} {rest : List Oper} {o : Oper} {a : Act} {w : World} {Q : Exit → Act → World → Prop} (hgd : o.guard = none) (s x : Operand)
    (ho : o.op = .call { callee := .builtin .append, args := #[s, x], argTypes := #[22, 22] })
    (base : Nat) (v : Value) (l : List Int) (hs : a.eval s = v) (hown : OwnI base v l w) (ao : Option Addr) (n sc : Nat) (z : Nat → Int) (hx : a.eval x = .slice ao n sc) (hS : SlZ ao n z w) (hnil : ao = none → sc = 0)
    (hn : l.length + n ≤ 1000000) (hbase : base ≤ w.heap.size)
    (h : ∀ v' w', OwnI base v' (l ++ zl n z) w' → w.grownBy w' v.ownBlock → wpList Try.prog ops Q rest (a.put o.dst v') w') : wpList Try.prog ops Q (o :: rest) a w := by
  obtain ⟨i0, hi, hz0, hz1, hz2⟩ := info_parts Try.infoInt
  cases ao with
  | none =>
    have h0 : n = 0 := by
      rcases Nat.eq_zero_or_pos n with e | e
      · exact e
      · obtain ⟨b, off, h1, _⟩ := hS 0 e
        cases h1
    subst h0
    rw [hnil rfl] at hx
    refine wpList_append_own_none hgd s x 22 ho base 3 i0 1 Try.underlying22 hi v l.length _ hs hown hx ?_
    exact h v w (by have e : l ++ zl 0 z = l := by simp [zl]
                    rw [e]; exact hown) (grown_refl _ _)
  | some ad =>
    refine wpList_append_own _ hgd s x 22 ho base 3 i0 (.int .i64 0) 1 8 Try.underlying22 hi hz0 hz1 hz2 rfl (by decide) v l.length _ hs hown ad n sc ((zl n z).map (Value.int .i64)) hx (by rw [List.length_map, zl_len]; omega) ?_ ?_ ?_ ?_ hbase ?_
    · intro j u hj
      have hj' : j < n := by
        have := (List.getElem?_eq_some_iff.1 hj).1
        rwa [List.length_map, zl_len] at this
      rw [List.getElem?_map, zl_get n z j hj'] at hj
      cases hj
      obtain ⟨b, off, e, hc⟩ := hS j hj'
      cases e
      rw [add_off]; exact hc
    · intro u hu
      obtain ⟨k, _, rfl⟩ := List.mem_map.1 hu
      rfl
    · unfold maxLen; omega
    · omega
    · intro v' w' hown' hgrow _
      refine h v' w' ?_ hgrow
      unfold OwnI
      rw [List.map_append, List.length_append, zl_len]
      exact hown'

theorem OwnI.block {base : Nat} {v : Value} {l : List Int} {w : World} (h : OwnI base v l w) : ∀ k, v.ownBlock = some k → base ≤ k := fun k hk => (h.lt k hk).1
theorem OwnP.block {base n : Nat} {v : Value} {c : Nat → Nat} {w : World} (h : OwnP base v n c w) : ∀ k, v.ownBlock = some k → base ≤ k := by
  obtain ⟨ao, cap, rfl, _, _, hg, _⟩ := h
  intro k hk
  cases ao with
  | none => cases hk
  | some x =>
    have hk : some x.block = some k := hk
    cases hk
    exact hg x rfl

end Go.Proofs.Ytjkncdmbcckcdab

/- The reference's polynomials: the next list (Next), which is ahead (Below). -/
namespace Go.Proofs.Ytjkncdmbcckcdab
open Go.RowKit

end Go.Proofs.Ytjkncdmbcckcdab

/- The reference's polynomials: parts (Factors). -/
namespace Go.Proofs.Ytjkncdmbcckcdab
open Go.RowKit Go.Sort

end Go.Proofs.Ytjkncdmbcckcdab

/- Plain mathematics of polynomials, gone on: Euclid's lemma; parting is unique. No Go text here. -/
namespace Go.Proofs.Ytjkncdmbcckcdab

end Go.Proofs.Ytjkncdmbcckcdab
