/- Texts of ours, one behind the other: V7 V8 N5 N6 U18 U19 W6 U20 U21 U22 W7 V9 V10 N7. -/
import Derived.Test.YtlljaliemldjkaaZV6
import Derived.Test.YtlljaliemldjkaaZR5
import Derived.Test.YtlljaliemldjkaaZU2
import Derived.WalkMore
import Derived.ScopeJumps
import Derived.Deep.LoopGhost
import Derived.Deep.CutBlock
import Derived.Deep.DeepCutAuto
/- The reference's polynomials: with 1 at the end (Monic); common divisors (PGcd). -/
namespace Go.Proofs.Ytlljaliemldjkaa
open Go.RowKit Go.Sort

end Go.Proofs.Ytlljaliemldjkaa

/- The reference's polynomials: common divisors (PGcd). -/
namespace Go.Proofs.Ytlljaliemldjkaa
open Go.RowKit Go.Sort

end Go.Proofs.Ytlljaliemldjkaa

/- Plain mathematics of polynomials, gone on: through given places, step by step. No Go text here. -/
namespace Go.Proofs.Ytlljaliemldjkaa

end Go.Proofs.Ytlljaliemldjkaa

/- Plain mathematics of polynomials, gone on: those that end with 1, in order; the least one that divides; parting by it, again and again. No Go text here. -/
namespace Go.Proofs.Ytlljaliemldjkaa

/-- A polynomial of degree d that ends with 1. -/
structure Mn (D : FD) (d : Nat) (c : Nat → Nat) : Prop where
  el : El D c
  bd : Bd (d + 1) c
  top : c d = 1
/-- The first d coefficients as one number to the base q, the first one the greatest. -/
def dnum (q : Nat) (c : Nat → Nat) : Nat → Nat
  | 0 => 0
  | i + 1 => dnum q c i * q + c i
theorem dnum_lt {q : Nat} {c : Nat → Nat} : ∀ d, (∀ i, i < d → c i < q) → dnum q c d < q ^ d
  | 0, _ => by simp [dnum]
  | i + 1, h => by
    have h1 := dnum_lt i (fun j hj => h j (by omega))
    have h2 := h i (by omega)
    have h3 : (dnum q c i + 1) * q ≤ q ^ i * q := Nat.mul_le_mul_right q h1
    rw [Nat.add_mul, Nat.one_mul] at h3
    rw [dnum, Nat.pow_succ]
    omega
theorem dnum_congr {q : Nat} {c e : Nat → Nat} : ∀ d, (∀ i, i < d → c i = e i) → dnum q c d = dnum q e d
  | 0, _ => rfl
  | i + 1, h => by rw [dnum, dnum, dnum_congr i (fun j hj => h j (by omega)), h i (by omega)]
theorem dnum_inj {q : Nat} {c e : Nat → Nat} : ∀ d, (∀ i, i < d → c i < q) → (∀ i, i < d → e i < q) → dnum q c d = dnum q e d → ∀ i, i < d → c i = e i
  | 0, _, _, _, i, hi => by omega
  | n + 1, hc, he, h, i, hi => by
    have h1 := hc n (by omega)
    have h2 := he n (by omega)
    rw [dnum, dnum] at h
    have h3 : c n = e n := by
      have := congrArg (· % q) h
      simp only [Nat.mul_add_mod'] at this
      rwa [Nat.mod_eq_of_lt h1, Nat.mod_eq_of_lt h2] at this
    by_cases hin : i = n
    · rw [hin]; exact h3
    · refine dnum_inj n (fun j hj => hc j (by omega)) (fun j hj => he j (by omega)) ?_ i (by omega)
      exact Nat.eq_of_mul_eq_mul_right (show 0 < q by omega) (by omega)
theorem dnum_step {q : Nat} {c e : Nat → Nat} {k : Nat} (hc : c k < q) (h : dnum q c k < dnum q e k) : dnum q c (k + 1) < dnum q e (k + 1) := by
  have h3 : (dnum q c k + 1) * q ≤ dnum q e k * q := Nat.mul_le_mul_right q h
  rw [Nat.add_mul, Nat.one_mul] at h3
  rw [dnum, dnum]
  omega
/-- Lists are compared from the first place on. -/
theorem dnum_lex {q : Nat} {c e : Nat → Nat} {j : Nat} (he : ∀ i, i < j → c i = e i) (hj : c j < e j) : ∀ k, (∀ i, i < j + 1 + k → c i < q) → dnum q c (j + 1 + k) < dnum q e (j + 1 + k)
  | 0, _ => by
    show dnum q c j * q + c j < dnum q e j * q + e j
    rw [dnum_congr j he]; omega
  | k + 1, hc => dnum_step (k := j + 1 + k) (hc (j + 1 + k) (by omega)) (dnum_lex he hj k (fun i hi => hc i (by omega)))
/-- One counted up: nines behind place i turn to noughts. -/
theorem dnum_up {q : Nat} {c e : Nat → Nat} {i : Nat} (hq : 1 ≤ q) (he : ∀ j, j < i → e j = c j) (hi : e i = c i + 1) : ∀ k, (∀ j, i < j → j < i + 1 + k → c j = q - 1 ∧ e j = 0) → dnum q e (i + 1 + k) = dnum q c (i + 1 + k) + 1
  | 0, _ => by
    show dnum q e i * q + e i = dnum q c i * q + c i + 1
    rw [dnum_congr i he, hi]; omega
  | k + 1, h => by
    have h1 := dnum_up hq he hi k (fun j h1 h2 => h j h1 (by omega))
    have h2 := h (i + 1 + k) (by omega) (by omega)
    show dnum q e (i + 1 + k) * q + e (i + 1 + k) = dnum q c (i + 1 + k) * q + c (i + 1 + k) + 1
    rw [h1, h2.1, h2.2, Nat.add_mul, Nat.one_mul]; omega
/-- x' comes next behind x. -/
def Aft (D : FD) (d : Nat) (x : Nat → Nat) (d' : Nat) (x' : Nat → Nat) : Prop := (d' = d ∧ dnum D.q x' d' = dnum D.q x d + 1) ∨ (d' = d + 1 ∧ dnum D.q x d + 1 = D.q ^ d ∧ dnum D.q x' d' = 0)
end Go.Proofs.Ytlljaliemldjkaa

/- The program's polynomials through given places (through). -/
namespace Go.Proofs.Ytlljaliemldjkaa
open Go.RowKit

end Go.Proofs.Ytlljaliemldjkaa

/- The next polynomial that ends with 1 (after). -/
namespace Go.Proofs.Ytlljaliemldjkaa
open Go.RowKit

/-- Polynomial c of degree d, while it is counted up: all places from s on were nines. -/
def cnt (c : Nat → Nat) (d s : Nat) : Nat → Nat := fun k => if s ≤ k ∧ k < d then 0 else c k
/-- The place s is counted up. -/
def cup (c : Nat → Nat) (d s : Nat) : Nat → Nat := fun k => if k = s then c s + 1 else cnt c d (s + 1) k
theorem cnt_all (c : Nat → Nat) (d : Nat) : cnt c d d = c := by funext k; unfold cnt; rw [if_neg (by omega)]
theorem cnt_at (c : Nat → Nat) (d s : Nat) : cnt c d (s + 1) s = c s := by unfold cnt; rw [if_neg (by omega)]
theorem cnt_step (c : Nat → Nat) {d s : Nat} (hs : s < d) (k : Nat) : cnt c d s k = if k = s then 0 else cup c d s k := by
  unfold cup cnt
  by_cases e : k = s
  · rw [if_pos e, if_pos (by omega)]
  · rw [if_neg e, if_neg e]
    by_cases h : s ≤ k ∧ k < d
    · rw [if_pos h, if_pos (by omega)]
    · rw [if_neg h, if_neg (by omega)]
theorem cup_aft {D : FD} (F : Fld D) {c : Nat → Nat} {d s : Nat} (hc : Mn D d c) (hs : s < d) (hl : c s + 1 < D.q) (h9 : ∀ k, s + 1 ≤ k → k < d → c k = D.q - 1) : Mn D d (cup c d s) ∧ Aft D d c d (cup c d s) := by
  have h2 := F.q2
  refine ⟨⟨fun k => ?_, fun k hk => ?_, ?_⟩, Or.inl ⟨rfl, ?_⟩⟩
  · unfold cup cnt
    split
    · exact hl
    · split
      · exact zero_lt' F
      · exact hc.el k
  · unfold cup cnt
    rw [if_neg (by omega), if_neg (by omega)]
    exact hc.bd k hk
  · unfold cup cnt
    rw [if_neg (by omega), if_neg (by omega)]
    exact hc.top
  · have h := dnum_up (q := D.q) (c := c) (e := cup c d s) (i := s) (by omega) (fun j hj => by unfold cup cnt; rw [if_neg (by omega), if_neg (by omega)]) (by unfold cup; rw [if_pos rfl]) (d - (s + 1)) (fun j h1 h3 => ⟨h9 j (by omega) (by omega), by unfold cup cnt; rw [if_neg (by omega), if_pos (by omega)]⟩)
    rw [show s + 1 + (d - (s + 1)) = d from by omega] at h
    exact h
end Go.Proofs.Ytlljaliemldjkaa

/- Lists of lists of numbers that a call makes for itself: one list more. -/
namespace Go.Proofs.Ytlljaliemldjkaa
open Go.RowKit

/-- The slice v of slices, made behind block number base, holds the slices l. -/
def OwnV (base : Nat) (v : Value) (l : List Value) (w : World) : Prop := w.ownsRow base 22 1 v l.length l
theorem OwnV.nil (base : Nat) (w : World) : OwnV base (.slice none 0 0) [] w := World.ownsRow_nil _ _ _ _
theorem OwnV.below {base B : Nat} {v : Value} {l : List Value} {w w' : World} (h : OwnV base v l w) (hb : Below B w w') (hB : w.heap.size ≤ B) : OwnV base v l w' := by
  obtain ⟨h1, h2⟩ := h
  refine ⟨h1, ?_⟩
  rcases h2 with h2 | ⟨g, cap, cur, hv, hg, hh, r⟩
  · exact Or.inl h2
  · exact Or.inr ⟨g, cap, cur, hv, hg, by rw [hb.block g (Nat.lt_of_lt_of_le (lt_of_block hh) hB)]; exact hh, r⟩
theorem OwnV.mono {base base' : Nat} {v : Value} {l : List Value} {w : World} (h : OwnV base v l w) (hb : base' ≤ base) : OwnV base' v l w := by
  obtain ⟨h1, h2⟩ := h
  refine ⟨h1, ?_⟩
  rcases h2 with h2 | ⟨g, cap, cur, hv, hg, r⟩
  · exact Or.inl h2
  · exact Or.inr ⟨g, cap, cur, hv, by omega, r⟩
/-- Opened: where it lies. -/
theorem OwnV.open {base : Nat} {v : Value} {l : List Value} {w : World} (h : OwnV base v l w) : ∃ ao cap, v = .slice ao l.length cap ∧ (ao = none → cap = 0) ∧ LtB ao w.heap.size ∧ GeB ao base ∧
    ∀ (j : Nat) (u : Value), l[j]? = some u → ∃ g, ao = some ⟨g, 0, none⟩ ∧ w.cell? ⟨g, j, none⟩ = some u ∧ w.frozen? ⟨g, j, none⟩ = false := by
  rcases h.2 with ⟨h1, h2⟩ | ⟨g, cap, cur, hv, hg, hh, hle, hcm, hsz, htake⟩
  · refine ⟨none, 0, by rw [h1, h2], fun _ => rfl, fun x hx => (by cases hx), fun x hx => (by cases hx), fun j u hj => ?_⟩
    rw [List.length_eq_zero_iff.1 h2] at hj
    simp at hj
  · refine ⟨_, cap, hv, fun e => (by cases e), fun x hx => (by cases hx; exact lt_of_block hh), fun x hx => (by cases hx; exact hg), fun j u hj => ⟨g, rfl, ?_, frozen_of_row w g j cur 22 hh⟩⟩
    have hj' := (List.getElem?_eq_some_iff.1 hj).1
    rw [cell_of_row w g j cur 22 (0, 0) hh, ← Array.getElem?_toList]
    have h3 : (cur.toList.take (l.length * 1))[j]? = l[j]? := by rw [htake]
    rw [List.getElem?_take, if_pos (by omega)] at h3
    rw [h3]; exact hj

/-- A row of numbers is no row of slices. -/
theorem Row.apart {base g N : Nat} {c : Nat → Nat} {v : Value} {l : List Value} {w : World} (h : Row g N c w) (ho : OwnV base v l w) : some g ≠ v.ownBlock := by
  obtain ⟨cap, f, ⟨cs, h1, _⟩, _⟩ := h
  rcases ho.2 with ⟨h2, _⟩ | ⟨g', cap', cur, hv, _, hh, _⟩
  · rw [h2]; intro e; cases e
  · rw [hv]
    intro e
    have e : some g = some g' := e
    cases e
    rw [h1] at hh
    simp at hh
end Go.Proofs.Ytlljaliemldjkaa

/- The program's parts of a polynomial: what is kept, a division. -/
namespace Go.Proofs.Ytlljaliemldjkaa
open Go.RowKit

end Go.Proofs.Ytlljaliemldjkaa

/- The program's parts of a polynomial: the walk (parts). -/
namespace Go.Proofs.Ytlljaliemldjkaa
open Go.RowKit

end Go.Proofs.Ytlljaliemldjkaa

/- The program's polynomials: the calls that are listed: Through, Factors, Irreducible. -/
namespace Go.Proofs.Ytlljaliemldjkaa
open Go.RowKit

end Go.Proofs.Ytlljaliemldjkaa

/- Lists of numbers that a call makes for itself: others' numbers laid behind them (append(v, l...)); a copy, as a plain list. -/
namespace Go.Proofs.Ytlljaliemldjkaa
open Go.RowKit

/-- The first n numbers of z, as a list. -/
def zl (n : Nat) (z : Nat → Int) : List Int := (List.range n).map z
theorem zl_len (n : Nat) (z : Nat → Int) : (zl n z).length = n := by simp [zl]
theorem zl_get (n : Nat) (z : Nat → Int) (j : Nat) (hj : j < n) : (zl n z)[j]? = some (z j) := by
  unfold zl
  rw [List.getElem?_map, List.getElem?_range hj]; rfl
theorem zl_getD (n : Nat) (z : Nat → Int) (j : Nat) (hj : j < n) : (zl n z).getD j 0 = z j := by
  rw [List.getD_eq_getElem?_getD, zl_get n z j hj]; rfl
theorem zl_congr {n : Nat} {z y : Nat → Int} (h : ∀ j, j < n → z j = y j) : zl n z = zl n y := by
  unfold zl
  exact List.map_congr_left (fun j hj => h j (List.mem_range.1 hj))
theorem zl_succ (n : Nat) (z : Nat → Int) : zl (n + 1) z = zl n z ++ [z n] := by
  unfold zl
  rw [List.range_succ, List.map_append]; rfl

/-- 'append(v, l...)', v the call's own list. -/
theorem append_ints {ops : Array Oper} {rest : List Oper} {o : Oper} {a : Act} {w : World} {Q : Exit → Act → World → Prop} (hgd : o.guard = none) (s x : Operand)
    (ho : o.op = .call { callee := .builtin .append, args := #[s, x], argTypes := #[22, 22] })
    (base : Nat) (v : Value) (l : List Int) (hs : a.eval s = v) (hown : OwnI base v l w) (ao : Option Addr) (n sc : Nat) (z : Nat → Int) (hx : a.eval x = .slice ao n sc) (hS : SlZ ao n z w) (hnil : ao = none → sc = 0)
    (hn : l.length + n ≤ 1000000) (hbase : base ≤ w.heap.size)
    (h : ∀ v' w', OwnI base v' (l ++ zl n z) w' → w.grownBy w' v.ownBlock → wpList Try.prog ops Q rest (a.put o.dst v') w') : wpList Try.prog ops Q (o :: rest) a w := by
  obtain ⟨i0, hi, hz0, hz1, hz2⟩ := info_parts Try.infoInt
  cases ao with
  | none =>
    have h0 : n = 0 := by
      rcases Nat.eq_zero_or_pos n with e | e
      · exact e
      · obtain ⟨b, off, h1, _⟩ := hS 0 e
        cases h1
    subst h0
    rw [hnil rfl] at hx
    refine wpList_append_own_none hgd s x 22 ho base 3 i0 1 Try.underlying22 hi v l.length _ hs hown hx ?_
    exact h v w (by have e : l ++ zl 0 z = l := by simp [zl]
                    rw [e]; exact hown) (grown_refl _ _)
  | some ad =>
    refine wpList_append_own _ hgd s x 22 ho base 3 i0 (.int .i64 0) 1 8 Try.underlying22 hi hz0 hz1 hz2 rfl (by decide) v l.length _ hs hown ad n sc ((zl n z).map (Value.int .i64)) hx (by rw [List.length_map, zl_len]; omega) ?_ ?_ ?_ ?_ hbase ?_
    · intro j u hj
      have hj' : j < n := by
        have := (List.getElem?_eq_some_iff.1 hj).1
        rwa [List.length_map, zl_len] at this
      rw [List.getElem?_map, zl_get n z j hj'] at hj
      cases hj
      obtain ⟨b, off, e, hc⟩ := hS j hj'
      cases e
      rw [add_off]; exact hc
    · intro u hu
      obtain ⟨k, _, rfl⟩ := List.mem_map.1 hu
      rfl
    · unfold maxLen; omega
    · omega
    · intro v' w' hown' hgrow _
      refine h v' w' ?_ hgrow
      unfold OwnI
      rw [List.map_append, List.length_append, zl_len]
      exact hown'

set_option maxHeartbeats 1000000 in
set_option maxRecDepth 100000 in
theorem copyI_any {ao : Option Addr} {n cap : Nat} {z : Nat → Int} {w : World} (h : SlZ ao n z w) (hn : n ≤ 1000000) (hnil : ao = none → cap = 0) (hl : LtB ao w.heap.size) :
    Calls Try.prog 21 #[.slice ao n cap] w fun e w' => ∃ v, e = .returned v ∧ OwnI w.heap.size v (zl n z) w' ∧ Below w.heap.size w w' := by
  have HS : Hid (SlZ ao n z w ∧ (ao = none → cap = 0) ∧ LtB ao w.heap.size) := ⟨h, hnil, hl⟩
  clear h hnil hl
  go_enter Try.func21, Try.ntmps21
  go_wp2_with (at_builtin; refine append_ints rfl _ _ rfl w.heap.size _ [] rfl (own_empty (two_new _) (Nat.le_refl _)) ao n cap z rfl (HS.out.1.below ((Below.refl _ _).alloc (Nat.le_refl _) _) HS.out.2.2) HS.out.2.1 (by simpa using hn) (by simp) ?_; intro v' w' hown hgrow)
  go_ret
  exact ⟨_, rfl, hown, ((Below.refl _ _).alloc (Nat.le_refl _) _).grown hgrow (by simp) (by intro k hk; have hk : some w.heap.size = some k := hk; cases hk; exact Nat.le_refl _)⟩

theorem OwnI.block {base : Nat} {v : Value} {l : List Int} {w : World} (h : OwnI base v l w) : ∀ k, v.ownBlock = some k → base ≤ k := fun k hk => (h.lt k hk).1
end Go.Proofs.Ytlljaliemldjkaa

/- The reference's polynomials: the next list (Next), which is ahead (Below). -/
namespace Go.Proofs.Ytlljaliemldjkaa
open Go.RowKit

set_option maxHeartbeats 2000000 in
set_option maxRecDepth 100000 in
theorem rnext_any {D : FD} (hD : D ∈ fieldsL) {g d ca : Nat} {c : Nat → Nat} {w : World} (hc : Mn D d c) (hd : d ≤ 1000) (hr : Row g d c w) :
    Calls Try.prog 50 #[.slice (some ⟨g, 0, none⟩) d ca, .int .i64 D.q] w fun e w' => w.grownBy w' (some g) ∧
      ((e = .returned (.bool true) ∧ ∃ c', Row g d c' w' ∧ Mn D d c' ∧ Aft D d c d c') ∨ (e = .returned (.bool false) ∧ (∀ k, 0 ≤ k → k < d → c k = D.q - 1) ∧ Row g d pnil w')) := by
  have HC : Hid (D ∈ fieldsL ∧ Mn D d c ∧ Row g d c w) := ⟨hD, hc, hr⟩
  have h64 := (fld hD).q64
  clear hD hc hr
  go_enter Try.func50, Try.ntmps50
  go_wp2
  go_loopw [5] (fun i wr => ∃ s : Nat, s ≤ d ∧ i = .int .i64 ((s : Int) - 1) ∧ Hid (∀ k, s ≤ k → k < d → c k = D.q - 1) ∧ Row g d (cnt c d s) wr ∧ w.grownBy wr (some g)) (fun i _ => (intOf i + 1).toNat)
  case atStart => exact ⟨d, Nat.le_refl _, by go_num, fun k h1 h2 => by omega, by rw [cnt_all]; exact HC.out.2.2, grown_refl _ _⟩
  case round =>
    obtain ⟨s, hs, hi, H9, hrow, hgr⟩ := hrel
    have HG : Hid (Row g d (cnt c d s) wr ∧ w.grownBy wr (some g)) := ⟨hrow, hgr⟩
    clear hrow hgr
    cases s with
    | succ s =>
      have hi' : u5 = .int .i64 (s : Int) := by rw [hi]; go_num
      clear hi
      subst hi'
      obtain ⟨x, hx⟩ : ∃ x, x = c s := ⟨_, rfl⟩
      have hxq : x < D.q := by rw [hx]; exact HC.out.2.1.el s
      have hcl : wr.cell? ⟨g, s, none⟩ = some (.int .i64 (x : Nat)) := by rw [HG.out.1.cell s (by omega), cnt_at, hx]
      have hfr := HG.out.1.free s
      have hib : (s : Int) < (d : Int) := by omega
      have HX : Hid (x = c s) := hx
      clear hx
      have HR : Hid (Row g d (cup c d s) (wr.setCell ⟨g, s, none⟩ (.int .i64 ((x : Int) + 1)))) := by
        have h := HG.out.1.store s (x + 1) (d := cup c d s) (fun j _ => by unfold cup; rw [HX.out])
        rw [Int.natCast_add] at h; exact h
      by_cases hlt : x + 1 < D.q
      · go_wp2
        go_ret
        have hm := cup_aft (fld HC.out.1) HC.out.2.1 (by omega) (by rw [← HX.out]; exact hlt) H9.out
        exact ⟨grown_set HG.out.2 _ _, Or.inl ⟨rfl, cup c d s, HR.out, hm.1, hm.2⟩⟩
      · have HZ : Hid (∀ k, s ≤ k → k < d → c k = D.q - 1) := fun k h1 h2 => by
          by_cases e : k = s
          · rw [e, ← HX.out]; omega
          · exact H9.out k (by omega) h2
        go_wp2
        go_roundw
        case rel => exact ⟨s, by omega, by go_num, HZ.out, HR.out.store s 0 (fun j _ => cnt_step c (by omega) j), grown_set (grown_set HG.out.2 _ _) _ _⟩
        case measure => simp [intOf]
    | zero =>
      have hi' : u5 = .int .i64 (-1) := by rw [hi]; rfl
      clear hi
      subst hi'
      go_wp2
      go_ret
      exact ⟨HG.out.2, Or.inr ⟨rfl, H9.out, HG.out.1.congr (fun k hk => by unfold cnt; rw [if_pos (by omega)]; rfl)⟩⟩

end Go.Proofs.Ytlljaliemldjkaa

/- The reference's polynomials: parts (Factors). -/
namespace Go.Proofs.Ytlljaliemldjkaa
open Go.RowKit Go.Sort

end Go.Proofs.Ytlljaliemldjkaa

/- Plain mathematics of polynomials, gone on: Euclid's lemma; parting is unique. No Go text here. -/
namespace Go.Proofs.Ytlljaliemldjkaa

end Go.Proofs.Ytlljaliemldjkaa
