/- Texts of ours, one behind the other: W4 U3 U4 U5 U6 U7 U8 U9 U10 U11 U12 U13 U14 U15 U16 U17 V1 V2 V3 W5 V4 V5. -/
import Derived.StillTail
import Derived.Deep.QuietTactic
import Derived.BigQuiet
import Derived.WalkKit
import Derived.Test.YtbnkekeeceicaaaZR5
import Derived.Laws.CopyOwn
import Derived.Laws.AppendOwnNone
import Derived.Lib.SliceRun
import Derived.Lib.QuietBelow
/- A region that draws its order: calls and reads that leave the world alone but for draws, and behind all of them, one after the other, what writes. One walk serves every order. No Go text here. -/
namespace Go.Proofs.Ytbnkekeeceicaaa
open Go

/-- Every order of the first n operations, each quiet in the class C; then L. -/
def HeadAll (P : Program) (ops : Array Oper) (C : World → Prop) (n : Nat) (L : Array Bool → Act → Prop) : Nat → Array Bool → Act → Prop
  | 0, s, a => L s a
  | f + 1, s, a => Region.ready .any ops s ≠ [] ∧ ∀ i, i ∈ Region.ready .any ops s → i < n ∧ qOp P ops C i (HeadAll P ops C n L f (s.setIfInBounds i true)) a

theorem head_any {P : Program} {ops : Array Oper} {C : World → Prop} {n g : Nat} {L : Array Bool → Act → Prop} {Q : Exit → Act → World → Prop} (hL : ∀ s a w, C w → L s a → wpAny P .any ops Q g s a w) :
    ∀ (f : Nat) (s : Array Bool) (a : Act) (w : World), C w → HeadAll P ops C n L f s a → wpAny P .any ops Q (f + g) s a w := by
  intro f
  induction f with
  | zero => intro s a w hw h; rw [Nat.zero_add]; exact hL s a w hw h
  | succ f ih =>
    intro s a w hw h
    rw [show f + 1 + g = f + g + 1 from by omega]
    exact ⟨fun e => absurd e h.1, fun i hi => wpOp_of_qOp hw (fun a' w' hw' h' => ih _ a' w' hw' h') (h.2 i hi).2⟩

/-- What is ready may be taken first, if all others that don't wait for it are apart from it. -/
theorem head_first {P : Program} {ops : Array Oper} {C : World → Prop} {n i : Nat} {oi : Oper} {v : Value} {L : Array Bool → Act → Prop} (hi : ops[i]? = some oi)
    (hsel : ∀ (j : Nat) (o : Oper) cs b, ops[j]? = some o → o.op ≠ .select cs b) (hs : Region.sinkB .any ops n = true) (hc : Region.chainB .any ops n = true) (hn : n < ops.size) (hin : i < n)
    (hdone : ∀ s a, L s a → ∀ j, j ∈ Region.ready .any ops s → n ≤ j) :
    ∀ (f : Nat) (s : Array Bool) (a : Act), HeadInv .any ops n s →
      (∀ j oj, ops[j]? = some oj → j ≠ i → s.getD j true = false → (∀ e ∈ oj.after, Region.binds .any e = true → e.on ≠ i) → oi.apart ops oj = true) →
      i ∈ Region.ready .any ops s → YieldsIn P ops C oi v a → HeadAll P ops C n L f (s.setIfInBounds i true) (a.put oi.dst v) → HeadAll P ops C n L (f + 1) s a := by
  intro f
  induction f with
  | zero =>
    intro s a inv _ hr hy H
    refine ⟨fun e => (by rw [e] at hr; cases hr), fun j hj => ?_⟩
    have hjn : j < n := Nat.lt_of_not_le fun h => tail_waits hs hc hn inv _ i rfl hin (mem_ready.1 hr).1 j h hj
    by_cases e : j = i
    · exact ⟨hjn, by subst e; exact hy.qOp hi H⟩
    · exact absurd (hdone _ _ H j (ready_mono hj e)) (by omega)
  | succ f ih =>
    intro s a inv hfree hr hy H
    refine ⟨fun e => (by rw [e] at hr; cases hr), fun j hj => ?_⟩
    have hun := (mem_ready.1 hr).1
    have hjn : j < n := Nat.lt_of_not_le fun h => tail_waits hs hc hn inv _ i rfl hin hun j h hj
    by_cases e : j = i
    · exact ⟨hjn, by subst e; exact hy.qOp hi H⟩
    · obtain ⟨hju, oj, hoj, hall⟩ := mem_ready.1 hj
      have hno : ∀ d ∈ oj.after, Region.binds .any d = true → d.on ≠ i := fun d hd hb heq => by
        have t := hall d hd hb
        rw [heq, getD_both hun] at t
        cases t
      have h2 := qOp_put hoj (hfree j oj hoj e hju hno) (fun cs b => hsel i oi cs b hi) (fun cs b => hsel j oj cs b hoj) hy (H.2 j (ready_mono hj e)).2
      refine ⟨hjn, qOp_mono (fun a' h3 => ?_) h2⟩
      refine ih (s.setIfInBounds j true) a' (inv.set hj hjn) (fun k ok hk hki hun hno => hfree k ok hk hki ?_ hno) (ready_mono hr (fun x => e x.symm)) h3.1 ?_
      · by_cases hjk : j = k
        · subst hjk; exact hju
        · rw [getD_set_ne true hjk] at hun; exact hun
      · rw [Array.setIfInBounds_comm _ _ e]; exact h3.2

theorem head_lex {P : Program} {ops : Array Oper} {C : World → Prop} {n g : Nat} {K : Act → Prop} (hsel : Region.noSelect ops = true) (hs : Region.sinkB .any ops n = true) (hc : Region.chainB .any ops n = true) (hn : n < ops.size) :
    ∀ (l : List Oper) (k : Nat) (s : Array Bool) (a : Act), (∀ j, j < l.length → l[j]? = ops[k + j]?) → k + l.length = n → HeadInv .any ops n s →
      Region.lexHead .any ops g l.length k s = true → wpQuiet P ops C K l a → HeadAll P ops C n (fun s' a' => Region.seqB .any ops g n s' = true ∧ K a') l.length s a := by
  intro l
  induction l with
  | nil =>
    intro k s a _ hk _ hB h
    have e : k = n := by simpa using hk
    subst e
    exact ⟨by simpa [Region.lexHead] using hB, h⟩
  | cons o l ih =>
    intro k s a hl hk inv hB h
    have h0 : ops[k]? = some o := by simpa using (hl 0 (by simp)).symm
    simp only [List.length_cons, Region.lexHead, Bool.and_eq_true] at hB
    obtain ⟨⟨hr, hf⟩, hB'⟩ := hB
    simp only [List.length_cons] at hk
    have hr' : k ∈ Region.ready .any ops s := by simpa using hr
    have hq : qOp P ops C k (wpQuiet P ops C K l) a := by unfold qOp; simp only [h0]; exact h
    obtain ⟨v, hy, hK⟩ := yieldsIn_of_qOp h0 hq
    refine head_first h0 (Region.noSelect_spec hsel) hs hc hn (by omega) (fun s' a' hL => seqB_ready hL.1) l.length s a inv (Region.free_spec h0 hf) hr' hy ?_
    exact ih (k + 1) _ _ (fun j hj => by have := hl (j + 1) (by simp; omega); simpa [Nat.add_assoc, Nat.add_comm 1 j] using this) (by omega) (inv.set hr' (by omega)) hB' hK

/-- The first n operations by one walk, all quiet; the others behind them, in order. -/
theorem quiet_tail {P : Program} {id : Nat} {Q : Exit → Act → World → Prop} {a : Act} {w : World} {l : List Oper} (n : Nat) (hm : P.follows .mixedOrders = true) (hB : Region.lexTailB .any l.toArray n = true)
    (h : wpQuiet P l.toArray (fun w' => ∃ k, w' = w.drewN k) (fun a' => ∀ w', (∃ k, w' = w.drewN k) → wpList P l.toArray Q (l.drop n) a' w') (l.take n) a) : (Code.region id l.toArray true).wp P Q a w := by
  simp only [Region.lexTailB, Bool.and_eq_true, decide_eq_true_eq] at hB
  obtain ⟨⟨⟨⟨hsel, hn⟩, hs⟩, hc⟩, hlex⟩ := hB
  have hn' : n < l.length := by simpa using hn
  have htl : (l.take n).length = n := by simp; omega
  have hdl : (l.drop n).length = l.toArray.size - n := by simp
  have inv0 : HeadInv .any l.toArray n (Array.replicate l.toArray.size false) :=
    ⟨by simp, fun j oj _ hl => (by rw [getD_replicate_false] at hl; cases hl), fun t _ ht => getD_in (by simpa using ht) (getD_replicate_false _ _)⟩
  have H := head_lex (g := l.toArray.size - n) hsel hs hc hn (l.take n) 0 _ a (fun j hj => by
    have hj' : j < n := by rw [htl] at hj; exact hj
    simp [hj']) (by simpa using htl) inv0 (by rw [htl]; exact hlex) h
  refine wp_region_any hm ?_
  have R := head_any (Q := Q) (g := l.toArray.size - n) (fun s a' w' hw' hL => by
    have := wpAny_of_seq (md := .any) (Q' := Q) (l.drop n) n s a' w' (fun j => by simp [List.getElem?_drop]) (by rw [hdl]; exact hL.1) (hL.2 w' hw')
    rwa [hdl] at this) _ _ _ _ (show ∃ k, { w with drawn := w.drawn + 1 } = w.drewN k from ⟨1, rfl⟩) H
  rw [htl, show n + (l.toArray.size - n) = l.toArray.size by omega] at R
  exact R
end Go.Proofs.Ytbnkekeeceicaaa

/- The program's polynomials: products. -/
namespace Go.Proofs.Ytbnkekeeceicaaa
open Go.RowKit

end Go.Proofs.Ytbnkekeeceicaaa

/- Lists that are copied: append(.., l...), copy, Clone, Copy; the program's sums of polynomials. -/
namespace Go.Proofs.Ytbnkekeeceicaaa
open Go.RowKit

/-- The n coefficients c as cells. -/
def celL (n : Nat) (c : Nat → Nat) : List Value := (List.range n).map fun k => .int .i64 (c k : Nat)
theorem celL_len (n : Nat) (c : Nat → Nat) : (celL n c).length = n := by simp [celL]
theorem celL_get (n : Nat) (c : Nat → Nat) (j : Nat) (hj : j < n) : (celL n c)[j]? = some (.int .i64 (c j : Nat)) := by
  unfold celL
  rw [List.getElem?_map, List.getElem?_range hj]; rfl
theorem celL_one (n : Nat) (c : Nat → Nat) : ∀ u ∈ celL n c, u.oneCell' = true := by
  intro u hu
  unfold celL at hu
  obtain ⟨k, _, rfl⟩ := List.mem_map.1 hu
  rfl
theorem add_off (b off j : Nat) : (Addr.mk b off none).add j = ⟨b, off + j, none⟩ := by simp [Addr.add]

/-- 'copy(out, l)', out a row of the call's own, at least as long as l. -/
theorem copy_int {ops : Array Oper} {rest : List Oper} {o : Oper} {a : Act} {w : World} {Q : Exit → Act → World → Prop} (hgd : o.guard = none) (d s : Operand)
    (ho : o.op = .call { callee := .builtin .copy, args := #[d, s], argTypes := #[22, 22] }) (g N dc n sc : Nat) (ao : Option Addr)
    (hd : a.eval d = .slice (some ⟨g, 0, none⟩) N dc) (hs : a.eval s = .slice ao n sc) (c x : Nat → Nat) (hrow : Row g N c w) (hS : Sl ao n x w) (hn : n ≤ N)
    (B : Nat) (w0 : World) (hb : Below B w0 w) (hBg : B ≤ g)
    (h : ∀ w', Row g N (fun k => if k < n then x k else c k) w' → Below B w0 w' → wpList Try.prog ops Q rest (a.put o.dst (goInt n)) w') : wpList Try.prog ops Q (o :: rest) a w := by
  obtain ⟨cap, f, hf, hN, he⟩ := hrow
  obtain ⟨cs, h1, h2, h3⟩ := hf
  obtain ⟨i0, hi, hz0, hz1, hz2⟩ := info_parts Try.infoInt
  have hh : w.heap[g]? = some (.cells cs.toList.toArray 3 (0, 0)) := by simpa using h1
  refine wpList_copy_splice hgd d s 22 22 ho 3 Try.underlying22 (by rw [hi]; simp [hz1]) _ _ N dc n sc hd hs g 0 cs.toList 3 hh (celL n x) (by rw [celL_len]; exact (Nat.min_eq_left hn).symm) ?_ (by rw [celL_len]; simp; omega) (celL_one n x) B w0 hb hBg ?_
  · intro h0
    rw [celL_len] at h0
    obtain ⟨b, off, rfl, _⟩ := hS 0 h0
    refine ⟨rfl, _, rfl, fun j v hj => ?_⟩
    have hj' : j < n := by
      have := (List.getElem?_eq_some_iff.1 hj).1
      rwa [celL_len] at this
    rw [celL_get n x j hj'] at hj
    cases hj
    obtain ⟨b', off', e, hc⟩ := hS j hj'
    cases e
    rw [add_off]; exact hc
  · intro w' hg' hb'
    rw [celL_len]
    refine h w' ?_ hb'
    have hlen : (splice cs.toList 0 (celL n x)).length = cap := by rw [length_splice _ _ _ (by rw [celL_len]; simp; omega)]; simpa using h2
    refine ⟨cap, fun k => if k < n then .int .i64 (x k : Nat) else f k, ⟨(splice cs.toList 0 (celL n x)).toArray, hg'.out, by simpa using hlen, fun k hk => ?_⟩, hN, fun k hk => ?_⟩
    · show _ = some (if k < n then _ else f k)
      unfold splice
      rw [List.getElem?_toArray, List.take_zero, List.nil_append, celL_len, Nat.zero_add]
      by_cases e : k < n
      · rw [List.getElem?_append_left (by rw [celL_len]; exact e), celL_get n x k e, if_pos e]
      · rw [List.getElem?_append_right (by rw [celL_len]; omega), celL_len, List.getElem?_drop, show n + (k - n) = k from by omega, Array.getElem?_toList, h3 k hk, if_neg e]
    · show (if k < n then _ else f k) = .int .i64 ((if k < n then x k else c k : Nat) : Int)
      by_cases e : k < n
      · rw [if_pos e, if_pos e]
      · rw [if_neg e, if_neg e]; exact he k hk

end Go.Proofs.Ytbnkekeeceicaaa

/- Clone, Copy; the program's sums of polynomials. -/
namespace Go.Proofs.Ytbnkekeeceicaaa
open Go.RowKit

end Go.Proofs.Ytbnkekeeceicaaa

/- The program's sums of polynomials. -/
namespace Go.Proofs.Ytbnkekeeceicaaa
open Go.RowKit

end Go.Proofs.Ytbnkekeeceicaaa

/- The program's division of polynomials. -/
namespace Go.Proofs.Ytbnkekeeceicaaa
open Go.RowKit

theorem inv_nat' {F T : Nat} {D : FD} (hD : D ∈ fieldsL) {g : Nat → Value} {w : World} (h : FAt F T D g w) {x : Nat} (hx : x < D.q) (h0 : x ≠ 0) :
    Calls Try.prog 79 #[.pointer (some ⟨F, 0, none⟩), .int .i64 x] w fun e w' => e = .returned (.int .i64 (D.iv x : Nat)) ∧ ∃ n, w' = w.drewN n := by
  have k := inv_any hD h x
  rw [inv_nat hD hx h0] at k
  exact k
theorem OwnP.store {base n cap g : Nat} {c d : Nat → Nat} {w : World} (h : OwnP base (.slice (some ⟨g, 0, none⟩) n cap) n c w) (k u : Nat) (h0 : 0 < n) (hd : ∀ j, j < n → d j = if j = k then u else c j) :
    OwnP base (.slice (some ⟨g, 0, none⟩) n cap) n d (w.setCell ⟨g, k, none⟩ (.int .i64 (u : Nat))) := by
  obtain ⟨ao, cap', hv, h1, h2, hg, hl, hz, hr⟩ := h
  simp only [Value.slice.injEq, true_and] at hv
  obtain ⟨rfl, rfl⟩ := hv
  obtain ⟨g', e, hrow⟩ := hr h0
  cases e
  exact ⟨_, cap, rfl, h1, h2, hg, fun x hx => by simpa [World.setCell] using hl x hx, fun e => (by cases e), fun _ => ⟨g, rfl, hrow.store k u hd⟩⟩

theorem OwnP.row {base n cap : Nat} {ao : Option Addr} {c : Nat → Nat} {w : World} (h : OwnP base (.slice ao n cap) n c w) (h0 : 0 < n) : ∃ g, ao = some ⟨g, 0, none⟩ ∧ base ≤ g ∧ g < w.heap.size ∧ Row g n c w := by
  obtain ⟨ao', cap', hv, h1, h2, hg, hl, hz, hr⟩ := h
  simp only [Value.slice.injEq, true_and] at hv
  obtain ⟨rfl, rfl⟩ := hv
  obtain ⟨g, rfl, hrow⟩ := hr h0
  exact ⟨g, rfl, hg _ rfl, hl _ rfl, hrow⟩

end Go.Proofs.Ytbnkekeeceicaaa

/- The program's division of polynomials: the walk. -/
namespace Go.Proofs.Ytbnkekeeceicaaa
open Go.RowKit

end Go.Proofs.Ytbnkekeeceicaaa

/- The program's polynomials: which may be (Check), and over which field (over). -/
namespace Go.Proofs.Ytbnkekeeceicaaa
open Go.RowKit

/-- The first n numbers of the slice that begins at ao are z. -/
def SlZ (ao : Option Addr) (n : Nat) (z : Nat → Int) (w : World) : Prop := ∀ j, j < n → ∃ b off, ao = some ⟨b, off, none⟩ ∧ w.cell? ⟨b, off + j, none⟩ = some (.int .i64 (z j))
theorem SlZ.below {ao : Option Addr} {n B : Nat} {z : Nat → Int} {w w' : World} (h : SlZ ao n z w) (hb : Below B w w') (hB : LtB ao B) : SlZ ao n z w' := fun j hj => by
  obtain ⟨b, off, rfl, hc⟩ := h j hj
  exact ⟨b, off, rfl, ((bcell hb).1 b (off + j) (hB _ rfl)).trans hc⟩
/-- How many of the first numbers are elements, one after the other. -/
def FD.allHas (D : FD) (z : Nat → Int) : Nat → Bool
  | 0 => true
  | n + 1 => D.allHas z n && D.has (z n)
theorem allHas_iff {D : FD} {z : Nat → Int} : ∀ {n : Nat}, D.allHas z n = true ↔ ∀ j, j < n → D.has (z j) = true
  | 0 => ⟨fun _ j hj => by omega, fun _ => rfl⟩
  | n + 1 => by
    rw [FD.allHas, Bool.and_eq_true, allHas_iff]
    constructor
    · rintro ⟨h1, h2⟩ j hj
      by_cases e : j = n
      · rw [e]; exact h2
      · exact h1 j (by omega)
    · intro h
      exact ⟨fun j hj => h j (by omega), h n (by omega)⟩
/-- What Check says of n numbers. -/
def FD.chk (D : FD) (n : Nat) (z : Nat → Int) : Int := if 128 < n then 4 else if D.allHas z n = true then 0 else 2

end Go.Proofs.Ytbnkekeeceicaaa

/- The program's polynomials: the calls that are listed: Add. -/
namespace Go.Proofs.Ytbnkekeeceicaaa
open Go.RowKit

/-- A list that is handed in: where it lies, how long it is, its numbers. -/
structure Arg (ao : Option Addr) (n cap : Nat) (z : Nat → Int) (w : World) : Prop where
  sl : SlZ ao n z w
  lt : LtB ao w.heap.size
  few : n ≤ 1000000
  nil : ao = none → cap = 0
  le : n ≤ cap
  cap : cap ≤ 9223372036854775807
theorem Arg.below {ao : Option Addr} {n cap : Nat} {z : Nat → Int} {w w' : World} (h : Arg ao n cap z w) (hb : Below w.heap.size w w') : Arg ao n cap z w' :=
  ⟨h.sl.below hb h.lt, h.lt.mono hb.size, h.few, h.nil, h.le, h.cap⟩

def two {α : Type} (x y : α) : Nat → α := fun j => if j = 0 then x else y
/-- The coefficients of n numbers that are elements. -/
def zc (n : Nat) (z : Nat → Int) : Nat → Nat := fun j => if j < n then (z j).toNat else 0
theorem zc_bd (n : Nat) (z : Nat → Int) : Bd n (zc n z) := fun k hk => by unfold zc; rw [if_neg (by omega)]
theorem chk_zero {D : FD} {n : Nat} {z : Nat → Int} (h : D.chk n z = 0) : n ≤ 128 ∧ ∀ j, j < n → D.has (z j) = true := by
  unfold FD.chk at h
  by_cases h1 : 128 < n
  · rw [if_pos h1] at h; cases h
  · rw [if_neg h1] at h
    by_cases h2 : D.allHas z n = true
    · exact ⟨by omega, allHas_iff.1 h2⟩
    · rw [if_neg h2] at h; cases h
theorem zc_el {D : FD} (F : Fld D) {n : Nat} {z : Nat → Int} (h : D.chk n z = 0) : El D (zc n z) := fun j => by
  unfold zc
  by_cases e : j < n
  · obtain ⟨x, hx, hxq⟩ := has_nat ((chk_zero h).2 j e)
    rw [if_pos e, hx, Int.toNat_natCast]; exact hxq
  · rw [if_neg e]; exact zero_lt' F
theorem zc_sl {D : FD} {ao : Option Addr} {n : Nat} {z : Nat → Int} {w : World} (h : D.chk n z = 0) (hS : SlZ ao n z w) : Sl ao n (zc n z) w := fun j hj => by
  obtain ⟨b, off, e, hc⟩ := hS j hj
  obtain ⟨x, hx, hxq⟩ := has_nat ((chk_zero h).2 j hj)
  refine ⟨b, off, e, ?_⟩
  rw [hc]
  unfold zc
  rw [if_pos hj, hx, Int.toNat_natCast]
end Go.Proofs.Ytbnkekeeceicaaa

/- The program's polynomials: the calls that are listed: Mul, Div, At. -/
namespace Go.Proofs.Ytbnkekeeceicaaa
open Go.RowKit

end Go.Proofs.Ytbnkekeeceicaaa

/- The program's polynomials: the calls that are listed: Div, At. -/
namespace Go.Proofs.Ytbnkekeeceicaaa
open Go.RowKit

end Go.Proofs.Ytbnkekeeceicaaa

/- The program's polynomials: the calls that are listed: At, Roots. -/
namespace Go.Proofs.Ytbnkekeeceicaaa
open Go.RowKit

end Go.Proofs.Ytbnkekeeceicaaa

/- The program's polynomials: the calls that are listed: Roots. -/
namespace Go.Proofs.Ytbnkekeeceicaaa
open Go.RowKit

end Go.Proofs.Ytbnkekeeceicaaa

/- The program's polynomials: with 1 at the end (monic); the calls that are listed: Gcd. -/
namespace Go.Proofs.Ytbnkekeeceicaaa
open Go.RowKit

end Go.Proofs.Ytbnkekeeceicaaa

/- How many there are to try (tooMany, Tries). -/
namespace Go.Proofs.Ytbnkekeeceicaaa
open Go.RowKit

end Go.Proofs.Ytbnkekeeceicaaa

/- Does an element stand twice in a list (hasTwice)? -/
namespace Go.Proofs.Ytbnkekeeceicaaa
open Go.RowKit

end Go.Proofs.Ytbnkekeeceicaaa

/- The reference's polynomials: without noughts at the end (Trim); which may be (PolyMay). -/
namespace Go.Proofs.Ytbnkekeeceicaaa
open Go.RowKit

end Go.Proofs.Ytbnkekeeceicaaa

/- The reference's polynomials: which may be (PolyMay). -/
namespace Go.Proofs.Ytbnkekeeceicaaa
open Go.RowKit

end Go.Proofs.Ytbnkekeeceicaaa

/- The reference's polynomials: sums (PAdd). -/
namespace Go.Proofs.Ytbnkekeeceicaaa
open Go.RowKit

end Go.Proofs.Ytbnkekeeceicaaa

/- The same where the calls lay blocks: the worlds in which nothing that was there has turned. No Go text here. -/
namespace Go.Proofs.Ytbnkekeeceicaaa
open Go Go.Sort Go.RowKit

end Go.Proofs.Ytbnkekeeceicaaa

/- The reference's polynomials: products (PMul). -/
namespace Go.Proofs.Ytbnkekeeceicaaa
open Go.RowKit Go.Sort

end Go.Proofs.Ytbnkekeeceicaaa

/- The reference's polynomials: values of a polynomial that came in (value, PAt). -/
namespace Go.Proofs.Ytbnkekeeceicaaa
open Go.RowKit

end Go.Proofs.Ytbnkekeeceicaaa
