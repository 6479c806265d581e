/- Texts of ours, one behind the other: W13 KD2 KD3 KD4 KD5 S29 KF1 KF2 W14 W15 KM1 KM2. -/
import Derived.Test.YtbofcldmgjeklaaZQ2
import Derived.Test.YtbofcldmgjeklaaZI23
import Derived.Test.YtbofcldmgjeklaaZS9
import Derived.Test.YtbofcldmgjeklaaZV7
import Derived.Test.YtbofcldmgjeklaaZO2
import Derived.Test.YtbofcldmgjeklaaZU22
import Derived.Test.YtbofcldmgjeklaaZL10
import Derived.RangeFuncNested
import Derived.RangeFuncBound
import Derived.RangeFuncCalls
import Derived.RangeFuncLeaves
import Derived.WalkKit
import Derived.Test.YtbofcldmgjeklaaZU2
import Derived.OrdersIn
import Derived.Test.YtbofcldmgjeklaaZL1
import Derived.Test.YtbofcldmgjeklaaZM3
import Derived.Test.YtbofcldmgjeklaaZR9
import Derived.Test.YtbofcldmgjeklaaZT1
/- A region that draws its order and whose late operations, which wait for all that read, write what others read. No Go text here. -/
namespace Go.Proofs.Ytbofcldmgjeklaa
open Go

/-- Whatever order is picked from here on; S holds behind every operation but the late ones. -/
def wpAnyL (P : Program) (ops : Array Oper) (Q : Exit → Act → World → Prop) (S : World → Prop) (L : List Nat) : Nat → Array Bool → Act → World → Prop
  | 0, s, a, w => Region.ready .any ops s = [] ∧ Q .normal a w
  | f + 1, s, a, w => (Region.ready .any ops s = [] → Q .normal a w) ∧ ∀ i ∈ Region.ready .any ops s, wpOp P ops Q i (fun a' w' => (i ∉ L → S w') ∧ wpAnyL P ops Q S L f (s.setIfInBounds i true) a' w') a w
theorem wpAny_of_L {P : Program} {ops : Array Oper} {Q : Exit → Act → World → Prop} {S : World → Prop} {L : List Nat} : ∀ (f : Nat) (s : Array Bool) (a : Act) (w : World), wpAnyL P ops Q S L f s a w → wpAny P .any ops Q f s a w
  | 0, _, _, _, h => h
  | f + 1, _, _, _, h => ⟨h.1, fun i hi => wpOp_mono (fun a' w' h' => wpAny_of_L f _ a' w' h'.2) (h.2 i hi)⟩
theorem done_at {s : Array Bool} {k : Nat} (h : s.getD k false = true) : s[k]? = some true := by
  rcases Nat.lt_or_ge k s.size with h1 | h1
  · rw [Array.getElem?_eq_getElem h1]
    simp [h1] at h
    rw [h]
  · simp [Array.getElem?_eq_none h1] at h
/-- Is all done that what is done has waited for? -/
def Closed (ops : Array Oper) (s : Array Bool) : Prop := ∀ m o, ops[m]? = some o → s.getD m true = true → ∀ e ∈ o.after, Region.binds .any e = true → s[e.on]? = some true
def closedB (ops : Array Oper) (s : Array Bool) : Bool := (List.range ops.size).all fun m => !(s.getD m true) || ((ops[m]?).map fun o => o.after.all fun e => !(Region.binds .any e) || (s[e.on]? == some true)).getD true
theorem closed_of {ops : Array Oper} {s : Array Bool} (h : closedB ops s = true) : Closed ops s := by
  intro m o ho hm e he hb
  have hlt : m < ops.size := by
    rcases Nat.lt_or_ge m ops.size with h1 | h1
    · exact h1
    · rw [Array.getElem?_eq_none h1] at ho; cases ho
  have h1 := List.all_eq_true.1 h m (List.mem_range.2 hlt)
  rw [hm, ho] at h1
  have h2 : (o.after.all fun e => !(Region.binds .any e) || (s[e.on]? == some true)) = true := by simpa using h1
  have h3 := Array.all_eq_true'.1 h2 e he
  rw [hb] at h3
  simpa using h3
theorem closed_step {ops : Array Oper} {s : Array Bool} (h : Closed ops s) {j : Nat} (hj : j ∈ Region.ready .any ops s) : Closed ops (s.setIfInBounds j true) := by
  intro m o ho hm e he hb
  obtain ⟨hjun, oj, hoj, hall⟩ := mem_ready.1 hj
  have key : s[e.on]? = some true := by
    by_cases e1 : j = m
    · subst e1
      rw [ho] at hoj
      cases hoj
      exact done_at (hall e he hb)
    · rw [getD_set_ne true e1] at hm
      exact h m o ho hm e he hb
  rw [Array.getElem?_setIfInBounds]
  split
  · rename_i e2
    split
    · rfl
    · rename_i h2
      rw [← e2] at key
      rw [Array.getElem?_eq_none (by omega)] at key; cases key
  · exact key
/-- Does number j wait for number i, or for one that does? -/
def waitsT (ops : Array Oper) : Nat → Nat → Nat → Bool
  | 0, j, i => waitsB ops j i
  | n + 1, j, i => waitsB ops j i || (List.range ops.size).any fun m => waitsB ops j m && waitsT ops n m i
theorem waits_done {ops : Array Oper} {s : Array Bool} {j i : Nat} {o : Oper} (ho : ops[j]? = some o) (hall : ∀ e ∈ o.after, Region.binds .any e = true → s[e.on]? = some true) (h : waitsB ops j i = true) : s[i]? = some true := by
  unfold waitsB at h
  rw [ho] at h
  obtain ⟨e, he, hb⟩ := Array.any_eq_true'.1 (show (o.after.any fun e => Region.binds .any e && e.on == i) = true from h)
  rw [Bool.and_eq_true, beq_iff_eq] at hb
  rw [← hb.2]
  exact hall e he hb.1
theorem waitsT_done {ops : Array Oper} {s : Array Bool} (hc : Closed ops s) {i : Nat} : ∀ (n j : Nat) (o : Oper), ops[j]? = some o → (∀ e ∈ o.after, Region.binds .any e = true → s[e.on]? = some true) → waitsT ops n j i = true → s[i]? = some true
  | 0, j, o, ho, hall, h => waits_done ho hall h
  | n + 1, j, o, ho, hall, h => by
    have h : (waitsB ops j i || (List.range ops.size).any fun m => waitsB ops j m && waitsT ops n m i) = true := h
    rw [Bool.or_eq_true] at h
    rcases h with h | h
    · exact waits_done ho hall h
    · obtain ⟨m, hm, hw⟩ := List.any_eq_true.1 h
      rw [Bool.and_eq_true] at hw
      have hd := waits_done ho hall hw.1
      have hlt := List.mem_range.1 hm
      obtain ⟨om, hom⟩ : ∃ om, ops[m]? = some om := ⟨ops[m], Array.getElem?_eq_getElem hlt⟩
      refine waitsT_done hc n m om hom (hc m om hom ?_) hw.2
      simp [Array.getD_eq_getD_getElem?, hd]
/-- Do all late ones wait for number i? -/
def lateB (ops : Array Oper) (L : List Nat) (i : Nat) : Bool := L.all fun j => waitsT ops 3 j i
theorem late_not {ops : Array Oper} {L : List Nat} {i j : Nat} {s : Array Bool} (hc : Closed ops s) (h : lateB ops L i = true) (hi : s.getD i true = false) (hj : j ∈ Region.ready .any ops s) : j ∉ L := by
  intro hL
  obtain ⟨_, o, ho, hall⟩ := mem_ready.1 hj
  have h1 := waitsT_done hc 3 j o ho (fun e he hb => done_at (hall e he hb)) (List.all_eq_true.1 h j hL)
  simp [Array.getD_eq_getD_getElem?, h1] at hi
theorem wpAnyL_first {P : Program} {ops : Array Oper} {Q : Exit → Act → World → Prop} {S : World → Prop} {L : List Nat} {i : Nat} {oi : Oper} {v : Value} (hi : ops[i]? = some oi) (hsel : ∀ (j : Nat) (o : Oper) cs b, ops[j]? = some o → o.op ≠ .select cs b)
    (hQ : ∀ c a w, Q (.panic c) (a.put oi.dst v) w → Q (.panic c) a w) (hL : lateB ops L i = true) :
    ∀ (f : Nat) (s : Array Bool) (a : Act) (w : World),
      (∀ j oj, ops[j]? = some oj → j ≠ i → s.getD j true = false → (∀ e ∈ oj.after, Region.binds .any e = true → e.on ≠ i) → oi.apart ops oj = true) →
      i ∈ Region.ready .any ops s → Closed ops s → YieldsIf P ops S oi v a → S w →
      wpAnyL P ops Q S L f (s.setIfInBounds i true) (a.put oi.dst v) w → wpAnyL P ops Q S L (f + 1) s a w := by
  intro f
  induction f with
  | zero =>
    intro s a w _ hr _ hy hS H
    refine ⟨fun h => (by rw [h] at hr; cases hr), fun j hj => ?_⟩
    by_cases hji : j = i
    · subst hji; exact hy.wpOp hi hS ⟨fun _ => hS, H⟩
    · have := ready_mono hj hji
      rw [H.1] at this
      cases this
  | succ f ih =>
    intro s a w hfree hr hcl hy hS H
    refine ⟨fun h => (by rw [h] at hr; cases hr), fun j hj => ?_⟩
    by_cases hji : j = i
    · subst hji; exact hy.wpOp hi hS ⟨fun _ => hS, H⟩
    · have h1 := H.2 j (ready_mono hj hji)
      have hjL : j ∉ L := late_not hcl hL (mem_ready.1 hr).1 hj
      obtain ⟨hjun, oj, hoj, hall⟩ := mem_ready.1 hj
      have hnot : ∀ e ∈ oj.after, Region.binds .any e = true → e.on ≠ i := fun e he hb heq => by
        have h1 := hall e he hb
        have h0 := (mem_ready.1 hr).1
        rw [heq] at h1
        rcases Nat.lt_or_ge i s.size with h' | h'
        · simp [h'] at h0 h1; rw [h0] at h1; cases h1
        · simp [Array.getElem?_eq_none h'] at h1
      have h2 := wpOp_putIf hoj (hfree j oj hoj hji hjun hnot) (fun cs b => hsel i oi cs b hi) (fun cs b => hsel j oj cs b hoj) hQ hy h1
      have hfree' : ∀ k ok, ops[k]? = some ok → k ≠ i → (s.setIfInBounds j true).getD k true = false →
          (∀ e ∈ ok.after, Region.binds .any e = true → e.on ≠ i) → oi.apart ops ok = true := fun k ok hk hki hun hno => by
        refine hfree k ok hk hki ?_ hno
        by_cases hjk : j = k
        · subst hjk; exact hjun
        · rw [getD_set_ne true hjk] at hun; exact hun
      refine wpOp_mono (fun a' w' h3 => ⟨fun _ => h3.2.1 hjL, ih (s.setIfInBounds j true) a' w' hfree' (ready_mono hr (Ne.symm hji)) (closed_step hcl hj) h3.1 (h3.2.1 hjL) ?_⟩) h2
      rw [Array.setIfInBounds_comm _ _ hji]
      exact h3.2.2
/-- Take number i first. -/
theorem wpAnyL_take {P : Program} {ops : Array Oper} {Q : Exit → Act → World → Prop} {S : World → Prop} {L : List Nat} {i : Nat} {oi : Oper} {v : Value} {f : Nat} {s : Array Bool} {a : Act} {w : World} (hi : ops[i]? = some oi)
    (hs : Region.noSelect ops = true) (hf : Region.free .any ops s i = true) (hr : (Region.ready .any ops s).contains i = true) (hcl : closedB ops s = true) (hL : lateB ops L i = true)
    (hQ : ∀ c a w, Q (.panic c) (a.put oi.dst v) w → Q (.panic c) a w) (hS : S w) (hy : YieldsIf P ops S oi v a)
    (h : wpAnyL P ops Q S L f (s.setIfInBounds i true) (a.put oi.dst v) w) : wpAnyL P ops Q S L (f + 1) s a w :=
  wpAnyL_first hi (Region.noSelect_spec hs) hQ hL f s a w (Region.free_spec hi hf) (by simpa using hr) (closed_of hcl) hy hS h
/-- Number i is the only one that may come now. -/
theorem wpAnyL_one {P : Program} {ops : Array Oper} {Q : Exit → Act → World → Prop} {S : World → Prop} {L : List Nat} {i : Nat} {o : Oper} {f : Nat} {s : Array Bool} {a : Act} {w : World} (hr : Region.ready .any ops s = [i]) (ho : ops[i]? = some o)
    (h : ∀ K : Act → World → Prop, (∀ a' w', (i ∉ L → S w') → wpAnyL P ops Q S L f (s.setIfInBounds i true) a' w' → K a' w') → if Region.wanted o (yielded ops a.tmps) = true then Oper.wp P o a w K Q else K (a.put o.dst undef) w) : wpAnyL P ops Q S L (f + 1) s a w := by
  refine ⟨fun e => (by rw [hr] at e; cases e), fun j hj => ?_⟩
  rw [hr, List.mem_singleton] at hj
  subst hj
  have h1 := h (fun a' w' => (j ∉ L → S w') ∧ wpAnyL P ops Q S L f (s.setIfInBounds j true) a' w') (fun a' w' h1 h2 => ⟨h1, h2⟩)
  unfold wpOp
  simp only [ho]
  split
  · rename_i hw
    rw [if_pos hw] at h1
    exact Or.inl h1
  · rename_i hw
    rw [if_neg hw] at h1
    exact h1
theorem wpAnyL_done {P : Program} {ops : Array Oper} {Q : Exit → Act → World → Prop} {S : World → Prop} {L : List Nat} {s : Array Bool} {a : Act} {w : World} (hr : Region.ready .any ops s = []) (h : Q .normal a w) : wpAnyL P ops Q S L 0 s a w := ⟨hr, h⟩
theorem wp_region_L {P : Program} {ops : Array Oper} {Q : Exit → Act → World → Prop} {S : World → Prop} (L : List Nat) {id : Nat} {a : Act} {w : World} (hm : P.follows .mixedOrders = true)
    (h : wpAnyL P ops Q S L ops.size (Array.replicate ops.size false) a w.drew) : (Code.region id ops true).wp P Q a w :=
  wp_region_any hm (wpAny_of_L _ _ _ _ h)
end Go.Proofs.Ytbofcldmgjeklaa

/- The program's reed: hear (printed by make/kd2.py). -/
namespace Go.Proofs.Ytbofcldmgjeklaa
open Go.RowKit Go.Sort

/-- The cells of what was heard. -/
def hbx (F : Nat) (k : Int) (vx vy : Value) : Nat → Value := fun j => if j = 0 then .pointer (some ⟨F, 0, none⟩) else if j = 1 then .int .i64 k else if j = 2 then vx else vy
theorem two_cell (w : World) (v : Value) : (w.alloc (.cells #[v] 3)).cell? ⟨w.heap.size, 0, none⟩ = some v := by simp
end Go.Proofs.Ytbofcldmgjeklaa

/- The program's reed: noughtAt. -/
namespace Go.Proofs.Ytbofcldmgjeklaa
open Go.RowKit Go.Sort

end Go.Proofs.Ytbofcldmgjeklaa

/- The program's reed: byDivisors. -/
namespace Go.Proofs.Ytbofcldmgjeklaa
open Go.RowKit Go.Sort

end Go.Proofs.Ytbofcldmgjeklaa

/- The program's reed: the walk of byDivisors. -/
namespace Go.Proofs.Ytbofcldmgjeklaa
open Go.RowKit Go.Sort

end Go.Proofs.Ytbofcldmgjeklaa

/- Plain mathematics of words that are mended by equations: there is a solution where a near message is, and each solution tells it. No Go text here. -/
namespace Go.Proofs.Ytbofcldmgjeklaa
open Go.RowKit Go.Sort

theorem dt_dot {D : FD} (u v : Nat → Nat) : ∀ n, dt D u v n = dot D u v n
  | 0 => rfl
  | n + 1 => by
    show D.ad (dt D u v n) (D.mul (u n) (v n)) = D.ad (dot D u v n) (D.mul (u n) (v n))
    rw [dt_dot u v n]
end Go.Proofs.Ytbofcldmgjeklaa

/- Nets: which may be (net.Check, checkTo; the reference's NetMay, SinkMay). -/
namespace Go.Proofs.Ytbofcldmgjeklaa
open Go.RowKit Go.Sort

/-- Edges that are handed in. -/
def EdZ (eo : Option Addr) (m : Nat) (F T : Nat → Int) (w : World) : Prop := ∀ j, j < m → ∃ b off, eo = some ⟨b, off, none⟩ ∧ w.cell? ⟨b, off + j * 2, none⟩ = some (.int .i64 (F j)) ∧ w.cell? ⟨b, off + j * 2 + 1, none⟩ = some (.int .i64 (T j))
theorem EdZ.below {eo : Option Addr} {m : Nat} {F T : Nat → Int} {w w' : World} (h : EdZ eo m F T w) (hb : Below w.heap.size w w') : EdZ eo m F T w' := fun j hj => by
  obtain ⟨b, off, e, h0, h1⟩ := h j hj
  exact ⟨b, off, e, ((bcell hb).1 b _ (cell_lt h0)).trans h0, ((bcell hb).1 b _ (cell_lt h0)).trans h1⟩
/-- A net's cells, in block b. -/
structure NB (b : Nat) (n : Int) (v : Value) (w : World) : Prop where
  c0 : w.cell? ⟨b, 0, none⟩ = some (.int .i64 n)
  c1 : w.cell? ⟨b, 1, none⟩ = some v
theorem NB.keep {b : Nat} {n : Int} {v : Value} {w w' : World} (h : NB b n v w) (hb : Below w.heap.size w w') : NB b n v w' :=
  ⟨((bcell hb).1 b 0 (cell_lt h.c0)).trans h.c0, ((bcell hb).1 b 1 (cell_lt h.c0)).trans h.c1⟩

end Go.Proofs.Ytbofcldmgjeklaa

/- Nets: all elements (allOf), products (product), what is sent (Send). -/
namespace Go.Proofs.Ytbofcldmgjeklaa
open Go.RowKit Go.Sort

end Go.Proofs.Ytbofcldmgjeklaa

/- A range over a function whose rounds are handed memory: a law of our own over the library's steps. No Go text here. -/
namespace Go.Proofs.Ytbofcldmgjeklaa
open Go.RowKit

/-- What is not one's own lies as it lay. -/
structure KpO (own : Nat → Prop) (X Y : World) : Prop where
  os : Y.os = X.os
  tape : Y.tape = X.tape
  output : Y.output = X.output
  size : X.heap.size ≤ Y.heap.size
  same : ∀ k, k < X.heap.size → ¬ own k → Y.heap[k]? = X.heap[k]?
/-- Cells, and whatever lies below B, lie as they lay. -/
structure GrC (B : Nat) (X Y : World) : Prop where
  os : Y.os = X.os
  tape : Y.tape = X.tape
  output : Y.output = X.output
  size : X.heap.size ≤ Y.heap.size
  same : ∀ k, k < X.heap.size → (k < B ∨ ∀ o, X.heap[k]? = some o → o.isCells = true) → Y.heap[k]? = X.heap[k]?
theorem GrC.of_below {B : Nat} {X Y : World} (h : Below X.heap.size X Y) : GrC B X Y := ⟨h.os, h.tape, h.output, h.size, fun k hk _ => h.block k hk⟩
theorem GrC.put {B l : Nat} {X : World} {o : Obj} (o' : Obj) (hl : B ≤ l) (h : X.heap[l]? = some o) (hc : o.isCells = false) : GrC B X (X.putObj l o') :=
  ⟨rfl, rfl, rfl, by simp, fun k hk hx => World.putObj_heap_other (fun e => by
    subst e
    rcases hx with hx | hx
    · omega
    · rw [hx o h] at hc; cases hc)⟩
theorem KpO.refl (own : Nat → Prop) (X : World) : KpO own X X := ⟨rfl, rfl, rfl, Nat.le_refl _, fun _ _ _ => rfl⟩
theorem KpO.trans {own : Nat → Prop} {X Y Z : World} (h : KpO own X Y) (k : KpO own Y Z) : KpO own X Z :=
  ⟨k.os.trans h.os, k.tape.trans h.tape, k.output.trans h.output, Nat.le_trans h.size k.size, fun i hi hn => (k.same i (Nat.lt_of_lt_of_le hi h.size) hn).trans (h.same i hi hn)⟩
theorem KpO.mono {own own' : Nat → Prop} {X Y : World} (h : KpO own X Y) (hm : ∀ k, own k → own' k) : KpO own' X Y := ⟨h.os, h.tape, h.output, h.size, fun k hk hn => h.same k hk (fun e => hn (hm k e))⟩
theorem KpO.of_below {own : Nat → Prop} {X Y : World} (h : Below X.heap.size X Y) : KpO own X Y := ⟨h.os, h.tape, h.output, h.size, fun k hk _ => h.block k hk⟩
theorem KpO.put {own : Nat → Prop} (X : World) (l : Nat) (o : Obj) (hl : own l) : KpO own X (X.putObj l o) :=
  ⟨rfl, rfl, rfl, by simp, fun _ _ hn => World.putObj_heap_other (fun e => hn (by rw [e]; exact hl))⟩
theorem KpO.setCell {own : Nat → Prop} (X : World) (a : Addr) (v : Value) (hl : own a.block) : KpO own X (X.setCell a v) :=
  ⟨rfl, rfl, rfl, by simp [World.setCell], fun k _ hn => Below.heap_setCell X a v k (fun e => hn (by rw [e]; exact hl))⟩

/-- An iterator that hands on N things: the r-th one is told by E, in the world in which it is handed on. A round may change what is the loop's own. -/
def SeqI (P : Program) (gf : Nat) (lb : Array Value) (N : Nat) (E : Nat → Array Value → World → Prop) (own : Nat → Prop) (w0 : World) : Prop :=
  ∀ (l : Nat) (J : Nat → World → Prop) (W : World), Below w0.heap.size w0 W → w0.heap.size ≤ l → l < W.heap.size →
    (∀ r X Y, J r X → Below X.heap.size X Y → J r Y) →
    (∀ r args X, r < N → J r X → E r args X → YieldAt Fence.wide 0 P l args X fun e Y => e = .returned (.bool true) ∧ J (r + 1) Y ∧ KpO (fun k => own k ∨ k = l) X Y) →
    J 0 W → CallsIn Fence.wide 0 P gf (#[.func (.yield l) #[] #[]] ++ lb) W fun e W' => (∃ v, e = .returned v) ∧ J N W'

end Go.Proofs.Ytbofcldmgjeklaa

/- A region that draws its order, in a round of a range over a function: what serves elsewhere serves there. No Go text here. -/
namespace Go.Proofs.Ytbofcldmgjeklaa
open Go

/-- No operation is a 'defer' statement. -/
def noDefer (l : List Oper) : Bool := l.all fun o => match o.op with | .defer _ => false | _ => true
theorem noDefer_at {l : List Oper} (h : noDefer l = true) {o : Oper} (ho : o ∈ l) : ∀ c, o.op ≠ .defer c := fun c e => by
  have := List.all_eq_true.1 h o ho
  rw [e] at this
  cases this
theorem oper_round {P : Program} {o : Oper} {a : Act} {w : World} {K : Act → World → Prop} {Q : Exit → Act → World → Prop} {r : Nat} (hd : ∀ c, o.op ≠ .defer c) (h : o.wp P a w K Q) : o.wpIn (Fence.wide.inRound r) 0 P a w K Q := by
  unfold Oper.wp at h
  refine ⟨fun _ _ => trivial, ?_⟩
  show o.uponIn _ _ _ _ _ _ ((o.semAt (some r) a.eval).run P w)
  rw [Oper.semAt_some r a.eval o hd]
  generalize (execOp a.eval o).run P w = res at h ⊢
  cases res with
  | ok x w' =>
    cases x with
    | value v => exact h
    | skip => exact h
    | defer d => exact h
    | enter f args => exact ⟨fun e => (by cases e), CallsIn.inRound r (callsIn_wide.2 h)⟩
    | row row args => exact ⟨fun e => (by cases e), fun c cs _ => let ⟨v, w', r1, s⟩ := h c cs; ⟨v, w', r1, stepsIn_wide.2 s⟩⟩
    | _ => exact h.elim
  | halt x w' => cases x <;> exact h
theorem any_round {P : Program} {ops : Array Oper} {Q : Exit → Act → World → Prop} {r : Nat} (hQ : ¬ LetsOut Q) (hdf : noDefer ops.toList = true) : ∀ (f : Nat) (s : Array Bool) (a : Act) (w : World), wpAny P .any ops Q f s a w → wpAnyIn (Fence.wide.inRound r) 0 P .any ops Q f s a w
  | 0, _, _, _, h => h
  | f + 1, s, a, w, h => ⟨h.1, fun i hi => by
    have h2 := h.2 i hi
    unfold wpOp at h2
    unfold wpOpIn
    cases ho : ops[i]? with
    | none => rw [ho] at h2; exact any_round hQ hdf f _ _ _ h2
    | some o =>
      rw [ho] at h2
      have hm : o ∈ ops.toList := by
        have := Array.mem_of_getElem? ho
        exact Array.mem_toList_iff.2 this
      show if Region.wanted o (yielded ops a.tmps) then _ else _
      replace h2 : if Region.wanted o (yielded ops a.tmps) = true then o.wp P a w _ Q ∨ (o.asks P a w ∧ LetsOut Q) else _ := h2
      by_cases hw : Region.wanted o (yielded ops a.tmps) = true
      · rw [if_pos hw] at h2 ⊢
        rcases h2 with h3 | h3
        · exact Oper.wpIn_mono (fun a' w' h4 => any_round hQ hdf f _ a' w' h4) (oper_round (noDefer_at hdf hm) h3)
        · exact absurd h3.2 hQ
      · rw [if_neg hw] at h2 ⊢
        exact ⟨fun _ _ => trivial, any_round hQ hdf f _ _ _ h2⟩⟩
theorem region_round {P : Program} {ops : Array Oper} {Q : Exit → Act → World → Prop} {r id : Nat} {a : Act} {w : World} (hQ : ¬ LetsOut Q) (hdf : noDefer ops.toList = true) (hm : P.follows .mixedOrders = true)
    (h : wpAny P .any ops Q ops.size (Array.replicate ops.size false) a { w with drawn := w.drawn + 1 }) : (Code.region id ops true).wpIn (Fence.wide.inRound r) 0 P Q a w :=
  wpIn_region_any hm (any_round hQ hdf _ _ _ _ h)
end Go.Proofs.Ytbofcldmgjeklaa

/- A store's plan: PlanMay, New. -/
namespace Go.Proofs.Ytbofcldmgjeklaa
open Go.RowKit Go.Sort

/-- What is wrong with a plan over a field. -/
def FD.plc (D : FD) (n k d : Int) : Int := if n < 2 ∨ 16 < n ∨ (D.q : Int) < n then 4 else if k < 1 ∨ d < k ∨ n ≤ d then 6 else 0

set_option maxHeartbeats 8000000 in
set_option maxRecDepth 100000 in
theorem planMay_any {D : FD} (hD : D ∈ fieldsL) (n k d : Int) (w : World) :
    Calls Try.prog 8 #[.int .i64 D.q, .int .i64 n, .int .i64 k, .int .i64 d] w fun e w' => e = .returned (.int .i64 (D.plc n k d)) ∧ Below w.heap.size w w' := by
  have HD : Hid (D ∈ fieldsL) := hD
  clear hD
  go_enter Try.func8, Try.ntmps8
  go_wp2_with fail
  refine (rfield_sl HD.out w).mono ?_
  rintro x w1 ⟨gm, cm, rfl, _, hb1⟩
  unfold rf
  have HB : Hid (Below w.heap.size w (w1.alloc (.cells #[.int .i64 D.q, .int .i64 D.p, .int .i64 D.m, .int .i64 D.gen, .slice (some ⟨gm, 0, none⟩) (D.m + 1) cm] 31))) := bel_up' hb1 ((Below.refl _ _).alloc (Nat.le_refl _) _)
  clear hb1
  by_cases c0 : n < 2
  · go_wp2
    go_ret
    exact ⟨by unfold FD.plc; rw [if_pos (by omega)]; rfl, HB.out⟩
  · skip
    by_cases c1 : (D.q : Int) < n
    · go_wp2
      go_ret
      exact ⟨by unfold FD.plc; rw [if_pos (by omega)]; rfl, HB.out⟩
    · skip
      by_cases c2 : 16 < n
      · go_wp2
        go_ret
        exact ⟨by unfold FD.plc; rw [if_pos (by omega)]; rfl, HB.out⟩
      · skip
        by_cases c3 : k < 1
        · go_wp2
          go_ret
          exact ⟨by unfold FD.plc; rw [if_neg (by omega), if_pos (by omega)]; rfl, HB.out⟩
        · skip
          by_cases c4 : d < k
          · go_wp2
            go_ret
            exact ⟨by unfold FD.plc; rw [if_neg (by omega), if_pos (by omega)]; rfl, HB.out⟩
          · skip
            by_cases c5 : n ≤ d
            · go_wp2
              go_ret
              exact ⟨by unfold FD.plc; rw [if_neg (by omega), if_pos (by omega)]; rfl, HB.out⟩
            · skip
              go_wp2
              go_ret
              exact ⟨by unfold FD.plc; rw [if_neg (by omega), if_neg (by omega)]; rfl, HB.out⟩

set_option maxHeartbeats 8000000 in
set_option maxRecDepth 100000 in
theorem planMay_none (q n k d : Int) (h : ∀ D ∈ fieldsL, (D.q : Int) ≠ q) (w : World) :
    Calls Try.prog 8 #[.int .i64 q, .int .i64 n, .int .i64 k, .int .i64 d] w fun e w' => e = .returned (.int .i64 1) ∧ Below w.heap.size w w' := by
  have HH : Hid (∀ D ∈ fieldsL, (D.q : Int) ≠ q) := h
  clear h
  go_enter Try.func8, Try.ntmps8
  go_wp2_with fail
  refine (rfield_none q w HH.out).mono ?_
  rintro x w1 ⟨rfl, hb1⟩
  unfold rf0
  go_wp2
  go_ret
  exact ⟨rfl, bel_up' hb1 ((Below.refl _ _).alloc (Nat.le_refl _) _)⟩

/-- A plan that lies at a place. -/
structure PlA (B F : Nat) (n k d : Int) (w : World) : Prop where
  f : w.cell? ⟨B, 0, none⟩ = some (.pointer (some ⟨F, 0, none⟩))
  n : w.cell? ⟨B, 1, none⟩ = some (.int .i64 n)
  k : w.cell? ⟨B, 2, none⟩ = some (.int .i64 k)
  d : w.cell? ⟨B, 3, none⟩ = some (.int .i64 d)
theorem PlA.below {B F : Nat} {n k d : Int} {w w' : World} (h : PlA B F n k d w) (hb : Below w.heap.size w w') : PlA B F n k d w' :=
  ⟨((bcell hb).1 B 0 (cell_lt h.f)).trans h.f, ((bcell hb).1 B 1 (cell_lt h.f)).trans h.n, ((bcell hb).1 B 2 (cell_lt h.f)).trans h.k, ((bcell hb).1 B 3 (cell_lt h.f)).trans h.d⟩

set_option maxHeartbeats 8000000 in
set_option maxRecDepth 100000 in
theorem snew_none (q n k d : Int) (h : ∀ D ∈ fieldsL, (D.q : Int) ≠ q) (w : World) :
    Calls Try.prog 9 #[.int .i64 q, .int .i64 n, .int .i64 k, .int .i64 d] w fun e w' => e = .returned (.tuple #[.pointer none, .int .i64 1]) ∧ Below w.heap.size w w' := by
  have HH : Hid (∀ D ∈ fieldsL, (D.q : Int) ≠ q) := h
  clear h
  go_enter Try.func9, Try.ntmps9
  go_wp2_with fail
  refine (new_none q w HH.out).mono ?_
  rintro x w1 ⟨rfl, hw⟩
  subst hw
  go_wp2
  go_ret2
  exact ⟨rfl, Below.refl _ _⟩

set_option maxHeartbeats 8000000 in
set_option maxRecDepth 100000 in
theorem snew_any {D : FD} (hD : D ∈ fieldsL) (n k d : Int) (w : World) :
    Calls Try.prog 9 #[.int .i64 D.q, .int .i64 n, .int .i64 k, .int .i64 d] w fun e w' => Below w.heap.size w w' ∧ ((D.plc n k d ≠ 0 ∧ e = .returned (.tuple #[.pointer none, .int .i64 (D.plc n k d)])) ∨ (D.plc n k d = 0 ∧ ∃ B F T g, e = .returned (.tuple #[.pointer (some ⟨B, 0, none⟩), .int .i64 0]) ∧ PlA B F n k d w' ∧ FAt F T D g w' ∧ w.heap.size ≤ B ∧ w.heap.size ≤ F ∧ w.heap.size ≤ T)) := by
  have HD : Hid (D ∈ fieldsL) := hD
  clear hD
  go_enter Try.func9, Try.ntmps9
  go_wp2_with fail
  refine (new_any HD.out w).mono ?_
  rintro x w1 ⟨F, T, g, rfl, hF, hF1, hT1, hb1⟩
  have HB : Hid (Below w.heap.size w w1 ∧ FAt F T D g w1 ∧ w.heap.size ≤ F ∧ w.heap.size ≤ T) := ⟨hb1, hF, hF1, hT1⟩
  clear hF hF1 hT1 hb1
  by_cases c0 : n < 2
  · have e : D.plc n k d = 4 := by unfold FD.plc; rw [if_pos (by omega)]
    go_wp2
    go_ret2
    exact ⟨HB.out.1, Or.inl ⟨by rw [e]; decide, by rw [e]; rfl⟩⟩
  · skip
    by_cases c1 : 16 < n
    · have e : D.plc n k d = 4 := by unfold FD.plc; rw [if_pos (by omega)]
      go_wp2
      go_ret2
      exact ⟨HB.out.1, Or.inl ⟨by rw [e]; decide, by rw [e]; rfl⟩⟩
    · skip
      by_cases c2 : (D.q : Int) < n
      · have e : D.plc n k d = 4 := by unfold FD.plc; rw [if_pos (by omega)]
        go_wp2
        go_ret2
        exact ⟨HB.out.1, Or.inl ⟨by rw [e]; decide, by rw [e]; rfl⟩⟩
      · skip
        by_cases c3 : k < 1
        · have e : D.plc n k d = 6 := by unfold FD.plc; rw [if_neg (by omega), if_pos (by omega)]
          go_wp2
          go_ret2
          exact ⟨HB.out.1, Or.inl ⟨by rw [e]; decide, by rw [e]; rfl⟩⟩
        · skip
          by_cases c4 : d < k
          · have e : D.plc n k d = 6 := by unfold FD.plc; rw [if_neg (by omega), if_pos (by omega)]
            go_wp2
            go_ret2
            exact ⟨HB.out.1, Or.inl ⟨by rw [e]; decide, by rw [e]; rfl⟩⟩
          · skip
            by_cases c5 : n ≤ d
            · have e : D.plc n k d = 6 := by unfold FD.plc; rw [if_neg (by omega), if_pos (by omega)]
              go_wp2
              go_ret2
              exact ⟨HB.out.1, Or.inl ⟨by rw [e]; decide, by rw [e]; rfl⟩⟩
            · skip
              have e : D.plc n k d = 0 := by unfold FD.plc; rw [if_neg (by omega), if_neg (by omega)]
              go_wp2
              go_ret2
              have hb : Below w1.heap.size w1 (w1.alloc (.cells #[.pointer (some ⟨F, 0, none⟩), .int .i64 n, .int .i64 k, .int .i64 d] 70)) := (Below.refl _ _).alloc (Nat.le_refl _) _
              have hc : ∀ j, j < 4 → _ := fun j _ => World.cell?_alloc_new (w := w1) #[.pointer (some ⟨F, 0, none⟩), .int .i64 n, .int .i64 k, .int .i64 d] 70 j
              exact ⟨bel_up' HB.out.1 hb, Or.inr ⟨e, w1.heap.size, F, T, g, rfl, ⟨hc 0 (by omega), hc 1 (by omega), hc 2 (by omega), hc 3 (by omega)⟩, HB.out.2.1.below hb HB.out.2.1.ltF HB.out.2.1.ltT, HB.out.1.size, HB.out.2.2⟩⟩
end Go.Proofs.Ytbofcldmgjeklaa

/- How many numbers a file has: Size, FileSize. -/
namespace Go.Proofs.Ytbofcldmgjeklaa
open Go.RowKit Go.Sort

def fsz (k d : Nat) : Nat := k * (k + 1) / 2 + k * (d - k)
theorem fsz_le {k d : Nat} (hk : k ≤ d) (hd : d ≤ 15) : k * (k + 1) ≤ 240 ∧ k * (d - k) ≤ 225 := by
  have h1 : k * (k + 1) ≤ 15 * 16 := Nat.mul_le_mul (by omega) (by omega)
  have h2 : k * (d - k) ≤ 15 * 15 := Nat.mul_le_mul (by omega) (by omega)
  omega
theorem fsz_wrap {k d : Nat} (hk : k ≤ d) (hd : d ≤ 15) : wrap64 (wrap64 ((wrap64 ((k : Int) * ((k : Int) + 1))).tdiv 2) + wrap64 ((k : Int) * ((d : Int) - (k : Int)))) = (fsz k d : Nat) := by
  have hle := fsz_le hk hd
  obtain ⟨p, hp⟩ : ∃ p, p = k * (k + 1) := ⟨_, rfl⟩
  obtain ⟨r, hr⟩ : ∃ r, r = k * (d - k) := ⟨_, rfl⟩
  have e1 : (k : Int) * ((k : Int) + 1) = (p : Nat) := by rw [hp]; simp
  have e2 : (k : Int) * ((d : Int) - (k : Int)) = (r : Nat) := by rw [hr, show (d : Int) - (k : Int) = ((d - k : Nat) : Int) by omega]; simp
  have e3 : fsz k d = p / 2 + r := by unfold fsz; rw [hp, hr]
  have w0 : ∀ x : Nat, x ≤ 1000000 → wrap64 (x : Int) = (x : Int) := fun x hx => w_nat x (by omega)
  rw [← hp, ← hr] at hle
  rw [e1, e2, e3, w0 p (by omega), w0 r (by omega)]
  have e4 : ((p : Nat) : Int).tdiv 2 = ((p / 2 : Nat) : Int) := by
    rw [Int.tdiv_eq_ediv_of_nonneg (by omega)]; omega
  rw [e4, w0 (p / 2) (by omega)]
  have e5 : ((p / 2 : Nat) : Int) + (r : Int) = ((p / 2 + r : Nat) : Int) := by omega
  rw [e5, w0 (p / 2 + r) (by omega)]

set_option maxHeartbeats 8000000 in
set_option maxRecDepth 100000 in
theorem fileSize_any {k d : Nat} (hk : k ≤ d) (hd : d ≤ 15) (w : World) :
    Calls Try.prog 12 #[.int .i64 (k : Nat), .int .i64 (d : Nat)] w fun e w' => e = .returned (.int .i64 (fsz k d : Nat)) ∧ w' = w := by
  have HV : Hid (wrap64 (wrap64 ((wrap64 ((k : Int) * ((k : Int) + 1))).tdiv 2) + wrap64 ((k : Int) * ((d : Int) - (k : Int)))) = (fsz k d : Nat)) := fsz_wrap hk hd
  go_enter Try.func12, Try.ntmps12
  go_wp2
  go_ret
  exact ⟨by rw [← HV.out]; rfl, rfl⟩

set_option maxHeartbeats 8000000 in
set_option maxRecDepth 100000 in
theorem psize_any {B F n k d : Nat} {w : World} (hP : PlA B F n k d w) (hk : k ≤ d) (hd : d ≤ 15) :
    Calls Try.prog 11 #[.pointer (some ⟨B, 0, none⟩)] w fun e w' => e = .returned (.int .i64 (fsz k d : Nat)) ∧ ∃ j, w' = w.drewN j := by
  have HV : Hid (wrap64 (wrap64 ((wrap64 ((k : Int) * ((k : Int) + 1))).tdiv 2) + wrap64 ((k : Int) * ((d : Int) - (k : Int)))) = (fsz k d : Nat)) := fsz_wrap hk hd
  obtain ⟨c0, c1, c2, c3⟩ := hP
  go_enter Try.func11, Try.ntmps11
  go_wp2
  go_big_quiet (fail)
  go_wp2
  go_ret
  exact ⟨by rw [← HV.out]; rfl, _, rfl⟩
end Go.Proofs.Ytbofcldmgjeklaa
