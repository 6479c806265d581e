/- Texts of ours, one behind the other: W14 W15 KL1 KL2 KL3 KL4 KL5 KL6 KL7 KL8 W18 S49 S50 S52 S53 S54. -/
import Derived.RangeFuncNested
import Derived.RangeFuncBound
import Derived.RangeFuncCalls
import Derived.RangeFuncLeaves
import Derived.WalkKit
import Derived.Test.YtmklnjkallhphaaZN2
import Derived.Test.YtmklnjkallhphaaZZ11
import Derived.OrdersIn
import Derived.Test.YtmklnjkallhphaaZB2
import Derived.Shelf.Abstract
import Derived.Shelf.RegionOpen
import Derived.OwnWalkIn
import Derived.TacticsInMore
import Derived.LoopNIn
import Derived.LoopIn
import Derived.Test.YtmklnjkallhphaaZI10
import Derived.Test.YtmklnjkallhphaaZI5
import Derived.Test.YtmklnjkallhphaaZI19
import Derived.Test.YtmklnjkallhphaaZX18
import Derived.Deep.RegionHeld3
import Derived.Test.YtmklnjkallhphaaZKD10
import Derived.Test.YtmklnjkallhphaaZQ7
import Derived.Test.YtmklnjkallhphaaZH1
import Derived.Test.YtmklnjkallhphaaZT2
import Derived.Test.YtmklnjkallhphaaZV7
import Derived.Test.YtmklnjkallhphaaZK7
/- A range over a function whose rounds are handed memory: a law of our own over the library's steps. No Go text here. -/
namespace Go.Proofs.Ytmklnjkallhphaa
open Go.RowKit

/-- What is not one's own lies as it lay. -/
structure KpO (own : Nat → Prop) (X Y : World) : Prop where
  os : Y.os = X.os
  tape : Y.tape = X.tape
  output : Y.output = X.output
  size : X.heap.size ≤ Y.heap.size
  same : ∀ k, k < X.heap.size → ¬ own k → Y.heap[k]? = X.heap[k]?
/-- Cells, and whatever lies below B, lie as they lay. -/
structure GrC (B : Nat) (X Y : World) : Prop where
  os : Y.os = X.os
  tape : Y.tape = X.tape
  output : Y.output = X.output
  size : X.heap.size ≤ Y.heap.size
  same : ∀ k, k < X.heap.size → (k < B ∨ ∀ o, X.heap[k]? = some o → o.isCells = true) → Y.heap[k]? = X.heap[k]?
theorem GrC.of_below {B : Nat} {X Y : World} (h : Below X.heap.size X Y) : GrC B X Y := ⟨h.os, h.tape, h.output, h.size, fun k hk _ => h.block k hk⟩
theorem GrC.put {B l : Nat} {X : World} {o : Obj} (o' : Obj) (hl : B ≤ l) (h : X.heap[l]? = some o) (hc : o.isCells = false) : GrC B X (X.putObj l o') :=
  ⟨rfl, rfl, rfl, by simp, fun k hk hx => World.putObj_heap_other (fun e => by
    subst e
    rcases hx with hx | hx
    · omega
    · rw [hx o h] at hc; cases hc)⟩
theorem KpO.refl (own : Nat → Prop) (X : World) : KpO own X X := ⟨rfl, rfl, rfl, Nat.le_refl _, fun _ _ _ => rfl⟩
theorem KpO.trans {own : Nat → Prop} {X Y Z : World} (h : KpO own X Y) (k : KpO own Y Z) : KpO own X Z :=
  ⟨k.os.trans h.os, k.tape.trans h.tape, k.output.trans h.output, Nat.le_trans h.size k.size, fun i hi hn => (k.same i (Nat.lt_of_lt_of_le hi h.size) hn).trans (h.same i hi hn)⟩
theorem KpO.mono {own own' : Nat → Prop} {X Y : World} (h : KpO own X Y) (hm : ∀ k, own k → own' k) : KpO own' X Y := ⟨h.os, h.tape, h.output, h.size, fun k hk hn => h.same k hk (fun e => hn (hm k e))⟩
theorem KpO.of_below {own : Nat → Prop} {X Y : World} (h : Below X.heap.size X Y) : KpO own X Y := ⟨h.os, h.tape, h.output, h.size, fun k hk _ => h.block k hk⟩
theorem KpO.put {own : Nat → Prop} (X : World) (l : Nat) (o : Obj) (hl : own l) : KpO own X (X.putObj l o) :=
  ⟨rfl, rfl, rfl, by simp, fun _ _ hn => World.putObj_heap_other (fun e => hn (by rw [e]; exact hl))⟩
theorem KpO.setCell {own : Nat → Prop} (X : World) (a : Addr) (v : Value) (hl : own a.block) : KpO own X (X.setCell a v) :=
  ⟨rfl, rfl, rfl, by simp [World.setCell], fun k _ hn => Below.heap_setCell X a v k (fun e => hn (by rw [e]; exact hl))⟩

/-- An iterator that hands on N things: the r-th one is told by E, in the world in which it is handed on. A round may change what is the loop's own. -/
def SeqI (P : Program) (gf : Nat) (lb : Array Value) (N : Nat) (E : Nat → Array Value → World → Prop) (own : Nat → Prop) (w0 : World) : Prop :=
  ∀ (l : Nat) (J : Nat → World → Prop) (W : World), Below w0.heap.size w0 W → w0.heap.size ≤ l → l < W.heap.size →
    (∀ r X Y, J r X → Below X.heap.size X Y → J r Y) →
    (∀ r args X, r < N → J r X → E r args X → YieldAt Fence.wide 0 P l args X fun e Y => e = .returned (.bool true) ∧ J (r + 1) Y ∧ KpO (fun k => own k ∨ k = l) X Y) →
    J 0 W → CallsIn Fence.wide 0 P gf (#[.func (.yield l) #[] #[]] ++ lb) W fun e W' => (∃ v, e = .returned v) ∧ J N W'

/-- The law: a loop whose body never leaves it. -/
theorem range_law {P : Program} {g : Operand} {ps : Array Tmp} {assign body : Code} {Q : Exit → Act → World → Prop} {a : Act} {w : World} {gf : Nat} {lb : Array Value}
    (hg : a.eval g = .func (.func gf) #[] lb) (eg : ∀ args w, (callFunc gf args).run P w = .ok (.enter gf args) w)
    {N : Nat} {E : Nat → Array Value → World → Prop} {own : Nat → Prop} (hseq : SeqI P gf lb N E own w) (hown : ∀ k, own k → k < w.heap.size)
    (hps : ∀ r args X, E r args X → args.size = ps.size)
    (I : Nat → World → Prop) (hI : ∀ r X Y, I r X → GrC w.heap.size X Y → I r Y) (hE : ∀ r args X Y, E r args X → GrC w.heap.size X Y → E r args Y) (h0 : I 0 w) (a₁ : Array Value → Act)
    (hassign : ∀ (l r : Nat) (args : Array Value) (X : World) (K : Act → World → Prop), E r args X → K (a₁ args) X →
      assign.wpIn (Fence.wide.inRound l) 0 P (Exit.then K (fun _ _ _ => False)) { tmps := (ps.zip args).foldl (fun t (p, v) => t.setIfInBounds p v) a.tmps, defers := [] } X)
    (hbody : ∀ (l r : Nat) (args : Array Value) (X : World), r < N → I r X → E r args X → body.wpIn (Fence.wide.inRound l) 0 P (fun e _ Y => e = .normal ∧ KpO own X Y ∧ I (r + 1) Y) (a₁ args) X)
    (hdone : ∀ (D : Nat) (W : World), w.heap.size ≤ D → I N W → W.heap[D]? = some (.deferred (some [])) → Q .normal { a with defers := { target := .collected D, args := #[] } :: a.defers } W) :
    (Code.rangeFunc g ps assign body).wp P Q a w := by
  refine (wpIn_wide (n := 0)).1 (wpIn_rangeFunc ?_)
  intro fn hfn
  obtain ⟨B, hB⟩ : ∃ B, B = w.heap.size := ⟨_, rfl⟩
  obtain ⟨rc, hrc⟩ : ∃ rc : LoopState → Option Code → Loop, rc = fun st pe => { state := st, pending := pe, fn, tmps := a.tmps, params := ps, assign, body, defers := w.heap.size } := ⟨_, rfl⟩
  obtain ⟨W, hW⟩ : ∃ W, W = (w.alloc (.deferred (some []))).alloc (.loop (rc .ready none)) := ⟨_, rfl⟩
  have hs1 : (w.alloc (.deferred (some []))).heap.size = B + 1 := by rw [World.size_alloc, hB]
  have hsW : W.heap.size = B + 2 := by rw [hW, World.size_alloc, hs1]
  have hlW : W.heap[B + 1]? = some (.loop (rc .ready none)) := by rw [hW, ← hs1]; exact World.alloc_heap_new _ _
  have hdW : W.heap[B]? = some (.deferred (some [])) := by rw [hW, Below.heap_alloc _ _ _ (by rw [hs1]; omega), hB]; exact World.alloc_heap_new w _
  have hbW : Below w.heap.size w W := by rw [hW]; exact ((Below.refl _ w).alloc (Nat.le_refl _) _).alloc (by simp) _
  have hIW : I 0 W := hI 0 w W h0 (.of_below hbW)
  refine ⟨B + 1, [{ target := .collected w.heap.size, args := #[] }], W, { target := .fn (.func gf) lb, args := #[.func (.yield (B + 1)) #[] #[]] }, W, gf, #[.func (.yield (B + 1)) #[] #[]] ++ lb, W, ?_, ?_, fun _ _ => trivial, ?_, fun h => (by cases h), ?_⟩
  · rw [hW, hrc, hB]; exact run_enterLoop_outer _ _ _ _ _
  · simp only [resolve, hg]
    simp [go_sem]
  · simp [invoke, go_sem, eg]
  refine (hseq (B + 1) (fun r X => I r X ∧ X.heap[B + 1]? = some (.loop (rc .ready none)) ∧ X.heap[B]? = some (.deferred (some []))) W hbW (by omega) (by omega) ?_ ?_ ⟨hIW, hlW, hdW⟩).mono ?_
  · rintro r X Y ⟨h1, h2, h3⟩ hb
    exact ⟨hI r X Y h1 (.of_below hb), (hb.block _ (Array.getElem?_eq_some_iff.1 h2).1).trans h2, (hb.block _ (Array.getElem?_eq_some_iff.1 h3).1).trans h3⟩
  · rintro r args X hr ⟨hi, hl, hd⟩ he
    have hy := run_yield (P := P) (args := args) hl (by rw [hrc]; exact hps r args X he)
    rw [hrc] at hy
    refine ⟨fn, _, assign, body, hy, roundIn_of_wpIn hfn (hassign _ r args X _ he ⟨_, run_beginRound hl (by rw [hrc]), ?_⟩)⟩
    obtain ⟨X2, hX2⟩ : ∃ X2, X2 = X.putObj (B + 1) (.loop { rc .ready none with state := .busy }) := ⟨_, rfl⟩
    have hg2 : GrC w.heap.size X X2 := by rw [hX2]; exact .put _ (by omega) hl rfl
    have hl2 : X2.heap[B + 1]? = some (.loop { rc .ready none with state := .busy }) := by rw [hX2]; exact World.putObj_heap_same (Array.getElem?_eq_some_iff.1 hl).1
    have hd2 : X2.heap[B]? = some (.deferred (some [])) := by rw [hX2]; exact (World.putObj_heap_other (by omega)).trans hd
    have hk2 : KpO (fun k => own k ∨ k = B + 1) X X2 := by rw [hX2]; exact .put _ _ _ (Or.inr rfl)
    rw [← hX2]
    refine wpIn_mono (hbody (B + 1) r args X2 hr (hI r X X2 hi hg2) (hE r args X X2 he hg2)) ?_
    rintro e a3 Y ⟨rfl, hk, hi3⟩
    have hl3 : Y.heap[B + 1]? = some (.loop { rc .ready none with state := .busy }) := (hk.same _ (Array.getElem?_eq_some_iff.1 hl2).1 (fun h => by have := hown _ h; omega)).trans hl2
    have hd3 : Y.heap[B]? = some (.deferred (some [])) := (hk.same _ (Array.getElem?_eq_some_iff.1 hd2).1 (fun h => by have := hown _ h; omega)).trans hd2
    have he3 := run_endRound (P := P) none hl3
    refine ⟨_, _, he3, rfl, ⟨hI _ Y _ hi3 (.put _ (by omega) hl3 rfl), ?_, (World.putObj_heap_other (by omega)).trans hd3⟩, (hk2.trans (hk.mono fun k h => Or.inl h)).trans (.put _ _ _ (Or.inr rfl))⟩
    rw [World.putObj_heap_same (Array.getElem?_eq_some_iff.1 hl3).1, hrc]
    rfl
  · rintro e Y ⟨⟨v, rfl⟩, hi, hl, hd⟩
    have he := run_endLoop (P := P) hl (by rw [hrc]; simp)
    refine ⟨none, _, by rw [he, hrc], ?_⟩
    have := hdone B (Y.putObj (B + 1) (.loop { rc .ready none with state := .exhausted })) (by omega) (hI _ Y _ hi (.put _ (by omega) hl rfl)) ((World.putObj_heap_other (by omega)).trans hd)
    rw [hB] at this ⊢
    simpa [hrc] using this
end Go.Proofs.Ytmklnjkallhphaa

/- A region that draws its order, in a round of a range over a function: what serves elsewhere serves there. No Go text here. -/
namespace Go.Proofs.Ytmklnjkallhphaa
open Go

end Go.Proofs.Ytmklnjkallhphaa

/- Ranges over span.Words: the leaf of goThrough (a call of yield). -/


namespace Go.Proofs.Ytmklnjkallhphaa
open Go.RowKit Go.Shelf
attribute [local go_sem] Oper.semAt_some

end Go.Proofs.Ytmklnjkallhphaa

/- Codes: the capacity of the rows that Make tells. -/
namespace Go.Proofs.Ytmklnjkallhphaa
open Go.RowKit Go.Sort

end Go.Proofs.Ytmklnjkallhphaa

/- Ranges over span.Words: goThrough, whole. -/
namespace Go.Proofs.Ytmklnjkallhphaa
open Go.RowKit Go.Sort

/-- The number whose digits to the base q are the first values of z. -/
def hnm (q : Nat) (z : Nat → Nat) : Nat → Nat
  | 0 => 0
  | i + 1 => hnm q z i * q + z i
theorem enw_zc {D : FD} {R : Nat → Nat → Nat} {z y : Nat → Nat} : ∀ {k : Nat}, (∀ i, i < k → z i = y i) → enw D R z k = enw D R y k
  | 0, _ => rfl
  | k + 1, h => by
    show padd D (enw D R z k) (pscale D (z k) (R k)) = padd D (enw D R y k) (pscale D (y k) (R k))
    rw [enw_zc (fun i hi => h i (by omega)), h k (by omega)]
/-- The r-th word: what is handed on. -/
def WdE (D : FD) (R : Nat → Nat → Nat) (n K B0 : Nat) (r : Nat) (args : Array Value) (X : World) : Prop :=
  ∃ z g c, (∀ i, i < K → z i < D.q) ∧ hnm D.q z K = r ∧ args = #[.slice (some ⟨g, 0, none⟩) n c] ∧ n ≤ c ∧ c ≤ 9223372036854775807 ∧ Row g n (enw D R z K) X ∧ B0 ≤ g
end Go.Proofs.Ytmklnjkallhphaa

/- Ranges over span.Words: the iterator's contract. -/
namespace Go.Proofs.Ytmklnjkallhphaa
open Go.RowKit Go.Sort

/-- The rows of a code that is ranged over: none, or k of n elements in blocks of their own. -/
def WdR (ro : Option Addr) (n K B G mm : Nat) (R : Nat → Nat → Nat) (h : Nat → Nat) (w : World) : Prop := 0 < K → (ro = some ⟨G, 0, none⟩ ∧ Mx B G mm K n R h w)

end Go.Proofs.Ytmklnjkallhphaa

/- Codes: those of few words (code.small). -/
namespace Go.Proofs.Ytmklnjkallhphaa
open Go.RowKit Go.Sort

end Go.Proofs.Ytmklnjkallhphaa

/- The words of a code by their numbers; how many have a weight. -/
namespace Go.Proofs.Ytmklnjkallhphaa
open Go.RowKit Go.Sort

set_option maxHeartbeats 4000000 in
set_option maxRecDepth 100000 in
theorem weightS_any {ao : Option Addr} {n ca : Nat} {a : Nat → Int} {w : World} (hA : SlZ ao n a w) (hn : n ≤ 1000) :
    Calls Try.prog 41 #[.slice ao n ca] w fun e w' => e = .returned (.int .i64 (ct (fun i => !decide (a i = 0)) n : Nat)) ∧ w' = w := by
  have HF : Hid (SlZ ao n a w) := hA
  clear hA
  go_enter Try.func41, Try.ntmps41
  go_wp2
  go_loopw [3, 8] (fun vm vi wr => ∃ (r m : Nat), r ≤ n ∧ m ≤ r ∧ vm = .int .i64 (m : Nat) ∧ vi = .int .i64 r ∧ Hid (m = ct (fun i => !decide (a i = 0)) r ∧ wr = w)) (fun _ vi _ => n - (intOf vi).toNat)
  case atStart => exact ⟨0, 0, by omega, by omega, rfl, rfl, rfl, rfl⟩
  case round =>
    obtain ⟨r, m, hr, hmr, rfl, rfl, HG⟩ := hrel
    rename World => wr
    by_cases hlt : r < n
    · have hib : (r : Int) < (n : Int) := by omega
      obtain ⟨ba, oa, hao, hca⟩ := HF.out r hlt
      rw [← HG.out.2] at hca
      subst hao
      obtain ⟨x, hx⟩ : ∃ x, x = a r := ⟨_, rfl⟩
      rw [← hx] at hca
      by_cases e : x = 0
      · have hz : (x != 0) = false := by rw [e]; simp
        have HV : Hid (m = ct (fun i => !decide (a i = 0)) (r + 1)) := by
          show m = ct (fun i => !decide (a i = 0)) r + if (!decide (a r = 0)) = true then 1 else 0
          rw [← HG.out.1, decide_eq_true (by rw [← hx]; exact e)]; rfl
        clear e hx
        go_wp2
        go_roundw
        case rel => exact ⟨r + 1, m, by omega, by omega, rfl, by go_num, HV.out, HG.out.2⟩
        case measure => simp [intOf]; omega
      · have hz : (x != 0) = true := by rw [bne_iff_ne]; exact e
        have HV : Hid (m + 1 = ct (fun i => !decide (a i = 0)) (r + 1)) := by
          show m + 1 = ct (fun i => !decide (a i = 0)) r + if (!decide (a r = 0)) = true then 1 else 0
          rw [← HG.out.1, decide_eq_false (by rw [← hx]; exact e)]; rfl
        clear e hx
        go_wp2
        go_roundw
        case rel => exact ⟨r + 1, m + 1, by omega, by omega, by go_num, by go_num, HV.out, HG.out.2⟩
        case measure => simp [intOf]; omega
    · have hib : ¬ (r : Int) < (n : Int) := by omega
      have hre : n = r := by omega
      subst hre
      go_wp2
      go_ret
      exact ⟨by rw [HG.out.1]; rfl, HG.out.2⟩

theorem hnm_div {q : Nat} (hq : 2 ≤ q) {z : Nat → Nat} {i : Nat} : ∀ t, (∀ j, j < i + t → z j < q) → hnm q z (i + t) / q ^ t = hnm q z i
  | 0, _ => by rw [Nat.pow_zero, Nat.div_one]; rfl
  | t + 1, h => by
    have h1 := hnm_div hq (z := z) (i := i) t (fun j hj => h j (by omega))
    have h2 := h (i + t) (by omega)
    show (hnm q z (i + t) * q + z (i + t)) / q ^ (t + 1) = _
    rw [Nat.pow_succ', ← Nat.div_div_eq_div_mul, Nat.mul_comm (hnm q z (i + t)) q, Nat.mul_add_div (by omega), Nat.div_eq_of_lt h2, Nat.add_zero]
    exact h1
theorem hnm_dgs {q K : Nat} (hq : 2 ≤ q) {z : Nat → Nat} (hz : ∀ j, j < K → z j < q) (i : Nat) (hi : i < K) : z i = dgs q K (hnm q z K) i := by
  have h := hnm_div hq (z := z) (i := i + 1) (K - 1 - i) (fun j hj => hz j (by omega))
  rw [show i + 1 + (K - 1 - i) = K by omega] at h
  unfold dgs
  rw [if_pos hi, h]
  show z i = (hnm q z i * q + z i) % q
  rw [Nat.mul_comm, Nat.mul_add_mod, Nat.mod_eq_of_lt (hz i hi)]
/-- The r-th word. -/
def wdr (D : FD) (R : Nat → Nat → Nat) (K r : Nat) : Nat → Nat := enw D R (dgs D.q K r) K
theorem ct_most (p : Nat → Bool) : ∀ n, ct p n ≤ n
  | 0 => Nat.le_refl 0
  | n + 1 => by
    have := ct_most p n
    show ct p n + (if p n = true then 1 else 0) ≤ n + 1
    split <;> omega
theorem WdE.word {D : FD} (F : Fld D) {R : Nat → Nat → Nat} {n K B0 r : Nat} {args : Array Value} {X : World} (h : WdE D R n K B0 r args X) : ∃ g c, args = #[.slice (some ⟨g, 0, none⟩) n c] ∧ n ≤ c ∧ c ≤ 9223372036854775807 ∧ Row g n (wdr D R K r) X ∧ B0 ≤ g := by
  obtain ⟨z, g, c, hz, hr, ha, h1, h2, h3, h4⟩ := h
  refine ⟨g, c, ha, h1, h2, ?_, h4⟩
  unfold wdr
  rw [← enw_zc (z := z) (fun i hi => by rw [← hr]; exact hnm_dgs F.q2 hz i hi)]
  exact h3
theorem Row.grc {g n B : Nat} {c : Nat → Nat} {X Y : World} (h : Row g n c X) (hg : GrC B X Y) : Row g n c Y := by
  refine h.other (hg.same g h.lt (Or.inr fun o ho => ?_))
  obtain ⟨cap, f, ⟨cs, h1, _⟩, _⟩ := h
  rw [h1] at ho
  cases ho; rfl
theorem WdE.grc {D : FD} {R : Nat → Nat → Nat} {n K B0 B r : Nat} {args : Array Value} {X Y : World} (h : WdE D R n K B0 r args X) (hg : GrC B X Y) : WdE D R n K B0 r args Y := by
  obtain ⟨z, g, c, hz, hr, ha, h1, h2, h3, h4⟩ := h
  exact ⟨z, g, c, hz, hr, ha, h1, h2, h3.grc hg, h4⟩
end Go.Proofs.Ytmklnjkallhphaa

/- code.Weights: the words of a code, gone through. -/
namespace Go.Proofs.Ytmklnjkallhphaa
open Go.RowKit Go.Sort Go.Shelf
attribute [local go_sem] Oper.semAt_some

theorem MV.wdr {B k rc n : Nat} {ro : Option Addr} {R : Nat → Nat → Nat} {w : World} (h : MV B (.slice ro k rc) k n R w) : ∃ (Gm mm : Nat) (hm : Nat → Nat), WdR ro n k B Gm mm R hm w ∧ (0 < k → Gm < w.heap.size) ∧ ∀ i, i < k → hm i < w.heap.size := by
  rcases h with ⟨e, _⟩ | ⟨G, mc, mm, hm, ev, hM⟩
  · exact ⟨0, 0, fun _ => 0, fun hk => absurd hk (by omega), fun hk => absurd hk (by omega), fun i hi => absurd hi (by omega)⟩
  · cases ev
    exact ⟨G, mm, hm, fun _ => ⟨rfl, hM⟩, fun _ => hM.ltG, fun i hi => hM.lt i hi⟩
end Go.Proofs.Ytmklnjkallhphaa

/- code.Weights where there is none; code.Distance. -/
namespace Go.Proofs.Ytmklnjkallhphaa
open Go.RowKit Go.Sort Go.Shelf

/-- The least place above 0 at which there is something; 0: there is none. -/
def Lwt (c : Nat → Nat) (N d : Nat) : Prop := (d = 0 ∧ ∀ i, 0 < i → i < N → c i = 0) ∨ (0 < d ∧ d < N ∧ 0 < c d ∧ ∀ i, 0 < i → i < d → c i = 0)
theorem Lwt.uniq {c : Nat → Nat} {N d e : Nat} (h : Lwt c N d) (h' : Lwt c N e) : d = e := by
  rcases h with ⟨h1, h2⟩ | ⟨h1, h2, h3, h4⟩
  · rcases h' with ⟨k1, k2⟩ | ⟨k1, k2, k3, k4⟩
    · omega
    · have := h2 e k1 k2; omega
  · rcases h' with ⟨k1, k2⟩ | ⟨k1, k2, k3, k4⟩
    · have := k2 d h1 h2; omega
    · rcases Nat.lt_trichotomy d e with h5 | h5 | h5
      · have := k4 d h1 h5; omega
      · exact h5
      · have := h4 e k1 h5; omega
end Go.Proofs.Ytmklnjkallhphaa

/- Lists of lists that the call made itself, to be handed in. -/
namespace Go.Proofs.Ytmklnjkallhphaa
open Go.RowKit Go.Sort

theorem LLs.atE {base n cap : Nat} {ao : Option Addr} {L : List (Nat × (Nat → Nat))} {w : World} (h : LLs base (.slice ao n cap) L w) {j : Nat} {p : Nat × (Nat → Nat)} (hj : L[j]? = some p) : ∃ g b cp, ao = some ⟨g, 0, none⟩ ∧ w.cell? ⟨g, j, none⟩ = some (.slice (some ⟨b, 0, none⟩) (p.1 + 1) cp) ∧ Elm (.slice (some ⟨b, 0, none⟩) (p.1 + 1) cp) p w := by
  obtain ⟨l, h1, h2⟩ := h
  obtain ⟨ao', cap', e, _, _, _, hc⟩ := h1.open
  cases e
  have hjl : j < l.length := by rw [h2.1]; exact (List.getElem?_eq_some_iff.1 hj).1
  obtain ⟨g, e1, e2, _⟩ := hc j l[j] (List.getElem?_eq_getElem hjl)
  have e3 := h2.2 j l[j] p (List.getElem?_eq_getElem hjl) hj
  obtain ⟨b, cp, e4, e5⟩ := e3
  rw [e4] at e2
  exact ⟨g, b, cp, e1, e2, b, cp, rfl, e5⟩
theorem LLs.matZN {base k n : Nat} {v : Value} {R : Nat → Nat → Nat} {w : World} (h : LLs base v (Go.Proofs.Ytmklnjkallhphaa.rl k n R) w) (hn : n + 1 ≤ 1000000) : ∃ ao cap A C, v = .slice ao k cap ∧ MatZ ao k A (fun _ => n + 1) C (fun i j => ((R i j : Nat) : Int)) w := by
  classical
  obtain ⟨ao, cap, hv⟩ := h.slice
  rw [rl_len] at hv
  subst hv
  have key : ∀ i, ∃ p : Nat × Nat, i < k → ∃ g, ao = some ⟨g, 0, none⟩ ∧ w.cell? ⟨g, i, none⟩ = some (.slice (some ⟨p.1, 0, none⟩) (n + 1) p.2) ∧ Elm (.slice (some ⟨p.1, 0, none⟩) (n + 1) p.2) (n, R i) w := fun i => by
    by_cases e : i < k
    · obtain ⟨g, b, cp, h1, h2, h3⟩ := h.atE (rl_get k n R i e)
      exact ⟨(b, cp), fun _ => ⟨g, h1, h2, h3⟩⟩
    · exact ⟨(0, 0), fun x => absurd x e⟩
  obtain ⟨P, hP⟩ : ∃ P : Nat → Nat × Nat, ∀ i, i < k → ∃ g, ao = some ⟨g, 0, none⟩ ∧ w.cell? ⟨g, i, none⟩ = some (.slice (some ⟨(P i).1, 0, none⟩) (n + 1) (P i).2) ∧ Elm (.slice (some ⟨(P i).1, 0, none⟩) (n + 1) (P i).2) (n, R i) w := ⟨fun i => Classical.choose (key i), fun i hi => Classical.choose_spec (key i) hi⟩
  have hE : ∀ i, i < k → n + 1 ≤ (P i).2 ∧ (P i).2 ≤ 9223372036854775807 ∧ Row (P i).1 (n + 1) (R i) w := fun i hi => by
    obtain ⟨g, _, _, g2, c2, e, h1, h2, h3⟩ := hP i hi
    cases e
    exact ⟨h1, h2, h3⟩
  refine ⟨ao, cap, fun i => some ⟨(P i).1, 0, none⟩, fun i => (P i).2, rfl, fun i hi => ?_, fun i hi => ?_, fun i hi => (hE i hi).1, fun i hi => (hE i hi).2.1, fun i hi e => (by cases e), fun i hi => hn⟩
  · obtain ⟨g, h1, h2, _⟩ := hP i hi
    exact ⟨g, 0, h1, by rw [Nat.zero_add]; exact h2⟩
  · exact ((hE i hi).2.2.sl (Nat.le_refl _)).z
end Go.Proofs.Ytmklnjkallhphaa

/- Plain mathematics: sums over a field's elements, and over all words. No Go text here. -/
namespace Go.Proofs.Ytmklnjkallhphaa
open Go.RowKit Go.Sort

end Go.Proofs.Ytmklnjkallhphaa

/- Plain mathematics: MacWilliams' identity, by sums over all words. No Go text here. -/
namespace Go.Proofs.Ytmklnjkallhphaa
open Go.RowKit Go.Sort

end Go.Proofs.Ytmklnjkallhphaa

/- Plain mathematics: the weights of a code, gone through by its messages, and MacWilliams' identity for them. No Go text here. -/
namespace Go.Proofs.Ytmklnjkallhphaa
open Go.RowKit Go.Sort

end Go.Proofs.Ytmklnjkallhphaa

/- A code's weights and those of its dual: what weights.Dual makes of them. -/
namespace Go.Proofs.Ytmklnjkallhphaa
open Go.RowKit Go.Sort

/-- No more rows than there were. -/
theorem Red.few {D : FD} (hD : D ∈ fieldsL) {n m k : Nat} {M R : Nat → Nat → Nat} (h : Red D n m M k R) (he : ∀ i, i < m → El D (M i) ∧ Bd n (M i)) : k ≤ m := by
  obtain ⟨k', R', p', hk, hr, hs⟩ := rre_ex hD (fun i hi => (he i hi).1) (fun i hi => (he i hi).2)
  have := (Red.uniq (fld hD) h ⟨p', hr, hs⟩ (fun _ => Iff.rfl)).1
  omega
end Go.Proofs.Ytmklnjkallhphaa

/- Plain mathematics: the bounds of Singleton, Delsarte and Plotkin for a code whose words lie apart. No Go text here. -/
namespace Go.Proofs.Ytmklnjkallhphaa
open Go.RowKit Go.Sort

end Go.Proofs.Ytmklnjkallhphaa
