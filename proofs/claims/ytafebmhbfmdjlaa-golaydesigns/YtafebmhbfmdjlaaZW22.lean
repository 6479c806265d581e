/- A range over a function that hands on values, whose rounds may leave the function. No Go text here. -/
import Derived.Test.YtafebmhbfmdjlaaZKA1
namespace Go.Proofs.Ytafebmhbfmdjlaa
open Go.RowKit

/-- An iterator that hands on some values, one behind the other, until a round leaves. -/
def SeqS (P : Program) (gf : Nat) (lb : Array Value) (L : List (Array Value)) (w0 : World) : Prop :=
  ∀ (l : Nat) (J Jx : Nat → World → Prop) (W : World), Below w0.heap.size w0 W → w0.heap.size ≤ l → l < W.heap.size →
    (∀ r X Y, J r X → Below X.heap.size X Y → J r Y) → (∀ r X Y, Jx r X → Below X.heap.size X Y → Jx r Y) →
    (∀ r X, r < L.length → J r X → YieldAt Fence.wide 0 P l (L.getD r #[]) X fun e Y => (e = .returned (.bool true) ∧ J (r + 1) Y) ∨ (e = .returned (.bool false) ∧ Jx r Y)) →
    J 0 W → CallsIn Fence.wide 0 P gf (#[.func (.yield l) #[] #[]] ++ lb) W fun e W' => (∃ v, e = .returned v) ∧ (J L.length W' ∨ ∃ r, r < L.length ∧ Jx r W')

/-- The law: a loop whose body goes on or leaves the function. -/
theorem range_lawX {P : Program} {g : Operand} {ps : Array Tmp} {assign body : Code} {Q : Exit → Act → World → Prop} {a : Act} {w : World} {gf : Nat} {lb : Array Value}
    (hg : a.eval g = .func (.func gf) #[] lb) (eg : ∀ args w, (callFunc gf args).run P w = .ok (.enter gf args) w)
    {L : List (Array Value)} {own : Nat → Prop} (hseq : SeqS P gf lb L w) (ho1 : ¬ own w.heap.size) (ho2 : ¬ own (w.heap.size + 1))
    (hps : ∀ r, r < L.length → (L.getD r #[]).size = ps.size)
    (I Ix : Nat → World → Prop) (hI : ∀ r X Y, I r X → GrC w.heap.size X Y → I r Y) (hIx : ∀ r X Y, Ix r X → GrC w.heap.size X Y → Ix r Y) (h0 : I 0 w) (a₁ : Array Value → Act)
    (hassign : ∀ (l r : Nat) (X : World) (K : Act → World → Prop), r < L.length → K (a₁ (L.getD r #[])) X →
      assign.wpIn (Fence.wide.inRound l) 0 P (Exit.then K (fun _ _ _ => False)) { tmps := (ps.zip (L.getD r #[])).foldl (fun t (p, v) => t.setIfInBounds p v) a.tmps, defers := [] } X)
    (hbody : ∀ (l r : Nat) (X : World), r < L.length → w.heap.size + 2 ≤ X.heap.size → I r X → body.wpIn (Fence.wide.inRound l) 0 P (fun e _ Y => KpO own X Y ∧ ((e = .normal ∧ I (r + 1) Y) ∨ (e = .ret ∧ Ix r Y))) (a₁ (L.getD r #[])) X)
    (hdone : ∀ (D : Nat) (W : World), w.heap.size ≤ D → I L.length W → W.heap[D]? = some (.deferred (some [])) → Q .normal { a with defers := { target := .collected D, args := #[] } :: a.defers } W)
    (hstop : ∀ (D r : Nat) (W : World), w.heap.size ≤ D → r < L.length → Ix r W → W.heap[D]? = some (.deferred (some [])) → Q .ret { a with defers := { target := .collected D, args := #[] } :: a.defers } W) :
    (Code.rangeFunc g ps assign body).wp P Q a w := by
  refine (wpIn_wide (n := 0)).1 (wpIn_rangeFunc ?_)
  intro fn hfn
  obtain ⟨B, hB⟩ : ∃ B, B = w.heap.size := ⟨_, rfl⟩
  obtain ⟨rc, hrc⟩ : ∃ rc : LoopState → Option Code → Loop, rc = fun st pe => { state := st, pending := pe, fn, tmps := a.tmps, params := ps, assign, body, defers := w.heap.size } := ⟨_, rfl⟩
  obtain ⟨W, hW⟩ : ∃ W, W = (w.alloc (.deferred (some []))).alloc (.loop (rc .ready none)) := ⟨_, rfl⟩
  have hs1 : (w.alloc (.deferred (some []))).heap.size = B + 1 := by rw [World.size_alloc, hB]
  have hsW : W.heap.size = B + 2 := by rw [hW, World.size_alloc, hs1]
  have hlW : W.heap[B + 1]? = some (.loop (rc .ready none)) := by rw [hW, ← hs1]; exact World.alloc_heap_new _ _
  have hdW : W.heap[B]? = some (.deferred (some [])) := by rw [hW, Below.heap_alloc _ _ _ (by rw [hs1]; omega), hB]; exact World.alloc_heap_new w _
  have hbW : Below w.heap.size w W := by rw [hW]; exact ((Below.refl _ w).alloc (Nat.le_refl _) _).alloc (by simp) _
  have hIW : I 0 W := hI 0 w W h0 (.of_below hbW)
  refine ⟨B + 1, [{ target := .collected w.heap.size, args := #[] }], W, { target := .fn (.func gf) lb, args := #[.func (.yield (B + 1)) #[] #[]] }, W, gf, #[.func (.yield (B + 1)) #[] #[]] ++ lb, W, ?_, ?_, fun _ _ => trivial, ?_, fun h => (by cases h), ?_⟩
  · rw [hW, hrc, hB]; exact run_enterLoop_outer _ _ _ _ _
  · simp only [resolve, hg]
    simp [go_sem]
  · simp [invoke, go_sem, eg]
  refine (hseq (B + 1) (fun r X => I r X ∧ X.heap[B + 1]? = some (.loop (rc .ready none)) ∧ X.heap[B]? = some (.deferred (some []))) (fun r X => Ix r X ∧ X.heap[B + 1]? = some (.loop (rc .done (some .ret))) ∧ X.heap[B]? = some (.deferred (some []))) W hbW (by omega) (by omega) ?_ ?_ ?_ ⟨hIW, hlW, hdW⟩).mono ?_
  · rintro r X Y ⟨h1, h2, h3⟩ hb
    exact ⟨hI r X Y h1 (.of_below hb), (hb.block _ (Array.getElem?_eq_some_iff.1 h2).1).trans h2, (hb.block _ (Array.getElem?_eq_some_iff.1 h3).1).trans h3⟩
  · rintro r X Y ⟨h1, h2, h3⟩ hb
    exact ⟨hIx r X Y h1 (.of_below hb), (hb.block _ (Array.getElem?_eq_some_iff.1 h2).1).trans h2, (hb.block _ (Array.getElem?_eq_some_iff.1 h3).1).trans h3⟩
  · rintro r X hr ⟨hi, hl, hd⟩
    have hy := run_yield (P := P) (args := L.getD r #[]) hl (by rw [hrc]; exact hps r hr)
    rw [hrc] at hy
    refine ⟨fn, _, assign, body, hy, roundIn_of_wpIn hfn (hassign _ r X _ hr ⟨_, run_beginRound hl (by rw [hrc]), ?_⟩)⟩
    obtain ⟨X2, hX2⟩ : ∃ X2, X2 = X.putObj (B + 1) (.loop { rc .ready none with state := .busy }) := ⟨_, rfl⟩
    have hg2 : GrC w.heap.size X X2 := by rw [hX2]; exact .put _ (by omega) hl rfl
    have hl2 : X2.heap[B + 1]? = some (.loop { rc .ready none with state := .busy }) := by rw [hX2]; exact World.putObj_heap_same (Array.getElem?_eq_some_iff.1 hl).1
    have hd2 : X2.heap[B]? = some (.deferred (some [])) := by rw [hX2]; exact (World.putObj_heap_other (by omega)).trans hd
    rw [← hX2]
    refine wpIn_mono (hbody (B + 1) r X2 hr (by have := (Array.getElem?_eq_some_iff.1 hl2).1; omega) (hI r X X2 hi hg2)) ?_
    rintro e a3 Y ⟨hk, hx⟩
    have hl3 : Y.heap[B + 1]? = some (.loop { rc .ready none with state := .busy }) := (hk.same _ (Array.getElem?_eq_some_iff.1 hl2).1 (by rw [hB]; exact ho2)).trans hl2
    have hd3 : Y.heap[B]? = some (.deferred (some [])) := (hk.same _ (Array.getElem?_eq_some_iff.1 hd2).1 (by rw [hB]; exact ho1)).trans hd2
    rcases hx with ⟨rfl, hi3⟩ | ⟨rfl, hi3⟩
    · have he3 := run_endRound (P := P) none hl3
      refine ⟨_, _, he3, Or.inl ⟨rfl, hI _ Y _ hi3 (.put _ (by omega) hl3 rfl), ?_, (World.putObj_heap_other (by omega)).trans hd3⟩⟩
      rw [World.putObj_heap_same (Array.getElem?_eq_some_iff.1 hl3).1, hrc]
      rfl
    · have he3 := run_endRound (P := P) (some .ret) hl3
      refine ⟨_, _, he3, Or.inr ⟨rfl, hIx _ Y _ hi3 (.put _ (by omega) hl3 rfl), ?_, (World.putObj_heap_other (by omega)).trans hd3⟩⟩
      rw [World.putObj_heap_same (Array.getElem?_eq_some_iff.1 hl3).1, hrc]
      rfl
  · rintro e Y ⟨⟨v, rfl⟩, ⟨hi, hl, hd⟩ | ⟨r, hr, hi, hl, hd⟩⟩
    · have he := run_endLoop (P := P) hl (by rw [hrc]; simp)
      refine ⟨none, _, by rw [he, hrc], ?_⟩
      have := hdone B (Y.putObj (B + 1) (.loop { rc .ready none with state := .exhausted })) (by omega) (hI _ Y _ hi (.put _ (by omega) hl rfl)) ((World.putObj_heap_other (by omega)).trans hd)
      rw [hB] at this ⊢
      simpa [hrc] using this
    · have he := run_endLoop (P := P) hl (by rw [hrc]; simp)
      refine ⟨some .ret, _, by rw [he, hrc], ?_⟩
      have := hstop B r (Y.putObj (B + 1) (.loop { rc .done (some .ret) with state := .exhausted })) (by omega) hr (hIx _ Y _ hi (.put _ (by omega) hl rfl)) ((World.putObj_heap_other (by omega)).trans hd)
      rw [hB] at this ⊢
      refine wpIn_ret ?_
      simpa [hrc] using this
end Go.Proofs.Ytafebmhbfmdjlaa
