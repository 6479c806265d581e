/- Texts of ours, one behind the other: W11 I1 I2 I3 I4 I5 I6 I7 I8 I9 I10 I11 I12 I13 I14 I15 I16 I18 I19 I20 I21. -/
import Derived.Deep.RegionHeld3
import Derived.WalkKit
import Derived.Test.YtillljojdnofgaaZS3
import Derived.Test.YtillljojdnofgaaZL10
import Derived.Test.YtillljojdnofgaaZW4
import Derived.Test.YtillljojdnofgaaZS9
/- A region that draws its order and whose last operation, which waits for all others, writes what another one reads. No Go text here. -/
namespace Go.Proofs.Ytillljojdnofgaa
open Go

/-- Whatever order is picked from here on; S holds behind every operation but number L. -/
def wpAnyX (P : Program) (ops : Array Oper) (Q : Exit → Act → World → Prop) (S : World → Prop) (L : Nat) : Nat → Array Bool → Act → World → Prop
  | 0, s, a, w => Region.ready .any ops s = [] ∧ Q .normal a w
  | f + 1, s, a, w => (Region.ready .any ops s = [] → Q .normal a w) ∧ ∀ i ∈ Region.ready .any ops s, wpOp P ops Q i (fun a' w' => (i ≠ L → S w') ∧ wpAnyX P ops Q S L f (s.setIfInBounds i true) a' w') a w
theorem wpAny_of_X {P : Program} {ops : Array Oper} {Q : Exit → Act → World → Prop} {S : World → Prop} {L : Nat} : ∀ (f : Nat) (s : Array Bool) (a : Act) (w : World), wpAnyX P ops Q S L f s a w → wpAny P .any ops Q f s a w
  | 0, _, _, _, h => h
  | f + 1, _, _, _, h => ⟨h.1, fun i hi => wpOp_mono (fun a' w' h' => wpAny_of_X f _ a' w' h'.2) (h.2 i hi)⟩
/-- Does number L wait for number i? -/
def waitsB (ops : Array Oper) (L i : Nat) : Bool := ((ops[L]?).map fun o => o.after.any fun e => Region.binds .any e && e.on == i).getD false
theorem waits_not {ops : Array Oper} {L i : Nat} {s : Array Bool} (h : waitsB ops L i = true) (hi : s.getD i true = false) : L ∉ Region.ready .any ops s := by
  intro hL
  obtain ⟨_, o, ho, hall⟩ := mem_ready.1 hL
  unfold waitsB at h
  rw [ho] at h
  obtain ⟨e, he, hb⟩ := Array.any_eq_true'.1 (show (o.after.any fun e => Region.binds .any e && e.on == i) = true from h)
  rw [Bool.and_eq_true, beq_iff_eq] at hb
  have h1 := hall e he hb.1
  rw [hb.2] at h1
  rcases Nat.lt_or_ge i s.size with h' | h'
  · simp [h'] at hi h1; rw [hi] at h1; cases h1
  · simp [Array.getElem?_eq_none h'] at h1
theorem wpAnyX_first {P : Program} {ops : Array Oper} {Q : Exit → Act → World → Prop} {S : World → Prop} {L i : Nat} {oi : Oper} {v : Value} (hi : ops[i]? = some oi) (hsel : ∀ (j : Nat) (o : Oper) cs b, ops[j]? = some o → o.op ≠ .select cs b)
    (hQ : ∀ c a w, Q (.panic c) (a.put oi.dst v) w → Q (.panic c) a w) (hL : waitsB ops L i = true) :
    ∀ (f : Nat) (s : Array Bool) (a : Act) (w : World),
      (∀ j oj, ops[j]? = some oj → j ≠ i → s.getD j true = false → (∀ e ∈ oj.after, Region.binds .any e = true → e.on ≠ i) → oi.apart ops oj = true) →
      i ∈ Region.ready .any ops s → YieldsIf P ops S oi v a → S w →
      wpAnyX P ops Q S L f (s.setIfInBounds i true) (a.put oi.dst v) w → wpAnyX P ops Q S L (f + 1) s a w := by
  intro f
  induction f with
  | zero =>
    intro s a w _ hr hy hS H
    refine ⟨fun h => (by rw [h] at hr; cases hr), fun j hj => ?_⟩
    by_cases hji : j = i
    · subst hji; exact hy.wpOp hi hS ⟨fun _ => hS, H⟩
    · have := ready_mono hj hji
      rw [H.1] at this
      cases this
  | succ f ih =>
    intro s a w hfree hr hy hS H
    refine ⟨fun h => (by rw [h] at hr; cases hr), fun j hj => ?_⟩
    by_cases hji : j = i
    · subst hji; exact hy.wpOp hi hS ⟨fun _ => hS, H⟩
    · have h1 := H.2 j (ready_mono hj hji)
      have hjL : j ≠ L := fun e => waits_not hL (mem_ready.1 hr).1 (e ▸ hj)
      obtain ⟨hjun, oj, hoj, hall⟩ := mem_ready.1 hj
      have hnot : ∀ e ∈ oj.after, Region.binds .any e = true → e.on ≠ i := fun e he hb heq => by
        have h1 := hall e he hb
        have h0 := (mem_ready.1 hr).1
        rw [heq] at h1
        rcases Nat.lt_or_ge i s.size with h' | h'
        · simp [h'] at h0 h1; rw [h0] at h1; cases h1
        · simp [Array.getElem?_eq_none h'] at h1
      have h2 := wpOp_putIf hoj (hfree j oj hoj hji hjun hnot) (fun cs b => hsel i oi cs b hi) (fun cs b => hsel j oj cs b hoj) hQ hy h1
      have hfree' : ∀ k ok, ops[k]? = some ok → k ≠ i → (s.setIfInBounds j true).getD k true = false →
          (∀ e ∈ ok.after, Region.binds .any e = true → e.on ≠ i) → oi.apart ops ok = true := fun k ok hk hki hun hno => by
        refine hfree k ok hk hki ?_ hno
        by_cases hjk : j = k
        · subst hjk; exact hjun
        · rw [getD_set_ne true hjk] at hun; exact hun
      refine wpOp_mono (fun a' w' h3 => ⟨fun _ => h3.2.1 hjL, ih (s.setIfInBounds j true) a' w' hfree' (ready_mono hr (Ne.symm hji)) h3.1 (h3.2.1 hjL) ?_⟩) h2
      rw [Array.setIfInBounds_comm _ _ hji]
      exact h3.2.2
/-- Take number i first. -/
theorem wpAnyX_take {P : Program} {ops : Array Oper} {Q : Exit → Act → World → Prop} {S : World → Prop} {L i : Nat} {oi : Oper} {v : Value} {f : Nat} {s : Array Bool} {a : Act} {w : World} (hi : ops[i]? = some oi)
    (hs : Region.noSelect ops = true) (hf : Region.free .any ops s i = true) (hr : (Region.ready .any ops s).contains i = true) (hL : waitsB ops L i = true)
    (hQ : ∀ c a w, Q (.panic c) (a.put oi.dst v) w → Q (.panic c) a w) (hS : S w) (hy : YieldsIf P ops S oi v a)
    (h : wpAnyX P ops Q S L f (s.setIfInBounds i true) (a.put oi.dst v) w) : wpAnyX P ops Q S L (f + 1) s a w :=
  wpAnyX_first hi (Region.noSelect_spec hs) hQ hL f s a w (Region.free_spec hi hf) (by simpa using hr) hy hS h
/-- Number i is the only one that may come now. -/
theorem wpAnyX_one {P : Program} {ops : Array Oper} {Q : Exit → Act → World → Prop} {S : World → Prop} {L i : Nat} {o : Oper} {f : Nat} {s : Array Bool} {a : Act} {w : World} (hr : Region.ready .any ops s = [i]) (ho : ops[i]? = some o)
    (h : ∀ K : Act → World → Prop, (∀ a' w', (i ≠ L → S w') → wpAnyX P ops Q S L f (s.setIfInBounds i true) a' w' → K a' w') → if Region.wanted o (yielded ops a.tmps) = true then Oper.wp P o a w K Q else K (a.put o.dst undef) w) : wpAnyX P ops Q S L (f + 1) s a w := by
  refine ⟨fun e => (by rw [hr] at e; cases e), fun j hj => ?_⟩
  rw [hr, List.mem_singleton] at hj
  subst hj
  have h1 := h (fun a' w' => (j ≠ L → S w') ∧ wpAnyX P ops Q S L f (s.setIfInBounds j true) a' w') (fun a' w' h1 h2 => ⟨h1, h2⟩)
  unfold wpOp
  simp only [ho]
  split
  · rename_i hw
    rw [if_pos hw] at h1
    exact Or.inl h1
  · rename_i hw
    rw [if_neg hw] at h1
    exact h1
theorem wpAnyX_done {P : Program} {ops : Array Oper} {Q : Exit → Act → World → Prop} {S : World → Prop} {L : Nat} {s : Array Bool} {a : Act} {w : World} (hr : Region.ready .any ops s = []) (h : Q .normal a w) : wpAnyX P ops Q S L 0 s a w := ⟨hr, h⟩
theorem wp_region_X {P : Program} {ops : Array Oper} {Q : Exit → Act → World → Prop} {S : World → Prop} (L : Nat) {id : Nat} {a : Act} {w : World} (hm : P.follows .mixedOrders = true)
    (h : wpAnyX P ops Q S L ops.size (Array.replicate ops.size false) a w.drew) : (Code.region id ops true).wp P Q a w :=
  wp_region_any hm (wpAny_of_X _ _ _ _ h)
end Go.Proofs.Ytillljojdnofgaa

/- Codes: what is said of one (the program's code.Check, the reference's CodeMay). -/
namespace Go.Proofs.Ytillljojdnofgaa
open Go.RowKit Go.Sort

end Go.Proofs.Ytillljojdnofgaa

/- Codes: the reference's CodeMay. -/
namespace Go.Proofs.Ytillljojdnofgaa
open Go.RowKit Go.Sort

end Go.Proofs.Ytillljojdnofgaa

/- Independent rows: the reduced form has as many; what makes nothing 0 but 0. Plain mathematics. -/
namespace Go.Proofs.Ytillljojdnofgaa
open Go.RowKit

end Go.Proofs.Ytillljojdnofgaa

/- Codes: one form, and the dual (the program's oneForm, unit, dual). -/
namespace Go.Proofs.Ytillljojdnofgaa
open Go.RowKit Go.Sort

end Go.Proofs.Ytillljojdnofgaa

/- Codes: the rows that tell one place each (unit), and the dual. -/
namespace Go.Proofs.Ytillljojdnofgaa
open Go.RowKit Go.Sort

end Go.Proofs.Ytillljojdnofgaa

/- Codes: a word, and another one so many times (span.Plus). -/
namespace Go.Proofs.Ytillljojdnofgaa
open Go.RowKit Go.Sort

end Go.Proofs.Ytillljojdnofgaa

/- Sums of codes: plain mathematics. -/
namespace Go.Proofs.Ytillljojdnofgaa
open Go.RowKit

end Go.Proofs.Ytillljojdnofgaa

/- Sums of codes: what is left of rows (the program's sum), its state. -/
namespace Go.Proofs.Ytillljojdnofgaa
open Go.RowKit Go.Sort

end Go.Proofs.Ytillljojdnofgaa

/- Sums of codes: the program's sum. -/
namespace Go.Proofs.Ytillljojdnofgaa
open Go.RowKit Go.Sort

end Go.Proofs.Ytillljojdnofgaa

/- Sums of codes and what both have: the program's checkBoth, Sum, Meet. -/
namespace Go.Proofs.Ytillljojdnofgaa
open Go.RowKit Go.Sort

end Go.Proofs.Ytillljojdnofgaa

/- Sums of codes and what both have: the program's Sum and Meet of codes that may be. -/
namespace Go.Proofs.Ytillljojdnofgaa
open Go.RowKit Go.Sort

end Go.Proofs.Ytillljojdnofgaa

/- Codes: one form and the dual, of the reference (Made, DualOf). -/
namespace Go.Proofs.Ytillljojdnofgaa
open Go.RowKit Go.Sort

theorem OwnV.same {base : Nat} {v : Value} {l : List Value} {w w' : World} (h : OwnV base v l w) (hb : ∀ g, v.ownBlock = some g → w'.heap[g]? = w.heap[g]?) : OwnV base v l w' := by
  obtain ⟨h1, h2⟩ := h
  refine ⟨h1, ?_⟩
  rcases h2 with h2 | ⟨g, cap, cur, hv, hg, hh, r⟩
  · exact Or.inl h2
  · exact Or.inr ⟨g, cap, cur, hv, hg, by rw [hb g (by rw [hv]; rfl)]; exact hh, r⟩
end Go.Proofs.Ytillljojdnofgaa

/- Codes: rows of two codes in one list; what both have, of the reference (Both). -/
namespace Go.Proofs.Ytillljojdnofgaa
open Go.RowKit Go.Sort

end Go.Proofs.Ytillljojdnofgaa

/- CodePairs: codes held against one another; the ways on which there is nothing. -/
namespace Go.Proofs.Ytillljojdnofgaa
open Go.RowKit Go.Sort

end Go.Proofs.Ytillljojdnofgaa

/- CodePairs: the way of an error. -/
namespace Go.Proofs.Ytillljojdnofgaa
open Go.RowKit Go.Sort

end Go.Proofs.Ytillljojdnofgaa

/- CodePairs: two codes that may be. -/
namespace Go.Proofs.Ytillljojdnofgaa
open Go.RowKit Go.Sort

end Go.Proofs.Ytillljojdnofgaa

/- Make and Dual, with their checks. -/
namespace Go.Proofs.Ytillljojdnofgaa
open Go.RowKit Go.Sort

end Go.Proofs.Ytillljojdnofgaa

/- Weights and distances of words, on both sides. -/
namespace Go.Proofs.Ytillljojdnofgaa
open Go.RowKit Go.Sort

end Go.Proofs.Ytillljojdnofgaa

/- Numbers of a word: may they be? The program's numbers. -/
namespace Go.Proofs.Ytillljojdnofgaa
open Go.RowKit Go.Sort

end Go.Proofs.Ytillljojdnofgaa

/- Encode: the sum of the rows of the one form. -/
namespace Go.Proofs.Ytillljojdnofgaa
open Go.RowKit Go.Sort

end Go.Proofs.Ytillljojdnofgaa
