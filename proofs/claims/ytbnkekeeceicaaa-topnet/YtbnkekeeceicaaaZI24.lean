/- Texts of ours, one behind the other: I24 S13 W12 S20 KA1 KA2 KA3 S23 S24 S25 S27 S28 W13 S29 KF1. -/
import Derived.Test.YtbnkekeeceicaaaZS9
import Derived.Test.YtbnkekeeceicaaaZA1
import Derived.Test.YtbnkekeeceicaaaZB3
import Derived.Test.YtbnkekeeceicaaaZM3
import Derived.Test.YtbnkekeeceicaaaZR5
import Derived.Deep.CutBlock
import Derived.Deep.DeepCutAuto
import Derived.Test.YtbnkekeeceicaaaZX19
import Derived.Test.YtbnkekeeceicaaaZL10
/- WordMay and Dot of the reference. -/
namespace Go.Proofs.Ytbnkekeeceicaaa
open Go.RowKit Go.Sort

end Go.Proofs.Ytbnkekeeceicaaa

/- Plain mathematics: what makes rows 0 is what the null rows span; the dual of the dual. No Go text here. -/
namespace Go.Proofs.Ytbnkekeeceicaaa

theorem dot_nrv {D : FD} (F : Fld D) {n k : Nat} {R : Nat → Nat → Nat} {p : Nat → Nat} (h : RRE D n k R p) {i c : Nat} (hi : i < k) (hc : c < n) (hf : ∀ j, j < k → p j ≠ c) : ∀ r, r ≤ k → dot D (R i) (nrv D R p c r) n = if i < r then 0 else R i c
  | 0, _ => by rw [if_neg (by omega)]; exact dot_unit F (h.el i hi c) hc
  | r + 1, hr => by
    have e : nrv D R p c (r + 1) = fun t => if t = p r then D.ng (R r c) else nrv D R p c r t := rfl
    have h0 : nrv D R p c r (p r) = 0 := by
      rw [nrv_free r (fun j hj e => by have := h.mono j r hj (by omega); omega), if_neg (hf r (by omega))]
    rw [e, dot_put F h0 n (h.lt r (by omega)), dot_nrv F h hi hc hf r (by omega)]
    by_cases e2 : i = r
    · subst e2
      rw [if_neg (by omega), if_pos (by omega), h.one i hi, omul F (ng_lt F (h.el i hi c)), ad_ng F (h.el i hi c)]
    · rw [h.zero i r hi (by omega) e2, zmul F]
      by_cases e3 : i < r
      · rw [if_pos e3, if_pos (by omega), ad_zero F (zero_lt' F)]
      · rw [if_neg e3, if_neg (by omega), ad_zero F (h.el i hi c)]
theorem nul_orth {D : FD} (F : Fld D) {n k : Nat} {R : Nat → Nat → Nat} {p : Nat → Nat} (h : RRE D n k R p) {i j : Nat} (hi : i < k) (hj : j < nct k p n) : dot D (R i) (nul D R p k n j) n = 0 := by
  have h1 := fcs_ok n j hj
  have h2 := dot_nrv F h hi h1.1 h1.2 k (Nat.le_refl _)
  rw [if_pos hi] at h2
  exact h2
end Go.Proofs.Ytbnkekeeceicaaa

/- A region that draws its order: one of two operations comes next. No Go text here. -/
namespace Go.Proofs.Ytbnkekeeceicaaa
open Go

/-- One of two may come now. -/
theorem wpAnyX_two {P : Program} {ops : Array Oper} {Q : Exit → Act → World → Prop} {S : World → Prop} {L i k : Nat} {o o' : Oper} {f : Nat} {s : Array Bool} {a : Act} {w : World} (hr : Region.ready .any ops s = [i, k]) (ho : ops[i]? = some o) (ho' : ops[k]? = some o')
    (h : ∀ K : Act → World → Prop, (∀ a' w', (i ≠ L → S w') → wpAnyX P ops Q S L f (s.setIfInBounds i true) a' w' → K a' w') → if Region.wanted o (yielded ops a.tmps) = true then Oper.wp P o a w K Q else K (a.put o.dst undef) w)
    (h' : ∀ K : Act → World → Prop, (∀ a' w', (k ≠ L → S w') → wpAnyX P ops Q S L f (s.setIfInBounds k true) a' w' → K a' w') → if Region.wanted o' (yielded ops a.tmps) = true then Oper.wp P o' a w K Q else K (a.put o'.dst undef) w) : wpAnyX P ops Q S L (f + 1) s a w := by
  refine ⟨fun e => (by rw [hr] at e; cases e), fun j hj => ?_⟩
  rw [hr, List.mem_cons, List.mem_singleton] at hj
  rcases hj with hj | hj
  · subst hj
    have h1 := h (fun a' w' => (j ≠ L → S w') ∧ wpAnyX P ops Q S L f (s.setIfInBounds j true) a' w') (fun a' w' h1 h2 => ⟨h1, h2⟩)
    unfold wpOp
    simp only [ho]
    split
    · rename_i hw
      rw [if_pos hw] at h1
      exact Or.inl h1
    · rename_i hw
      rw [if_neg hw] at h1
      exact h1
  · subst hj
    have h1 := h' (fun a' w' => (j ≠ L → S w') ∧ wpAnyX P ops Q S L f (s.setIfInBounds j true) a' w') (fun a' w' h1 h2 => ⟨h1, h2⟩)
    unfold wpOp
    simp only [ho']
    split
    · rename_i hw
      rw [if_pos hw] at h1
      exact Or.inl h1
    · rename_i hw
      rw [if_neg hw] at h1
      exact h1
end Go.Proofs.Ytbnkekeeceicaaa

/- Plain mathematics: how many sets there are; Krawtchouk's numbers. No Go text here. -/
namespace Go.Proofs.Ytbnkekeeceicaaa

end Go.Proofs.Ytbnkekeeceicaaa

/- Weights: powers and numbers of sets (the program's power, over). -/
namespace Go.Proofs.Ytbnkekeeceicaaa
open Go.RowKit

end Go.Proofs.Ytbnkekeeceicaaa

/- Weights: Krawtchouk's numbers (the program's krawtchouk). -/
namespace Go.Proofs.Ytbnkekeeceicaaa
open Go.RowKit

end Go.Proofs.Ytbnkekeeceicaaa

/- Weights: Krawtchouk's numbers (the reference's Kraw). -/
namespace Go.Proofs.Ytbnkekeeceicaaa
open Go.RowKit

end Go.Proofs.Ytbnkekeeceicaaa

/- Plain mathematics: sets that are great and meet little are few (Johnson). No Go text here. -/
namespace Go.Proofs.Ytbnkekeeceicaaa

end Go.Proofs.Ytbnkekeeceicaaa

/- Plain mathematics of Sudan's sum: a message that agrees at many places makes it nought. No Go text here. -/
namespace Go.Proofs.Ytbnkekeeceicaaa
open Go.RowKit Go.Sort

end Go.Proofs.Ytbnkekeeceicaaa

/- Plain mathematics of Sudan's sum, second part: the curve of a message that agrees at t places is nought. No Go text here. -/
namespace Go.Proofs.Ytbnkekeeceicaaa
open Go.RowKit Go.Sort

end Go.Proofs.Ytbnkekeeceicaaa

/- Plain mathematics of words that are mended: one near message; what meets the equations; the error locator. No Go text here. -/
namespace Go.Proofs.Ytbnkekeeceicaaa
open Go.RowKit Go.Sort

end Go.Proofs.Ytbnkekeeceicaaa

/- Plain mathematics of Euclid's way to mend a word: what stays as it goes on; what stands at its end. No Go text here. -/
namespace Go.Proofs.Ytbnkekeeceicaaa
open Go.RowKit Go.Sort

end Go.Proofs.Ytbnkekeeceicaaa

/- A region that draws its order and whose late operations, which wait for all that read, write what others read. No Go text here. -/
namespace Go.Proofs.Ytbnkekeeceicaaa
open Go

/-- Whatever order is picked from here on; S holds behind every operation but the late ones. -/
def wpAnyL (P : Program) (ops : Array Oper) (Q : Exit → Act → World → Prop) (S : World → Prop) (L : List Nat) : Nat → Array Bool → Act → World → Prop
  | 0, s, a, w => Region.ready .any ops s = [] ∧ Q .normal a w
  | f + 1, s, a, w => (Region.ready .any ops s = [] → Q .normal a w) ∧ ∀ i ∈ Region.ready .any ops s, wpOp P ops Q i (fun a' w' => (i ∉ L → S w') ∧ wpAnyL P ops Q S L f (s.setIfInBounds i true) a' w') a w
theorem wpAny_of_L {P : Program} {ops : Array Oper} {Q : Exit → Act → World → Prop} {S : World → Prop} {L : List Nat} : ∀ (f : Nat) (s : Array Bool) (a : Act) (w : World), wpAnyL P ops Q S L f s a w → wpAny P .any ops Q f s a w
  | 0, _, _, _, h => h
  | f + 1, _, _, _, h => ⟨h.1, fun i hi => wpOp_mono (fun a' w' h' => wpAny_of_L f _ a' w' h'.2) (h.2 i hi)⟩
theorem done_at {s : Array Bool} {k : Nat} (h : s.getD k false = true) : s[k]? = some true := by
  rcases Nat.lt_or_ge k s.size with h1 | h1
  · rw [Array.getElem?_eq_getElem h1]
    simp [h1] at h
    rw [h]
  · simp [Array.getElem?_eq_none h1] at h
/-- Is all done that what is done has waited for? -/
def Closed (ops : Array Oper) (s : Array Bool) : Prop := ∀ m o, ops[m]? = some o → s.getD m true = true → ∀ e ∈ o.after, Region.binds .any e = true → s[e.on]? = some true
def closedB (ops : Array Oper) (s : Array Bool) : Bool := (List.range ops.size).all fun m => !(s.getD m true) || ((ops[m]?).map fun o => o.after.all fun e => !(Region.binds .any e) || (s[e.on]? == some true)).getD true
theorem closed_of {ops : Array Oper} {s : Array Bool} (h : closedB ops s = true) : Closed ops s := by
  intro m o ho hm e he hb
  have hlt : m < ops.size := by
    rcases Nat.lt_or_ge m ops.size with h1 | h1
    · exact h1
    · rw [Array.getElem?_eq_none h1] at ho; cases ho
  have h1 := List.all_eq_true.1 h m (List.mem_range.2 hlt)
  rw [hm, ho] at h1
  have h2 : (o.after.all fun e => !(Region.binds .any e) || (s[e.on]? == some true)) = true := by simpa using h1
  have h3 := Array.all_eq_true'.1 h2 e he
  rw [hb] at h3
  simpa using h3
theorem closed_step {ops : Array Oper} {s : Array Bool} (h : Closed ops s) {j : Nat} (hj : j ∈ Region.ready .any ops s) : Closed ops (s.setIfInBounds j true) := by
  intro m o ho hm e he hb
  obtain ⟨hjun, oj, hoj, hall⟩ := mem_ready.1 hj
  have key : s[e.on]? = some true := by
    by_cases e1 : j = m
    · subst e1
      rw [ho] at hoj
      cases hoj
      exact done_at (hall e he hb)
    · rw [getD_set_ne true e1] at hm
      exact h m o ho hm e he hb
  rw [Array.getElem?_setIfInBounds]
  split
  · rename_i e2
    split
    · rfl
    · rename_i h2
      rw [← e2] at key
      rw [Array.getElem?_eq_none (by omega)] at key; cases key
  · exact key
/-- Does number j wait for number i, or for one that does? -/
def waitsT (ops : Array Oper) : Nat → Nat → Nat → Bool
  | 0, j, i => waitsB ops j i
  | n + 1, j, i => waitsB ops j i || (List.range ops.size).any fun m => waitsB ops j m && waitsT ops n m i
theorem waits_done {ops : Array Oper} {s : Array Bool} {j i : Nat} {o : Oper} (ho : ops[j]? = some o) (hall : ∀ e ∈ o.after, Region.binds .any e = true → s[e.on]? = some true) (h : waitsB ops j i = true) : s[i]? = some true := by
  unfold waitsB at h
  rw [ho] at h
  obtain ⟨e, he, hb⟩ := Array.any_eq_true'.1 (show (o.after.any fun e => Region.binds .any e && e.on == i) = true from h)
  rw [Bool.and_eq_true, beq_iff_eq] at hb
  rw [← hb.2]
  exact hall e he hb.1
theorem waitsT_done {ops : Array Oper} {s : Array Bool} (hc : Closed ops s) {i : Nat} : ∀ (n j : Nat) (o : Oper), ops[j]? = some o → (∀ e ∈ o.after, Region.binds .any e = true → s[e.on]? = some true) → waitsT ops n j i = true → s[i]? = some true
  | 0, j, o, ho, hall, h => waits_done ho hall h
  | n + 1, j, o, ho, hall, h => by
    have h : (waitsB ops j i || (List.range ops.size).any fun m => waitsB ops j m && waitsT ops n m i) = true := h
    rw [Bool.or_eq_true] at h
    rcases h with h | h
    · exact waits_done ho hall h
    · obtain ⟨m, hm, hw⟩ := List.any_eq_true.1 h
      rw [Bool.and_eq_true] at hw
      have hd := waits_done ho hall hw.1
      have hlt := List.mem_range.1 hm
      obtain ⟨om, hom⟩ : ∃ om, ops[m]? = some om := ⟨ops[m], Array.getElem?_eq_getElem hlt⟩
      refine waitsT_done hc n m om hom (hc m om hom ?_) hw.2
      simp [Array.getD_eq_getD_getElem?, hd]
/-- Do all late ones wait for number i? -/
def lateB (ops : Array Oper) (L : List Nat) (i : Nat) : Bool := L.all fun j => waitsT ops 3 j i
theorem late_not {ops : Array Oper} {L : List Nat} {i j : Nat} {s : Array Bool} (hc : Closed ops s) (h : lateB ops L i = true) (hi : s.getD i true = false) (hj : j ∈ Region.ready .any ops s) : j ∉ L := by
  intro hL
  obtain ⟨_, o, ho, hall⟩ := mem_ready.1 hj
  have h1 := waitsT_done hc 3 j o ho (fun e he hb => done_at (hall e he hb)) (List.all_eq_true.1 h j hL)
  simp [Array.getD_eq_getD_getElem?, h1] at hi
theorem wpAnyL_first {P : Program} {ops : Array Oper} {Q : Exit → Act → World → Prop} {S : World → Prop} {L : List Nat} {i : Nat} {oi : Oper} {v : Value} (hi : ops[i]? = some oi) (hsel : ∀ (j : Nat) (o : Oper) cs b, ops[j]? = some o → o.op ≠ .select cs b)
    (hQ : ∀ c a w, Q (.panic c) (a.put oi.dst v) w → Q (.panic c) a w) (hL : lateB ops L i = true) :
    ∀ (f : Nat) (s : Array Bool) (a : Act) (w : World),
      (∀ j oj, ops[j]? = some oj → j ≠ i → s.getD j true = false → (∀ e ∈ oj.after, Region.binds .any e = true → e.on ≠ i) → oi.apart ops oj = true) →
      i ∈ Region.ready .any ops s → Closed ops s → YieldsIf P ops S oi v a → S w →
      wpAnyL P ops Q S L f (s.setIfInBounds i true) (a.put oi.dst v) w → wpAnyL P ops Q S L (f + 1) s a w := by
  intro f
  induction f with
  | zero =>
    intro s a w _ hr _ hy hS H
    refine ⟨fun h => (by rw [h] at hr; cases hr), fun j hj => ?_⟩
    by_cases hji : j = i
    · subst hji; exact hy.wpOp hi hS ⟨fun _ => hS, H⟩
    · have := ready_mono hj hji
      rw [H.1] at this
      cases this
  | succ f ih =>
    intro s a w hfree hr hcl hy hS H
    refine ⟨fun h => (by rw [h] at hr; cases hr), fun j hj => ?_⟩
    by_cases hji : j = i
    · subst hji; exact hy.wpOp hi hS ⟨fun _ => hS, H⟩
    · have h1 := H.2 j (ready_mono hj hji)
      have hjL : j ∉ L := late_not hcl hL (mem_ready.1 hr).1 hj
      obtain ⟨hjun, oj, hoj, hall⟩ := mem_ready.1 hj
      have hnot : ∀ e ∈ oj.after, Region.binds .any e = true → e.on ≠ i := fun e he hb heq => by
        have h1 := hall e he hb
        have h0 := (mem_ready.1 hr).1
        rw [heq] at h1
        rcases Nat.lt_or_ge i s.size with h' | h'
        · simp [h'] at h0 h1; rw [h0] at h1; cases h1
        · simp [Array.getElem?_eq_none h'] at h1
      have h2 := wpOp_putIf hoj (hfree j oj hoj hji hjun hnot) (fun cs b => hsel i oi cs b hi) (fun cs b => hsel j oj cs b hoj) hQ hy h1
      have hfree' : ∀ k ok, ops[k]? = some ok → k ≠ i → (s.setIfInBounds j true).getD k true = false →
          (∀ e ∈ ok.after, Region.binds .any e = true → e.on ≠ i) → oi.apart ops ok = true := fun k ok hk hki hun hno => by
        refine hfree k ok hk hki ?_ hno
        by_cases hjk : j = k
        · subst hjk; exact hjun
        · rw [getD_set_ne true hjk] at hun; exact hun
      refine wpOp_mono (fun a' w' h3 => ⟨fun _ => h3.2.1 hjL, ih (s.setIfInBounds j true) a' w' hfree' (ready_mono hr (Ne.symm hji)) (closed_step hcl hj) h3.1 (h3.2.1 hjL) ?_⟩) h2
      rw [Array.setIfInBounds_comm _ _ hji]
      exact h3.2.2
/-- Take number i first. -/
theorem wpAnyL_take {P : Program} {ops : Array Oper} {Q : Exit → Act → World → Prop} {S : World → Prop} {L : List Nat} {i : Nat} {oi : Oper} {v : Value} {f : Nat} {s : Array Bool} {a : Act} {w : World} (hi : ops[i]? = some oi)
    (hs : Region.noSelect ops = true) (hf : Region.free .any ops s i = true) (hr : (Region.ready .any ops s).contains i = true) (hcl : closedB ops s = true) (hL : lateB ops L i = true)
    (hQ : ∀ c a w, Q (.panic c) (a.put oi.dst v) w → Q (.panic c) a w) (hS : S w) (hy : YieldsIf P ops S oi v a)
    (h : wpAnyL P ops Q S L f (s.setIfInBounds i true) (a.put oi.dst v) w) : wpAnyL P ops Q S L (f + 1) s a w :=
  wpAnyL_first hi (Region.noSelect_spec hs) hQ hL f s a w (Region.free_spec hi hf) (by simpa using hr) (closed_of hcl) hy hS h
/-- Number i is the only one that may come now. -/
theorem wpAnyL_one {P : Program} {ops : Array Oper} {Q : Exit → Act → World → Prop} {S : World → Prop} {L : List Nat} {i : Nat} {o : Oper} {f : Nat} {s : Array Bool} {a : Act} {w : World} (hr : Region.ready .any ops s = [i]) (ho : ops[i]? = some o)
    (h : ∀ K : Act → World → Prop, (∀ a' w', (i ∉ L → S w') → wpAnyL P ops Q S L f (s.setIfInBounds i true) a' w' → K a' w') → if Region.wanted o (yielded ops a.tmps) = true then Oper.wp P o a w K Q else K (a.put o.dst undef) w) : wpAnyL P ops Q S L (f + 1) s a w := by
  refine ⟨fun e => (by rw [hr] at e; cases e), fun j hj => ?_⟩
  rw [hr, List.mem_singleton] at hj
  subst hj
  have h1 := h (fun a' w' => (j ∉ L → S w') ∧ wpAnyL P ops Q S L f (s.setIfInBounds j true) a' w') (fun a' w' h1 h2 => ⟨h1, h2⟩)
  unfold wpOp
  simp only [ho]
  split
  · rename_i hw
    rw [if_pos hw] at h1
    exact Or.inl h1
  · rename_i hw
    rw [if_neg hw] at h1
    exact h1
theorem wpAnyL_done {P : Program} {ops : Array Oper} {Q : Exit → Act → World → Prop} {S : World → Prop} {L : List Nat} {s : Array Bool} {a : Act} {w : World} (hr : Region.ready .any ops s = []) (h : Q .normal a w) : wpAnyL P ops Q S L 0 s a w := ⟨hr, h⟩
theorem wp_region_L {P : Program} {ops : Array Oper} {Q : Exit → Act → World → Prop} {S : World → Prop} (L : List Nat) {id : Nat} {a : Act} {w : World} (hm : P.follows .mixedOrders = true)
    (h : wpAnyL P ops Q S L ops.size (Array.replicate ops.size false) a w.drew) : (Code.region id ops true).wp P Q a w :=
  wp_region_any hm (wpAny_of_L _ _ _ _ h)
end Go.Proofs.Ytbnkekeeceicaaa

/- Plain mathematics of words that are mended by equations: there is a solution where a near message is, and each solution tells it. No Go text here. -/
namespace Go.Proofs.Ytbnkekeeceicaaa
open Go.RowKit Go.Sort

theorem dt_dot {D : FD} (u v : Nat → Nat) : ∀ n, dt D u v n = dot D u v n
  | 0 => rfl
  | n + 1 => by
    show D.ad (dt D u v n) (D.mul (u n) (v n)) = D.ad (dot D u v n) (D.mul (u n) (v n))
    rw [dt_dot u v n]
end Go.Proofs.Ytbnkekeeceicaaa

/- Nets: which may be (net.Check, checkTo; the reference's NetMay, SinkMay). -/
namespace Go.Proofs.Ytbnkekeeceicaaa
open Go.RowKit Go.Sort

/-- Edges that are handed in. -/
def EdZ (eo : Option Addr) (m : Nat) (F T : Nat → Int) (w : World) : Prop := ∀ j, j < m → ∃ b off, eo = some ⟨b, off, none⟩ ∧ w.cell? ⟨b, off + j * 2, none⟩ = some (.int .i64 (F j)) ∧ w.cell? ⟨b, off + j * 2 + 1, none⟩ = some (.int .i64 (T j))
theorem EdZ.below {eo : Option Addr} {m : Nat} {F T : Nat → Int} {w w' : World} (h : EdZ eo m F T w) (hb : Below w.heap.size w w') : EdZ eo m F T w' := fun j hj => by
  obtain ⟨b, off, e, h0, h1⟩ := h j hj
  exact ⟨b, off, e, ((bcell hb).1 b _ (cell_lt h0)).trans h0, ((bcell hb).1 b _ (cell_lt h0)).trans h1⟩
/-- Are all edges edges? -/
def edOk (n : Int) (F T : Nat → Int) : Nat → Bool
  | 0 => true
  | i + 1 => edOk n F T i && decide (0 ≤ F i ∧ F i < T i ∧ T i < n)
theorem edOk_no {n : Int} {F T : Nat → Int} {i : Nat} (h : ¬ (0 ≤ F i ∧ F i < T i ∧ T i < n)) : ∀ m, i < m → edOk n F T m = false
  | 0, hi => absurd hi (by omega)
  | m + 1, hi => by
    show (edOk n F T m && decide (0 ≤ F m ∧ F m < T m ∧ T m < n)) = false
    by_cases e : i = m
    · subst e; rw [decide_eq_false h, Bool.and_false]
    · rw [edOk_no h m (by omega), Bool.false_and]
theorem edOk_yes {n : Int} {F T : Nat → Int} {i : Nat} (h0 : edOk n F T i = true) (h : 0 ≤ F i ∧ F i < T i ∧ T i < n) : edOk n F T (i + 1) = true := by
  show (edOk n F T i && decide (0 ≤ F i ∧ F i < T i ∧ T i < n)) = true
  rw [h0, decide_eq_true h]; rfl
/-- What is said of a net. -/
def nchkE (n : Int) (m : Nat) (F T : Nat → Int) : Int := if n < 2 ∨ 10 < n ∨ 24 < m then 4 else if edOk n F T m = true then 0 else 10
/-- A net's cells, in block b. -/
structure NB (b : Nat) (n : Int) (v : Value) (w : World) : Prop where
  c0 : w.cell? ⟨b, 0, none⟩ = some (.int .i64 n)
  c1 : w.cell? ⟨b, 1, none⟩ = some v
theorem NB.new (n : Int) (v : Value) (w : World) : NB w.heap.size n v (w.alloc (.cells #[.int .i64 n, v] 25)) :=
  ⟨by rw [cell_of_row _ _ _ _ _ (0, 0) (two_new _)]; rfl, by rw [cell_of_row _ _ _ _ _ (0, 0) (two_new _)]; rfl⟩
theorem NB.keep {b : Nat} {n : Int} {v : Value} {w w' : World} (h : NB b n v w) (hb : Below w.heap.size w w') : NB b n v w' :=
  ⟨((bcell hb).1 b 0 (cell_lt h.c0)).trans h.c0, ((bcell hb).1 b 1 (cell_lt h.c0)).trans h.c1⟩

set_option maxHeartbeats 8000000 in
set_option maxRecDepth 100000 in
theorem nCheck_any (n : Int) {eo : Option Addr} {m ec : Nat} {F T : Nat → Int} {w : World} (hE : EdZ eo m F T w) (hm : m ≤ 1000000) :
    Calls Try.prog 30 #[.agg #[.int .i64 n, .slice eo m ec]] w fun e w' => e = .returned (.int .i64 (nchkE n m F T)) ∧ Below w.heap.size w w' := by
  obtain ⟨wa, hwa⟩ : ∃ wa, wa = w.alloc (.cells #[.int .i64 n, .slice eo m ec] 25) := ⟨_, rfl⟩
  obtain ⟨R, hR⟩ : ∃ R, R = nchkE n m F T := ⟨_, rfl⟩
  obtain ⟨B, hB⟩ : ∃ B, B = w.heap.size := ⟨_, rfl⟩
  have HA : Hid (NB B n (.slice eo m ec) wa ∧ EdZ eo m F T w ∧ Below w.heap.size w wa ∧ R = nchkE n m F T) := by
    refine ⟨by rw [hwa, hB]; exact NB.new _ _ _, hE, by rw [hwa]; exact (Below.refl _ _).alloc (Nat.le_refl _) _, hR⟩
  rw [← hR]
  clear hE hR
  go_enter Try.func30, Try.ntmps30
  have hc := HA.out.1
  rw [hwa] at hc
  obtain ⟨c0, c1⟩ := hc
  rw [hB] at c0 c1
  by_cases h1 : n < 2
  · have HV : Hid (R = 4) := by show _ = _; rw [HA.out.2.2.2]; unfold nchkE; rw [if_pos (Or.inl h1)]
    go_wp2
    rw [← hwa]
    go_ret
    exact ⟨by rw [HV.out]; rfl, HA.out.2.2.1⟩
  · by_cases h2 : 10 < n
    · have HV : Hid (R = 4) := by show _ = _; rw [HA.out.2.2.2]; unfold nchkE; rw [if_pos (Or.inr (Or.inl h2))]
      have h2' : n > 10 := h2
      go_wp2
      rw [← hwa]
      go_ret
      exact ⟨by rw [HV.out]; rfl, HA.out.2.2.1⟩
    · have h2' : ¬ n > 10 := h2
      by_cases h3 : 24 < m
      · have HV : Hid (R = 4) := by show _ = _; rw [HA.out.2.2.2]; unfold nchkE; rw [if_pos (Or.inr (Or.inr h3))]
        have h3' : (24 : Int) < (m : Int) := by omega
        have h3'' : (m : Int) > 24 := by omega
        go_wp2
        rw [← hwa]
        go_ret
        exact ⟨by rw [HV.out]; rfl, HA.out.2.2.1⟩
      · have h3' : ¬ (24 : Int) < (m : Int) := by omega
        have h3'' : ¬ (m : Int) > 24 := by omega
        have HV : Hid (R = if edOk n F T m = true then 0 else 10) := by show _ = _; rw [HA.out.2.2.2]; unfold nchkE; rw [if_neg (by omega)]
        go_wp2
        rw [← hwa, ← hB]
        clear c0 c1 hwa hB
        go_loopw [22] (fun vi wx => ∃ i : Nat, i ≤ m ∧ vi = .int .i64 (i : Nat) ∧ Hid (edOk n F T i = true ∧ NB B n (.slice eo m ec) wx ∧ Below w.heap.size w wx)) (fun vi _ => m - (intOf vi).toNat)
        case atStart => exact ⟨0, by omega, rfl, rfl, HA.out.1, HA.out.2.2.1⟩
        case round =>
          obtain ⟨i, hi, rfl, HI⟩ := hrel
          rename World => wr
          by_cases hlt : i < m
          · have hib : (i : Int) < (m : Int) := by omega
            have hib0 : (0 : Int) ≤ (i : Int) := by omega
            obtain ⟨b, off, rfl, e0, e1⟩ := (HA.out.2.1.below HI.out.2.2) i hlt
            obtain ⟨x, hx⟩ : ∃ x, x = F i := ⟨_, rfl⟩
            obtain ⟨y, hy⟩ : ∃ y, y = T i := ⟨_, rfl⟩
            rw [← hx] at e0
            rw [← hy] at e1
            obtain ⟨c0, c1⟩ := HI.out.2.1
            have hal : Below wr.heap.size wr (wr.alloc (.cells #[.int .i64 x, .int .i64 y] 45)) := (Below.refl _ _).alloc (Nat.le_refl _) _
            have HW : Hid (NB B n (.slice (some ⟨b, off, none⟩) m ec) (wr.alloc (.cells #[.int .i64 x, .int .i64 y] 45)) ∧ Below w.heap.size w (wr.alloc (.cells #[.int .i64 x, .int .i64 y] 45))) := ⟨HI.out.2.1.keep hal, bel_up' HI.out.2.2 hal⟩
            have d0 := HW.out.1.c0
            clear hal
            have HNo : Hid (¬ (0 ≤ x ∧ x < y ∧ y < n) → R = 10) := fun h => by
              rw [HV.out, edOk_no (i := i) (by rw [← hx, ← hy]; exact h) m hlt]; rfl
            have HYes : Hid (0 ≤ x ∧ x < y ∧ y < n → edOk n F T (i + 1) = true) := fun h => edOk_yes HI.out.1 (by rw [← hx, ← hy]; exact h)
            clear hx hy
            by_cases k1 : x < 0
            · have HN : Hid (R = 10) := HNo.out (by omega)
              go_wp2
              go_ret
              exact ⟨by rw [HN.out]; rfl, HW.out.2⟩
            · by_cases k2 : y ≤ x
              · have HN : Hid (R = 10) := HNo.out (by omega)
                go_wp2
                go_ret
                exact ⟨by rw [HN.out]; rfl, HW.out.2⟩
              · by_cases k3 : y ≥ n
                · have k3' : n ≤ y := k3
                  have HN : Hid (R = 10) := HNo.out (by omega)
                  go_wp2
                  go_ret
                  exact ⟨by rw [HN.out]; rfl, HW.out.2⟩
                · have k3' : ¬ n ≤ y := k3
                  have HY : Hid (edOk n F T (i + 1) = true) := HYes.out (by omega)
                  go_wp2
                  go_roundw
                  case rel => exact ⟨i + 1, by omega, by go_num, HY.out, HW.out⟩
                  case measure => simp [intOf]; omega
          · have hib : ¬ (i : Int) < (m : Int) := by omega
            have hie : m = i := by omega
            subst hie
            have HN : Hid (R = 0) := by show _ = _; rw [HV.out, HI.out.1]; rfl
            go_wp2
            go_ret
            exact ⟨by rw [HN.out]; rfl, HI.out.2.2⟩

/-- What is said of a net and a node. -/
def skchk (n tx e : Int) : Int := if e ≠ 0 then e else if tx < 1 ∨ n ≤ tx then 10 else 0

set_option maxHeartbeats 4000000 in
set_option maxRecDepth 100000 in
theorem nCheckTo_any (n tx : Int) {eo : Option Addr} {m ec : Nat} {F T : Nat → Int} {w : World} (hE : EdZ eo m F T w) (hm : m ≤ 1000000) :
    Calls Try.prog 17 #[.agg #[.int .i64 n, .slice eo m ec], .int .i64 tx] w fun e w' => e = .returned (.int .i64 (skchk n tx (nchkE n m F T))) ∧ Below w.heap.size w w' := by
  obtain ⟨wa, hwa⟩ : ∃ wa, wa = w.alloc (.cells #[.int .i64 n, .slice eo m ec] 25) := ⟨_, rfl⟩
  obtain ⟨E, hEe⟩ : ∃ E, E = nchkE n m F T := ⟨_, rfl⟩
  have hba : Below w.heap.size w wa := by rw [hwa]; exact (Below.refl _ _).alloc (Nat.le_refl _) _
  have HA : Hid (NB w.heap.size n (.slice eo m ec) wa ∧ Below w.heap.size w wa) := ⟨by rw [hwa]; exact NB.new _ _ _, hba⟩
  have HC : Hid (Calls Try.prog 30 #[.agg #[.int .i64 n, .slice eo m ec]] wa fun e w' => e = .returned (.int .i64 E) ∧ Below wa.heap.size wa w') := by
    rw [hEe]; exact nCheck_any n (hE.below hba) hm
  rw [← hEe]
  clear hE hba hEe
  go_enter Try.func17, Try.ntmps17
  go_wp2_with fail
  rw [← hwa]
  clear hwa
  refine HC.out.mono ?_
  rintro e w1 ⟨rfl, hb1⟩
  have H1 : Hid (NB w.heap.size n (.slice eo m ec) w1 ∧ Below w.heap.size w w1) := ⟨HA.out.1.keep hb1, bel_up' HA.out.2 hb1⟩
  clear hb1
  have hc := H1.out.1
  obtain ⟨c0, c1⟩ := hc
  by_cases h0 : E = 0
  · have z0 : (E != 0) = false := by rw [h0]; rfl
    have HV : Hid (skchk n tx E = if tx < 1 ∨ n ≤ tx then 10 else 0) := by show _ = _; unfold skchk; rw [if_neg (fun x => x h0)]
    clear h0
    by_cases h1 : tx < 1
    · go_wp2
      go_ret
      exact ⟨by rw [HV.out, if_pos (Or.inl h1)]; rfl, H1.out.2⟩
    · by_cases h2 : tx ≥ n
      · have h2' : n ≤ tx := h2
        go_wp2
        go_ret
        exact ⟨by rw [HV.out, if_pos (Or.inr h2)]; rfl, H1.out.2⟩
      · have h2' : ¬ n ≤ tx := h2
        go_wp2
        go_ret
        exact ⟨by rw [HV.out, if_neg (by omega)]; rfl, H1.out.2⟩
  · have z0 : (E != 0) = true := bne_iff_ne.2 h0
    have HV : Hid (skchk n tx E = E) := by show _ = _; unfold skchk; rw [if_pos h0]
    clear h0
    go_wp2
    go_ret
    exact ⟨by rw [HV.out]; rfl, H1.out.2⟩

end Go.Proofs.Ytbnkekeeceicaaa
