/- Texts of ours, one behind the other: S12 I24 S13 W12 S20 KA1 KA2 KA3 S23 S24 S25 S27 S28 W13 S29. -/
import Derived.Test.YtbnkekeeceicaaaGreatZX12
import Derived.Test.YtbnkekeeceicaaaGreatZH1
import Derived.Test.YtbnkekeeceicaaaGreatZA1
import Derived.Test.YtbnkekeeceicaaaGreatZR2
import Derived.Test.YtbnkekeeceicaaaGreatZM3
import Derived.Test.YtbnkekeeceicaaaGreatZN3
import Derived.Deep.CutBlock
import Derived.Deep.DeepCutAuto
/- Plain mathematics: products of rows; what makes rows 0. No Go text here. -/
namespace Go.Proofs.YtbnkekeeceicaaaGreat

/-- The sum of the products of the first numbers of two lists. -/
def dot (D : FD) (a b : Nat → Nat) : Nat → Nat
  | 0 => 0
  | j + 1 => D.ad (dot D a b j) (D.mul (a j) (b j))
theorem dot_lt {D : FD} (F : Fld D) (a b : Nat → Nat) : ∀ j, dot D a b j < D.q
  | 0 => zero_lt' F
  | j + 1 => ad_lt F (dot_lt F a b j) (F.mul_lt _ _)
theorem dot_comm {D : FD} (F : Fld D) (a b : Nat → Nat) : ∀ n, dot D a b n = dot D b a n
  | 0 => rfl
  | n + 1 => by
    show D.ad (dot D a b n) (D.mul (a n) (b n)) = D.ad (dot D b a n) (D.mul (b n) (a n))
    rw [dot_comm F a b n, F.mul_comm (a n)]
theorem dot_nil {D : FD} (F : Fld D) (v : Nat → Nat) : ∀ n, dot D pnil v n = 0
  | 0 => rfl
  | n + 1 => by
    show D.ad (dot D pnil v n) (D.mul 0 (v n)) = 0
    rw [dot_nil F v n, zmul F, ad_zero F (zero_lt' F)]
theorem dot_add {D : FD} (F : Fld D) {a b : Nat → Nat} (ha : El D a) (hb : El D b) (v : Nat → Nat) : ∀ n, dot D (padd D a b) v n = D.ad (dot D a v n) (dot D b v n)
  | 0 => (ad_zero F (zero_lt' F)).symm
  | n + 1 => by
    show D.ad (dot D (padd D a b) v n) (D.mul (D.ad (a n) (b n)) (v n)) = D.ad (D.ad (dot D a v n) (D.mul (a n) (v n))) (D.ad (dot D b v n) (D.mul (b n) (v n)))
    rw [dot_add F ha hb v n, ad_mul F (ha n) (hb n), ad4 F (dot_lt F _ _ _) (dot_lt F _ _ _) (F.mul_lt _ _) (F.mul_lt _ _)]
theorem dot_scale {D : FD} (F : Fld D) (s : Nat) (a v : Nat → Nat) : ∀ n, dot D (pscale D s a) v n = D.mul s (dot D a v n)
  | 0 => (mul0 F s).symm
  | n + 1 => by
    show D.ad (dot D (pscale D s a) v n) (D.mul (D.mul s (a n)) (v n)) = D.mul s (D.ad (dot D a v n) (D.mul (a n) (v n)))
    rw [dot_scale F s a v n, mul_ad F (dot_lt F _ _ _) (F.mul_lt _ _), F.mul_assoc]
/-- What makes rows 0 makes all 0 that they span. -/
theorem dot_spn {D : FD} (F : Fld D) {P : (Nat → Nat) → Prop} {u x : Nat → Nat} {n : Nat} (h : Spn D P u) (hP : ∀ v, P v → dot D v x n = 0) : dot D u x n = 0 := by
  obtain ⟨l, hl, rfl⟩ := h
  induction l with
  | nil => exact dot_nil F x n
  | cons y l ih =>
    show dot D (padd D (pscale D y.1 y.2) (lsum D l)) x n = 0
    rw [dot_add F (el_scale F _ _) (lsum_el F l), dot_scale F, hP _ (hl y (List.mem_cons_self ..)), mul0 F, ih (fun z hz => hl z (List.mem_cons_of_mem _ hz)), ad_zero F (zero_lt' F)]
theorem dot_congr {D : FD} {a a' b b' : Nat → Nat} : ∀ n, (∀ j, j < n → a j = a' j ∧ b j = b' j) → dot D a b n = dot D a' b' n
  | 0, _ => rfl
  | n + 1, h => by
    show D.ad (dot D a b n) (D.mul (a n) (b n)) = D.ad (dot D a' b' n) (D.mul (a' n) (b' n))
    rw [dot_congr n (fun j hj => h j (by omega)), (h n (by omega)).1, (h n (by omega)).2]
/-- A number put where 0 was. -/
theorem dot_put {D : FD} (F : Fld D) {a b : Nat → Nat} {j v : Nat} (hb : b j = 0) : ∀ n, j < n → dot D a (fun t => if t = j then v else b t) n = D.ad (dot D a b n) (D.mul (a j) v)
  | 0, h => absurd h (by omega)
  | n + 1, h => by
    show D.ad (dot D a (fun t => if t = j then v else b t) n) (D.mul (a n) (if n = j then v else b n)) = D.ad (D.ad (dot D a b n) (D.mul (a n) (b n))) (D.mul (a j) v)
    by_cases e : n = j
    · subst e
      rw [if_pos rfl, hb, mul0 F, ad_zero F (dot_lt F _ _ _), dot_congr (a' := a) (b' := b) n (fun t ht => ⟨rfl, if_neg (by omega)⟩)]
    · rw [if_neg e, dot_put F hb n (by omega), ad_assoc F (dot_lt F _ _ _) (F.mul_lt _ _) (F.mul_lt _ _), ad_comm F (D.mul (a j) v), ← ad_assoc F (dot_lt F _ _ _) (F.mul_lt _ _) (F.mul_lt _ _)]
theorem dot_unit {D : FD} (F : Fld D) {a : Nat → Nat} {c n : Nat} (ha : a c < D.q) (hc : c < n) : dot D a (fun t => if t = c then 1 else 0) n = a c := by
  have h := dot_put F (a := a) (b := pnil) (j := c) (v := 1) rfl n hc
  rw [mul1 F ha, dot_comm F a pnil, dot_nil F, zero_ad F ha] at h
  exact h
end Go.Proofs.YtbnkekeeceicaaaGreat

/- WordMay and Dot of the reference. -/
namespace Go.Proofs.YtbnkekeeceicaaaGreat
open Go.RowKit Go.Sort

end Go.Proofs.YtbnkekeeceicaaaGreat

/- Plain mathematics: what makes rows 0 is what the null rows span; the dual of the dual. No Go text here. -/
namespace Go.Proofs.YtbnkekeeceicaaaGreat

theorem dot_nrv {D : FD} (F : Fld D) {n k : Nat} {R : Nat → Nat → Nat} {p : Nat → Nat} (h : RRE D n k R p) {i c : Nat} (hi : i < k) (hc : c < n) (hf : ∀ j, j < k → p j ≠ c) : ∀ r, r ≤ k → dot D (R i) (nrv D R p c r) n = if i < r then 0 else R i c
  | 0, _ => by rw [if_neg (by omega)]; exact dot_unit F (h.el i hi c) hc
  | r + 1, hr => by
    have e : nrv D R p c (r + 1) = fun t => if t = p r then D.ng (R r c) else nrv D R p c r t := rfl
    have h0 : nrv D R p c r (p r) = 0 := by
      rw [nrv_free r (fun j hj e => by have := h.mono j r hj (by omega); omega), if_neg (hf r (by omega))]
    rw [e, dot_put F h0 n (h.lt r (by omega)), dot_nrv F h hi hc hf r (by omega)]
    by_cases e2 : i = r
    · subst e2
      rw [if_neg (by omega), if_pos (by omega), h.one i hi, omul F (ng_lt F (h.el i hi c)), ad_ng F (h.el i hi c)]
    · rw [h.zero i r hi (by omega) e2, zmul F]
      by_cases e3 : i < r
      · rw [if_pos e3, if_pos (by omega), ad_zero F (zero_lt' F)]
      · rw [if_neg e3, if_neg (by omega), ad_zero F (h.el i hi c)]
theorem nul_orth {D : FD} (F : Fld D) {n k : Nat} {R : Nat → Nat → Nat} {p : Nat → Nat} (h : RRE D n k R p) {i j : Nat} (hi : i < k) (hj : j < nct k p n) : dot D (R i) (nul D R p k n j) n = 0 := by
  have h1 := fcs_ok n j hj
  have h2 := dot_nrv F h hi h1.1 h1.2 k (Nat.le_refl _)
  rw [if_pos hi] at h2
  exact h2
end Go.Proofs.YtbnkekeeceicaaaGreat

/- A region that draws its order: one of two operations comes next. No Go text here. -/
namespace Go.Proofs.YtbnkekeeceicaaaGreat
open Go

end Go.Proofs.YtbnkekeeceicaaaGreat

/- Plain mathematics: how many sets there are; Krawtchouk's numbers. No Go text here. -/
namespace Go.Proofs.YtbnkekeeceicaaaGreat

end Go.Proofs.YtbnkekeeceicaaaGreat

/- Weights: powers and numbers of sets (the program's power, over). -/
namespace Go.Proofs.YtbnkekeeceicaaaGreat
open Go.RowKit

end Go.Proofs.YtbnkekeeceicaaaGreat

/- Weights: Krawtchouk's numbers (the program's krawtchouk). -/
namespace Go.Proofs.YtbnkekeeceicaaaGreat
open Go.RowKit

end Go.Proofs.YtbnkekeeceicaaaGreat

/- Weights: Krawtchouk's numbers (the reference's Kraw). -/
namespace Go.Proofs.YtbnkekeeceicaaaGreat
open Go.RowKit

end Go.Proofs.YtbnkekeeceicaaaGreat

/- Plain mathematics: sets that are great and meet little are few (Johnson). No Go text here. -/
namespace Go.Proofs.YtbnkekeeceicaaaGreat

end Go.Proofs.YtbnkekeeceicaaaGreat

/- Plain mathematics of Sudan's sum: a message that agrees at many places makes it nought. No Go text here. -/
namespace Go.Proofs.YtbnkekeeceicaaaGreat
open Go.RowKit Go.Sort

end Go.Proofs.YtbnkekeeceicaaaGreat

/- Plain mathematics of Sudan's sum, second part: the curve of a message that agrees at t places is nought. No Go text here. -/
namespace Go.Proofs.YtbnkekeeceicaaaGreat
open Go.RowKit Go.Sort

end Go.Proofs.YtbnkekeeceicaaaGreat

/- Plain mathematics of words that are mended: one near message; what meets the equations; the error locator. No Go text here. -/
namespace Go.Proofs.YtbnkekeeceicaaaGreat
open Go.RowKit Go.Sort

end Go.Proofs.YtbnkekeeceicaaaGreat

/- Plain mathematics of Euclid's way to mend a word: what stays as it goes on; what stands at its end. No Go text here. -/
namespace Go.Proofs.YtbnkekeeceicaaaGreat
open Go.RowKit Go.Sort

end Go.Proofs.YtbnkekeeceicaaaGreat

/- A region that draws its order and whose late operations, which wait for all that read, write what others read. No Go text here. -/
namespace Go.Proofs.YtbnkekeeceicaaaGreat
open Go

/-- Whatever order is picked from here on; S holds behind every operation but the late ones. -/
def wpAnyL (P : Program) (ops : Array Oper) (Q : Exit → Act → World → Prop) (S : World → Prop) (L : List Nat) : Nat → Array Bool → Act → World → Prop
  | 0, s, a, w => Region.ready .any ops s = [] ∧ Q .normal a w
  | f + 1, s, a, w => (Region.ready .any ops s = [] → Q .normal a w) ∧ ∀ i ∈ Region.ready .any ops s, wpOp P ops Q i (fun a' w' => (i ∉ L → S w') ∧ wpAnyL P ops Q S L f (s.setIfInBounds i true) a' w') a w
theorem wpAny_of_L {P : Program} {ops : Array Oper} {Q : Exit → Act → World → Prop} {S : World → Prop} {L : List Nat} : ∀ (f : Nat) (s : Array Bool) (a : Act) (w : World), wpAnyL P ops Q S L f s a w → wpAny P .any ops Q f s a w
  | 0, _, _, _, h => h
  | f + 1, _, _, _, h => ⟨h.1, fun i hi => wpOp_mono (fun a' w' h' => wpAny_of_L f _ a' w' h'.2) (h.2 i hi)⟩
theorem done_at {s : Array Bool} {k : Nat} (h : s.getD k false = true) : s[k]? = some true := by
  rcases Nat.lt_or_ge k s.size with h1 | h1
  · rw [Array.getElem?_eq_getElem h1]
    simp [h1] at h
    rw [h]
  · simp [Array.getElem?_eq_none h1] at h
/-- Is all done that what is done has waited for? -/
def Closed (ops : Array Oper) (s : Array Bool) : Prop := ∀ m o, ops[m]? = some o → s.getD m true = true → ∀ e ∈ o.after, Region.binds .any e = true → s[e.on]? = some true
def closedB (ops : Array Oper) (s : Array Bool) : Bool := (List.range ops.size).all fun m => !(s.getD m true) || ((ops[m]?).map fun o => o.after.all fun e => !(Region.binds .any e) || (s[e.on]? == some true)).getD true
theorem closed_of {ops : Array Oper} {s : Array Bool} (h : closedB ops s = true) : Closed ops s := by
  intro m o ho hm e he hb
  have hlt : m < ops.size := by
    rcases Nat.lt_or_ge m ops.size with h1 | h1
    · exact h1
    · rw [Array.getElem?_eq_none h1] at ho; cases ho
  have h1 := List.all_eq_true.1 h m (List.mem_range.2 hlt)
  rw [hm, ho] at h1
  have h2 : (o.after.all fun e => !(Region.binds .any e) || (s[e.on]? == some true)) = true := by simpa using h1
  have h3 := Array.all_eq_true'.1 h2 e he
  rw [hb] at h3
  simpa using h3
theorem closed_step {ops : Array Oper} {s : Array Bool} (h : Closed ops s) {j : Nat} (hj : j ∈ Region.ready .any ops s) : Closed ops (s.setIfInBounds j true) := by
  intro m o ho hm e he hb
  obtain ⟨hjun, oj, hoj, hall⟩ := mem_ready.1 hj
  have key : s[e.on]? = some true := by
    by_cases e1 : j = m
    · subst e1
      rw [ho] at hoj
      cases hoj
      exact done_at (hall e he hb)
    · rw [getD_set_ne true e1] at hm
      exact h m o ho hm e he hb
  rw [Array.getElem?_setIfInBounds]
  split
  · rename_i e2
    split
    · rfl
    · rename_i h2
      rw [← e2] at key
      rw [Array.getElem?_eq_none (by omega)] at key; cases key
  · exact key
/-- Does number j wait for number i, or for one that does? -/
def waitsT (ops : Array Oper) : Nat → Nat → Nat → Bool
  | 0, j, i => waitsB ops j i
  | n + 1, j, i => waitsB ops j i || (List.range ops.size).any fun m => waitsB ops j m && waitsT ops n m i
theorem waits_done {ops : Array Oper} {s : Array Bool} {j i : Nat} {o : Oper} (ho : ops[j]? = some o) (hall : ∀ e ∈ o.after, Region.binds .any e = true → s[e.on]? = some true) (h : waitsB ops j i = true) : s[i]? = some true := by
  unfold waitsB at h
  rw [ho] at h
  obtain ⟨e, he, hb⟩ := Array.any_eq_true'.1 (show (o.after.any fun e => Region.binds .any e && e.on == i) = true from h)
  rw [Bool.and_eq_true, beq_iff_eq] at hb
  rw [← hb.2]
  exact hall e he hb.1
theorem waitsT_done {ops : Array Oper} {s : Array Bool} (hc : Closed ops s) {i : Nat} : ∀ (n j : Nat) (o : Oper), ops[j]? = some o → (∀ e ∈ o.after, Region.binds .any e = true → s[e.on]? = some true) → waitsT ops n j i = true → s[i]? = some true
  | 0, j, o, ho, hall, h => waits_done ho hall h
  | n + 1, j, o, ho, hall, h => by
    have h : (waitsB ops j i || (List.range ops.size).any fun m => waitsB ops j m && waitsT ops n m i) = true := h
    rw [Bool.or_eq_true] at h
    rcases h with h | h
    · exact waits_done ho hall h
    · obtain ⟨m, hm, hw⟩ := List.any_eq_true.1 h
      rw [Bool.and_eq_true] at hw
      have hd := waits_done ho hall hw.1
      have hlt := List.mem_range.1 hm
      obtain ⟨om, hom⟩ : ∃ om, ops[m]? = some om := ⟨ops[m], Array.getElem?_eq_getElem hlt⟩
      refine waitsT_done hc n m om hom (hc m om hom ?_) hw.2
      simp [Array.getD_eq_getD_getElem?, hd]
/-- Do all late ones wait for number i? -/
def lateB (ops : Array Oper) (L : List Nat) (i : Nat) : Bool := L.all fun j => waitsT ops 3 j i
theorem late_not {ops : Array Oper} {L : List Nat} {i j : Nat} {s : Array Bool} (hc : Closed ops s) (h : lateB ops L i = true) (hi : s.getD i true = false) (hj : j ∈ Region.ready .any ops s) : j ∉ L := by
  intro hL
  obtain ⟨_, o, ho, hall⟩ := mem_ready.1 hj
  have h1 := waitsT_done hc 3 j o ho (fun e he hb => done_at (hall e he hb)) (List.all_eq_true.1 h j hL)
  simp [Array.getD_eq_getD_getElem?, h1] at hi
theorem wpAnyL_first {P : Program} {ops : Array Oper} {Q : Exit → Act → World → Prop} {S : World → Prop} {L : List Nat} {i : Nat} {oi : Oper} {v : Value} (hi : ops[i]? = some oi) (hsel : ∀ (j : Nat) (o : Oper) cs b, ops[j]? = some o → o.op ≠ .select cs b)
    (hQ : ∀ c a w, Q (.panic c) (a.put oi.dst v) w → Q (.panic c) a w) (hL : lateB ops L i = true) :
    ∀ (f : Nat) (s : Array Bool) (a : Act) (w : World),
      (∀ j oj, ops[j]? = some oj → j ≠ i → s.getD j true = false → (∀ e ∈ oj.after, Region.binds .any e = true → e.on ≠ i) → oi.apart ops oj = true) →
      i ∈ Region.ready .any ops s → Closed ops s → YieldsIf P ops S oi v a → S w →
      wpAnyL P ops Q S L f (s.setIfInBounds i true) (a.put oi.dst v) w → wpAnyL P ops Q S L (f + 1) s a w := by
  intro f
  induction f with
  | zero =>
    intro s a w _ hr _ hy hS H
    refine ⟨fun h => (by rw [h] at hr; cases hr), fun j hj => ?_⟩
    by_cases hji : j = i
    · subst hji; exact hy.wpOp hi hS ⟨fun _ => hS, H⟩
    · have := ready_mono hj hji
      rw [H.1] at this
      cases this
  | succ f ih =>
    intro s a w hfree hr hcl hy hS H
    refine ⟨fun h => (by rw [h] at hr; cases hr), fun j hj => ?_⟩
    by_cases hji : j = i
    · subst hji; exact hy.wpOp hi hS ⟨fun _ => hS, H⟩
    · have h1 := H.2 j (ready_mono hj hji)
      have hjL : j ∉ L := late_not hcl hL (mem_ready.1 hr).1 hj
      obtain ⟨hjun, oj, hoj, hall⟩ := mem_ready.1 hj
      have hnot : ∀ e ∈ oj.after, Region.binds .any e = true → e.on ≠ i := fun e he hb heq => by
        have h1 := hall e he hb
        have h0 := (mem_ready.1 hr).1
        rw [heq] at h1
        rcases Nat.lt_or_ge i s.size with h' | h'
        · simp [h'] at h0 h1; rw [h0] at h1; cases h1
        · simp [Array.getElem?_eq_none h'] at h1
      have h2 := wpOp_putIf hoj (hfree j oj hoj hji hjun hnot) (fun cs b => hsel i oi cs b hi) (fun cs b => hsel j oj cs b hoj) hQ hy h1
      have hfree' : ∀ k ok, ops[k]? = some ok → k ≠ i → (s.setIfInBounds j true).getD k true = false →
          (∀ e ∈ ok.after, Region.binds .any e = true → e.on ≠ i) → oi.apart ops ok = true := fun k ok hk hki hun hno => by
        refine hfree k ok hk hki ?_ hno
        by_cases hjk : j = k
        · subst hjk; exact hjun
        · rw [getD_set_ne true hjk] at hun; exact hun
      refine wpOp_mono (fun a' w' h3 => ⟨fun _ => h3.2.1 hjL, ih (s.setIfInBounds j true) a' w' hfree' (ready_mono hr (Ne.symm hji)) (closed_step hcl hj) h3.1 (h3.2.1 hjL) ?_⟩) h2
      rw [Array.setIfInBounds_comm _ _ hji]
      exact h3.2.2
/-- Take number i first. -/
theorem wpAnyL_take {P : Program} {ops : Array Oper} {Q : Exit → Act → World → Prop} {S : World → Prop} {L : List Nat} {i : Nat} {oi : Oper} {v : Value} {f : Nat} {s : Array Bool} {a : Act} {w : World} (hi : ops[i]? = some oi)
    (hs : Region.noSelect ops = true) (hf : Region.free .any ops s i = true) (hr : (Region.ready .any ops s).contains i = true) (hcl : closedB ops s = true) (hL : lateB ops L i = true)
    (hQ : ∀ c a w, Q (.panic c) (a.put oi.dst v) w → Q (.panic c) a w) (hS : S w) (hy : YieldsIf P ops S oi v a)
    (h : wpAnyL P ops Q S L f (s.setIfInBounds i true) (a.put oi.dst v) w) : wpAnyL P ops Q S L (f + 1) s a w :=
  wpAnyL_first hi (Region.noSelect_spec hs) hQ hL f s a w (Region.free_spec hi hf) (by simpa using hr) (closed_of hcl) hy hS h
/-- Number i is the only one that may come now. -/
theorem wpAnyL_one {P : Program} {ops : Array Oper} {Q : Exit → Act → World → Prop} {S : World → Prop} {L : List Nat} {i : Nat} {o : Oper} {f : Nat} {s : Array Bool} {a : Act} {w : World} (hr : Region.ready .any ops s = [i]) (ho : ops[i]? = some o)
    (h : ∀ K : Act → World → Prop, (∀ a' w', (i ∉ L → S w') → wpAnyL P ops Q S L f (s.setIfInBounds i true) a' w' → K a' w') → if Region.wanted o (yielded ops a.tmps) = true then Oper.wp P o a w K Q else K (a.put o.dst undef) w) : wpAnyL P ops Q S L (f + 1) s a w := by
  refine ⟨fun e => (by rw [hr] at e; cases e), fun j hj => ?_⟩
  rw [hr, List.mem_singleton] at hj
  subst hj
  have h1 := h (fun a' w' => (j ∉ L → S w') ∧ wpAnyL P ops Q S L f (s.setIfInBounds j true) a' w') (fun a' w' h1 h2 => ⟨h1, h2⟩)
  unfold wpOp
  simp only [ho]
  split
  · rename_i hw
    rw [if_pos hw] at h1
    exact Or.inl h1
  · rename_i hw
    rw [if_neg hw] at h1
    exact h1
theorem wpAnyL_done {P : Program} {ops : Array Oper} {Q : Exit → Act → World → Prop} {S : World → Prop} {L : List Nat} {s : Array Bool} {a : Act} {w : World} (hr : Region.ready .any ops s = []) (h : Q .normal a w) : wpAnyL P ops Q S L 0 s a w := ⟨hr, h⟩
theorem wp_region_L {P : Program} {ops : Array Oper} {Q : Exit → Act → World → Prop} {S : World → Prop} (L : List Nat) {id : Nat} {a : Act} {w : World} (hm : P.follows .mixedOrders = true)
    (h : wpAnyL P ops Q S L ops.size (Array.replicate ops.size false) a w.drew) : (Code.region id ops true).wp P Q a w :=
  wp_region_any hm (wpAny_of_L _ _ _ _ h)
end Go.Proofs.YtbnkekeeceicaaaGreat

/- Plain mathematics of words that are mended by equations: there is a solution where a near message is, and each solution tells it. No Go text here. -/
namespace Go.Proofs.YtbnkekeeceicaaaGreat
open Go.RowKit Go.Sort

theorem dt_dot {D : FD} (u v : Nat → Nat) : ∀ n, dt D u v n = dot D u v n
  | 0 => rfl
  | n + 1 => by
    show D.ad (dt D u v n) (D.mul (u n) (v n)) = D.ad (dot D u v n) (D.mul (u n) (v n))
    rw [dt_dot u v n]
end Go.Proofs.YtbnkekeeceicaaaGreat
