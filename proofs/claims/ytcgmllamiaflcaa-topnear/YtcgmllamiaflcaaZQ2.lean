/- Texts of ours, one behind the other: Q2 W11. -/
import Derived.Test.YtcgmllamiaflcaaZZ9
import Derived.Test.YtcgmllamiaflcaaZH2
import Derived.Test.YtcgmllamiaflcaaZT2
import Derived.Deep.RegionHeld3
import Derived.WalkKit
/- Lists of lists of the call's own that grow at any of their lists. -/
namespace Go.Proofs.Ytcgmllamiaflcaa
open Go.RowKit Go.Sort

/-- The list of lists at ro, made behind block number base: n lists Z, each in a block of its own. -/
structure GrS (base n : Nat) (ro : Option Addr) (rc : Nat) (vs : Nat → Value) (Z : Nat → List Int) (w : World) : Prop where
  own : OwnV base (.slice ro n rc) (vl n vs) w
  row : ∀ j, j < n → OwnI base (vs j) (Z j) w
  inj : ∀ i j, i < n → j < n → i ≠ j → ∀ g, (vs i).ownBlock = some g → (vs j).ownBlock ≠ some g
theorem GrS.nil (base : Nat) (vs : Nat → Value) (Z : Nat → List Int) (w : World) : GrS base 0 none 0 vs Z w :=
  ⟨OwnV.nil _ _, fun j hj => absurd hj (by omega), fun i j hi => absurd hi (by omega)⟩
theorem GrS.below {base n : Nat} {ro : Option Addr} {rc : Nat} {vs : Nat → Value} {Z : Nat → List Int} {w w' : World} (h : GrS base n ro rc vs Z w) (hb : Below w.heap.size w w') : GrS base n ro rc vs Z w' :=
  ⟨h.own.below hb (Nat.le_refl _), fun j hj => (h.row j hj).below hb (fun k hk => ((h.row j hj).lt k hk).2), h.inj⟩
theorem GrS.congr {base n : Nat} {ro : Option Addr} {rc : Nat} {vs : Nat → Value} {Z Z' : Nat → List Int} {w : World} (h : GrS base n ro rc vs Z w) (e : ∀ j, j < n → Z j = Z' j) : GrS base n ro rc vs Z' w :=
  ⟨h.own, fun j hj => by rw [← e j hj]; exact h.row j hj, h.inj⟩
theorem GrS.cell {base n : Nat} {ro : Option Addr} {rc : Nat} {vs : Nat → Value} {Z : Nat → List Int} {w : World} (h : GrS base n ro rc vs Z w) (j : Nat) (hj : j < n) : ∃ g, ro = some ⟨g, 0, none⟩ ∧ w.cell? ⟨g, j, none⟩ = some (vs j) ∧ w.frozen? ⟨g, j, none⟩ = false ∧ base ≤ g ∧ g < w.heap.size := by
  obtain ⟨ro', rc', e, _, hlt, hge, hc⟩ := h.own.open
  rw [vl_len] at e
  cases e
  obtain ⟨g, e, h1, h2⟩ := hc j (vs j) (vl_get n vs j hj)
  exact ⟨g, e, h1, h2, hge _ e, hlt _ e⟩
/-- Cell j of a list of lists of the call's own is another one now. -/
theorem OwnV.set {base n rc g : Nat} {ro : Option Addr} {vs : Nat → Value} {w1 : World} (hown : OwnV base (.slice ro n rc) (vl n vs) w1) (hg : ro = some ⟨g, 0, none⟩) (j : Nat) (u : Value) : OwnV base (.slice ro n rc) (vl n fun i => if i = j then u else vs i) (w1.setCell ⟨g, j, none⟩ u) := by
  rcases hown.2 with ⟨h1, _⟩ | ⟨g', cap, cur, hv, hb, hh, hle, hcm, hsz, htake⟩
  · rw [hg] at h1; cases h1
  · rw [hg, vl_len] at hv
    cases hv
    have hlt := lt_of_block hh
    have h' : w1.heap[g] = .cells cur 22 (0, 0) := by simpa [Array.getElem?_eq_getElem hlt] using hh
    refine ⟨by rw [vl_len]; omega, Or.inr ⟨g, rc, cur.setIfInBounds j u, by rw [hg, vl_len], hb, ?_, by rw [vl_len]; rw [vl_len] at hle; exact hle, hcm, by rw [Array.size_setIfInBounds]; exact hsz, ?_⟩⟩
    · show (w1.heap.modify g _)[g]? = _
      rw [Array.getElem?_eq_getElem (by simpa using hlt), Array.getElem_modify_self, h']
      rfl
    · rw [vl_len] at htake ⊢
      apply List.ext_getElem?
      intro i
      have h3 : (cur.toList.take (n * 1))[i]? = (vl n vs)[i]? := by rw [htake]
      rw [List.getElem?_take] at h3 ⊢
      by_cases hi : i < n * 1
      · rw [if_pos hi] at h3 ⊢
        have hik : i < n := by omega
        rw [vl_get n vs i hik] at h3
        rw [vl_get n _ i hik, Array.getElem?_toList, Array.getElem?_setIfInBounds]
        rw [Array.getElem?_toList] at h3
        by_cases e : j = i
        · rw [if_pos e, if_pos (by have := (Array.getElem?_eq_some_iff.1 h3).1; omega), if_pos e.symm]
        · rw [if_neg e, if_neg (fun x => e x.symm)]; exact h3
      · rw [if_neg hi, List.getElem?_eq_none (by rw [vl_len]; omega)]
/-- One list more, an empty one. -/
theorem GrS.push {base n : Nat} {ro : Option Addr} {rc : Nat} {v' : Value} {vs : Nat → Value} {Z : Nat → List Int} {w w' : World} (h : GrS base n ro rc vs Z w) (ho : OwnV base v' (vl n vs ++ [.slice none 0 0]) w') (hg : w.grownBy w' (Value.slice ro n rc).ownBlock) (hZ : Z n = []) :
    ∃ ro' rc', v' = .slice ro' (n + 1) rc' ∧ GrS base (n + 1) ro' rc' (fun j => if j = n then .slice none 0 0 else vs j) Z w' := by
  obtain ⟨ro', rc', e, _⟩ := ho.open
  rw [List.length_append, vl_len] at e
  refine ⟨ro', rc', e, ?_, fun j hj => ?_, fun i j hi hj hij g hv => ?_⟩
  · have e2 : vl (n + 1) (fun j => if j = n then .slice none 0 0 else vs j) = vl n vs ++ [.slice none 0 0] := by
      unfold vl
      rw [List.range_succ, List.map_append]
      congr 1
      · exact List.map_congr_left (fun j hj => if_neg (by have := List.mem_range.1 hj; omega))
      · simp
    rw [e2]
    rw [e] at ho
    exact ho
  · show OwnI base (if j = n then .slice none 0 0 else vs j) (Z j) w'
    by_cases ej : j = n
    · rw [if_pos ej, ej, hZ]; exact OwnI.nil _ _
    · rw [if_neg ej]
      exact (h.row j (by omega)).kept hg ((h.row j (by omega)).apart h.own)
  · have hv : (if i = n then Value.slice none 0 0 else vs i).ownBlock = some g := hv
    show (if j = n then Value.slice none 0 0 else vs j).ownBlock ≠ some g
    by_cases ei : i = n
    · rw [if_pos ei] at hv; cases hv
    · rw [if_neg ei] at hv
      by_cases ej : j = n
      · rw [if_pos ej]; intro x; cases x
      · rw [if_neg ej]; exact h.inj i j (by omega) (by omega) hij g hv
/-- One number more in list j, which lies at u then. -/
theorem GrS.store {base n : Nat} {ro : Option Addr} {rc : Nat} {vs : Nat → Value} {Z : Nat → List Int} {w w1 : World} (h : GrS base n ro rc vs Z w) {g j : Nat} (hj : j < n) (hg : ro = some ⟨g, 0, none⟩) {u : Value} {x : Int} (hu : OwnI base u (Z j ++ [x]) w1) (hgr : w.grownBy w1 (vs j).ownBlock) (hat : u.ownBlock = (vs j).ownBlock ∨ u.ownBlock = some w.heap.size) :
    GrS base n ro rc (fun i => if i = j then u else vs i) (fun i => if i = j then Z i ++ [x] else Z i) (w1.setCell ⟨g, j, none⟩ u) := by
  have hown : OwnV base (.slice ro n rc) (vl n vs) w1 := h.own.grown hgr ((h.row j hj).apartV h.own)
  have hob : (Value.slice ro n rc).ownBlock = some g := by rw [hg]; rfl
  refine ⟨?_, fun i hi => ?_, fun a b ha hb hab k hv => ?_⟩
  · exact hown.set hg j u
  · show OwnI base (if i = j then u else vs i) (if i = j then Z i ++ [x] else Z i) _
    by_cases e : i = j
    · rw [if_pos e, if_pos e, e]; exact hu.setV hown hob
    · rw [if_neg e, if_neg e]
      refine OwnI.setV ((h.row i hi).kept hgr ?_) hown hob
      cases hv : (vs i).ownBlock with
      | none => exact Or.inl rfl
      | some k => exact Or.inr (fun x => h.inj i j hi hj e k hv x.symm)
  · have hv : (if a = j then u else vs a).ownBlock = some k := hv
    show (if b = j then u else vs b).ownBlock ≠ some k
    have hnew : ∀ c, c < n → (vs c).ownBlock ≠ some w.heap.size := fun c hc hx => by
      have := ((h.row c hc).lt _ hx).2
      omega
    by_cases ea : a = j
    · rw [if_pos ea] at hv
      rw [if_neg (fun x => hab (ea.trans x.symm))]
      rcases hat with hat | hat
      · rw [hat] at hv
        exact h.inj j b hj hb (fun x => hab (ea.trans x)) k hv
      · rw [hat] at hv
        cases hv
        exact hnew b hb
    · rw [if_neg ea] at hv
      by_cases eb : b = j
      · rw [if_pos eb]
        rcases hat with hat | hat
        · rw [hat]
          exact h.inj a j ha hj ea k hv
        · rw [hat]
          intro x
          cases x
          exact hnew a ha hv
      · rw [if_neg eb]
        exact h.inj a b ha hb hab k hv
/-- What they are when all numbers are laid. -/
theorem GrS.lls {base n : Nat} {ro : Option Addr} {rc : Nat} {vs : Nat → Value} {p s : Nat → Nat} {a : Nat} {w : World} (h : GrS base n ro rc vs (gz p s a) w) (hn : n = gn p a) (hp : ∀ b, b < a → p b ≤ gn p b) : LLs base (.slice ro n rc) (gL p s a) w := by
  refine ⟨vl n vs, h.own, by rw [vl_len, gL_len, hn], fun j v y hv hy => ?_⟩
  have hj : j < n := by have := (List.getElem?_eq_some_iff.1 hv).1; rwa [vl_len] at this
  rw [vl_get n vs j hj] at hv
  cases hv
  unfold gL at hy
  rw [List.getElem?_map, List.getElem?_range (by omega)] at hy
  cases hy
  have h0 := gz_some (s := s) hp (show j < gn p a by omega)
  have h1 := (h.row j hj).ownC (fun i => ((gz p s a j).getD i 0).toNat) (fun k hk => by
    have hm : (gz p s a j).getD k 0 ∈ gz p s a j := by
      rw [List.getD_eq_getElem?_getD, List.getElem?_eq_getElem hk]
      exact List.getElem_mem hk
    have := gz_nat p s a j _ hm
    omega)
  rw [show (gz p s a j).length = (gz p s a j).length - 1 + 1 from by omega] at h1
  exact h1.elm
end Go.Proofs.Ytcgmllamiaflcaa

/- A region that draws its order and whose last operation, which waits for all others, writes what another one reads. No Go text here. -/
namespace Go.Proofs.Ytcgmllamiaflcaa
open Go

/-- Whatever order is picked from here on; S holds behind every operation but number L. -/
def wpAnyX (P : Program) (ops : Array Oper) (Q : Exit → Act → World → Prop) (S : World → Prop) (L : Nat) : Nat → Array Bool → Act → World → Prop
  | 0, s, a, w => Region.ready .any ops s = [] ∧ Q .normal a w
  | f + 1, s, a, w => (Region.ready .any ops s = [] → Q .normal a w) ∧ ∀ i ∈ Region.ready .any ops s, wpOp P ops Q i (fun a' w' => (i ≠ L → S w') ∧ wpAnyX P ops Q S L f (s.setIfInBounds i true) a' w') a w
theorem wpAny_of_X {P : Program} {ops : Array Oper} {Q : Exit → Act → World → Prop} {S : World → Prop} {L : Nat} : ∀ (f : Nat) (s : Array Bool) (a : Act) (w : World), wpAnyX P ops Q S L f s a w → wpAny P .any ops Q f s a w
  | 0, _, _, _, h => h
  | f + 1, _, _, _, h => ⟨h.1, fun i hi => wpOp_mono (fun a' w' h' => wpAny_of_X f _ a' w' h'.2) (h.2 i hi)⟩
/-- Does number L wait for number i? -/
def waitsB (ops : Array Oper) (L i : Nat) : Bool := ((ops[L]?).map fun o => o.after.any fun e => Region.binds .any e && e.on == i).getD false
theorem waits_not {ops : Array Oper} {L i : Nat} {s : Array Bool} (h : waitsB ops L i = true) (hi : s.getD i true = false) : L ∉ Region.ready .any ops s := by
  intro hL
  obtain ⟨_, o, ho, hall⟩ := mem_ready.1 hL
  unfold waitsB at h
  rw [ho] at h
  obtain ⟨e, he, hb⟩ := Array.any_eq_true'.1 (show (o.after.any fun e => Region.binds .any e && e.on == i) = true from h)
  rw [Bool.and_eq_true, beq_iff_eq] at hb
  have h1 := hall e he hb.1
  rw [hb.2] at h1
  rcases Nat.lt_or_ge i s.size with h' | h'
  · simp [h'] at hi h1; rw [hi] at h1; cases h1
  · simp [Array.getElem?_eq_none h'] at h1
theorem wpAnyX_first {P : Program} {ops : Array Oper} {Q : Exit → Act → World → Prop} {S : World → Prop} {L i : Nat} {oi : Oper} {v : Value} (hi : ops[i]? = some oi) (hsel : ∀ (j : Nat) (o : Oper) cs b, ops[j]? = some o → o.op ≠ .select cs b)
    (hQ : ∀ c a w, Q (.panic c) (a.put oi.dst v) w → Q (.panic c) a w) (hL : waitsB ops L i = true) :
    ∀ (f : Nat) (s : Array Bool) (a : Act) (w : World),
      (∀ j oj, ops[j]? = some oj → j ≠ i → s.getD j true = false → (∀ e ∈ oj.after, Region.binds .any e = true → e.on ≠ i) → oi.apart ops oj = true) →
      i ∈ Region.ready .any ops s → YieldsIf P ops S oi v a → S w →
      wpAnyX P ops Q S L f (s.setIfInBounds i true) (a.put oi.dst v) w → wpAnyX P ops Q S L (f + 1) s a w := by
  intro f
  induction f with
  | zero =>
    intro s a w _ hr hy hS H
    refine ⟨fun h => (by rw [h] at hr; cases hr), fun j hj => ?_⟩
    by_cases hji : j = i
    · subst hji; exact hy.wpOp hi hS ⟨fun _ => hS, H⟩
    · have := ready_mono hj hji
      rw [H.1] at this
      cases this
  | succ f ih =>
    intro s a w hfree hr hy hS H
    refine ⟨fun h => (by rw [h] at hr; cases hr), fun j hj => ?_⟩
    by_cases hji : j = i
    · subst hji; exact hy.wpOp hi hS ⟨fun _ => hS, H⟩
    · have h1 := H.2 j (ready_mono hj hji)
      have hjL : j ≠ L := fun e => waits_not hL (mem_ready.1 hr).1 (e ▸ hj)
      obtain ⟨hjun, oj, hoj, hall⟩ := mem_ready.1 hj
      have hnot : ∀ e ∈ oj.after, Region.binds .any e = true → e.on ≠ i := fun e he hb heq => by
        have h1 := hall e he hb
        have h0 := (mem_ready.1 hr).1
        rw [heq] at h1
        rcases Nat.lt_or_ge i s.size with h' | h'
        · simp [h'] at h0 h1; rw [h0] at h1; cases h1
        · simp [Array.getElem?_eq_none h'] at h1
      have h2 := wpOp_putIf hoj (hfree j oj hoj hji hjun hnot) (fun cs b => hsel i oi cs b hi) (fun cs b => hsel j oj cs b hoj) hQ hy h1
      have hfree' : ∀ k ok, ops[k]? = some ok → k ≠ i → (s.setIfInBounds j true).getD k true = false →
          (∀ e ∈ ok.after, Region.binds .any e = true → e.on ≠ i) → oi.apart ops ok = true := fun k ok hk hki hun hno => by
        refine hfree k ok hk hki ?_ hno
        by_cases hjk : j = k
        · subst hjk; exact hjun
        · rw [getD_set_ne true hjk] at hun; exact hun
      refine wpOp_mono (fun a' w' h3 => ⟨fun _ => h3.2.1 hjL, ih (s.setIfInBounds j true) a' w' hfree' (ready_mono hr (Ne.symm hji)) h3.1 (h3.2.1 hjL) ?_⟩) h2
      rw [Array.setIfInBounds_comm _ _ hji]
      exact h3.2.2
/-- Take number i first. -/
theorem wpAnyX_take {P : Program} {ops : Array Oper} {Q : Exit → Act → World → Prop} {S : World → Prop} {L i : Nat} {oi : Oper} {v : Value} {f : Nat} {s : Array Bool} {a : Act} {w : World} (hi : ops[i]? = some oi)
    (hs : Region.noSelect ops = true) (hf : Region.free .any ops s i = true) (hr : (Region.ready .any ops s).contains i = true) (hL : waitsB ops L i = true)
    (hQ : ∀ c a w, Q (.panic c) (a.put oi.dst v) w → Q (.panic c) a w) (hS : S w) (hy : YieldsIf P ops S oi v a)
    (h : wpAnyX P ops Q S L f (s.setIfInBounds i true) (a.put oi.dst v) w) : wpAnyX P ops Q S L (f + 1) s a w :=
  wpAnyX_first hi (Region.noSelect_spec hs) hQ hL f s a w (Region.free_spec hi hf) (by simpa using hr) hy hS h
/-- Number i is the only one that may come now. -/
theorem wpAnyX_one {P : Program} {ops : Array Oper} {Q : Exit → Act → World → Prop} {S : World → Prop} {L i : Nat} {o : Oper} {f : Nat} {s : Array Bool} {a : Act} {w : World} (hr : Region.ready .any ops s = [i]) (ho : ops[i]? = some o)
    (h : ∀ K : Act → World → Prop, (∀ a' w', (i ≠ L → S w') → wpAnyX P ops Q S L f (s.setIfInBounds i true) a' w' → K a' w') → if Region.wanted o (yielded ops a.tmps) = true then Oper.wp P o a w K Q else K (a.put o.dst undef) w) : wpAnyX P ops Q S L (f + 1) s a w := by
  refine ⟨fun e => (by rw [hr] at e; cases e), fun j hj => ?_⟩
  rw [hr, List.mem_singleton] at hj
  subst hj
  have h1 := h (fun a' w' => (j ≠ L → S w') ∧ wpAnyX P ops Q S L f (s.setIfInBounds j true) a' w') (fun a' w' h1 h2 => ⟨h1, h2⟩)
  unfold wpOp
  simp only [ho]
  split
  · rename_i hw
    rw [if_pos hw] at h1
    exact Or.inl h1
  · rename_i hw
    rw [if_neg hw] at h1
    exact h1
theorem wpAnyX_done {P : Program} {ops : Array Oper} {Q : Exit → Act → World → Prop} {S : World → Prop} {L : Nat} {s : Array Bool} {a : Act} {w : World} (hr : Region.ready .any ops s = []) (h : Q .normal a w) : wpAnyX P ops Q S L 0 s a w := ⟨hr, h⟩
theorem wp_region_X {P : Program} {ops : Array Oper} {Q : Exit → Act → World → Prop} {S : World → Prop} (L : Nat) {id : Nat} {a : Act} {w : World} (hm : P.follows .mixedOrders = true)
    (h : wpAnyX P ops Q S L ops.size (Array.replicate ops.size false) a w.drew) : (Code.region id ops true).wp P Q a w :=
  wp_region_any hm (wpAny_of_X _ _ _ _ h)
end Go.Proofs.Ytcgmllamiaflcaa
