/- Texts of ours, one behind the other: Z9 Z10 Z11 Z12 Q1 Q2 W11 Q3 Q4 Q5 Q6 I1. -/
import Derived.Test.YtaliaikahohemaaGreatDoorZL11
import Derived.Test.YtaliaikahohemaaGreatDoorZX15
import Derived.Test.YtaliaikahohemaaGreatDoorZV7
import Derived.Test.YtaliaikahohemaaGreatDoorZT1
import Derived.Deep.RegionHeld3
import Derived.WalkKit
import Derived.Test.YtaliaikahohemaaGreatDoorZX17
import Derived.Test.YtaliaikahohemaaGreatDoorZL10
/- All near messages: the program's Within. -/
namespace Go.Proofs.YtaliaikahohemaaGreatDoor
open Go.RowKit Go.Sort

end Go.Proofs.YtaliaikahohemaaGreatDoor

/- All near messages: the reference's Near. -/
namespace Go.Proofs.YtaliaikahohemaaGreatDoor
open Go.RowKit Go.Sort

theorem dnum_dgs' {q k a : Nat} (hq : 2 ≤ q) (ha : a < q ^ k) : ∀ i, i ≤ k → dnum q (dgs q k a) i = a / q ^ (k - i)
  | 0, _ => by rw [Nat.sub_zero, Nat.div_eq_of_lt ha]; rfl
  | i + 1, hi => by
    rw [dnum, dnum_dgs' hq ha i (by omega)]
    unfold dgs
    rw [if_pos (by omega), show k - 1 - i = k - (i + 1) from by omega]
    obtain ⟨b, hb⟩ : ∃ b, b = a / q ^ (k - (i + 1)) := ⟨_, rfl⟩
    have e : a / q ^ (k - i) = b / q := by
      rw [hb, Nat.div_div_eq_div_mul, ← Nat.pow_succ, show (k - (i + 1)).succ = k - i from by omega]
    rw [e, ← hb, Nat.mul_comm]
    exact Nat.div_add_mod b q
theorem dnum_dgs {q k a : Nat} (hq : 2 ≤ q) (ha : a < q ^ k) : dnum q (dgs q k a) k = a := by
  rw [dnum_dgs' hq ha k (Nat.le_refl _), Nat.sub_self, Nat.pow_zero, Nat.div_one]
theorem dgs_lt {q k a : Nat} (hq : 2 ≤ q) (j : Nat) : dgs q k a j < q := by
  unfold dgs
  split
  · exact Nat.mod_lt _ (by omega)
  · omega
/-- The digits, and a 1 behind them. -/
def dgm (q k a : Nat) : Nat → Nat := fun j => if j = k then 1 else dgs q k a j
theorem dgm_mn {D : FD} (F : Fld D) (k a : Nat) : Mn D k (dgm D.q k a) := by
  refine ⟨fun j => ?_, fun j hj => ?_, if_pos rfl⟩
  · unfold dgm
    split
    · exact one_lt' F
    · exact dgs_lt F.q2 j
  · unfold dgm dgs
    rw [if_neg (by omega), if_neg (by omega)]
theorem dgm_lo {q k a j : Nat} (hj : j < k) : dgm q k a j = dgs q k a j := if_neg (by omega)
theorem dgs_next {D : FD} (F : Fld D) {k a : Nat} {c : Nat → Nat} (ha : a < D.q ^ k) (hc : Mn D k c) (h : Aft D k (dgm D.q k a) k c) : a + 1 < D.q ^ k ∧ ∀ j, j < k → c j = dgs D.q k (a + 1) j := by
  have h1 : dnum D.q c k = a + 1 := by
    rcases h with ⟨_, h⟩ | ⟨h, _⟩
    · rw [h, dnum_congr (e := dgs D.q k a) k (fun j hj => dgm_lo hj), dnum_dgs F.q2 ha]
    · omega
  have h2 : a + 1 < D.q ^ k := by rw [← h1]; exact dnum_lt k (fun i _ => hc.el i)
  exact ⟨h2, dnum_inj k (fun i _ => hc.el i) (fun i _ => dgs_lt F.q2 i) (by rw [h1, dnum_dgs F.q2 h2])⟩
theorem dgs_last {D : FD} (F : Fld D) {k a : Nat} (ha : a < D.q ^ k) (h : ∀ j, 0 ≤ j → j < k → dgm D.q k a j = D.q - 1) : a + 1 = D.q ^ k := by
  have h1 : ∀ i, i ≤ k → dnum D.q (dgs D.q k a) i + 1 = D.q ^ i := fun i => by
    induction i with
    | zero => intro _; rfl
    | succ i ih =>
      intro hi
      have h2 := h i (by omega) (by omega)
      rw [dgm_lo (by omega)] at h2
      have h3 := F.q2
      rw [dnum, h2, Nat.pow_succ, ← ih (by omega), Nat.add_mul]
      omega
  have h2 := h1 k (Nat.le_refl _)
  rw [dnum_dgs F.q2 ha] at h2; exact h2
theorem dgs_zero {q k j : Nat} : dgs q k 0 j = 0 := by
  unfold dgs
  split
  · rw [Nat.zero_div, Nat.zero_mod]
  · rfl
end Go.Proofs.YtaliaikahohemaaGreatDoor

/- All near messages: the walk of the reference's Near. -/
namespace Go.Proofs.YtaliaikahohemaaGreatDoor
open Go.RowKit Go.Sort

theorem LLx.push {g base : Nat} {v v' u : Value} {l : List Value} {L : List (Nat × (Nat → Nat))} {p : Nat × (Nat → Nat)} {w w' : World} (h1 : OwnV base v l w) (h2 : Elms l L w) (h3 : ∀ u ∈ l, u.ownBlock ≠ some g) (hu : Elm u p w) (hne : u.ownBlock ≠ some g) (ho : OwnV base v' (l ++ [u]) w') (hg : w.grownBy w' v.ownBlock) : LLx g base v' (L ++ [p]) w' := by
  refine ⟨_, ho, (h2.snoc hu).grown h1 hg, fun x hx => ?_⟩
  rcases List.mem_append.1 hx with hx | hx
  · exact h3 x hx
  · rw [List.mem_singleton.1 hx]; exact hne

end Go.Proofs.YtaliaikahohemaaGreatDoor

/- What it says that places, a dimension and a whole word may be; the calls that say no. -/
namespace Go.Proofs.YtaliaikahohemaaGreatDoor
open Go.RowKit Go.Sort

theorem has_sl {D : FD} {ao : Option Addr} {n : Nat} {z : Nat → Int} {w : World} (h : ∀ j, j < n → D.has (z j) = true) (hs : SlZ ao n z w) : Sl ao n (zc n z) w := fun j hj => by
  obtain ⟨b, off, e, hc⟩ := hs j hj
  obtain ⟨t, e2, _⟩ := has_nat (h j hj)
  refine ⟨b, off, e, ?_⟩
  rw [hc]
  unfold zc
  rw [if_pos hj, e2, Int.toNat_natCast]
end Go.Proofs.YtaliaikahohemaaGreatDoor

/- Sudan's products in their order, and how a list of numbers is parted by them: plain mathematics. -/
namespace Go.Proofs.YtaliaikahohemaaGreatDoor
open Go.RowKit

/-- How many lists there are when a numbers have been laid by their powers. -/
def gn (p : Nat → Nat) : Nat → Nat
  | 0 => 0
  | a + 1 => if p a = gn p a then gn p a + 1 else gn p a
/-- The lists when a numbers have been laid. -/
def gz (p : Nat → Nat) (s : Nat → Nat) : Nat → Nat → List Int
  | 0 => fun _ => []
  | a + 1 => fun j => if j = p a then gz p s a j ++ [((s a : Nat) : Int)] else gz p s a j
theorem gz_some {p s : Nat → Nat} : ∀ {a j : Nat}, (∀ b, b < a → p b ≤ gn p b) → j < gn p a → 0 < (gz p s a j).length
  | 0, _, _, hj => absurd hj (by simp [gn])
  | a + 1, j, h, hj => by
    have hj : j < (if p a = gn p a then gn p a + 1 else gn p a) := hj
    show 0 < (if _ then _ else _ : List Int).length
    by_cases e : j = p a
    · rw [if_pos e, List.length_append]
      exact Nat.lt_of_lt_of_le Nat.zero_lt_one (Nat.le_add_left _ _)
    · rw [if_neg e]
      exact gz_some (fun b hb => h b (by omega)) (by split at hj <;> omega)
theorem gz_nat (p s : Nat → Nat) : ∀ a j (x : Int), x ∈ gz p s a j → 0 ≤ x
  | 0, _, x, h => by simp [gz] at h
  | a + 1, j, x, h => by
    have h : x ∈ (if j = p a then gz p s a j ++ [((s a : Nat) : Int)] else gz p s a j) := h
    split at h
    · rcases List.mem_append.1 h with h | h
      · exact gz_nat p s a j x h
      · rw [List.mem_singleton.1 h]; omega
    · exact gz_nat p s a j x h
/-- The lists, each by its greatest place and its numbers. -/
def gL (p s : Nat → Nat) (a : Nat) : List (Nat × (Nat → Nat)) := (List.range (gn p a)).map fun j => ((gz p s a j).length - 1, fun i => ((gz p s a j).getD i 0).toNat)
theorem gL_len (p s : Nat → Nat) (a : Nat) : (gL p s a).length = gn p a := by simp [gL]
end Go.Proofs.YtaliaikahohemaaGreatDoor

/- Lists of lists of the call's own that grow at any of their lists. -/
namespace Go.Proofs.YtaliaikahohemaaGreatDoor
open Go.RowKit Go.Sort

/-- The list of lists at ro, made behind block number base: n lists Z, each in a block of its own. -/
structure GrS (base n : Nat) (ro : Option Addr) (rc : Nat) (vs : Nat → Value) (Z : Nat → List Int) (w : World) : Prop where
  own : OwnV base (.slice ro n rc) (vl n vs) w
  row : ∀ j, j < n → OwnI base (vs j) (Z j) w
  inj : ∀ i j, i < n → j < n → i ≠ j → ∀ g, (vs i).ownBlock = some g → (vs j).ownBlock ≠ some g
theorem GrS.nil (base : Nat) (vs : Nat → Value) (Z : Nat → List Int) (w : World) : GrS base 0 none 0 vs Z w :=
  ⟨OwnV.nil _ _, fun j hj => absurd hj (by omega), fun i j hi => absurd hi (by omega)⟩
theorem GrS.below {base n : Nat} {ro : Option Addr} {rc : Nat} {vs : Nat → Value} {Z : Nat → List Int} {w w' : World} (h : GrS base n ro rc vs Z w) (hb : Below w.heap.size w w') : GrS base n ro rc vs Z w' :=
  ⟨h.own.below hb (Nat.le_refl _), fun j hj => (h.row j hj).below hb (fun k hk => ((h.row j hj).lt k hk).2), h.inj⟩
theorem GrS.congr {base n : Nat} {ro : Option Addr} {rc : Nat} {vs : Nat → Value} {Z Z' : Nat → List Int} {w : World} (h : GrS base n ro rc vs Z w) (e : ∀ j, j < n → Z j = Z' j) : GrS base n ro rc vs Z' w :=
  ⟨h.own, fun j hj => by rw [← e j hj]; exact h.row j hj, h.inj⟩
theorem GrS.cell {base n : Nat} {ro : Option Addr} {rc : Nat} {vs : Nat → Value} {Z : Nat → List Int} {w : World} (h : GrS base n ro rc vs Z w) (j : Nat) (hj : j < n) : ∃ g, ro = some ⟨g, 0, none⟩ ∧ w.cell? ⟨g, j, none⟩ = some (vs j) ∧ w.frozen? ⟨g, j, none⟩ = false ∧ base ≤ g ∧ g < w.heap.size := by
  obtain ⟨ro', rc', e, _, hlt, hge, hc⟩ := h.own.open
  rw [vl_len] at e
  cases e
  obtain ⟨g, e, h1, h2⟩ := hc j (vs j) (vl_get n vs j hj)
  exact ⟨g, e, h1, h2, hge _ e, hlt _ e⟩
/-- Cell j of a list of lists of the call's own is another one now. -/
theorem OwnV.set {base n rc g : Nat} {ro : Option Addr} {vs : Nat → Value} {w1 : World} (hown : OwnV base (.slice ro n rc) (vl n vs) w1) (hg : ro = some ⟨g, 0, none⟩) (j : Nat) (u : Value) : OwnV base (.slice ro n rc) (vl n fun i => if i = j then u else vs i) (w1.setCell ⟨g, j, none⟩ u) := by
  rcases hown.2 with ⟨h1, _⟩ | ⟨g', cap, cur, hv, hb, hh, hle, hcm, hsz, htake⟩
  · rw [hg] at h1; cases h1
  · rw [hg, vl_len] at hv
    cases hv
    have hlt := lt_of_block hh
    have h' : w1.heap[g] = .cells cur 22 (0, 0) := by simpa [Array.getElem?_eq_getElem hlt] using hh
    refine ⟨by rw [vl_len]; omega, Or.inr ⟨g, rc, cur.setIfInBounds j u, by rw [hg, vl_len], hb, ?_, by rw [vl_len]; rw [vl_len] at hle; exact hle, hcm, by rw [Array.size_setIfInBounds]; exact hsz, ?_⟩⟩
    · show (w1.heap.modify g _)[g]? = _
      rw [Array.getElem?_eq_getElem (by simpa using hlt), Array.getElem_modify_self, h']
      rfl
    · rw [vl_len] at htake ⊢
      apply List.ext_getElem?
      intro i
      have h3 : (cur.toList.take (n * 1))[i]? = (vl n vs)[i]? := by rw [htake]
      rw [List.getElem?_take] at h3 ⊢
      by_cases hi : i < n * 1
      · rw [if_pos hi] at h3 ⊢
        have hik : i < n := by omega
        rw [vl_get n vs i hik] at h3
        rw [vl_get n _ i hik, Array.getElem?_toList, Array.getElem?_setIfInBounds]
        rw [Array.getElem?_toList] at h3
        by_cases e : j = i
        · rw [if_pos e, if_pos (by have := (Array.getElem?_eq_some_iff.1 h3).1; omega), if_pos e.symm]
        · rw [if_neg e, if_neg (fun x => e x.symm)]; exact h3
      · rw [if_neg hi, List.getElem?_eq_none (by rw [vl_len]; omega)]
/-- One list more, an empty one. -/
theorem GrS.push {base n : Nat} {ro : Option Addr} {rc : Nat} {v' : Value} {vs : Nat → Value} {Z : Nat → List Int} {w w' : World} (h : GrS base n ro rc vs Z w) (ho : OwnV base v' (vl n vs ++ [.slice none 0 0]) w') (hg : w.grownBy w' (Value.slice ro n rc).ownBlock) (hZ : Z n = []) :
    ∃ ro' rc', v' = .slice ro' (n + 1) rc' ∧ GrS base (n + 1) ro' rc' (fun j => if j = n then .slice none 0 0 else vs j) Z w' := by
  obtain ⟨ro', rc', e, _⟩ := ho.open
  rw [List.length_append, vl_len] at e
  refine ⟨ro', rc', e, ?_, fun j hj => ?_, fun i j hi hj hij g hv => ?_⟩
  · have e2 : vl (n + 1) (fun j => if j = n then .slice none 0 0 else vs j) = vl n vs ++ [.slice none 0 0] := by
      unfold vl
      rw [List.range_succ, List.map_append]
      congr 1
      · exact List.map_congr_left (fun j hj => if_neg (by have := List.mem_range.1 hj; omega))
      · simp
    rw [e2]
    rw [e] at ho
    exact ho
  · show OwnI base (if j = n then .slice none 0 0 else vs j) (Z j) w'
    by_cases ej : j = n
    · rw [if_pos ej, ej, hZ]; exact OwnI.nil _ _
    · rw [if_neg ej]
      exact (h.row j (by omega)).kept hg ((h.row j (by omega)).apart h.own)
  · have hv : (if i = n then Value.slice none 0 0 else vs i).ownBlock = some g := hv
    show (if j = n then Value.slice none 0 0 else vs j).ownBlock ≠ some g
    by_cases ei : i = n
    · rw [if_pos ei] at hv; cases hv
    · rw [if_neg ei] at hv
      by_cases ej : j = n
      · rw [if_pos ej]; intro x; cases x
      · rw [if_neg ej]; exact h.inj i j (by omega) (by omega) hij g hv
/-- One number more in list j, which lies at u then. -/
theorem GrS.store {base n : Nat} {ro : Option Addr} {rc : Nat} {vs : Nat → Value} {Z : Nat → List Int} {w w1 : World} (h : GrS base n ro rc vs Z w) {g j : Nat} (hj : j < n) (hg : ro = some ⟨g, 0, none⟩) {u : Value} {x : Int} (hu : OwnI base u (Z j ++ [x]) w1) (hgr : w.grownBy w1 (vs j).ownBlock) (hat : u.ownBlock = (vs j).ownBlock ∨ u.ownBlock = some w.heap.size) :
    GrS base n ro rc (fun i => if i = j then u else vs i) (fun i => if i = j then Z i ++ [x] else Z i) (w1.setCell ⟨g, j, none⟩ u) := by
  have hown : OwnV base (.slice ro n rc) (vl n vs) w1 := h.own.grown hgr ((h.row j hj).apartV h.own)
  have hob : (Value.slice ro n rc).ownBlock = some g := by rw [hg]; rfl
  refine ⟨?_, fun i hi => ?_, fun a b ha hb hab k hv => ?_⟩
  · exact hown.set hg j u
  · show OwnI base (if i = j then u else vs i) (if i = j then Z i ++ [x] else Z i) _
    by_cases e : i = j
    · rw [if_pos e, if_pos e, e]; exact hu.setV hown hob
    · rw [if_neg e, if_neg e]
      refine OwnI.setV ((h.row i hi).kept hgr ?_) hown hob
      cases hv : (vs i).ownBlock with
      | none => exact Or.inl rfl
      | some k => exact Or.inr (fun x => h.inj i j hi hj e k hv x.symm)
  · have hv : (if a = j then u else vs a).ownBlock = some k := hv
    show (if b = j then u else vs b).ownBlock ≠ some k
    have hnew : ∀ c, c < n → (vs c).ownBlock ≠ some w.heap.size := fun c hc hx => by
      have := ((h.row c hc).lt _ hx).2
      omega
    by_cases ea : a = j
    · rw [if_pos ea] at hv
      rw [if_neg (fun x => hab (ea.trans x.symm))]
      rcases hat with hat | hat
      · rw [hat] at hv
        exact h.inj j b hj hb (fun x => hab (ea.trans x)) k hv
      · rw [hat] at hv
        cases hv
        exact hnew b hb
    · rw [if_neg ea] at hv
      by_cases eb : b = j
      · rw [if_pos eb]
        rcases hat with hat | hat
        · rw [hat]
          exact h.inj a j ha hj ea k hv
        · rw [hat]
          intro x
          cases x
          exact hnew a ha hv
      · rw [if_neg eb]
        exact h.inj a b ha hb hab k hv
/-- What they are when all numbers are laid. -/
theorem GrS.lls {base n : Nat} {ro : Option Addr} {rc : Nat} {vs : Nat → Value} {p s : Nat → Nat} {a : Nat} {w : World} (h : GrS base n ro rc vs (gz p s a) w) (hn : n = gn p a) (hp : ∀ b, b < a → p b ≤ gn p b) : LLs base (.slice ro n rc) (gL p s a) w := by
  refine ⟨vl n vs, h.own, by rw [vl_len, gL_len, hn], fun j v y hv hy => ?_⟩
  have hj : j < n := by have := (List.getElem?_eq_some_iff.1 hv).1; rwa [vl_len] at this
  rw [vl_get n vs j hj] at hv
  cases hv
  unfold gL at hy
  rw [List.getElem?_map, List.getElem?_range (by omega)] at hy
  cases hy
  have h0 := gz_some (s := s) hp (show j < gn p a by omega)
  have h1 := (h.row j hj).ownC (fun i => ((gz p s a j).getD i 0).toNat) (fun k hk => by
    have hm : (gz p s a j).getD k 0 ∈ gz p s a j := by
      rw [List.getD_eq_getElem?_getD, List.getElem?_eq_getElem hk]
      exact List.getElem_mem hk
    have := gz_nat p s a j _ hm
    omega)
  rw [show (gz p s a j).length = (gz p s a j).length - 1 + 1 from by omega] at h1
  exact h1.elm
end Go.Proofs.YtaliaikahohemaaGreatDoor

/- A region that draws its order and whose last operation, which waits for all others, writes what another one reads. No Go text here. -/
namespace Go.Proofs.YtaliaikahohemaaGreatDoor
open Go

/-- Whatever order is picked from here on; S holds behind every operation but number L. -/
def wpAnyX (P : Program) (ops : Array Oper) (Q : Exit → Act → World → Prop) (S : World → Prop) (L : Nat) : Nat → Array Bool → Act → World → Prop
  | 0, s, a, w => Region.ready .any ops s = [] ∧ Q .normal a w
  | f + 1, s, a, w => (Region.ready .any ops s = [] → Q .normal a w) ∧ ∀ i ∈ Region.ready .any ops s, wpOp P ops Q i (fun a' w' => (i ≠ L → S w') ∧ wpAnyX P ops Q S L f (s.setIfInBounds i true) a' w') a w
theorem wpAny_of_X {P : Program} {ops : Array Oper} {Q : Exit → Act → World → Prop} {S : World → Prop} {L : Nat} : ∀ (f : Nat) (s : Array Bool) (a : Act) (w : World), wpAnyX P ops Q S L f s a w → wpAny P .any ops Q f s a w
  | 0, _, _, _, h => h
  | f + 1, _, _, _, h => ⟨h.1, fun i hi => wpOp_mono (fun a' w' h' => wpAny_of_X f _ a' w' h'.2) (h.2 i hi)⟩
/-- Does number L wait for number i? -/
def waitsB (ops : Array Oper) (L i : Nat) : Bool := ((ops[L]?).map fun o => o.after.any fun e => Region.binds .any e && e.on == i).getD false
theorem waits_not {ops : Array Oper} {L i : Nat} {s : Array Bool} (h : waitsB ops L i = true) (hi : s.getD i true = false) : L ∉ Region.ready .any ops s := by
  intro hL
  obtain ⟨_, o, ho, hall⟩ := mem_ready.1 hL
  unfold waitsB at h
  rw [ho] at h
  obtain ⟨e, he, hb⟩ := Array.any_eq_true'.1 (show (o.after.any fun e => Region.binds .any e && e.on == i) = true from h)
  rw [Bool.and_eq_true, beq_iff_eq] at hb
  have h1 := hall e he hb.1
  rw [hb.2] at h1
  rcases Nat.lt_or_ge i s.size with h' | h'
  · simp [h'] at hi h1; rw [hi] at h1; cases h1
  · simp [Array.getElem?_eq_none h'] at h1
theorem wpAnyX_first {P : Program} {ops : Array Oper} {Q : Exit → Act → World → Prop} {S : World → Prop} {L i : Nat} {oi : Oper} {v : Value} (hi : ops[i]? = some oi) (hsel : ∀ (j : Nat) (o : Oper) cs b, ops[j]? = some o → o.op ≠ .select cs b)
    (hQ : ∀ c a w, Q (.panic c) (a.put oi.dst v) w → Q (.panic c) a w) (hL : waitsB ops L i = true) :
    ∀ (f : Nat) (s : Array Bool) (a : Act) (w : World),
      (∀ j oj, ops[j]? = some oj → j ≠ i → s.getD j true = false → (∀ e ∈ oj.after, Region.binds .any e = true → e.on ≠ i) → oi.apart ops oj = true) →
      i ∈ Region.ready .any ops s → YieldsIf P ops S oi v a → S w →
      wpAnyX P ops Q S L f (s.setIfInBounds i true) (a.put oi.dst v) w → wpAnyX P ops Q S L (f + 1) s a w := by
  intro f
  induction f with
  | zero =>
    intro s a w _ hr hy hS H
    refine ⟨fun h => (by rw [h] at hr; cases hr), fun j hj => ?_⟩
    by_cases hji : j = i
    · subst hji; exact hy.wpOp hi hS ⟨fun _ => hS, H⟩
    · have := ready_mono hj hji
      rw [H.1] at this
      cases this
  | succ f ih =>
    intro s a w hfree hr hy hS H
    refine ⟨fun h => (by rw [h] at hr; cases hr), fun j hj => ?_⟩
    by_cases hji : j = i
    · subst hji; exact hy.wpOp hi hS ⟨fun _ => hS, H⟩
    · have h1 := H.2 j (ready_mono hj hji)
      have hjL : j ≠ L := fun e => waits_not hL (mem_ready.1 hr).1 (e ▸ hj)
      obtain ⟨hjun, oj, hoj, hall⟩ := mem_ready.1 hj
      have hnot : ∀ e ∈ oj.after, Region.binds .any e = true → e.on ≠ i := fun e he hb heq => by
        have h1 := hall e he hb
        have h0 := (mem_ready.1 hr).1
        rw [heq] at h1
        rcases Nat.lt_or_ge i s.size with h' | h'
        · simp [h'] at h0 h1; rw [h0] at h1; cases h1
        · simp [Array.getElem?_eq_none h'] at h1
      have h2 := wpOp_putIf hoj (hfree j oj hoj hji hjun hnot) (fun cs b => hsel i oi cs b hi) (fun cs b => hsel j oj cs b hoj) hQ hy h1
      have hfree' : ∀ k ok, ops[k]? = some ok → k ≠ i → (s.setIfInBounds j true).getD k true = false →
          (∀ e ∈ ok.after, Region.binds .any e = true → e.on ≠ i) → oi.apart ops ok = true := fun k ok hk hki hun hno => by
        refine hfree k ok hk hki ?_ hno
        by_cases hjk : j = k
        · subst hjk; exact hjun
        · rw [getD_set_ne true hjk] at hun; exact hun
      refine wpOp_mono (fun a' w' h3 => ⟨fun _ => h3.2.1 hjL, ih (s.setIfInBounds j true) a' w' hfree' (ready_mono hr (Ne.symm hji)) h3.1 (h3.2.1 hjL) ?_⟩) h2
      rw [Array.setIfInBounds_comm _ _ hji]
      exact h3.2.2
/-- Take number i first. -/
theorem wpAnyX_take {P : Program} {ops : Array Oper} {Q : Exit → Act → World → Prop} {S : World → Prop} {L i : Nat} {oi : Oper} {v : Value} {f : Nat} {s : Array Bool} {a : Act} {w : World} (hi : ops[i]? = some oi)
    (hs : Region.noSelect ops = true) (hf : Region.free .any ops s i = true) (hr : (Region.ready .any ops s).contains i = true) (hL : waitsB ops L i = true)
    (hQ : ∀ c a w, Q (.panic c) (a.put oi.dst v) w → Q (.panic c) a w) (hS : S w) (hy : YieldsIf P ops S oi v a)
    (h : wpAnyX P ops Q S L f (s.setIfInBounds i true) (a.put oi.dst v) w) : wpAnyX P ops Q S L (f + 1) s a w :=
  wpAnyX_first hi (Region.noSelect_spec hs) hQ hL f s a w (Region.free_spec hi hf) (by simpa using hr) hy hS h
/-- Number i is the only one that may come now. -/
theorem wpAnyX_one {P : Program} {ops : Array Oper} {Q : Exit → Act → World → Prop} {S : World → Prop} {L i : Nat} {o : Oper} {f : Nat} {s : Array Bool} {a : Act} {w : World} (hr : Region.ready .any ops s = [i]) (ho : ops[i]? = some o)
    (h : ∀ K : Act → World → Prop, (∀ a' w', (i ≠ L → S w') → wpAnyX P ops Q S L f (s.setIfInBounds i true) a' w' → K a' w') → if Region.wanted o (yielded ops a.tmps) = true then Oper.wp P o a w K Q else K (a.put o.dst undef) w) : wpAnyX P ops Q S L (f + 1) s a w := by
  refine ⟨fun e => (by rw [hr] at e; cases e), fun j hj => ?_⟩
  rw [hr, List.mem_singleton] at hj
  subst hj
  have h1 := h (fun a' w' => (j ≠ L → S w') ∧ wpAnyX P ops Q S L f (s.setIfInBounds j true) a' w') (fun a' w' h1 h2 => ⟨h1, h2⟩)
  unfold wpOp
  simp only [ho]
  split
  · rename_i hw
    rw [if_pos hw] at h1
    exact Or.inl h1
  · rename_i hw
    rw [if_neg hw] at h1
    exact h1
theorem wpAnyX_done {P : Program} {ops : Array Oper} {Q : Exit → Act → World → Prop} {S : World → Prop} {L : Nat} {s : Array Bool} {a : Act} {w : World} (hr : Region.ready .any ops s = []) (h : Q .normal a w) : wpAnyX P ops Q S L 0 s a w := ⟨hr, h⟩
theorem wp_region_X {P : Program} {ops : Array Oper} {Q : Exit → Act → World → Prop} {S : World → Prop} (L : Nat) {id : Nat} {a : Act} {w : World} (hm : P.follows .mixedOrders = true)
    (h : wpAnyX P ops Q S L ops.size (Array.replicate ops.size false) a w.drew) : (Code.region id ops true).wp P Q a w :=
  wp_region_any hm (wpAny_of_X _ _ _ _ h)
end Go.Proofs.YtaliaikahohemaaGreatDoor

/- The program's products: pairs of powers, two cells each. -/
namespace Go.Proofs.YtaliaikahohemaaGreatDoor
open Go.RowKit Go.Sort

/-- n pairs of numbers from ao on. -/
def SlQ (ao : Option Addr) (n : Nat) (px py : Nat → Nat) (w : World) : Prop := ∀ j, j < n → ∃ b, ao = some ⟨b, 0, none⟩ ∧ w.cell? ⟨b, j * 2, none⟩ = some (.int .i64 (px j : Nat)) ∧ w.cell? ⟨b, j * 2 + 1, none⟩ = some (.int .i64 (py j : Nat))
theorem SlQ.below {ao : Option Addr} {n : Nat} {px py : Nat → Nat} {w w' : World} (h : SlQ ao n px py w) (hb : Below w.heap.size w w') : SlQ ao n px py w' := fun j hj => by
  obtain ⟨b, e, hc, hd⟩ := h j hj
  have hlt : b < w.heap.size := by
    rcases Nat.lt_or_ge b w.heap.size with e | e
    · exact e
    · exfalso
      have h1 : w.heap[b]? = none := Array.getElem?_eq_none e
      simp [World.cell?, h1] at hc
  exact ⟨b, e, ((bcell hb).1 b (j * 2) hlt).trans hc, ((bcell hb).1 b (j * 2 + 1) hlt).trans hd⟩
end Go.Proofs.YtaliaikahohemaaGreatDoor

/- The program's valuesAt: all products at an x and a y. -/
namespace Go.Proofs.YtaliaikahohemaaGreatDoor
open Go.RowKit Go.Sort

end Go.Proofs.YtaliaikahohemaaGreatDoor

/- The program's byPowers: numbers laid by their powers of y. -/
namespace Go.Proofs.YtaliaikahohemaaGreatDoor
open Go.RowKit Go.Sort

/-- What stays where one list grows: cells elsewhere. -/
theorem GrS.else {base n : Nat} {ro : Option Addr} {rc : Nat} {vs : Nat → Value} {Z : Nat → List Int} {w w1 : World} (h : GrS base n ro rc vs Z w) {j b : Nat} (hj : j < n) (hgr : w.grownBy w1 (vs j).ownBlock) (hb : b < w.heap.size) (hne : b < base ∨ ∀ g, (vs j).ownBlock = some g → g ≠ b) : w1.heap[b]? = w.heap[b]? := by
  refine hgr.block b hb ?_
  intro e
  rcases hne with hne | hne
  · have := ((h.row j hj).lt b e.symm).1
    omega
  · exact hne b e.symm rfl
theorem cell_same {w w1 : World} {b o : Nat} (h : w1.heap[b]? = w.heap[b]?) : w1.cell? ⟨b, o, none⟩ = w.cell? ⟨b, o, none⟩ := by
  simp [World.cell?, h]
theorem frozen_same {w w1 : World} {b o : Nat} (h : w1.heap[b]? = w.heap[b]?) : w1.frozen? ⟨b, o, none⟩ = w.frozen? ⟨b, o, none⟩ := by
  simp [World.frozen?, h]

theorem OwnI.form {base : Nat} {v : Value} {l : List Int} {w : World} (h : OwnI base v l w) : ∃ ao cap, v = .slice ao l.length cap := by
  rcases h.2 with ⟨h1, h2⟩ | ⟨g, cap, cur, hv, _⟩
  · exact ⟨none, 0, by rw [h1, h2]⟩
  · exact ⟨_, cap, hv⟩
/-- The number of product a is laid. -/
theorem GrS.next {base m : Nat} {ro : Option Addr} {rc : Nat} {vs : Nat → Value} {p s : Nat → Nat} {r j g : Nat} {w w1 : World} {u : Value} (h : GrS base m ro rc vs (gz p s r) w) (hj : j < m) (hjp : j = p r) (hg : ro = some ⟨g, 0, none⟩) (hu : OwnI base u (gz p s r j ++ [((s r : Nat) : Int)]) w1) {ob : Option Nat} (hob : (vs j).ownBlock = ob) (hgr : w.grownBy w1 ob) (hat : u.ownBlock = ob ∨ u.ownBlock = some w.heap.size) :
    GrS base m ro rc (fun i => if i = j then u else vs i) (gz p s (r + 1)) (w1.setCell ⟨g, j, none⟩ u) := by
  subst hob
  refine (h.store hj hg hu hgr hat).congr (fun i _ => ?_)
  show _ = (if i = p r then gz p s r i ++ [((s r : Nat) : Int)] else gz p s r i)
  rw [← hjp]
/-- What the next number's walk reads, wherever it stands. -/
def bpF (pb g j bs os r : Nat) (jo : Option Addr) (jl jc i x : Nat) (wx : World) : Prop := wx.cell? ⟨pb, 0, none⟩ = some (.int .i64 (i : Nat)) ∧ wx.cell? ⟨pb, 1, none⟩ = some (.int .i64 (j : Nat)) ∧ wx.cell? ⟨g, j, none⟩ = some (.slice jo jl jc) ∧ wx.frozen? ⟨g, j, none⟩ = false ∧ wx.cell? ⟨bs, os + r, none⟩ = some (.int .i64 (x : Nat))

theorem bpF.below {pb g j bs os r : Nat} {jo : Option Addr} {jl jc i x : Nat} {w w' : World} (h : bpF pb g j bs os r jo jl jc i x w) (hb : Below w.heap.size w w') : bpF pb g j bs os r jo jl jc i x w' := by
  obtain ⟨h1, h2, h3, h4, h5⟩ := h
  exact ⟨(cell_same (hb.block _ (cell_lt h1))).trans h1, (cell_same (hb.block _ (cell_lt h2))).trans h2, (cell_same (hb.block _ (cell_lt h3))).trans h3, (frozen_same (hb.block _ (cell_lt h3))).trans h4, (cell_same (hb.block _ (cell_lt h5))).trans h5⟩
theorem bpF.keep {pb g j bs os r : Nat} {jo : Option Addr} {jl jc i x : Nat} {base m : Nat} {ro : Option Addr} {rc : Nat} {vs : Nat → Value} {Z : Nat → List Int} {w w9 : World} (hF : bpF pb g j bs os r jo jl jc i x w) (h : GrS base m ro rc vs Z w) (hj : j < m) (hg : ro = some ⟨g, 0, none⟩) (hpb : ∀ k, (vs j).ownBlock = some k → k ≠ pb) (hbs : bs < base) {ob : Option Nat} (hob : (vs j).ownBlock = ob) (hgr : w.grownBy w9 ob) : bpF pb g j bs os r jo jl jc i x w9 := by
  subst hob
  obtain ⟨h1, h2, h3, h4, h5⟩ := hF
  have e1 := h.else hj hgr (cell_lt h1) (Or.inr hpb)
  have e2 := h.else hj hgr (cell_lt h3) (Or.inr (fun k hk e => by
    rcases (h.row j hj).apart h.own with ha | ha
    · rw [ha] at hk; cases hk
    · exact ha (by rw [hk, hg, e]; rfl)))
  have e3 := h.else hj hgr (cell_lt h5) (Or.inl hbs)
  exact ⟨(cell_same e1).trans h1, (cell_same e1).trans h2, (cell_same e2).trans h3, (frozen_same e2).trans h4, (cell_same e3).trans h5⟩
theorem bpF.three {pb g j bs os r : Nat} {jo : Option Addr} {jl jc i x : Nat} {w : World} (h : bpF pb g j bs os r jo jl jc i x w) : w.cell? ⟨pb, 0, none⟩ = some (.int .i64 (i : Nat)) ∧ w.cell? ⟨pb, 1, none⟩ = some (.int .i64 (j : Nat)) ∧ w.cell? ⟨bs, os + r, none⟩ = some (.int .i64 (x : Nat)) := ⟨h.1, h.2.1, h.2.2.2.2⟩
theorem bpF.set {pb g j bs os r : Nat} {jo : Option Addr} {jl jc i x : Nat} {w : World} (h : bpF pb g j bs os r jo jl jc i x w) (h1 : g ≠ pb) (h2 : g ≠ bs) (v : Value) : (w.setCell ⟨g, j, none⟩ v).cell? ⟨pb, 0, none⟩ = some (.int .i64 (i : Nat)) ∧ (w.setCell ⟨g, j, none⟩ v).cell? ⟨pb, 1, none⟩ = some (.int .i64 (j : Nat)) ∧ (w.setCell ⟨g, j, none⟩ v).cell? ⟨bs, os + r, none⟩ = some (.int .i64 (x : Nat)) := by
  have e1 := Below.heap_setCell w ⟨g, j, none⟩ v pb (fun e => h1 e.symm)
  have e2 := Below.heap_setCell w ⟨g, j, none⟩ v bs (fun e => h2 e.symm)
  exact ⟨(cell_same e1).trans h.1, (cell_same e1).trans h.2.1, (cell_same e2).trans h.2.2.2.2⟩
theorem bpF.ne {pb g j bs os r : Nat} {jo : Option Addr} {jl jc i x : Nat} {base m : Nat} {ro : Option Addr} {rc : Nat} {vs : Nat → Value} {Z : Nat → List Int} {w : World} (hF : bpF pb g j bs os r jo jl jc i x w) (h : GrS base m ro rc vs Z w) (hj : j < m) (hg : ro = some ⟨g, 0, none⟩) (hbs : bs < base) : g ≠ pb ∧ g ≠ bs := by
  obtain ⟨g', e, hc, _, hb, _⟩ := h.cell 0 (by omega)
  rw [hg] at e
  cases e
  refine ⟨fun e => ?_, by omega⟩
  obtain ⟨ao, cap, ev⟩ := (h.row 0 (by omega)).form
  have := hF.1
  rw [← e, hc, ev] at this
  cases this
end Go.Proofs.YtaliaikahohemaaGreatDoor

/- The program's Sudan. -/
namespace Go.Proofs.YtaliaikahohemaaGreatDoor
open Go.RowKit Go.Sort

/-- The reduced form of these rows; the reduced form of what they make 0. -/
structure SOk (D : FD) (m P : Nat) (V : Nat → Nat → Nat) (k : Nat) (R : Nat → Nat → Nat) (p : Nat → Nat) (k2 : Nat) (R2 : Nat → Nat → Nat) (p2 : Nat → Nat) : Prop where
  km : k ≤ m
  rre : RRE D P k R p
  spn : ∀ v, Spn D (RowsOf k R) v ↔ Spn D (RowsOf m V) v
  km2 : k2 ≤ nct k p P
  rre2 : RRE D P k2 R2 p2
  spn2 : ∀ v, Spn D (RowsOf k2 R2) v ↔ Spn D (RowsOf (nct k p P) (nul D R p k P)) v
theorem Mx.matZ {B G m n : Nat} {R : Nat → Nat → Nat} {h : Nat → Nat} {w : World} (H : Mx B G m m n R h w) (hn : n ≤ 1000000) : MatZ (some ⟨G, 0, none⟩) m (fun i => some ⟨h i, 0, none⟩) (fun _ => n) (fun _ => n) (fun i j => ((R i j : Nat) : Int)) w :=
  ⟨fun i hi => ⟨G, 0, rfl, by rw [Nat.zero_add]; exact H.cell i hi⟩, fun i hi => (H.row i hi).sl (Nat.le_refl _), fun _ _ => Nat.le_refl _, fun _ _ => by omega, fun _ _ e => (by cases e), fun _ _ => hn⟩
theorem RL.first {lo : Option Addr} {k n lc : Nat} {R : Nat → Nat → Nat} {w : World} (h : RL (.slice lo k lc) k n R w) (hk : 0 < k) : ∃ b off x cx, lo = some ⟨b, off, none⟩ ∧ w.cell? ⟨b, off, none⟩ = some (.slice x n cx) ∧ Sl x n (R 0) w := by
  obtain ⟨ao, ca, e, h⟩ := h
  cases e
  obtain ⟨b, off, x, cx, e1, e2, e3⟩ := h 0 hk
  exact ⟨b, off, x, cx, e1, e2, e3⟩
end Go.Proofs.YtaliaikahohemaaGreatDoor

/- Codes: what is said of one (the program's code.Check, the reference's CodeMay). -/
namespace Go.Proofs.YtaliaikahohemaaGreatDoor
open Go.RowKit Go.Sort

/-- A code's cells, in block b. -/
structure CB (b : Nat) (q n : Int) (v : Value) (w : World) : Prop where
  c0 : w.cell? ⟨b, 0, none⟩ = some (.int .i64 q)
  c1 : w.cell? ⟨b, 1, none⟩ = some (.int .i64 n)
  c2 : w.cell? ⟨b, 2, none⟩ = some v
theorem CB.new (q n : Int) (v : Value) (w : World) : CB w.heap.size q n v (w.alloc (.cells #[.int .i64 q, .int .i64 n, v] 25)) :=
  ⟨by rw [cell_of_row _ _ _ _ _ (0, 0) (two_new _)]; rfl, by rw [cell_of_row _ _ _ _ _ (0, 0) (two_new _)]; rfl, by rw [cell_of_row _ _ _ _ _ (0, 0) (two_new _)]; rfl⟩
theorem CB.below {b B : Nat} {q n : Int} {v : Value} {w w' : World} (h : CB b q n v w) (hb : Below B w w') (hB : b < B) : CB b q n v w' := by
  have e : ∀ o, w'.cell? ⟨b, o, none⟩ = w.cell? ⟨b, o, none⟩ := fun o => by simp [World.cell?, hb.block b hB]
  exact ⟨(e 0).trans h.c0, (e 1).trans h.c1, (e 2).trans h.c2⟩
theorem CB.keep {b : Nat} {q n : Int} {v : Value} {w w' : World} (h : CB b q n v w) (hb : Below w.heap.size w w') : CB b q n v w' := h.below hb (cell_lt h.c0)
/-- What is said of a code. -/
def FD.cchk (D : FD) (n : Int) (m : Nat) (N : Nat → Nat) (Z : Nat → Nat → Int) : Int := if n < 1 ∨ 64 < n then 4 else if D.mchk m N Z ≠ 0 then D.mchk m N Z else if 0 < m ∧ ((N 0 : Nat) : Int) ≠ n then 3 else 0

set_option maxHeartbeats 4000000 in
set_option maxRecDepth 100000 in
theorem ccheck_any {D : FD} (hD : D ∈ fieldsL) {ao : Option Addr} {m ca : Nat} {A : Nat → Option Addr} {N C : Nat → Nat} {Z : Nat → Nat → Int} (n : Int) {w : World} (hA : MatZ ao m A N C Z w) (hm : m ≤ 1000000) :
    Calls Tryz.prog 19 #[.agg #[.int .i64 D.q, .int .i64 n, .slice ao m ca]] w fun e w' => e = .returned (.int .i64 (D.cchk n m N Z)) ∧ Below w.heap.size w w' := by
  obtain ⟨wa, hwa⟩ : ∃ wa, wa = w.alloc (.cells #[.int .i64 D.q, .int .i64 n, .slice ao m ca] 25) := ⟨_, rfl⟩
  have hba : Below w.heap.size w wa := by rw [hwa]; exact (Below.refl _ _).alloc (Nat.le_refl _) _
  have HA : Hid (D ∈ fieldsL ∧ MatZ ao m A N C Z w ∧ Below w.heap.size w wa ∧ CB w.heap.size D.q n (.slice ao m ca) wa ∧ wa.heap.size = w.heap.size + 1) := ⟨hD, hA, hba, by rw [hwa]; exact CB.new _ _ _ _, by rw [hwa]; simp⟩
  obtain ⟨e0, he0⟩ : ∃ e0, e0 = D.mchk m N Z := ⟨_, rfl⟩
  obtain ⟨E, hE⟩ : ∃ E, E = D.cchk n m N Z := ⟨_, rfl⟩
  rw [← hE]
  have HE : Hid (E = D.cchk n m N Z ∧ e0 = D.mchk m N Z) := ⟨hE, he0⟩
  clear hD hA hba he0 hE
  go_enter Tryz.func19, Tryz.ntmps19
  go_wp2_with fail
  rw [← hwa]
  clear hwa
  refine (new_any HA.out.1 wa).mono ?_
  rintro e w1 ⟨F, T, g, rfl, _, _, _, hb1⟩
  have H1 : Hid (Below w.heap.size w w1 ∧ CB w.heap.size D.q n (.slice ao m ca) w1 ∧ w.heap.size < w1.heap.size) := by
    have := hb1.size
    have := HA.out.2.2.2.2
    exact ⟨bel_up' HA.out.2.2.1 hb1, HA.out.2.2.2.1.keep hb1, by omega⟩
  clear hb1
  have hcb := H1.out.2.1
  obtain ⟨c0, c1, c2⟩ := hcb
  by_cases h1 : n < 1
  · have HF : Hid (E = 4) := by show E = 4; rw [HE.out.1]; unfold FD.cchk; rw [if_pos (Or.inl h1)]
    go_wp2
    go_ret
    exact ⟨by rw [HF.out]; rfl, H1.out.1⟩
  · by_cases h2 : 64 < n
    · have HF : Hid (E = 4) := by show E = 4; rw [HE.out.1]; unfold FD.cchk; rw [if_pos (Or.inr h2)]
      go_wp2
      go_ret
      exact ⟨by rw [HF.out]; rfl, H1.out.1⟩
    · have HF : Hid (E = if e0 ≠ 0 then e0 else if 0 < m ∧ ((N 0 : Nat) : Int) ≠ n then 3 else 0) := by show E = _; rw [HE.out.1, HE.out.2]; unfold FD.cchk; rw [if_neg (by omega)]
      go_wp2_with fail
      refine (mcheck_any HA.out.1 (HA.out.2.1.below H1.out.1) hm).mono ?_
      rintro e w2 ⟨rfl, hb2⟩
      rw [← HE.out.2]
      have H2 : Hid (Below w.heap.size w w2 ∧ CB w.heap.size D.q n (.slice ao m ca) w2) := ⟨bel_up' H1.out.1 hb2, H1.out.2.1.keep hb2⟩
      clear hb2 c0 c1 c2
      have hcb := H2.out.2
      obtain ⟨c0, c1, c2⟩ := hcb
      by_cases hz : e0 = 0
      · have hz1 : (e0 != 0) = false := by rw [hz]; rfl
        by_cases hm0 : 0 < m
        · obtain ⟨b, off, hao, hc⟩ := (HA.out.2.1.below H2.out.1).cell 0 hm0
          subst hao
          have hmb : (0 : Int) < (m : Int) := by omega
          have hc : w2.cell? ⟨b, off, none⟩ = some (.slice (A 0) (N 0) (C 0)) := hc
          obtain ⟨N0, hN0⟩ : ∃ N0, N0 = N 0 := ⟨_, rfl⟩
          rw [← hN0] at hc
          have HG : Hid (E = if ((N0 : Nat) : Int) ≠ n then 3 else 0) := by
            show E = _
            rw [HF.out, if_neg (fun h => h hz), hN0]
            by_cases h : ((N 0 : Nat) : Int) ≠ n
            · rw [if_pos h, if_pos ⟨hm0, h⟩]
            · rw [if_neg h, if_neg (fun x => h x.2)]
          clear hN0
          have hd : decide ((0 : Int) < (m : Int)) = true := decide_eq_true hmb
          by_cases hn : ((N0 : Nat) : Int) = n
          · have HG2 : Hid (E = 0) := by show E = 0; rw [HG.out, if_neg (fun h => h hn)]
            have hnb : (((N0 : Nat) : Int) != n) = false := by rw [bne_eq_false_iff_eq]; exact hn
            clear hn
            go_wp2
            go_quiet (fail)
            go_wp2
            go_ret
            exact ⟨by rw [HG2.out]; rfl, below_drewN2 H2.out.1 _⟩
          · have HG2 : Hid (E = 3) := by show E = 3; rw [HG.out, if_pos hn]
            have hnb : (((N0 : Nat) : Int) != n) = true := by rw [bne_iff_ne]; exact hn
            clear hn
            go_wp2
            go_quiet (fail)
            go_wp2
            go_ret
            exact ⟨by rw [HG2.out]; rfl, below_drewN2 H2.out.1 _⟩
        · have HG : Hid (E = 0) := by show E = 0; rw [HF.out, if_neg (fun h => h hz), if_neg (fun h => hm0 h.1)]
          have hd : decide ((0 : Int) < (m : Int)) = false := decide_eq_false (by omega)
          go_wp2
          go_quiet (fail)
          go_wp2
          go_ret
          exact ⟨by rw [HG.out]; rfl, below_drewN2 H2.out.1 _⟩
      · have hz1 : (e0 != 0) = true := by rw [bne_iff_ne]; exact hz
        have HG : Hid (E = e0) := by show E = e0; rw [HF.out, if_pos hz]
        go_wp2
        go_ret
        exact ⟨by rw [HG.out]; rfl, H2.out.1⟩
set_option maxHeartbeats 2000000 in
set_option maxRecDepth 100000 in
theorem ccheck_none (q : Int) (h : ∀ D ∈ fieldsL, (D.q : Int) ≠ q) (n : Int) (ao : Option Addr) (m ca : Nat) (w : World) :
    Calls Tryz.prog 19 #[.agg #[.int .i64 q, .int .i64 n, .slice ao m ca]] w fun e w' => e = .returned (.int .i64 1) ∧ Below w.heap.size w w' := by
  have HB : Hid (∀ D ∈ fieldsL, (D.q : Int) ≠ q) := h
  clear h
  go_enter Tryz.func19, Tryz.ntmps19
  go_wp2_with fail
  refine (new_none q _ HB.out).mono ?_
  rintro e w' ⟨rfl, hw⟩
  have hw := hw.symm
  subst hw
  go_wp2
  go_ret
  exact ⟨rfl, (Below.refl _ _).alloc (Nat.le_refl _) _⟩
end Go.Proofs.YtaliaikahohemaaGreatDoor
