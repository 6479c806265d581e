/- Texts of ours, one behind the other: S11 Z1 Z2 Z3 Z4 Z5 Z6 Z7 Z8 Z9 Z10 Z11 Z12 Q1 Q2. -/
import Derived.Test.YtabkomelnhnoiaaZL11
import Derived.Test.YtabkomelnhnoiaaZN1
import Derived.Test.YtabkomelnhnoiaaZS4
import Derived.Test.YtabkomelnhnoiaaZR5
import Derived.Test.YtabkomelnhnoiaaZL1
import Derived.Test.YtabkomelnhnoiaaZT3
import Derived.Test.YtabkomelnhnoiaaZU5
import Derived.Test.YtabkomelnhnoiaaZU21
import Derived.Test.YtabkomelnhnoiaaZS1
import Derived.Test.YtabkomelnhnoiaaZT2
/- A polynomial that is not nought has fewer roots than coefficients; words of few coefficients are far apart. -/
namespace Go.Proofs.Ytabkomelnhnoiaa
open Go.RowKit Go.Sort

/-- How many of the first n. -/
def ct (p : Nat → Bool) : Nat → Nat
  | 0 => 0
  | n + 1 => ct p n + if p n = true then 1 else 0
end Go.Proofs.Ytabkomelnhnoiaa

/- The program's words (reed): values, Check and Encode where all may be. -/
namespace Go.Proofs.Ytabkomelnhnoiaa
open Go.RowKit Go.Sort

end Go.Proofs.Ytabkomelnhnoiaa

/- Places and a dimension: may they be? The program's Check, the reference's ReedMay, whatever they are given. -/
namespace Go.Proofs.Ytabkomelnhnoiaa
open Go.RowKit Go.Sort

end Go.Proofs.Ytabkomelnhnoiaa

/- The reference's ReedMay, whatever it is given. -/
namespace Go.Proofs.Ytabkomelnhnoiaa
open Go.RowKit Go.Sort

end Go.Proofs.Ytabkomelnhnoiaa

/- A word that came: may it be? The program's Word. -/
namespace Go.Proofs.Ytabkomelnhnoiaa
open Go.RowKit Go.Sort

end Go.Proofs.Ytabkomelnhnoiaa

/- A word that came: the reference's ReedWord. -/
namespace Go.Proofs.Ytabkomelnhnoiaa
open Go.RowKit Go.Sort

end Go.Proofs.Ytabkomelnhnoiaa

/- Whole words, and how many messages there are: the program's checkWhole, messages, digits; the law's wholeWord; the reference's Few. -/
namespace Go.Proofs.Ytabkomelnhnoiaa
open Go.RowKit Go.Sort

end Go.Proofs.Ytabkomelnhnoiaa

/- How many messages there are, and each by its number: the reference's Few, the program's messages, digits. -/
namespace Go.Proofs.Ytabkomelnhnoiaa
open Go.RowKit Go.Sort

/-- The digits of a number, the greatest first. -/
def dgs (q k a : Nat) : Nat → Nat := fun j => if j < k then a / q ^ (k - 1 - j) % q else 0
end Go.Proofs.Ytabkomelnhnoiaa

/- At how many places a message's word differs: the reference's Off, of whole words. -/
namespace Go.Proofs.Ytabkomelnhnoiaa
open Go.RowKit Go.Sort

end Go.Proofs.Ytabkomelnhnoiaa

/- All near messages: the program's Within. -/
namespace Go.Proofs.Ytabkomelnhnoiaa
open Go.RowKit Go.Sort

end Go.Proofs.Ytabkomelnhnoiaa

/- All near messages: the reference's Near. -/
namespace Go.Proofs.Ytabkomelnhnoiaa
open Go.RowKit Go.Sort

theorem dnum_dgs' {q k a : Nat} (hq : 2 ≤ q) (ha : a < q ^ k) : ∀ i, i ≤ k → dnum q (dgs q k a) i = a / q ^ (k - i)
  | 0, _ => by rw [Nat.sub_zero, Nat.div_eq_of_lt ha]; rfl
  | i + 1, hi => by
    rw [dnum, dnum_dgs' hq ha i (by omega)]
    unfold dgs
    rw [if_pos (by omega), show k - 1 - i = k - (i + 1) from by omega]
    obtain ⟨b, hb⟩ : ∃ b, b = a / q ^ (k - (i + 1)) := ⟨_, rfl⟩
    have e : a / q ^ (k - i) = b / q := by
      rw [hb, Nat.div_div_eq_div_mul, ← Nat.pow_succ, show (k - (i + 1)).succ = k - i from by omega]
    rw [e, ← hb, Nat.mul_comm]
    exact Nat.div_add_mod b q
theorem dnum_dgs {q k a : Nat} (hq : 2 ≤ q) (ha : a < q ^ k) : dnum q (dgs q k a) k = a := by
  rw [dnum_dgs' hq ha k (Nat.le_refl _), Nat.sub_self, Nat.pow_zero, Nat.div_one]
theorem dgs_lt {q k a : Nat} (hq : 2 ≤ q) (j : Nat) : dgs q k a j < q := by
  unfold dgs
  split
  · exact Nat.mod_lt _ (by omega)
  · omega
end Go.Proofs.Ytabkomelnhnoiaa

/- All near messages: the walk of the reference's Near. -/
namespace Go.Proofs.Ytabkomelnhnoiaa
open Go.RowKit Go.Sort

theorem LLx.push {g base : Nat} {v v' u : Value} {l : List Value} {L : List (Nat × (Nat → Nat))} {p : Nat × (Nat → Nat)} {w w' : World} (h1 : OwnV base v l w) (h2 : Elms l L w) (h3 : ∀ u ∈ l, u.ownBlock ≠ some g) (hu : Elm u p w) (hne : u.ownBlock ≠ some g) (ho : OwnV base v' (l ++ [u]) w') (hg : w.grownBy w' v.ownBlock) : LLx g base v' (L ++ [p]) w' := by
  refine ⟨_, ho, (h2.snoc hu).grown h1 hg, fun x hx => ?_⟩
  rcases List.mem_append.1 hx with hx | hx
  · exact h3 x hx
  · rw [List.mem_singleton.1 hx]; exact hne

end Go.Proofs.Ytabkomelnhnoiaa

/- What it says that places, a dimension and a whole word may be; the calls that say no. -/
namespace Go.Proofs.Ytabkomelnhnoiaa
open Go.RowKit Go.Sort

end Go.Proofs.Ytabkomelnhnoiaa

/- Sudan's products in their order, and how a list of numbers is parted by them: plain mathematics. -/
namespace Go.Proofs.Ytabkomelnhnoiaa
open Go.RowKit

end Go.Proofs.Ytabkomelnhnoiaa

/- Lists of lists of the call's own that grow at any of their lists. -/
namespace Go.Proofs.Ytabkomelnhnoiaa
open Go.RowKit Go.Sort

/-- The list of lists at ro, made behind block number base: n lists Z, each in a block of its own. -/
structure GrS (base n : Nat) (ro : Option Addr) (rc : Nat) (vs : Nat → Value) (Z : Nat → List Int) (w : World) : Prop where
  own : OwnV base (.slice ro n rc) (vl n vs) w
  row : ∀ j, j < n → OwnI base (vs j) (Z j) w
  inj : ∀ i j, i < n → j < n → i ≠ j → ∀ g, (vs i).ownBlock = some g → (vs j).ownBlock ≠ some g
theorem GrS.nil (base : Nat) (vs : Nat → Value) (Z : Nat → List Int) (w : World) : GrS base 0 none 0 vs Z w :=
  ⟨OwnV.nil _ _, fun j hj => absurd hj (by omega), fun i j hi => absurd hi (by omega)⟩
theorem GrS.below {base n : Nat} {ro : Option Addr} {rc : Nat} {vs : Nat → Value} {Z : Nat → List Int} {w w' : World} (h : GrS base n ro rc vs Z w) (hb : Below w.heap.size w w') : GrS base n ro rc vs Z w' :=
  ⟨h.own.below hb (Nat.le_refl _), fun j hj => (h.row j hj).below hb (fun k hk => ((h.row j hj).lt k hk).2), h.inj⟩
theorem GrS.congr {base n : Nat} {ro : Option Addr} {rc : Nat} {vs : Nat → Value} {Z Z' : Nat → List Int} {w : World} (h : GrS base n ro rc vs Z w) (e : ∀ j, j < n → Z j = Z' j) : GrS base n ro rc vs Z' w :=
  ⟨h.own, fun j hj => by rw [← e j hj]; exact h.row j hj, h.inj⟩
theorem GrS.cell {base n : Nat} {ro : Option Addr} {rc : Nat} {vs : Nat → Value} {Z : Nat → List Int} {w : World} (h : GrS base n ro rc vs Z w) (j : Nat) (hj : j < n) : ∃ g, ro = some ⟨g, 0, none⟩ ∧ w.cell? ⟨g, j, none⟩ = some (vs j) ∧ w.frozen? ⟨g, j, none⟩ = false ∧ base ≤ g ∧ g < w.heap.size := by
  obtain ⟨ro', rc', e, _, hlt, hge, hc⟩ := h.own.open
  rw [vl_len] at e
  cases e
  obtain ⟨g, e, h1, h2⟩ := hc j (vs j) (vl_get n vs j hj)
  exact ⟨g, e, h1, h2, hge _ e, hlt _ e⟩
/-- Cell j of a list of lists of the call's own is another one now. -/
theorem OwnV.set {base n rc g : Nat} {ro : Option Addr} {vs : Nat → Value} {w1 : World} (hown : OwnV base (.slice ro n rc) (vl n vs) w1) (hg : ro = some ⟨g, 0, none⟩) (j : Nat) (u : Value) : OwnV base (.slice ro n rc) (vl n fun i => if i = j then u else vs i) (w1.setCell ⟨g, j, none⟩ u) := by
  rcases hown.2 with ⟨h1, _⟩ | ⟨g', cap, cur, hv, hb, hh, hle, hcm, hsz, htake⟩
  · rw [hg] at h1; cases h1
  · rw [hg, vl_len] at hv
    cases hv
    have hlt := lt_of_block hh
    have h' : w1.heap[g] = .cells cur 22 (0, 0) := by simpa [Array.getElem?_eq_getElem hlt] using hh
    refine ⟨by rw [vl_len]; omega, Or.inr ⟨g, rc, cur.setIfInBounds j u, by rw [hg, vl_len], hb, ?_, by rw [vl_len]; rw [vl_len] at hle; exact hle, hcm, by rw [Array.size_setIfInBounds]; exact hsz, ?_⟩⟩
    · show (w1.heap.modify g _)[g]? = _
      rw [Array.getElem?_eq_getElem (by simpa using hlt), Array.getElem_modify_self, h']
      rfl
    · rw [vl_len] at htake ⊢
      apply List.ext_getElem?
      intro i
      have h3 : (cur.toList.take (n * 1))[i]? = (vl n vs)[i]? := by rw [htake]
      rw [List.getElem?_take] at h3 ⊢
      by_cases hi : i < n * 1
      · rw [if_pos hi] at h3 ⊢
        have hik : i < n := by omega
        rw [vl_get n vs i hik] at h3
        rw [vl_get n _ i hik, Array.getElem?_toList, Array.getElem?_setIfInBounds]
        rw [Array.getElem?_toList] at h3
        by_cases e : j = i
        · rw [if_pos e, if_pos (by have := (Array.getElem?_eq_some_iff.1 h3).1; omega), if_pos e.symm]
        · rw [if_neg e, if_neg (fun x => e x.symm)]; exact h3
      · rw [if_neg hi, List.getElem?_eq_none (by rw [vl_len]; omega)]
/-- One list more, an empty one. -/
theorem GrS.push {base n : Nat} {ro : Option Addr} {rc : Nat} {v' : Value} {vs : Nat → Value} {Z : Nat → List Int} {w w' : World} (h : GrS base n ro rc vs Z w) (ho : OwnV base v' (vl n vs ++ [.slice none 0 0]) w') (hg : w.grownBy w' (Value.slice ro n rc).ownBlock) (hZ : Z n = []) :
    ∃ ro' rc', v' = .slice ro' (n + 1) rc' ∧ GrS base (n + 1) ro' rc' (fun j => if j = n then .slice none 0 0 else vs j) Z w' := by
  obtain ⟨ro', rc', e, _⟩ := ho.open
  rw [List.length_append, vl_len] at e
  refine ⟨ro', rc', e, ?_, fun j hj => ?_, fun i j hi hj hij g hv => ?_⟩
  · have e2 : vl (n + 1) (fun j => if j = n then .slice none 0 0 else vs j) = vl n vs ++ [.slice none 0 0] := by
      unfold vl
      rw [List.range_succ, List.map_append]
      congr 1
      · exact List.map_congr_left (fun j hj => if_neg (by have := List.mem_range.1 hj; omega))
      · simp
    rw [e2]
    rw [e] at ho
    exact ho
  · show OwnI base (if j = n then .slice none 0 0 else vs j) (Z j) w'
    by_cases ej : j = n
    · rw [if_pos ej, ej, hZ]; exact OwnI.nil _ _
    · rw [if_neg ej]
      exact (h.row j (by omega)).kept hg ((h.row j (by omega)).apart h.own)
  · have hv : (if i = n then Value.slice none 0 0 else vs i).ownBlock = some g := hv
    show (if j = n then Value.slice none 0 0 else vs j).ownBlock ≠ some g
    by_cases ei : i = n
    · rw [if_pos ei] at hv; cases hv
    · rw [if_neg ei] at hv
      by_cases ej : j = n
      · rw [if_pos ej]; intro x; cases x
      · rw [if_neg ej]; exact h.inj i j (by omega) (by omega) hij g hv
/-- One number more in list j, which lies at u then. -/
theorem GrS.store {base n : Nat} {ro : Option Addr} {rc : Nat} {vs : Nat → Value} {Z : Nat → List Int} {w w1 : World} (h : GrS base n ro rc vs Z w) {g j : Nat} (hj : j < n) (hg : ro = some ⟨g, 0, none⟩) {u : Value} {x : Int} (hu : OwnI base u (Z j ++ [x]) w1) (hgr : w.grownBy w1 (vs j).ownBlock) (hat : u.ownBlock = (vs j).ownBlock ∨ u.ownBlock = some w.heap.size) :
    GrS base n ro rc (fun i => if i = j then u else vs i) (fun i => if i = j then Z i ++ [x] else Z i) (w1.setCell ⟨g, j, none⟩ u) := by
  have hown : OwnV base (.slice ro n rc) (vl n vs) w1 := h.own.grown hgr ((h.row j hj).apartV h.own)
  have hob : (Value.slice ro n rc).ownBlock = some g := by rw [hg]; rfl
  refine ⟨?_, fun i hi => ?_, fun a b ha hb hab k hv => ?_⟩
  · exact hown.set hg j u
  · show OwnI base (if i = j then u else vs i) (if i = j then Z i ++ [x] else Z i) _
    by_cases e : i = j
    · rw [if_pos e, if_pos e, e]; exact hu.setV hown hob
    · rw [if_neg e, if_neg e]
      refine OwnI.setV ((h.row i hi).kept hgr ?_) hown hob
      cases hv : (vs i).ownBlock with
      | none => exact Or.inl rfl
      | some k => exact Or.inr (fun x => h.inj i j hi hj e k hv x.symm)
  · have hv : (if a = j then u else vs a).ownBlock = some k := hv
    show (if b = j then u else vs b).ownBlock ≠ some k
    have hnew : ∀ c, c < n → (vs c).ownBlock ≠ some w.heap.size := fun c hc hx => by
      have := ((h.row c hc).lt _ hx).2
      omega
    by_cases ea : a = j
    · rw [if_pos ea] at hv
      rw [if_neg (fun x => hab (ea.trans x.symm))]
      rcases hat with hat | hat
      · rw [hat] at hv
        exact h.inj j b hj hb (fun x => hab (ea.trans x)) k hv
      · rw [hat] at hv
        cases hv
        exact hnew b hb
    · rw [if_neg ea] at hv
      by_cases eb : b = j
      · rw [if_pos eb]
        rcases hat with hat | hat
        · rw [hat]
          exact h.inj a j ha hj ea k hv
        · rw [hat]
          intro x
          cases x
          exact hnew a ha hv
      · rw [if_neg eb]
        exact h.inj a b ha hb hab k hv
end Go.Proofs.Ytabkomelnhnoiaa
