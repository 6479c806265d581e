/- The reference's Shortest: is there no shorter rule? What it keeps. -/
import Derived.Test.YtnjbnamcedfjaaaZY4
import Derived.Test.YtnjbnamcedfjaaaZX19
import Derived.Test.YtnjbnamcedfjaaaZT10
namespace Go.Proofs.Ytnjbnamcedfjaaa
open Go.RowKit Go.Sort

/-- The rows of the equations for length c (a of them), and what they are to give (d of them). -/
structure ShS (D : FD) (s : Nat → Nat) (base c a d : Nat) (vm : Value) (vs : Nat → Value) (vb : Value) (w : World) : Prop where
  mks : MkS base D.q c a vm vs (fun j t => ((s (c + j - 1 - t) : Nat) : Int)) w
  ob : OwnI base vb (zl d fun t => ((D.ng (s (c + t)) : Nat) : Int)) w
  ap : ∀ j, j < a → ∀ g, (vs j).ownBlock = some g → vb.ownBlock ≠ some g
theorem ShS.below {D : FD} {s : Nat → Nat} {base c a d : Nat} {vm vb : Value} {vs : Nat → Value} {w w' : World} (h : ShS D s base c a d vm vs vb w) (hb : Below w.heap.size w w') : ShS D s base c a d vm vs vb w' :=
  ⟨h.mks.below hb, h.ob.below hb (fun k hk => (h.ob.lt k hk).2), h.ap⟩
theorem OwnI.apartV {base base' : Nat} {u v : Value} {l : List Int} {l' : List Value} {w : World} (h : OwnI base u l w) (h' : OwnV base' v l' w) : v.ownBlock = none ∨ v.ownBlock ≠ u.ownBlock := by
  rcases h.apart h' with e | e
  · cases hv : v.ownBlock with
    | none => exact Or.inl rfl
    | some g => exact Or.inr (by rw [e]; exact fun x => by cases x)
  · exact Or.inr (fun x => e x.symm)
theorem ShS.push {D : FD} {s : Nat → Nat} {base c a d W : Nat} {vm vm' vb u : Value} {vs : Nat → Value} {w w' : World} (hs : El D s) (h : ShS D s base c a d vm vs vb w) (hu : OwnI W u (zl c fun t => ((s (c + a - 1 - t) : Nat) : Int)) w) (hW : base ≤ W) (hlt : ∀ k, vb.ownBlock = some k → k < W)
    (ho : OwnV base vm' (vl a vs ++ [u]) w') (hg : w.grownBy w' vm.ownBlock) : ShS D s base c (a + 1) d vm' (fun j => if j = a then u else vs j) vb w' := by
  have e : (fun j => if j = a then (fun t => ((s (c + a - 1 - t) : Nat) : Int)) else fun t => ((s (c + j - 1 - t) : Nat) : Int)) = fun j t => ((s (c + j - 1 - t) : Nat) : Int) := by
    funext j t
    by_cases e : j = a
    · rw [if_pos e, e]
    · rw [if_neg e]
  refine ⟨?_, h.ob.kept hg (h.ob.apart h.mks.own), fun j hj g hv => ?_⟩
  · have k := h.mks.push (hu.mono hW) (fun t _ => ⟨by omega, by have := hs (c + a - 1 - t); omega⟩) ho hg
    rw [e] at k; exact k
  · by_cases e : j = a
    · simp only [if_pos e] at hv
      have h1 := (hu.lt g hv).1
      intro h2
      have := hlt g h2
      omega
    · simp only [if_neg e] at hv
      exact h.ap j (by omega) g hv
theorem ShS.more {D : FD} {s : Nat → Nat} {base c a d : Nat} {vm vb vb' : Value} {vs : Nat → Value} {w w' : World} (h : ShS D s base c a d vm vs vb w) (ho : OwnI base vb' (zl d (fun t => ((D.ng (s (c + t)) : Nat) : Int)) ++ [((D.ng (s (c + d)) : Nat) : Int)]) w') (hg : w.grownBy w' vb.ownBlock) (hat : vb'.ownBlock = vb.ownBlock ∨ vb'.ownBlock = some w.heap.size) : ShS D s base c a (d + 1) vm vs vb' w' := by
  refine ⟨⟨h.mks.own.grown hg (h.ob.apartV h.mks.own), fun j hj => (h.mks.row j hj).kept hg ?_, h.mks.blw⟩, by rw [zl_succ]; exact ho, fun j hj g hv => ?_⟩
  · cases hv : (vs j).ownBlock with
    | none => exact Or.inl rfl
    | some g => exact Or.inr (fun x => h.ap j hj g hv x.symm)
  · rcases hat with e | e
    · rw [e]; exact h.ap j hj g hv
    · rw [e]
      have h1 := ((h.mks.row j hj).lt g hv).2
      intro h2
      cases h2
      omega
theorem MkS.matR {base q c n i : Nat} {v : Value} {vs : Nat → Value} {Z : Nat → Nat → Int} {M : Nat → Nat → Nat} {w : World} (h : MkS base q c i v vs Z w) (hc : c = n + 1) (hZ : ∀ j, j < i → ∀ t, t < c → Z j t = ((M j t : Nat) : Int)) : ∃ mo mc, v = .slice mo i mc ∧ MatR mo i n M w := by
  subst hc
  obtain ⟨mo, mc, hv, _, _, _, hcell⟩ := h.own.open
  rw [vl_len] at hv
  refine ⟨mo, mc, hv, fun j hj => ?_⟩
  obtain ⟨g, e, hc, _⟩ := hcell j (vs j) (vl_get i vs j hj)
  obtain ⟨so, sc, e2, ha⟩ := (h.row j hj).argL
  refine ⟨g, 0, vs j, e, by rw [Nat.zero_add]; exact hc, so, sc, e2, fun t ht => ?_, ha.lt, ha.nil, ha.le, ha.cap⟩
  obtain ⟨b, off, e3, hc3⟩ := ha.sl t ht
  exact ⟨b, off, e3, by rw [hc3, hZ j hj t ht]⟩
/-- Are the numbers from c on noughts, r of them? -/
def azr (s : Nat → Nat) (c : Nat) : Nat → Bool
  | 0 => true
  | r + 1 => azr s c r && decide (s (c + r) = 0)
theorem azr_iff {s : Nat → Nat} {c : Nat} : ∀ {r}, azr s c r = true → ∀ j, j < r → s (c + j) = 0
  | 0, _, j, hj => absurd hj (by omega)
  | r + 1, h, j, hj => by
    have h : (azr s c r && decide (s (c + r) = 0)) = true := h
    rw [Bool.and_eq_true] at h
    by_cases e : j = r
    · rw [e]; exact of_decide_eq_true h.2
    · exact azr_iff h.1 j (by omega)
end Go.Proofs.Ytnjbnamcedfjaaa
