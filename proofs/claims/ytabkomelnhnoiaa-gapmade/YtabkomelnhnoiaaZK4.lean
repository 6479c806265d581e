/- Texts of ours, one behind the other: K4 S8 Y1 Y2 Y3 S9 Y4 W10 Y5 S10 S11 Z1 Z2 Z3 Z4 Z5 Z6 Z7 Z8 Z9 Z10 Z11 Z12 Q1. -/
import Derived.Test.YtabkomelnhnoiaaZL10
import Derived.Test.YtabkomelnhnoiaaZS3
import Derived.Test.YtabkomelnhnoiaaZX17
import Derived.Test.YtabkomelnhnoiaaZW7
import Derived.Maps.AppendAt
import Derived.Deep.AppendLies
import Derived.Test.YtabkomelnhnoiaaZW9
import Derived.Test.YtabkomelnhnoiaaZN1
import Derived.Test.YtabkomelnhnoiaaZR5
import Derived.Test.YtabkomelnhnoiaaZL1
import Derived.Test.YtabkomelnhnoiaaZT5
import Derived.Test.YtabkomelnhnoiaaZU10
/- Matrices out of raw numbers (MatrixOf). -/
namespace Go.Proofs.Ytabkomelnhnoiaa
open Go.RowKit Go.Sort

/-- i lists of c numbers below q, in a list of the call's own. -/
structure MkS (base q c i : Nat) (v : Value) (vs : Nat → Value) (Z : Nat → Nat → Int) (w : World) : Prop where
  own : OwnV base v (vl i vs) w
  row : ∀ j, j < i → OwnI base (vs j) (zl c (Z j)) w
  blw : ∀ j, j < i → Blw q c (Z j)
theorem MkS.below {base q c i : Nat} {v : Value} {vs : Nat → Value} {Z : Nat → Nat → Int} {w w' : World} (h : MkS base q c i v vs Z w) (hb : Below w.heap.size w w') : MkS base q c i v vs Z w' :=
  ⟨h.own.below hb (Nat.le_refl _), fun j hj => (h.row j hj).below hb (fun k hk => ((h.row j hj).lt k hk).2), h.blw⟩
theorem MkS.push {base q c i : Nat} {v v' u : Value} {vs : Nat → Value} {Z : Nat → Nat → Int} {y : Nat → Int} {w w' : World} (h : MkS base q c i v vs Z w) (hu : OwnI base u (zl c y) w) (hy : Blw q c y) (ho : OwnV base v' (vl i vs ++ [u]) w') (hg : w.grownBy w' v.ownBlock) :
    MkS base q c (i + 1) v' (fun j => if j = i then u else vs j) (fun j => if j = i then y else Z j) w' := by
  refine ⟨?_, fun j hj => ?_, fun j hj => ?_⟩
  · have e : vl (i + 1) (fun j => if j = i then u else vs j) = vl i vs ++ [u] := by
      unfold vl
      rw [List.range_succ, List.map_append]
      congr 1
      · exact List.map_congr_left (fun j hj => by rw [if_neg (by have := List.mem_range.1 hj; omega)])
      · simp
    rw [e]; exact ho
  · by_cases e : j = i
    · simp only [if_pos e]; exact hu.kept hg (hu.apart h.own)
    · simp only [if_neg e]; exact (h.row j (by omega)).kept hg ((h.row j (by omega)).apart h.own)
  · by_cases e : j = i
    · simp only [if_pos e]; exact hy
    · simp only [if_neg e]; exact h.blw j (by omega)
end Go.Proofs.Ytabkomelnhnoiaa

/- Plain mathematics: the shortest rule of a list (Berlekamp and Massey). -/
namespace Go.Proofs.Ytabkomelnhnoiaa

/-- The rule C of length L holds for the first N numbers of s. -/
def Gen (D : FD) (s C : Nat → Nat) (L N : Nat) : Prop := ∀ t, L ≤ t → t < N → pmul D (L + 1) C s t = 0
/-- A rule of length L. -/
structure Rul (D : FD) (C : Nat → Nat) (L : Nat) : Prop where
  el : El D C
  bd : Bd (L + 1) C
  one : C 0 = 1
/-- The state when i numbers are seen: the rule, its length; an older rule, what it missed. -/
structure BMS (D : FD) (s : Nat → Nat) (i : Nat) (C : Nat → Nat) (lc L : Nat) (O : Nat → Nat) (lo b : Nat) : Prop where
  rul : Rul D C L
  bdc : Bd lc C
  lcL : lc ≤ L + 1
  lc1 : 1 ≤ lc
  le : L ≤ i
  gen : Gen D s C L i
  min : ∀ C' L', Rul D C' L' → Gen D s C' L' i → L ≤ L'
  elo : El D O
  bdo : Bd lo O
  loL : lo ≤ i + 1 - L
  bq : b < D.q
  b0 : b ≠ 0
  old : L = 0 ∨ (1 ≤ i ∧ (∀ t, i - L ≤ t → t + 1 < i → pmul D lo O s t = 0) ∧ pmul D lo O s (i - 1) = b)
end Go.Proofs.Ytabkomelnhnoiaa

/- The program's rules (reed): trim, missed, less. -/
namespace Go.Proofs.Ytabkomelnhnoiaa
open Go.RowKit Go.Sort

end Go.Proofs.Ytabkomelnhnoiaa

/- The program's rules (reed): the shortest one (shortest, Massey). -/
namespace Go.Proofs.Ytabkomelnhnoiaa
open Go.RowKit Go.Sort

theorem Arg.drewN {ao : Option Addr} {n cap : Nat} {z : Nat → Int} {w : World} (h : Arg ao n cap z w) (k : Nat) : Arg ao n cap z (w.drewN k) := ⟨h.sl, h.lt, h.few, h.nil, h.le, h.cap⟩

end Go.Proofs.Ytabkomelnhnoiaa

/- The program's Massey; lists that are far too long. -/
namespace Go.Proofs.Ytabkomelnhnoiaa
open Go.RowKit Go.Sort

end Go.Proofs.Ytabkomelnhnoiaa

/- Equations that can be met, and the rules of shorter length. -/
namespace Go.Proofs.Ytabkomelnhnoiaa
open Go.RowKit Go.Sort

/-- The sum of the products, place by place. -/
def dt (D : FD) (u v : Nat → Nat) : Nat → Nat
  | 0 => 0
  | n + 1 => D.ad (dt D u v n) (D.mul (u n) (v n))
end Go.Proofs.Ytabkomelnhnoiaa

/- The reference's Rules: does the rule hold? -/
namespace Go.Proofs.Ytabkomelnhnoiaa
open Go.RowKit Go.Sort

end Go.Proofs.Ytabkomelnhnoiaa

/- 'append' of one number, and where its list lies then. -/
namespace Go.Proofs.Ytabkomelnhnoiaa
open Go.RowKit Go.Sort

end Go.Proofs.Ytabkomelnhnoiaa

/- The reference's Shortest: is there no shorter rule? What it keeps. -/
namespace Go.Proofs.Ytabkomelnhnoiaa
open Go.RowKit Go.Sort

/-- The rows of the equations for length c (a of them), and what they are to give (d of them). -/
structure ShS (D : FD) (s : Nat → Nat) (base c a d : Nat) (vm : Value) (vs : Nat → Value) (vb : Value) (w : World) : Prop where
  mks : MkS base D.q c a vm vs (fun j t => ((s (c + j - 1 - t) : Nat) : Int)) w
  ob : OwnI base vb (zl d fun t => ((D.ng (s (c + t)) : Nat) : Int)) w
  ap : ∀ j, j < a → ∀ g, (vs j).ownBlock = some g → vb.ownBlock ≠ some g
theorem ShS.below {D : FD} {s : Nat → Nat} {base c a d : Nat} {vm vb : Value} {vs : Nat → Value} {w w' : World} (h : ShS D s base c a d vm vs vb w) (hb : Below w.heap.size w w') : ShS D s base c a d vm vs vb w' :=
  ⟨h.mks.below hb, h.ob.below hb (fun k hk => (h.ob.lt k hk).2), h.ap⟩
theorem OwnI.apartV {base base' : Nat} {u v : Value} {l : List Int} {l' : List Value} {w : World} (h : OwnI base u l w) (h' : OwnV base' v l' w) : v.ownBlock = none ∨ v.ownBlock ≠ u.ownBlock := by
  rcases h.apart h' with e | e
  · cases hv : v.ownBlock with
    | none => exact Or.inl rfl
    | some g => exact Or.inr (by rw [e]; exact fun x => by cases x)
  · exact Or.inr (fun x => e x.symm)
theorem ShS.push {D : FD} {s : Nat → Nat} {base c a d W : Nat} {vm vm' vb u : Value} {vs : Nat → Value} {w w' : World} (hs : El D s) (h : ShS D s base c a d vm vs vb w) (hu : OwnI W u (zl c fun t => ((s (c + a - 1 - t) : Nat) : Int)) w) (hW : base ≤ W) (hlt : ∀ k, vb.ownBlock = some k → k < W)
    (ho : OwnV base vm' (vl a vs ++ [u]) w') (hg : w.grownBy w' vm.ownBlock) : ShS D s base c (a + 1) d vm' (fun j => if j = a then u else vs j) vb w' := by
  have e : (fun j => if j = a then (fun t => ((s (c + a - 1 - t) : Nat) : Int)) else fun t => ((s (c + j - 1 - t) : Nat) : Int)) = fun j t => ((s (c + j - 1 - t) : Nat) : Int) := by
    funext j t
    by_cases e : j = a
    · rw [if_pos e, e]
    · rw [if_neg e]
  refine ⟨?_, h.ob.kept hg (h.ob.apart h.mks.own), fun j hj g hv => ?_⟩
  · have k := h.mks.push (hu.mono hW) (fun t _ => ⟨by omega, by have := hs (c + a - 1 - t); omega⟩) ho hg
    rw [e] at k; exact k
  · by_cases e : j = a
    · simp only [if_pos e] at hv
      have h1 := (hu.lt g hv).1
      intro h2
      have := hlt g h2
      omega
    · simp only [if_neg e] at hv
      exact h.ap j (by omega) g hv
theorem ShS.more {D : FD} {s : Nat → Nat} {base c a d : Nat} {vm vb vb' : Value} {vs : Nat → Value} {w w' : World} (h : ShS D s base c a d vm vs vb w) (ho : OwnI base vb' (zl d (fun t => ((D.ng (s (c + t)) : Nat) : Int)) ++ [((D.ng (s (c + d)) : Nat) : Int)]) w') (hg : w.grownBy w' vb.ownBlock) (hat : vb'.ownBlock = vb.ownBlock ∨ vb'.ownBlock = some w.heap.size) : ShS D s base c a (d + 1) vm vs vb' w' := by
  refine ⟨⟨h.mks.own.grown hg (h.ob.apartV h.mks.own), fun j hj => (h.mks.row j hj).kept hg ?_, h.mks.blw⟩, by rw [zl_succ]; exact ho, fun j hj g hv => ?_⟩
  · cases hv : (vs j).ownBlock with
    | none => exact Or.inl rfl
    | some g => exact Or.inr (fun x => h.ap j hj g hv x.symm)
  · rcases hat with e | e
    · rw [e]; exact h.ap j hj g hv
    · rw [e]
      have h1 := ((h.mks.row j hj).lt g hv).2
      intro h2
      cases h2
      omega
end Go.Proofs.Ytabkomelnhnoiaa

/- Lists that a rule makes: the shortest rule of enough of them makes the rest. -/
namespace Go.Proofs.Ytabkomelnhnoiaa
open Go.RowKit Go.Sort

/-- Each number from the place n on is that sum of those ahead. -/
def Made (D : FD) (c : Nat → Nat) (n : Nat) (s : Nat → Nat) (N : Nat) : Prop := ∀ t, n ≤ t → t < N → s t = dt D c (fun k => s (t - 1 - k)) n
end Go.Proofs.Ytabkomelnhnoiaa

/- A polynomial that is not nought has fewer roots than coefficients; words of few coefficients are far apart. -/
namespace Go.Proofs.Ytabkomelnhnoiaa
open Go.RowKit Go.Sort

/-- How many of the first n. -/
def ct (p : Nat → Bool) : Nat → Nat
  | 0 => 0
  | n + 1 => ct p n + if p n = true then 1 else 0
end Go.Proofs.Ytabkomelnhnoiaa

/- The program's words (reed): values, Check and Encode where all may be. -/
namespace Go.Proofs.Ytabkomelnhnoiaa
open Go.RowKit Go.Sort

end Go.Proofs.Ytabkomelnhnoiaa

/- Places and a dimension: may they be? The program's Check, the reference's ReedMay, whatever they are given. -/
namespace Go.Proofs.Ytabkomelnhnoiaa
open Go.RowKit Go.Sort

end Go.Proofs.Ytabkomelnhnoiaa

/- The reference's ReedMay, whatever it is given. -/
namespace Go.Proofs.Ytabkomelnhnoiaa
open Go.RowKit Go.Sort

end Go.Proofs.Ytabkomelnhnoiaa

/- A word that came: may it be? The program's Word. -/
namespace Go.Proofs.Ytabkomelnhnoiaa
open Go.RowKit Go.Sort

end Go.Proofs.Ytabkomelnhnoiaa

/- A word that came: the reference's ReedWord. -/
namespace Go.Proofs.Ytabkomelnhnoiaa
open Go.RowKit Go.Sort

end Go.Proofs.Ytabkomelnhnoiaa

/- Whole words, and how many messages there are: the program's checkWhole, messages, digits; the law's wholeWord; the reference's Few. -/
namespace Go.Proofs.Ytabkomelnhnoiaa
open Go.RowKit Go.Sort

end Go.Proofs.Ytabkomelnhnoiaa

/- How many messages there are, and each by its number: the reference's Few, the program's messages, digits. -/
namespace Go.Proofs.Ytabkomelnhnoiaa
open Go.RowKit Go.Sort

/-- The digits of a number, the greatest first. -/
def dgs (q k a : Nat) : Nat → Nat := fun j => if j < k then a / q ^ (k - 1 - j) % q else 0
end Go.Proofs.Ytabkomelnhnoiaa

/- At how many places a message's word differs: the reference's Off, of whole words. -/
namespace Go.Proofs.Ytabkomelnhnoiaa
open Go.RowKit Go.Sort

end Go.Proofs.Ytabkomelnhnoiaa

/- All near messages: the program's Within. -/
namespace Go.Proofs.Ytabkomelnhnoiaa
open Go.RowKit Go.Sort

end Go.Proofs.Ytabkomelnhnoiaa

/- All near messages: the reference's Near. -/
namespace Go.Proofs.Ytabkomelnhnoiaa
open Go.RowKit Go.Sort

theorem dnum_dgs' {q k a : Nat} (hq : 2 ≤ q) (ha : a < q ^ k) : ∀ i, i ≤ k → dnum q (dgs q k a) i = a / q ^ (k - i)
  | 0, _ => by rw [Nat.sub_zero, Nat.div_eq_of_lt ha]; rfl
  | i + 1, hi => by
    rw [dnum, dnum_dgs' hq ha i (by omega)]
    unfold dgs
    rw [if_pos (by omega), show k - 1 - i = k - (i + 1) from by omega]
    obtain ⟨b, hb⟩ : ∃ b, b = a / q ^ (k - (i + 1)) := ⟨_, rfl⟩
    have e : a / q ^ (k - i) = b / q := by
      rw [hb, Nat.div_div_eq_div_mul, ← Nat.pow_succ, show (k - (i + 1)).succ = k - i from by omega]
    rw [e, ← hb, Nat.mul_comm]
    exact Nat.div_add_mod b q
theorem dnum_dgs {q k a : Nat} (hq : 2 ≤ q) (ha : a < q ^ k) : dnum q (dgs q k a) k = a := by
  rw [dnum_dgs' hq ha k (Nat.le_refl _), Nat.sub_self, Nat.pow_zero, Nat.div_one]
theorem dgs_lt {q k a : Nat} (hq : 2 ≤ q) (j : Nat) : dgs q k a j < q := by
  unfold dgs
  split
  · exact Nat.mod_lt _ (by omega)
  · omega
/-- The digits, and a 1 behind them. -/
def dgm (q k a : Nat) : Nat → Nat := fun j => if j = k then 1 else dgs q k a j
theorem dgm_mn {D : FD} (F : Fld D) (k a : Nat) : Mn D k (dgm D.q k a) := by
  refine ⟨fun j => ?_, fun j hj => ?_, if_pos rfl⟩
  · unfold dgm
    split
    · exact one_lt' F
    · exact dgs_lt F.q2 j
  · unfold dgm dgs
    rw [if_neg (by omega), if_neg (by omega)]
theorem dgm_lo {q k a j : Nat} (hj : j < k) : dgm q k a j = dgs q k a j := if_neg (by omega)
theorem dgs_next {D : FD} (F : Fld D) {k a : Nat} {c : Nat → Nat} (ha : a < D.q ^ k) (hc : Mn D k c) (h : Aft D k (dgm D.q k a) k c) : a + 1 < D.q ^ k ∧ ∀ j, j < k → c j = dgs D.q k (a + 1) j := by
  have h1 : dnum D.q c k = a + 1 := by
    rcases h with ⟨_, h⟩ | ⟨h, _⟩
    · rw [h, dnum_congr (e := dgs D.q k a) k (fun j hj => dgm_lo hj), dnum_dgs F.q2 ha]
    · omega
  have h2 : a + 1 < D.q ^ k := by rw [← h1]; exact dnum_lt k (fun i _ => hc.el i)
  exact ⟨h2, dnum_inj k (fun i _ => hc.el i) (fun i _ => dgs_lt F.q2 i) (by rw [h1, dnum_dgs F.q2 h2])⟩
theorem dgs_last {D : FD} (F : Fld D) {k a : Nat} (ha : a < D.q ^ k) (h : ∀ j, 0 ≤ j → j < k → dgm D.q k a j = D.q - 1) : a + 1 = D.q ^ k := by
  have h1 : ∀ i, i ≤ k → dnum D.q (dgs D.q k a) i + 1 = D.q ^ i := fun i => by
    induction i with
    | zero => intro _; rfl
    | succ i ih =>
      intro hi
      have h2 := h i (by omega) (by omega)
      rw [dgm_lo (by omega)] at h2
      have h3 := F.q2
      rw [dnum, h2, Nat.pow_succ, ← ih (by omega), Nat.add_mul]
      omega
  have h2 := h1 k (Nat.le_refl _)
  rw [dnum_dgs F.q2 ha] at h2; exact h2
theorem dgs_zero {q k j : Nat} : dgs q k 0 j = 0 := by
  unfold dgs
  split
  · rw [Nat.zero_div, Nat.zero_mod]
  · rfl
end Go.Proofs.Ytabkomelnhnoiaa

/- All near messages: the walk of the reference's Near. -/
namespace Go.Proofs.Ytabkomelnhnoiaa
open Go.RowKit Go.Sort

theorem LLx.push {g base : Nat} {v v' u : Value} {l : List Value} {L : List (Nat × (Nat → Nat))} {p : Nat × (Nat → Nat)} {w w' : World} (h1 : OwnV base v l w) (h2 : Elms l L w) (h3 : ∀ u ∈ l, u.ownBlock ≠ some g) (hu : Elm u p w) (hne : u.ownBlock ≠ some g) (ho : OwnV base v' (l ++ [u]) w') (hg : w.grownBy w' v.ownBlock) : LLx g base v' (L ++ [p]) w' := by
  refine ⟨_, ho, (h2.snoc hu).grown h1 hg, fun x hx => ?_⟩
  rcases List.mem_append.1 hx with hx | hx
  · exact h3 x hx
  · rw [List.mem_singleton.1 hx]; exact hne

end Go.Proofs.Ytabkomelnhnoiaa

/- What it says that places, a dimension and a whole word may be; the calls that say no. -/
namespace Go.Proofs.Ytabkomelnhnoiaa
open Go.RowKit Go.Sort

end Go.Proofs.Ytabkomelnhnoiaa

/- Sudan's products in their order, and how a list of numbers is parted by them: plain mathematics. -/
namespace Go.Proofs.Ytabkomelnhnoiaa
open Go.RowKit

end Go.Proofs.Ytabkomelnhnoiaa
