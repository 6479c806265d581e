/- Texts of ours, one behind the other: X8 X9 X10 X11 S3 X12 X13 S4 S5 S8 S9 S10 S11 W11 S20 KA1. -/
import Derived.Test.YtabkomelnhnoiabZX1
import Derived.Test.YtabkomelnhnoiabZT2
import Derived.Test.YtabkomelnhnoiabZS1
import Derived.Test.YtabkomelnhnoiabZL1
import Derived.Test.YtabkomelnhnoiabZW7
import Derived.Test.YtabkomelnhnoiabZN2
import Derived.Deep.RegionHeld3
import Derived.WalkKit
import Derived.Test.YtabkomelnhnoiabZA1
import Derived.Test.YtabkomelnhnoiabZR3
import Derived.Test.YtabkomelnhnoiabZB1
/- The program's matrices: a copy of a matrix, with columns of noughts behind it (wider). -/
namespace Go.Proofs.Ytabkomelnhnoiab
open Go.RowKit

end Go.Proofs.Ytabkomelnhnoiab

/- The program's matrices: the field of one matrix or of two that may be; a matrix that may be, row by row. -/
namespace Go.Proofs.Ytabkomelnhnoiab
open Go.RowKit

/-- The slice of slices that begins at ao: m rows M of L elements, row i at A i. -/
structure MatS (ao : Option Addr) (m L : Nat) (A : Nat → Option Addr) (C : Nat → Nat) (M : Nat → Nat → Nat) (w : World) : Prop where
  cell : ∀ i, i < m → ∃ b off, ao = some ⟨b, off, none⟩ ∧ w.cell? ⟨b, off + i, none⟩ = some (.slice (A i) L (C i))
  sl : ∀ i, i < m → Sl (A i) L (M i) w
theorem MatS.below {ao : Option Addr} {m L : Nat} {A : Nat → Option Addr} {C : Nat → Nat} {M : Nat → Nat → Nat} {w w' : World} (h : MatS ao m L A C M w) (hb : Below w.heap.size w w') : MatS ao m L A C M w' :=
  ⟨fun i hi => by
    obtain ⟨b, off, e, hc⟩ := h.cell i hi
    exact ⟨b, off, e, ((bcell hb).1 b (off + i) (cell_lt hc)).trans hc⟩, fun i hi => slz_below (h.sl i hi) hb⟩
theorem MatS.lt {ao : Option Addr} {m L : Nat} {A : Nat → Option Addr} {C : Nat → Nat} {M : Nat → Nat → Nat} {w : World} (h : MatS ao m L A C M w) (hL : 0 < L) (i : Nat) (hi : i < m) : ∀ a, A i = some a → a.block < w.heap.size := fun a ha => by
  obtain ⟨b, off, e, hc⟩ := h.sl i hi 0 hL
  rw [ha] at e
  cases e
  exact cell_lt hc
end Go.Proofs.Ytabkomelnhnoiab

/- The program's matrices: products (Times). -/
namespace Go.Proofs.Ytabkomelnhnoiab
open Go.RowKit

theorem Mx.drewN {B G m k n : Nat} {R : Nat → Nat → Nat} {h : Nat → Nat} {w : World} (H : Mx B G m k n R h w) (d : Nat) : Mx B G m k n R h (w.drewN d) := by
  obtain ⟨f, hf, hf'⟩ := H.outer
  exact ⟨⟨f, hf.drewN d, hf'⟩, fun i hi => (H.row i hi).drewN d, H.geG, H.ge, H.inj, H.ne, H.le⟩

end Go.Proofs.Ytabkomelnhnoiab

/- The program's matrices: a column cleared by a row (clearColumn). -/
namespace Go.Proofs.Ytabkomelnhnoiab
open Go.RowKit

/-- Of w's blocks only the first m of h have been written into; none is new. -/
structure TchR (h : Nat → Nat) (m : Nat) (w w' : World) : Prop where
  os : w'.os = w.os
  tape : w'.tape = w.tape
  output : w'.output = w.output
  size : w'.heap.size = w.heap.size
  block : ∀ k, (∀ i, i < m → k ≠ h i) → w'.heap[k]? = w.heap[k]?
theorem TchR.refl (h : Nat → Nat) (m : Nat) (w : World) : TchR h m w w := ⟨rfl, rfl, rfl, rfl, fun _ _ => rfl⟩
theorem TchR.trans {h : Nat → Nat} {m : Nat} {w w1 w2 : World} (a : TchR h m w w1) (b : TchR h m w1 w2) : TchR h m w w2 :=
  ⟨b.os.trans a.os, b.tape.trans a.tape, b.output.trans a.output, b.size.trans a.size, fun k hk => (b.block k hk).trans (a.block k hk)⟩
theorem Tch.all {h : Nat → Nat} {m i : Nat} {w w' : World} (a : Tch (h i) w w') (hi : i < m) : TchR h m w w' := ⟨a.os, a.tape, a.output, a.size, fun k hk => a.block k (hk i hi)⟩
theorem TchR.below {h : Nat → Nat} {m B : Nat} {w w' : World} (a : TchR h m w w') (hB : ∀ i, i < m → B ≤ h i) : Below B w w' := ⟨a.os, a.tape, a.output, by rw [a.size]; exact Nat.le_refl _, fun k hk => a.block k (fun i hi e => by have := hB i hi; omega)⟩
theorem TchR.drewN {h : Nat → Nat} {m : Nat} {w w' : World} (a : TchR h m w w') (n : Nat) : TchR h m w (w'.drewN n) := ⟨a.os, a.tape, a.output, a.size, a.block⟩

end Go.Proofs.Ytabkomelnhnoiab

/- Plain mathematics: bringing rows to their one form, column by column, as the program does. -/
namespace Go.Proofs.Ytabkomelnhnoiab
open Go.RowKit

/-- m rows of n numbers whose first c columns are done: k of the rows begin in columns p, the others are 0 there. -/
structure Rdg (D : FD) (m n c k : Nat) (R : Nat → Nat → Nat) (p : Nat → Nat) : Prop where
  el : ∀ i, i < m → El D (R i)
  bd : ∀ i, i < m → Bd n (R i)
  le : k ≤ m
  lt : ∀ i, i < k → p i < c
  mono : ∀ i j, i < j → j < k → p i < p j
  one : ∀ i, i < k → R i (p i) = 1
  zero : ∀ i j, i < m → j < k → i ≠ j → R i (p j) = 0
  lead : ∀ i c', i < k → c' < p i → R i c' = 0
  rest : ∀ i c', k ≤ i → i < m → c' < c → R i c' = 0
end Go.Proofs.Ytabkomelnhnoiab

/- The program's matrices: the first row that is not 0 in a column. -/
namespace Go.Proofs.Ytabkomelnhnoiab
open Go.RowKit

end Go.Proofs.Ytabkomelnhnoiab

/- The program's matrices: two rows change places; rows that are left as they are. -/
namespace Go.Proofs.Ytabkomelnhnoiab
open Go.RowKit

theorem OwnI.same {base : Nat} {v : Value} {l : List Int} {w w' : World} (h : OwnI base v l w) (hb : ∀ k, v.ownBlock = some k → w'.heap[k]? = w.heap[k]?) : OwnI base v l w' := by
  obtain ⟨h1, h2⟩ := h
  refine ⟨h1, ?_⟩
  rcases h2 with h2 | ⟨g, cap, cur, hv, hg, hh, r⟩
  · exact Or.inl h2
  · exact Or.inr ⟨g, cap, cur, hv, hg, by rw [hb g (by rw [hv]; rfl)]; exact hh, r⟩
end Go.Proofs.Ytabkomelnhnoiab

/- Plain mathematics: one row for each column in which no row of a reduced form begins (Null). -/
namespace Go.Proofs.Ytabkomelnhnoiab

end Go.Proofs.Ytabkomelnhnoiab

/- Plain mathematics: linear equations (Solve): the rows with what they are to be behind them. -/
namespace Go.Proofs.Ytabkomelnhnoiab

end Go.Proofs.Ytabkomelnhnoiab

/- Plain mathematics: the shortest rule of a list (Berlekamp and Massey). -/
namespace Go.Proofs.Ytabkomelnhnoiab

/-- The rule C of length L holds for the first N numbers of s. -/
def Gen (D : FD) (s C : Nat → Nat) (L N : Nat) : Prop := ∀ t, L ≤ t → t < N → pmul D (L + 1) C s t = 0
/-- A rule of length L. -/
structure Rul (D : FD) (C : Nat → Nat) (L : Nat) : Prop where
  el : El D C
  bd : Bd (L + 1) C
  one : C 0 = 1
/-- The state when i numbers are seen: the rule, its length; an older rule, what it missed. -/
structure BMS (D : FD) (s : Nat → Nat) (i : Nat) (C : Nat → Nat) (lc L : Nat) (O : Nat → Nat) (lo b : Nat) : Prop where
  rul : Rul D C L
  bdc : Bd lc C
  lcL : lc ≤ L + 1
  lc1 : 1 ≤ lc
  le : L ≤ i
  gen : Gen D s C L i
  min : ∀ C' L', Rul D C' L' → Gen D s C' L' i → L ≤ L'
  elo : El D O
  bdo : Bd lo O
  loL : lo ≤ i + 1 - L
  bq : b < D.q
  b0 : b ≠ 0
  old : L = 0 ∨ (1 ≤ i ∧ (∀ t, i - L ≤ t → t + 1 < i → pmul D lo O s t = 0) ∧ pmul D lo O s (i - 1) = b)
end Go.Proofs.Ytabkomelnhnoiab

/- Equations that can be met, and the rules of shorter length. -/
namespace Go.Proofs.Ytabkomelnhnoiab
open Go.RowKit Go.Sort

end Go.Proofs.Ytabkomelnhnoiab

/- Lists that a rule makes: the shortest rule of enough of them makes the rest. -/
namespace Go.Proofs.Ytabkomelnhnoiab
open Go.RowKit Go.Sort

end Go.Proofs.Ytabkomelnhnoiab

/- A polynomial that is not nought has fewer roots than coefficients; words of few coefficients are far apart. -/
namespace Go.Proofs.Ytabkomelnhnoiab
open Go.RowKit Go.Sort

end Go.Proofs.Ytabkomelnhnoiab

/- A region that draws its order and whose last operation, which waits for all others, writes what another one reads. No Go text here. -/
namespace Go.Proofs.Ytabkomelnhnoiab
open Go

end Go.Proofs.Ytabkomelnhnoiab

/- Plain mathematics: how many sets there are; Krawtchouk's numbers. No Go text here. -/
namespace Go.Proofs.Ytabkomelnhnoiab

/-- How many sets of k there are of n. -/
def chs : Nat → Nat → Nat
  | _, 0 => 1
  | 0, _ + 1 => 0
  | n + 1, k + 1 => chs n k + chs n (k + 1)
/-- b^l times how many sets of l there are of m. -/
def bl (b : Int) (m l : Nat) : Int := b ^ l * (chs m l : Nat)
end Go.Proofs.Ytabkomelnhnoiab

/- Weights: powers and numbers of sets (the program's power, over). -/
namespace Go.Proofs.Ytabkomelnhnoiab
open Go.RowKit

theorem wrap_ka {a : Int} (h1 : -9223372036854775808 ≤ a) (h2 : a ≤ 9223372036854775807) : IntKind.i64.wrap a = a := by
  rw [IntKind.wrap_i64]
  first | omega | (unfold wrap64; omega)
end Go.Proofs.Ytabkomelnhnoiab
