/- Texts of ours, one behind the other: T3 X1 X2 X3 X4 X5 X6 X7 X8 X9 X10 X11. -/
import Derived.Test.YtabkomelnhnoiaaZT2
import Derived.Shelf.Abstract
/- The reference's matrices: the one form of what rows span (Reduce). -/
namespace Go.Proofs.Ytabkomelnhnoiaa
open Go.RowKit Go.Sort

/-- While rows are put in, one by one: what there is of the first i. -/
structure RedSt (D : FD) (gen : Nat) (vm : Value) (n : Nat) (M : Nat → Nat → Nat) (w : World) (i : Nat) (vr vp : Value) (wr : World) (k : Nat) (R : Nat → Nat → Nat) (p : Nat → Nat) : Prop where
  rows : LLs (w.heap.size + 1) vr (rl k n R) wr
  piv : OwnI (w.heap.size + 1) vp (zl k fun j => ((p j : Nat) : Int)) wr
  rre : RRE D (n + 1) k R p
  spn : ∀ v, Spn D (RowsOf k R) v ↔ Spn D (RowsOf i M) v
  many : k = i ∨ ∃ j, j < i ∧ Spn D (RowsOf j M) (M j)
  bel : Below w.heap.size w wr
  box : Box w.heap.size D gen vm wr
end Go.Proofs.Ytabkomelnhnoiaa

/- The program's matrices: how many columns there are (width), which row may stand (checkRow), which matrix may be (Check). -/
namespace Go.Proofs.Ytabkomelnhnoiaa
open Go.RowKit

end Go.Proofs.Ytabkomelnhnoiaa

/- The program's matrices: how many columns there are (width), which row may stand (checkRow), which matrix may be (Check). -/
namespace Go.Proofs.Ytabkomelnhnoiaa
open Go.RowKit

end Go.Proofs.Ytabkomelnhnoiaa

/- The library's search with a function value: where the first number is of which it holds; which row may stand in a matrix (checkRow). -/
namespace Go.Proofs.Ytabkomelnhnoiaa
open Go.RowKit

end Go.Proofs.Ytabkomelnhnoiaa

/- The program's matrices: which row may stand (checkRow), which matrix may be (Check), over which field (over). -/
namespace Go.Proofs.Ytabkomelnhnoiaa
open Go.RowKit

end Go.Proofs.Ytabkomelnhnoiaa

/- The program's matrices: which may be (Check), and over which field (over). -/
namespace Go.Proofs.Ytabkomelnhnoiaa
open Go.RowKit

/-- Matrices that are handed in, all of them in one slice. -/
structure ManyM (g k : Nat) (AO : Nat → Option Addr) (M CA : Nat → Nat) (A : Nat → Nat → Option Addr) (N C : Nat → Nat → Nat) (Z : Nat → Nat → Nat → Int) (w : World) : Prop where
  cell : ∀ j, j < k → w.cell? ⟨g, j, none⟩ = some (.slice (AO j) (M j) (CA j))
  mz : ∀ j, j < k → MatZ (AO j) (M j) (A j) (N j) (C j) (Z j) w
  few : ∀ j, j < k → M j ≤ 1000000
  ltg : g < w.heap.size
theorem ManyM.below {g k : Nat} {AO : Nat → Option Addr} {M CA : Nat → Nat} {A : Nat → Nat → Option Addr} {N C : Nat → Nat → Nat} {Z : Nat → Nat → Nat → Int} {w w' : World} (h : ManyM g k AO M CA A N C Z w) (hb : Below w.heap.size w w') : ManyM g k AO M CA A N C Z w' :=
  ⟨fun j hj => ((bcell hb).1 g j h.ltg).trans (h.cell j hj), fun j hj => (h.mz j hj).below hb, h.few, Nat.lt_of_lt_of_le h.ltg hb.size⟩
end Go.Proofs.Ytabkomelnhnoiaa

/- The program's matrices: no field (over); adding a multiple of a row to another, in place (addTo). -/
namespace Go.Proofs.Ytabkomelnhnoiaa
open Go.RowKit

/-- Of w's blocks only g has been written into; none is new. -/
structure Tch (g : Nat) (w w' : World) : Prop where
  os : w'.os = w.os
  tape : w'.tape = w.tape
  output : w'.output = w.output
  size : w'.heap.size = w.heap.size
  block : ∀ k, k ≠ g → w'.heap[k]? = w.heap[k]?
theorem Tch.refl (g : Nat) (w : World) : Tch g w w := ⟨rfl, rfl, rfl, rfl, fun _ _ => rfl⟩
theorem Tch.trans {g : Nat} {w w1 w2 : World} (h : Tch g w w1) (h' : Tch g w1 w2) : Tch g w w2 :=
  ⟨h'.os.trans h.os, h'.tape.trans h.tape, h'.output.trans h.output, h'.size.trans h.size, fun k hk => (h'.block k hk).trans (h.block k hk)⟩
theorem Tch.drewN {g : Nat} {w w' : World} (h : Tch g w w') (n : Nat) : Tch g w (w'.drewN n) := ⟨h.os, h.tape, h.output, h.size, h.block⟩
theorem Tch.setCell {g : Nat} {w w' : World} (h : Tch g w w') (j : Nat) (u : Value) : Tch g w (w'.setCell ⟨g, j, none⟩ u) :=
  h.trans ⟨rfl, rfl, rfl, by simp [World.setCell], fun k hk => Below.heap_setCell _ _ _ _ hk⟩
theorem Tch.below {g B : Nat} {w w' : World} (h : Tch g w w') (hB : B ≤ g) : Below B w w' := ⟨h.os, h.tape, h.output, by rw [h.size]; exact Nat.le_refl _, fun k hk => h.block k (by omega)⟩
theorem Tch.cell {g b o : Nat} {w w' : World} (h : Tch g w w') (hb : b ≠ g) : w'.cell? ⟨b, o, none⟩ = w.cell? ⟨b, o, none⟩ := by
  have h1 := h.block b hb
  simp [World.cell?, h1]
theorem Tch.sl {g n : Nat} {bo : Option Addr} {b : Nat → Nat} {w w' : World} (h : Tch g w w') (hs : Sl bo n b w) (hne : ∀ a, bo = some a → a.block ≠ g) : Sl bo n b w' := fun j hj => by
  obtain ⟨bb, off, e, hc⟩ := hs j hj
  exact ⟨bb, off, e, (h.cell (hne _ e)).trans hc⟩
theorem Tch.row {g g' n : Nat} {c : Nat → Nat} {w w' : World} (h : Tch g w w') (hr : Row g' n c w) (hne : g' ≠ g) : Row g' n c w' := hr.other (h.block g' hne)

end Go.Proofs.Ytabkomelnhnoiaa

/- The program's matrices: rows that a call makes for itself and writes into (Mx); a copy of a matrix, with columns of noughts behind it (wider). -/
namespace Go.Proofs.Ytabkomelnhnoiaa
open Go.RowKit

/-- Of the m rows that block G holds, the first k are R, of n numbers, row i in block h i; all made behind block number B. -/
structure Mx (B G m k n : Nat) (R : Nat → Nat → Nat) (h : Nat → Nat) (w : World) : Prop where
  outer : ∃ f, RowF G m 22 f w ∧ ∀ i, i < k → f i = .slice (some ⟨h i, 0, none⟩) n n
  row : ∀ i, i < k → Row (h i) n (R i) w
  geG : B ≤ G
  ge : ∀ i, i < k → B ≤ h i
  inj : ∀ i, i < k → ∀ j, j < k → h i = h j → i = j
  ne : ∀ i, i < k → h i ≠ G
  le : k ≤ m
theorem Mx.ltG {B G m k n : Nat} {R : Nat → Nat → Nat} {h : Nat → Nat} {w : World} (H : Mx B G m k n R h w) : G < w.heap.size := by
  obtain ⟨f, hf, _⟩ := H.outer
  exact hf.lt
theorem Mx.lt {B G m k n : Nat} {R : Nat → Nat → Nat} {h : Nat → Nat} {w : World} (H : Mx B G m k n R h w) (i : Nat) (hi : i < k) : h i < w.heap.size := (H.row i hi).lt
theorem Mx.below {B G m k n : Nat} {R : Nat → Nat → Nat} {h : Nat → Nat} {w w' : World} (H : Mx B G m k n R h w) (hb : Below w.heap.size w w') : Mx B G m k n R h w' := by
  obtain ⟨f, hf, hf'⟩ := H.outer
  exact ⟨⟨f, hf.below hb hf.lt, hf'⟩, fun i hi => (H.row i hi).other (hb.block _ (H.lt i hi)), H.geG, H.ge, H.inj, H.ne, H.le⟩
theorem Mx.congr {B G m k n : Nat} {R R' : Nat → Nat → Nat} {h : Nat → Nat} {w : World} (H : Mx B G m k n R h w) (e : ∀ i, i < k → ∀ j, j < n → R i j = R' i j) : Mx B G m k n R' h w :=
  ⟨H.outer, fun i hi => (H.row i hi).congr (e i hi), H.geG, H.ge, H.inj, H.ne, H.le⟩
theorem Mx.cell {B G m k n : Nat} {R : Nat → Nat → Nat} {h : Nat → Nat} {w : World} (H : Mx B G m k n R h w) (i : Nat) (hi : i < k) : w.cell? ⟨G, i, none⟩ = some (.slice (some ⟨h i, 0, none⟩) n n) := by
  obtain ⟨f, hf, hf'⟩ := H.outer
  rw [hf.cell i (Nat.lt_of_lt_of_le hi H.le), hf' i hi]
/-- Row i has been written into. -/
theorem Mx.write {B G m k n : Nat} {R : Nat → Nat → Nat} {h : Nat → Nat} {w w' : World} (H : Mx B G m k n R h w) {i : Nat} (hi : i < k) {c : Nat → Nat} (ht : Tch (h i) w w') (hc : Row (h i) n c w') : Mx B G m k n (fun j => if j = i then c else R j) h w' := by
  obtain ⟨f, hf, hf'⟩ := H.outer
  refine ⟨⟨f, hf.other (ht.block _ (fun e => H.ne i hi e.symm)), hf'⟩, fun j hj => ?_, H.geG, H.ge, H.inj, H.ne, H.le⟩
  by_cases e : j = i
  · show Row (h j) n (if j = i then c else R j) w'
    rw [if_pos e, e]; exact hc
  · show Row (h j) n (if j = i then c else R j) w'
    rw [if_neg e]; exact ht.row (H.row j hj) (fun e' => e (H.inj j hj i hi e'))
/-- One row more. -/
theorem Mx.push {B G m k n : Nat} {R : Nat → Nat → Nat} {h : Nat → Nat} {w w2 w3 : World} (H : Mx B G m k n R h w) (hk : k < m) (hb : Below w.heap.size w w2) (hb3 : Below w.heap.size (w2.setCell ⟨G, k, none⟩ (.slice (some ⟨w.heap.size, 0, none⟩) n n)) w3) {c : Nat → Nat} (hc : Row w.heap.size n c w3) (hB : B ≤ w.heap.size) :
    Mx B G m (k + 1) n (fun j => if j = k then c else R j) (fun j => if j = k then w.heap.size else h j) w3 := by
  obtain ⟨f, hf, hf'⟩ := H.outer
  have hG := H.ltG
  refine ⟨⟨_, ((hf.below hb hf.lt).store k (.slice (some ⟨w.heap.size, 0, none⟩) n n)).below hb3 hG, fun i hi => ?_⟩, fun i hi => ?_, H.geG, fun i hi => ?_, fun i hi j hj e => ?_, fun i hi => ?_, by omega⟩
  · by_cases e : i = k
    · rw [e, upd_at, if_pos rfl]
    · rw [upd_ne _ _ _ e, if_neg e]; exact hf' i (by omega)
  · show Row (if i = k then w.heap.size else h i) n (if i = k then c else R i) w3
    by_cases e : i = k
    · rw [if_pos e, if_pos e]; exact hc
    · rw [if_neg e, if_neg e]
      have hik : i < k := by omega
      have hlt := H.lt i hik
      exact (H.row i hik).other (((hb3.block _ hlt).trans (Below.heap_setCell _ _ _ _ (H.ne i hik))).trans (hb.block _ hlt))
  · show B ≤ if i = k then w.heap.size else h i
    by_cases e : i = k
    · rw [if_pos e]; exact hB
    · rw [if_neg e]; exact H.ge i (by omega)
  · by_cases e1 : i = k
    · by_cases e2 : j = k
      · omega
      · rw [if_pos e1, if_neg e2] at e
        have := H.lt j (by omega)
        omega
    · by_cases e2 : j = k
      · rw [if_neg e1, if_pos e2] at e
        have := H.lt i (by omega)
        omega
      · rw [if_neg e1, if_neg e2] at e
        exact H.inj i (by omega) j (by omega) e
  · show (if i = k then w.heap.size else h i) ≠ G
    by_cases e : i = k
    · rw [if_pos e]; omega
    · rw [if_neg e]; exact H.ne i (by omega)
end Go.Proofs.Ytabkomelnhnoiaa

/- The program's matrices: a copy of a matrix, with columns of noughts behind it (wider). -/
namespace Go.Proofs.Ytabkomelnhnoiaa
open Go.RowKit

end Go.Proofs.Ytabkomelnhnoiaa

/- The program's matrices: the field of one matrix or of two that may be; a matrix that may be, row by row. -/
namespace Go.Proofs.Ytabkomelnhnoiaa
open Go.RowKit

/-- The slice of slices that begins at ao: m rows M of L elements, row i at A i. -/
structure MatS (ao : Option Addr) (m L : Nat) (A : Nat → Option Addr) (C : Nat → Nat) (M : Nat → Nat → Nat) (w : World) : Prop where
  cell : ∀ i, i < m → ∃ b off, ao = some ⟨b, off, none⟩ ∧ w.cell? ⟨b, off + i, none⟩ = some (.slice (A i) L (C i))
  sl : ∀ i, i < m → Sl (A i) L (M i) w
theorem MatS.below {ao : Option Addr} {m L : Nat} {A : Nat → Option Addr} {C : Nat → Nat} {M : Nat → Nat → Nat} {w w' : World} (h : MatS ao m L A C M w) (hb : Below w.heap.size w w') : MatS ao m L A C M w' :=
  ⟨fun i hi => by
    obtain ⟨b, off, e, hc⟩ := h.cell i hi
    exact ⟨b, off, e, ((bcell hb).1 b (off + i) (cell_lt hc)).trans hc⟩, fun i hi => slz_below (h.sl i hi) hb⟩
theorem MatS.lt {ao : Option Addr} {m L : Nat} {A : Nat → Option Addr} {C : Nat → Nat} {M : Nat → Nat → Nat} {w : World} (h : MatS ao m L A C M w) (hL : 0 < L) (i : Nat) (hi : i < m) : ∀ a, A i = some a → a.block < w.heap.size := fun a ha => by
  obtain ⟨b, off, e, hc⟩ := h.sl i hi 0 hL
  rw [ha] at e
  cases e
  exact cell_lt hc
end Go.Proofs.Ytabkomelnhnoiaa

/- The program's matrices: products (Times). -/
namespace Go.Proofs.Ytabkomelnhnoiaa
open Go.RowKit

theorem Mx.drewN {B G m k n : Nat} {R : Nat → Nat → Nat} {h : Nat → Nat} {w : World} (H : Mx B G m k n R h w) (d : Nat) : Mx B G m k n R h (w.drewN d) := by
  obtain ⟨f, hf, hf'⟩ := H.outer
  exact ⟨⟨f, hf.drewN d, hf'⟩, fun i hi => (H.row i hi).drewN d, H.geG, H.ge, H.inj, H.ne, H.le⟩

end Go.Proofs.Ytabkomelnhnoiaa

/- The program's matrices: a column cleared by a row (clearColumn). -/
namespace Go.Proofs.Ytabkomelnhnoiaa
open Go.RowKit

/-- Of w's blocks only the first m of h have been written into; none is new. -/
structure TchR (h : Nat → Nat) (m : Nat) (w w' : World) : Prop where
  os : w'.os = w.os
  tape : w'.tape = w.tape
  output : w'.output = w.output
  size : w'.heap.size = w.heap.size
  block : ∀ k, (∀ i, i < m → k ≠ h i) → w'.heap[k]? = w.heap[k]?
theorem TchR.refl (h : Nat → Nat) (m : Nat) (w : World) : TchR h m w w := ⟨rfl, rfl, rfl, rfl, fun _ _ => rfl⟩
theorem TchR.trans {h : Nat → Nat} {m : Nat} {w w1 w2 : World} (a : TchR h m w w1) (b : TchR h m w1 w2) : TchR h m w w2 :=
  ⟨b.os.trans a.os, b.tape.trans a.tape, b.output.trans a.output, b.size.trans a.size, fun k hk => (b.block k hk).trans (a.block k hk)⟩
theorem Tch.all {h : Nat → Nat} {m i : Nat} {w w' : World} (a : Tch (h i) w w') (hi : i < m) : TchR h m w w' := ⟨a.os, a.tape, a.output, a.size, fun k hk => a.block k (hk i hi)⟩
theorem TchR.below {h : Nat → Nat} {m B : Nat} {w w' : World} (a : TchR h m w w') (hB : ∀ i, i < m → B ≤ h i) : Below B w w' := ⟨a.os, a.tape, a.output, by rw [a.size]; exact Nat.le_refl _, fun k hk => a.block k (fun i hi e => by have := hB i hi; omega)⟩
theorem TchR.drewN {h : Nat → Nat} {m : Nat} {w w' : World} (a : TchR h m w w') (n : Nat) : TchR h m w (w'.drewN n) := ⟨a.os, a.tape, a.output, a.size, a.block⟩

/-- The row that clears a column. -/
def clrP (D : FD) (R : Nat → Nat → Nat) (top col : Nat) : Nat → Nat := pscale D (D.iv (R top col)) (R top)
/-- What becomes of the rows where a column is cleared by row top: the first r of them. -/
def clrR (D : FD) (R : Nat → Nat → Nat) (top col r : Nat) : Nat → Nat → Nat := fun i => if i = top then clrP D R top col else if i < r then padd D (R i) (pscale D (D.ng (R i col)) (clrP D R top col)) else R i

end Go.Proofs.Ytabkomelnhnoiaa
