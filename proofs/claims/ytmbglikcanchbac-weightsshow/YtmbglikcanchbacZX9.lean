/- Texts of ours, one behind the other: X9 X10 X11 S3 X12 X13 X14 X15 X16 S4 X17. -/
import Derived.Test.YtmbglikcanchbacZX3
import Derived.Test.YtmbglikcanchbacZT2
import Derived.Test.YtmbglikcanchbacZL10
import Derived.BigRegion
import Derived.Test.YtmbglikcanchbacZL1
/- The program's matrices: the field of one matrix or of two that may be; a matrix that may be, row by row. -/
namespace Go.Proofs.Ytmbglikcanchbac
open Go.RowKit

/-- The slice of slices that begins at ao: m rows M of L elements, row i at A i. -/
structure MatS (ao : Option Addr) (m L : Nat) (A : Nat → Option Addr) (C : Nat → Nat) (M : Nat → Nat → Nat) (w : World) : Prop where
  cell : ∀ i, i < m → ∃ b off, ao = some ⟨b, off, none⟩ ∧ w.cell? ⟨b, off + i, none⟩ = some (.slice (A i) L (C i))
  sl : ∀ i, i < m → Sl (A i) L (M i) w
theorem MatS.below {ao : Option Addr} {m L : Nat} {A : Nat → Option Addr} {C : Nat → Nat} {M : Nat → Nat → Nat} {w w' : World} (h : MatS ao m L A C M w) (hb : Below w.heap.size w w') : MatS ao m L A C M w' :=
  ⟨fun i hi => by
    obtain ⟨b, off, e, hc⟩ := h.cell i hi
    exact ⟨b, off, e, ((bcell hb).1 b (off + i) (cell_lt hc)).trans hc⟩, fun i hi => slz_below (h.sl i hi) hb⟩
theorem MatS.lt {ao : Option Addr} {m L : Nat} {A : Nat → Option Addr} {C : Nat → Nat} {M : Nat → Nat → Nat} {w : World} (h : MatS ao m L A C M w) (hL : 0 < L) (i : Nat) (hi : i < m) : ∀ a, A i = some a → a.block < w.heap.size := fun a ha => by
  obtain ⟨b, off, e, hc⟩ := h.sl i hi 0 hL
  rw [ha] at e
  cases e
  exact cell_lt hc
end Go.Proofs.Ytmbglikcanchbac

/- The program's matrices: products (Times). -/
namespace Go.Proofs.Ytmbglikcanchbac
open Go.RowKit

theorem Mx.drewN {B G m k n : Nat} {R : Nat → Nat → Nat} {h : Nat → Nat} {w : World} (H : Mx B G m k n R h w) (d : Nat) : Mx B G m k n R h (w.drewN d) := by
  obtain ⟨f, hf, hf'⟩ := H.outer
  exact ⟨⟨f, hf.drewN d, hf'⟩, fun i hi => (H.row i hi).drewN d, H.geG, H.ge, H.inj, H.ne, H.le⟩

end Go.Proofs.Ytmbglikcanchbac

/- The program's matrices: a column cleared by a row (clearColumn). -/
namespace Go.Proofs.Ytmbglikcanchbac
open Go.RowKit

/-- Of w's blocks only the first m of h have been written into; none is new. -/
structure TchR (h : Nat → Nat) (m : Nat) (w w' : World) : Prop where
  os : w'.os = w.os
  tape : w'.tape = w.tape
  output : w'.output = w.output
  size : w'.heap.size = w.heap.size
  block : ∀ k, (∀ i, i < m → k ≠ h i) → w'.heap[k]? = w.heap[k]?
theorem TchR.refl (h : Nat → Nat) (m : Nat) (w : World) : TchR h m w w := ⟨rfl, rfl, rfl, rfl, fun _ _ => rfl⟩
theorem TchR.trans {h : Nat → Nat} {m : Nat} {w w1 w2 : World} (a : TchR h m w w1) (b : TchR h m w1 w2) : TchR h m w w2 :=
  ⟨b.os.trans a.os, b.tape.trans a.tape, b.output.trans a.output, b.size.trans a.size, fun k hk => (b.block k hk).trans (a.block k hk)⟩
theorem Tch.all {h : Nat → Nat} {m i : Nat} {w w' : World} (a : Tch (h i) w w') (hi : i < m) : TchR h m w w' := ⟨a.os, a.tape, a.output, a.size, fun k hk => a.block k (hk i hi)⟩
theorem TchR.below {h : Nat → Nat} {m B : Nat} {w w' : World} (a : TchR h m w w') (hB : ∀ i, i < m → B ≤ h i) : Below B w w' := ⟨a.os, a.tape, a.output, by rw [a.size]; exact Nat.le_refl _, fun k hk => a.block k (fun i hi e => by have := hB i hi; omega)⟩
theorem TchR.drewN {h : Nat → Nat} {m : Nat} {w w' : World} (a : TchR h m w w') (n : Nat) : TchR h m w (w'.drewN n) := ⟨a.os, a.tape, a.output, a.size, a.block⟩

end Go.Proofs.Ytmbglikcanchbac

/- Plain mathematics: bringing rows to their one form, column by column, as the program does. -/
namespace Go.Proofs.Ytmbglikcanchbac
open Go.RowKit

/-- m rows of n numbers whose first c columns are done: k of the rows begin in columns p, the others are 0 there. -/
structure Rdg (D : FD) (m n c k : Nat) (R : Nat → Nat → Nat) (p : Nat → Nat) : Prop where
  el : ∀ i, i < m → El D (R i)
  bd : ∀ i, i < m → Bd n (R i)
  le : k ≤ m
  lt : ∀ i, i < k → p i < c
  mono : ∀ i j, i < j → j < k → p i < p j
  one : ∀ i, i < k → R i (p i) = 1
  zero : ∀ i j, i < m → j < k → i ≠ j → R i (p j) = 0
  lead : ∀ i c', i < k → c' < p i → R i c' = 0
  rest : ∀ i c', k ≤ i → i < m → c' < c → R i c' = 0
end Go.Proofs.Ytmbglikcanchbac

/- The program's matrices: the first row that is not 0 in a column. -/
namespace Go.Proofs.Ytmbglikcanchbac
open Go.RowKit

end Go.Proofs.Ytmbglikcanchbac

/- The program's matrices: two rows change places; rows that are left as they are. -/
namespace Go.Proofs.Ytmbglikcanchbac
open Go.RowKit

theorem OwnI.same {base : Nat} {v : Value} {l : List Int} {w w' : World} (h : OwnI base v l w) (hb : ∀ k, v.ownBlock = some k → w'.heap[k]? = w.heap[k]?) : OwnI base v l w' := by
  obtain ⟨h1, h2⟩ := h
  refine ⟨h1, ?_⟩
  rcases h2 with h2 | ⟨g, cap, cur, hv, hg, hh, r⟩
  · exact Or.inl h2
  · exact Or.inr ⟨g, cap, cur, hv, hg, by rw [hb g (by rw [hv]; rfl)]; exact hh, r⟩
end Go.Proofs.Ytmbglikcanchbac

/- The program's matrices: rows brought to their one form (reduce). -/
namespace Go.Proofs.Ytmbglikcanchbac
open Go.RowKit

structure RSt (D : FD) (B G mc m n : Nat) (R : Nat → Nat → Nat) (w : World) (c k : Nat) (R' : Nat → Nat → Nat) (p h' : Nat → Nat) (pv : Value) (wr : World) : Prop where
  rdg : Rdg D m n c k R' p
  mx : Mx B G mc m n R' h' wr
  lt : ∀ i, i < m → h' i < w.heap.size
  own : OwnI w.heap.size pv (zl k fun j => ((p j : Nat) : Int)) wr
  spn : ∀ v, Spn D (RowsOf m R') v ↔ Spn D (RowsOf m R) v
  bel : Below B w wr

end Go.Proofs.Ytmbglikcanchbac

/- The program's matrices: the one form of what rows span (Reduce). -/
namespace Go.Proofs.Ytmbglikcanchbac
open Go.RowKit

theorem Mx.mono {B B' G m k n : Nat} {R : Nat → Nat → Nat} {h : Nat → Nat} {w : World} (H : Mx B G m k n R h w) (hB : B' ≤ B) : Mx B' G m k n R h w :=
  ⟨H.outer, H.row, Nat.le_trans hB H.geG, fun i hi => Nat.le_trans hB (H.ge i hi), H.inj, H.ne, H.le⟩

end Go.Proofs.Ytmbglikcanchbac

/- The program's matrices: ranks (Rank); what is said where there is no field. -/
namespace Go.Proofs.Ytmbglikcanchbac
open Go.RowKit

end Go.Proofs.Ytmbglikcanchbac

/- Plain mathematics: one row for each column in which no row of a reduced form begins (Null). -/
namespace Go.Proofs.Ytmbglikcanchbac

end Go.Proofs.Ytmbglikcanchbac

/- The program's matrices: is a number in a list (slices.Contains); the rows that make a reduced form 0 (madeNought). -/
namespace Go.Proofs.Ytmbglikcanchbac
open Go.RowKit

/-- c rows of n numbers, each made by the call itself and appended to a list of its own. -/
structure NSt (base n c : Nat) (NR : Nat → Nat → Nat) (v : Value) (h : Nat → Nat) (wr : World) : Prop where
  own : OwnV base v (vl c fun i => .slice (some ⟨h i, 0, none⟩) n n) wr
  row : ∀ i, i < c → Row (h i) n (NR i) wr
  ge : ∀ i, i < c → base ≤ h i
  inj : ∀ i, i < c → ∀ j, j < c → h i = h j → i = j
theorem NSt.below {base n c : Nat} {NR : Nat → Nat → Nat} {v : Value} {h : Nat → Nat} {w w' : World} (H : NSt base n c NR v h w) (hb : Below w.heap.size w w') : NSt base n c NR v h w' :=
  ⟨H.own.below hb (Nat.le_refl _), fun i hi => (H.row i hi).below hb (H.row i hi).lt, H.ge, H.inj⟩
theorem NSt.congr {base n c : Nat} {NR NR' : Nat → Nat → Nat} {v : Value} {h : Nat → Nat} {w : World} (H : NSt base n c NR v h w) (e : ∀ i, i < c → NR i = NR' i) : NSt base n c NR' v h w :=
  ⟨H.own, fun i hi => by rw [← e i hi]; exact H.row i hi, H.ge, H.inj⟩
theorem NSt.push {base n c g : Nat} {NR : Nat → Nat → Nat} {d : Nat → Nat} {v v' : Value} {h : Nat → Nat} {w w' : World} (H : NSt base n c NR v h w) (hr : Row g n d w) (hg : base ≤ g) (hlt : ∀ i, i < c → h i < g) (ho : OwnV base v' (vl c (fun i => .slice (some ⟨h i, 0, none⟩) n n) ++ [.slice (some ⟨g, 0, none⟩) n n]) w') (hgr : w.grownBy w' v.ownBlock) :
    NSt base n (c + 1) (fun i => if i = c then d else NR i) v' (fun i => if i = c then g else h i) w' := by
  have hkeep : ∀ {b : Nat} {e : Nat → Nat}, Row b n e w → Row b n e w' := fun {b e} hb => hb.other (hgr.block b hb.lt (fun e' => hb.apart H.own e'))
  refine ⟨?_, fun i hi => ?_, fun i hi => ?_, fun i hi j hj e => ?_⟩
  · have e : vl (c + 1) (fun i => Value.slice (some ⟨if i = c then g else h i, 0, none⟩) n n) = vl c (fun i => .slice (some ⟨h i, 0, none⟩) n n) ++ [.slice (some ⟨g, 0, none⟩) n n] := by
      unfold vl
      rw [List.range_succ, List.map_append]
      congr 1
      · exact List.map_congr_left (fun j hj => by rw [if_neg (by have := List.mem_range.1 hj; omega)])
      · simp
    rw [e]; exact ho
  · by_cases e : i = c
    · simp only [if_pos e]; exact hkeep hr
    · simp only [if_neg e]; exact hkeep (H.row i (by omega))
  · by_cases e : i = c
    · simp only [if_pos e]; exact hg
    · simp only [if_neg e]; exact H.ge i (by omega)
  · by_cases e1 : i = c
    · by_cases e2 : j = c
      · omega
      · simp only [if_pos e1, if_neg e2] at e
        have := hlt j (by omega); omega
    · by_cases e2 : j = c
      · simp only [if_neg e1, if_pos e2] at e
        have := hlt i (by omega); omega
      · simp only [if_neg e1, if_neg e2] at e
        exact H.inj i (by omega) j (by omega) e
theorem NSt.mx {base n c : Nat} {NR : Nat → Nat → Nat} {v : Value} {h : Nat → Nat} {w : World} (H : NSt base n c NR v h w) (hc : 0 < c) : ∃ G mc, v = .slice (some ⟨G, 0, none⟩) c mc ∧ Mx base G mc c n NR h w := by
  rcases H.own.2 with ⟨h1, h2⟩ | ⟨g, cap, cur, hv, hb, hh, hle, hcm, hsz, htake⟩
  · rw [vl_len] at h2; omega
  · rw [vl_len] at hv hle htake
    have hsz' : cur.size = cap := by omega
    refine ⟨g, cap, hv, ⟨⟨fun o => (cur[o]?).getD undef, ⟨cur, hh, hsz', fun o ho => ?_⟩, fun i hi => ?_⟩, H.row, hb, H.ge, H.inj, fun i hi e => ?_, by omega⟩⟩
    · show cur[o]? = some ((cur[o]?).getD undef)
      rw [Array.getElem?_eq_getElem (by omega)]; rfl
    · have h3 : (cur.toList.take (c * 1))[i]? = (vl c fun i => Value.slice (some ⟨h i, 0, none⟩) n n)[i]? := by rw [htake]
      rw [List.getElem?_take, if_pos (by omega), vl_get _ _ i hi, Array.getElem?_toList] at h3
      show (cur[i]?).getD undef = _
      rw [h3]; rfl
    · have := (H.row i hi).apart H.own
      rw [hv, e] at this
      exact this rfl
theorem NSt.nil {base n : Nat} {NR : Nat → Nat → Nat} {v : Value} {h : Nat → Nat} {w : World} (H : NSt base n 0 NR v h w) (hv : ∀ k, v.ownBlock = some k → False) : v = .slice none 0 0 := by
  rcases H.own.2 with ⟨h1, h2⟩ | ⟨g, cap, cur, hv', hb, _⟩
  · exact h1
  · exact absurd (by rw [hv']; rfl) (hv g)

end Go.Proofs.Ytmbglikcanchbac
