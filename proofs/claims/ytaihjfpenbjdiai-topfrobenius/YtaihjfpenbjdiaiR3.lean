/- The reference: sums and opposites by digits. -/
import Derived.Test.YtaihjfpenbjdiaiR2
namespace Go.Proofs.Ytaihjfpenbjdiai
open Go.RowKit

/-- A list of the call's own that has numbers: its block, cell by cell. -/
theorem OwnI.row {base : Nat} {v : Value} {l : List Int} {w : World} (h : OwnI base v l w) (n : Nat) (hn : l.length = n) (h0 : 0 < n) : ∃ g cap f, v = .slice (some ⟨g, 0, none⟩) n cap ∧ base ≤ g ∧ g < w.heap.size ∧ n ≤ cap ∧ cap ≤ maxLen ∧
    RowF g cap 3 f w ∧ (∀ j, j < n → f j = .int .i64 (l.getD j 0)) := by
  have h' := h
  rcases h'.2 with ⟨_, h2⟩ | ⟨g, cap, cur, hv, hg, hh, hle, hcm, hsz, htake⟩
  · omega
  · refine ⟨g, cap, fun o => (cur[o]?).getD (.int .i64 0), by rw [hv, hn], hg, lt_of_block hh, by omega, hcm, ⟨cur, hh, by omega, fun o ho => ?_⟩, fun j hj => ?_⟩
    · show _ = some (Option.getD _ _)
      rw [Array.getElem?_eq_getElem (by omega)]; rfl
    · have hj' : j < l.length := by omega
      have h3 : (cur.toList.take (l.length * 1))[j]? = (l.map (Value.int .i64))[j]? := by rw [htake]
      rw [List.getElem?_take, if_pos (by omega), List.getElem?_map, List.getElem?_eq_getElem hj'] at h3
      show (cur[j]?).getD _ = _
      rw [← Array.getElem?_toList, h3, List.getD_eq_getElem?_getD, List.getElem?_eq_getElem hj']; rfl

/-- The five cells of a reference field that lies in memory. -/
structure Box (b : Nat) (D : FD) (gen : Nat) (v : Value) (w : World) : Prop where
  c0 : w.cell? ⟨b, 0, none⟩ = some (.int .i64 D.q)
  c1 : w.cell? ⟨b, 1, none⟩ = some (.int .i64 D.p)
  c2 : w.cell? ⟨b, 2, none⟩ = some (.int .i64 D.m)
  c3 : w.cell? ⟨b, 3, none⟩ = some (.int .i64 gen)
  c4 : w.cell? ⟨b, 4, none⟩ = some v
theorem Box.below {b B : Nat} {D : FD} {gen : Nat} {v : Value} {w w' : World} (h : Box b D gen v w) (hb : Below B w w') (hB : b < B) : Box b D gen v w' :=
  have e := (bcell hb).1
  ⟨(e b 0 hB).trans h.c0, (e b 1 hB).trans h.c1, (e b 2 hB).trans h.c2, (e b 3 hB).trans h.c3, (e b 4 hB).trans h.c4⟩
theorem Box.other {b : Nat} {D : FD} {gen : Nat} {v : Value} {w w' : World} (h : Box b D gen v w) (e : w'.heap[b]? = w.heap[b]?) : Box b D gen v w' :=
  have e' : ∀ o, w'.cell? ⟨b, o, none⟩ = w.cell? ⟨b, o, none⟩ := fun o => World.cell?_of_block (a := ⟨b, o, none⟩) e
  ⟨(e' 0).trans h.c0, (e' 1).trans h.c1, (e' 2).trans h.c2, (e' 3).trans h.c3, (e' 4).trans h.c4⟩
theorem dg_lt (p a j : Nat) (hp : 1 ≤ p) : dg p a j < p := Nat.mod_lt _ hp

theorem neg_mod (d p : Nat) (h : d < p) : (-(d : Int)) % (p : Int) = (((p - d) % p : Nat) : Int) := by
  have e : (-(d : Int)) = ((p - d : Nat) : Int) + (-1) * (p : Int) := by omega
  rw [e, Int.add_mul_emod_self_right, Int.natCast_emod]

end Go.Proofs.Ytaihjfpenbjdiai
