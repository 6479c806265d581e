/- The reference: products by polynomials (Mul). -/
import Derived.Test.YtmklnjkallhphaaZB3
import Derived.Test.YtmklnjkallhphaaZM5
import Derived.StillTailTactics
namespace Go.Proofs.Ytmklnjkallhphaa
open Go.RowKit

/-- A block whose first n cells are the digits of a number to the base 64. -/
def Poly (g n : Nat) (N : Nat) (w : World) : Prop := ∃ f, RowF g n 3 f w ∧ ∀ j, j < n → f j = .int .i64 (getN N j : Nat)
theorem Poly.cell {g n N : Nat} {w : World} (h : Poly g n N w) (j : Nat) (hj : j < n) : w.cell? ⟨g, j, none⟩ = some (.int .i64 (getN N j : Nat)) := by
  obtain ⟨f, hr, hf⟩ := h
  rw [hr.cell j hj, hf j hj]
theorem Poly.free {g n N : Nat} {w : World} (h : Poly g n N w) (j : Nat) : w.frozen? ⟨g, j, none⟩ = false := by
  obtain ⟨f, hr, hf⟩ := h
  exact hr.free j
theorem Poly.store {g n N : Nat} {w : World} (h : Poly g n N w) (t v : Nat) (hv : v < 64) : Poly g n (setN N t v) (w.setCell ⟨g, t, none⟩ (.int .i64 (v : Nat))) := by
  obtain ⟨f, hr, hf⟩ := h
  refine ⟨_, hr.store t _, fun j hj => ?_⟩
  rw [getN_setN N t v j hv]
  by_cases e : j = t
  · subst e; rw [upd_at, if_pos rfl]
  · rw [upd_ne _ _ _ e, if_neg e]; exact hf j hj
theorem Poly.drew {g n N : Nat} {w : World} (h : Poly g n N w) : Poly g n N w.drew := by
  obtain ⟨f, hr, hf⟩ := h
  exact ⟨f, hr.drew, hf⟩
/-- Numbers in a block's first n cells, given by a function. -/
def Nums (g n : Nat) (d : Nat → Nat) (w : World) : Prop := ∀ j, j < n → w.cell? ⟨g, j, none⟩ = some (.int .i64 (d j : Nat))
theorem Nums.other {g n : Nat} {d : Nat → Nat} {w w' : World} (h : Nums g n d w) (e : w'.heap[g]? = w.heap[g]?) : Nums g n d w' :=
  fun j hj => (World.cell?_of_block (a := ⟨g, j, none⟩) e).trans (h j hj)
theorem Nums.below {g n B : Nat} {d : Nat → Nat} {w w' : World} (h : Nums g n d w) (hb : Below B w w') (hB : g < B) : Nums g n d w' :=
  h.other (hb.block g hB)

/-- What holds in the midst of a product. -/
structure MulSt (D : FD) (gen : Nat) (v : Value) (gm : Nat) (md : Nat → Nat) (a b gx gy gl B : Nat) (w : World) (N : Nat) (wr : World) : Prop where
  poly : Poly gl (2 * D.m) N wr
  nx : Nums gx D.m (dgt D.p a) wr
  ny : Nums gy D.m (dgt D.p b) wr
  nm : Nums gm D.m md wr
  box : Box B D gen v wr
  bel : Below B w wr
theorem MulSt.step {D : FD} {gen : Nat} {v : Value} {gm : Nat} {md : Nat → Nat} {a b gx gy gl B : Nat} {w : World} {N : Nat} {wr : World} (h : MulSt D gen v gm md a b gx gy gl B w N wr)
    (h1 : gx < gl) (h2 : gy < gl) (h3 : gm < gl) (h4 : B < gl) (t x : Nat) (hx : x < 64) : MulSt D gen v gm md a b gx gy gl B w (setN N t x) (wr.setCell ⟨gl, t, none⟩ (.int .i64 (x : Nat))) :=
  have e : ∀ k, k < gl → (wr.setCell ⟨gl, t, none⟩ (.int .i64 (x : Nat))).heap[k]? = wr.heap[k]? := fun k hk => Below.heap_setCell wr ⟨gl, t, none⟩ _ k (by show k ≠ gl; omega)
  ⟨h.poly.store t x hx, h.nx.other (e _ h1), h.ny.other (e _ h2), h.nm.other (e _ h3), h.box.other (e _ h4), h.bel.setCell (by show B ≤ gl; omega) _⟩
theorem MulSt.drew {D : FD} {gen : Nat} {v : Value} {gm : Nat} {md : Nat → Nat} {a b gx gy gl B : Nat} {w : World} {N : Nat} {wr : World} (h : MulSt D gen v gm md a b gx gy gl B w N wr) : MulSt D gen v gm md a b gx gy gl B w N wr.drew :=
  ⟨h.poly.drew, h.nx.other rfl, h.ny.other rfl, h.nm.other rfl, h.box.other rfl, h.bel.drew⟩

theorem below_drewN2 {B : Nat} {w w' : World} (h : Below B w w') (n : Nat) : Below B w (w'.drewN n) := ⟨h.os, h.tape, h.output, h.size, h.block⟩
theorem wrap_to {a : Int} {n : Nat} (h : a = (n : Int)) (hn : n ≤ 9223372036854775807) : IntKind.i64.wrap a = (n : Int) := by
  rw [IntWalk.i64_left, h]; exact w_nat n hn

end Go.Proofs.Ytmklnjkallhphaa
