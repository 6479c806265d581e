/- Texts of ours, one behind the other: O6 KF6. -/
import Derived.Test.YthkjaiihlphgfaaZO2
import Derived.Test.YthkjaiihlphgfaaZKF1
import Derived.Test.YthkjaiihlphgfaaZKF5
import Derived.Test.YthkjaiihlphgfaaZI24
/- A net that is handed in, opened. -/
namespace Go.Proofs.Ythkjaiihlphgfaa
open Go.ChangeShapes Go.WideShapes Go.ChangeAt Go.RowKit

theorem Try.fieldsNet : Try.prog.underlying 24 = some (.struct #[⟨"Nodes", 3, 0, false, "", "", 0⟩, ⟨"Edges", 22, 1, false, "", "", 8⟩]) := by kernel_rfl
theorem Try.fieldsEdge : Try.prog.underlying 89 = some (.struct #[⟨"From", 3, 0, false, "", "", 0⟩, ⟨"To", 3, 1, false, "", "", 8⟩]) := by kernel_rfl
theorem Try.cellsNet : Try.prog.cellsOf 24 = 2 := by kernel_rfl
theorem Try.cellsEdge : Try.prog.cellsOf 89 = 2 := by kernel_rfl
theorem Try.cellsEdges : Try.prog.cellsOf 22 = 1 := by kernel_rfl
theorem Try.bytesEdge : Try.prog.bytesOf 89 = 16 := by kernel_rfl

/-- How long a list of edges may be. -/
def EdsD {H : Type} (ca : Nat) (d : DataW H) : Prop := (d = .nil ∧ ca = 0) ∨ ∃ es sp, d = .slice es sp ∧ es.length + sp.length = ca

set_option maxRecDepth 100000 in
theorem open_edges_at {H : Type} {enc : TypeId × Value → H} {W : World} {v : Value} {d : DataW H} {p : List MemPlace} {fuel : Nat}
    (hf : DataW.trod enc Try.prog W 0 (fun _ => true) true fuel 22 [v] = some (d, p)) :
    ∃ eo m ec F T, v = .slice eo m ec ∧ EdZ eo m F T W ∧ m ≤ ec ∧ EdsD ec d := by
  rcases DataW.trod_slice Try.underlying22 hf with ⟨hcs, hx⟩ | ⟨a, len, cap, elems, rest, n, _, hcs, hx, hb, hl, hm, hlen, hel, hsp, hns⟩
  · simp only [List.cons.injEq, and_true] at hcs
    subst hcs
    simp only [Prod.mk.injEq] at hx
    exact ⟨none, 0, 0, fun _ => 0, fun _ => 0, rfl, fun j hj => absurd hj (by omega), Nat.le_refl _, Or.inl ⟨hx.1, rfl⟩⟩
  · simp only [List.cons.injEq, and_true] at hcs
    subst hcs
    simp only [Prod.mk.injEq] at hx
    have two : ∀ i, i < len → ∃ x0 x1 : Int, W.cell? ((a.add (i * 2)).add 0) = some (.int .i64 x0) ∧ W.cell? ((a.add (i * 2)).add 1) = some (.int .i64 x1) := fun i hi => by
      have hE := hel i hi
      rw [Try.cellsEdge] at hE
      have hy : ∃ y, elems[i]? = some y := ⟨elems[i]'(by omega), List.getElem?_eq_getElem _⟩
      obtain ⟨y, hy⟩ := hy
      rw [hy, Option.bind_eq_some_iff] at hE
      obtain ⟨cs', hcs', hyt⟩ := hE
      obtain ⟨_, hl2, hr2⟩ := World.cells?_some hcs'
      obtain ⟨y0, y1, n', _, _, h0, h1⟩ := trod_struct2 Try.fieldsEdge hyt
      match cs', hl2 with
      | [c0, c1], _ =>
        simp [Try.cellsInt] at h0 h1
        obtain ⟨x0, e0, _, _⟩ := DataW.trod_int Try.underlying3 h0
        obtain ⟨x1, e1, _, _⟩ := DataW.trod_int Try.underlying3 h1
        simp only [List.cons.injEq, and_true] at e0 e1
        refine ⟨x0, x1, ?_, ?_⟩
        · rw [hr2 0 (by omega)]; show some c0 = _; rw [e0]
        · rw [hr2 1 (by omega)]; show some c1 = _; rw [e1]
    obtain ⟨b, off, spot⟩ := a
    have hform : ∃ F T : Nat → Int, EdZ (some ⟨b, off, spot⟩) len F T W := by
      by_cases h0 : len = 0
      · exact ⟨fun _ => 0, fun _ => 0, fun j hj => absurd hj (by omega)⟩
      · have hs : spot = none := by
          obtain ⟨x0, x1, g0, _⟩ := two 0 (by omega)
          have e : ((⟨b, off, spot⟩ : Addr).add (0 * 2)).add 0 = ⟨b, off, spot⟩ := rfl
          rw [e] at g0
          exact spot_none g0
        subst hs
        have key : ∀ i, ∃ x : Int × Int, i < len → W.cell? ⟨b, off + i * 2, none⟩ = some (.int .i64 x.1) ∧ W.cell? ⟨b, off + i * 2 + 1, none⟩ = some (.int .i64 x.2) := fun i => by
          by_cases hi : i < len
          · obtain ⟨x0, x1, g0, g1⟩ := two i hi
            rw [add_off, add_off] at g0 g1
            exact ⟨(x0, x1), fun _ => ⟨g0, g1⟩⟩
          · exact ⟨(0, 0), fun h => absurd h hi⟩
        exact ⟨fun i => (Classical.choose (key i)).1, fun i => (Classical.choose (key i)).2, fun j hj => ⟨b, off, rfl, (Classical.choose_spec (key j) hj).1, (Classical.choose_spec (key j) hj).2⟩⟩
    obtain ⟨F, T, hEd⟩ := hform
    refine ⟨some ⟨b, off, spot⟩, len, cap, F, T, rfl, hEd, hl, Or.inr ⟨_, _, hx.1, ?_⟩⟩
    rw [List.length_map, List.length_map, hlen, (hsp rfl).1]
    omega

set_option maxRecDepth 100000 in
theorem open_net {H : Type} {enc : TypeId × Value → H} {W : World} {base : Nat} {v : Value} {d : DataW H} {p : List MemPlace} (hok : Value.okWide Try.prog W .any base 24 v)
    (h : DataW.Trod enc Try.prog W 0 (fun _ => true) true 24 v d p) :
    ∃ n eo m ec F T d2, v = .agg #[.int .i64 n, .slice eo m ec] ∧ EdZ eo m F T W ∧ m ≤ ec ∧ EdsD ec d2 ∧ (∃ x0, d = .agg [x0, d2]) ∧ (Lit.int .i64 n).wf = true := by
  obtain ⟨cs, rfl, hsz⟩ := okWide_struct Try.fieldsNet hok
  rw [Try.cellsNet] at hsz
  obtain ⟨l⟩ := cs
  match l, hsz with
  | [c0, c1], _ =>
    obtain ⟨fuel, hf⟩ := h
    obtain ⟨y0, y1, n', hx, _, h0, h1⟩ := trod_struct2 Try.fieldsNet hf
    simp [Value.cells, Try.cellsInt, Try.cellsEdges] at h0 h1
    obtain ⟨q, e0, _, w0⟩ := DataW.trod_int Try.underlying3 h0
    obtain ⟨z1, p1⟩ := y1
    obtain ⟨eo, m, ec, F, T, e1, hE, hle, hD⟩ := open_edges_at h1
    simp only [List.cons.injEq, and_true] at e0
    subst e0 e1
    simp only [Prod.mk.injEq] at hx
    exact ⟨q, eo, m, ec, F, T, z1, rfl, hE, hle, hD, ⟨_, hx.1⟩, w0⟩
set_option maxRecDepth 100000 in
/-- No net that is handed in takes more than the form's own reach. -/
theorem sized_net {H : Type} {ts : List TypeId} {ds : List (DataW H)} {x0 d : DataW H} {ca j : Nat} (h : (DataW.weightsEach Try.prog ts ds).all (· ≤ reachBytes) = true) (ht : ts[j]? = some 24) (hd : ds[j]? = some (.agg [x0, d]))
    (hc : EdsD ca d) : ca ≤ 17592186044416 := by
  rcases hc with ⟨_, rfl⟩ | ⟨es, sp, rfl, rfl⟩
  · omega
  · have h1 : (es.length + sp.length) * Try.prog.bytesOf 89 ∈ DataW.weights Try.prog 22 (DataW.slice es sp) := by simp [DataW.weights, Try.underlying22]
    have h2 := List.all_eq_true.1 h _ (DataW.weights_mem_each (P := Try.prog) ht hd ((es.length + sp.length) * Try.prog.bytesOf 89) (by
      simp only [DataW.weights, Try.fieldsNet, DataW.weightsEach, List.map_cons, List.mem_append]
      exact Or.inr (Or.inl h1)))
    rw [Try.bytesEdge] at h2
    have h3 : (es.length + sp.length) * 16 ≤ reachBytes := by simpa using h2
    unfold reachBytes at h3
    omega
end Go.Proofs.Ythkjaiihlphgfaa

/- NetSends: ways through it, over what its calls tell (printed by make/kf6.py). -/
namespace Go.Proofs.Ythkjaiihlphgfaa
open Go.RowKit Go.Sort
set_option linter.unusedVariables false

/-- What is carried along in NetSends. -/
structure NsG (D : FD) (B Bf gm cm : Nat) (n : Int) (v : Value) (w0 w : World) : Prop where
  nb : NB B n v w
  box : Box Bf D D.gen (.slice (some ⟨gm, 0, none⟩) (D.m + 1) cm) w
  md : ModAt D (.slice (some ⟨gm, 0, none⟩) (D.m + 1) cm) D.md w
  bel : Below w0.heap.size w0 w
theorem NsG.next {D : FD} {B Bf gm cm : Nat} {n : Int} {v : Value} {w0 w w' : World} (h : NsG D B Bf gm cm n v w0 w) (hb : Below w.heap.size w w') : NsG D B Bf gm cm n v w0 w' :=
  ⟨h.nb.keep hb, h.box.below hb (cell_lt h.box.c0), h.md.below hb, bel_up' h.bel hb⟩
/-- The same where there is no field. -/
structure NsN (B : Nat) (n : Int) (v : Value) (w0 w : World) : Prop where
  nb : NB B n v w
  bel : Below w0.heap.size w0 w
theorem NsN.next {B : Nat} {n : Int} {v : Value} {w0 w w' : World} (h : NsN B n v w0 w) (hb : Below w.heap.size w w') : NsN B n v w0 w' := ⟨h.nb.keep hb, bel_up' h.bel hb⟩
theorem bel_dr {w w' : World} {d : Nat} (h : w' = w.drewN d) : Below w.heap.size w w' := by rw [h]; exact below_drewN2 (Below.refl _ _) d

end Go.Proofs.Ythkjaiihlphgfaa
