/- Texts of ours, one behind the other: O6 KF6 KF7 KF8 KF9 KF10 KF11 KF12 KF13 KF14 KF15 S47 S65 KT1 LS5. -/
import Derived.Test.YtbnkekeeceicaaaGreatZS5
import Derived.Test.YtbnkekeeceicaaaGreatZKF1
import Derived.Test.YtbnkekeeceicaaaGreatZS12
import Derived.Test.YtbnkekeeceicaaaGreatZL10
import Derived.Test.YtbnkekeeceicaaaGreatZH2
import Derived.Test.YtbnkekeeceicaaaGreatZA1
import Derived.Test.YtbnkekeeceicaaaGreatZN3
import Derived.Maps.OwnOps
import Derived.Maps.OwnSet
import Derived.Lib.SlKeysI
import Derived.Deep.LoopGhost
import Derived.Shelf.SlIterI.Nil
import Derived.Shelf.SortM.Plain
import Derived.Shelf.SortM.SortNone
import Derived.Ground.GgzProg
import Derived.Ground.SlgmProg
import Derived.Shelf.SlGeneric
import Derived.Test.YtbnkekeeceicaaaGreatProg
/- A net that is handed in, opened. -/
namespace Go.Proofs.YtbnkekeeceicaaaGreat
open Go.ChangeShapes Go.WideShapes Go.ChangeAt Go.RowKit

theorem Tryz.fieldsNet : Tryz.prog.underlying 24 = some (.struct #[⟨"Nodes", 3, 0, false, "", "", 0⟩, ⟨"Edges", 22, 1, false, "", "", 8⟩]) := by kernel_rfl
theorem Tryz.fieldsEdge : Tryz.prog.underlying 53 = some (.struct #[⟨"From", 3, 0, false, "", "", 0⟩, ⟨"To", 3, 1, false, "", "", 8⟩]) := by kernel_rfl
theorem Tryz.cellsNet : Tryz.prog.cellsOf 24 = 2 := by kernel_rfl
theorem Tryz.cellsEdge : Tryz.prog.cellsOf 53 = 2 := by kernel_rfl
theorem Tryz.cellsEdges : Tryz.prog.cellsOf 22 = 1 := by kernel_rfl
theorem Tryz.bytesEdge : Tryz.prog.bytesOf 53 = 16 := by kernel_rfl

/-- How long a list of edges may be. -/
def EdsD {H : Type} (ca : Nat) (d : DataW H) : Prop := (d = .nil ∧ ca = 0) ∨ ∃ es sp, d = .slice es sp ∧ es.length + sp.length = ca

set_option maxRecDepth 100000 in
theorem open_edges_at {H : Type} {enc : TypeId × Value → H} {W : World} {v : Value} {d : DataW H} {p : List MemPlace} {fuel : Nat}
    (hf : DataW.trod enc Tryz.prog W 0 (fun _ => true) true fuel 22 [v] = some (d, p)) :
    ∃ eo m ec F T, v = .slice eo m ec ∧ EdZ eo m F T W ∧ m ≤ ec ∧ EdsD ec d := by
  rcases DataW.trod_slice Tryz.underlying22 hf with ⟨hcs, hx⟩ | ⟨a, len, cap, elems, rest, n, _, hcs, hx, hb, hl, hm, hlen, hel, hsp, hns⟩
  · simp only [List.cons.injEq, and_true] at hcs
    subst hcs
    simp only [Prod.mk.injEq] at hx
    exact ⟨none, 0, 0, fun _ => 0, fun _ => 0, rfl, fun j hj => absurd hj (by omega), Nat.le_refl _, Or.inl ⟨hx.1, rfl⟩⟩
  · simp only [List.cons.injEq, and_true] at hcs
    subst hcs
    simp only [Prod.mk.injEq] at hx
    have two : ∀ i, i < len → ∃ x0 x1 : Int, W.cell? ((a.add (i * 2)).add 0) = some (.int .i64 x0) ∧ W.cell? ((a.add (i * 2)).add 1) = some (.int .i64 x1) := fun i hi => by
      have hE := hel i hi
      rw [Tryz.cellsEdge] at hE
      have hy : ∃ y, elems[i]? = some y := ⟨elems[i]'(by omega), List.getElem?_eq_getElem _⟩
      obtain ⟨y, hy⟩ := hy
      rw [hy, Option.bind_eq_some_iff] at hE
      obtain ⟨cs', hcs', hyt⟩ := hE
      obtain ⟨_, hl2, hr2⟩ := World.cells?_some hcs'
      obtain ⟨y0, y1, n', _, _, h0, h1⟩ := trod_struct2 Tryz.fieldsEdge hyt
      match cs', hl2 with
      | [c0, c1], _ =>
        simp [Tryz.cellsInt] at h0 h1
        obtain ⟨x0, e0, _, _⟩ := DataW.trod_int Tryz.underlying3 h0
        obtain ⟨x1, e1, _, _⟩ := DataW.trod_int Tryz.underlying3 h1
        simp only [List.cons.injEq, and_true] at e0 e1
        refine ⟨x0, x1, ?_, ?_⟩
        · rw [hr2 0 (by omega)]; show some c0 = _; rw [e0]
        · rw [hr2 1 (by omega)]; show some c1 = _; rw [e1]
    obtain ⟨b, off, spot⟩ := a
    have hform : ∃ F T : Nat → Int, EdZ (some ⟨b, off, spot⟩) len F T W := by
      by_cases h0 : len = 0
      · exact ⟨fun _ => 0, fun _ => 0, fun j hj => absurd hj (by omega)⟩
      · have hs : spot = none := by
          obtain ⟨x0, x1, g0, _⟩ := two 0 (by omega)
          have e : ((⟨b, off, spot⟩ : Addr).add (0 * 2)).add 0 = ⟨b, off, spot⟩ := rfl
          rw [e] at g0
          exact spot_none g0
        subst hs
        have key : ∀ i, ∃ x : Int × Int, i < len → W.cell? ⟨b, off + i * 2, none⟩ = some (.int .i64 x.1) ∧ W.cell? ⟨b, off + i * 2 + 1, none⟩ = some (.int .i64 x.2) := fun i => by
          by_cases hi : i < len
          · obtain ⟨x0, x1, g0, g1⟩ := two i hi
            rw [add_off, add_off] at g0 g1
            exact ⟨(x0, x1), fun _ => ⟨g0, g1⟩⟩
          · exact ⟨(0, 0), fun h => absurd h hi⟩
        exact ⟨fun i => (Classical.choose (key i)).1, fun i => (Classical.choose (key i)).2, fun j hj => ⟨b, off, rfl, (Classical.choose_spec (key j) hj).1, (Classical.choose_spec (key j) hj).2⟩⟩
    obtain ⟨F, T, hEd⟩ := hform
    refine ⟨some ⟨b, off, spot⟩, len, cap, F, T, rfl, hEd, hl, Or.inr ⟨_, _, hx.1, ?_⟩⟩
    rw [List.length_map, List.length_map, hlen, (hsp rfl).1]
    omega

set_option maxRecDepth 100000 in
theorem open_net {H : Type} {enc : TypeId × Value → H} {W : World} {base : Nat} {v : Value} {d : DataW H} {p : List MemPlace} (hok : Value.okWide Tryz.prog W .any base 24 v)
    (h : DataW.Trod enc Tryz.prog W 0 (fun _ => true) true 24 v d p) :
    ∃ n eo m ec F T d2, v = .agg #[.int .i64 n, .slice eo m ec] ∧ EdZ eo m F T W ∧ m ≤ ec ∧ EdsD ec d2 ∧ (∃ x0, d = .agg [x0, d2]) ∧ (Lit.int .i64 n).wf = true := by
  obtain ⟨cs, rfl, hsz⟩ := okWide_struct Tryz.fieldsNet hok
  rw [Tryz.cellsNet] at hsz
  obtain ⟨l⟩ := cs
  match l, hsz with
  | [c0, c1], _ =>
    obtain ⟨fuel, hf⟩ := h
    obtain ⟨y0, y1, n', hx, _, h0, h1⟩ := trod_struct2 Tryz.fieldsNet hf
    simp [Value.cells, Tryz.cellsInt, Tryz.cellsEdges] at h0 h1
    obtain ⟨q, e0, _, w0⟩ := DataW.trod_int Tryz.underlying3 h0
    obtain ⟨z1, p1⟩ := y1
    obtain ⟨eo, m, ec, F, T, e1, hE, hle, hD⟩ := open_edges_at h1
    simp only [List.cons.injEq, and_true] at e0
    subst e0 e1
    simp only [Prod.mk.injEq] at hx
    exact ⟨q, eo, m, ec, F, T, z1, rfl, hE, hle, hD, ⟨_, hx.1⟩, w0⟩
set_option maxRecDepth 100000 in
/-- No net that is handed in takes more than the form's own reach. -/
theorem sized_net {H : Type} {ts : List TypeId} {ds : List (DataW H)} {x0 d : DataW H} {ca j : Nat} (h : (DataW.weightsEach Tryz.prog ts ds).all (· ≤ reachBytes) = true) (ht : ts[j]? = some 24) (hd : ds[j]? = some (.agg [x0, d]))
    (hc : EdsD ca d) : ca ≤ 17592186044416 := by
  rcases hc with ⟨_, rfl⟩ | ⟨es, sp, rfl, rfl⟩
  · omega
  · have h1 : (es.length + sp.length) * Tryz.prog.bytesOf 53 ∈ DataW.weights Tryz.prog 22 (DataW.slice es sp) := by simp [DataW.weights, Tryz.underlying22]
    have h2 := List.all_eq_true.1 h _ (DataW.weights_mem_each (P := Tryz.prog) ht hd ((es.length + sp.length) * Tryz.prog.bytesOf 53) (by
      simp only [DataW.weights, Tryz.fieldsNet, DataW.weightsEach, List.map_cons, List.mem_append]
      exact Or.inr (Or.inl h1)))
    rw [Tryz.bytesEdge] at h2
    have h3 : (es.length + sp.length) * 16 ≤ reachBytes := by simpa using h2
    unfold reachBytes at h3
    omega
end Go.Proofs.YtbnkekeeceicaaaGreat

/- NetSends: ways through it, over what its calls tell (printed by make/kf6.py). -/
namespace Go.Proofs.YtbnkekeeceicaaaGreat
open Go.RowKit Go.Sort
set_option linter.unusedVariables false

end Go.Proofs.YtbnkekeeceicaaaGreat

/- NetSends: ways through it, over what its calls tell (printed by make/kf6.py). -/
namespace Go.Proofs.YtbnkekeeceicaaaGreat
open Go.RowKit Go.Sort
set_option linter.unusedVariables false

end Go.Proofs.YtbnkekeeceicaaaGreat

/- NetSends: ways through it, over what its calls tell (printed by make/kf6.py). -/
namespace Go.Proofs.YtbnkekeeceicaaaGreat
open Go.RowKit Go.Sort
set_option linter.unusedVariables false

end Go.Proofs.YtbnkekeeceicaaaGreat

/- NetSends: ways through it, over what its calls tell (printed by make/kf6.py). -/
namespace Go.Proofs.YtbnkekeeceicaaaGreat
open Go.RowKit Go.Sort
set_option linter.unusedVariables false

end Go.Proofs.YtbnkekeeceicaaaGreat

/- NetSends: ways through it, over what its calls tell (printed by make/kf6.py). -/
namespace Go.Proofs.YtbnkekeeceicaaaGreat
open Go.RowKit Go.Sort
set_option linter.unusedVariables false

end Go.Proofs.YtbnkekeeceicaaaGreat

/- NetSends: ways through it, over what its calls tell (printed by make/kf6.py). -/
namespace Go.Proofs.YtbnkekeeceicaaaGreat
open Go.RowKit Go.Sort
set_option linter.unusedVariables false

end Go.Proofs.YtbnkekeeceicaaaGreat

/- NetSends: whatever it is given. -/
namespace Go.Proofs.YtbnkekeeceicaaaGreat
open Go.RowKit Go.Sort

end Go.Proofs.YtbnkekeeceicaaaGreat

/- NetSends over a field: its ways joined (printed by make/kf13.py). -/
namespace Go.Proofs.YtbnkekeeceicaaaGreat
open Go.RowKit Go.Sort

end Go.Proofs.YtbnkekeeceicaaaGreat

/- NetSends: whatever it is given. -/
namespace Go.Proofs.YtbnkekeeceicaaaGreat
open Go.RowKit Go.Sort

end Go.Proofs.YtbnkekeeceicaaaGreat

/- NetSends: whatever it is given (the walk). -/
namespace Go.Proofs.YtbnkekeeceicaaaGreat
open Go.RowKit Go.Sort

end Go.Proofs.YtbnkekeeceicaaaGreat

/- Plain mathematics: through values at different places goes just one short polynomial, and equations of powers are met by it alone. No Go text here. -/
namespace Go.Proofs.YtbnkekeeceicaaaGreat
open Go.RowKit Go.Sort

/-- Equations that are met have no row that says 0 = 1. -/
theorem met_no {D : FD} (F : Fld D) {m n k : Nat} {R M : Nat → Nat → Nat} {p b u : Nat → Nat} (h : RRE D (n + 1) k R p) (hel : ∀ i, i < m → El D (M i)) (hb : ∀ i, i < m → b i < D.q) (hs : ∀ v, Spn D (RowsOf k R) v ↔ Spn D (RowsOf m (aug n M b)) v) (hu : ∀ i, i < m → dt D (M i) u n = b i) : ∀ i, i < k → p i ≠ n := fun i hi e => by
  have h1 : Spn D (RowsOf m (aug n M b)) (R i) := (hs _).1 ⟨[(1, R i)], fun x hx => by simp at hx; rw [hx]; exact ⟨i, hi, rfl⟩, by
    show R i = padd D (pscale D 1 (R i)) pnil
    rw [pscale_one F (h.el i hi), padd_nil F (h.el i hi)]⟩
  have dtc : ∀ {a a' : Nat → Nat} (t : Nat), (∀ j, j < t → a j = a' j) → dt D a u t = dt D a' u t := fun {a a'} t => by
    induction t with
    | zero => intro _; rfl
    | succ t ih =>
      intro ht
      show D.ad (dt D a u t) (D.mul (a t) (u t)) = D.ad (dt D a' u t) (D.mul (a' t) (u t))
      rw [ih (fun j hj => ht j (by omega)), ht t (by omega)]
  have h2 : El D (R i) ∧ dt D (R i) u n = R i n := by
    refine spn_ind (Q := fun v => El D v ∧ dt D v u n = v n) ⟨el_nil F, dt_nil F u n⟩ (fun a c ha hc => ⟨el_add F ha.1 hc.1, ?_⟩) (fun s v hv => ⟨el_scale F _ _, ?_⟩) (fun v hv => ?_) h1
    · rw [dt_add F u ha.1 hc.1, ha.2, hc.2]; rfl
    · rw [dt_scale F, hv.2]; rfl
    · obtain ⟨j, hj, rfl⟩ := hv
      refine ⟨fun t => ?_, ?_⟩
      · unfold aug
        by_cases e : t = n
        · rw [if_pos e]; exact hb j hj
        · rw [if_neg e]; exact hel j hj t
      · rw [dtc n (a' := M j) (fun t ht => by unfold aug; rw [if_neg (by omega)]), hu j hj]
        unfold aug
        rw [if_pos rfl]
  have h3 : dt D (R i) u n = 0 := by
    rw [dtc n (a' := pnil) (fun t ht => h.lead i t hi (by omega)), dt_nil F]
  have h4 := h.one i hi
  rw [e] at h4
  have := h2.2
  omega

end Go.Proofs.YtbnkekeeceicaaaGreat

/- Numbers below n that come of each other times q: the lists of them (plain mathematics). -/
namespace Go.Proofs.YtbnkekeeceicaaaGreat

/-- A list of numbers below n, each once, sorted: those of 0, 1, .. that are in it. -/
theorem sort_range {n : Nat} {L : List Nat} (hd : L.Nodup) (hl : ∀ k ∈ L, k < n) : ((L.map fun j => ((j : Nat) : Int)).mergeSort fun x y => decide (x ≤ y)) = ((List.range n).filter fun j => L.contains j).map fun j => ((j : Nat) : Int) := by
  have hp : ((List.range n).filter fun j => L.contains j).Perm L := by
    refine (List.perm_ext_iff_of_nodup (List.nodup_range.filter _) hd).2 (fun a => ?_)
    rw [List.mem_filter, List.contains_iff_mem]
    exact ⟨fun h => h.2, fun h => ⟨List.mem_range.2 (hl a h), h⟩⟩
  refine List.Perm.eq_of_pairwise (le := fun a b : Int => a ≤ b) (fun a b _ _ x y => Int.le_antisymm x y) ?_ ?_ ?_
  · exact (List.pairwise_mergeSort (le := fun x y : Int => decide (x ≤ y)) (fun a b c h1 h2 => by simp only [decide_eq_true_eq] at *; omega) (fun a b => by simp only [Bool.or_eq_true, decide_eq_true_eq]; omega) _).imp (fun h => by simpa using h)
  · rw [List.pairwise_map]
    exact (List.Pairwise.filter _ List.pairwise_lt_range).imp (fun {a b} h => by omega)
  · exact (List.mergeSort_perm _ _).trans (hp.map _).symm
end Go.Proofs.YtbnkekeeceicaaaGreat

/- Cyclic: numbers that come of each other (together): a map that the call makes. -/
namespace Go.Proofs.YtbnkekeeceicaaaGreat
open Go.RowKit Go.Maps

theorem cty_int : Tryz.prog.underlying 3 = some (.int .i64) := by kernel_rfl
theorem ct_map : Tryz.prog.underlying 63 = some (.map 3 3) := by kernel_rfl
theorem ct_law : Keyed Tryz.prog 3 := int_keyed cty_int
theorem ct_zero (w : World) : (zeroValue 3).run Tryz.prog w = .ok (.int .i64 0) w := by kernel_rfl
theorem ct_key (a : Int) (h : (Lit.int .i64 a).wf = true) : keyOf Tryz.prog 3 (.int .i64 a) = some (.int .i64 a) := keyOf_int_mk cty_int h
theorem ct_wf {k : Nat} (h : k ≤ 1000) : (Lit.int .i64 (k : Nat)).wf = true := WalkArith.wf_i64 (by omega)
theorem ct_lit (x : Int) : WideAt.IsKeyLit (.int .i64 x) := by first | trivial | (unfold WideAt.IsKeyLit; trivial) | exact Or.inl ⟨_, _, rfl⟩ | simp [WideAt.IsKeyLit]
theorem lit_inj {c d : Int} (h : (DataW.lit (.int .i64 c) : DataW Value) = .lit (.int .i64 d)) : c = d := by cases h; rfl
theorem nd_len {n : Nat} {L : List Nat} (h : L.Nodup) (hl : ∀ k ∈ L, k < n) : L.length ≤ n := by
  have hp : ((List.range n).filter fun j => L.contains j).Perm L := by
    refine (List.perm_ext_iff_of_nodup (List.nodup_range.filter _) h).2 (fun a => ?_)
    rw [List.mem_filter, List.contains_iff_mem]
    exact ⟨fun h => h.2, fun h => ⟨List.mem_range.2 (hl a h), h⟩⟩
  rw [← hp.length_eq]
  have := List.length_filter_le (fun j => L.contains j) (List.range n)
  rwa [List.length_range] at this

end Go.Proofs.YtbnkekeeceicaaaGreat

/- How the library sorts a map's keys here (slices.Sorted of maps.Keys): what the shelf asks of the program. -/
namespace Go.Proofs.YtbnkekeeceicaaaGreat
open Go.Shelf
def keysA_ren : Go.Shelf.Ren := ⟨fun | 7 => 24 | 10 => 45 | n => n, fun | 23 => 63 | 26 => 3 | 3 => 3 | 28 => 61 | 0 => 0 | 27 => 60 | 33 => 88 | 4 => 4 | n => n, fun | n => n⟩
theorem keysA : Go.Proofs.SlLaysZI.n7 Tryz.prog keysA_ren := {
  mixed := by kernel_rfl
  f7 := ⟨Tryz.f24.name, by decide, Tryz.func24.trans (congrArg some (by kernel_rfl))⟩
  f10 := ⟨Tryz.f45.name, by decide, Tryz.func45.trans (congrArg some (by kernel_rfl))⟩
  t0 := Tryz.underlying0
  a0 := Tryz.isAgg0
  z0 := Tryz.sizeOf0
  v0 := Tryz.zeroValue0
  t4 := Tryz.underlying4
  a4 := Tryz.isAgg4
  z4 := Tryz.sizeOf4
  v4 := Tryz.zeroValue4
  t23 := Tryz.underlying63
  a23 := Tryz.isAgg63
  z23 := Tryz.sizeOf63
  v23 := Tryz.zeroValue63
  t26 := Tryz.underlying3
  a26 := Tryz.isAgg3
  z26 := Tryz.sizeOf3
  v26 := Tryz.zeroValue3
  t27 := Tryz.underlying60
  a27 := Tryz.isAgg60
  z27 := Tryz.sizeOf60
  v27 := Tryz.zeroValue60
  t28 := Tryz.underlying61
  a28 := Tryz.isAgg61
  z28 := Tryz.sizeOf61
  v28 := Tryz.zeroValue61
  t33 := Tryz.underlying88
  a33 := Tryz.isAgg88
  z33 := Tryz.sizeOf88
  v33 := Tryz.zeroValue88 }
def sortedA_ren : Go.Shelf.Ren := ⟨fun | 6 => 23 | 8 => 43 | 9 => 44 | 11 => 59 | 13 => 61 | 12 => 60 | 23 => 82 | 24 => 83 | 14 => 73 | 15 => 74 | 16 => 75 | 17 => 76 | 18 => 77 | 19 => 78 | 20 => 79 | 21 => 80 | 22 => 81 | 25 => 101 | 26 => 102 | 27 => 103 | 28 => 104 | 29 => 105 | 30 => 106 | 31 => 115 | n => n, fun | 26 => 3 | 28 => 61 | 24 => 25 | 0 => 0 | 3 => 3 | 37 => 105 | 48 => 124 | 50 => 126 | 4 => 4 | 40 => 117 | 39 => 116 | 45 => 90 | 5 => 5 | 9 => 9 | 51 => 134 | 55 => 138 | 57 => 144 | 58 => 76 | 33 => 88 | n => n, fun | n => n⟩
theorem sortedA : Go.Proofs.SlLaysZI.n6 Tryz.prog sortedA_ren := {
  mixed := by kernel_rfl
  f6 := ⟨Tryz.f23.name, by decide, Tryz.func23.trans (congrArg some (by kernel_rfl))⟩
  f8 := ⟨Tryz.f43.name, by decide, Tryz.func43.trans (congrArg some (by kernel_rfl))⟩
  f11 := ⟨Tryz.f59.name, by decide, Tryz.func59.trans (congrArg some (by kernel_rfl))⟩
  t0 := Tryz.underlying0
  a0 := Tryz.isAgg0
  z0 := Tryz.sizeOf0
  v0 := Tryz.zeroValue0
  t24 := Tryz.underlying25
  a24 := Tryz.isAgg25
  z24 := Tryz.sizeOf25
  v24 := Tryz.zeroValue25
  t26 := Tryz.underlying3
  a26 := Tryz.isAgg3
  z26 := Tryz.sizeOf3
  v26 := Tryz.zeroValue3
  t28 := Tryz.underlying61
  a28 := Tryz.isAgg61
  z28 := Tryz.sizeOf61
  v28 := Tryz.zeroValue61
  i26 := by kernel_rfl }
def sortA_ren : Go.Shelf.Ren := ⟨fun | 5 => 44 | 8 => 61 | 7 => 60 | 19 => 82 | 20 => 83 | 10 => 73 | 11 => 74 | 12 => 75 | 13 => 76 | 14 => 77 | 15 => 78 | 16 => 79 | 17 => 80 | 18 => 81 | 30 => 101 | 31 => 102 | 32 => 103 | 33 => 104 | 34 => 105 | 35 => 106 | 40 => 115 | n => n, fun | 23 => 25 | 25 => 3 | 3 => 3 | 32 => 105 | 22 => 25 | 0 => 0 | 44 => 124 | 46 => 126 | 4 => 4 | 36 => 117 | 35 => 116 | 41 => 90 | 5 => 5 | 9 => 9 | 53 => 134 | 57 => 138 | 63 => 144 | 64 => 76 | n => n, fun | n => n⟩
theorem sortA : Go.Proofs.SlLaysM.n5 Tryz.prog sortA_ren := {
  mixed := by kernel_rfl
  f5 := ⟨Tryz.f44.name, by decide, Tryz.func44.trans (congrArg some (by kernel_rfl))⟩
  f7 := ⟨Tryz.f60.name, by decide, Tryz.func60.trans (congrArg some (by kernel_rfl))⟩
  f8 := Tryz.func61.trans (congrArg some (by kernel_rfl))
  f10 := ⟨Tryz.f73.name, by decide, Tryz.func73.trans (congrArg some (by kernel_rfl))⟩
  f11 := ⟨Tryz.f74.name, by decide, Tryz.func74.trans (congrArg some (by kernel_rfl))⟩
  f12 := ⟨Tryz.f75.name, by decide, Tryz.func75.trans (congrArg some (by kernel_rfl))⟩
  f13 := ⟨Tryz.f76.name, by decide, Tryz.func76.trans (congrArg some (by kernel_rfl))⟩
  f14 := ⟨Tryz.f77.name, by decide, Tryz.func77.trans (congrArg some (by kernel_rfl))⟩
  f15 := ⟨Tryz.f78.name, by decide, Tryz.func78.trans (congrArg some (by kernel_rfl))⟩
  f16 := ⟨Tryz.f79.name, by decide, Tryz.func79.trans (congrArg some (by kernel_rfl))⟩
  f17 := ⟨Tryz.f80.name, by decide, Tryz.func80.trans (congrArg some (by kernel_rfl))⟩
  f18 := ⟨Tryz.f81.name, by decide, Tryz.func81.trans (congrArg some (by kernel_rfl))⟩
  f19 := Tryz.func82.trans (congrArg some (by kernel_rfl))
  f20 := Tryz.func83.trans (congrArg some (by kernel_rfl))
  f30 := ⟨Tryz.f101.name, by decide, Tryz.func101.trans (congrArg some (by kernel_rfl))⟩
  f31 := Tryz.func102.trans (congrArg some (by kernel_rfl))
  f32 := Tryz.func103.trans (congrArg some (by kernel_rfl))
  f33 := ⟨Tryz.f104.name, by decide, Tryz.func104.trans (congrArg some (by kernel_rfl))⟩
  f34 := ⟨Tryz.f105.name, by decide, Tryz.func105.trans (congrArg some (by kernel_rfl))⟩
  f35 := ⟨Tryz.f106.name, by decide, Tryz.func106.trans (congrArg some (by kernel_rfl))⟩
  f40 := ⟨Tryz.f115.name, by decide, Tryz.func115.trans (congrArg some (by kernel_rfl))⟩
  t0 := Tryz.underlying0
  a0 := Tryz.isAgg0
  z0 := Tryz.sizeOf0
  v0 := Tryz.zeroValue0
  t3 := Tryz.underlying3
  a3 := Tryz.isAgg3
  z3 := Tryz.sizeOf3
  v3 := Tryz.zeroValue3
  t4 := Tryz.underlying4
  a4 := Tryz.isAgg4
  z4 := Tryz.sizeOf4
  v4 := Tryz.zeroValue4
  t5 := Tryz.underlying5
  a5 := Tryz.isAgg5
  z5 := Tryz.sizeOf5
  v5 := Tryz.zeroValue5
  t9 := Tryz.underlying9
  a9 := Tryz.isAgg9
  z9 := Tryz.sizeOf9
  v9 := Tryz.zeroValue9
  t22 := Tryz.underlying25
  a22 := Tryz.isAgg25
  z22 := Tryz.sizeOf25
  v22 := Tryz.zeroValue25
  t23 := Tryz.underlying25
  a23 := Tryz.isAgg25
  z23 := Tryz.sizeOf25
  v23 := Tryz.zeroValue25
  t25 := Tryz.underlying3
  a25 := Tryz.isAgg3
  z25 := Tryz.sizeOf3
  v25 := Tryz.zeroValue3
  t32 := Tryz.underlying105
  a32 := Tryz.isAgg105
  z32 := Tryz.sizeOf105
  v32 := Tryz.zeroValue105
  t35 := Tryz.underlying116
  a35 := Tryz.isAgg116
  z35 := Tryz.sizeOf116
  v35 := Tryz.zeroValue116
  t36 := Tryz.underlying117
  a36 := Tryz.isAgg117
  z36 := Tryz.sizeOf117
  v36 := Tryz.zeroValue117
  t41 := Tryz.underlying90
  a41 := Tryz.isAgg90
  z41 := Tryz.sizeOf90
  v41 := Tryz.zeroValue90
  t44 := Tryz.underlying124
  a44 := Tryz.isAgg124
  z44 := Tryz.sizeOf124
  v44 := Tryz.zeroValue124
  t46 := Tryz.underlying126
  a46 := Tryz.isAgg126
  z46 := Tryz.sizeOf126
  v46 := Tryz.zeroValue126
  t53 := Tryz.underlying134
  a53 := Tryz.isAgg134
  z53 := Tryz.sizeOf134
  v53 := Tryz.zeroValue134
  t57 := Tryz.underlying138
  a57 := Tryz.isAgg138
  z57 := Tryz.sizeOf138
  v57 := Tryz.zeroValue138
  t63 := Tryz.underlying144
  a63 := Tryz.isAgg144
  z63 := Tryz.sizeOf144
  v63 := Tryz.zeroValue144
  t64 := Tryz.underlying76
  a64 := Tryz.isAgg76
  z64 := Tryz.sizeOf76
  v64 := Tryz.zeroValue76 }

end Go.Proofs.YtbnkekeeceicaaaGreat
