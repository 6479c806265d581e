/- Texts of ours, one behind the other: B1 B2 B3 W2 C1 C2 D1 R1 R2 R3. -/
import Derived.Test.YtillljojdnofgaaZA1
import Derived.Test.YtillljojdnofgaaZM3
import Derived.Test.YtillljojdnofgaaProg
import Derived.OwnWalk
import Derived.RegionTactic
import Derived.BigRegion
/- A field's object (New), and its plain calls. -/
namespace Go.Proofs.Ytillljojdnofgaa
open Go.RowKit

/-! ### Plain calls -/
theorem ret_bool {a b : Bool} (h : a = b) : Ending.returned (.bool a) = .returned (.bool b) := by rw [h]

/-- Is a number an element? -/
def FD.has (D : FD) (a : Int) : Bool := decide (0 ≤ a ∧ a < D.q)
end Go.Proofs.Ytillljojdnofgaa

/- A field's calls: sums, products, powers, logarithms. -/
namespace Go.Proofs.Ytillljojdnofgaa
open Go.RowKit

def FD.addZ (D : FD) (a b : Int) : Int := if D.has a = true ∧ D.has b = true then (sumD D.p D.q a.toNat b.toNat : Nat) else -1
def FD.negZ (D : FD) (a : Int) : Int := if D.has a = true then (negD D.p D.q a.toNat : Nat) else -1
def FD.mulZ (D : FD) (a b : Int) : Int := if D.has a = true ∧ D.has b = true then (D.mul a.toNat b.toNat : Nat) else -1
theorem nat_has {D : FD} {n : Nat} (h : n < D.q) : D.has (n : Int) = true := by
  simp only [FD.has, decide_eq_true_eq]; omega

def FD.subZ (D : FD) (a b : Int) : Int := D.addZ a (D.negZ b)
end Go.Proofs.Ytillljojdnofgaa

/- A field's calls, gone on: products, powers, what undoes a product. -/
namespace Go.Proofs.Ytillljojdnofgaa
open Go.RowKit

end Go.Proofs.Ytillljojdnofgaa

/- Lists of numbers that a call makes for itself: one number more. -/
namespace Go.Proofs.Ytillljojdnofgaa
open Go.RowKit

theorem Try.infoInt : (Try.prog.info? 3).map (fun i => (i.zero, i.size, i.bytes)) = some (some (.int .i64 0), 1, 8) := by kernel_rfl

/-- The slice v, made behind block number base, holds the numbers l. -/
def OwnI (base : Nat) (v : Value) (l : List Int) (w : World) : Prop := w.ownsRow base 3 1 v l.length (l.map (Value.int .i64))

theorem OwnI.nil (base : Nat) (w : World) : OwnI base (.slice none 0 0) [] w := World.ownsRow_nil _ _ _ _
theorem OwnI.alloc {base : Nat} {v : Value} {l : List Int} {w : World} (h : OwnI base v l w) (o : Obj) : OwnI base v l (w.alloc o) := World.ownsRow.alloc h o
theorem OwnI.kept {base : Nat} {v : Value} {l : List Int} {w w' : World} {row : Option Nat} (h : OwnI base v l w) (hg : w.grownBy w' row) (hne : v.ownBlock = none ∨ v.ownBlock ≠ row) : OwnI base v l w' := World.ownsRow.kept h hg hne
theorem OwnI.drewN {base : Nat} {v : Value} {l : List Int} {w : World} (h : OwnI base v l w) (n : Nat) : OwnI base v l (w.drewN n) :=
  h.kept (row := none) (grown_drewN (grown_refl _ _) n) (by cases v.ownBlock <;> simp)
/-- Old memory of the call's own: what is behind a later block number stays. -/
theorem OwnI.below {base B : Nat} {v : Value} {l : List Int} {w w' : World} (h : OwnI base v l w) (hb : Below B w w') (hB : ∀ k, v.ownBlock = some k → k < B) : OwnI base v l w' := by
  obtain ⟨h1, h2⟩ := h
  refine ⟨h1, ?_⟩
  rcases h2 with h2 | ⟨g, cap, cur, hv, hg, hh, r⟩
  · exact Or.inl h2
  · exact Or.inr ⟨g, cap, cur, hv, hg, by rw [hb.block g (hB g (by rw [hv]; rfl))]; exact hh, r⟩
theorem OwnI.lt {base : Nat} {v : Value} {l : List Int} {w : World} (h : OwnI base v l w) : ∀ k, v.ownBlock = some k → base ≤ k ∧ k < w.heap.size := World.ownsRow.lt h
theorem OwnI.mono {base base' : Nat} {v : Value} {l : List Int} {w : World} (h : OwnI base v l w) (hb : base' ≤ base) : OwnI base' v l w := by
  obtain ⟨h1, h2⟩ := h
  refine ⟨h1, ?_⟩
  rcases h2 with h2 | ⟨g, cap, cur, hv, hg, r⟩
  · exact Or.inl h2
  · exact Or.inr ⟨g, cap, cur, hv, by omega, r⟩

/-- A list that has numbers: where they lie. -/
theorem OwnI.at {base : Nat} {v : Value} {l : List Int} {w : World} (h : OwnI base v l w) (hl : l ≠ []) : ∃ g cap, v = .slice (some ⟨g, 0, none⟩) l.length cap ∧ base ≤ g ∧ g < w.heap.size ∧
    (∀ j, j < l.length → w.cell? ⟨g, j, none⟩ = some (.int .i64 (l.getD j 0))) ∧ (∀ j, w.frozen? ⟨g, j, none⟩ = false) := by
  have h' := h
  rcases h'.2 with ⟨_, h2⟩ | ⟨g, cap, cur, hv, hg, hh, r⟩
  · exact absurd (List.length_eq_zero_iff.1 h2) hl
  · have h3 : w.ownsRow base 3 1 (.slice (some ⟨g, 0, none⟩) l.length cap) l.length (l.map (Value.int .i64)) := hv ▸ h
    refine ⟨g, cap, hv, hg, lt_of_block hh, fun j hj => ?_, fun j => h3.frozenAt j⟩
    rw [h3.cellAt j (by omega), List.getElem?_map, List.getElem?_eq_getElem hj, List.getD_eq_getElem?_getD, List.getElem?_eq_getElem hj]; rfl

/-- 'l = append(l, y)', l the call's own. -/
theorem append_int {ops : Array Oper} {rest : List Oper} {o : Oper} {a : Act} {w : World} {Q : Exit → Act → World → Prop} (hgd : o.guard = none) (s x : Operand)
    (ho : o.op = .call { callee := .builtin .append, args := #[s, x], argTypes := #[22, 22] })
    (base : Nat) (v : Value) (l : List Int) (hs : a.eval s = v) (hown : OwnI base v l w) (ad : Addr) (c : Nat) (y : Int) (hx : a.eval x = .slice (some ad) 1 c) (hcell : w.cell? ad = some (.int .i64 y))
    (hlen : l.length ≤ 1000000) (hbase : base ≤ w.heap.size)
    (h : ∀ v' w', OwnI base v' (l ++ [y]) w' → w.grownBy w' v.ownBlock → wpList Try.prog ops Q rest (a.put o.dst v') w') : wpList Try.prog ops Q (o :: rest) a w := by
  obtain ⟨i0, hi, hz0, hz1, hz2⟩ := info_parts Try.infoInt
  refine wpList_append_own _ hgd s x 22 ho base 3 i0 (.int .i64 0) 1 8 Try.underlying22 hi hz0 hz1 hz2 rfl (by decide) v l.length _ hs hown ad 1 c [.int .i64 y] hx rfl ?_ ?_ ?_ ?_ hbase ?_
  · intro j u hj
    match j, hj with
    | 0, hj =>
      simp at hj; subst hj
      have : ad.add 0 = ad := by cases ad with | mk b o s => cases s <;> simp [Addr.add]
      rw [this]; exact hcell
  · intro u hu; simp at hu; subst hu; rfl
  · unfold maxLen; omega
  · omega
  · intro v' w' hown' hgrow _
    refine h v' w' ?_ hgrow
    unfold OwnI
    rw [List.map_append, List.length_append]
    exact hown'
end Go.Proofs.Ytillljojdnofgaa

/- The sizes of fields, as the reference lists them (Sizes, SizeOf). -/
namespace Go.Proofs.Ytillljojdnofgaa
open Go.RowKit

end Go.Proofs.Ytillljojdnofgaa

/- A field of raw size, as the statements make it (fieldOf). -/
namespace Go.Proofs.Ytillljojdnofgaa
open Go.RowKit

end Go.Proofs.Ytillljojdnofgaa

/- What is to be true of a field, in the words of its calls. -/
namespace Go.Proofs.Ytillljojdnofgaa
open Go.RowKit

theorem addZ_nat {D : FD} (_F : Fld D) {x y : Nat} (hx : x < D.q) (hy : y < D.q) : D.addZ x y = (sumD D.p D.q x y : Nat) := by
  rw [FD.addZ, if_pos ⟨nat_has hx, nat_has hy⟩]; rfl
theorem mulZ_nat {D : FD} (_F : Fld D) {x y : Nat} (hx : x < D.q) (hy : y < D.q) : D.mulZ x y = (D.mul x y : Nat) := by
  rw [FD.mulZ, if_pos ⟨nat_has hx, nat_has hy⟩]; rfl
theorem negZ_nat {D : FD} (_F : Fld D) {x : Nat} (hx : x < D.q) : D.negZ x = (negD D.p D.q x : Nat) := by
  rw [FD.negZ, if_pos (nat_has hx)]; rfl
theorem ne_false {a b : Int} (h : a = b) : (a != b) = false := by rw [h]; simp

theorem t9 {D : FD} (hD : D ∈ fieldsL) {x y : Nat} (hx : x < D.q) (hy : y < D.q) : (D.subZ (D.addZ x y) y != (x : Int)) = false := by
  have F := fld hD
  refine ne_false ?_
  rw [FD.subZ, addZ_nat F hx hy, negZ_nat F hy, addZ_nat F (F.sum_lt x y hx hy) (F.neg_lt y hy), F.add_assoc x y _ hx hy (F.neg_lt y hy), F.sum_neg y hy, F.sum_zero x hx]
theorem t3 {D : FD} (hD : D ∈ fieldsL) {x y z : Nat} (hx : x < D.q) (hy : y < D.q) (hz : z < D.q) : (D.addZ (D.addZ x y) z != D.addZ x (D.addZ y z)) = false := by
  have F := fld hD
  refine ne_false ?_
  rw [addZ_nat F hx hy, addZ_nat F hy hz, addZ_nat F (F.sum_lt x y hx hy) hz, addZ_nat F hx (F.sum_lt y z hy hz), F.add_assoc x y z hx hy hz]
theorem t4 {D : FD} (hD : D ∈ fieldsL) {x y z : Nat} (hx : x < D.q) (hy : y < D.q) (hz : z < D.q) : (D.mulZ (D.mulZ x y) z != D.mulZ x (D.mulZ y z)) = false := by
  have F := fld hD
  refine ne_false ?_
  rw [mulZ_nat F hx hy, mulZ_nat F hy hz, mulZ_nat F (F.mul_lt x y) hz, mulZ_nat F hx (F.mul_lt y z), F.mul_assoc]
theorem t5 {D : FD} (hD : D ∈ fieldsL) {x y z : Nat} (hx : x < D.q) (hy : y < D.q) (hz : z < D.q) : (D.mulZ x (D.addZ y z) != D.addZ (D.mulZ x y) (D.mulZ x z)) = false := by
  have F := fld hD
  refine ne_false ?_
  rw [addZ_nat F hy hz, mulZ_nat F hx (F.sum_lt y z hy hz), mulZ_nat F hx hy, mulZ_nat F hx hz, addZ_nat F (F.mul_lt x y) (F.mul_lt x z), F.distrib x y z hy hz]

end Go.Proofs.Ytillljojdnofgaa

/- The reference: digits of a number, and the number of digits. -/
namespace Go.Proofs.Ytillljojdnofgaa
open Go.RowKit

end Go.Proofs.Ytillljojdnofgaa

/- The reference: sums and opposites, as it reckons them. -/
namespace Go.Proofs.Ytillljojdnofgaa
open Go.RowKit

/-- Old cells behind a call that only makes memory. -/
theorem bcell {B : Nat} {W w1 : World} (hb : Below B W w1) : (∀ b o, b < B → w1.cell? ⟨b, o, none⟩ = W.cell? ⟨b, o, none⟩) ∧ (∀ b o, b < B → w1.frozen? ⟨b, o, none⟩ = W.frozen? ⟨b, o, none⟩) :=
  ⟨fun b o h => hb.cell (p := ⟨b, o, none⟩) h, fun b o h => hb.frozen (p := ⟨b, o, none⟩) h⟩

end Go.Proofs.Ytillljojdnofgaa

/- The reference: sums and opposites by digits. -/
namespace Go.Proofs.Ytillljojdnofgaa
open Go.RowKit

/-- A list of the call's own that has numbers: its block, cell by cell. -/
theorem OwnI.row {base : Nat} {v : Value} {l : List Int} {w : World} (h : OwnI base v l w) (n : Nat) (hn : l.length = n) (h0 : 0 < n) : ∃ g cap f, v = .slice (some ⟨g, 0, none⟩) n cap ∧ base ≤ g ∧ g < w.heap.size ∧ n ≤ cap ∧ cap ≤ maxLen ∧
    RowF g cap 3 f w ∧ (∀ j, j < n → f j = .int .i64 (l.getD j 0)) := by
  have h' := h
  rcases h'.2 with ⟨_, h2⟩ | ⟨g, cap, cur, hv, hg, hh, hle, hcm, hsz, htake⟩
  · omega
  · refine ⟨g, cap, fun o => (cur[o]?).getD (.int .i64 0), by rw [hv, hn], hg, lt_of_block hh, by omega, hcm, ⟨cur, hh, by omega, fun o ho => ?_⟩, fun j hj => ?_⟩
    · show _ = some (Option.getD _ _)
      rw [Array.getElem?_eq_getElem (by omega)]; rfl
    · have hj' : j < l.length := by omega
      have h3 : (cur.toList.take (l.length * 1))[j]? = (l.map (Value.int .i64))[j]? := by rw [htake]
      rw [List.getElem?_take, if_pos (by omega), List.getElem?_map, List.getElem?_eq_getElem hj'] at h3
      show (cur[j]?).getD _ = _
      rw [← Array.getElem?_toList, h3, List.getD_eq_getElem?_getD, List.getElem?_eq_getElem hj']; rfl

end Go.Proofs.Ytillljojdnofgaa
