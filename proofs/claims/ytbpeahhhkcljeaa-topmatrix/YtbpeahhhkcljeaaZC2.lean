/- Texts of ours, one behind the other: C2 D1 R1 R2 R3 W3. -/
import Derived.Test.YtbpeahhhkcljeaaZB3
import Derived.Test.YtbpeahhhkcljeaaZW2
import Derived.Test.YtbpeahhhkcljeaaZA1
import Derived.Test.YtbpeahhhkcljeaaZA2
import Derived.Test.YtbpeahhhkcljeaaZB2
import Derived.RegionTactic
import Derived.BigRegion
import Derived.Laws.MakeOwn
/- A field of raw size, as the statements make it (fieldOf). -/
namespace Go.Proofs.Ytbpeahhhkcljeaa
open Go.RowKit

theorem sizes_fields : sizesL.all (fun z => fieldsL.any fun D => (D.q : Int) == z) = true := by decide +kernel
theorem sizesL_mem (k : Nat) (h : k < 27) : sizesL.getD k 0 ∈ sizesL := by
  rw [List.getD_eq_getElem?_getD, List.getElem?_eq_getElem (show k < sizesL.length from h)]
  exact List.getElem_mem _
theorem sizeOf_mem (c : Int) : sizeOf' c ∈ sizesL := by
  unfold sizeOf'
  have h3 := pick_lo (c.tdiv 100) 27 (by omega)
  have h4 := pick_hi (c.tdiv 100) 27 (by omega)
  split
  · exact sizesL_mem _ (by omega)
  · exact sizesL_mem _ (by omega)
theorem sizeOf_field (c : Int) : ∃ D ∈ fieldsL, sizeOf' c = (D.q : Int) := by
  have := List.all_eq_true.1 sizes_fields _ (sizeOf_mem c)
  obtain ⟨D, hD, e⟩ := List.any_eq_true.1 this
  exact ⟨D, hD, (beq_iff_eq.1 e).symm⟩

theorem FAt.ltT {F T : Nat} {D : FD} {g : Nat → Value} {w : World} (h : FAt F T D g w) : T < w.heap.size := h.row.lt

end Go.Proofs.Ytbpeahhhkcljeaa

/- What is to be true of a field, in the words of its calls. -/
namespace Go.Proofs.Ytbpeahhhkcljeaa
open Go.RowKit

theorem addZ_nat {D : FD} (_F : Fld D) {x y : Nat} (hx : x < D.q) (hy : y < D.q) : D.addZ x y = (sumD D.p D.q x y : Nat) := by
  rw [FD.addZ, if_pos ⟨nat_has hx, nat_has hy⟩]; rfl
theorem mulZ_nat {D : FD} (_F : Fld D) {x y : Nat} (hx : x < D.q) (hy : y < D.q) : D.mulZ x y = (D.mul x y : Nat) := by
  rw [FD.mulZ, if_pos ⟨nat_has hx, nat_has hy⟩]; rfl
theorem inv_nat {D : FD} (hD : D ∈ fieldsL) {x : Nat} (hx : x < D.q) (h0 : x ≠ 0) : D.powZ x (-1) = (D.pw x (D.q - 2) : Nat) := by
  have F := fld hD
  have h2 := F.q2
  rw [FD.powZ, if_neg (by simp [nat_has hx]), if_neg (by omega), if_neg (by omega)]
  have : ((-1 : Int) % ((D.q - 1 : Nat) : Int)).toNat = (D.q - 2) := by
    have e : (-1 : Int) = ((D.q - 2 : Nat) : Int) + (-1) * ((D.q - 1 : Nat) : Int) := by omega
    rw [e, Int.add_mul_emod_self_right, ← Int.natCast_emod, Int.toNat_natCast]
    exact Nat.mod_eq_of_lt (by omega)
  rw [this]; rfl
theorem pw_lt {D : FD} (hD : D ∈ fieldsL) (x : Nat) (k : Nat) : D.pw x k < D.q := by
  have F := fld hD
  exact F.pow_lt _ (Nat.mod_lt _ (by have := F.q2; omega))
theorem pw_ne {D : FD} (hD : D ∈ fieldsL) (x : Nat) (k : Nat) : D.pw x k ≠ 0 ∧ D.lg (D.pw x k) = D.lg x * k % (D.q - 1) := by
  have F := fld hD
  have hn : D.lg x * k % (D.q - 1) < D.q - 1 := Nat.mod_lt _ (by have := F.q2; omega)
  exact ⟨(F.full _ hn).1, F.lg_pow _ hn⟩
theorem t11 {D : FD} (hD : D ∈ fieldsL) {x : Nat} (hx : x < D.q) (h0 : x ≠ 0) : D.mulZ x (D.powZ x (-1)) = 1 := by
  have F := fld hD
  have h2 := F.q2
  have hp := pw_ne hD x (D.q - 2)
  rw [inv_nat hD hx h0, mulZ_nat F hx (pw_lt hD _ _), FD.mul, if_neg (by omega), hp.2, Nat.add_mod_mod, show D.lg x + D.lg x * (D.q - 2) = D.lg x * (D.q - 1) from by
    rw [show D.q - 1 = (D.q - 2) + 1 from by omega, Nat.mul_add, Nat.mul_one]; omega, Nat.mul_mod_left]
  rfl
end Go.Proofs.Ytbpeahhhkcljeaa

/- The reference: digits of a number, and the number of digits. -/
namespace Go.Proofs.Ytbpeahhhkcljeaa
open Go.RowKit

end Go.Proofs.Ytbpeahhhkcljeaa

/- The reference: sums and opposites, as it reckons them. -/
namespace Go.Proofs.Ytbpeahhhkcljeaa
open Go.RowKit

/-- Old cells behind a call that only makes memory. -/
theorem bcell {B : Nat} {W w1 : World} (hb : Below B W w1) : (∀ b o, b < B → w1.cell? ⟨b, o, none⟩ = W.cell? ⟨b, o, none⟩) ∧ (∀ b o, b < B → w1.frozen? ⟨b, o, none⟩ = W.frozen? ⟨b, o, none⟩) :=
  ⟨fun b o h => hb.cell (p := ⟨b, o, none⟩) h, fun b o h => hb.frozen (p := ⟨b, o, none⟩) h⟩

end Go.Proofs.Ytbpeahhhkcljeaa

/- The reference: sums and opposites by digits. -/
namespace Go.Proofs.Ytbpeahhhkcljeaa
open Go.RowKit

/-- A list of the call's own that has numbers: its block, cell by cell. -/
theorem OwnI.row {base : Nat} {v : Value} {l : List Int} {w : World} (h : OwnI base v l w) (n : Nat) (hn : l.length = n) (h0 : 0 < n) : ∃ g cap f, v = .slice (some ⟨g, 0, none⟩) n cap ∧ base ≤ g ∧ g < w.heap.size ∧ n ≤ cap ∧ cap ≤ maxLen ∧
    RowF g cap 3 f w ∧ (∀ j, j < n → f j = .int .i64 (l.getD j 0)) := by
  have h' := h
  rcases h'.2 with ⟨_, h2⟩ | ⟨g, cap, cur, hv, hg, hh, hle, hcm, hsz, htake⟩
  · omega
  · refine ⟨g, cap, fun o => (cur[o]?).getD (.int .i64 0), by rw [hv, hn], hg, lt_of_block hh, by omega, hcm, ⟨cur, hh, by omega, fun o ho => ?_⟩, fun j hj => ?_⟩
    · show _ = some (Option.getD _ _)
      rw [Array.getElem?_eq_getElem (by omega)]; rfl
    · have hj' : j < l.length := by omega
      have h3 : (cur.toList.take (l.length * 1))[j]? = (l.map (Value.int .i64))[j]? := by rw [htake]
      rw [List.getElem?_take, if_pos (by omega), List.getElem?_map, List.getElem?_eq_getElem hj'] at h3
      show (cur[j]?).getD _ = _
      rw [← Array.getElem?_toList, h3, List.getD_eq_getElem?_getD, List.getElem?_eq_getElem hj']; rfl

end Go.Proofs.Ytbpeahhhkcljeaa

/- Lists of numbers that a call makes for itself: so many noughts (make). -/
namespace Go.Proofs.Ytbpeahhhkcljeaa
open Go.RowKit

theorem list_getD_replicate (n j : Nat) : (List.replicate n (0 : Int)).getD j 0 = 0 := by
  rw [List.getD_eq_getElem?_getD, List.getElem?_replicate]; split <;> rfl

/-- 'make([]int, n)'. -/
theorem make_int {ops : Array Oper} {rest : List Oper} {o : Oper} {a : Act} {w : World} {Q : Exit → Act → World → Prop}
    (hg : o.guard = none) (l c : Operand) (hop : o.op = Op.makeSlice 23 l c) (C : Int) (n : Nat) (hl : a.eval l = .int .i64 C) (hc : a.eval c = .int .i64 C) (hC : C = (n : Int)) (hn : n ≤ 1000000)
    (hK : ∀ w', OwnI w.heap.size (.slice (some ⟨w.heap.size, 0, none⟩) n n) (List.replicate n 0) w' → w.grownBy w' none → wpList Try.prog ops Q rest (a.put o.dst (.slice (some ⟨w.heap.size, 0, none⟩) n n)) w') :
    wpList Try.prog ops Q (o :: rest) a w := by
  obtain ⟨i0, hi, hz0, hz1, hz2⟩ := info_parts Try.infoInt
  refine wpList_make_full w hg l c 23 hop w.heap.size 3 i0 (.int .i64 0) 1 Try.underlying23 hi hz0 hz1 .i64 .i64 C C n hl hc hC hC (by rw [hz2]; omega) (by unfold maxLen; omega) (Nat.le_refl _) ?_
  intro w' hown hgrow
  refine hK w' ?_ hgrow
  unfold OwnI
  rw [List.length_replicate, List.map_replicate]
  have e : (madeCells (Value.int .i64 0).cells (n * 1)).toList = List.replicate n (.int .i64 0) := by
    rw [Nat.mul_one]; exact toList_madeCells_one _ _
  rw [e] at hown
  exact hown
end Go.Proofs.Ytbpeahhhkcljeaa
