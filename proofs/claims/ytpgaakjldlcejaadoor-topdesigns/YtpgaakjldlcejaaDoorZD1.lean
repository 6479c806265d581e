/- Texts of ours, one behind the other: D1 R1 R2 R3 W3. -/
import Derived.Test.YtpgaakjldlcejaaDoorZB2
import Derived.Test.YtpgaakjldlcejaaDoorZA1
import Derived.RegionTactic
import Derived.BigRegion
import Derived.Laws.MakeOwn
/- What is to be true of a field, in the words of its calls. -/
namespace Go.Proofs.YtpgaakjldlcejaaDoor
open Go.RowKit

theorem addZ_nat {D : FD} (_F : Fld D) {x y : Nat} (hx : x < D.q) (hy : y < D.q) : D.addZ x y = (sumD D.p D.q x y : Nat) := by
  rw [FD.addZ, if_pos ⟨nat_has hx, nat_has hy⟩]; rfl
theorem mulZ_nat {D : FD} (_F : Fld D) {x y : Nat} (hx : x < D.q) (hy : y < D.q) : D.mulZ x y = (D.mul x y : Nat) := by
  rw [FD.mulZ, if_pos ⟨nat_has hx, nat_has hy⟩]; rfl
theorem negZ_nat {D : FD} (_F : Fld D) {x : Nat} (hx : x < D.q) : D.negZ x = (negD D.p D.q x : Nat) := by
  rw [FD.negZ, if_pos (nat_has hx)]; rfl
theorem ne_false {a b : Int} (h : a = b) : (a != b) = false := by rw [h]; simp

theorem t9 {D : FD} (hD : D ∈ fieldsL) {x y : Nat} (hx : x < D.q) (hy : y < D.q) : (D.subZ (D.addZ x y) y != (x : Int)) = false := by
  have F := fld hD
  refine ne_false ?_
  rw [FD.subZ, addZ_nat F hx hy, negZ_nat F hy, addZ_nat F (F.sum_lt x y hx hy) (F.neg_lt y hy), F.add_assoc x y _ hx hy (F.neg_lt y hy), F.sum_neg y hy, F.sum_zero x hx]
theorem t3 {D : FD} (hD : D ∈ fieldsL) {x y z : Nat} (hx : x < D.q) (hy : y < D.q) (hz : z < D.q) : (D.addZ (D.addZ x y) z != D.addZ x (D.addZ y z)) = false := by
  have F := fld hD
  refine ne_false ?_
  rw [addZ_nat F hx hy, addZ_nat F hy hz, addZ_nat F (F.sum_lt x y hx hy) hz, addZ_nat F hx (F.sum_lt y z hy hz), F.add_assoc x y z hx hy hz]
theorem t4 {D : FD} (hD : D ∈ fieldsL) {x y z : Nat} (hx : x < D.q) (hy : y < D.q) (hz : z < D.q) : (D.mulZ (D.mulZ x y) z != D.mulZ x (D.mulZ y z)) = false := by
  have F := fld hD
  refine ne_false ?_
  rw [mulZ_nat F hx hy, mulZ_nat F hy hz, mulZ_nat F (F.mul_lt x y) hz, mulZ_nat F hx (F.mul_lt y z), F.mul_assoc]
theorem t5 {D : FD} (hD : D ∈ fieldsL) {x y z : Nat} (hx : x < D.q) (hy : y < D.q) (hz : z < D.q) : (D.mulZ x (D.addZ y z) != D.addZ (D.mulZ x y) (D.mulZ x z)) = false := by
  have F := fld hD
  refine ne_false ?_
  rw [addZ_nat F hy hz, mulZ_nat F hx (F.sum_lt y z hy hz), mulZ_nat F hx hy, mulZ_nat F hx hz, addZ_nat F (F.mul_lt x y) (F.mul_lt x z), F.distrib x y z hy hz]

theorem inv_nat {D : FD} (hD : D ∈ fieldsL) {x : Nat} (hx : x < D.q) (h0 : x ≠ 0) : D.powZ x (-1) = (D.pw x (D.q - 2) : Nat) := by
  have F := fld hD
  have h2 := F.q2
  rw [FD.powZ, if_neg (by simp [nat_has hx]), if_neg (by omega), if_neg (by omega)]
  have : ((-1 : Int) % ((D.q - 1 : Nat) : Int)).toNat = (D.q - 2) := by
    have e : (-1 : Int) = ((D.q - 2 : Nat) : Int) + (-1) * ((D.q - 1 : Nat) : Int) := by omega
    rw [e, Int.add_mul_emod_self_right, ← Int.natCast_emod, Int.toNat_natCast]
    exact Nat.mod_eq_of_lt (by omega)
  rw [this]; rfl
theorem pw_lt {D : FD} (hD : D ∈ fieldsL) (x : Nat) (k : Nat) : D.pw x k < D.q := by
  have F := fld hD
  exact F.pow_lt _ (Nat.mod_lt _ (by have := F.q2; omega))
theorem pw_ne {D : FD} (hD : D ∈ fieldsL) (x : Nat) (k : Nat) : D.pw x k ≠ 0 ∧ D.lg (D.pw x k) = D.lg x * k % (D.q - 1) := by
  have F := fld hD
  have hn : D.lg x * k % (D.q - 1) < D.q - 1 := Nat.mod_lt _ (by have := F.q2; omega)
  exact ⟨(F.full _ hn).1, F.lg_pow _ hn⟩
theorem t11 {D : FD} (hD : D ∈ fieldsL) {x : Nat} (hx : x < D.q) (h0 : x ≠ 0) : D.mulZ x (D.powZ x (-1)) = 1 := by
  have F := fld hD
  have h2 := F.q2
  have hp := pw_ne hD x (D.q - 2)
  rw [inv_nat hD hx h0, mulZ_nat F hx (pw_lt hD _ _), FD.mul, if_neg (by omega), hp.2, Nat.add_mod_mod, show D.lg x + D.lg x * (D.q - 2) = D.lg x * (D.q - 1) from by
    rw [show D.q - 1 = (D.q - 2) + 1 from by omega, Nat.mul_add, Nat.mul_one]; omega, Nat.mul_mod_left]
  rfl
end Go.Proofs.YtpgaakjldlcejaaDoor

/- The reference: digits of a number, and the number of digits. -/
namespace Go.Proofs.YtpgaakjldlcejaaDoor
open Go.RowKit

end Go.Proofs.YtpgaakjldlcejaaDoor

/- The reference: sums and opposites, as it reckons them. -/
namespace Go.Proofs.YtpgaakjldlcejaaDoor
open Go.RowKit

/-- Old cells behind a call that only makes memory. -/
theorem bcell {B : Nat} {W w1 : World} (hb : Below B W w1) : (∀ b o, b < B → w1.cell? ⟨b, o, none⟩ = W.cell? ⟨b, o, none⟩) ∧ (∀ b o, b < B → w1.frozen? ⟨b, o, none⟩ = W.frozen? ⟨b, o, none⟩) :=
  ⟨fun b o h => hb.cell (p := ⟨b, o, none⟩) h, fun b o h => hb.frozen (p := ⟨b, o, none⟩) h⟩

end Go.Proofs.YtpgaakjldlcejaaDoor

/- The reference: sums and opposites by digits. -/
namespace Go.Proofs.YtpgaakjldlcejaaDoor
open Go.RowKit

/-- A list of the call's own that has numbers: its block, cell by cell. -/
theorem OwnI.row {base : Nat} {v : Value} {l : List Int} {w : World} (h : OwnI base v l w) (n : Nat) (hn : l.length = n) (h0 : 0 < n) : ∃ g cap f, v = .slice (some ⟨g, 0, none⟩) n cap ∧ base ≤ g ∧ g < w.heap.size ∧ n ≤ cap ∧ cap ≤ maxLen ∧
    RowF g cap 3 f w ∧ (∀ j, j < n → f j = .int .i64 (l.getD j 0)) := by
  have h' := h
  rcases h'.2 with ⟨_, h2⟩ | ⟨g, cap, cur, hv, hg, hh, hle, hcm, hsz, htake⟩
  · omega
  · refine ⟨g, cap, fun o => (cur[o]?).getD (.int .i64 0), by rw [hv, hn], hg, lt_of_block hh, by omega, hcm, ⟨cur, hh, by omega, fun o ho => ?_⟩, fun j hj => ?_⟩
    · show _ = some (Option.getD _ _)
      rw [Array.getElem?_eq_getElem (by omega)]; rfl
    · have hj' : j < l.length := by omega
      have h3 : (cur.toList.take (l.length * 1))[j]? = (l.map (Value.int .i64))[j]? := by rw [htake]
      rw [List.getElem?_take, if_pos (by omega), List.getElem?_map, List.getElem?_eq_getElem hj'] at h3
      show (cur[j]?).getD _ = _
      rw [← Array.getElem?_toList, h3, List.getD_eq_getElem?_getD, List.getElem?_eq_getElem hj']; rfl

end Go.Proofs.YtpgaakjldlcejaaDoor

/- Lists of numbers that a call makes for itself: so many noughts (make). -/
namespace Go.Proofs.YtpgaakjldlcejaaDoor
open Go.RowKit

theorem list_getD_replicate (n j : Nat) : (List.replicate n (0 : Int)).getD j 0 = 0 := by
  rw [List.getD_eq_getElem?_getD, List.getElem?_replicate]; split <;> rfl

/-- 'make([]int, n)'. -/
theorem make_int {ops : Array Oper} {rest : List Oper} {o : Oper} {a : Act} {w : World} {Q : Exit → Act → World → Prop}
    (hg : o.guard = none) (l c : Operand) (hop : o.op = Op.makeSlice 32 l c) (C : Int) (n : Nat) (hl : a.eval l = .int .i64 C) (hc : a.eval c = .int .i64 C) (hC : C = (n : Int)) (hn : n ≤ 1000000)
    (hK : ∀ w', OwnI w.heap.size (.slice (some ⟨w.heap.size, 0, none⟩) n n) (List.replicate n 0) w' → w.grownBy w' none → wpList Tryd.prog ops Q rest (a.put o.dst (.slice (some ⟨w.heap.size, 0, none⟩) n n)) w') :
    wpList Tryd.prog ops Q (o :: rest) a w := by
  obtain ⟨i0, hi, hz0, hz1, hz2⟩ := info_parts Tryd.infoInt
  refine wpList_make_full w hg l c 32 hop w.heap.size 3 i0 (.int .i64 0) 1 Tryd.underlying32 hi hz0 hz1 .i64 .i64 C C n hl hc hC hC (by rw [hz2]; omega) (by unfold maxLen; omega) (Nat.le_refl _) ?_
  intro w' hown hgrow
  refine hK w' ?_ hgrow
  unfold OwnI
  rw [List.length_replicate, List.map_replicate]
  have e : (madeCells (Value.int .i64 0).cells (n * 1)).toList = List.replicate n (.int .i64 0) := by
    rw [Nat.mul_one]; exact toList_madeCells_one _ _
  rw [e] at hown
  exact hown
end Go.Proofs.YtpgaakjldlcejaaDoor
