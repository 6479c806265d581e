/- Texts of ours, one behind the other: C2 D1 R1 R2 R3 W3. -/
import Derived.Test.YtcgmllamiaflcaaZB3
import Derived.Test.YtcgmllamiaflcaaZC1
import Derived.Test.YtcgmllamiaflcaaZA1
import Derived.Test.YtcgmllamiaflcaaZW2
import Derived.Test.YtcgmllamiaflcaaZA2
import Derived.Test.YtcgmllamiaflcaaZB2
import Derived.RegionTactic
import Derived.BigRegion
import Derived.Laws.MakeOwn
/- A field of raw size, as the statements make it (fieldOf). -/
namespace Go.Proofs.Ytcgmllamiaflcaa
open Go.RowKit

theorem sizes_fields : sizesL.all (fun z => fieldsL.any fun D => (D.q : Int) == z) = true := by decide +kernel
theorem sizesL_mem (k : Nat) (h : k < 27) : sizesL.getD k 0 ∈ sizesL := by
  rw [List.getD_eq_getElem?_getD, List.getElem?_eq_getElem (show k < sizesL.length from h)]
  exact List.getElem_mem _
theorem sizeOf_mem (c : Int) : sizeOf' c ∈ sizesL := by
  unfold sizeOf'
  have h3 := pick_lo (c.tdiv 100) 27 (by omega)
  have h4 := pick_hi (c.tdiv 100) 27 (by omega)
  split
  · exact sizesL_mem _ (by omega)
  · exact sizesL_mem _ (by omega)
theorem sizeOf_field (c : Int) : ∃ D ∈ fieldsL, sizeOf' c = (D.q : Int) := by
  have := List.all_eq_true.1 sizes_fields _ (sizeOf_mem c)
  obtain ⟨D, hD, e⟩ := List.any_eq_true.1 this
  exact ⟨D, hD, (beq_iff_eq.1 e).symm⟩

theorem FAt.ltT {F T : Nat} {D : FD} {g : Nat → Value} {w : World} (h : FAt F T D g w) : T < w.heap.size := h.row.lt

set_option maxHeartbeats 2000000 in
theorem fieldOf_any (c : Int) (w : World) (hc1 : -9223372036854775808 ≤ c) (hc2 : c ≤ 9223372036854775807) :
    Calls Try.prog 17 #[.int .i64 c] w fun e w' => ∃ D F T g, D ∈ fieldsL ∧ sizeOf' c = (D.q : Int) ∧ e = .returned (.pointer (some ⟨F, 0, none⟩)) ∧ FAt F T D g w' ∧ w.heap.size ≤ F ∧ w.heap.size ≤ T ∧ Below w.heap.size w w' := by
  obtain ⟨D, hD, hs⟩ := sizeOf_field c
  have hq2 := (fld hD).q2
  have hq64 := (fld hD).q64
  have hp2 := (fld hD).p2
  have HS : Hid (∀ w1 : World, Calls Try.prog 7 #[.int .i64 c] w1 fun e w' => e = .returned (.int .i64 (D.q : Int)) ∧ Below w1.heap.size w1 w') := by
    intro w1; rw [← hs]; exact sizeOf_any c w1 hc1 hc2
  have HD : Hid (D ∈ fieldsL ∧ sizeOf' c = (D.q : Int)) := ⟨hD, hs⟩
  clear hD hs
  go_enter Try.func17, Try.ntmps17
  go_wp2_with fail
  refine (HS.out _).mono ?_
  rintro e w1 ⟨rfl, hb1⟩
  go_wp2_with fail
  refine (new_any HD.out.1 w1).mono ?_
  rintro e w2 ⟨F, T, g, rfl, hat, hF, hT, hb2⟩
  have HA : Hid (FAt F T D g w2) := hat
  have HB : Hid (Below w.heap.size w w2 ∧ w.heap.size ≤ F ∧ w.heap.size ≤ T ∧ w.heap.size ≤ w2.heap.size) := ⟨hb1.trans (hb2.mono hb1.size), Nat.le_trans hb1.size hF, Nat.le_trans hb1.size hT, Nat.le_trans hb1.size hb2.size⟩
  clear hat hF hT hb1 hb2
  go_wp2_with fail
  refine (size_any HA.out).mono ?_
  rintro e w' ⟨rfl, rfl⟩
  go_wp2_with fail
  refine (HS.out _).mono ?_
  rintro e w3 ⟨rfl, hb3⟩
  have HA3 : Hid (FAt F T D g w3) := HA.out.below hb3 HA.out.ltF HA.out.ltT
  have HB3 : Hid (Below w.heap.size w w3) := HB.out.1.trans (hb3.mono HB.out.2.2.2)
  clear hb3
  go_wp2_with fail
  refine (char_any HA3.out).mono ?_
  rintro e w' ⟨rfl, rfl⟩
  go_wp2
  go_ret
  exact ⟨D, F, T, g, HD.out.1, HD.out.2, rfl, HA3.out, HB.out.2.1, HB.out.2.2.1, HB3.out⟩
end Go.Proofs.Ytcgmllamiaflcaa

/- What is to be true of a field, in the words of its calls. -/
namespace Go.Proofs.Ytcgmllamiaflcaa
open Go.RowKit

theorem addZ_nat {D : FD} (_F : Fld D) {x y : Nat} (hx : x < D.q) (hy : y < D.q) : D.addZ x y = (sumD D.p D.q x y : Nat) := by
  rw [FD.addZ, if_pos ⟨nat_has hx, nat_has hy⟩]; rfl
theorem mulZ_nat {D : FD} (_F : Fld D) {x y : Nat} (hx : x < D.q) (hy : y < D.q) : D.mulZ x y = (D.mul x y : Nat) := by
  rw [FD.mulZ, if_pos ⟨nat_has hx, nat_has hy⟩]; rfl
theorem inv_nat {D : FD} (hD : D ∈ fieldsL) {x : Nat} (hx : x < D.q) (h0 : x ≠ 0) : D.powZ x (-1) = (D.pw x (D.q - 2) : Nat) := by
  have F := fld hD
  have h2 := F.q2
  rw [FD.powZ, if_neg (by simp [nat_has hx]), if_neg (by omega), if_neg (by omega)]
  have : ((-1 : Int) % ((D.q - 1 : Nat) : Int)).toNat = (D.q - 2) := by
    have e : (-1 : Int) = ((D.q - 2 : Nat) : Int) + (-1) * ((D.q - 1 : Nat) : Int) := by omega
    rw [e, Int.add_mul_emod_self_right, ← Int.natCast_emod, Int.toNat_natCast]
    exact Nat.mod_eq_of_lt (by omega)
  rw [this]; rfl
theorem pw_lt {D : FD} (hD : D ∈ fieldsL) (x : Nat) (k : Nat) : D.pw x k < D.q := by
  have F := fld hD
  exact F.pow_lt _ (Nat.mod_lt _ (by have := F.q2; omega))
theorem pw_ne {D : FD} (hD : D ∈ fieldsL) (x : Nat) (k : Nat) : D.pw x k ≠ 0 ∧ D.lg (D.pw x k) = D.lg x * k % (D.q - 1) := by
  have F := fld hD
  have hn : D.lg x * k % (D.q - 1) < D.q - 1 := Nat.mod_lt _ (by have := F.q2; omega)
  exact ⟨(F.full _ hn).1, F.lg_pow _ hn⟩
theorem t11 {D : FD} (hD : D ∈ fieldsL) {x : Nat} (hx : x < D.q) (h0 : x ≠ 0) : D.mulZ x (D.powZ x (-1)) = 1 := by
  have F := fld hD
  have h2 := F.q2
  have hp := pw_ne hD x (D.q - 2)
  rw [inv_nat hD hx h0, mulZ_nat F hx (pw_lt hD _ _), FD.mul, if_neg (by omega), hp.2, Nat.add_mod_mod, show D.lg x + D.lg x * (D.q - 2) = D.lg x * (D.q - 1) from by
    rw [show D.q - 1 = (D.q - 2) + 1 from by omega, Nat.mul_add, Nat.mul_one]; omega, Nat.mul_mod_left]
  rfl
end Go.Proofs.Ytcgmllamiaflcaa

/- The reference: digits of a number, and the number of digits. -/
namespace Go.Proofs.Ytcgmllamiaflcaa
open Go.RowKit

end Go.Proofs.Ytcgmllamiaflcaa

/- The reference: sums and opposites, as it reckons them. -/
namespace Go.Proofs.Ytcgmllamiaflcaa
open Go.RowKit

/-- Old cells behind a call that only makes memory. -/
theorem bcell {B : Nat} {W w1 : World} (hb : Below B W w1) : (∀ b o, b < B → w1.cell? ⟨b, o, none⟩ = W.cell? ⟨b, o, none⟩) ∧ (∀ b o, b < B → w1.frozen? ⟨b, o, none⟩ = W.frozen? ⟨b, o, none⟩) :=
  ⟨fun b o h => hb.cell (p := ⟨b, o, none⟩) h, fun b o h => hb.frozen (p := ⟨b, o, none⟩) h⟩

end Go.Proofs.Ytcgmllamiaflcaa

/- The reference: sums and opposites by digits. -/
namespace Go.Proofs.Ytcgmllamiaflcaa
open Go.RowKit

/-- A list of the call's own that has numbers: its block, cell by cell. -/
theorem OwnI.row {base : Nat} {v : Value} {l : List Int} {w : World} (h : OwnI base v l w) (n : Nat) (hn : l.length = n) (h0 : 0 < n) : ∃ g cap f, v = .slice (some ⟨g, 0, none⟩) n cap ∧ base ≤ g ∧ g < w.heap.size ∧ n ≤ cap ∧ cap ≤ maxLen ∧
    RowF g cap 3 f w ∧ (∀ j, j < n → f j = .int .i64 (l.getD j 0)) := by
  have h' := h
  rcases h'.2 with ⟨_, h2⟩ | ⟨g, cap, cur, hv, hg, hh, hle, hcm, hsz, htake⟩
  · omega
  · refine ⟨g, cap, fun o => (cur[o]?).getD (.int .i64 0), by rw [hv, hn], hg, lt_of_block hh, by omega, hcm, ⟨cur, hh, by omega, fun o ho => ?_⟩, fun j hj => ?_⟩
    · show _ = some (Option.getD _ _)
      rw [Array.getElem?_eq_getElem (by omega)]; rfl
    · have hj' : j < l.length := by omega
      have h3 : (cur.toList.take (l.length * 1))[j]? = (l.map (Value.int .i64))[j]? := by rw [htake]
      rw [List.getElem?_take, if_pos (by omega), List.getElem?_map, List.getElem?_eq_getElem hj'] at h3
      show (cur[j]?).getD _ = _
      rw [← Array.getElem?_toList, h3, List.getD_eq_getElem?_getD, List.getElem?_eq_getElem hj']; rfl

end Go.Proofs.Ytcgmllamiaflcaa

/- Lists of numbers that a call makes for itself: so many noughts (make). -/
namespace Go.Proofs.Ytcgmllamiaflcaa
open Go.RowKit

theorem list_getD_replicate (n j : Nat) : (List.replicate n (0 : Int)).getD j 0 = 0 := by
  rw [List.getD_eq_getElem?_getD, List.getElem?_replicate]; split <;> rfl

/-- 'make([]int, n)'. -/
theorem make_int {ops : Array Oper} {rest : List Oper} {o : Oper} {a : Act} {w : World} {Q : Exit → Act → World → Prop}
    (hg : o.guard = none) (l c : Operand) (hop : o.op = Op.makeSlice 22 l c) (C : Int) (n : Nat) (hl : a.eval l = .int .i64 C) (hc : a.eval c = .int .i64 C) (hC : C = (n : Int)) (hn : n ≤ 1000000)
    (hK : ∀ w', OwnI w.heap.size (.slice (some ⟨w.heap.size, 0, none⟩) n n) (List.replicate n 0) w' → w.grownBy w' none → wpList Try.prog ops Q rest (a.put o.dst (.slice (some ⟨w.heap.size, 0, none⟩) n n)) w') :
    wpList Try.prog ops Q (o :: rest) a w := by
  obtain ⟨i0, hi, hz0, hz1, hz2⟩ := info_parts Try.infoInt
  refine wpList_make_full w hg l c 22 hop w.heap.size 3 i0 (.int .i64 0) 1 Try.underlying22 hi hz0 hz1 .i64 .i64 C C n hl hc hC hC (by rw [hz2]; omega) (by unfold maxLen; omega) (Nat.le_refl _) ?_
  intro w' hown hgrow
  refine hK w' ?_ hgrow
  unfold OwnI
  rw [List.length_replicate, List.map_replicate]
  have e : (madeCells (Value.int .i64 0).cells (n * 1)).toList = List.replicate n (.int .i64 0) := by
    rw [Nat.mul_one]; exact toList_madeCells_one _ _
  rw [e] at hown
  exact hown
end Go.Proofs.Ytcgmllamiaflcaa
