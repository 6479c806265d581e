/- Texts of ours, one behind the other: C1 C2 D1 R1 R2 R3 W3. -/
import Derived.Test.YthmjdcajaoilgakZA1
import Derived.Test.YthmjdcajaoilgakZB2
import Derived.RegionTactic
import Derived.BigRegion
import Derived.Laws.MakeOwn
/- The sizes of fields, as the reference lists them (Sizes, SizeOf). -/
namespace Go.Proofs.Ythmjdcajaoilgak
open Go.RowKit

/-- The sizes below k. -/
def sizesTo (k : Nat) : List Int := ((List.range k).filter (fun q => decide (2 ≤ q) && decide (0 < (pp q).1))).map Int.ofNat
theorem sizesTo_yes (k : Nat) (h2 : 2 ≤ k) (h : 0 < (pp k).1) : sizesTo (k + 1) = sizesTo k ++ [(k : Int)] := by
  unfold sizesTo; rw [List.range_succ, List.filter_append, List.map_append]; simp [h2, h]
theorem sizesTo_no (k : Nat) (h : ¬ 0 < (pp k).1) : sizesTo (k + 1) = sizesTo k := by
  unfold sizesTo; rw [List.range_succ, List.filter_append, List.map_append]; simp [h]
theorem sizesTo_len (k : Nat) : (sizesTo k).length ≤ k := by
  unfold sizesTo; rw [List.length_map]; exact Nat.le_trans (List.length_filter_le _ _) (by simp)
def sizesL : List Int := [2, 3, 4, 5, 7, 8, 9, 11, 13, 16, 17, 19, 23, 25, 27, 29, 31, 32, 37, 41, 43, 47, 49, 53, 59, 61, 64]
theorem sizesTo_all : sizesTo 65 = sizesL := by decide +kernel

set_option maxHeartbeats 2000000 in
theorem sizes_any (w : World) : Calls Try.prog 28 #[] w fun e w' => ∃ v, e = .returned v ∧ OwnI w.heap.size v sizesL w' ∧ Below w.heap.size w w' := by
  go_enter Try.func28, Try.ntmps28
  go_wp2
  go_loopw [1, 2] (fun v i wr => ∃ k : Nat, 2 ≤ k ∧ k ≤ 65 ∧ i = .int .i64 k ∧ OwnI w.heap.size v (sizesTo k) wr ∧ Below w.heap.size w wr) (fun _ i _ => 65 - (intOf i).toNat)
  case atStart => exact ⟨2, by omega, by omega, rfl, (by have : sizesTo 2 = [] := by decide +kernel
                                                         rw [this]; exact OwnI.nil _ _), Below.refl _ _⟩
  case round =>
    obtain ⟨k, hk2, hk, rfl, hown, hbel⟩ := hrel
    have hlen := sizesTo_len k
    have hsz := hbel.size
    by_cases hlt : k ≤ 64
    · by_cases hpp : 0 < (pp k).1
      · have HP : Hid (sizesTo (k + 1) = sizesTo k ++ [(k : Int)]) := sizesTo_yes k hk2 hpp
        have hpi : (0 : Int) < ((pp k).1 : Int) := by omega
        go_wp2_with (first
          | (go_at_call 51; refine (prime_any k _ hk2 hlt).mono ?_; rintro e w' ⟨rfl, rfl⟩)
          | (at_builtin; refine append_int rfl _ _ rfl w.heap.size _ (sizesTo k) rfl (hown.alloc _) ⟨_, 0, none⟩ 1 k rfl (by simp) (by omega) (by simp; omega) ?_; intro v' w1 hown' hgrow'))
        go_roundw
        case rel => exact ⟨k + 1, by omega, by omega, by go_num, by rw [HP.out]; exact hown', (hbel.alloc (by omega) _).grown hgrow' (by simp; omega) (fun j hj => (hown.lt j hj).1)⟩
        case measure => simp [intOf]; omega
      · have HP : Hid (sizesTo (k + 1) = sizesTo k) := sizesTo_no k hpp
        have hpi : ¬ (0 : Int) < ((pp k).1 : Int) := by omega
        go_wp2_with (go_at_call 51; refine (prime_any k _ hk2 hlt).mono ?_; rintro e w' ⟨rfl, rfl⟩)
        go_roundw
        case rel => exact ⟨k + 1, by omega, by omega, by go_num, by rw [HP.out]; exact hown, hbel⟩
        case measure => simp [intOf]; omega
    · have e : k = 65 := by omega
      subst e
      rw [sizesTo_all] at hown
      go_wp2
      go_ret
      exact ⟨_, rfl, hown, hbel⟩

/-- One of the sizes, the smaller ones more often. -/
def sizeOf' (c : Int) : Int := if pick c 100 < 60 then sizesL.getD (pick c 100 % 7).toNat 0 else sizesL.getD (pick (c.tdiv 100) 27).toNat 0

theorem tdiv_bd (c : Int) (hc1 : -9223372036854775808 ≤ c) (hc2 : c ≤ 9223372036854775807) : -9223372036854775808 ≤ c.tdiv 100 ∧ c.tdiv 100 ≤ 9223372036854775807 := by
  by_cases h : 0 ≤ c
  · rw [Int.tdiv_eq_ediv_of_nonneg h]; omega
  · have : c.tdiv 100 = -((-c).tdiv 100) := by rw [Int.neg_tdiv, Int.neg_neg]
    rw [this, Int.tdiv_eq_ediv_of_nonneg (by omega)]; omega

set_option maxHeartbeats 2000000 in
theorem sizeOf_any (c : Int) (w : World) (hc1 : -9223372036854775808 ≤ c) (hc2 : c ≤ 9223372036854775807) :
    Calls Try.prog 7 #[.int .i64 c] w fun e w' => e = .returned (.int .i64 (sizeOf' c)) ∧ Below w.heap.size w w' := by
  have h1 := pick_lo c 100 (by omega)
  have h2 := pick_hi c 100 (by omega)
  by_cases hk : pick c 100 < 60
  · obtain ⟨z, hz⟩ : ∃ z, z = sizesL.getD (pick c 100 % 7).toNat 0 := ⟨_, rfl⟩
    have HV : Hid (sizeOf' c = z) := by show sizeOf' c = _; rw [sizeOf', if_pos hk, hz]
    have HZ : Hid (z = sizesL.getD (pick c 100 % 7).toNat 0) := hz
    clear hz
    go_enter Try.func7, Try.ntmps7
    go_wp2_with fail
    refine (sizes_any w).mono ?_
    rintro e w1 ⟨v, rfl, hown, hbel⟩
    obtain ⟨g, cap, rfl, hg, hglt, hcell, _⟩ := hown.at (by simp [sizesL])
    have hlen : sizesL.length = 27 := rfl
    rw [hlen] at hcell ⊢
    have hcl : w1.cell? ⟨g, (pick c 100 % 7).toNat, none⟩ = some (.int .i64 z) := by rw [HZ.out]; exact hcell _ (by omega)
    clear hown hcell
    go_wp2_with (go_at_call 8; refine (pick_any c 100 _ hc1 hc2 (by omega) (by omega)).mono ?_; rintro e w' ⟨rfl, rfl⟩)
    go_ret
    exact ⟨ret_int (by rw [HV.out]), hbel⟩
  · obtain ⟨z, hz⟩ : ∃ z, z = sizesL.getD (pick (c.tdiv 100) 27).toNat 0 := ⟨_, rfl⟩
    have HV : Hid (sizeOf' c = z) := by show sizeOf' c = _; rw [sizeOf', if_neg hk, hz]
    have HZ : Hid (z = sizesL.getD (pick (c.tdiv 100) 27).toNat 0) := hz
    clear hz
    have htd := tdiv_bd c hc1 hc2
    have h3 := pick_lo (c.tdiv 100) 27 (by omega)
    have h4 := pick_hi (c.tdiv 100) 27 (by omega)
    go_enter Try.func7, Try.ntmps7
    go_wp2_with fail
    refine (sizes_any w).mono ?_
    rintro e w1 ⟨v, rfl, hown, hbel⟩
    obtain ⟨g, cap, rfl, hg, hglt, hcell, _⟩ := hown.at (by simp [sizesL])
    have hlen : sizesL.length = 27 := rfl
    rw [hlen] at hcell ⊢
    have hcl : w1.cell? ⟨g, (pick (c.tdiv 100) 27).toNat, none⟩ = some (.int .i64 z) := by rw [HZ.out]; exact hcell _ (by omega)
    clear hown hcell
    go_wp2_with fail
    refine (pick_any c 100 _ hc1 hc2 (by omega) (by omega)).mono ?_
    rintro e w' ⟨rfl, rfl⟩
    go_wp2_with fail
    refine (pick_any (c.tdiv 100) 27 _ htd.1 htd.2 (by omega) (by omega)).mono ?_
    rintro e w' ⟨rfl, rfl⟩
    go_wp2
    go_ret
    exact ⟨ret_int (by rw [HV.out]), hbel⟩
end Go.Proofs.Ythmjdcajaoilgak

/- A field of raw size, as the statements make it (fieldOf). -/
namespace Go.Proofs.Ythmjdcajaoilgak
open Go.RowKit

theorem sizes_fields : sizesL.all (fun z => fieldsL.any fun D => (D.q : Int) == z) = true := by decide +kernel
theorem sizesL_mem (k : Nat) (h : k < 27) : sizesL.getD k 0 ∈ sizesL := by
  rw [List.getD_eq_getElem?_getD, List.getElem?_eq_getElem (show k < sizesL.length from h)]
  exact List.getElem_mem _
theorem sizeOf_mem (c : Int) : sizeOf' c ∈ sizesL := by
  unfold sizeOf'
  have h3 := pick_lo (c.tdiv 100) 27 (by omega)
  have h4 := pick_hi (c.tdiv 100) 27 (by omega)
  split
  · exact sizesL_mem _ (by omega)
  · exact sizesL_mem _ (by omega)
theorem sizeOf_field (c : Int) : ∃ D ∈ fieldsL, sizeOf' c = (D.q : Int) := by
  have := List.all_eq_true.1 sizes_fields _ (sizeOf_mem c)
  obtain ⟨D, hD, e⟩ := List.any_eq_true.1 this
  exact ⟨D, hD, (beq_iff_eq.1 e).symm⟩

theorem FAt.ltT {F T : Nat} {D : FD} {g : Nat → Value} {w : World} (h : FAt F T D g w) : T < w.heap.size := h.row.lt

set_option maxHeartbeats 2000000 in
theorem fieldOf_any (c : Int) (w : World) (hc1 : -9223372036854775808 ≤ c) (hc2 : c ≤ 9223372036854775807) :
    Calls Try.prog 17 #[.int .i64 c] w fun e w' => ∃ D F T g, D ∈ fieldsL ∧ sizeOf' c = (D.q : Int) ∧ e = .returned (.pointer (some ⟨F, 0, none⟩)) ∧ FAt F T D g w' ∧ w.heap.size ≤ F ∧ w.heap.size ≤ T ∧ Below w.heap.size w w' := by
  obtain ⟨D, hD, hs⟩ := sizeOf_field c
  have hq2 := (fld hD).q2
  have hq64 := (fld hD).q64
  have hp2 := (fld hD).p2
  have HS : Hid (∀ w1 : World, Calls Try.prog 7 #[.int .i64 c] w1 fun e w' => e = .returned (.int .i64 (D.q : Int)) ∧ Below w1.heap.size w1 w') := by
    intro w1; rw [← hs]; exact sizeOf_any c w1 hc1 hc2
  have HD : Hid (D ∈ fieldsL ∧ sizeOf' c = (D.q : Int)) := ⟨hD, hs⟩
  clear hD hs
  go_enter Try.func17, Try.ntmps17
  go_wp2_with fail
  refine (HS.out _).mono ?_
  rintro e w1 ⟨rfl, hb1⟩
  go_wp2_with fail
  refine (new_any HD.out.1 w1).mono ?_
  rintro e w2 ⟨F, T, g, rfl, hat, hF, hT, hb2⟩
  have HA : Hid (FAt F T D g w2) := hat
  have HB : Hid (Below w.heap.size w w2 ∧ w.heap.size ≤ F ∧ w.heap.size ≤ T ∧ w.heap.size ≤ w2.heap.size) := ⟨hb1.trans (hb2.mono hb1.size), Nat.le_trans hb1.size hF, Nat.le_trans hb1.size hT, Nat.le_trans hb1.size hb2.size⟩
  clear hat hF hT hb1 hb2
  go_wp2_with fail
  refine (size_any HA.out).mono ?_
  rintro e w' ⟨rfl, rfl⟩
  go_wp2_with fail
  refine (HS.out _).mono ?_
  rintro e w3 ⟨rfl, hb3⟩
  have HA3 : Hid (FAt F T D g w3) := HA.out.below hb3 HA.out.ltF HA.out.ltT
  have HB3 : Hid (Below w.heap.size w w3) := HB.out.1.trans (hb3.mono HB.out.2.2.2)
  clear hb3
  go_wp2_with fail
  refine (char_any HA3.out).mono ?_
  rintro e w' ⟨rfl, rfl⟩
  go_wp2
  go_ret
  exact ⟨D, F, T, g, HD.out.1, HD.out.2, rfl, HA3.out, HB.out.2.1, HB.out.2.2.1, HB3.out⟩
end Go.Proofs.Ythmjdcajaoilgak

/- What is to be true of a field, in the words of its calls. -/
namespace Go.Proofs.Ythmjdcajaoilgak
open Go.RowKit

theorem addZ_nat {D : FD} (_F : Fld D) {x y : Nat} (hx : x < D.q) (hy : y < D.q) : D.addZ x y = (sumD D.p D.q x y : Nat) := by
  rw [FD.addZ, if_pos ⟨nat_has hx, nat_has hy⟩]; rfl
theorem mulZ_nat {D : FD} (_F : Fld D) {x y : Nat} (hx : x < D.q) (hy : y < D.q) : D.mulZ x y = (D.mul x y : Nat) := by
  rw [FD.mulZ, if_pos ⟨nat_has hx, nat_has hy⟩]; rfl
theorem negZ_nat {D : FD} (_F : Fld D) {x : Nat} (hx : x < D.q) : D.negZ x = (negD D.p D.q x : Nat) := by
  rw [FD.negZ, if_pos (nat_has hx)]; rfl
theorem ne_false {a b : Int} (h : a = b) : (a != b) = false := by rw [h]; simp

theorem st_one : fieldsL.all (fun D => D.st 1 == D.gen && decide (D.gen < D.q) && decide (D.gen ≠ 0)) = true := by decide +kernel

theorem t1 {D : FD} (hD : D ∈ fieldsL) {x y : Nat} (hx : x < D.q) (hy : y < D.q) : (D.addZ x y != D.addZ y x) = false := by
  have F := fld hD
  exact ne_false (by rw [addZ_nat F hx hy, addZ_nat F hy hx, F.add_comm])
theorem t2 {D : FD} (hD : D ∈ fieldsL) {x y : Nat} (hx : x < D.q) (hy : y < D.q) : (D.mulZ x y != D.mulZ y x) = false := by
  have F := fld hD
  exact ne_false (by rw [mulZ_nat F hx hy, mulZ_nat F hy hx, F.mul_comm])
theorem t9 {D : FD} (hD : D ∈ fieldsL) {x y : Nat} (hx : x < D.q) (hy : y < D.q) : (D.subZ (D.addZ x y) y != (x : Int)) = false := by
  have F := fld hD
  refine ne_false ?_
  rw [FD.subZ, addZ_nat F hx hy, negZ_nat F hy, addZ_nat F (F.sum_lt x y hx hy) (F.neg_lt y hy), F.add_assoc x y _ hx hy (F.neg_lt y hy), F.sum_neg y hy, F.sum_zero x hx]
theorem t3 {D : FD} (hD : D ∈ fieldsL) {x y z : Nat} (hx : x < D.q) (hy : y < D.q) (hz : z < D.q) : (D.addZ (D.addZ x y) z != D.addZ x (D.addZ y z)) = false := by
  have F := fld hD
  refine ne_false ?_
  rw [addZ_nat F hx hy, addZ_nat F hy hz, addZ_nat F (F.sum_lt x y hx hy) hz, addZ_nat F hx (F.sum_lt y z hy hz), F.add_assoc x y z hx hy hz]
theorem t4 {D : FD} (hD : D ∈ fieldsL) {x y z : Nat} (hx : x < D.q) (hy : y < D.q) (hz : z < D.q) : (D.mulZ (D.mulZ x y) z != D.mulZ x (D.mulZ y z)) = false := by
  have F := fld hD
  refine ne_false ?_
  rw [mulZ_nat F hx hy, mulZ_nat F hy hz, mulZ_nat F (F.mul_lt x y) hz, mulZ_nat F hx (F.mul_lt y z), F.mul_assoc]
theorem t5 {D : FD} (hD : D ∈ fieldsL) {x y z : Nat} (hx : x < D.q) (hy : y < D.q) (hz : z < D.q) : (D.mulZ x (D.addZ y z) != D.addZ (D.mulZ x y) (D.mulZ x z)) = false := by
  have F := fld hD
  refine ne_false ?_
  rw [addZ_nat F hy hz, mulZ_nat F hx (F.sum_lt y z hy hz), mulZ_nat F hx hy, mulZ_nat F hx hz, addZ_nat F (F.mul_lt x y) (F.mul_lt x z), F.distrib x y z hy hz]

theorem t6 {D : FD} (hD : D ∈ fieldsL) {x : Nat} (hx : x < D.q) : (D.addZ x 0 != (x : Int)) = false := by
  have F := fld hD
  refine ne_false ?_
  have := addZ_nat F hx (show 0 < D.q from by omega)
  rw [show ((0 : Nat) : Int) = 0 from rfl] at this
  rw [this, F.sum_zero x hx]
theorem t7 {D : FD} (hD : D ∈ fieldsL) {x : Nat} (hx : x < D.q) : (D.mulZ x 1 != (x : Int)) = false := by
  have F := fld hD
  refine ne_false ?_
  have := mulZ_nat F hx (show 1 < D.q from F.q2)
  rw [show ((1 : Nat) : Int) = 1 from rfl] at this
  rw [this, F.mul_one x hx]
theorem t8 {D : FD} (hD : D ∈ fieldsL) {x : Nat} (hx : x < D.q) : (D.addZ x (D.negZ x) != 0) = false := by
  have F := fld hD
  refine ne_false ?_
  rw [negZ_nat F hx, addZ_nat F hx (F.neg_lt x hx), F.sum_neg x hx]; rfl
theorem inv_zero {D : FD} {x : Nat} (hx : x < D.q) (h0 : x = 0) : D.powZ x (-1) = -1 := by
  rw [FD.powZ, if_neg (by simp [nat_has hx]), if_neg (by omega), if_pos (by omega), if_pos (by omega)]
theorem inv_nat {D : FD} (hD : D ∈ fieldsL) {x : Nat} (hx : x < D.q) (h0 : x ≠ 0) : D.powZ x (-1) = (D.pw x (D.q - 2) : Nat) := by
  have F := fld hD
  have h2 := F.q2
  rw [FD.powZ, if_neg (by simp [nat_has hx]), if_neg (by omega), if_neg (by omega)]
  have : ((-1 : Int) % ((D.q - 1 : Nat) : Int)).toNat = (D.q - 2) := by
    have e : (-1 : Int) = ((D.q - 2 : Nat) : Int) + (-1) * ((D.q - 1 : Nat) : Int) := by omega
    rw [e, Int.add_mul_emod_self_right, ← Int.natCast_emod, Int.toNat_natCast]
    exact Nat.mod_eq_of_lt (by omega)
  rw [this]; rfl
theorem pw_lt {D : FD} (hD : D ∈ fieldsL) (x : Nat) (k : Nat) : D.pw x k < D.q := by
  have F := fld hD
  exact F.pow_lt _ (Nat.mod_lt _ (by have := F.q2; omega))
theorem pw_ne {D : FD} (hD : D ∈ fieldsL) (x : Nat) (k : Nat) : D.pw x k ≠ 0 ∧ D.lg (D.pw x k) = D.lg x * k % (D.q - 1) := by
  have F := fld hD
  have hn : D.lg x * k % (D.q - 1) < D.q - 1 := Nat.mod_lt _ (by have := F.q2; omega)
  exact ⟨(F.full _ hn).1, F.lg_pow _ hn⟩
theorem t11 {D : FD} (hD : D ∈ fieldsL) {x : Nat} (hx : x < D.q) (h0 : x ≠ 0) : D.mulZ x (D.powZ x (-1)) = 1 := by
  have F := fld hD
  have h2 := F.q2
  have hp := pw_ne hD x (D.q - 2)
  rw [inv_nat hD hx h0, mulZ_nat F hx (pw_lt hD _ _), FD.mul, if_neg (by omega), hp.2, Nat.add_mod_mod, show D.lg x + D.lg x * (D.q - 2) = D.lg x * (D.q - 1) from by
    rw [show D.q - 1 = (D.q - 2) + 1 from by omega, Nat.mul_add, Nat.mul_one]; omega, Nat.mul_mod_left]
  rfl
theorem t12 {D : FD} (hD : D ∈ fieldsL) {x : Nat} (hx : x < D.q) (h0 : x ≠ 0) : D.powZ D.gen (D.logZ x) = x := by
  have F := fld hD
  have h2 := F.q2
  have hs := List.all_eq_true.1 st_one D hD
  simp only [Bool.and_eq_true, beq_iff_eq, decide_eq_true_eq] at hs
  obtain ⟨⟨hs1, hs2⟩, hs3⟩ := hs
  have hl := F.lg_is x hx h0
  rw [FD.logZ, if_pos ⟨nat_has hx, by omega⟩, Int.toNat_natCast, FD.powZ, if_neg (by simp [nat_has hs2])]
  by_cases hk : D.lg x = 0
  · rw [if_pos (by omega)]
    have : again D.st 0 1 = x := hk ▸ hl.2
    rw [← this]; rfl
  · rw [if_neg (by omega), if_neg (by omega)]
    have hg : D.lg D.gen = 1 := by
      have := F.lg_pow 1 (by omega)
      rw [show again D.st 1 1 = D.gen from hs1] at this
      exact this
    rw [Int.toNat_natCast, ← Int.natCast_emod, Int.toNat_natCast, FD.pw, hg, Nat.one_mul, Nat.mod_mod, Nat.mod_eq_of_lt hl.1, hl.2]
end Go.Proofs.Ythmjdcajaoilgak

/- The reference: digits of a number, and the number of digits. -/
namespace Go.Proofs.Ythmjdcajaoilgak
open Go.RowKit

/-- Digit j of a to the base p. -/
def dg (p a j : Nat) : Nat := a / p ^ j % p
def digL (p a m : Nat) : List Int := (List.range m).map fun j => ((dg p a j : Nat) : Int)
theorem digL_succ (p a m : Nat) : digL p a (m + 1) = digL p a m ++ [((dg p a m : Nat) : Int)] := by
  unfold digL; rw [List.range_succ, List.map_append]; rfl
theorem digL_len (p a m : Nat) : (digL p a m).length = m := by simp [digL]
theorem digL_get (p a m j : Nat) (h : j < m) : (digL p a m).getD j 0 = ((dg p a j : Nat) : Int) := by
  rw [List.getD_eq_getElem?_getD, List.getElem?_eq_getElem (by rw [digL_len]; exact h)]
  simp [digL]

/-- The number of n digits, from the highest one down, k of them. -/
def horner (p : Nat) (f : Nat → Nat) (n : Nat) : Nat → Nat
  | 0 => 0
  | k + 1 => horner p f n k * p + f (n - 1 - k)
theorem horner_lt (p : Nat) (f : Nat → Nat) (n : Nat) (hp : p ≤ 64) (hf : ∀ j, f j < 64) : ∀ k, horner p f n k < 64 ^ k
  | 0 => by simp [horner]
  | k + 1 => by
    have h1 := horner_lt p f n hp hf k
    have h2 := hf (n - 1 - k)
    rw [horner, Nat.pow_succ]
    have h3 : horner p f n k * p ≤ horner p f n k * 64 := Nat.mul_le_mul_left _ hp
    have : (horner p f n k + 1) * 64 ≤ 64 ^ k * 64 := Nat.mul_le_mul_right 64 h1
    rw [Nat.add_mul, Nat.one_mul] at this
    omega

end Go.Proofs.Ythmjdcajaoilgak

/- The reference: sums and opposites, as it reckons them. -/
namespace Go.Proofs.Ythmjdcajaoilgak
open Go.RowKit

/-- The reference's field, as a value. -/
def rf (q p m gen : Nat) (v : Value) : Value := .agg #[.int .i64 q, .int .i64 p, .int .i64 m, .int .i64 gen, v]

def raddN (D : FD) (a b : Nat) : Nat := if D.m = 1 then (a + b) % D.p else if D.p = 2 then a ^^^ b else horner D.p (fun j => (dg D.p a j + dg D.p b j) % D.p) D.m D.m
def rnegN (D : FD) (a : Nat) : Nat := horner D.p (fun j => (D.p - dg D.p a j) % D.p) D.m D.m
def chkRAdd (D : FD) : Bool := allB D.q fun a => rnegN D a == negD D.p D.q a && allB D.q fun b => raddN D a b == sumD D.p D.q a b
theorem chkRAdd_all : fieldsL.all chkRAdd = true := by decide +kernel
theorem radd_is {D : FD} (h : D ∈ fieldsL) (a b : Nat) (ha : a < D.q) (hb : b < D.q) : raddN D a b = sumD D.p D.q a b := by
  have := allB_of (List.all_eq_true.1 chkRAdd_all D h) a ha
  rw [Bool.and_eq_true] at this
  exact beq_iff_eq.1 (allB_of this.2 b hb)
theorem rneg_is {D : FD} (h : D ∈ fieldsL) (a : Nat) (ha : a < D.q) : rnegN D a = negD D.p D.q a := by
  have := allB_of (List.all_eq_true.1 chkRAdd_all D h) a ha
  rw [Bool.and_eq_true] at this
  exact beq_iff_eq.1 this.1

theorem xor_small (a b : Nat) (ha : a < 64) (hb : b < 64) : bits .xor .i64 (a : Int) (b : Int) = ((a ^^^ b : Nat) : Int) := xor64_nat a b ha hb

/-- Old cells behind a call that only makes memory. -/
theorem bcell {B : Nat} {W w1 : World} (hb : Below B W w1) : (∀ b o, b < B → w1.cell? ⟨b, o, none⟩ = W.cell? ⟨b, o, none⟩) ∧ (∀ b o, b < B → w1.frozen? ⟨b, o, none⟩ = W.frozen? ⟨b, o, none⟩) :=
  ⟨fun b o h => hb.cell (p := ⟨b, o, none⟩) h, fun b o h => hb.frozen (p := ⟨b, o, none⟩) h⟩

end Go.Proofs.Ythmjdcajaoilgak

/- The reference: sums and opposites by digits. -/
namespace Go.Proofs.Ythmjdcajaoilgak
open Go.RowKit

/-- A list of the call's own that has numbers: its block, cell by cell. -/
theorem OwnI.row {base : Nat} {v : Value} {l : List Int} {w : World} (h : OwnI base v l w) (n : Nat) (hn : l.length = n) (h0 : 0 < n) : ∃ g cap f, v = .slice (some ⟨g, 0, none⟩) n cap ∧ base ≤ g ∧ g < w.heap.size ∧ n ≤ cap ∧ cap ≤ maxLen ∧
    RowF g cap 3 f w ∧ (∀ j, j < n → f j = .int .i64 (l.getD j 0)) := by
  have h' := h
  rcases h'.2 with ⟨_, h2⟩ | ⟨g, cap, cur, hv, hg, hh, hle, hcm, hsz, htake⟩
  · omega
  · refine ⟨g, cap, fun o => (cur[o]?).getD (.int .i64 0), by rw [hv, hn], hg, lt_of_block hh, by omega, hcm, ⟨cur, hh, by omega, fun o ho => ?_⟩, fun j hj => ?_⟩
    · show _ = some (Option.getD _ _)
      rw [Array.getElem?_eq_getElem (by omega)]; rfl
    · have hj' : j < l.length := by omega
      have h3 : (cur.toList.take (l.length * 1))[j]? = (l.map (Value.int .i64))[j]? := by rw [htake]
      rw [List.getElem?_take, if_pos (by omega), List.getElem?_map, List.getElem?_eq_getElem hj'] at h3
      show (cur[j]?).getD _ = _
      rw [← Array.getElem?_toList, h3, List.getD_eq_getElem?_getD, List.getElem?_eq_getElem hj']; rfl

/-- The five cells of a reference field that lies in memory. -/
structure Box (b : Nat) (D : FD) (gen : Nat) (v : Value) (w : World) : Prop where
  c0 : w.cell? ⟨b, 0, none⟩ = some (.int .i64 D.q)
  c1 : w.cell? ⟨b, 1, none⟩ = some (.int .i64 D.p)
  c2 : w.cell? ⟨b, 2, none⟩ = some (.int .i64 D.m)
  c3 : w.cell? ⟨b, 3, none⟩ = some (.int .i64 gen)
  c4 : w.cell? ⟨b, 4, none⟩ = some v
theorem Box.below {b B : Nat} {D : FD} {gen : Nat} {v : Value} {w w' : World} (h : Box b D gen v w) (hb : Below B w w') (hB : b < B) : Box b D gen v w' :=
  have e := (bcell hb).1
  ⟨(e b 0 hB).trans h.c0, (e b 1 hB).trans h.c1, (e b 2 hB).trans h.c2, (e b 3 hB).trans h.c3, (e b 4 hB).trans h.c4⟩
theorem Box.other {b : Nat} {D : FD} {gen : Nat} {v : Value} {w w' : World} (h : Box b D gen v w) (e : w'.heap[b]? = w.heap[b]?) : Box b D gen v w' :=
  have e' : ∀ o, w'.cell? ⟨b, o, none⟩ = w.cell? ⟨b, o, none⟩ := fun o => World.cell?_of_block (a := ⟨b, o, none⟩) e
  ⟨(e' 0).trans h.c0, (e' 1).trans h.c1, (e' 2).trans h.c2, (e' 3).trans h.c3, (e' 4).trans h.c4⟩
theorem dg_lt (p a j : Nat) (hp : 1 ≤ p) : dg p a j < p := Nat.mod_lt _ hp

theorem neg_mod (d p : Nat) (h : d < p) : (-(d : Int)) % (p : Int) = (((p - d) % p : Nat) : Int) := by
  have e : (-(d : Int)) = ((p - d : Nat) : Int) + (-1) * (p : Int) := by omega
  rw [e, Int.add_mul_emod_self_right, Int.natCast_emod]

end Go.Proofs.Ythmjdcajaoilgak

/- Lists of numbers that a call makes for itself: so many noughts (make). -/
namespace Go.Proofs.Ythmjdcajaoilgak
open Go.RowKit

theorem list_getD_replicate (n j : Nat) : (List.replicate n (0 : Int)).getD j 0 = 0 := by
  rw [List.getD_eq_getElem?_getD, List.getElem?_replicate]; split <;> rfl

/-- 'make([]int, n)'. -/
theorem make_int {ops : Array Oper} {rest : List Oper} {o : Oper} {a : Act} {w : World} {Q : Exit → Act → World → Prop}
    (hg : o.guard = none) (l c : Operand) (hop : o.op = Op.makeSlice 22 l c) (C : Int) (n : Nat) (hl : a.eval l = .int .i64 C) (hc : a.eval c = .int .i64 C) (hC : C = (n : Int)) (hn : n ≤ 1000000)
    (hK : ∀ w', OwnI w.heap.size (.slice (some ⟨w.heap.size, 0, none⟩) n n) (List.replicate n 0) w' → w.grownBy w' none → wpList Try.prog ops Q rest (a.put o.dst (.slice (some ⟨w.heap.size, 0, none⟩) n n)) w') :
    wpList Try.prog ops Q (o :: rest) a w := by
  obtain ⟨i0, hi, hz0, hz1, hz2⟩ := info_parts Try.infoInt
  refine wpList_make_full w hg l c 22 hop w.heap.size 3 i0 (.int .i64 0) 1 Try.underlying22 hi hz0 hz1 .i64 .i64 C C n hl hc hC hC (by rw [hz2]; omega) (by unfold maxLen; omega) (Nat.le_refl _) ?_
  intro w' hown hgrow
  refine hK w' ?_ hgrow
  unfold OwnI
  rw [List.length_replicate, List.map_replicate]
  have e : (madeCells (Value.int .i64 0).cells (n * 1)).toList = List.replicate n (.int .i64 0) := by
    rw [Nat.mul_one]; exact toList_madeCells_one _ _
  rw [e] at hown
  exact hown
end Go.Proofs.Ythmjdcajaoilgak
