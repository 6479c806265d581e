/- Texts of ours, one behind the other: B3 W2 C1 C2 D1 R1 R2. -/
import Derived.Test.YtbpeahhhkcljeaaZM3
import Derived.Test.YtbpeahhhkcljeaaZA1
import Derived.Test.YtbpeahhhkcljeaaProg
import Derived.OwnWalk
import Derived.RegionTactic
import Derived.BigRegion
/- A field's calls, gone on: products, powers, what undoes a product. -/
namespace Go.Proofs.Ytbpeahhhkcljeaa
open Go.RowKit

theorem lg_cell {D : FD} (F : Fld D) {g : Nat → Value} (h : Tab D.q D.p D.m D.low D.gen D.st g) (x : Nat) (hx : x < D.q) (h0 : x ≠ 0) : g (69 + x) = .int .i64 (D.lg x : Nat) := by
  have hl := F.lg_is x hx h0
  have := h.pows.log (D.lg x) hl.1
  rw [hl.2] at this
  exact this

set_option maxHeartbeats 2000000 in
theorem mul_any {F T : Nat} {D : FD} (hD : D ∈ fieldsL) {g : Nat → Value} {w : World} (h : FAt F T D g w) (a b : Int) :
    Calls Try.prog 89 #[.pointer (some ⟨F, 0, none⟩), .int .i64 a, .int .i64 b] w fun e w' => e = .returned (.int .i64 (D.mulZ a b)) ∧ ∃ n, w' = w.drewN n := by
  have hp := h.ptr
  have hq := (fld hD).q64
  have HF : Hid (FAt F T D g w) := h
  have HL : Hid (Fld D ∧ D ∈ fieldsL) := ⟨fld hD, hD⟩
  clear h hD
  by_cases ha : D.has a = true
  · by_cases hb : D.has b = true
    · obtain ⟨x, rfl, hx⟩ := has_nat ha
      obtain ⟨y, rfl, hy⟩ := has_nat hb
      by_cases hx0 : x = 0
      · have hz : ((x : Int) == 0) = true := by rw [hx0]; rfl
        have HV : Hid (D.mulZ x y = 0) := by show D.mulZ x y = _; rw [FD.mulZ, if_pos ⟨ha, hb⟩]; simp [FD.mul, hx0]
        clear hx0
        go_enter Try.func89, Try.ntmps89
        go_wp2_with (go_at_call 93; refine (has_any HF.out _).mono ?_; rintro e w' ⟨rfl, rfl⟩)
        go_ret
        exact ⟨ret_int (by rw [HV.out]), 0, rfl⟩
      by_cases hy0 : y = 0
      · have hz : ((x : Int) == 0) = false := by rw [beq_eq_false_iff_ne]; exact_mod_cast hx0
        have hz' : ((y : Int) == 0) = true := by rw [hy0]; rfl
        have HV : Hid (D.mulZ x y = 0) := by show D.mulZ x y = _; rw [FD.mulZ, if_pos ⟨ha, hb⟩]; simp [FD.mul, hy0]
        clear hx0 hy0
        go_enter Try.func89, Try.ntmps89
        go_wp2_with (go_at_call 93; refine (has_any HF.out _).mono ?_; rintro e w' ⟨rfl, rfl⟩)
        go_ret
        exact ⟨ret_int (by rw [HV.out]), 0, rfl⟩
      have hz : ((x : Int) == 0) = false := by rw [beq_eq_false_iff_ne]; exact_mod_cast hx0
      have hz' : ((y : Int) == 0) = false := by rw [beq_eq_false_iff_ne]; exact_mod_cast hy0
      have hcx : w.cell? ⟨T, 69 + x, none⟩ = some (.int .i64 (D.lg x : Nat)) := by rw [HF.out.row.cell _ (by omega), lg_cell HL.out.1 HF.out.tab x hx hx0]
      have hcy : w.cell? ⟨T, 69 + y, none⟩ = some (.int .i64 (D.lg y : Nat)) := by rw [HF.out.row.cell _ (by omega), lg_cell HL.out.1 HF.out.tab y hy hy0]
      have hlx := (HL.out.1.lg_is x hx hx0).1
      have hly := (HL.out.1.lg_is y hy hy0).1
      have HV : Hid (D.mulZ x y = (again D.st ((((D.lg x : Nat) : Int) + ((D.lg y : Nat) : Int)) % ((D.q - 1 : Nat) : Int)).toNat 1 : Nat)) := by
        show D.mulZ x y = _
        rw [FD.mulZ, if_pos ⟨ha, hb⟩, FD.mul, if_neg (by omega)]
        rfl
      have HC : Hid (∀ n, Calls Try.prog 113 #[.pointer (some ⟨T, 0, none⟩), .int .i64 (((D.lg x : Nat) : Int) + ((D.lg y : Nat) : Int))] (w.drewN n) fun e w' => e = .returned (.int .i64 (D.mulZ x y)) ∧ ∃ m, w' = (w.drewN n).drewN m) := by
        intro n; rw [HV.out]; exact power_any HL.out.2 (HF.out.drewN n) _ (by omega) (by omega)
      clear hx0 hy0 HV
      go_enter Try.func89, Try.ntmps89
      go_wp2_with (go_at_call 93; refine (has_any HF.out _).mono ?_; rintro e w' ⟨rfl, rfl⟩)
      go_quiet ((go_at_call 113; exact Calls.quiet_of (HC.out _)))
      go_wp2
      go_ret
      exact ⟨rfl, _, rfl⟩
    · have hb' : D.has b = false := by simpa using hb
      have HV : Hid (D.mulZ a b = -1) := by show D.mulZ a b = _; rw [FD.mulZ, if_neg (by simp [hb'])]
      clear hb
      go_enter Try.func89, Try.ntmps89
      go_wp2_with (go_at_call 93; refine (has_any HF.out _).mono ?_; rintro e w' ⟨rfl, rfl⟩)
      go_ret
      exact ⟨ret_int (by rw [HV.out]), 0, rfl⟩
  · have ha' : D.has a = false := by simpa using ha
    have HV : Hid (D.mulZ a b = -1) := by show D.mulZ a b = _; rw [FD.mulZ, if_neg (by simp [ha'])]
    clear ha
    go_enter Try.func89, Try.ntmps89
    go_wp2_with (go_at_call 93; refine (has_any HF.out _).mono ?_; rintro e w' ⟨rfl, rfl⟩)
    go_ret
    exact ⟨ret_int (by rw [HV.out]), 0, rfl⟩

set_option maxHeartbeats 2000000 in
theorem pow_any {F T : Nat} {D : FD} (hD : D ∈ fieldsL) {g : Nat → Value} {w : World} (h : FAt F T D g w) (a k : Int) (hk1 : -9223372036854775808 ≤ k) (hk2 : k ≤ 9223372036854775807) :
    Calls Try.prog 129 #[.pointer (some ⟨F, 0, none⟩), .int .i64 a, .int .i64 k] w fun e w' => e = .returned (.int .i64 (D.powZ a k)) ∧ ∃ n, w' = w.drewN n := by
  have hp := h.ptr
  have hq := (fld hD).q64
  have hq2 := (fld hD).q2
  have hc0 : w.cell? ⟨T, 0, none⟩ = some (.int .i64 D.q) := by rw [h.row.cell 0 (by omega), h.tab.sum.c0]
  have HF : Hid (FAt F T D g w) := h
  have HL : Hid (Fld D ∧ D ∈ fieldsL) := ⟨fld hD, hD⟩
  clear h hD
  by_cases ha : D.has a = true
  · by_cases hk : k = 0
    · have hz : (k == 0) = true := by rw [hk]; rfl
      have HV : Hid (D.powZ a k = 1) := by show D.powZ a k = _; rw [FD.powZ, if_neg (by simp [ha]), if_pos hk]
      clear hk
      go_enter Try.func129, Try.ntmps129
      go_wp2_with (go_at_call 93; refine (has_any HF.out _).mono ?_; rintro e w' ⟨rfl, rfl⟩)
      go_ret
      exact ⟨ret_int (by rw [HV.out]), 0, rfl⟩
    have hkz : (k == 0) = false := by rw [beq_eq_false_iff_ne]; exact hk
    by_cases ha0 : a = 0
    · have hz : (a == 0) = true := by rw [ha0]; rfl
      by_cases hneg : k < 0
      · have HV : Hid (D.powZ a k = -1) := by show D.powZ a k = _; rw [FD.powZ, if_neg (by simp [ha]), if_neg hk, if_pos ha0, if_pos hneg]
        clear ha0 hk
        go_enter Try.func129, Try.ntmps129
        go_wp2_with (go_at_call 93; refine (has_any HF.out _).mono ?_; rintro e w' ⟨rfl, rfl⟩)
        go_ret
        exact ⟨ret_int (by rw [HV.out]), 0, rfl⟩
      · have HV : Hid (D.powZ a k = 0) := by show D.powZ a k = _; rw [FD.powZ, if_neg (by simp [ha]), if_neg hk, if_pos ha0, if_neg hneg]
        clear ha0 hk
        go_enter Try.func129, Try.ntmps129
        go_wp2_with (go_at_call 93; refine (has_any HF.out _).mono ?_; rintro e w' ⟨rfl, rfl⟩)
        go_ret
        exact ⟨ret_int (by rw [HV.out]), 0, rfl⟩
    obtain ⟨x, rfl, hx⟩ := has_nat ha
    have hx0 : x ≠ 0 := by intro e; exact ha0 (by rw [e]; rfl)
    have hz : ((x : Int) == 0) = false := by rw [beq_eq_false_iff_ne]; exact ha0
    have hcx : w.cell? ⟨T, 69 + x, none⟩ = some (.int .i64 (D.lg x : Nat)) := by rw [HF.out.row.cell _ (by omega), lg_cell HL.out.1 HF.out.tab x hx hx0]
    have hlx := (HL.out.1.lg_is x hx hx0).1
    obtain ⟨r, hr, hrq⟩ : ∃ r : Nat, k % ((D.q : Int) - 1) = r ∧ r < D.q - 1 := by
      have h1 := Int.emod_nonneg k (show (D.q : Int) - 1 ≠ 0 from by omega)
      have h2 := Int.emod_lt_of_pos k (show 0 < (D.q : Int) - 1 from by omega)
      exact ⟨(k % ((D.q : Int) - 1)).toNat, by omega, by omega⟩
    have h1 : D.lg x * r ≤ 64 * 64 := Nat.mul_le_mul (by omega) (by omega)
    have h4 : ((D.lg x : Nat) : Int) * (r : Int) ≤ 4096 := by rw [← Int.natCast_mul]; omega
    have h5 : 0 ≤ ((D.lg x : Nat) : Int) * (r : Int) := by rw [← Int.natCast_mul]; omega
    have HR : Hid (∀ w1, Calls Try.prog 123 #[.int .i64 k, .int .i64 ((D.q : Int) - 1)] w1 fun e w' => e = .returned (.int .i64 (r : Int)) ∧ w' = w1) := by
      intro w1; rw [← hr]; exact remainder_any _ _ _ (by omega) (by omega) hk1 hk2
    have HV : Hid (D.powZ x k = (again D.st ((((D.lg x : Nat) : Int) * (r : Int)) % ((D.q - 1 : Nat) : Int)).toNat 1 : Nat)) := by
      show D.powZ x k = _
      rw [FD.powZ, if_neg (by simp [ha]), if_neg hk, if_neg ha0, FD.pw, show ((D.q - 1 : Nat) : Int) = (D.q : Int) - 1 from by omega, hr, ← Int.natCast_mul, show (D.q : Int) - 1 = ((D.q - 1 : Nat) : Int) from by omega]
      rfl
    have HC : Hid (∀ n, Calls Try.prog 113 #[.pointer (some ⟨T, 0, none⟩), .int .i64 (((D.lg x : Nat) : Int) * (r : Int))] (w.drewN n) fun e w' => e = .returned (.int .i64 (D.powZ x k)) ∧ ∃ m, w' = (w.drewN n).drewN m) := by
      intro n; rw [HV.out]; exact power_any HL.out.2 (HF.out.drewN n) _ (by omega) (by omega)
    clear hx0 ha0 HV hr hk
    go_enter Try.func129, Try.ntmps129
    go_wp2_with (go_at_call 93; refine (has_any HF.out _).mono ?_; rintro e w' ⟨rfl, rfl⟩)
    go_quiet (first | (go_at_call 123; exact Calls.quiet_of_same (HR.out _)) | (go_at_call 113; exact Calls.quiet_of (HC.out _)))
    go_wp2
    go_ret
    exact ⟨rfl, _, rfl⟩
  · have ha' : D.has a = false := by simpa using ha
    have HV : Hid (D.powZ a k = -1) := by show D.powZ a k = _; rw [FD.powZ, if_pos ha']
    clear ha
    go_enter Try.func129, Try.ntmps129
    go_wp2_with (go_at_call 93; refine (has_any HF.out _).mono ?_; rintro e w' ⟨rfl, rfl⟩)
    go_ret
    exact ⟨ret_int (by rw [HV.out]), 0, rfl⟩

theorem inv_any {F T : Nat} {D : FD} (hD : D ∈ fieldsL) {g : Nat → Value} {w : World} (h : FAt F T D g w) (a : Int) :
    Calls Try.prog 121 #[.pointer (some ⟨F, 0, none⟩), .int .i64 a] w fun e w' => e = .returned (.int .i64 (D.powZ a (-1))) ∧ ∃ n, w' = w.drewN n := by
  have HF : Hid (FAt F T D g w) := h
  have HD : Hid (D ∈ fieldsL) := hD
  clear h hD
  go_enter Try.func121, Try.ntmps121
  go_wp2_with fail
  refine (pow_any HD.out HF.out a (-1) (by omega) (by omega)).mono ?_
  rintro e w' ⟨rfl, n, rfl⟩
  go_wp2
  go_ret
  exact ⟨rfl, n, rfl⟩
end Go.Proofs.Ytbpeahhhkcljeaa

/- Lists of numbers that a call makes for itself: one number more. -/
namespace Go.Proofs.Ytbpeahhhkcljeaa
open Go.RowKit

theorem Try.infoInt : (Try.prog.info? 3).map (fun i => (i.zero, i.size, i.bytes)) = some (some (.int .i64 0), 1, 8) := by kernel_rfl

/-- The slice v, made behind block number base, holds the numbers l. -/
def OwnI (base : Nat) (v : Value) (l : List Int) (w : World) : Prop := w.ownsRow base 3 1 v l.length (l.map (Value.int .i64))

theorem OwnI.nil (base : Nat) (w : World) : OwnI base (.slice none 0 0) [] w := World.ownsRow_nil _ _ _ _
theorem OwnI.alloc {base : Nat} {v : Value} {l : List Int} {w : World} (h : OwnI base v l w) (o : Obj) : OwnI base v l (w.alloc o) := World.ownsRow.alloc h o
theorem OwnI.kept {base : Nat} {v : Value} {l : List Int} {w w' : World} {row : Option Nat} (h : OwnI base v l w) (hg : w.grownBy w' row) (hne : v.ownBlock = none ∨ v.ownBlock ≠ row) : OwnI base v l w' := World.ownsRow.kept h hg hne
theorem OwnI.drewN {base : Nat} {v : Value} {l : List Int} {w : World} (h : OwnI base v l w) (n : Nat) : OwnI base v l (w.drewN n) :=
  h.kept (row := none) (grown_drewN (grown_refl _ _) n) (by cases v.ownBlock <;> simp)
/-- Old memory of the call's own: what is behind a later block number stays. -/
theorem OwnI.below {base B : Nat} {v : Value} {l : List Int} {w w' : World} (h : OwnI base v l w) (hb : Below B w w') (hB : ∀ k, v.ownBlock = some k → k < B) : OwnI base v l w' := by
  obtain ⟨h1, h2⟩ := h
  refine ⟨h1, ?_⟩
  rcases h2 with h2 | ⟨g, cap, cur, hv, hg, hh, r⟩
  · exact Or.inl h2
  · exact Or.inr ⟨g, cap, cur, hv, hg, by rw [hb.block g (hB g (by rw [hv]; rfl))]; exact hh, r⟩
theorem OwnI.lt {base : Nat} {v : Value} {l : List Int} {w : World} (h : OwnI base v l w) : ∀ k, v.ownBlock = some k → base ≤ k ∧ k < w.heap.size := World.ownsRow.lt h
theorem OwnI.mono {base base' : Nat} {v : Value} {l : List Int} {w : World} (h : OwnI base v l w) (hb : base' ≤ base) : OwnI base' v l w := by
  obtain ⟨h1, h2⟩ := h
  refine ⟨h1, ?_⟩
  rcases h2 with h2 | ⟨g, cap, cur, hv, hg, r⟩
  · exact Or.inl h2
  · exact Or.inr ⟨g, cap, cur, hv, by omega, r⟩

/-- A list that has numbers: where they lie. -/
theorem OwnI.at {base : Nat} {v : Value} {l : List Int} {w : World} (h : OwnI base v l w) (hl : l ≠ []) : ∃ g cap, v = .slice (some ⟨g, 0, none⟩) l.length cap ∧ base ≤ g ∧ g < w.heap.size ∧
    (∀ j, j < l.length → w.cell? ⟨g, j, none⟩ = some (.int .i64 (l.getD j 0))) ∧ (∀ j, w.frozen? ⟨g, j, none⟩ = false) := by
  have h' := h
  rcases h'.2 with ⟨_, h2⟩ | ⟨g, cap, cur, hv, hg, hh, r⟩
  · exact absurd (List.length_eq_zero_iff.1 h2) hl
  · have h3 : w.ownsRow base 3 1 (.slice (some ⟨g, 0, none⟩) l.length cap) l.length (l.map (Value.int .i64)) := hv ▸ h
    refine ⟨g, cap, hv, hg, lt_of_block hh, fun j hj => ?_, fun j => h3.frozenAt j⟩
    rw [h3.cellAt j (by omega), List.getElem?_map, List.getElem?_eq_getElem hj, List.getD_eq_getElem?_getD, List.getElem?_eq_getElem hj]; rfl

/-- 'l = append(l, y)', l the call's own. -/
theorem append_int {ops : Array Oper} {rest : List Oper} {o : Oper} {a : Act} {w : World} {Q : Exit → Act → World → Prop} (hgd : o.guard = none) (s x : Operand)
    (ho : o.op = .call { callee := .builtin .append, args := #[s, x], argTypes := #[23, 23] })
    (base : Nat) (v : Value) (l : List Int) (hs : a.eval s = v) (hown : OwnI base v l w) (ad : Addr) (c : Nat) (y : Int) (hx : a.eval x = .slice (some ad) 1 c) (hcell : w.cell? ad = some (.int .i64 y))
    (hlen : l.length ≤ 1000000) (hbase : base ≤ w.heap.size)
    (h : ∀ v' w', OwnI base v' (l ++ [y]) w' → w.grownBy w' v.ownBlock → wpList Try.prog ops Q rest (a.put o.dst v') w') : wpList Try.prog ops Q (o :: rest) a w := by
  obtain ⟨i0, hi, hz0, hz1, hz2⟩ := info_parts Try.infoInt
  refine wpList_append_own _ hgd s x 23 ho base 3 i0 (.int .i64 0) 1 8 Try.underlying23 hi hz0 hz1 hz2 rfl (by decide) v l.length _ hs hown ad 1 c [.int .i64 y] hx rfl ?_ ?_ ?_ ?_ hbase ?_
  · intro j u hj
    match j, hj with
    | 0, hj =>
      simp at hj; subst hj
      have : ad.add 0 = ad := by cases ad with | mk b o s => cases s <;> simp [Addr.add]
      rw [this]; exact hcell
  · intro u hu; simp at hu; subst hu; rfl
  · unfold maxLen; omega
  · omega
  · intro v' w' hown' hgrow _
    refine h v' w' ?_ hgrow
    unfold OwnI
    rw [List.map_append, List.length_append]
    exact hown'
end Go.Proofs.Ytbpeahhhkcljeaa

/- The sizes of fields, as the reference lists them (Sizes, SizeOf). -/
namespace Go.Proofs.Ytbpeahhhkcljeaa
open Go.RowKit

end Go.Proofs.Ytbpeahhhkcljeaa

/- A field of raw size, as the statements make it (fieldOf). -/
namespace Go.Proofs.Ytbpeahhhkcljeaa
open Go.RowKit

theorem FAt.ltT {F T : Nat} {D : FD} {g : Nat → Value} {w : World} (h : FAt F T D g w) : T < w.heap.size := h.row.lt

end Go.Proofs.Ytbpeahhhkcljeaa

/- What is to be true of a field, in the words of its calls. -/
namespace Go.Proofs.Ytbpeahhhkcljeaa
open Go.RowKit

theorem addZ_nat {D : FD} (_F : Fld D) {x y : Nat} (hx : x < D.q) (hy : y < D.q) : D.addZ x y = (sumD D.p D.q x y : Nat) := by
  rw [FD.addZ, if_pos ⟨nat_has hx, nat_has hy⟩]; rfl
theorem mulZ_nat {D : FD} (_F : Fld D) {x y : Nat} (hx : x < D.q) (hy : y < D.q) : D.mulZ x y = (D.mul x y : Nat) := by
  rw [FD.mulZ, if_pos ⟨nat_has hx, nat_has hy⟩]; rfl
theorem negZ_nat {D : FD} (_F : Fld D) {x : Nat} (hx : x < D.q) : D.negZ x = (negD D.p D.q x : Nat) := by
  rw [FD.negZ, if_pos (nat_has hx)]; rfl
theorem ne_false {a b : Int} (h : a = b) : (a != b) = false := by rw [h]; simp

theorem t1 {D : FD} (hD : D ∈ fieldsL) {x y : Nat} (hx : x < D.q) (hy : y < D.q) : (D.addZ x y != D.addZ y x) = false := by
  have F := fld hD
  exact ne_false (by rw [addZ_nat F hx hy, addZ_nat F hy hx, F.add_comm])
theorem t2 {D : FD} (hD : D ∈ fieldsL) {x y : Nat} (hx : x < D.q) (hy : y < D.q) : (D.mulZ x y != D.mulZ y x) = false := by
  have F := fld hD
  exact ne_false (by rw [mulZ_nat F hx hy, mulZ_nat F hy hx, F.mul_comm])
theorem inv_zero {D : FD} {x : Nat} (hx : x < D.q) (h0 : x = 0) : D.powZ x (-1) = -1 := by
  rw [FD.powZ, if_neg (by simp [nat_has hx]), if_neg (by omega), if_pos (by omega), if_pos (by omega)]
theorem inv_nat {D : FD} (hD : D ∈ fieldsL) {x : Nat} (hx : x < D.q) (h0 : x ≠ 0) : D.powZ x (-1) = (D.pw x (D.q - 2) : Nat) := by
  have F := fld hD
  have h2 := F.q2
  rw [FD.powZ, if_neg (by simp [nat_has hx]), if_neg (by omega), if_neg (by omega)]
  have : ((-1 : Int) % ((D.q - 1 : Nat) : Int)).toNat = (D.q - 2) := by
    have e : (-1 : Int) = ((D.q - 2 : Nat) : Int) + (-1) * ((D.q - 1 : Nat) : Int) := by omega
    rw [e, Int.add_mul_emod_self_right, ← Int.natCast_emod, Int.toNat_natCast]
    exact Nat.mod_eq_of_lt (by omega)
  rw [this]; rfl
theorem pw_lt {D : FD} (hD : D ∈ fieldsL) (x : Nat) (k : Nat) : D.pw x k < D.q := by
  have F := fld hD
  exact F.pow_lt _ (Nat.mod_lt _ (by have := F.q2; omega))
theorem pw_ne {D : FD} (hD : D ∈ fieldsL) (x : Nat) (k : Nat) : D.pw x k ≠ 0 ∧ D.lg (D.pw x k) = D.lg x * k % (D.q - 1) := by
  have F := fld hD
  have hn : D.lg x * k % (D.q - 1) < D.q - 1 := Nat.mod_lt _ (by have := F.q2; omega)
  exact ⟨(F.full _ hn).1, F.lg_pow _ hn⟩
theorem t11 {D : FD} (hD : D ∈ fieldsL) {x : Nat} (hx : x < D.q) (h0 : x ≠ 0) : D.mulZ x (D.powZ x (-1)) = 1 := by
  have F := fld hD
  have h2 := F.q2
  have hp := pw_ne hD x (D.q - 2)
  rw [inv_nat hD hx h0, mulZ_nat F hx (pw_lt hD _ _), FD.mul, if_neg (by omega), hp.2, Nat.add_mod_mod, show D.lg x + D.lg x * (D.q - 2) = D.lg x * (D.q - 1) from by
    rw [show D.q - 1 = (D.q - 2) + 1 from by omega, Nat.mul_add, Nat.mul_one]; omega, Nat.mul_mod_left]
  rfl
end Go.Proofs.Ytbpeahhhkcljeaa

/- The reference: digits of a number, and the number of digits. -/
namespace Go.Proofs.Ytbpeahhhkcljeaa
open Go.RowKit

/-- Digit j of a to the base p. -/
def dg (p a j : Nat) : Nat := a / p ^ j % p
def digL (p a m : Nat) : List Int := (List.range m).map fun j => ((dg p a j : Nat) : Int)
theorem digL_succ (p a m : Nat) : digL p a (m + 1) = digL p a m ++ [((dg p a m : Nat) : Int)] := by
  unfold digL; rw [List.range_succ, List.map_append]; rfl
theorem digL_len (p a m : Nat) : (digL p a m).length = m := by simp [digL]
theorem digL_get (p a m j : Nat) (h : j < m) : (digL p a m).getD j 0 = ((dg p a j : Nat) : Int) := by
  rw [List.getD_eq_getElem?_getD, List.getElem?_eq_getElem (by rw [digL_len]; exact h)]
  simp [digL]

set_option maxHeartbeats 2000000 in
theorem digits_any (a p m : Nat) (w : World) (ha : a ≤ 1000000) (hp : 1 ≤ p) (hp2 : p ≤ 64) (hm : m ≤ 1000) :
    Calls Try.prog 48 #[.int .i64 a, .int .i64 p, .int .i64 m] w fun e w' => ∃ v, e = .returned v ∧ OwnI w.heap.size v (digL p a m) w' ∧ Below w.heap.size w w' := by
  go_enter Try.func48, Try.ntmps48
  go_wp2
  go_loopw [0, 7, 8] (fun x v i wr => ∃ j y : Nat, j ≤ m ∧ y ≤ a ∧ x = .int .i64 y ∧ i = .int .i64 j ∧ Hid (y = a / p ^ j) ∧ OwnI w.heap.size v (digL p a j) wr ∧ Below w.heap.size w wr) (fun _ _ i _ => m - (intOf i).toNat)
  case atStart => exact ⟨0, a, by omega, by omega, rfl, rfl, by simp [Hid], OwnI.nil _ _, Below.refl _ _⟩
  case round =>
    obtain ⟨j, y, hj, hy, rfl, rfl, HY, hown, hbel⟩ := hrel
    have hsz := hbel.size
    have hlen := digL_len p a j
    by_cases hlt : j < m
    · have hq1 : y / p ≤ y := Nat.div_le_self _ _
      have hq2 : y % p < p := Nat.mod_lt _ (by omega)
      have HL : Hid (digL p a (j + 1) = digL p a j ++ [((y % p : Nat) : Int)]) := by
        show _ = _
        rw [digL_succ, HY.out]; rfl
      have HN : Hid (y / p = a / p ^ (j + 1)) := by
        show _ = _
        rw [HY.out, Nat.div_div_eq_div_mul, Nat.pow_succ]
      go_wp2_with (at_builtin; refine append_int rfl _ _ rfl w.heap.size _ (digL p a j) rfl (hown.alloc _) ⟨_, 0, none⟩ 1 (((y % p : Nat) : Int)) rfl (by simp) (by omega) (by simp; omega) ?_; intro v' w1 hown' hgrow')
      go_roundw
      case rel => exact ⟨j + 1, y / p, by omega, by omega, by rw [w_quo y p (by omega)], by go_num, HN.out, by rw [HL.out]; exact hown', (hbel.alloc (by omega) _).grown hgrow' (by simp; omega) (fun k hk => (hown.lt k hk).1)⟩
      case measure => simp [intOf]; omega
    · have e : j = m := by omega
      have HO : Hid (OwnI w.heap.size u7 (digL p a m) wr) := by rw [← e]; exact hown
      go_wp2
      go_ret
      exact ⟨_, rfl, HO.out, hbel⟩

/-- The number of n digits, from the highest one down, k of them. -/
def horner (p : Nat) (f : Nat → Nat) (n : Nat) : Nat → Nat
  | 0 => 0
  | k + 1 => horner p f n k * p + f (n - 1 - k)
theorem horner_lt (p : Nat) (f : Nat → Nat) (n : Nat) (hp : p ≤ 64) (hf : ∀ j, f j < 64) : ∀ k, horner p f n k < 64 ^ k
  | 0 => by simp [horner]
  | k + 1 => by
    have h1 := horner_lt p f n hp hf k
    have h2 := hf (n - 1 - k)
    rw [horner, Nat.pow_succ]
    have h3 : horner p f n k * p ≤ horner p f n k * 64 := Nat.mul_le_mul_left _ hp
    have : (horner p f n k + 1) * 64 ≤ 64 ^ k * 64 := Nat.mul_le_mul_right 64 h1
    rw [Nat.add_mul, Nat.one_mul] at this
    omega

set_option maxHeartbeats 2000000 in
theorem number_gen (g cap p n : Nat) (f : Nat → Nat) (w : World) (hp2 : p ≤ 64) (hn : n ≤ 6) (hf : ∀ j, f j < 64)
    (hc : ∀ j, j < n → w.cell? ⟨g, j, none⟩ = some (.int .i64 (f j : Nat))) :
    Calls Try.prog 87 #[.slice (some ⟨g, 0, none⟩) n cap, .int .i64 p] w fun e w' => e = .returned (.int .i64 (horner p f n n : Nat)) ∧ w' = w := by
  have HC : Hid (∀ j, j < n → w.cell? ⟨g, j, none⟩ = some (.int .i64 (f j : Nat))) := hc
  have HL : Hid (∀ k, k ≤ n → horner p f n k < 68719476736) := fun k hk => Nat.lt_of_lt_of_le (horner_lt p f n hp2 hf k) (Nat.le_trans (Nat.pow_le_pow_right (by omega) (Nat.le_trans hk hn)) (by decide))
  have HF : Hid (∀ j, f j < 64) := hf
  clear hc hf
  go_enter Try.func87, Try.ntmps87
  go_wp2
  go_loop [5, 6] (fun a i => ∃ r : Nat, r ≤ n ∧ i = .int .i64 ((r : Int) - 1) ∧ a = .int .i64 (horner p f n (n - r) : Nat)) (fun _ i => (intOf i + 1).toNat)
  case atStart => exact ⟨n, by omega, rfl, by rw [Nat.sub_self]; rfl⟩
  case round =>
    obtain ⟨r, hr, hi, rfl⟩ := hrel
    have hb := HL.out (n - r) (by omega)
    cases r with
    | succ s =>
      have hi' : u6 = .int .i64 (s : Int) := by rw [hi]; go_num
      clear hi
      subst hi'
      have hcl : w.cell? ⟨g, s, none⟩ = some (.int .i64 (f s : Nat)) := HC.out _ (by omega)
      have hfl := HF.out s
      obtain ⟨x, hx⟩ : ∃ x, x = horner p f n (n - (s + 1)) := ⟨_, rfl⟩
      have HX : Hid (horner p f n (n - s) = x * p + f s) := by
        show _ = _
        rw [hx, show n - s = (n - (s + 1)) + 1 from by omega, horner, show n - 1 - (n - (s + 1)) = s from by omega]
      rw [← hx] at hb ⊢
      clear hx
      have hm : x * p ≤ 68719476736 * 64 := Nat.mul_le_mul (by omega) hp2
      have h4 : (x : Int) * (p : Int) ≤ 4398046511104 := by rw [← Int.natCast_mul]; omega
      have h5 : 0 ≤ (x : Int) * (p : Int) := by rw [← Int.natCast_mul]; omega
      go_wp2
      go_round
      case rel => exact ⟨s, by omega, by go_num, by rw [HX.out]; go_num⟩
      case measure => simp [intOf]
    | zero =>
      have hi' : u6 = .int .i64 (-1) := by rw [hi]; rfl
      clear hi
      subst hi'
      go_wp2
      go_ret
      exact ⟨rfl, rfl⟩

theorem number_any (g cap p n : Nat) (f : Nat → Nat) (w : World) (_hp : 1 ≤ p) (hp2 : p ≤ 64) (hn : n ≤ 6) (_hpn : p ^ n ≤ 4096) (hf : ∀ j, f j < p)
    (hc : ∀ j, j < n → w.cell? ⟨g, j, none⟩ = some (.int .i64 (f j : Nat))) :
    Calls Try.prog 87 #[.slice (some ⟨g, 0, none⟩) n cap, .int .i64 p] w fun e w' => e = .returned (.int .i64 (horner p f n n : Nat)) ∧ w' = w :=
  number_gen g cap p n f w hp2 hn (fun j => Nat.lt_of_lt_of_le (hf j) hp2) hc
end Go.Proofs.Ytbpeahhhkcljeaa

/- The reference: sums and opposites, as it reckons them. -/
namespace Go.Proofs.Ytbpeahhhkcljeaa
open Go.RowKit

/-- The reference's field, as a value. -/
def rf (q p m gen : Nat) (v : Value) : Value := .agg #[.int .i64 q, .int .i64 p, .int .i64 m, .int .i64 gen, v]

def raddN (D : FD) (a b : Nat) : Nat := if D.m = 1 then (a + b) % D.p else if D.p = 2 then a ^^^ b else horner D.p (fun j => (dg D.p a j + dg D.p b j) % D.p) D.m D.m
def rnegN (D : FD) (a : Nat) : Nat := horner D.p (fun j => (D.p - dg D.p a j) % D.p) D.m D.m
def chkRAdd (D : FD) : Bool := allB D.q fun a => rnegN D a == negD D.p D.q a && allB D.q fun b => raddN D a b == sumD D.p D.q a b
theorem chkRAdd_all : fieldsL.all chkRAdd = true := by decide +kernel
theorem radd_is {D : FD} (h : D ∈ fieldsL) (a b : Nat) (ha : a < D.q) (hb : b < D.q) : raddN D a b = sumD D.p D.q a b := by
  have := allB_of (List.all_eq_true.1 chkRAdd_all D h) a ha
  rw [Bool.and_eq_true] at this
  exact beq_iff_eq.1 (allB_of this.2 b hb)
theorem rneg_is {D : FD} (h : D ∈ fieldsL) (a : Nat) (ha : a < D.q) : rnegN D a = negD D.p D.q a := by
  have := allB_of (List.all_eq_true.1 chkRAdd_all D h) a ha
  rw [Bool.and_eq_true] at this
  exact beq_iff_eq.1 this.1

theorem xor_small (a b : Nat) (ha : a < 64) (hb : b < 64) : bits .xor .i64 (a : Int) (b : Int) = ((a ^^^ b : Nat) : Int) := xor64_nat a b ha hb

/-- Old cells behind a call that only makes memory. -/
theorem bcell {B : Nat} {W w1 : World} (hb : Below B W w1) : (∀ b o, b < B → w1.cell? ⟨b, o, none⟩ = W.cell? ⟨b, o, none⟩) ∧ (∀ b o, b < B → w1.frozen? ⟨b, o, none⟩ = W.frozen? ⟨b, o, none⟩) :=
  ⟨fun b o h => hb.cell (p := ⟨b, o, none⟩) h, fun b o h => hb.frozen (p := ⟨b, o, none⟩) h⟩

theorem rhas_any (D : FD) (gen : Nat) (v : Value) (a : Int) (w : World) :
    Calls Try.prog 45 #[rf D.q D.p D.m gen v, .int .i64 a] w fun e w' => e = .returned (.bool (D.has a)) ∧ Below w.heap.size w w' := by
  unfold rf
  by_cases h0 : 0 ≤ a
  · have HV : Hid (D.has a = decide (a < D.q)) := by show D.has a = _; simp [FD.has, h0]
    go_enter Try.func45, Try.ntmps45
    go_wp2
    go_ret
    exact ⟨ret_bool (by rw [HV.out]), (Below.refl _ _).alloc (Nat.le_refl _) _⟩
  · have HV : Hid (D.has a = false) := by show D.has a = _; simp [FD.has, h0]
    go_enter Try.func45, Try.ntmps45
    go_wp2
    go_ret
    exact ⟨ret_bool (by rw [HV.out]), (Below.refl _ _).alloc (Nat.le_refl _) _⟩

set_option maxHeartbeats 2000000 in
theorem radd_no {D : FD} (gen : Nat) (v : Value) (a b : Int) (w : World) (h : D.has a = false ∨ D.has b = false) :
    Calls Try.prog 49 #[rf D.q D.p D.m gen v, .int .i64 a, .int .i64 b] w fun e w' => e = .returned (.int .i64 (-1)) ∧ Below w.heap.size w w' := by
  by_cases ha : D.has a = true
  · have hb : D.has b = false := by rcases h with h | h; · rw [ha] at h; cases h
                                    · exact h
    clear h
    unfold rf
    go_enter Try.func49, Try.ntmps49
    go_wp2_with fail
    refine (rhas_any D gen v a _).mono ?_
    rintro e w1 ⟨rfl, hb1⟩
    obtain ⟨hc1, hf1⟩ := bcell hb1
    have HB1 : Hid (Below w.heap.size w w1) := ((Below.refl _ _).alloc (Nat.le_refl _) _).trans (hb1.mono (by simp))
    clear hb1
    go_wp2_with fail
    refine (rhas_any D gen v b _).mono ?_
    rintro e w2 ⟨rfl, hb2⟩
    have HB2 : Hid (Below w.heap.size w w2) := HB1.out.trans (hb2.mono HB1.out.size)
    clear hb2 hc1 hf1
    go_wp2
    go_ret
    exact ⟨rfl, HB2.out⟩
  · have ha' : D.has a = false := by simpa using ha
    clear h ha
    unfold rf
    go_enter Try.func49, Try.ntmps49
    go_wp2_with fail
    refine (rhas_any D gen v a _).mono ?_
    rintro e w1 ⟨rfl, hb1⟩
    have HB1 : Hid (Below w.heap.size w w1) := ((Below.refl _ _).alloc (Nat.le_refl _) _).trans (hb1.mono (by simp))
    clear hb1
    go_wp2
    go_ret
    exact ⟨rfl, HB1.out⟩

set_option maxHeartbeats 2000000 in
theorem radd_one {D : FD} (hm : D.m = 1) (hp : 1 ≤ D.p) (hp2 : D.p ≤ 64) (gen : Nat) (v : Value) (a b : Nat) (w : World) (ha : a < 64) (hb : b < 64) (h1 : D.has a = true) (h2 : D.has b = true) :
    Calls Try.prog 49 #[rf D.q D.p D.m gen v, .int .i64 a, .int .i64 b] w fun e w' => e = .returned (.int .i64 ((a + b) % D.p : Nat)) ∧ Below w.heap.size w w' := by
  have hm' : ((D.m : Int) == 1) = true := by rw [hm]; rfl
  clear hm
  unfold rf
  go_enter Try.func49, Try.ntmps49
  go_wp2_with fail
  refine (rhas_any D gen v a _).mono ?_
  rintro e w1 ⟨rfl, hb1⟩
  obtain ⟨hc1, hf1⟩ := bcell hb1
  have hs1 : w.heap.size < w1.heap.size := by have := hb1.size; simp at this; omega
  have HB1 : Hid (Below w.heap.size w w1) := ((Below.refl _ _).alloc (Nat.le_refl _) _).trans (hb1.mono (by simp))
  clear hb1
  go_wp2_with fail
  refine (rhas_any D gen v b _).mono ?_
  rintro e w2 ⟨rfl, hb2⟩
  obtain ⟨hc2, hf2⟩ := bcell hb2
  have HB2 : Hid (Below w.heap.size w w2) := HB1.out.trans (hb2.mono HB1.out.size)
  clear hb2
  go_wp2
  go_ret
  exact ⟨ret_int (by go_num), HB2.out⟩

set_option maxHeartbeats 2000000 in
theorem radd_two {D : FD} (hm : D.m ≠ 1) (hp : D.p = 2) (gen : Nat) (v : Value) (a b : Nat) (w : World) (ha : a < 64) (hb : b < 64) (h1 : D.has a = true) (h2 : D.has b = true) :
    Calls Try.prog 49 #[rf D.q D.p D.m gen v, .int .i64 a, .int .i64 b] w fun e w' => e = .returned (.int .i64 (a ^^^ b : Nat)) ∧ Below w.heap.size w w' := by
  have hm' : ((D.m : Int) == 1) = false := by rw [beq_eq_false_iff_ne]; omega
  have hp' : ((D.p : Int) == 2) = true := by rw [hp]; rfl
  clear hm hp
  unfold rf
  go_enter Try.func49, Try.ntmps49
  go_wp2_with fail
  refine (rhas_any D gen v a _).mono ?_
  rintro e w1 ⟨rfl, hb1⟩
  obtain ⟨hc1, hf1⟩ := bcell hb1
  have hs1 : w.heap.size < w1.heap.size := by have := hb1.size; simp at this; omega
  have HB1 : Hid (Below w.heap.size w w1) := ((Below.refl _ _).alloc (Nat.le_refl _) _).trans (hb1.mono (by simp))
  clear hb1
  go_wp2_with fail
  refine (rhas_any D gen v b _).mono ?_
  rintro e w2 ⟨rfl, hb2⟩
  obtain ⟨hc2, hf2⟩ := bcell hb2
  have HB2 : Hid (Below w.heap.size w w2) := HB1.out.trans (hb2.mono HB1.out.size)
  clear hb2
  go_wp2
  go_ret
  exact ⟨ret_int (xor_small a b ha hb), HB2.out⟩
end Go.Proofs.Ytbpeahhhkcljeaa
