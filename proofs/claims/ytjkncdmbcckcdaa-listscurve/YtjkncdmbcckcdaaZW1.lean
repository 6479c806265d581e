/- Texts of ours, one behind the other: W1 A2. -/
import Derived.WalkKit
import Derived.Laws.Rows
import Derived.Deep.QuietTactic
import Derived.BigQuiet
import Derived.Test.YtjkncdmbcckcdaaZA1
/- Worlds: a block whose cells are told by a function of the place; what a store does to it. No Go text here. -/
namespace Go.Proofs.Ytjkncdmbcckcdaa
open Go.RowKit

/-- Block T has n cells (of element type t, none frozen); the cell at place o holds f o. -/
def RowF (T n : Nat) (t : TypeId) (f : Nat → Value) (w : World) : Prop :=
  ∃ cs : Array Value, w.heap[T]? = some (.cells cs t (0, 0)) ∧ cs.size = n ∧ ∀ o, o < n → cs[o]? = some (f o)

/-- The function f, but for one place. -/
def upd (f : Nat → Value) (o : Nat) (v : Value) : Nat → Value := fun i => if i = o then v else f i
theorem upd_at (f : Nat → Value) (o : Nat) (v : Value) : upd f o v o = v := if_pos rfl
theorem upd_ne (f : Nat → Value) (o : Nat) (v : Value) {i : Nat} (h : i ≠ o) : upd f o v i = f i := if_neg h

theorem RowF.cell {T n : Nat} {t : TypeId} {f : Nat → Value} {w : World} (h : RowF T n t f w) (o : Nat) (ho : o < n) : w.cell? ⟨T, o, none⟩ = some (f o) := by
  obtain ⟨cs, h1, h2, h3⟩ := h
  rw [cell_of_row w T o cs t (0, 0) h1]; exact h3 o ho
theorem RowF.free {T n : Nat} {t : TypeId} {f : Nat → Value} {w : World} (h : RowF T n t f w) (o : Nat) : w.frozen? ⟨T, o, none⟩ = false := by
  obtain ⟨cs, h1, h2, h3⟩ := h
  exact frozen_of_row w T o cs t h1
theorem RowF.lt {T n : Nat} {t : TypeId} {f : Nat → Value} {w : World} (h : RowF T n t f w) : T < w.heap.size := by
  obtain ⟨cs, h1, h2, h3⟩ := h
  exact lt_of_block h1
theorem RowF.other {T n : Nat} {t : TypeId} {f : Nat → Value} {w w' : World} (h : RowF T n t f w) (e : w'.heap[T]? = w.heap[T]?) : RowF T n t f w' := by
  obtain ⟨cs, h1, h2, h3⟩ := h
  exact ⟨cs, e.trans h1, h2, h3⟩
theorem RowF.congr {T n : Nat} {t : TypeId} {f g : Nat → Value} {w : World} (h : RowF T n t f w) (e : ∀ o, o < n → f o = g o) : RowF T n t g w := by
  obtain ⟨cs, h1, h2, h3⟩ := h
  exact ⟨cs, h1, h2, fun o ho => by rw [h3 o ho, e o ho]⟩
theorem RowF.store {T n : Nat} {t : TypeId} {f : Nat → Value} {w : World} (h : RowF T n t f w) (o : Nat) (v : Value) : RowF T n t (upd f o v) (w.setCell ⟨T, o, none⟩ v) := by
  obtain ⟨cs, h1, h2, h3⟩ := h
  have hlt := lt_of_block h1
  have h' : w.heap[T] = .cells cs t (0, 0) := by simpa [Array.getElem?_eq_getElem hlt] using h1
  refine ⟨cs.setIfInBounds o v, ?_, by simpa using h2, ?_⟩
  · show (w.heap.modify T _)[T]? = _
    rw [Array.getElem?_eq_getElem (by simpa using hlt), Array.getElem_modify_self, h']
    rfl
  · intro i hi
    unfold upd
    rw [Array.getElem?_setIfInBounds]
    by_cases e : o = i
    · subst e; simp [h2, hi]
    · rw [if_neg e, if_neg (fun h => e h.symm)]; exact h3 i hi
theorem RowF.alloc {T n : Nat} {t : TypeId} {f : Nat → Value} {w : World} (h : RowF T n t f w) (o : Obj) : RowF T n t f (w.alloc o) :=
  h.other (Below.heap_alloc w o T h.lt)
theorem RowF.drewN {T n : Nat} {t : TypeId} {f : Nat → Value} {w : World} (h : RowF T n t f w) (k : Nat) : RowF T n t f (w.drewN k) :=
  h.other rfl
theorem RowF.drew {T n : Nat} {t : TypeId} {f : Nat → Value} {w : World} (h : RowF T n t f w) : RowF T n t f w.drew :=
  h.other rfl
theorem RowF.setOther {T n : Nat} {t : TypeId} {f : Nat → Value} {w : World} (h : RowF T n t f w) (a : Addr) (ha : T ≠ a.block) (v : Value) : RowF T n t f (w.setCell a v) :=
  h.other (Below.heap_setCell w a v T ha)
theorem RowF.grown {T n : Nat} {t : TypeId} {f : Nat → Value} {w w' : World} {row : Option Nat} (h : RowF T n t f w) (hg : w.grownBy w' row) (hne : some T ≠ row) : RowF T n t f w' :=
  h.other (hg.block T h.lt hne)
theorem RowF.below {T n B : Nat} {t : TypeId} {f : Nat → Value} {w w' : World} (h : RowF T n t f w) (hb : Below B w w') (hT : T < B) : RowF T n t f w' :=
  h.other (hb.block T hT)

theorem grown_refl (w : World) (row : Option Nat) : w.grownBy w row := ⟨rfl, rfl, rfl, Nat.le_refl _, fun _ _ _ => rfl⟩
theorem grown_trans {a b c : World} {row : Option Nat} (h : a.grownBy b row) (k : b.grownBy c row) : a.grownBy c row :=
  ⟨k.os.trans h.os, k.tape.trans h.tape, k.output.trans h.output, Nat.le_trans h.size k.size, fun i hi hn => (k.block i (Nat.lt_of_lt_of_le hi h.size) hn).trans (h.block i hi hn)⟩
theorem grown_drewN {a b : World} {row : Option Nat} (h : a.grownBy b row) (n : Nat) : a.grownBy (b.drewN n) row :=
  ⟨h.os, h.tape, h.output, h.size, h.block⟩
theorem grown_drew {a b : World} {row : Option Nat} (h : a.grownBy b row) : a.grownBy b.drew row :=
  ⟨h.os, h.tape, h.output, h.size, h.block⟩
theorem grown_set {a b : World} {T : Nat} (h : a.grownBy b (some T)) (o : Nat) (v : Value) : a.grownBy (b.setCell ⟨T, o, none⟩ v) (some T) :=
  grown_trans h ⟨rfl, rfl, rfl, by simp [World.setCell], fun i _ hn => Below.heap_setCell _ _ _ _ (fun e => hn (by simp [e]))⟩
/-- What writes a block of the call's own, and new ones, leaves all below as it was. -/
theorem below_grown {a b : World} {B : Nat} {row : Option Nat} (h : a.grownBy b row) (hB : B ≤ a.heap.size) (hr : ∀ k, row = some k → B ≤ k) : Below B a b :=
  (Below.refl B a).grown h hB hr
end Go.Proofs.Ytjkncdmbcckcdaa

/- The calls that make a field's table, one by one: sums. -/
namespace Go.Proofs.Ytjkncdmbcckcdaa
open Go.RowKit

theorem w_nat (a : Nat) (h : a ≤ 9223372036854775807) : wrap64 (a : Int) = (a : Int) := by unfold wrap64; omega
theorem w_quo (a b : Nat) (h : a ≤ 9223372036854775807) : wrap64 ((a : Int) / (b : Int)) = ((a / b : Nat) : Int) :=
  w_nat (a / b) (Nat.le_trans (Nat.div_le_self a b) h)

theorem sum_step (x a b y p : Nat) (hx : x ≤ 28672) (h1 : a / y ≤ 64) (h2 : b / y ≤ 64) (h4 : (a / y + b / y) % p * y ≤ 64 * 64) (ha : a < 64) (hb : b < 64) :
    wrap64 ((x : Int) + wrap64 ((wrap64 (wrap64 ((a : Int) / (y : Int)) + wrap64 ((b : Int) / (y : Int)))).tmod (p : Int) * (y : Int))) = ((x + (a / y + b / y) % p * y : Nat) : Int) := by
  rw [w_quo a y (by omega), w_quo b y (by omega)]
  have e1 : wrap64 (((a / y : Nat) : Int) + ((b / y : Nat) : Int)) = ((a / y + b / y : Nat) : Int) := w_nat (a / y + b / y) (by omega)
  rw [e1]
  have e2 : (((a / y + b / y : Nat) : Int).tmod (p : Int) * (y : Int)) = (((a / y + b / y) % p * y : Nat) : Int) := rfl
  rw [e2, w_nat _ (by omega)]
  exact w_nat (x + (a / y + b / y) % p * y) (by omega)

theorem xor64_chk : ((List.range 64).all fun a => (List.range 64).all fun b => bits .xor .i64 (a : Int) (b : Int) == ((a ^^^ b : Nat) : Int)) = true := by decide +kernel
theorem xor64_nat (a b : Nat) (ha : a < 64) (hb : b < 64) : bits .xor .i64 (a : Int) (b : Int) = ((a ^^^ b : Nat) : Int) := by
  have h := List.all_eq_true.1 xor64_chk a (List.mem_range.2 ha)
  exact beq_iff_eq.1 (List.all_eq_true.1 h b (List.mem_range.2 hb))

set_option maxHeartbeats 1000000 in
theorem sum_any (T p q a b : Nat) (w : World) (hp : 2 ≤ p) (hp2 : p ≤ 64) (hq : q ≤ 64) (ha : a < q) (hb : b < q) (htwo : Two p q)
    (hc0 : w.cell? ⟨T, 0, none⟩ = some (.int .i64 q)) (hc1 : w.cell? ⟨T, 1, none⟩ = some (.int .i64 p)) :
    Calls Try.prog 142 #[.pointer (some ⟨T, 0, none⟩), .int .i64 a, .int .i64 b] w fun e w' => e = .returned (.int .i64 (sumD p q a b)) ∧ ∃ n, w' = w.drewN n := by
  by_cases h2 : p = 2
  · have HV : Hid (sumD p q a b = a ^^^ b) := (htwo h2).1 a b ha hb
    have HX : Hid (bits .xor .i64 (a : Int) (b : Int) = ((a ^^^ b : Nat) : Int)) := xor64_nat a b (by omega) (by omega)
    have hz : ((p : Int) == 2) = true := by rw [h2]; rfl
    clear htwo h2
    go_enter Try.func142, Try.ntmps142
    go_wp2
    go_ret
    exact ⟨ret_int (by rw [HV.out, ← HX.out]), 0, rfl⟩
  have hz : ((p : Int) == 2) = false := by rw [beq_eq_false_iff_ne]; omega
  clear htwo h2
  have hD := sumD_le p q a b (by omega) hp2 hq
  go_enter Try.func142, Try.ntmps142
  go_wp2
  go_loopw [7, 8] (fun s u wr => ∃ j x y : Nat, 1 ≤ y ∧ y ≤ 4096 ∧ x ≤ 28672 ∧ 2 ^ j ≤ y ∧ s = .int .i64 x ∧ u = .int .i64 y ∧ Hid (x + sumFrom p q a b (7 - j) y = sumD p q a b) ∧ ∃ n, wr = w.drewN n) (fun _ u _ => 64 - (intOf u).toNat)
  case atStart => exact ⟨0, 0, 1, by omega, by omega, by omega, by omega, rfl, rfl, by simp [Hid, sumD], 0, rfl⟩
  case round =>
    obtain ⟨j, x, y, hy1, hy, hx, hj, rfl, rfl, HS, n, rfl⟩ := hrel
    by_cases hlt : y < q
    · have HJ : Hid (2 ^ j ≤ y) := hj
      clear hj
      have h1 : a / y ≤ 64 := Nat.le_trans (Nat.div_le_self _ _) (by omega)
      have h2 : b / y ≤ 64 := Nat.le_trans (Nat.div_le_self _ _) (by omega)
      have h3 : (a / y + b / y) % p < p := Nat.mod_lt _ (by omega)
      have h4 : (a / y + b / y) % p * y ≤ 64 * 64 := Nat.mul_le_mul (by omega) (by omega)
      have h5 : y * p ≤ 64 * 64 := Nat.mul_le_mul (by omega) (by omega)
      have h6 := mul_gt y p hy1 hp
      have HR : Hid (j < 7 ∧ 2 ^ (j + 1) ≤ y * p ∧ x + (a / y + b / y) % p * y + sumFrom p q a b (7 - (j + 1)) (y * p) = sumD p q a b) := by
        have hj7 : j < 7 := by
          rcases Nat.lt_or_ge j 7 with h | h
          · exact h
          · have : 2 ^ 7 ≤ 2 ^ j := Nat.pow_le_pow_right (by omega) h
            have := HJ.out
            omega
        refine ⟨hj7, by rw [Nat.pow_succ]; exact Nat.mul_le_mul HJ.out hp, ?_⟩
        have := HS.out
        rw [show 7 - j = (7 - (j + 1)) + 1 from by omega, sumFrom_lo p q a b _ y hlt] at this
        omega
      clear HJ
      go_wp2
      go_quiet (fail)
      go_wp2
      go_roundw
      case rel => exact ⟨j + 1, x + (a / y + b / y) % p * y, y * p, by omega, by omega, by have := HR.out.2.2; omega, HR.out.2.1, by rw [sum_step x a b y p hx h1 h2 h4 (by omega) (by omega)], by go_num, HR.out.2.2, _, rfl⟩
      case measure =>
        show 64 - (((y * p : Nat) : Int)).toNat < 64 - ((y : Nat) : Int).toNat
        rw [Int.toNat_natCast, Int.toNat_natCast]; omega
    · have HV : Hid (x = sumD p q a b) := by have := HS.out; rw [sumFrom_hi _ _ _ _ _ _ hlt] at this; show x = _; omega
      go_wp2
      go_ret
      exact ⟨ret_int (by rw [HV.out]), _, rfl⟩
end Go.Proofs.Ytjkncdmbcckcdaa
