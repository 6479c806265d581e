/- Texts of ours, one behind the other: A1 M1 W1 A2. -/
import Derived.Test.YtjkncdmbcckcdabProg
import Derived.WalkKit
import Derived.Laws.Rows
import Derived.Deep.QuietTactic
import Derived.BigQuiet
/- The raw numbers of the reference package: which of n things a number speaks of (Pick), of which prime a number is a power (Prime). -/
namespace Go.Proofs.Ytjkncdmbcckcdab
open Go.RowKit

def pick (c n : Int) : Int := (if c < 0 then -(c + 1) else c) % n

theorem pick_lo (c n : Int) (h : 0 < n) : 0 ≤ pick c n := by unfold pick; exact Int.emod_nonneg _ (by omega)
theorem pick_hi (c n : Int) (h : 0 < n) : pick c n < n := by unfold pick; exact Int.emod_lt_of_pos _ h

theorem ret_int {k : IntKind} {a b : Int} (h : a = b) : Ending.returned (.int k a) = .returned (.int k b) := by rw [h]
theorem ret_int2 {k l : IntKind} {a b c d : Int} (h : a = b) (h' : c = d) : Ending.returned (.tuple #[.int k a, .int l c]) = .returned (.tuple #[.int k b, .int l d]) := by rw [h, h']

theorem pick_any (c n : Int) (w : World) (hb1 : -9223372036854775808 ≤ c) (hb2 : c ≤ 9223372036854775807) (h : 0 < n) (h2 : n ≤ 9223372036854775807) :
    Calls Try.prog 4 #[.int .i64 c, .int .i64 n] w fun e w' => e = .returned (.int .i64 (pick c n)) ∧ w' = w := by
  by_cases hneg : c < 0
  · go_enter Try.func4, Try.ntmps4
    go_wp2
    go_ret
    exact ⟨ret_int (by unfold pick; rw [if_pos hneg, ← Int.neg_tmod, Int.tmod_eq_emod_of_nonneg (by omega)]), rfl⟩
  · go_enter Try.func4, Try.ntmps4
    go_wp2
    go_ret
    exact ⟨ret_int (by unfold pick; rw [if_neg (by omega)]), rfl⟩

/-- Of which prime a number is a power, and which: as it is looked for. -/
def ppLow (q : Nat) : Nat → Nat → Nat
  | 0, p => p
  | k + 1, p => if q % p = 0 then p else ppLow q k (p + 1)
def ppCut (p : Nat) : Nat → Nat → Nat → Nat × Nat
  | 0, q, m => (q, m)
  | k + 1, q, m => if q % p = 0 then ppCut p k (q / p) (m + 1) else (q, m)
def pp (q : Nat) : Nat × Nat :=
  let p := ppLow q q 2
  let r := ppCut p 7 q 0
  if r.1 = 1 then (p, r.2) else (0, 0)

def ppChk : Bool := (List.range 65).all fun q => (List.range 65).all fun p => !(decide (2 ≤ q) && decide (2 ≤ p) && q % p == 0) || !((List.range p).all fun r => decide (r < 2) || !(q % r == 0)) ||
  (List.range 7).all fun j => !(q % p ^ j == 0) || (q / p ^ j) % p == 0 || pp q == if q / p ^ j = 1 then (p, j) else (0, 0)
theorem ppChk_true : ppChk = true := by decide +kernel

theorem pp_is (q p j : Nat) (hq : q < 65) (h2 : 2 ≤ q) (hp : p < 65) (hp2 : 2 ≤ p) (hd : q % p = 0) (hn : ∀ r < p, 2 ≤ r → ¬ q % r = 0) (hj : j < 7) (hc : q % p ^ j = 0) (he : ¬ (q / p ^ j) % p = 0) :
    pp q = if q / p ^ j = 1 then (p, j) else (0, 0) := by
  have h := ppChk_true
  unfold ppChk at h
  rw [List.all_eq_true] at h
  have h := h q (List.mem_range.2 hq)
  rw [List.all_eq_true] at h
  have h := h p (List.mem_range.2 hp)
  have hr : ((List.range p).all fun r => decide (r < 2) || !(q % r == 0)) = true := by
    rw [List.all_eq_true]; intro r hr
    have := hn r (List.mem_range.1 hr)
    by_cases h2 : r < 2
    · simp [h2]
    · simp [this (by omega)]
  rw [hr] at h
  simp only [h2, hp2, hd, decide_true, beq_self_eq_true, Bool.and_self, Bool.not_true, Bool.false_or] at h
  rw [List.all_eq_true] at h
  have h := h j (List.mem_range.2 hj)
  simp only [hc, beq_self_eq_true, Bool.not_true, Bool.false_or, Bool.or_eq_true, beq_iff_eq] at h
  rcases h with h | h
  · exact absurd h he
  · exact h

theorem pow_le_of_dvd (q p j : Nat) (hq : q < 65) (h2 : 2 ≤ q) (hp : 2 ≤ p) (h : q % p ^ j = 0) : j < 7 := by
  have h1 : p ^ j ≤ q := Nat.le_of_dvd (by omega) (Nat.dvd_of_mod_eq_zero h)
  rcases Nat.lt_or_ge j 7 with h7 | h7
  · exact h7
  · have : 2 ^ 7 ≤ p ^ j := Nat.le_trans (Nat.pow_le_pow_left hp 7) (Nat.pow_le_pow_right (by omega) h7)
    omega

theorem cut_step (q p j : Nat) (h : q % p ^ j = 0) (h' : (q / p ^ j) % p = 0) : q % p ^ (j + 1) = 0 := by
  obtain ⟨a, ha⟩ := Nat.dvd_of_mod_eq_zero h
  by_cases hp : p ^ j = 0
  · rw [hp] at ha; simp at ha; subst ha; simp
  · rw [ha, Nat.mul_div_cancel_left _ (by omega)] at h'
    obtain ⟨b, hb⟩ := Nat.dvd_of_mod_eq_zero h'
    rw [ha, hb, Nat.pow_succ, ← Nat.mul_assoc]; simp

theorem prime_end (q k j : Nat) (hq : q < 65) (h2 : 2 ≤ q) (hk : k < 65) (hk2 : 2 ≤ k) (hd : q % k = 0) (hn : ∀ r < k, 2 ≤ r → ¬ q % r = 0) (hc : q % k ^ j = 0) (he : ¬ (q / k ^ j) % k = 0) (x : Nat) (hx : x = q / k ^ j) :
    (x = 1 → pp q = (k, j)) ∧ (x ≠ 1 → pp q = (0, 0)) := by
  have := pp_is q k j hq h2 hk hk2 hd hn (pow_le_of_dvd q k j hq h2 hk2 hc) hc he
  rw [← hx] at this
  exact ⟨fun h => by rw [this, if_pos h], fun h => by rw [this, if_neg h]⟩

end Go.Proofs.Ytjkncdmbcckcdab

/- Plain mathematics of a field's table: sums digit by digit. No Go text here. -/
namespace Go.Proofs.Ytjkncdmbcckcdab

/-- The sum of two numbers' digits, from a unit on, without carrying. -/
def sumFrom (p q a b : Nat) : Nat → Nat → Nat
  | 0, _ => 0
  | k + 1, u => if u < q then (a / u + b / u) % p * u + sumFrom p q a b k (u * p) else 0
def sumD (p q a b : Nat) : Nat := sumFrom p q a b 7 1

theorem sumFrom_lo (p q a b k u : Nat) (h : u < q) : sumFrom p q a b (k + 1) u = (a / u + b / u) % p * u + sumFrom p q a b k (u * p) := by
  rw [sumFrom, if_pos h]
theorem sumFrom_hi (p q a b k u : Nat) (h : ¬ u < q) : sumFrom p q a b k u = 0 := by
  cases k with
  | zero => rfl
  | succ k => rw [sumFrom, if_neg h]
theorem sumFrom_le (p q a b : Nat) (hp : 0 < p) (hp2 : p ≤ 64) (hq : q ≤ 64) : ∀ k u, sumFrom p q a b k u ≤ k * 4096
  | 0, _ => by simp [sumFrom]
  | k + 1, u => by
    rw [sumFrom]
    split
    · have h3 : (a / u + b / u) % p < p := Nat.mod_lt _ hp
      have h4 : (a / u + b / u) % p * u ≤ 64 * 64 := Nat.mul_le_mul (by omega) (by omega)
      have := sumFrom_le p q a b hp hp2 hq k (u * p)
      omega
    · omega
theorem sumD_le (p q a b : Nat) (hp : 0 < p) (hp2 : p ≤ 64) (hq : q ≤ 64) : sumD p q a b ≤ 28672 := sumFrom_le p q a b hp hp2 hq 7 1
/-- The opposite, digit by digit. -/
def negFrom (p q a : Nat) : Nat → Nat → Nat
  | 0, _ => 0
  | k + 1, u => if u < q then (p - a / u % p) % p * u + negFrom p q a k (u * p) else 0
def negD (p q a : Nat) : Nat := negFrom p q a 7 1

theorem negFrom_lo (p q a k u : Nat) (h : u < q) : negFrom p q a (k + 1) u = (p - a / u % p) % p * u + negFrom p q a k (u * p) := by
  rw [negFrom, if_pos h]
theorem negFrom_hi (p q a k u : Nat) (h : ¬ u < q) : negFrom p q a k u = 0 := by
  cases k with
  | zero => rfl
  | succ k => rw [negFrom, if_neg h]
theorem negFrom_le (p q a : Nat) (hp : 0 < p) (hp2 : p ≤ 64) (hq : q ≤ 64) : ∀ k u, negFrom p q a k u ≤ k * 4096
  | 0, _ => by simp [negFrom]
  | k + 1, u => by
    rw [negFrom]
    split
    · have h3 : (p - a / u % p) % p < p := Nat.mod_lt _ hp
      have h4 : (p - a / u % p) % p * u ≤ 64 * 64 := Nat.mul_le_mul (by omega) (by omega)
      have := negFrom_le p q a hp hp2 hq k (u * p)
      omega
    · omega
theorem negD_le (p q a : Nat) (hp : 0 < p) (hp2 : p ≤ 64) (hq : q ≤ 64) : negD p q a ≤ 28672 := negFrom_le p q a hp hp2 hq 7 1

/-- Where the prime is 2, sums are told bit by bit, and each element is its own opposite. -/
def Two (p q : Nat) : Prop := p = 2 → (∀ a b, a < q → b < q → sumD p q a b = a ^^^ b) ∧ ∀ a, a < q → negD p q a = a

/-- A function's value, again and again. -/
def again (st : Nat → Nat) : Nat → Nat → Nat
  | 0, a => a
  | k + 1, a => st (again st k a)
/-- An element times x, by a modulus whose lower part is low. -/
def timesX (p q low a : Nat) : Nat := again (fun r => sumD p q r (negD p q low)) (a * p / q) (a * p % q)

theorem again_lt (st : Nat → Nat) (q : Nat) (h : ∀ a, a < q → st a < q) : ∀ k a, a < q → again st k a < q
  | 0, _, ha => ha
  | k + 1, a, ha => h _ (again_lt st q h k a ha)

theorem timesX_lt {p q low a : Nat} (hsum : ∀ a b, a < q → b < q → sumD p q a b < q) (hneg : ∀ a, a < q → negD p q a < q) (hl : low < q) (hq : 0 < q) : timesX p q low a < q :=
  again_lt _ q (fun r hr => hsum r _ hr (hneg low hl)) _ _ (Nat.mod_lt _ hq)

/-- The powers from 1 on are all but 0, so far. -/
def Full (st : Nat → Nat) (n : Nat) : Prop := ∀ k, k < n → again st k 1 ≠ 0 ∧ ∀ j, j < k → again st j 1 ≠ again st k 1

theorem mul_gt (y p : Nat) (hy : 1 ≤ y) (hp : 2 ≤ p) : y < y * p := by
  have : y * 2 ≤ y * p := Nat.mul_le_mul_left y hp
  omega
end Go.Proofs.Ytjkncdmbcckcdab

/- Worlds: a block whose cells are told by a function of the place; what a store does to it. No Go text here. -/
namespace Go.Proofs.Ytjkncdmbcckcdab
open Go.RowKit

/-- Block T has n cells (of element type t, none frozen); the cell at place o holds f o. -/
def RowF (T n : Nat) (t : TypeId) (f : Nat → Value) (w : World) : Prop :=
  ∃ cs : Array Value, w.heap[T]? = some (.cells cs t (0, 0)) ∧ cs.size = n ∧ ∀ o, o < n → cs[o]? = some (f o)

/-- The function f, but for one place. -/
def upd (f : Nat → Value) (o : Nat) (v : Value) : Nat → Value := fun i => if i = o then v else f i
theorem upd_at (f : Nat → Value) (o : Nat) (v : Value) : upd f o v o = v := if_pos rfl
theorem upd_ne (f : Nat → Value) (o : Nat) (v : Value) {i : Nat} (h : i ≠ o) : upd f o v i = f i := if_neg h

theorem RowF.cell {T n : Nat} {t : TypeId} {f : Nat → Value} {w : World} (h : RowF T n t f w) (o : Nat) (ho : o < n) : w.cell? ⟨T, o, none⟩ = some (f o) := by
  obtain ⟨cs, h1, h2, h3⟩ := h
  rw [cell_of_row w T o cs t (0, 0) h1]; exact h3 o ho
theorem RowF.free {T n : Nat} {t : TypeId} {f : Nat → Value} {w : World} (h : RowF T n t f w) (o : Nat) : w.frozen? ⟨T, o, none⟩ = false := by
  obtain ⟨cs, h1, h2, h3⟩ := h
  exact frozen_of_row w T o cs t h1
theorem RowF.lt {T n : Nat} {t : TypeId} {f : Nat → Value} {w : World} (h : RowF T n t f w) : T < w.heap.size := by
  obtain ⟨cs, h1, h2, h3⟩ := h
  exact lt_of_block h1
theorem RowF.other {T n : Nat} {t : TypeId} {f : Nat → Value} {w w' : World} (h : RowF T n t f w) (e : w'.heap[T]? = w.heap[T]?) : RowF T n t f w' := by
  obtain ⟨cs, h1, h2, h3⟩ := h
  exact ⟨cs, e.trans h1, h2, h3⟩
theorem RowF.congr {T n : Nat} {t : TypeId} {f g : Nat → Value} {w : World} (h : RowF T n t f w) (e : ∀ o, o < n → f o = g o) : RowF T n t g w := by
  obtain ⟨cs, h1, h2, h3⟩ := h
  exact ⟨cs, h1, h2, fun o ho => by rw [h3 o ho, e o ho]⟩
theorem RowF.store {T n : Nat} {t : TypeId} {f : Nat → Value} {w : World} (h : RowF T n t f w) (o : Nat) (v : Value) : RowF T n t (upd f o v) (w.setCell ⟨T, o, none⟩ v) := by
  obtain ⟨cs, h1, h2, h3⟩ := h
  have hlt := lt_of_block h1
  have h' : w.heap[T] = .cells cs t (0, 0) := by simpa [Array.getElem?_eq_getElem hlt] using h1
  refine ⟨cs.setIfInBounds o v, ?_, by simpa using h2, ?_⟩
  · show (w.heap.modify T _)[T]? = _
    rw [Array.getElem?_eq_getElem (by simpa using hlt), Array.getElem_modify_self, h']
    rfl
  · intro i hi
    unfold upd
    rw [Array.getElem?_setIfInBounds]
    by_cases e : o = i
    · subst e; simp [h2, hi]
    · rw [if_neg e, if_neg (fun h => e h.symm)]; exact h3 i hi
theorem RowF.alloc {T n : Nat} {t : TypeId} {f : Nat → Value} {w : World} (h : RowF T n t f w) (o : Obj) : RowF T n t f (w.alloc o) :=
  h.other (Below.heap_alloc w o T h.lt)
theorem RowF.drewN {T n : Nat} {t : TypeId} {f : Nat → Value} {w : World} (h : RowF T n t f w) (k : Nat) : RowF T n t f (w.drewN k) :=
  h.other rfl
theorem RowF.drew {T n : Nat} {t : TypeId} {f : Nat → Value} {w : World} (h : RowF T n t f w) : RowF T n t f w.drew :=
  h.other rfl
theorem RowF.grown {T n : Nat} {t : TypeId} {f : Nat → Value} {w w' : World} {row : Option Nat} (h : RowF T n t f w) (hg : w.grownBy w' row) (hne : some T ≠ row) : RowF T n t f w' :=
  h.other (hg.block T h.lt hne)
theorem RowF.below {T n B : Nat} {t : TypeId} {f : Nat → Value} {w w' : World} (h : RowF T n t f w) (hb : Below B w w') (hT : T < B) : RowF T n t f w' :=
  h.other (hb.block T hT)

theorem grown_refl (w : World) (row : Option Nat) : w.grownBy w row := ⟨rfl, rfl, rfl, Nat.le_refl _, fun _ _ _ => rfl⟩
theorem grown_trans {a b c : World} {row : Option Nat} (h : a.grownBy b row) (k : b.grownBy c row) : a.grownBy c row :=
  ⟨k.os.trans h.os, k.tape.trans h.tape, k.output.trans h.output, Nat.le_trans h.size k.size, fun i hi hn => (k.block i (Nat.lt_of_lt_of_le hi h.size) hn).trans (h.block i hi hn)⟩
theorem grown_drewN {a b : World} {row : Option Nat} (h : a.grownBy b row) (n : Nat) : a.grownBy (b.drewN n) row :=
  ⟨h.os, h.tape, h.output, h.size, h.block⟩
theorem grown_drew {a b : World} {row : Option Nat} (h : a.grownBy b row) : a.grownBy b.drew row :=
  ⟨h.os, h.tape, h.output, h.size, h.block⟩
theorem grown_set {a b : World} {T : Nat} (h : a.grownBy b (some T)) (o : Nat) (v : Value) : a.grownBy (b.setCell ⟨T, o, none⟩ v) (some T) :=
  grown_trans h ⟨rfl, rfl, rfl, by simp [World.setCell], fun i _ hn => Below.heap_setCell _ _ _ _ (fun e => hn (by simp [e]))⟩
/-- What writes a block of the call's own, and new ones, leaves all below as it was. -/
theorem below_grown {a b : World} {B : Nat} {row : Option Nat} (h : a.grownBy b row) (hB : B ≤ a.heap.size) (hr : ∀ k, row = some k → B ≤ k) : Below B a b :=
  (Below.refl B a).grown h hB hr
end Go.Proofs.Ytjkncdmbcckcdab

/- The calls that make a field's table, one by one: sums. -/
namespace Go.Proofs.Ytjkncdmbcckcdab
open Go.RowKit

theorem w_nat (a : Nat) (h : a ≤ 9223372036854775807) : wrap64 (a : Int) = (a : Int) := by unfold wrap64; omega
theorem w_quo (a b : Nat) (h : a ≤ 9223372036854775807) : wrap64 ((a : Int) / (b : Int)) = ((a / b : Nat) : Int) :=
  w_nat (a / b) (Nat.le_trans (Nat.div_le_self a b) h)

theorem sum_step (x a b y p : Nat) (hx : x ≤ 28672) (h1 : a / y ≤ 64) (h2 : b / y ≤ 64) (h4 : (a / y + b / y) % p * y ≤ 64 * 64) (ha : a < 64) (hb : b < 64) :
    wrap64 ((x : Int) + wrap64 ((wrap64 (wrap64 ((a : Int) / (y : Int)) + wrap64 ((b : Int) / (y : Int)))).tmod (p : Int) * (y : Int))) = ((x + (a / y + b / y) % p * y : Nat) : Int) := by
  rw [w_quo a y (by omega), w_quo b y (by omega)]
  have e1 : wrap64 (((a / y : Nat) : Int) + ((b / y : Nat) : Int)) = ((a / y + b / y : Nat) : Int) := w_nat (a / y + b / y) (by omega)
  rw [e1]
  have e2 : (((a / y + b / y : Nat) : Int).tmod (p : Int) * (y : Int)) = (((a / y + b / y) % p * y : Nat) : Int) := rfl
  rw [e2, w_nat _ (by omega)]
  exact w_nat (x + (a / y + b / y) % p * y) (by omega)

theorem xor64_chk : ((List.range 64).all fun a => (List.range 64).all fun b => bits .xor .i64 (a : Int) (b : Int) == ((a ^^^ b : Nat) : Int)) = true := by decide +kernel
theorem xor64_nat (a b : Nat) (ha : a < 64) (hb : b < 64) : bits .xor .i64 (a : Int) (b : Int) = ((a ^^^ b : Nat) : Int) := by
  have h := List.all_eq_true.1 xor64_chk a (List.mem_range.2 ha)
  exact beq_iff_eq.1 (List.all_eq_true.1 h b (List.mem_range.2 hb))

set_option maxHeartbeats 1000000 in
theorem sum_any (T p q a b : Nat) (w : World) (hp : 2 ≤ p) (hp2 : p ≤ 64) (hq : q ≤ 64) (ha : a < q) (hb : b < q) (htwo : Two p q)
    (hc0 : w.cell? ⟨T, 0, none⟩ = some (.int .i64 q)) (hc1 : w.cell? ⟨T, 1, none⟩ = some (.int .i64 p)) :
    Calls Try.prog 56 #[.pointer (some ⟨T, 0, none⟩), .int .i64 a, .int .i64 b] w fun e w' => e = .returned (.int .i64 (sumD p q a b)) ∧ ∃ n, w' = w.drewN n := by
  by_cases h2 : p = 2
  · have HV : Hid (sumD p q a b = a ^^^ b) := (htwo h2).1 a b ha hb
    have HX : Hid (bits .xor .i64 (a : Int) (b : Int) = ((a ^^^ b : Nat) : Int)) := xor64_nat a b (by omega) (by omega)
    have hz : ((p : Int) == 2) = true := by rw [h2]; rfl
    clear htwo h2
    go_enter Try.func56, Try.ntmps56
    go_wp2
    go_ret
    exact ⟨ret_int (by rw [HV.out, ← HX.out]), 0, rfl⟩
  have hz : ((p : Int) == 2) = false := by rw [beq_eq_false_iff_ne]; omega
  clear htwo h2
  have hD := sumD_le p q a b (by omega) hp2 hq
  go_enter Try.func56, Try.ntmps56
  go_wp2
  go_loopw [7, 8] (fun s u wr => ∃ j x y : Nat, 1 ≤ y ∧ y ≤ 4096 ∧ x ≤ 28672 ∧ 2 ^ j ≤ y ∧ s = .int .i64 x ∧ u = .int .i64 y ∧ Hid (x + sumFrom p q a b (7 - j) y = sumD p q a b) ∧ ∃ n, wr = w.drewN n) (fun _ u _ => 64 - (intOf u).toNat)
  case atStart => exact ⟨0, 0, 1, by omega, by omega, by omega, by omega, rfl, rfl, by simp [Hid, sumD], 0, rfl⟩
  case round =>
    obtain ⟨j, x, y, hy1, hy, hx, hj, rfl, rfl, HS, n, rfl⟩ := hrel
    by_cases hlt : y < q
    · have HJ : Hid (2 ^ j ≤ y) := hj
      clear hj
      have h1 : a / y ≤ 64 := Nat.le_trans (Nat.div_le_self _ _) (by omega)
      have h2 : b / y ≤ 64 := Nat.le_trans (Nat.div_le_self _ _) (by omega)
      have h3 : (a / y + b / y) % p < p := Nat.mod_lt _ (by omega)
      have h4 : (a / y + b / y) % p * y ≤ 64 * 64 := Nat.mul_le_mul (by omega) (by omega)
      have h5 : y * p ≤ 64 * 64 := Nat.mul_le_mul (by omega) (by omega)
      have h6 := mul_gt y p hy1 hp
      have HR : Hid (j < 7 ∧ 2 ^ (j + 1) ≤ y * p ∧ x + (a / y + b / y) % p * y + sumFrom p q a b (7 - (j + 1)) (y * p) = sumD p q a b) := by
        have hj7 : j < 7 := by
          rcases Nat.lt_or_ge j 7 with h | h
          · exact h
          · have : 2 ^ 7 ≤ 2 ^ j := Nat.pow_le_pow_right (by omega) h
            have := HJ.out
            omega
        refine ⟨hj7, by rw [Nat.pow_succ]; exact Nat.mul_le_mul HJ.out hp, ?_⟩
        have := HS.out
        rw [show 7 - j = (7 - (j + 1)) + 1 from by omega, sumFrom_lo p q a b _ y hlt] at this
        omega
      clear HJ
      go_wp2
      go_quiet (fail)
      go_wp2
      go_roundw
      case rel => exact ⟨j + 1, x + (a / y + b / y) % p * y, y * p, by omega, by omega, by have := HR.out.2.2; omega, HR.out.2.1, by rw [sum_step x a b y p hx h1 h2 h4 (by omega) (by omega)], by go_num, HR.out.2.2, _, rfl⟩
      case measure =>
        show 64 - (((y * p : Nat) : Int)).toNat < 64 - ((y : Nat) : Int).toNat
        rw [Int.toNat_natCast, Int.toNat_natCast]; omega
    · have HV : Hid (x = sumD p q a b) := by have := HS.out; rw [sumFrom_hi _ _ _ _ _ _ hlt] at this; show x = _; omega
      go_wp2
      go_ret
      exact ⟨ret_int (by rw [HV.out]), _, rfl⟩
end Go.Proofs.Ytjkncdmbcckcdab
