/- The reference: digits of a number, and the number of digits. -/
import Derived.Test.YtjkncdmbcckcdaaZA1
import Derived.Test.YtjkncdmbcckcdaaZB3
import Derived.Test.YtjkncdmbcckcdaaZW1
namespace Go.Proofs.Ytjkncdmbcckcdaa
open Go.RowKit

/-- Digit j of a to the base p. -/
def dg (p a j : Nat) : Nat := a / p ^ j % p
def digL (p a m : Nat) : List Int := (List.range m).map fun j => ((dg p a j : Nat) : Int)
theorem digL_succ (p a m : Nat) : digL p a (m + 1) = digL p a m ++ [((dg p a m : Nat) : Int)] := by
  unfold digL; rw [List.range_succ, List.map_append]; rfl
theorem digL_len (p a m : Nat) : (digL p a m).length = m := by simp [digL]
theorem digL_get (p a m j : Nat) (h : j < m) : (digL p a m).getD j 0 = ((dg p a j : Nat) : Int) := by
  rw [List.getD_eq_getElem?_getD, List.getElem?_eq_getElem (by rw [digL_len]; exact h)]
  simp [digL]

set_option maxHeartbeats 2000000 in
theorem digits_any (a p m : Nat) (w : World) (ha : a ≤ 1000000) (hp : 1 ≤ p) (hp2 : p ≤ 64) (hm : m ≤ 1000) :
    Calls Try.prog 44 #[.int .i64 a, .int .i64 p, .int .i64 m] w fun e w' => ∃ v, e = .returned v ∧ OwnI w.heap.size v (digL p a m) w' ∧ Below w.heap.size w w' := by
  go_enter Try.func44, Try.ntmps44
  go_wp2
  go_loopw [0, 7, 8] (fun x v i wr => ∃ j y : Nat, j ≤ m ∧ y ≤ a ∧ x = .int .i64 y ∧ i = .int .i64 j ∧ Hid (y = a / p ^ j) ∧ OwnI w.heap.size v (digL p a j) wr ∧ Below w.heap.size w wr) (fun _ _ i _ => m - (intOf i).toNat)
  case atStart => exact ⟨0, a, by omega, by omega, rfl, rfl, by simp [Hid], OwnI.nil _ _, Below.refl _ _⟩
  case round =>
    obtain ⟨j, y, hj, hy, rfl, rfl, HY, hown, hbel⟩ := hrel
    have hsz := hbel.size
    have hlen := digL_len p a j
    by_cases hlt : j < m
    · have hq1 : y / p ≤ y := Nat.div_le_self _ _
      have hq2 : y % p < p := Nat.mod_lt _ (by omega)
      have HL : Hid (digL p a (j + 1) = digL p a j ++ [((y % p : Nat) : Int)]) := by
        show _ = _
        rw [digL_succ, HY.out]; rfl
      have HN : Hid (y / p = a / p ^ (j + 1)) := by
        show _ = _
        rw [HY.out, Nat.div_div_eq_div_mul, Nat.pow_succ]
      go_wp2_with (at_builtin; refine append_int rfl _ _ rfl w.heap.size _ (digL p a j) rfl (hown.alloc _) ⟨_, 0, none⟩ 1 (((y % p : Nat) : Int)) rfl (by simp) (by omega) (by simp; omega) ?_; intro v' w1 hown' hgrow')
      go_roundw
      case rel => exact ⟨j + 1, y / p, by omega, by omega, by rw [w_quo y p (by omega)], by go_num, HN.out, by rw [HL.out]; exact hown', (hbel.alloc (by omega) _).grown hgrow' (by simp; omega) (fun k hk => (hown.lt k hk).1)⟩
      case measure => simp [intOf]; omega
    · have e : j = m := by omega
      have HO : Hid (OwnI w.heap.size u7 (digL p a m) wr) := by rw [← e]; exact hown
      go_wp2
      go_ret
      exact ⟨_, rfl, HO.out, hbel⟩

/-- The number of n digits, from the highest one down, k of them. -/
def horner (p : Nat) (f : Nat → Nat) (n : Nat) : Nat → Nat
  | 0 => 0
  | k + 1 => horner p f n k * p + f (n - 1 - k)
theorem horner_lt (p : Nat) (f : Nat → Nat) (n : Nat) (hp : p ≤ 64) (hf : ∀ j, f j < 64) : ∀ k, horner p f n k < 64 ^ k
  | 0 => by simp [horner]
  | k + 1 => by
    have h1 := horner_lt p f n hp hf k
    have h2 := hf (n - 1 - k)
    rw [horner, Nat.pow_succ]
    have h3 : horner p f n k * p ≤ horner p f n k * 64 := Nat.mul_le_mul_left _ hp
    have : (horner p f n k + 1) * 64 ≤ 64 ^ k * 64 := Nat.mul_le_mul_right 64 h1
    rw [Nat.add_mul, Nat.one_mul] at this
    omega

set_option maxHeartbeats 2000000 in
theorem number_gen (g cap p n : Nat) (f : Nat → Nat) (w : World) (hp2 : p ≤ 64) (hn : n ≤ 6) (hf : ∀ j, f j < 64)
    (hc : ∀ j, j < n → w.cell? ⟨g, j, none⟩ = some (.int .i64 (f j : Nat))) :
    Calls Try.prog 91 #[.slice (some ⟨g, 0, none⟩) n cap, .int .i64 p] w fun e w' => e = .returned (.int .i64 (horner p f n n : Nat)) ∧ w' = w := by
  have HC : Hid (∀ j, j < n → w.cell? ⟨g, j, none⟩ = some (.int .i64 (f j : Nat))) := hc
  have HL : Hid (∀ k, k ≤ n → horner p f n k < 68719476736) := fun k hk => Nat.lt_of_lt_of_le (horner_lt p f n hp2 hf k) (Nat.le_trans (Nat.pow_le_pow_right (by omega) (Nat.le_trans hk hn)) (by decide))
  have HF : Hid (∀ j, f j < 64) := hf
  clear hc hf
  go_enter Try.func91, Try.ntmps91
  go_wp2
  go_loop [5, 6] (fun a i => ∃ r : Nat, r ≤ n ∧ i = .int .i64 ((r : Int) - 1) ∧ a = .int .i64 (horner p f n (n - r) : Nat)) (fun _ i => (intOf i + 1).toNat)
  case atStart => exact ⟨n, by omega, rfl, by rw [Nat.sub_self]; rfl⟩
  case round =>
    obtain ⟨r, hr, hi, rfl⟩ := hrel
    have hb := HL.out (n - r) (by omega)
    cases r with
    | succ s =>
      have hi' : u6 = .int .i64 (s : Int) := by rw [hi]; go_num
      clear hi
      subst hi'
      have hcl : w.cell? ⟨g, s, none⟩ = some (.int .i64 (f s : Nat)) := HC.out _ (by omega)
      have hfl := HF.out s
      obtain ⟨x, hx⟩ : ∃ x, x = horner p f n (n - (s + 1)) := ⟨_, rfl⟩
      have HX : Hid (horner p f n (n - s) = x * p + f s) := by
        show _ = _
        rw [hx, show n - s = (n - (s + 1)) + 1 from by omega, horner, show n - 1 - (n - (s + 1)) = s from by omega]
      rw [← hx] at hb ⊢
      clear hx
      have hm : x * p ≤ 68719476736 * 64 := Nat.mul_le_mul (by omega) hp2
      have h4 : (x : Int) * (p : Int) ≤ 4398046511104 := by rw [← Int.natCast_mul]; omega
      have h5 : 0 ≤ (x : Int) * (p : Int) := by rw [← Int.natCast_mul]; omega
      go_wp2
      go_round
      case rel => exact ⟨s, by omega, by go_num, by rw [HX.out]; go_num⟩
      case measure => simp [intOf]
    | zero =>
      have hi' : u6 = .int .i64 (-1) := by rw [hi]; rfl
      clear hi
      subst hi'
      go_wp2
      go_ret
      exact ⟨rfl, rfl⟩

theorem number_any (g cap p n : Nat) (f : Nat → Nat) (w : World) (_hp : 1 ≤ p) (hp2 : p ≤ 64) (hn : n ≤ 6) (_hpn : p ^ n ≤ 4096) (hf : ∀ j, f j < p)
    (hc : ∀ j, j < n → w.cell? ⟨g, j, none⟩ = some (.int .i64 (f j : Nat))) :
    Calls Try.prog 91 #[.slice (some ⟨g, 0, none⟩) n cap, .int .i64 p] w fun e w' => e = .returned (.int .i64 (horner p f n n : Nat)) ∧ w' = w :=
  number_gen g cap p n f w hp2 hn (fun j => Nat.lt_of_lt_of_le (hf j) hp2) hc
end Go.Proofs.Ytjkncdmbcckcdaa
