/- Texts of ours, one behind the other: R1 R2. -/
import Derived.Test.YtjkncdmbcckcdaaZA1
import Derived.Test.YtjkncdmbcckcdaaZB2
import Derived.RegionTactic
import Derived.BigRegion
/- The reference: digits of a number, and the number of digits. -/
namespace Go.Proofs.Ytjkncdmbcckcdaa
open Go.RowKit

/-- Digit j of a to the base p. -/
def dg (p a j : Nat) : Nat := a / p ^ j % p
def digL (p a m : Nat) : List Int := (List.range m).map fun j => ((dg p a j : Nat) : Int)
theorem digL_succ (p a m : Nat) : digL p a (m + 1) = digL p a m ++ [((dg p a m : Nat) : Int)] := by
  unfold digL; rw [List.range_succ, List.map_append]; rfl
theorem digL_len (p a m : Nat) : (digL p a m).length = m := by simp [digL]
theorem digL_get (p a m j : Nat) (h : j < m) : (digL p a m).getD j 0 = ((dg p a j : Nat) : Int) := by
  rw [List.getD_eq_getElem?_getD, List.getElem?_eq_getElem (by rw [digL_len]; exact h)]
  simp [digL]

set_option maxHeartbeats 2000000 in
theorem digits_any (a p m : Nat) (w : World) (ha : a ≤ 1000000) (hp : 1 ≤ p) (hp2 : p ≤ 64) (hm : m ≤ 1000) :
    Calls Try.prog 44 #[.int .i64 a, .int .i64 p, .int .i64 m] w fun e w' => ∃ v, e = .returned v ∧ OwnI w.heap.size v (digL p a m) w' ∧ Below w.heap.size w w' := by
  go_enter Try.func44, Try.ntmps44
  go_wp2
  go_loopw [0, 7, 8] (fun x v i wr => ∃ j y : Nat, j ≤ m ∧ y ≤ a ∧ x = .int .i64 y ∧ i = .int .i64 j ∧ Hid (y = a / p ^ j) ∧ OwnI w.heap.size v (digL p a j) wr ∧ Below w.heap.size w wr) (fun _ _ i _ => m - (intOf i).toNat)
  case atStart => exact ⟨0, a, by omega, by omega, rfl, rfl, by simp [Hid], OwnI.nil _ _, Below.refl _ _⟩
  case round =>
    obtain ⟨j, y, hj, hy, rfl, rfl, HY, hown, hbel⟩ := hrel
    have hsz := hbel.size
    have hlen := digL_len p a j
    by_cases hlt : j < m
    · have hq1 : y / p ≤ y := Nat.div_le_self _ _
      have hq2 : y % p < p := Nat.mod_lt _ (by omega)
      have HL : Hid (digL p a (j + 1) = digL p a j ++ [((y % p : Nat) : Int)]) := by
        show _ = _
        rw [digL_succ, HY.out]; rfl
      have HN : Hid (y / p = a / p ^ (j + 1)) := by
        show _ = _
        rw [HY.out, Nat.div_div_eq_div_mul, Nat.pow_succ]
      go_wp2_with (at_builtin; refine append_int rfl _ _ rfl w.heap.size _ (digL p a j) rfl (hown.alloc _) ⟨_, 0, none⟩ 1 (((y % p : Nat) : Int)) rfl (by simp) (by omega) (by simp; omega) ?_; intro v' w1 hown' hgrow')
      go_roundw
      case rel => exact ⟨j + 1, y / p, by omega, by omega, by rw [w_quo y p (by omega)], by go_num, HN.out, by rw [HL.out]; exact hown', (hbel.alloc (by omega) _).grown hgrow' (by simp; omega) (fun k hk => (hown.lt k hk).1)⟩
      case measure => simp [intOf]; omega
    · have e : j = m := by omega
      have HO : Hid (OwnI w.heap.size u7 (digL p a m) wr) := by rw [← e]; exact hown
      go_wp2
      go_ret
      exact ⟨_, rfl, HO.out, hbel⟩

/-- The number of n digits, from the highest one down, k of them. -/
def horner (p : Nat) (f : Nat → Nat) (n : Nat) : Nat → Nat
  | 0 => 0
  | k + 1 => horner p f n k * p + f (n - 1 - k)
theorem horner_lt (p : Nat) (f : Nat → Nat) (n : Nat) (hp : p ≤ 64) (hf : ∀ j, f j < 64) : ∀ k, horner p f n k < 64 ^ k
  | 0 => by simp [horner]
  | k + 1 => by
    have h1 := horner_lt p f n hp hf k
    have h2 := hf (n - 1 - k)
    rw [horner, Nat.pow_succ]
    have h3 : horner p f n k * p ≤ horner p f n k * 64 := Nat.mul_le_mul_left _ hp
    have : (horner p f n k + 1) * 64 ≤ 64 ^ k * 64 := Nat.mul_le_mul_right 64 h1
    rw [Nat.add_mul, Nat.one_mul] at this
    omega

set_option maxHeartbeats 2000000 in
theorem number_gen (g cap p n : Nat) (f : Nat → Nat) (w : World) (hp2 : p ≤ 64) (hn : n ≤ 6) (hf : ∀ j, f j < 64)
    (hc : ∀ j, j < n → w.cell? ⟨g, j, none⟩ = some (.int .i64 (f j : Nat))) :
    Calls Try.prog 91 #[.slice (some ⟨g, 0, none⟩) n cap, .int .i64 p] w fun e w' => e = .returned (.int .i64 (horner p f n n : Nat)) ∧ w' = w := by
  have HC : Hid (∀ j, j < n → w.cell? ⟨g, j, none⟩ = some (.int .i64 (f j : Nat))) := hc
  have HL : Hid (∀ k, k ≤ n → horner p f n k < 68719476736) := fun k hk => Nat.lt_of_lt_of_le (horner_lt p f n hp2 hf k) (Nat.le_trans (Nat.pow_le_pow_right (by omega) (Nat.le_trans hk hn)) (by decide))
  have HF : Hid (∀ j, f j < 64) := hf
  clear hc hf
  go_enter Try.func91, Try.ntmps91
  go_wp2
  go_loop [5, 6] (fun a i => ∃ r : Nat, r ≤ n ∧ i = .int .i64 ((r : Int) - 1) ∧ a = .int .i64 (horner p f n (n - r) : Nat)) (fun _ i => (intOf i + 1).toNat)
  case atStart => exact ⟨n, by omega, rfl, by rw [Nat.sub_self]; rfl⟩
  case round =>
    obtain ⟨r, hr, hi, rfl⟩ := hrel
    have hb := HL.out (n - r) (by omega)
    cases r with
    | succ s =>
      have hi' : u6 = .int .i64 (s : Int) := by rw [hi]; go_num
      clear hi
      subst hi'
      have hcl : w.cell? ⟨g, s, none⟩ = some (.int .i64 (f s : Nat)) := HC.out _ (by omega)
      have hfl := HF.out s
      obtain ⟨x, hx⟩ : ∃ x, x = horner p f n (n - (s + 1)) := ⟨_, rfl⟩
      have HX : Hid (horner p f n (n - s) = x * p + f s) := by
        show _ = _
        rw [hx, show n - s = (n - (s + 1)) + 1 from by omega, horner, show n - 1 - (n - (s + 1)) = s from by omega]
      rw [← hx] at hb ⊢
      clear hx
      have hm : x * p ≤ 68719476736 * 64 := Nat.mul_le_mul (by omega) hp2
      have h4 : (x : Int) * (p : Int) ≤ 4398046511104 := by rw [← Int.natCast_mul]; omega
      have h5 : 0 ≤ (x : Int) * (p : Int) := by rw [← Int.natCast_mul]; omega
      go_wp2
      go_round
      case rel => exact ⟨s, by omega, by go_num, by rw [HX.out]; go_num⟩
      case measure => simp [intOf]
    | zero =>
      have hi' : u6 = .int .i64 (-1) := by rw [hi]; rfl
      clear hi
      subst hi'
      go_wp2
      go_ret
      exact ⟨rfl, rfl⟩

theorem number_any (g cap p n : Nat) (f : Nat → Nat) (w : World) (_hp : 1 ≤ p) (hp2 : p ≤ 64) (hn : n ≤ 6) (_hpn : p ^ n ≤ 4096) (hf : ∀ j, f j < p)
    (hc : ∀ j, j < n → w.cell? ⟨g, j, none⟩ = some (.int .i64 (f j : Nat))) :
    Calls Try.prog 91 #[.slice (some ⟨g, 0, none⟩) n cap, .int .i64 p] w fun e w' => e = .returned (.int .i64 (horner p f n n : Nat)) ∧ w' = w :=
  number_gen g cap p n f w hp2 hn (fun j => Nat.lt_of_lt_of_le (hf j) hp2) hc
end Go.Proofs.Ytjkncdmbcckcdaa

/- The reference: sums and opposites, as it reckons them. -/
namespace Go.Proofs.Ytjkncdmbcckcdaa
open Go.RowKit

/-- The reference's field, as a value. -/
def rf (q p m gen : Nat) (v : Value) : Value := .agg #[.int .i64 q, .int .i64 p, .int .i64 m, .int .i64 gen, v]

def raddN (D : FD) (a b : Nat) : Nat := if D.m = 1 then (a + b) % D.p else if D.p = 2 then a ^^^ b else horner D.p (fun j => (dg D.p a j + dg D.p b j) % D.p) D.m D.m
def rnegN (D : FD) (a : Nat) : Nat := horner D.p (fun j => (D.p - dg D.p a j) % D.p) D.m D.m
def chkRAdd (D : FD) : Bool := allB D.q fun a => rnegN D a == negD D.p D.q a && allB D.q fun b => raddN D a b == sumD D.p D.q a b
theorem chkRAdd_all : fieldsL.all chkRAdd = true := by decide +kernel
theorem radd_is {D : FD} (h : D ∈ fieldsL) (a b : Nat) (ha : a < D.q) (hb : b < D.q) : raddN D a b = sumD D.p D.q a b := by
  have := allB_of (List.all_eq_true.1 chkRAdd_all D h) a ha
  rw [Bool.and_eq_true] at this
  exact beq_iff_eq.1 (allB_of this.2 b hb)
theorem rneg_is {D : FD} (h : D ∈ fieldsL) (a : Nat) (ha : a < D.q) : rnegN D a = negD D.p D.q a := by
  have := allB_of (List.all_eq_true.1 chkRAdd_all D h) a ha
  rw [Bool.and_eq_true] at this
  exact beq_iff_eq.1 this.1

theorem xor_small (a b : Nat) (ha : a < 64) (hb : b < 64) : bits .xor .i64 (a : Int) (b : Int) = ((a ^^^ b : Nat) : Int) := xor64_nat a b ha hb

/-- Old cells behind a call that only makes memory. -/
theorem bcell {B : Nat} {W w1 : World} (hb : Below B W w1) : (∀ b o, b < B → w1.cell? ⟨b, o, none⟩ = W.cell? ⟨b, o, none⟩) ∧ (∀ b o, b < B → w1.frozen? ⟨b, o, none⟩ = W.frozen? ⟨b, o, none⟩) :=
  ⟨fun b o h => hb.cell (p := ⟨b, o, none⟩) h, fun b o h => hb.frozen (p := ⟨b, o, none⟩) h⟩

theorem rhas_any (D : FD) (gen : Nat) (v : Value) (a : Int) (w : World) :
    Calls Try.prog 84 #[rf D.q D.p D.m gen v, .int .i64 a] w fun e w' => e = .returned (.bool (D.has a)) ∧ Below w.heap.size w w' := by
  unfold rf
  by_cases h0 : 0 ≤ a
  · have HV : Hid (D.has a = decide (a < D.q)) := by show D.has a = _; simp [FD.has, h0]
    go_enter Try.func84, Try.ntmps84
    go_wp2
    go_ret
    exact ⟨ret_bool (by rw [HV.out]), (Below.refl _ _).alloc (Nat.le_refl _) _⟩
  · have HV : Hid (D.has a = false) := by show D.has a = _; simp [FD.has, h0]
    go_enter Try.func84, Try.ntmps84
    go_wp2
    go_ret
    exact ⟨ret_bool (by rw [HV.out]), (Below.refl _ _).alloc (Nat.le_refl _) _⟩

set_option maxHeartbeats 2000000 in
theorem radd_no {D : FD} (gen : Nat) (v : Value) (a b : Int) (w : World) (h : D.has a = false ∨ D.has b = false) :
    Calls Try.prog 107 #[rf D.q D.p D.m gen v, .int .i64 a, .int .i64 b] w fun e w' => e = .returned (.int .i64 (-1)) ∧ Below w.heap.size w w' := by
  by_cases ha : D.has a = true
  · have hb : D.has b = false := by rcases h with h | h; · rw [ha] at h; cases h
                                    · exact h
    clear h
    unfold rf
    go_enter Try.func107, Try.ntmps107
    go_wp2_with fail
    refine (rhas_any D gen v a _).mono ?_
    rintro e w1 ⟨rfl, hb1⟩
    obtain ⟨hc1, hf1⟩ := bcell hb1
    have HB1 : Hid (Below w.heap.size w w1) := ((Below.refl _ _).alloc (Nat.le_refl _) _).trans (hb1.mono (by simp))
    clear hb1
    go_wp2_with fail
    refine (rhas_any D gen v b _).mono ?_
    rintro e w2 ⟨rfl, hb2⟩
    have HB2 : Hid (Below w.heap.size w w2) := HB1.out.trans (hb2.mono HB1.out.size)
    clear hb2 hc1 hf1
    go_wp2
    go_ret
    exact ⟨rfl, HB2.out⟩
  · have ha' : D.has a = false := by simpa using ha
    clear h ha
    unfold rf
    go_enter Try.func107, Try.ntmps107
    go_wp2_with fail
    refine (rhas_any D gen v a _).mono ?_
    rintro e w1 ⟨rfl, hb1⟩
    have HB1 : Hid (Below w.heap.size w w1) := ((Below.refl _ _).alloc (Nat.le_refl _) _).trans (hb1.mono (by simp))
    clear hb1
    go_wp2
    go_ret
    exact ⟨rfl, HB1.out⟩

set_option maxHeartbeats 2000000 in
theorem radd_one {D : FD} (hm : D.m = 1) (hp : 1 ≤ D.p) (hp2 : D.p ≤ 64) (gen : Nat) (v : Value) (a b : Nat) (w : World) (ha : a < 64) (hb : b < 64) (h1 : D.has a = true) (h2 : D.has b = true) :
    Calls Try.prog 107 #[rf D.q D.p D.m gen v, .int .i64 a, .int .i64 b] w fun e w' => e = .returned (.int .i64 ((a + b) % D.p : Nat)) ∧ Below w.heap.size w w' := by
  have hm' : ((D.m : Int) == 1) = true := by rw [hm]; rfl
  clear hm
  unfold rf
  go_enter Try.func107, Try.ntmps107
  go_wp2_with fail
  refine (rhas_any D gen v a _).mono ?_
  rintro e w1 ⟨rfl, hb1⟩
  obtain ⟨hc1, hf1⟩ := bcell hb1
  have hs1 : w.heap.size < w1.heap.size := by have := hb1.size; simp at this; omega
  have HB1 : Hid (Below w.heap.size w w1) := ((Below.refl _ _).alloc (Nat.le_refl _) _).trans (hb1.mono (by simp))
  clear hb1
  go_wp2_with fail
  refine (rhas_any D gen v b _).mono ?_
  rintro e w2 ⟨rfl, hb2⟩
  obtain ⟨hc2, hf2⟩ := bcell hb2
  have HB2 : Hid (Below w.heap.size w w2) := HB1.out.trans (hb2.mono HB1.out.size)
  clear hb2
  go_wp2
  go_ret
  exact ⟨ret_int (by go_num), HB2.out⟩

set_option maxHeartbeats 2000000 in
theorem radd_two {D : FD} (hm : D.m ≠ 1) (hp : D.p = 2) (gen : Nat) (v : Value) (a b : Nat) (w : World) (ha : a < 64) (hb : b < 64) (h1 : D.has a = true) (h2 : D.has b = true) :
    Calls Try.prog 107 #[rf D.q D.p D.m gen v, .int .i64 a, .int .i64 b] w fun e w' => e = .returned (.int .i64 (a ^^^ b : Nat)) ∧ Below w.heap.size w w' := by
  have hm' : ((D.m : Int) == 1) = false := by rw [beq_eq_false_iff_ne]; omega
  have hp' : ((D.p : Int) == 2) = true := by rw [hp]; rfl
  clear hm hp
  unfold rf
  go_enter Try.func107, Try.ntmps107
  go_wp2_with fail
  refine (rhas_any D gen v a _).mono ?_
  rintro e w1 ⟨rfl, hb1⟩
  obtain ⟨hc1, hf1⟩ := bcell hb1
  have hs1 : w.heap.size < w1.heap.size := by have := hb1.size; simp at this; omega
  have HB1 : Hid (Below w.heap.size w w1) := ((Below.refl _ _).alloc (Nat.le_refl _) _).trans (hb1.mono (by simp))
  clear hb1
  go_wp2_with fail
  refine (rhas_any D gen v b _).mono ?_
  rintro e w2 ⟨rfl, hb2⟩
  obtain ⟨hc2, hf2⟩ := bcell hb2
  have HB2 : Hid (Below w.heap.size w w2) := HB1.out.trans (hb2.mono HB1.out.size)
  clear hb2
  go_wp2
  go_ret
  exact ⟨ret_int (xor_small a b ha hb), HB2.out⟩
end Go.Proofs.Ytjkncdmbcckcdaa
