/- Plain mathematics of the reference's product: checked against the table's, one field after the other. No Go text here. -/
import Derived.Test.YtjkncdmbcckcdaaZM5
namespace Go.Proofs.Ytjkncdmbcckcdaa

def chkMulB (D : FD) (b : Nat) : Bool := rmulN D.p D.m D.md 1 b == b && allB D.q fun a => rmulN D.p D.m D.md (D.st a) b == D.st (rmulN D.p D.m D.md a b)
/-- Checked for n numbers from lo on. -/
def chkMulR (D : FD) (lo n : Nat) : Bool := allB n fun i => chkMulB D (lo + i)
theorem chkMulR_of {D : FD} {lo n : Nat} (h : chkMulR D lo n = true) (b : Nat) (h1 : lo ≤ b) (h2 : b < lo + n) : chkMulB D b = true := by
  have := allB_of h (b - lo) (by omega)
  rw [show lo + (b - lo) = b from by omega] at this
  exact this
theorem mul_2_0 : chkMulR ⟨2, 2, 1, 0, 1⟩ 0 2 = true := by decide +kernel
theorem mulAll_2 (b : Nat) (hb : b < 2) : chkMulB ⟨2, 2, 1, 0, 1⟩ b = true := by
  exact chkMulR_of mul_2_0 b (by omega) (by omega)
theorem mul_3_0 : chkMulR ⟨3, 3, 1, 0, 2⟩ 0 3 = true := by decide +kernel
theorem mulAll_3 (b : Nat) (hb : b < 3) : chkMulB ⟨3, 3, 1, 0, 2⟩ b = true := by
  exact chkMulR_of mul_3_0 b (by omega) (by omega)
theorem mul_4_0 : chkMulR ⟨4, 2, 2, 3, 2⟩ 0 4 = true := by decide +kernel
theorem mulAll_4 (b : Nat) (hb : b < 4) : chkMulB ⟨4, 2, 2, 3, 2⟩ b = true := by
  exact chkMulR_of mul_4_0 b (by omega) (by omega)
theorem mul_5_0 : chkMulR ⟨5, 5, 1, 0, 2⟩ 0 5 = true := by decide +kernel
theorem mulAll_5 (b : Nat) (hb : b < 5) : chkMulB ⟨5, 5, 1, 0, 2⟩ b = true := by
  exact chkMulR_of mul_5_0 b (by omega) (by omega)
theorem mul_7_0 : chkMulR ⟨7, 7, 1, 0, 3⟩ 0 7 = true := by decide +kernel
theorem mulAll_7 (b : Nat) (hb : b < 7) : chkMulB ⟨7, 7, 1, 0, 3⟩ b = true := by
  exact chkMulR_of mul_7_0 b (by omega) (by omega)
theorem mul_8_0 : chkMulR ⟨8, 2, 3, 3, 2⟩ 0 8 = true := by decide +kernel
theorem mulAll_8 (b : Nat) (hb : b < 8) : chkMulB ⟨8, 2, 3, 3, 2⟩ b = true := by
  exact chkMulR_of mul_8_0 b (by omega) (by omega)
theorem mul_9_0 : chkMulR ⟨9, 3, 2, 5, 3⟩ 0 9 = true := by decide +kernel
theorem mulAll_9 (b : Nat) (hb : b < 9) : chkMulB ⟨9, 3, 2, 5, 3⟩ b = true := by
  exact chkMulR_of mul_9_0 b (by omega) (by omega)
theorem mul_11_0 : chkMulR ⟨11, 11, 1, 0, 2⟩ 0 11 = true := by decide +kernel
theorem mulAll_11 (b : Nat) (hb : b < 11) : chkMulB ⟨11, 11, 1, 0, 2⟩ b = true := by
  exact chkMulR_of mul_11_0 b (by omega) (by omega)
theorem mul_13_0 : chkMulR ⟨13, 13, 1, 0, 2⟩ 0 13 = true := by decide +kernel
theorem mulAll_13 (b : Nat) (hb : b < 13) : chkMulB ⟨13, 13, 1, 0, 2⟩ b = true := by
  exact chkMulR_of mul_13_0 b (by omega) (by omega)
theorem mul_16_0 : chkMulR ⟨16, 2, 4, 3, 2⟩ 0 16 = true := by decide +kernel
theorem mulAll_16 (b : Nat) (hb : b < 16) : chkMulB ⟨16, 2, 4, 3, 2⟩ b = true := by
  exact chkMulR_of mul_16_0 b (by omega) (by omega)
theorem mul_17_0 : chkMulR ⟨17, 17, 1, 0, 3⟩ 0 17 = true := by decide +kernel
theorem mulAll_17 (b : Nat) (hb : b < 17) : chkMulB ⟨17, 17, 1, 0, 3⟩ b = true := by
  exact chkMulR_of mul_17_0 b (by omega) (by omega)
theorem mul_19_0 : chkMulR ⟨19, 19, 1, 0, 2⟩ 0 19 = true := by decide +kernel
theorem mulAll_19 (b : Nat) (hb : b < 19) : chkMulB ⟨19, 19, 1, 0, 2⟩ b = true := by
  exact chkMulR_of mul_19_0 b (by omega) (by omega)
theorem mul_23_0 : chkMulR ⟨23, 23, 1, 0, 5⟩ 0 23 = true := by decide +kernel
theorem mulAll_23 (b : Nat) (hb : b < 23) : chkMulB ⟨23, 23, 1, 0, 5⟩ b = true := by
  exact chkMulR_of mul_23_0 b (by omega) (by omega)
theorem mul_25_0 : chkMulR ⟨25, 5, 2, 7, 5⟩ 0 25 = true := by decide +kernel
theorem mulAll_25 (b : Nat) (hb : b < 25) : chkMulB ⟨25, 5, 2, 7, 5⟩ b = true := by
  exact chkMulR_of mul_25_0 b (by omega) (by omega)
theorem mul_27_0 : chkMulR ⟨27, 3, 3, 7, 3⟩ 0 27 = true := by decide +kernel
theorem mulAll_27 (b : Nat) (hb : b < 27) : chkMulB ⟨27, 3, 3, 7, 3⟩ b = true := by
  exact chkMulR_of mul_27_0 b (by omega) (by omega)
theorem mul_29_0 : chkMulR ⟨29, 29, 1, 0, 2⟩ 0 29 = true := by decide +kernel
theorem mulAll_29 (b : Nat) (hb : b < 29) : chkMulB ⟨29, 29, 1, 0, 2⟩ b = true := by
  exact chkMulR_of mul_29_0 b (by omega) (by omega)
theorem mul_31_0 : chkMulR ⟨31, 31, 1, 0, 3⟩ 0 31 = true := by decide +kernel
theorem mulAll_31 (b : Nat) (hb : b < 31) : chkMulB ⟨31, 31, 1, 0, 3⟩ b = true := by
  exact chkMulR_of mul_31_0 b (by omega) (by omega)
theorem mul_32_0 : chkMulR ⟨32, 2, 5, 5, 2⟩ 0 8 = true := by decide +kernel
theorem mul_32_8 : chkMulR ⟨32, 2, 5, 5, 2⟩ 8 8 = true := by decide +kernel
theorem mul_32_16 : chkMulR ⟨32, 2, 5, 5, 2⟩ 16 8 = true := by decide +kernel
theorem mul_32_24 : chkMulR ⟨32, 2, 5, 5, 2⟩ 24 8 = true := by decide +kernel
theorem mulAll_32 (b : Nat) (hb : b < 32) : chkMulB ⟨32, 2, 5, 5, 2⟩ b = true := by
  rcases Nat.lt_or_ge b 8 with h0 | h0
  · exact chkMulR_of mul_32_0 b (by omega) (by omega)
  rcases Nat.lt_or_ge b 16 with h8 | h8
  · exact chkMulR_of mul_32_8 b (by omega) (by omega)
  rcases Nat.lt_or_ge b 24 with h16 | h16
  · exact chkMulR_of mul_32_16 b (by omega) (by omega)
  exact chkMulR_of mul_32_24 b (by omega) (by omega)
theorem mul_37_0 : chkMulR ⟨37, 37, 1, 0, 2⟩ 0 37 = true := by decide +kernel
theorem mulAll_37 (b : Nat) (hb : b < 37) : chkMulB ⟨37, 37, 1, 0, 2⟩ b = true := by
  exact chkMulR_of mul_37_0 b (by omega) (by omega)
theorem mul_41_0 : chkMulR ⟨41, 41, 1, 0, 6⟩ 0 41 = true := by decide +kernel
theorem mulAll_41 (b : Nat) (hb : b < 41) : chkMulB ⟨41, 41, 1, 0, 6⟩ b = true := by
  exact chkMulR_of mul_41_0 b (by omega) (by omega)
theorem mul_43_0 : chkMulR ⟨43, 43, 1, 0, 3⟩ 0 43 = true := by decide +kernel
theorem mulAll_43 (b : Nat) (hb : b < 43) : chkMulB ⟨43, 43, 1, 0, 3⟩ b = true := by
  exact chkMulR_of mul_43_0 b (by omega) (by omega)
theorem mul_47_0 : chkMulR ⟨47, 47, 1, 0, 5⟩ 0 47 = true := by decide +kernel
theorem mulAll_47 (b : Nat) (hb : b < 47) : chkMulB ⟨47, 47, 1, 0, 5⟩ b = true := by
  exact chkMulR_of mul_47_0 b (by omega) (by omega)
theorem mul_49_0 : chkMulR ⟨49, 7, 2, 10, 7⟩ 0 25 = true := by decide +kernel
theorem mul_49_25 : chkMulR ⟨49, 7, 2, 10, 7⟩ 25 24 = true := by decide +kernel
theorem mulAll_49 (b : Nat) (hb : b < 49) : chkMulB ⟨49, 7, 2, 10, 7⟩ b = true := by
  rcases Nat.lt_or_ge b 25 with h0 | h0
  · exact chkMulR_of mul_49_0 b (by omega) (by omega)
  exact chkMulR_of mul_49_25 b (by omega) (by omega)
theorem mul_53_0 : chkMulR ⟨53, 53, 1, 0, 2⟩ 0 53 = true := by decide +kernel
theorem mulAll_53 (b : Nat) (hb : b < 53) : chkMulB ⟨53, 53, 1, 0, 2⟩ b = true := by
  exact chkMulR_of mul_53_0 b (by omega) (by omega)
theorem mul_59_0 : chkMulR ⟨59, 59, 1, 0, 2⟩ 0 59 = true := by decide +kernel
theorem mulAll_59 (b : Nat) (hb : b < 59) : chkMulB ⟨59, 59, 1, 0, 2⟩ b = true := by
  exact chkMulR_of mul_59_0 b (by omega) (by omega)
theorem mul_61_0 : chkMulR ⟨61, 61, 1, 0, 2⟩ 0 61 = true := by decide +kernel
theorem mulAll_61 (b : Nat) (hb : b < 61) : chkMulB ⟨61, 61, 1, 0, 2⟩ b = true := by
  exact chkMulR_of mul_61_0 b (by omega) (by omega)
theorem mul_64_0 : chkMulR ⟨64, 2, 6, 3, 2⟩ 0 4 = true := by decide +kernel
theorem mul_64_4 : chkMulR ⟨64, 2, 6, 3, 2⟩ 4 4 = true := by decide +kernel
theorem mul_64_8 : chkMulR ⟨64, 2, 6, 3, 2⟩ 8 4 = true := by decide +kernel
theorem mul_64_12 : chkMulR ⟨64, 2, 6, 3, 2⟩ 12 4 = true := by decide +kernel
theorem mul_64_16 : chkMulR ⟨64, 2, 6, 3, 2⟩ 16 4 = true := by decide +kernel
theorem mul_64_20 : chkMulR ⟨64, 2, 6, 3, 2⟩ 20 4 = true := by decide +kernel
theorem mul_64_24 : chkMulR ⟨64, 2, 6, 3, 2⟩ 24 4 = true := by decide +kernel
theorem mul_64_28 : chkMulR ⟨64, 2, 6, 3, 2⟩ 28 4 = true := by decide +kernel
theorem mul_64_32 : chkMulR ⟨64, 2, 6, 3, 2⟩ 32 4 = true := by decide +kernel
theorem mul_64_36 : chkMulR ⟨64, 2, 6, 3, 2⟩ 36 4 = true := by decide +kernel
theorem mul_64_40 : chkMulR ⟨64, 2, 6, 3, 2⟩ 40 4 = true := by decide +kernel
theorem mul_64_44 : chkMulR ⟨64, 2, 6, 3, 2⟩ 44 4 = true := by decide +kernel
theorem mul_64_48 : chkMulR ⟨64, 2, 6, 3, 2⟩ 48 4 = true := by decide +kernel
theorem mul_64_52 : chkMulR ⟨64, 2, 6, 3, 2⟩ 52 4 = true := by decide +kernel
theorem mul_64_56 : chkMulR ⟨64, 2, 6, 3, 2⟩ 56 4 = true := by decide +kernel
theorem mul_64_60 : chkMulR ⟨64, 2, 6, 3, 2⟩ 60 4 = true := by decide +kernel
theorem mulAll_64 (b : Nat) (hb : b < 64) : chkMulB ⟨64, 2, 6, 3, 2⟩ b = true := by
  rcases Nat.lt_or_ge b 4 with h0 | h0
  · exact chkMulR_of mul_64_0 b (by omega) (by omega)
  rcases Nat.lt_or_ge b 8 with h4 | h4
  · exact chkMulR_of mul_64_4 b (by omega) (by omega)
  rcases Nat.lt_or_ge b 12 with h8 | h8
  · exact chkMulR_of mul_64_8 b (by omega) (by omega)
  rcases Nat.lt_or_ge b 16 with h12 | h12
  · exact chkMulR_of mul_64_12 b (by omega) (by omega)
  rcases Nat.lt_or_ge b 20 with h16 | h16
  · exact chkMulR_of mul_64_16 b (by omega) (by omega)
  rcases Nat.lt_or_ge b 24 with h20 | h20
  · exact chkMulR_of mul_64_20 b (by omega) (by omega)
  rcases Nat.lt_or_ge b 28 with h24 | h24
  · exact chkMulR_of mul_64_24 b (by omega) (by omega)
  rcases Nat.lt_or_ge b 32 with h28 | h28
  · exact chkMulR_of mul_64_28 b (by omega) (by omega)
  rcases Nat.lt_or_ge b 36 with h32 | h32
  · exact chkMulR_of mul_64_32 b (by omega) (by omega)
  rcases Nat.lt_or_ge b 40 with h36 | h36
  · exact chkMulR_of mul_64_36 b (by omega) (by omega)
  rcases Nat.lt_or_ge b 44 with h40 | h40
  · exact chkMulR_of mul_64_40 b (by omega) (by omega)
  rcases Nat.lt_or_ge b 48 with h44 | h44
  · exact chkMulR_of mul_64_44 b (by omega) (by omega)
  rcases Nat.lt_or_ge b 52 with h48 | h48
  · exact chkMulR_of mul_64_48 b (by omega) (by omega)
  rcases Nat.lt_or_ge b 56 with h52 | h52
  · exact chkMulR_of mul_64_52 b (by omega) (by omega)
  rcases Nat.lt_or_ge b 60 with h56 | h56
  · exact chkMulR_of mul_64_56 b (by omega) (by omega)
  exact chkMulR_of mul_64_60 b (by omega) (by omega)
theorem chkMul_all {D : FD} (hD : D ∈ fieldsL) (b : Nat) (hb : b < D.q) : chkMulB D b = true := by
  simp only [fieldsL, List.mem_cons, List.not_mem_nil, or_false] at hD
  rcases hD with rfl | rfl | rfl | rfl | rfl | rfl | rfl | rfl | rfl | rfl | rfl | rfl | rfl | rfl | rfl | rfl | rfl | rfl | rfl | rfl | rfl | rfl | rfl | rfl | rfl | rfl | rfl
  · exact mulAll_2 b hb
  · exact mulAll_3 b hb
  · exact mulAll_4 b hb
  · exact mulAll_5 b hb
  · exact mulAll_7 b hb
  · exact mulAll_8 b hb
  · exact mulAll_9 b hb
  · exact mulAll_11 b hb
  · exact mulAll_13 b hb
  · exact mulAll_16 b hb
  · exact mulAll_17 b hb
  · exact mulAll_19 b hb
  · exact mulAll_23 b hb
  · exact mulAll_25 b hb
  · exact mulAll_27 b hb
  · exact mulAll_29 b hb
  · exact mulAll_31 b hb
  · exact mulAll_32 b hb
  · exact mulAll_37 b hb
  · exact mulAll_41 b hb
  · exact mulAll_43 b hb
  · exact mulAll_47 b hb
  · exact mulAll_49 b hb
  · exact mulAll_53 b hb
  · exact mulAll_59 b hb
  · exact mulAll_61 b hb
  · exact mulAll_64 b hb

def chkZero (D : FD) : Bool := D.m == 1 || allB D.q fun b => rmulN D.p D.m D.md 0 b == 0
theorem chkZero_all : fieldsL.all chkZero = true := by decide +kernel
theorem h0_zero {D : FD} (hD : D ∈ fieldsL) (hm : D.m ≠ 1) (b : Nat) (hb : b < D.q) : rmulN D.p D.m D.md 0 b = 0 := by
  have h := List.all_eq_true.1 chkZero_all D hD
  unfold chkZero at h
  rw [Bool.or_eq_true, beq_iff_eq] at h
  exact beq_iff_eq.1 (allB_of (h.resolve_left hm) b hb)

theorem rmul_is {D : FD} (hD : D ∈ fieldsL) (a b : Nat) (ha : a < D.q) (hb : b < D.q) : rmulN D.p D.m D.md a b = D.mul a b := by
  have F := fld hD
  have h := chkMul_all hD b hb
  unfold chkMulB at h
  rw [Bool.and_eq_true] at h
  have h1 := beq_iff_eq.1 h.1
  have h2 : ∀ a, a < D.q → rmulN D.p D.m D.md (D.st a) b = D.st (rmulN D.p D.m D.md a b) := fun a ha => beq_iff_eq.1 (allB_of h.2 a ha)
  have h3 : ∀ k, k < D.q - 1 → rmulN D.p D.m D.md (again D.st k 1) b = again D.st k b := by
    intro k
    induction k with
    | zero => intro _; exact h1
    | succ k ih =>
      intro hk
      show rmulN D.p D.m D.md (D.st (again D.st k 1)) b = D.st (again D.st k b)
      rw [h2 _ (F.pow_lt k (by omega)), ih (by omega)]
  by_cases h0 : a = 0
  · subst h0
    have hz : D.mul 0 b = 0 := by simp [FD.mul]
    rw [hz]
    by_cases hm : D.m = 1
    · simp [rmulN, hm]
    · exact h0_zero hD hm b hb
  · have hl := F.lg_is a ha h0
    rw [F.mul_eq a b h0 hb, ← h3 _ hl.1, hl.2]
end Go.Proofs.Ytjkncdmbcckcdaa
