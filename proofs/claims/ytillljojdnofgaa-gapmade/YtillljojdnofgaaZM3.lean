/- Plain mathematics of all fields up to 64 elements, gone on: a field is a field. No Go text here. -/
import Derived.Test.YtillljojdnofgaaZM2
namespace Go.Proofs.Ytillljojdnofgaa

theorem again_st (st : Nat → Nat) : ∀ k a, again st k (st a) = again st (k + 1) a
  | 0, _ => rfl
  | k + 1, a => by
    show st (again st k (st a)) = st (again st (k + 1) a)
    rw [again_st st k a]
theorem again_add (st : Nat → Nat) (j a : Nat) : ∀ k, again st (k + j) a = again st k (again st j a)
  | 0 => by rw [Nat.zero_add]; rfl
  | k + 1 => by
    rw [show k + 1 + j = (k + j) + 1 from by omega]
    show st (again st (k + j) a) = st (again st k (again st j a))
    rw [again_add st j a k]

theorem powL_contains (st : Nat → Nat) (x : Nat) : ∀ n a, (powL st n a).contains x = true ↔ ∃ k, k < n ∧ again st k a = x
  | 0, a => by simp [powL]
  | n + 1, a => by
    rw [powL, List.contains_cons, Bool.or_eq_true, powL_contains st x n (st a), beq_iff_eq]
    constructor
    · rintro (h | ⟨k, hk, h⟩)
      · exact ⟨0, by omega, h.symm⟩
      · exact ⟨k + 1, by omega, by rw [← again_st]; exact h⟩
    · rintro ⟨k, hk, h⟩
      cases k with
      | zero => exact Or.inl h.symm
      | succ k => exact Or.inr ⟨k, by omega, by rw [again_st]; exact h⟩

theorem nodupB_pow (st : Nat → Nat) : ∀ n a, nodupB (powL st n a) = true ↔ ∀ k, k < n → ∀ j, j < k → again st j a ≠ again st k a
  | 0, a => by simp [powL, nodupB]
  | n + 1, a => by
    rw [powL, nodupB, Bool.and_eq_true, nodupB_pow st n (st a), Bool.not_eq_true', ← Bool.not_eq_true, powL_contains]
    constructor
    · rintro ⟨h1, h2⟩ k hk j hj
      cases k with
      | zero => omega
      | succ k =>
        cases j with
        | zero => exact fun e => h1 ⟨k, by omega, by rw [again_st]; exact e.symm⟩
        | succ j => have := h2 k (by omega) j (by omega); rw [again_st, again_st] at this; exact this
    · intro h
      refine ⟨?_, fun k hk j hj => by rw [again_st, again_st]; exact h (k + 1) (by omega) (j + 1) (by omega)⟩
      rintro ⟨k, hk, e⟩
      rw [again_st] at e
      exact h (k + 1) (by omega) 0 (by omega) e.symm

theorem fullB_iff (st : Nat → Nat) (n : Nat) : fullB st n = true ↔ Full st n := by
  unfold fullB Full
  rw [Bool.and_eq_true, nodupB_pow, Bool.not_eq_true', ← Bool.not_eq_true, powL_contains]
  constructor
  · rintro ⟨h1, h2⟩ k hk
    exact ⟨fun e => h1 ⟨k, hk, e⟩, h2 k hk⟩
  · intro h
    exact ⟨fun ⟨k, hk, e⟩ => (h k hk).1 e, fun k hk => (h k hk).2⟩

/-- What is known of each field. -/
structure Fld (D : FD) : Prop where
  p2 : 2 ≤ D.p
  p64 : D.p ≤ 64
  m1 : 1 ≤ D.m
  m6 : D.m ≤ 6
  q2 : 2 ≤ D.q
  q64 : D.q ≤ 64
  qp : D.q = D.p ^ D.m
  sum_lt : ∀ a b, a < D.q → b < D.q → sumD D.p D.q a b < D.q
  dig : ∀ a b i, a < D.q → b < D.q → i < D.m → sumD D.p D.q a b / D.p ^ i % D.p = (a / D.p ^ i + b / D.p ^ i) % D.p
  neg_lt : ∀ a, a < D.q → negD D.p D.q a < D.q
  sum_neg : ∀ a, a < D.q → sumD D.p D.q a (negD D.p D.q a) = 0
  sum_zero : ∀ a, a < D.q → sumD D.p D.q a 0 = a
  full : Full D.st (D.q - 1)
  pow_lt : ∀ k, k < D.q - 1 → again D.st k 1 < D.q
  period : again D.st (D.q - 1) 1 = 1
  onto : ∀ a, a < D.q → a ≠ 0 → ∃ k, k < D.q - 1 ∧ again D.st k 1 = a
  st_zero : D.st 0 = 0
  st_lt : ∀ a, a < D.q → D.st a < D.q
  st_add : ∀ a b, a < D.q → b < D.q → D.st (sumD D.p D.q a b) = sumD D.p D.q (D.st a) (D.st b)
  least1 : D.m = 1 → D.p = D.q ∧ 1 ≤ D.gen ∧ D.gen < D.q ∧ D.low = 0 ∧ ∀ g, 1 ≤ g → g < D.gen → ¬ Full (fun a => a * g % D.q) (D.q - 1)
  least2 : D.m ≠ 1 → D.gen = D.p ∧ D.low < D.q ∧ ∀ l, l < D.low → ¬ Full (timesX D.p D.q l) (D.q - 1)

theorem fld {D : FD} (h : D ∈ fieldsL) : Fld D := by
  have h1 := List.all_eq_true.1 chkSum_all D h
  have h2 := List.all_eq_true.1 chkNeg_all D h
  have h3 := List.all_eq_true.1 chkPow_all D h
  have h4 := List.all_eq_true.1 chkAdd_all D h
  have h5 := List.all_eq_true.1 chkLeast_all D h
  have h6 := List.all_eq_true.1 chkNum_all D h
  clear h
  unfold chkNum at h6
  simp only [Bool.and_eq_true, decide_eq_true_eq, beq_iff_eq] at h6
  obtain ⟨⟨⟨⟨⟨⟨n1, n2⟩, n3⟩, n4⟩, n5⟩, n6⟩, n7⟩ := h6
  unfold chkPow at h3
  simp only [Bool.and_eq_true, List.all_eq_true, decide_eq_true_eq, beq_iff_eq] at h3
  obtain ⟨⟨⟨f1, f2⟩, f3⟩, f4⟩ := h3
  unfold chkAdd at h4
  simp only [Bool.and_eq_true, beq_iff_eq] at h4
  obtain ⟨g1, g2⟩ := h4
  unfold chkLeast at h5
  refine ⟨n1, n2, n3, n4, n5, n6, n7, ?_, ?_, ?_, ?_, ?_, (fullB_iff _ _).1 f1, ?_, f3, ?_, g1, ?_, ?_, ?_, ?_⟩
  · intro a b ha hb
    have := allB_of (allB_of h1 a ha) b hb
    simp only [Bool.and_eq_true, decide_eq_true_eq] at this
    exact this.1
  · intro a b i ha hb hi
    have := allB_of (allB_of h1 a ha) b hb
    simp only [Bool.and_eq_true, decide_eq_true_eq] at this
    exact beq_iff_eq.1 (allB_of this.2 i hi)
  · intro a ha
    have := allB_of h2 a ha
    simp only [Bool.and_eq_true, decide_eq_true_eq, beq_iff_eq] at this
    exact this.1.1
  · intro a ha
    have := allB_of h2 a ha
    simp only [Bool.and_eq_true, decide_eq_true_eq, beq_iff_eq] at this
    exact this.1.2
  · intro a ha
    have := allB_of h2 a ha
    simp only [Bool.and_eq_true, decide_eq_true_eq, beq_iff_eq] at this
    exact this.2
  · intro k hk
    exact f2 _ (List.contains_iff_mem.1 ((powL_contains _ _ _ _).2 ⟨k, hk, rfl⟩))
  · intro a ha h0
    have := allB_of f4 a ha
    rw [Bool.or_eq_true, powL_contains, beq_iff_eq] at this
    exact this.resolve_left h0
  · intro a ha
    have := allB_of g2 a ha
    simp only [Bool.and_eq_true, decide_eq_true_eq] at this
    exact this.1
  · intro a b ha hb
    have := allB_of g2 a ha
    simp only [Bool.and_eq_true, decide_eq_true_eq] at this
    exact beq_iff_eq.1 (allB_of this.2 b hb)
  · intro hm
    rw [if_pos hm] at h5
    simp only [Bool.and_eq_true, decide_eq_true_eq, beq_iff_eq] at h5
    obtain ⟨⟨⟨⟨a1, a2⟩, a3⟩, a4⟩, a5⟩ := h5
    refine ⟨a1, a2, a3, a4, fun g hg1 hg hf => ?_⟩
    have := allB_of a5 g hg
    rw [(fullB_iff _ _).2 hf] at this
    simp at this
    omega
  · intro hm
    rw [if_neg hm] at h5
    simp only [Bool.and_eq_true, decide_eq_true_eq, beq_iff_eq] at h5
    obtain ⟨⟨a1, a2⟩, a3⟩ := h5
    refine ⟨a1, a2, fun l hl hf => ?_⟩
    have := allB_of a3 l hl
    rw [(fullB_iff _ _).2 hf] at this
    simp at this

theorem sumFrom_comm (p q a b : Nat) : ∀ k u, sumFrom p q a b k u = sumFrom p q b a k u
  | 0, _ => rfl
  | k + 1, u => by
    rw [sumFrom, sumFrom, sumFrom_comm p q a b k (u * p), Nat.add_comm (a / u)]

def sum3From (p q a b c : Nat) : Nat → Nat → Nat
  | 0, _ => 0
  | k + 1, u => if u < q then (a / u + b / u + c / u) % p * u + sum3From p q a b c k (u * p) else 0

theorem Fld.sum3 {D : FD} (F : Fld D) (a b c : Nat) (ha : a < D.q) (hb : b < D.q) : ∀ k i, sumFrom D.p D.q (sumD D.p D.q a b) c k (D.p ^ i) = sum3From D.p D.q a b c k (D.p ^ i)
  | 0, _ => rfl
  | k + 1, i => by
    rw [sumFrom, sum3From]
    by_cases hu : D.p ^ i < D.q
    · have hi : i < D.m := by
        rw [F.qp] at hu
        exact (Nat.pow_lt_pow_iff_right F.p2).1 hu
      rw [if_pos hu, if_pos hu, ← Nat.pow_succ, F.sum3 a b c ha hb k (i + 1)]
      congr 2
      rw [Nat.add_mod, F.dig a b i ha hb hi, Nat.mod_add_mod, Nat.add_mod_mod]
    · rw [if_neg hu, if_neg hu]

theorem sum3_comm (p q a b c : Nat) : ∀ k u, sum3From p q a b c k u = sum3From p q b c a k u
  | 0, _ => rfl
  | k + 1, u => by
    rw [sum3From, sum3From, sum3_comm p q a b c k (u * p), show a / u + b / u + c / u = b / u + c / u + a / u from by omega]

theorem Fld.add_comm {D : FD} (_F : Fld D) (a b : Nat) : sumD D.p D.q a b = sumD D.p D.q b a := sumFrom_comm _ _ _ _ _ _
theorem Fld.add_assoc {D : FD} (F : Fld D) (a b c : Nat) (ha : a < D.q) (hb : b < D.q) (hc : c < D.q) : sumD D.p D.q (sumD D.p D.q a b) c = sumD D.p D.q a (sumD D.p D.q b c) := by
  rw [F.add_comm a (sumD D.p D.q b c)]
  have h1 := F.sum3 a b c ha hb 7 0
  have h2 := F.sum3 b c a hb hc 7 0
  rw [Nat.pow_zero] at h1 h2
  unfold sumD at *
  rw [h1, h2, sum3_comm]

/-- Which power of the generator an element is. -/
def FD.lg (D : FD) (a : Nat) : Nat := (powL D.st (D.q - 1) 1).findIdx (· == a)

theorem powL_len (st : Nat → Nat) : ∀ n a, (powL st n a).length = n
  | 0, _ => rfl
  | n + 1, a => by rw [powL, List.length_cons, powL_len st n]
theorem powL_get (st : Nat → Nat) : ∀ n a k, k < n → (powL st n a)[k]? = some (again st k a)
  | 0, _, _, h => by omega
  | n + 1, a, 0, _ => by rw [powL]; rfl
  | n + 1, a, k + 1, h => by
    rw [powL, List.getElem?_cons_succ, powL_get st n (st a) k (by omega), again_st]

theorem Fld.lg_is {D : FD} (F : Fld D) (a : Nat) (ha : a < D.q) (h0 : a ≠ 0) : D.lg a < D.q - 1 ∧ again D.st (D.lg a) 1 = a := by
  obtain ⟨k, hk, e⟩ := F.onto a ha h0
  have hlt : D.lg a < (powL D.st (D.q - 1) 1).length := by
    unfold FD.lg
    rw [List.findIdx_lt_length]
    exact ⟨a, List.contains_iff_mem.1 ((powL_contains _ _ _ _).2 ⟨k, hk, e⟩), by simp⟩
  have hl := powL_len D.st (D.q - 1) 1
  have h1 : D.lg a < D.q - 1 := by omega
  refine ⟨h1, ?_⟩
  have hg := powL_get D.st (D.q - 1) 1 (D.lg a) h1
  have hp : ((powL D.st (D.q - 1) 1)[D.lg a] == a) = true := List.findIdx_getElem (w := hlt)
  rw [List.getElem?_eq_getElem hlt, Option.some.injEq] at hg
  rw [← hg]; exact beq_iff_eq.1 hp

theorem Fld.inj {D : FD} (F : Fld D) (j k : Nat) (hj : j < D.q - 1) (hk : k < D.q - 1) (e : again D.st j 1 = again D.st k 1) : j = k := by
  rcases Nat.lt_trichotomy j k with h | h | h
  · exact absurd e ((F.full k hk).2 j h)
  · exact h
  · exact absurd e.symm ((F.full j hj).2 k h)

theorem Fld.lg_pow {D : FD} (F : Fld D) (k : Nat) (hk : k < D.q - 1) : D.lg (again D.st k 1) = k := by
  have := F.lg_is (again D.st k 1) (F.pow_lt k hk) (F.full k hk).1
  exact F.inj _ _ this.1 hk this.2

theorem Fld.pow_add_n {D : FD} (F : Fld D) (k : Nat) : again D.st (k + (D.q - 1)) 1 = again D.st k 1 := by
  rw [again_add, F.period]
theorem Fld.pow_mod {D : FD} (F : Fld D) (k : Nat) : again D.st (k % (D.q - 1)) 1 = again D.st k 1 := by
  have h : ∀ c r, again D.st (r + c * (D.q - 1)) 1 = again D.st r 1 := by
    intro c
    induction c with
    | zero => intro r; rw [Nat.zero_mul]; rfl
    | succ c ih => intro r; rw [Nat.succ_mul, ← Nat.add_assoc, F.pow_add_n, ih]
  conv => rhs; rw [← Nat.mod_add_div k (D.q - 1), Nat.mul_comm (D.q - 1)]
  rw [h]

/-- The product, as the table tells it. -/
def FD.mul (D : FD) (a b : Nat) : Nat := if a = 0 ∨ b = 0 then 0 else again D.st ((D.lg a + D.lg b) % (D.q - 1)) 1
theorem again_zero {st : Nat → Nat} (h : st 0 = 0) : ∀ k, again st k 0 = 0
  | 0 => rfl
  | k + 1 => by show st (again st k 0) = 0; rw [again_zero h k, h]

theorem Fld.mul_eq {D : FD} (F : Fld D) (a b : Nat) (h0 : a ≠ 0) (hb : b < D.q) : D.mul a b = again D.st (D.lg a) b := by
  unfold FD.mul
  by_cases hb0 : b = 0
  · rw [if_pos (Or.inr hb0), hb0, again_zero F.st_zero]
  · rw [if_neg (by omega), F.pow_mod, again_add, (F.lg_is b hb hb0).2]
theorem Fld.mul_lt {D : FD} (F : Fld D) (a b : Nat) : D.mul a b < D.q := by
  unfold FD.mul
  split
  · have := F.q2; omega
  · exact F.pow_lt _ (Nat.mod_lt _ (by have := F.q2; omega))
theorem Fld.mul_ne {D : FD} (F : Fld D) (a b : Nat) (ha : a ≠ 0) (hb : b ≠ 0) : D.mul a b ≠ 0 ∧ D.lg (D.mul a b) = (D.lg a + D.lg b) % (D.q - 1) := by
  have hn : (D.lg a + D.lg b) % (D.q - 1) < D.q - 1 := Nat.mod_lt _ (by have := F.q2; omega)
  unfold FD.mul
  rw [if_neg (by omega)]
  exact ⟨(F.full _ hn).1, F.lg_pow _ hn⟩
theorem Fld.mul_comm {D : FD} (_F : Fld D) (a b : Nat) : D.mul a b = D.mul b a := by
  unfold FD.mul
  by_cases h : a = 0 ∨ b = 0
  · rw [if_pos h, if_pos h.symm]
  · rw [if_neg h, if_neg (fun e => h e.symm), Nat.add_comm]
theorem Fld.mul_assoc {D : FD} (F : Fld D) (a b c : Nat) : D.mul (D.mul a b) c = D.mul a (D.mul b c) := by
  by_cases ha : a = 0
  · subst ha; simp [FD.mul]
  by_cases hb : b = 0
  · subst hb; simp [FD.mul]
  by_cases hc : c = 0
  · subst hc; simp [FD.mul]
  have h1 := F.mul_ne a b ha hb
  have h2 := F.mul_ne b c hb hc
  rw [FD.mul, if_neg (by omega), h1.2, FD.mul, if_neg (by omega), h2.2, Nat.mod_add_mod, Nat.add_mod_mod, Nat.add_assoc]
theorem Fld.again_add' {D : FD} (F : Fld D) (a b : Nat) (ha : a < D.q) (hb : b < D.q) : ∀ k, again D.st k (sumD D.p D.q a b) = sumD D.p D.q (again D.st k a) (again D.st k b)
  | 0 => rfl
  | k + 1 => by
    show D.st (again D.st k _) = sumD _ _ (D.st (again D.st k a)) (D.st (again D.st k b))
    rw [F.again_add' a b ha hb k, F.st_add _ _ (again_lt _ _ F.st_lt k a ha) (again_lt _ _ F.st_lt k b hb)]
theorem Fld.distrib {D : FD} (F : Fld D) (a b c : Nat) (hb : b < D.q) (hc : c < D.q) : D.mul a (sumD D.p D.q b c) = sumD D.p D.q (D.mul a b) (D.mul a c) := by
  by_cases ha : a = 0
  · subst ha
    have : sumD D.p D.q 0 0 = 0 := F.sum_zero 0 (by have := F.q2; omega)
    simp [FD.mul, this]
  · rw [F.mul_eq a _ ha (F.sum_lt b c hb hc), F.mul_eq a b ha hb, F.mul_eq a c ha hc, F.again_add' b c hb hc]
theorem Fld.mul_one {D : FD} (F : Fld D) (a : Nat) (ha : a < D.q) : D.mul a 1 = a := by
  by_cases h : a = 0
  · subst h; simp [FD.mul]
  · rw [F.mul_eq a 1 h (by have := F.q2; omega)]; exact (F.lg_is a ha h).2
end Go.Proofs.Ytillljojdnofgaa
