/- Texts of ours, one behind the other: S48 W17. -/
import Derived.Test.YtbofcldmgjeklabZKM11
import Derived.Test.YtbofcldmgjeklabZW9
import Derived.Test.YtbofcldmgjeklabZW15
import Derived.Test.YtbofcldmgjeklabZKM6
import Derived.Test.YtbofcldmgjeklabZS27
/- Plain mathematics of a file laid out as a square: where each of its numbers stands, and what is worked out of it. No Go text here. -/
namespace Go.Proofs.Ytbofcldmgjeklab
open Go.RowKit Go.Sort

/-- Which number of the file stands at a place whose row is not below its column. -/
def plr (k d i j : Nat) : Nat := if j < k then pls k i + (j - i) else pls k k + i * (d - k) + (j - k)
def pld (k d i j : Nat) : Nat := if i ≤ j then plr k d i j else plr k d j i
theorem pld_comm (k d i j : Nat) : pld k d i j = pld k d j i := by
  unfold pld
  by_cases h : i ≤ j
  · by_cases h' : j ≤ i
    · rw [show i = j by omega]
    · rw [if_pos h, if_neg h']
  · rw [if_neg h, if_pos (by omega)]
theorem ple_is {k d r : Nat} {args : Array Value} {X : World} (hk : k ≤ d) (h : PlE k d r args X) : ∃ i j : Nat, args = #[.int .i64 (i : Nat), .int .i64 (j : Nat)] ∧ i < k ∧ i ≤ j ∧ j < d ∧ r = plr k d i j := by
  obtain ⟨i, j, h1, h2, h3⟩ := h
  refine ⟨i, j, h1, h2, ?_⟩
  unfold plr
  rcases h3 with ⟨a, b, c⟩ | ⟨a, b, c⟩
  · exact ⟨a, by omega, by rw [if_pos b]; exact c⟩
  · exact ⟨by omega, b, by rw [if_neg (by omega)]; exact c⟩
theorem pls_next (k i : Nat) : pls k (i + 1) = pls k i + (k - i) := rfl
theorem plr_lt {k d i j : Nat} (hi : i < k) (hij : i ≤ j) (hj : j < d) : plr k d i j < pls k k + k * (d - k) := by
  unfold plr
  by_cases h : j < k
  · rw [if_pos h]
    have h1 := pls_le k (show i + 1 ≤ k by omega)
    rw [pls_next] at h1
    omega
  · rw [if_neg h]
    have h1 : (i + 1) * (d - k) ≤ k * (d - k) := Nat.mul_le_mul_right _ (by omega)
    rw [Nat.succ_mul] at h1
    omega
theorem plr_inj {k d i j i' j' : Nat} (hi : i < k) (hij : i ≤ j) (hj : j < d) (hi' : i' < k) (hij' : i' ≤ j') (hj' : j' < d) (h : plr k d i j = plr k d i' j') : i = i' ∧ j = j' := by
  have low : ∀ a b, a < k → a ≤ b → b < k → pls k a + (b - a) < pls k (a + 1) := fun a b _ _ _ => by rw [pls_next]; omega
  have mul : ∀ a b, a < b → a * (d - k) + (d - k) ≤ b * (d - k) := fun a b hab => by
    have h1 : (a + 1) * (d - k) ≤ b * (d - k) := Nat.mul_le_mul_right _ (by omega)
    rw [Nat.succ_mul] at h1
    exact h1
  unfold plr at h
  by_cases h1 : j < k
  · rw [if_pos h1] at h
    have l1 := low i j hi hij h1
    by_cases h2 : j' < k
    · rw [if_pos h2] at h
      have l2 := low i' j' hi' hij' h2
      rcases Nat.lt_trichotomy i i' with c | c | c
      · have := pls_le k (show i + 1 ≤ i' by omega); omega
      · subst c; omega
      · have := pls_le k (show i' + 1 ≤ i by omega); omega
    · rw [if_neg h2] at h
      have := pls_le k (show i + 1 ≤ k by omega)
      omega
  · rw [if_neg h1] at h
    by_cases h2 : j' < k
    · rw [if_pos h2] at h
      have l2 := low i' j' hi' hij' h2
      have := pls_le k (show i' + 1 ≤ k by omega)
      omega
    · rw [if_neg h2] at h
      rcases Nat.lt_trichotomy i i' with c | c | c
      · have := mul i i' c; omega
      · subst c; omega
      · have := mul i' i c; omega
theorem plr_surj {k d : Nat} (hk : k ≤ d) {r : Nat} (hr : r < pls k k + k * (d - k)) : ∃ i j, i < k ∧ i ≤ j ∧ j < d ∧ plr k d i j = r := by
  by_cases h : r < pls k k
  · have : ∀ t, t ≤ k → r < pls k t → ∃ i j, i < k ∧ i ≤ j ∧ j < d ∧ plr k d i j = r := fun t => by
      induction t with
      | zero => intro _ h; exact absurd h (by show ¬ r < 0; omega)
      | succ t ih =>
        intro ht h
        by_cases e : r < pls k t
        · exact ih (by omega) e
        · rw [pls_next] at h
          refine ⟨t, t + (r - pls k t), by omega, by omega, by omega, ?_⟩
          unfold plr
          rw [if_pos (by omega)]
          omega
    exact this k (Nat.le_refl _) h
  · have hd : 0 < d - k := by
      by_cases e : d - k = 0
      · rw [e] at hr; omega
      · omega
    obtain ⟨s, hs⟩ : ∃ s, s = r - pls k k := ⟨_, rfl⟩
    have h1 : s / (d - k) < k := by rw [Nat.div_lt_iff_lt_mul hd]; omega
    have h2 : s % (d - k) < d - k := Nat.mod_lt _ hd
    have h3 := Nat.div_add_mod s (d - k)
    rw [Nat.mul_comm] at h3
    refine ⟨s / (d - k), k + s % (d - k), h1, by omega, by omega, ?_⟩
    unfold plr
    rw [if_neg (by omega)]
    omega
theorem pls_two (k : Nat) : ∀ i, i ≤ k → 2 * pls k i + i * i = 2 * (i * k) + i
  | 0, _ => by simp [pls]
  | i + 1, h => by
    have ih := pls_two k i (by omega)
    have e1 : (i + 1) * (i + 1) = i * i + i + i + 1 := by rw [Nat.succ_mul, Nat.mul_succ]; omega
    have e2 : (i + 1) * k = i * k + k := Nat.succ_mul i k
    rw [pls_next, e1, e2]
    omega
theorem fsz_is (k d : Nat) : fsz k d = pls k k + k * (d - k) := by
  unfold fsz
  have h := pls_two k k (Nat.le_refl _)
  rw [Nat.mul_succ]
  omega

/-- The square, its first places laid. -/
def sqr (k d : Nat) (c : Nat → Nat) (r i j : Nat) : Nat := if (i < k ∨ j < k) ∧ i < d ∧ j < d ∧ pld k d i j < r then c (pld k d i j) else 0
theorem sqr_zero (k d : Nat) (c : Nat → Nat) (i j : Nat) : sqr k d c 0 i j = 0 := by unfold sqr; rw [if_neg (by omega)]
theorem sqr_comm (k d : Nat) (c : Nat → Nat) (r i j : Nat) : sqr k d c r i j = sqr k d c r j i := by
  unfold sqr
  rw [pld_comm k d i j]
  by_cases h : (i < k ∨ j < k) ∧ i < d ∧ j < d ∧ pld k d j i < r
  · rw [if_pos h, if_pos ⟨h.1.symm, h.2.2.1, h.2.1, h.2.2.2⟩]
  · rw [if_neg h, if_neg (fun x => h ⟨x.1.symm, x.2.2.1, x.2.1, x.2.2.2⟩)]
theorem pld_inj {k d i j a b : Nat} (hi : i < k) (hij : i ≤ j) (hj : j < d) (ha : a < d) (hb : b < d) (hab : a < k ∨ b < k) (h : pld k d a b = plr k d i j) : (a = i ∧ b = j) ∨ (a = j ∧ b = i) := by
  unfold pld at h
  by_cases c : a ≤ b
  · rw [if_pos c] at h
    have := plr_inj (by omega) c hb hi hij hj h
    omega
  · rw [if_neg c] at h
    have := plr_inj (by omega) (by omega) ha hi hij hj h
    omega
theorem sqr_next {k d : Nat} (hk : k ≤ d) (c : Nat → Nat) {r i j : Nat} (hi : i < k) (hij : i ≤ j) (hj : j < d) (hr : r = plr k d i j) (a b : Nat) : sqr k d c (r + 1) a b = if (a = i ∧ b = j) ∨ (a = j ∧ b = i) then c r else sqr k d c r a b := by
  have hp : ∀ x y, (x = i ∧ y = j) ∨ (x = j ∧ y = i) → pld k d x y = r ∧ ((x < k ∨ y < k) ∧ x < d ∧ y < d) := fun x y h => by
    rcases h with ⟨rfl, rfl⟩ | ⟨rfl, rfl⟩
    · refine ⟨?_, by omega⟩
      unfold pld; rw [if_pos hij, hr]
    · refine ⟨?_, by omega⟩
      rw [pld_comm]; unfold pld; rw [if_pos hij, hr]
  by_cases h : (a = i ∧ b = j) ∨ (a = j ∧ b = i)
  · rw [if_pos h]
    unfold sqr
    obtain ⟨h1, h2⟩ := hp a b h
    rw [h1, if_pos ⟨h2.1, h2.2.1, h2.2.2, by omega⟩]
  · rw [if_neg h]
    unfold sqr
    by_cases h2 : (a < k ∨ b < k) ∧ a < d ∧ b < d
    · have h3 : pld k d a b ≠ r := fun e => h (pld_inj hi hij hj h2.2.1 h2.2.2 h2.1 (e.trans hr))
      by_cases h4 : pld k d a b < r
      · rw [if_pos ⟨h2.1, h2.2.1, h2.2.2, by omega⟩, if_pos ⟨h2.1, h2.2.1, h2.2.2, h4⟩]
      · rw [if_neg (fun x => absurd x.2.2.2 (by omega)), if_neg (fun x => absurd x.2.2.2 h4)]
    · rw [if_neg (fun x => h2 ⟨x.1, x.2.1, x.2.2.1⟩), if_neg (fun x => h2 ⟨x.1, x.2.1, x.2.2.1⟩)]
theorem sqr_el {D : FD} (F : Fld D) (k d : Nat) {c : Nat → Nat} (hc : El D c) (r i : Nat) : El D (sqr k d c r i) := fun j => by
  unfold sqr; split
  · exact hc _
  · exact zero_lt' F
theorem sqr_bd (k d : Nat) (c : Nat → Nat) (r i : Nat) : Bd d (sqr k d c r i) := fun j hj => by
  unfold sqr; rw [if_neg (fun x => absurd x.2.2.1 (by omega))]
theorem sqr_at {k d : Nat} (c : Nat → Nat) {i j : Nat} (hi : i < k) (hij : i ≤ j) (hj : j < d) : sqr k d c (fsz k d) i j = c (plr k d i j) := by
  unfold sqr
  have e : pld k d i j = plr k d i j := by unfold pld; rw [if_pos hij]
  rw [e, if_pos ⟨Or.inl hi, by omega, hj, by rw [fsz_is]; exact plr_lt hi hij hj⟩]
theorem sqr_out {k d : Nat} (c : Nat → Nat) {r i j : Nat} (hi : k ≤ i) (hj : k ≤ j) : sqr k d c r i j = 0 := by
  unfold sqr; rw [if_neg (fun x => by have := x.1; omega)]

/-- The columns of the square that k nodes would have been told of, if it may differ from itself turned over. -/
structure Fnd (D : FD) (k d : Nat) (xs : Nat → Nat) (H : Nat → Nat → Nat) (Q : Nat → Nat → Nat) : Prop where
  el : ∀ j, El D (Q j)
  bd : ∀ j, Bd d (Q j)
  far : ∀ j, k ≤ j → j < d → Bd k (Q j) ∧ ∀ t, t < k → D.ev (Q j) (xs t) k = H t j
  turn : ∀ j i, j < k → k ≤ i → i < d → Q j i = Q i j
  mid : ∀ j t, j < k → t < k → D.ev (Q j) (xs t) d = H t j
/-- A polynomial's value is that of its first part and that of the rest. -/
theorem ev_two {D : FD} (F : Fld D) (c : Nat → Nat) (x k : Nat) : ∀ n, D.ev c x (k + n) = D.ad (D.ev (fun i => if i < k then c i else 0) x k) (D.ev (fun i => if i < k then 0 else c i) x (k + n))
  | 0 => by
    have h : ∀ m, m ≤ k → D.ev c x m = D.ev (fun i => if i < k then c i else 0) x m ∧ D.ev (fun i => if i < k then 0 else c i) x m = 0 := fun m => by
      induction m with
      | zero => intro _; exact ⟨rfl, rfl⟩
      | succ m ih =>
        intro hm
        obtain ⟨h1, h2⟩ := ih (by omega)
        refine ⟨?_, ?_⟩
        · show D.ad (D.ev c x m) (D.mul (c m) (D.xp x m)) = D.ad (D.ev _ x m) (D.mul (if m < k then c m else 0) (D.xp x m))
          rw [h1, if_pos (show m < k by omega)]
        · show D.ad (D.ev (fun i => if i < k then 0 else c i) x m) (D.mul (if m < k then 0 else c m) (D.xp x m)) = 0
          rw [h2, if_pos (show m < k by omega), zmul F, ad_zero F (zero_lt' F)]
    obtain ⟨h1, h2⟩ := h k (Nat.le_refl _)
    rw [Nat.add_zero, h2, ← h1, ad_zero F (ev_lt F _ _ _)]
  | n + 1 => by
    show D.ad (D.ev c x (k + n)) (D.mul (c (k + n)) (D.xp x (k + n))) = D.ad _ (D.ad (D.ev (fun i => if i < k then 0 else c i) x (k + n)) (D.mul (if k + n < k then 0 else c (k + n)) (D.xp x (k + n))))
    rw [if_neg (by omega), ev_two F c x k n, ad_assoc F (ev_lt F _ _ _) (ev_lt F _ _ _) (F.mul_lt _ _)]
theorem ev_same {D : FD} {a b : Nat → Nat} (x : Nat) : ∀ n, (∀ i, i < n → a i = b i) → D.ev a x n = D.ev b x n
  | 0, _ => rfl
  | n + 1, h => by
    show D.ad (D.ev a x n) (D.mul (a n) (D.xp x n)) = D.ad (D.ev b x n) (D.mul (b n) (D.xp x n))
    rw [ev_same x n (fun i hi => h i (by omega)), h n (by omega)]
theorem Fnd.one {D : FD} (F : Fld D) {k d : Nat} {xs : Nat → Nat} {H Q Q' : Nat → Nat → Nat} (hk : k ≤ d) (hx : ∀ i, i < k → xs i < D.q) (hne : ∀ i j, i < k → j < k → i ≠ j → xs i ≠ xs j) (h : Fnd D k d xs H Q) (h' : Fnd D k d xs H Q') : ∀ j, j < d → Q j = Q' j := by
  have hfar : ∀ j, k ≤ j → j < d → Q j = Q' j := fun j h1 h2 => thr_one F hx hne (h.el j) (h'.el j) (h.far j h1 h2).1 (h'.far j h1 h2).1 (fun i hi => by rw [(h.far j h1 h2).2 i hi, (h'.far j h1 h2).2 i hi])
  intro j hj
  by_cases c : j < k
  · have hrest : ∀ i, k ≤ i → i < d → Q j i = Q' j i := fun i h1 h2 => by rw [h.turn j i c h1 h2, h'.turn j i c h1 h2, hfar i h1 h2]
    have e : (fun i => if i < k then Q j i else 0) = fun i => if i < k then Q' j i else 0 := by
      refine thr_one F hx hne (fun i => ?_) (fun i => ?_) (fun i hi => if_neg (by omega)) (fun i hi => if_neg (by omega)) (fun t ht => ?_)
      · show (if i < k then Q j i else 0) < D.q
        split
        · exact h.el j i
        · exact zero_lt' F
      · show (if i < k then Q' j i else 0) < D.q
        split
        · exact h'.el j i
        · exact zero_lt' F
      · have h1 := h.mid j t c ht
        have h2 := h'.mid j t c ht
        rw [show d = k + (d - k) by omega, ev_two F] at h1 h2
        rw [ev_same (a := fun i => if i < k then 0 else Q' j i) (b := fun i => if i < k then 0 else Q j i) _ _ (fun i hi => by
          by_cases e : i < k
          · rw [if_pos e, if_pos e]
          · rw [if_neg e, if_neg e, hrest i (by omega) (by omega)])] at h2
        rw [← h2, ad_comm F, ad_comm F (D.ev (fun i => if i < k then Q' j i else 0) (xs t) k)] at h1
        exact ad_cancel F (ev_lt F _ _ _) (ev_lt F _ _ _) (ev_lt F _ _ _) h1
    funext i
    by_cases c1 : i < k
    · have := congrFun e i
      simp only [if_pos c1] at this
      exact this
    · by_cases c2 : i < d
      · exact hrest i (by omega) c2
      · rw [h.bd j i (by omega), h'.bd j i (by omega)]
  · exact hfar j (by omega) hj
end Go.Proofs.Ytbofcldmgjeklab

/- The law of W13 in a round of a range over a function. No Go text here. -/
namespace Go.Proofs.Ytbofcldmgjeklab
open Go

theorem round_region_L {P : Program} {ops : Array Oper} {Q : Exit → Act → World → Prop} {S : World → Prop} (L : List Nat) {r id : Nat} {a : Act} {w : World} (hQ : ¬ LetsOut Q) (hdf : noDefer ops.toList = true) (hm : P.follows .mixedOrders = true)
    (h : wpAnyL P ops Q S L ops.size (Array.replicate ops.size false) a w.drew) : (Code.region id ops true).wpIn (Fence.wide.inRound r) 0 P Q a w :=
  region_round hQ hdf hm (wpAny_of_L _ _ _ _ h)
end Go.Proofs.Ytbofcldmgjeklab
