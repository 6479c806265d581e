/- Texts of ours, one behind the other: KS36 KS37. -/
import Derived.Test.YtbfkacnpbelmlaaZKS35
import Derived.BigQuiet
/- Polar: what Encode and Decode come to together; the sum of the chances. -/
namespace Go.Proofs.Ytbfkacnpbelmlaa
open Go.RowKit Go.Sort

theorem pput_no {p f : Nat → Nat} {j : Nat} : ∀ n, (∀ i, i < n → j ≠ p i) → pput p f n j = 0
  | 0, _ => rfl
  | t + 1, h => by
    show (if j = p t then f t else pput p f t j) = 0
    rw [if_neg (h t (by omega))]
    exact pput_no t (fun i hi => h i (by omega))
theorem pput_at {p f : Nat → Nat} : ∀ n, (∀ i j, i < n → j < n → p i = p j → i = j) → ∀ i, i < n → pput p f n (p i) = f i
  | 0, _, i, hi => absurd hi (by omega)
  | t + 1, h, i, hi => by
    show (if p i = p t then f t else pput p f t (p i)) = f i
    by_cases e : i = t
    · rw [e, if_pos rfl]
    · rw [if_neg (fun k => e (h i t hi (by omega) k))]
      exact pput_at t (fun i j hi hj => h i j (by omega) (by omega)) i (by omega)
theorem bpl_inj {m k : Nat} (hm : m ≤ 5) (hk : k ≤ 2 ^ m) : ∀ i j, i < k → j < k → bpl m k i = bpl m k j → i = j := fun i j hi hj e => by
  have hl := bsl_len hm hk
  have hn : (bsl m k).Nodup := List.nodup_range.filter _
  unfold bpl at e
  rw [List.getD_eq_getElem?_getD, List.getD_eq_getElem?_getD, List.getElem?_eq_getElem (by omega), List.getElem?_eq_getElem (by omega)] at e
  exact (List.getElem_inj hn).1 e
/-- The place is one of the best. -/
def pfr (m k : Nat) (j : Nat) : Bool := decide ((j : Int) ∈ zl k fun i => ((bpl m k i : Nat) : Int))
theorem pfr_no {m k j : Nat} {f : Nat → Nat} (h : pfr m k j = false) : pput (bpl m k) f k j = 0 := by
  refine pput_no k (fun i hi e => ?_)
  have h := of_decide_eq_false h
  exact h (mem_getD.2 ⟨i, by rw [zl_len]; exact hi, by rw [zl_getD _ _ i hi, e]⟩)
/-- What Decode tells of what came of a message is the message. -/
theorem told_right {m k : Nat} {f : Nat → Nat} {y : Nat → Int} {r : (Nat → Int) × (Nat → Int)} (hm : m ≤ 5) (hk : k ≤ 2 ^ m) (hf : ∀ i, i < k → f i < 2) (hy : ∀ i, i < 2 ^ m → Le1 (y i) ((ptr m (pput (bpl m k) f k) i : Nat) : Int)) (e : rdp (pfr m k) m 0 y = some r) :
    msl (pfr m k) r.1 0 (2 ^ m) = zl k (fun i => ((f i : Nat) : Int)) := by
  have h := rdp_right m (fun j _ => pput_lt hf j) (fun j _ k => pfr_no (by rw [Nat.zero_add] at k; exact k)) hy e
  refine ((bpl_msl hm hk r.1).symm).trans (zl_congr (fun i hi => ?_))
  rw [(h _ (bpl_lt hm hk i hi)).1, pput_at k (bpl_inj hm hk) i hi]
theorem told_more {m k : Nat} {f : Nat → Nat} {x y : Nat → Int} {r : (Nat → Int) × (Nat → Int)} (hf : ∀ i, i < k → f i < 2) (hxy : ∀ i, i < 2 ^ m → Le1 (x i) (y i)) (hy : ∀ i, i < 2 ^ m → Le1 (y i) ((ptr m (pput (bpl m k) f k) i : Nat) : Int)) (e : rdp (pfr m k) m 0 x = some r) : ∃ r', rdp (pfr m k) m 0 y = some r' :=
  rdp_mono m (fun j _ => pput_lt hf j) (fun j _ k => pfr_no (by rw [Nat.zero_add] at k; exact k)) hxy hy e
theorem told_all {m k : Nat} {f : Nat → Nat} (hf : ∀ i, i < k → f i < 2) : ∃ r, rdp (pfr m k) m 0 (fun i => ((ptr m (pput (bpl m k) f k) i : Nat) : Int)) = some r :=
  rdp_all m (fun j _ => pput_lt hf j) (fun j _ k => pfr_no (by rw [Nat.zero_add] at k; exact k))
/-- Sums of the chances. -/
def lsm (m : Nat) : Nat → Nat
  | 0 => 0
  | t + 1 => lsm m t + (lss m).getD t 0
theorem lsm_chk : ((List.range 6).all fun m => decide (lsm m (2 ^ m) * 2 = 2 ^ m * 2 ^ 2 ^ m) && (List.range 32).all fun i => decide ((lss m).getD i 0 ≤ 4294967296)) = true := by decide +kernel
theorem lsm_all {m : Nat} (hm : m ≤ 5) : lsm m (2 ^ m) * 2 = 2 ^ m * 2 ^ 2 ^ m ∧ ∀ i, i < 32 → (lss m).getD i 0 ≤ 4294967296 := by
  have h := List.all_eq_true.1 lsm_chk m (List.mem_range.2 (by omega))
  rw [Bool.and_eq_true] at h
  exact ⟨of_decide_eq_true h.1, fun i hi => of_decide_eq_true (List.all_eq_true.1 h.2 i (List.mem_range.2 hi))⟩
theorem lsm_le {m : Nat} (hm : m ≤ 5) : ∀ t, t ≤ 32 → lsm m t ≤ t * 4294967296
  | 0, _ => Nat.le_refl _
  | t + 1, h => by
    show lsm m t + (lss m).getD t 0 ≤ _
    have h1 := lsm_le hm t (by omega)
    have h2 := (lsm_all hm).2 t (by omega)
    omega
end Go.Proofs.Ytbfkacnpbelmlaa

/- Polar: the walk of TopPolar. -/
namespace Go.Proofs.Ytbfkacnpbelmlaa
open Go.RowKit Go.Sort

set_option maxHeartbeats 2000000 in
set_option maxRecDepth 100000 in
theorem topPolar_long (m k l : Int) {ao bo : Option Addr} {n c n' c' : Nat} (w : World) (hn : 256 < n + n') (h1 : n ≤ 17592186044416) (h2 : n' ≤ 17592186044416) :
    Calls Try.prog 5 #[.slice ao n c, .int .i64 m, .int .i64 k, .slice bo n' c', .int .i64 l] w fun e w' => e = .returned (.bool true) ∧ Below w.heap.size w w' := by
  obtain ⟨S, hS⟩ : ∃ S, S = n + n' := ⟨_, rfl⟩
  have hSi : (n : Int) + (n' : Int) = (S : Int) := by omega
  have hSw : IntKind.i64.wrap (S : Int) = (S : Int) := wrap_to rfl (by omega)
  have h3 : (S : Int) > 256 := by omega
  have h4 : (256 : Int) < (S : Int) := by omega
  clear hn hS
  go_enter Try.func5, Try.ntmps5
  go_wp2
  go_ret
  exact ⟨rfl, Below.refl _ _⟩
/-- Decode of what came of a message. -/
theorem dec_top {M N K b off c : Nat} {x : Nat → Int} {f : Nat → Nat} {w : World} (hm : M ≤ 5) (hN : N = 2 ^ M) (hk : K ≤ N) (hf : ∀ i, i < K → f i < 2) (hX : Prt b off N x w) (hc1 : N ≤ c) (hc2 : c ≤ 9223372036854775807) (hy : ∀ i, i < N → Le1 (x i) ((ptr M (pput (bpl M K) f K) i : Nat) : Int)) :
    Calls Try.prog 22 #[.int .i64 (M : Nat), .int .i64 (K : Nat), .slice (some ⟨b, off, none⟩) N c] w fun e w' => ∃ v, e = .returned (.tuple #[v, .bool (rdp (pfr M K) M 0 x).isSome, .int .i64 0]) ∧ ((rdp (pfr M K) M 0 x).isSome = true → KI v (zl K fun i => ((f i : Nat) : Int)) w') ∧ Below w.heap.size w w' := by
  have hN2 := pow32 hm hN
  have hall : allP isht x N = true := by
    have : ∀ n, n ≤ N → allP isht x n = true := fun n => by
      induction n with
      | zero => intro _; rfl
      | succ n ih =>
        intro hn
        show (allP isht x n && isht (x n)) = true
        rw [ih (by omega)]
        exact decide_eq_true (hX.2.2 n (by omega))
    exact this N (Nat.le_refl _)
  refine (dec_ok (p := fun i => ((bpl M K i : Nat) : Int)) hm hN hk hX hc1 hc2 (fun w0 => best_zl hm hN hk w0) (fun w1 hb1 => ?_)).mono ?_
  · have h := bHeard_any (cap := c) (N : Int) (hX.same (hb1.block b hX.1) hb1.size).slz (by omega)
    have e : bchk isht N x (N : Int) = 0 := by unfold bchk; rw [if_neg (fun h => h rfl), if_pos hall]
    rw [e] at h
    exact h
  · rintro e w' ⟨v, he, ho, hb⟩
    refine ⟨v, he, fun hs => ?_, hb⟩
    have ho : OwnI w.heap.size v (dml (pfr M K) N (rdp (pfr M K) M 0 x)) w' := ho
    cases hr : rdp (pfr M K) M 0 x with
    | none => rw [hr] at hs; cases hs
    | some r =>
      rw [hr] at ho
      have ho : OwnI w.heap.size v (msl (pfr M K) r.1 0 N) w' := ho
      rw [hN] at ho hy
      rw [told_right hm (by rw [← hN]; exact hk) hf hy hr] at ho
      exact ho.ki (by rw [zl_len]; omega)
/-- Transform of bits where they lie. -/
theorem trans_top {M N b off c : Nat} {f : Nat → Nat} {w : World} (hm : M ≤ 5) (hN : N = 2 ^ M) (hW : Wbt b off N f w) (hc1 : N ≤ c) (hc2 : c ≤ 9223372036854775807) :
    Calls Try.prog 13 #[.int .i64 (M : Nat), .slice (some ⟨b, off, none⟩) N c] w fun x w' => ∃ v, x = .returned (.tuple #[v, .int .i64 0]) ∧ OwnI w.heap.size v (zl N fun i => ((ptr M f i : Nat) : Int)) w' ∧ Below w.heap.size w w' := by
  refine ptrans_ok hm hN hW hc1 hc2 ?_
  have h2 := bCheck_any (cap := c) (N : Int) hW.slz (by have := (pow32 hm hN).1; omega)
  have hb0 : allP isbt (fun i => ((f i : Nat) : Int)) N = true := by
    have : ∀ n, n ≤ N → allP isbt (fun i => ((f i : Nat) : Int)) n = true := fun n => by
      induction n with
      | zero => intro _; rfl
      | succ n ih =>
        intro hn
        show (allP isbt (fun i => ((f i : Nat) : Int)) n && isbt ((f n : Nat) : Int)) = true
        rw [ih (by omega)]
        exact decide_eq_true (by have := hW.2.2 n (by omega); show ((f n : Nat) : Int) = 0 ∨ ((f n : Nat) : Int) = 1; omega)
    exact this N (Nat.le_refl _)
  have e : bchk isbt N (fun i => ((f i : Nat) : Int)) (N : Int) = 0 := by unfold bchk; rw [if_neg (fun h => h rfl), if_pos hb0]
  rw [e] at h2
  exact h2
theorem own_wbt {base n : Nat} {v : Value} {f : Nat → Nat} {w : World} (h : OwnI base v (zl n fun i => ((f i : Nat) : Int)) w) (h1 : 1 ≤ n) (hf : ∀ i, i < n → f i < 2) : ∃ g c, v = .slice (some ⟨g, 0, none⟩) n c ∧ Wbt g 0 n f w ∧ n ≤ c ∧ c ≤ 9223372036854775807 ∧ base ≤ g := by
  obtain ⟨g, cap, e1, e2, e3, g3, g4⟩ := OwnI.rowZ h (by omega)
  exact ⟨g, cap, e1, ⟨g4.lt', fun i hi => by rw [Nat.zero_add]; exact g4.cell i hi, hf⟩, e2, e3, g3⟩
end Go.Proofs.Ytbfkacnpbelmlaa
