/- Texts of ours, one behind the other: N2 N3 N4 U1. -/
import Derived.Test.YtjkncdmbcckcdaaZN1
import Derived.Test.YtjkncdmbcckcdaaZR15
/- Plain mathematics of polynomials, gone on: degrees, division, what is left, what divides. No Go text here. -/
namespace Go.Proofs.Ytjkncdmbcckcdaa

/-- How many coefficients there are without noughts at the end, of the first n. -/
def dgn (c : Nat → Nat) : Nat → Nat
  | 0 => 0
  | n + 1 => if c n = 0 then dgn c n else n + 1
theorem dgn_le (c : Nat → Nat) : ∀ n, dgn c n ≤ n
  | 0 => Nat.le_refl _
  | n + 1 => by
    rw [dgn]; split
    · have := dgn_le c n; omega
    · omega
theorem dgn_zero (c : Nat → Nat) : ∀ n k, dgn c n ≤ k → k < n → c k = 0
  | 0, _, _, h => by omega
  | n + 1, k, h1, h2 => by
    rw [dgn] at h1
    split at h1
    · rename_i h
      by_cases e : k = n
      · rw [e]; exact h
      · exact dgn_zero c n k h1 (by omega)
    · omega
theorem dgn_bd {c : Nat → Nat} {n : Nat} (h : Bd n c) : Bd (dgn c n) c := fun k hk => by
  by_cases e : k < n
  · exact dgn_zero c n k hk e
  · exact h k (by omega)
theorem dgn_top (c : Nat → Nat) : ∀ n, dgn c n ≠ 0 → c (dgn c n - 1) ≠ 0
  | 0, h => absurd rfl h
  | n + 1, h => by
    rw [dgn] at h ⊢
    split
    · rename_i e
      rw [if_pos e] at h
      exact dgn_top c n h
    · rename_i e
      exact e
theorem dgn_is {c : Nat → Nat} {n m : Nat} (hn : Bd n c) (h0 : Bd m c) (ht : m ≠ 0 → c (m - 1) ≠ 0) : dgn c n = m := by
  have h1 := dgn_bd hn
  rcases Nat.lt_trichotomy (dgn c n) m with h | h | h
  · exact absurd (h1 (m - 1) (by omega)) (ht (by omega))
  · exact h
  · exact absurd (h0 (dgn c n - 1) (by omega)) (dgn_top c n (by omega))
theorem dgn_self {c : Nat → Nat} {n : Nat} (h : n ≠ 0 → c (n - 1) ≠ 0) : dgn c n = n := by
  cases n with
  | zero => rfl
  | succ n =>
    have h := h (by omega)
    rw [Nat.add_sub_cancel] at h
    rw [dgn, if_neg h]
theorem dgn_to {c : Nat → Nat} {n : Nat} (h : Bd n c) : ∀ k, dgn c (n + k) = dgn c n
  | 0 => rfl
  | k + 1 => by rw [← Nat.add_assoc, dgn, if_pos (h (n + k) (by omega)), dgn_to h k]
theorem dgn_from {c : Nat → Nat} {n N : Nat} (h : Bd n c) (hn : n ≤ N) : dgn c N = dgn c n := by
  have := dgn_to h (N - n)
  rwa [show n + (N - n) = N from by omega] at this
theorem bd_nil_of {c : Nat → Nat} (h : Bd 0 c) : c = pnil := by funext k; exact h k (Nat.zero_le _)
theorem Bd.mono {c : Nat → Nat} {n m : Nat} (h : Bd n c) (hm : n ≤ m) : Bd m c := fun k hk => h k (by omega)

end Go.Proofs.Ytjkncdmbcckcdaa

/- Plain mathematics of polynomials, gone on: with 1 at the end; common divisors, as they are looked for. No Go text here. -/
namespace Go.Proofs.Ytjkncdmbcckcdaa

/-- No noughts at the end. -/
def Trd (n : Nat) (c : Nat → Nat) : Prop := Bd n c ∧ (n ≠ 0 → c (n - 1) ≠ 0)
theorem trd_dgn {c : Nat → Nat} {n : Nat} (h : Bd n c) : Trd (dgn c n) c := ⟨dgn_bd h, dgn_top c n⟩
theorem Trd.dgn {c : Nat → Nat} {n N : Nat} (h : Trd n c) (hN : n ≤ N) : Go.Proofs.Ytjkncdmbcckcdaa.dgn c N = n := by
  rw [dgn_from h.1 hN]; exact dgn_self h.2

end Go.Proofs.Ytjkncdmbcckcdaa

/- Plain mathematics of polynomials, gone on: values of sums and products. No Go text here. -/
namespace Go.Proofs.Ytjkncdmbcckcdaa

end Go.Proofs.Ytjkncdmbcckcdaa

/- The program's polynomials: lists of numbers, and what trim leaves. -/
namespace Go.Proofs.Ytjkncdmbcckcdaa
open Go.RowKit

/-- The first n numbers of the slice that begins at ao are the coefficients c. -/
def Sl (ao : Option Addr) (n : Nat) (c : Nat → Nat) (w : World) : Prop := ∀ j, j < n → ∃ b off, ao = some ⟨b, off, none⟩ ∧ w.cell? ⟨b, off + j, none⟩ = some (.int .i64 (c j : Nat))
/-- A slice's memory lies below a block number. -/
def LtB (ao : Option Addr) (B : Nat) : Prop := ∀ x, ao = some x → x.block < B
/-- A slice's memory lies behind a block number. -/
def GeB (ao : Option Addr) (B : Nat) : Prop := ∀ x, ao = some x → B ≤ x.block

theorem Sl.drewN {ao : Option Addr} {n : Nat} {c : Nat → Nat} {w : World} (h : Sl ao n c w) (k : Nat) : Sl ao n c (w.drewN k) := h
theorem Sl.less {ao : Option Addr} {n m : Nat} {c : Nat → Nat} {w : World} (h : Sl ao n c w) (hm : m ≤ n) : Sl ao m c w := fun j hj => h j (by omega)
theorem Sl.congr {ao : Option Addr} {n : Nat} {c d : Nat → Nat} {w : World} (h : Sl ao n c w) (e : ∀ j, j < n → c j = d j) : Sl ao n d w := fun j hj => by rw [← e j hj]; exact h j hj
theorem Sl.below {ao : Option Addr} {n B : Nat} {c : Nat → Nat} {w w' : World} (h : Sl ao n c w) (hb : Below B w w') (hB : LtB ao B) : Sl ao n c w' := fun j hj => by
  obtain ⟨b, off, rfl, hc⟩ := h j hj
  exact ⟨b, off, rfl, ((bcell hb).1 b (off + j) (hB _ rfl)).trans hc⟩
theorem LtB.mono {ao : Option Addr} {B C : Nat} (h : LtB ao B) (hBC : B ≤ C) : LtB ao C := fun x hx => Nat.lt_of_lt_of_le (h x hx) hBC
theorem GeB.mono {ao : Option Addr} {B C : Nat} (h : GeB ao C) (hBC : B ≤ C) : GeB ao B := fun x hx => Nat.le_trans hBC (h x hx)

set_option maxHeartbeats 1000000 in
theorem trim_any {ao : Option Addr} {n cap : Nat} {c : Nat → Nat} {w : World} (h : Sl ao n c w) (hn : n ≤ cap) (hcap : cap ≤ 9223372036854775807) :
    Calls Try.prog 104 #[.slice ao n cap] w fun e w' => e = .returned (.slice ao (dgn c n) cap) ∧ ∃ k, w' = w.drewN k := by
  have HS : Hid (Sl ao n c w) := h
  clear h
  go_enter Try.func104, Try.ntmps104
  go_wp2
  go_loopw [3] (fun i wr => ∃ m : Nat, m ≤ n ∧ i = .int .i64 m ∧ Hid (dgn c n = dgn c m) ∧ ∃ d, wr = w.drewN d) (fun i _ => (intOf i).toNat)
  case atStart => exact ⟨n, Nat.le_refl _, rfl, rfl, 0, rfl⟩
  case round =>
    obtain ⟨m, hm, rfl, HD, d, rfl⟩ := hrel
    cases m with
    | zero =>
      have HE : Hid (dgn c n = 0) := HD.out
      cases ao with
      | none =>
        go_wp2
        go_ret
        exact ⟨by rw [HE.out]; rfl, _, rfl⟩
      | some x =>
        go_wp2
        go_ret
        exact ⟨by rw [HE.out]; rfl, _, rfl⟩
    | succ m =>
      obtain ⟨b, off, rfl, hc⟩ := HS.out m (by omega)
      by_cases h0 : c m = 0
      · have HE : Hid (dgn c n = dgn c m) := by show _ = _; rw [HD.out, dgn, if_pos h0]
        have hz : (((c m : Nat) : Int) == 0) = true := by rw [h0]; rfl
        clear h0
        go_wp2
        go_roundw
        case rel => exact ⟨m, by omega, by go_num, HE.out, _, rfl⟩
        case measure => simp [intOf]
      · have HE : Hid (dgn c n = m + 1) := by show _ = _; rw [HD.out, dgn, if_neg h0]
        have hz : (((c m : Nat) : Int) == 0) = false := by rw [beq_eq_false_iff_ne]; omega
        clear h0
        go_wp2
        go_ret
        exact ⟨by rw [HE.out]; rfl, _, rfl⟩
end Go.Proofs.Ytjkncdmbcckcdaa
