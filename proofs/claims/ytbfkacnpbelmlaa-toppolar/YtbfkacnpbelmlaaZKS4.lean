/- Texts of ours, one behind the other: KS4 KS5 KS6 KS7. -/
import Derived.Test.YtbfkacnpbelmlaaZKS3
import Derived.Test.YtbfkacnpbelmlaaZR5
import Derived.Test.YtbfkacnpbelmlaaZO5
import Derived.Test.YtbfkacnpbelmlaaZW13
import Derived.Test.YtbfkacnpbelmlaaZI14
import Derived.Test.YtbfkacnpbelmlaaZW9
import Derived.Test.YtbfkacnpbelmlaaZKS2
/- Polar: Chances. -/
namespace Go.Proofs.Ytbfkacnpbelmlaa
open Go.RowKit Go.Sort

theorem pow16 {k : Nat} (hk : k ≤ 4) : 2 ^ k ≤ 16 := Nat.le_trans (Nat.pow_le_pow_right (by omega) hk) (by decide)
theorem pow2p {k : Nat} (hk : k ≤ 4) : 2 ^ 2 ^ k ≤ 65536 := Nat.le_trans (Nat.pow_le_pow_right (by omega) (pow16 hk)) (by decide)
theorem lsI_at {m : Nat} (hm : m < 5) (i : Nat) (hi : i < (lsI m).length) : 0 ≤ (lsI m).getD i 0 ∧ (lsI m).getD i 0 ≤ 65536 := by
  refine (lsI_next hm).2 _ ?_
  simp [List.getD_eq_getElem?_getD, hi]

theorem OwnI.argOf {base n : Nat} {v : Value} {l : List Int} {w : World} (h : OwnI base v l w) (hl : l.length = n) : ∃ ao ca, v = .slice ao n ca ∧ ArgL ao n ca (fun i => l.getD i 0) w := by
  subst hl
  have h2 : OwnI base v (zl l.length fun i => l.getD i 0) w := by rw [← list_zl l]; exact h
  exact h2.argL
theorem halved_ls {A P ca : Nat} {ao : Option Addr} {l l2 : List Int} {w : World} (hx : hvi (A : Int) l = l2 ∧ l.length = P ∧ ∀ i, i < P → 0 ≤ l.getD i 0 ∧ l.getD i 0 ≤ 65536) (hP : P ≤ 16) (hA : A ≤ 65536) (hX : ArgL ao P ca (fun i => l.getD i 0) w) :
    Calls Try.prog 25 #[.slice ao P ca, .int .i64 (A : Nat)] w fun e w' => ∃ v, e = .returned v ∧ OwnI w.heap.size v l2 w' ∧ Below w.heap.size w w' := by
  refine (halved_any hX.sl hX.lt (by omega) hA hx.2.2).mono ?_
  rintro e w' ⟨v, rfl, ho, hb⟩
  refine ⟨v, rfl, ?_, hb⟩
  have e : zl P (fun i => l.getD i 0) = l := by rw [← hx.2.1]; exact (list_zl l).symm
  rw [e, hx.1] at ho
  exact ho
theorem lsI_step {t A P : Nat} (ht : t < 5) (hA : A = 2 ^ P) (hP : P = 2 ^ t) : hvi (A : Int) (lsI t) = lsI (t + 1) ∧ (lsI t).length = P ∧ ∀ i, i < P → 0 ≤ (lsI t).getD i 0 ∧ (lsI t).getD i 0 ≤ 65536 := by
  have hl : (lsI t).length = P := by rw [hP]; exact lsI_len (by omega)
  refine ⟨by rw [hA, hP]; exact (lsI_next ht).1, hl, fun i hi => lsI_at ht i (by omega)⟩

set_option maxHeartbeats 4000000 in
set_option maxRecDepth 100000 in
theorem chances_ok {m : Nat} (hm : m ≤ 5) (w : World) :
    Calls Try.prog 7 #[.int .i64 (m : Nat)] w fun e w' => ∃ v, e = .returned (.tuple #[v, .int .i64 0]) ∧ OwnI w.heap.size v (lsI m) w' ∧ Below w.heap.size w w' := by
  have HC : Hid (Calls Try.prog 24 #[.int .i64 (m : Nat)] w fun e w' => e = .returned (.int .i64 0) ∧ w' = w) := by
    have := checkLevels_any (m : Int) w
    rw [if_neg (by omega)] at this; exact this
  go_enter Try.func7, Try.ntmps7
  go_wp2_with fail
  refine HC.out.mono ?_
  rintro e w' ⟨rfl, hw⟩
  have hw := hw.symm
  subst hw
  have H0 : Hid (OwnI w.heap.size (.slice (some ⟨w.heap.size, 0, none⟩) 1 1) (lsI 0) (w.alloc (.cells #[.int .i64 1] 3)) ∧ Below w.heap.size w (w.alloc (.cells #[.int .i64 1] 3))) := ⟨ownI_lit w [1] (by decide), (Below.refl _ _).alloc (Nat.le_refl _) _⟩
  clear HC
  go_wp2
  go_loopw [5, 14] (fun vs vi wr => ∃ t : Nat, t ≤ m ∧ vi = .int .i64 (t : Nat) ∧ Hid (OwnI w.heap.size vs (lsI t) wr ∧ Below w.heap.size w wr)) (fun _ vi _ => m - (intOf vi).toNat)
  case atStart => exact ⟨0, by omega, rfl, H0.out⟩
  case round =>
    obtain ⟨t, ht, rfl, HG⟩ := hrel
    clear H0
    rename World => wr
    by_cases hlt : t < m
    · have hib : (t : Int) < (m : Int) := by omega
      have ht4 : t ≤ 4 := by omega
      obtain ⟨P, hP⟩ : ∃ P, P = 2 ^ t := ⟨_, rfl⟩
      have hP16 : P ≤ 16 := by rw [hP]; exact pow16 ht4
      have hPi : (2 : Int) ^ t = (P : Int) := by rw [hP]; simp
      have hPw : IntKind.u64.wrap (P : Int) = (P : Int) := wrap_u64 (by omega)
      obtain ⟨A, hA⟩ : ∃ A, A = 2 ^ P := ⟨_, rfl⟩
      have hAb : A ≤ 65536 := by rw [hA, hP]; exact pow2p ht4
      have hAi : (2 : Int) ^ P = (A : Int) := by rw [hA]; simp
      have hAw : IntKind.i64.wrap (A : Int) = (A : Int) := wrap_to rfl (by omega)
      have hst := lsI_step (show t < 5 by omega) hA hP
      obtain ⟨l, hl⟩ : ∃ l, l = lsI t := ⟨_, rfl⟩
      obtain ⟨l2, hl2⟩ : ∃ l2, l2 = lsI (t + 1) := ⟨_, rfl⟩
      rw [← hl, ← hl2] at hst
      rw [← hl] at HG
      obtain ⟨ao, ca, hv, hA1⟩ := HG.out.1.argOf hst.2.1
      have HH : Hid (Calls Try.prog 25 #[.slice ao P ca, .int .i64 (A : Nat)] _ fun e w' => ∃ v, e = .returned v ∧ OwnI wr.heap.size v l2 w' ∧ Below wr.heap.size wr w') := halved_ls hst hP16 hAb hA1
      have HL2 : Hid (l2 = lsI (t + 1)) := hl2
      clear hA hP hA1 hst hl hl2
      subst hv
      have hsz := HG.out.2.size
      go_wp2_with fail
      refine HH.out.mono ?_
      rintro e w3 ⟨v3, rfl, ho3, hb3⟩
      have H3 : Hid (OwnI w.heap.size v3 (lsI (t + 1)) w3 ∧ Below w.heap.size w w3) := ⟨by rw [← HL2.out]; exact ho3.mono hsz, bel_up' HG.out.2 hb3⟩
      clear ho3 hb3 HH
      go_wp2
      go_roundw
      case rel => exact ⟨t + 1, by omega, by go_num, H3.out⟩
      case measure => simp [intOf]; omega
    · have hib : ¬ (t : Int) < (m : Int) := by omega
      have hie : t = m := by omega
      subst hie
      go_wp2
      go_ret2
      exact ⟨_, rfl, HG.out⟩

end Go.Proofs.Ytbfkacnpbelmlaa

/- Polar: the reference's Losses. -/
namespace Go.Proofs.Ytbfkacnpbelmlaa
open Go.RowKit Go.Sort

theorem alc2 (w : World) (a b : Value) (t : TypeId) : (w.alloc (.cells #[a, b] t)).cell? ⟨w.heap.size, 0, none⟩ = some a ∧ (w.alloc (.cells #[a, b] t)).cell? ⟨w.heap.size, 1, none⟩ = some b := by constructor <;> simp

end Go.Proofs.Ytbfkacnpbelmlaa

/- Polar: the reference's Polar. -/
namespace Go.Proofs.Ytbfkacnpbelmlaa
open Go.RowKit Go.Sort

end Go.Proofs.Ytbfkacnpbelmlaa

/- Polar: the reference's BestOf. -/
namespace Go.Proofs.Ytbfkacnpbelmlaa
open Go.RowKit Go.Sort

theorem lsI_nat (m i : Nat) : (lsI m).getD i 0 = (((lss m).getD i 0 : Nat) : Int) := by
  unfold lsI
  simp only [List.getD_eq_getElem?_getD, List.getElem?_map]
  cases (lss m)[i]? <;> rfl
def flt (t : List Nat) (J : Nat) : List Int := ((List.range J).filter fun j => t.contains j).map fun j => ((j : Nat) : Int)
end Go.Proofs.Ytbfkacnpbelmlaa
