/- Texts of ours, one behind the other: Z2 Z3 Z4. -/
import Derived.Test.YtnjbnamcedfjaaaZX3
import Derived.Test.YtnjbnamcedfjaaaZR9
import Derived.Test.YtnjbnamcedfjaaaZL1
/- Places and a dimension: may they be? The program's Check, the reference's ReedMay, whatever they are given. -/
namespace Go.Proofs.Ytnjbnamcedfjaaa
open Go.RowKit Go.Sort

end Go.Proofs.Ytnjbnamcedfjaaa

/- The reference's ReedMay, whatever it is given. -/
namespace Go.Proofs.Ytnjbnamcedfjaaa
open Go.RowKit Go.Sort

end Go.Proofs.Ytnjbnamcedfjaaa

/- A word that came: may it be? The program's Word. -/
namespace Go.Proofs.Ytnjbnamcedfjaaa
open Go.RowKit Go.Sort

def anyB (p : Nat → Bool) : Nat → Bool
  | 0 => false
  | n + 1 => anyB p n || p n
theorem anyB_no {p : Nat → Bool} : ∀ n, (∀ j, j < n → p j = false) → anyB p n = false
  | 0, _ => rfl
  | n + 1, h => by
    show (anyB p n || p n) = false
    rw [anyB_no n (fun j hj => h j (by omega)), h n (by omega)]; rfl
theorem anyB_yes {p : Nat → Bool} {i : Nat} (h : p i = true) : ∀ n, i < n → anyB p n = true
  | 0, hi => absurd hi (by omega)
  | n + 1, hi => by
    show (anyB p n || p n) = true
    by_cases e : i = n
    · rw [← e, h, Bool.or_true]
    · rw [anyB_yes h n (by omega), Bool.true_or]

set_option maxHeartbeats 2000000 in
set_option maxRecDepth 100000 in
theorem containsFn_any {gf : Nat} {lb : Array Value} (eg : ∀ args w, (callFunc gf args).run Try.prog w = .ok (.enter gf args) w) {ao : Option Addr} {n cap : Nat} {z : Nat → Int} {p : Nat → Bool} {w : World}
    (hs : SlZ ao n z w) (hn : n ≤ 1000000) (hp : ∀ j, j < n → Calls Try.prog gf (#[.int .i64 (z j)] ++ lb) w fun e w' => e = .returned (.bool (p j)) ∧ w' = w) :
    Calls Try.prog 58 #[.slice ao n cap, .func (.func gf) #[] lb] w fun e w' => e = .returned (.bool (anyB p n)) ∧ w' = w := by
  have HS : Hid (∀ cap, Calls Try.prog 86 #[.slice ao n cap, .func (.func gf) #[] lb] w fun e w' => w' = w ∧ ∃ i : Int, e = .returned (.int .i64 i) ∧ decide (0 ≤ i) = anyB p n) := fun cap => by
    refine (indexInts_any (cap := cap) (p := p) eg hs hn hp).mono ?_
    rintro e w' ⟨rfl, ⟨i, hi, hpi, _, rfl⟩ | ⟨ha, rfl⟩⟩
    · refine ⟨rfl, _, rfl, ?_⟩
      rw [anyB_yes hpi n hi]; simp
    · refine ⟨rfl, _, rfl, ?_⟩
      rw [anyB_no n ha]; rfl
  clear hs hp eg
  obtain ⟨y, hy⟩ : ∃ y, y = anyB p n := ⟨_, rfl⟩
  rw [← hy]
  have HY : Hid (y = anyB p n) := hy
  clear hy
  go_enter Try.func58, Try.ntmps58
  go_wp2_with (go_at_call 86; refine (HS.out _).mono ?_; rintro e w' ⟨hw, i, rfl, hi⟩; rw [← HY.out] at hi; have hw := hw.symm; subst hw)
  go_ret
  exact ⟨by first | rfl | simp_all, rfl⟩

end Go.Proofs.Ytnjbnamcedfjaaa
