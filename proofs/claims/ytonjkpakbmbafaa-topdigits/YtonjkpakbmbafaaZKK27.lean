/- TopDigits' walk, whole. -/
import Derived.Test.YtonjkpakbmbafaaZKK25
import Derived.Test.YtonjkpakbmbafaaZKK26
namespace Go.Proofs.Ytonjkpakbmbafaa
open Go.RowKit Go.Maps

set_option maxHeartbeats 1000000 in
theorem topDigits_walk {ao : Option Addr} {m ca : Nat} {z : Nat → Int} {k0 n0 a0 b0 : Int} {w : World} (hA : Arg ao m ca z w) (hm : m ≤ 100) (hk0 : I64 k0) (hn0 : I64 n0) (ha0 : I64 a0) (hb0 : I64 b0) :
    Calls Try.prog 7 #[.int .i64 k0, .slice ao m ca, .int .i64 n0, .int .i64 a0, .int .i64 b0] w fun e w' => e = .returned (.bool true) ∧ Below w.heap.size w w' := by
  obtain ⟨p, hp, hP⟩ := pickN k0 hk0 5 (by omega) (by omega)
  by_cases h2 : p = 1
  · subst h2; exact topDigits_b hA hm hn0 ha0 hb0 hP
  by_cases h3 : p = 2
  · subst h3; exact topDigits_t hA hm hn0 ha0 hb0 hP
  · have e : p + 1 - 1 = p := by omega
    exact topDigits_g (k := p + 1) (by omega) (by omega) (by omega) (by omega) hA hm hn0 ha0 hb0 (by rw [e]; exact hP)
set_option maxHeartbeats 1000000 in
theorem topDigits_long {ao : Option Addr} {m ca : Nat} {k0 n0 a0 b0 : Int} {w : World} (hm : ¬ m ≤ 100) :
    Calls Try.prog 7 #[.int .i64 k0, .slice ao m ca, .int .i64 n0, .int .i64 a0, .int .i64 b0] w fun e w' => e = .returned (.bool true) ∧ Below w.heap.size w w' := by
  have i100 : (100 : Int) < (m : Int) := by omega
  clear hm
  go_enter Try.func7, Try.ntmps7
  go_wp2
  go_ret
  exact ⟨rfl, Below.refl _ _⟩
end Go.Proofs.Ytonjkpakbmbafaa
