/- Texts of ours, one behind the other: KS14 KS15. -/
import Derived.Test.YtbfkacnpbelmlaaZKS13
import Derived.Test.YtbfkacnpbelmlaaZKS2
/- Polar: Transform, over what bit.Check says. -/
namespace Go.Proofs.Ytbfkacnpbelmlaa
open Go.RowKit Go.Sort

set_option maxHeartbeats 2000000 in
set_option maxRecDepth 100000 in
theorem ptrans_ok {m N b off c : Nat} {f : Nat → Nat} (hm : m ≤ 5) (hN : N = 2 ^ m) {w : World} (hW : Wbt b off N f w) (hc1 : N ≤ c) (hc2 : c ≤ 9223372036854775807) (hB : Calls Try.prog 32 #[.slice (some ⟨b, off, none⟩) N c, .int .i64 (N : Nat)] w fun x w' => x = .returned (.int .i64 0) ∧ w' = w) :
    Calls Try.prog 13 #[.int .i64 (m : Nat), .slice (some ⟨b, off, none⟩) N c] w fun x w' => ∃ v, x = .returned (.tuple #[v, .int .i64 0]) ∧ OwnI w.heap.size v (zl N fun i => ((ptr m f i : Nat) : Int)) w' ∧ Below w.heap.size w w' := by
  have HC : Hid (Calls Try.prog 24 #[.int .i64 (m : Nat)] w fun e w' => e = .returned (.int .i64 0) ∧ w' = w) := by
    have := checkLevels_any (m : Int) w
    rw [if_neg (by omega)] at this; exact this
  have HB : Hid (Calls Try.prog 32 #[.slice (some ⟨b, off, none⟩) N c, .int .i64 (N : Nat)] w fun x w' => x = .returned (.int .i64 0) ∧ w' = w) := hB
  have HT : Hid (Calls Try.prog 33 #[.slice (some ⟨b, off, none⟩) N c] w fun e w' => ∃ v, e = .returned v ∧ OwnI w.heap.size v (zl N fun i => ((ptr m f i : Nat) : Int)) w' ∧ Below w.heap.size w w') := by
    rw [hN] at hW hc1 ⊢
    exact transform_any m hm hW hc1 hc2
  have hNb : N ≤ 32 := by rw [hN]; exact Nat.le_trans (Nat.pow_le_pow_right (by omega) hm) (by decide)
  have hNi : (2 : Int) ^ m = (N : Int) := by rw [hN]; simp
  have hNw : IntKind.i64.wrap (N : Int) = (N : Int) := wrap_to rfl (by omega)
  clear hB hN hW
  go_enter Try.func13, Try.ntmps13
  go_wp2_with fail
  refine HC.out.mono ?_
  rintro e9 w' ⟨rfl, hw⟩
  have hw := hw.symm
  subst hw
  go_wp2_with fail
  refine HB.out.mono ?_
  rintro e9 w' ⟨rfl, hw⟩
  have hw := hw.symm
  subst hw
  go_wp2_with fail
  refine HT.out.mono ?_
  rintro e9 w1 ⟨v, rfl, h1, h2⟩
  have H1 : Hid (OwnI w.heap.size v (zl N fun i => ((ptr m f i : Nat) : Int)) w1 ∧ Below w.heap.size w w1) := ⟨h1, h2⟩
  clear h1 h2
  go_wp2
  go_ret2
  exact ⟨v, rfl, H1.out⟩
end Go.Proofs.Ytbfkacnpbelmlaa

/- Polar: Encode where Best says an error. -/
namespace Go.Proofs.Ytbfkacnpbelmlaa
open Go.RowKit Go.Sort

end Go.Proofs.Ytbfkacnpbelmlaa
