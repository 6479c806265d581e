/- Texts of ours, one behind the other: KE12 KE13. -/
import Derived.Test.YtjkncdmbcckcdaaZKE11
/- Codes of few checks: what Flip says of what is wrong. -/
namespace Go.Proofs.Ytjkncdmbcckcdaa
open Go.RowKit Go.Sort

set_option maxHeartbeats 4000000 in
set_option maxRecDepth 100000 in
theorem sflip_e1 (n e most : Int) (he : e ≠ 0) {ao wo : Option Addr} {m ca l cw : Nat} {w : World} (hC : Calls Try.prog 29 #[.int .i64 n, .slice ao m ca] w fun x w' => x = .returned (.int .i64 e) ∧ w' = w) :
    Calls Try.prog 35 #[.int .i64 n, .slice ao m ca, .slice wo l cw, .int .i64 most] w fun x w' => x = .returned (.tuple #[.slice none 0 0, .bool false, .int .i64 0, .int .i64 e]) ∧ w' = w := by
  have HC : Hid (Calls Try.prog 29 #[.int .i64 n, .slice ao m ca] w fun x w' => x = .returned (.int .i64 e) ∧ w' = w) := hC
  have hz : (e != 0) = true := bne_iff_ne.2 he
  clear hC he
  go_enter Try.func35, Try.ntmps35
  go_wp2_with fail
  refine HC.out.mono ?_
  rintro x w' ⟨rfl, hw⟩
  have hw := hw.symm
  subst hw
  go_wp2
  refine bodyPost_ret (results_fours rfl _ _ _) rfl ?_
  exact ⟨rfl, rfl⟩
set_option maxHeartbeats 4000000 in
set_option maxRecDepth 100000 in
theorem sflip_e2 (n e most : Int) (he : e ≠ 0) {ao wo : Option Addr} {m ca l cw : Nat} {w : World} (hC : Calls Try.prog 29 #[.int .i64 n, .slice ao m ca] w fun x w' => x = .returned (.int .i64 0) ∧ w' = w) (hB : Calls Try.prog 78 #[.slice wo l cw, .int .i64 n] w fun x w' => x = .returned (.int .i64 e) ∧ w' = w) :
    Calls Try.prog 35 #[.int .i64 n, .slice ao m ca, .slice wo l cw, .int .i64 most] w fun x w' => x = .returned (.tuple #[.slice none 0 0, .bool false, .int .i64 0, .int .i64 e]) ∧ w' = w := by
  have HC : Hid (Calls Try.prog 29 #[.int .i64 n, .slice ao m ca] w fun x w' => x = .returned (.int .i64 0) ∧ w' = w) := hC
  have HB : Hid (Calls Try.prog 78 #[.slice wo l cw, .int .i64 n] w fun x w' => x = .returned (.int .i64 e) ∧ w' = w) := hB
  have hz : (e != 0) = true := bne_iff_ne.2 he
  clear hC hB he
  go_enter Try.func35, Try.ntmps35
  go_wp2_with fail
  refine HC.out.mono ?_
  rintro x w' ⟨rfl, hw⟩
  have hw := hw.symm
  subst hw
  go_wp2_with fail
  refine HB.out.mono ?_
  rintro x w' ⟨rfl, hw⟩
  have hw := hw.symm
  subst hw
  go_wp2
  refine bodyPost_ret (results_fours rfl _ _ _) rfl ?_
  exact ⟨rfl, rfl⟩
set_option maxHeartbeats 4000000 in
set_option maxRecDepth 100000 in
theorem sflip_e3 (n most : Int) (hm : most < 0 ∨ 100 < most) {ao wo : Option Addr} {m ca l cw : Nat} {w : World} (hC : Calls Try.prog 29 #[.int .i64 n, .slice ao m ca] w fun x w' => x = .returned (.int .i64 0) ∧ w' = w) (hB : Calls Try.prog 78 #[.slice wo l cw, .int .i64 n] w fun x w' => x = .returned (.int .i64 0) ∧ w' = w) :
    Calls Try.prog 35 #[.int .i64 n, .slice ao m ca, .slice wo l cw, .int .i64 most] w fun x w' => x = .returned (.tuple #[.slice none 0 0, .bool false, .int .i64 0, .int .i64 6]) ∧ w' = w := by
  have HC : Hid (Calls Try.prog 29 #[.int .i64 n, .slice ao m ca] w fun x w' => x = .returned (.int .i64 0) ∧ w' = w) := hC
  have HB : Hid (Calls Try.prog 78 #[.slice wo l cw, .int .i64 n] w fun x w' => x = .returned (.int .i64 0) ∧ w' = w) := hB
  clear hC hB
  by_cases h0 : most < 0
  · clear hm
    go_enter Try.func35, Try.ntmps35
    go_wp2_with fail
    refine HC.out.mono ?_
    rintro x w' ⟨rfl, hw⟩
    have hw := hw.symm
    subst hw
    go_wp2_with fail
    refine HB.out.mono ?_
    rintro x w' ⟨rfl, hw⟩
    have hw := hw.symm
    subst hw
    go_wp2
    refine bodyPost_ret (results_fours rfl _ _ _) rfl ?_
    exact ⟨rfl, rfl⟩
  · have h1 : (100 : Int) < most := by omega
    have h2 : most > 100 := h1
    clear hm
    go_enter Try.func35, Try.ntmps35
    go_wp2_with fail
    refine HC.out.mono ?_
    rintro x w' ⟨rfl, hw⟩
    have hw := hw.symm
    subst hw
    go_wp2_with fail
    refine HB.out.mono ?_
    rintro x w' ⟨rfl, hw⟩
    have hw := hw.symm
    subst hw
    go_wp2
    refine bodyPost_ret (results_fours rfl _ _ _) rfl ?_
    exact ⟨rfl, rfl⟩
end Go.Proofs.Ytjkncdmbcckcdaa

/- Codes of few checks: what Stops says of checks that are none. -/
namespace Go.Proofs.Ytjkncdmbcckcdaa
open Go.RowKit Go.Sort

set_option maxHeartbeats 4000000 in
set_option maxRecDepth 100000 in
theorem sstops_e1 (n e : Int) (he : e ≠ 0) {ao wo : Option Addr} {m ca l cw : Nat} {w : World} (hC : Calls Try.prog 29 #[.int .i64 n, .slice ao m ca] w fun x w' => x = .returned (.int .i64 e) ∧ w' = w) :
    Calls Try.prog 36 #[.int .i64 n, .slice ao m ca, .slice wo l cw] w fun x w' => x = .returned (.tuple #[.bool false, .int .i64 e]) ∧ w' = w := by
  have HC : Hid (Calls Try.prog 29 #[.int .i64 n, .slice ao m ca] w fun x w' => x = .returned (.int .i64 e) ∧ w' = w) := hC
  have hz : (e != 0) = true := bne_iff_ne.2 he
  clear hC he
  go_enter Try.func36, Try.ntmps36
  go_wp2_with fail
  refine HC.out.mono ?_
  rintro x w' ⟨rfl, hw⟩
  have hw := hw.symm
  subst hw
  go_wp2
  go_ret2
  exact ⟨rfl, rfl⟩
end Go.Proofs.Ytjkncdmbcckcdaa
