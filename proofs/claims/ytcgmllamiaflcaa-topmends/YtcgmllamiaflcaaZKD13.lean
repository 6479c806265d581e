/- The program's reed: Solve. -/
import Derived.Test.YtcgmllamiaflcaaZKD11
namespace Go.Proofs.Ytcgmllamiaflcaa
open Go.RowKit Go.Sort

theorem enters_be : ∀ args w, (callFunc 34 args).run Try.prog w = .ok (.enter 34 args) w :=
  enters_of Try.func34 (by kernel_rfl) rfl
set_option maxHeartbeats 2000000 in
set_option maxRecDepth 100000 in
theorem solve_ok {D : FD} (hD : D ∈ fieldsL) {xo wo : Option Addr} {n cx cw k m : Nat} {c c' y' : Nat → Nat} {y : Nat → Int} {w : World} (hX : Arg xo n cx (fun j => ((c j : Nat) : Int)) w) (hY : Arg wo n cw y w) (hn : n ≤ 64) (hk1 : 1 ≤ k) (hk : k ≤ n)
    (hWd : Calls Try.prog 54 #[.int .i64 D.q, .slice xo n cx, .int .i64 (k : Nat), .slice wo n cw] w fun e w' => e = .returned (.int .i64 0) ∧ Below w.heap.size w w')
    (hH : Heard D n c y m c' y') :
    Calls Try.prog 13 #[.int .i64 D.q, .slice xo n cx, .int .i64 (k : Nat), .slice wo n cw] w (MendP D m k c' y' w) := by
  have HM : Hid (Calls Try.prog 33 #[.int .i64 D.q, .slice xo n cx, .int .i64 (k : Nat), .slice wo n cw, .func (.func 34) #[] #[]] w (MendP D m k c' y' w)) := by
    refine mend_ok hD enters_be hX hY hn hk1 hk hWd hH (fun F T g wx ao bo ac bc hat ha hb hkm => ?_)
    have e : (#[Value.agg #[.pointer (some ⟨F, 0, none⟩), .int .i64 (k : Nat), .slice ao m ac, .slice bo m bc]] ++ #[] : Array Value) = #[.agg #[.pointer (some ⟨F, 0, none⟩), .int .i64 (k : Nat), .slice ao m ac, .slice bo m bc]] := rfl
    rw [e]
    exact byEquations_any hD hat ha hb (by have := hH.le; omega) hk1 hkm hH.cq hH.ne hH.yq
  clear hX hY hWd hH
  go_enter Try.func13, Try.ntmps13
  go_wp2_with fail
  refine HM.out.mono ?_
  rintro e w1 ⟨hb, ⟨a, ha, v, rfl, hv⟩ | ⟨hno, rfl⟩⟩
  · have H1 : Hid (Below w.heap.size w w1 ∧ NearH D m k c' y' a ∧ OwnP w.heap.size v k a w1) := ⟨hb, ha, hv⟩
    clear hb ha hv
    go_wp2
    refine bodyPost_ret (results_four rfl _ _ _) rfl ?_
    exact ⟨H1.out.1, Or.inl ⟨a, H1.out.2.1, v, rfl, H1.out.2.2⟩⟩
  · have H1 : Hid (Below w.heap.size w w1 ∧ ∀ a, ¬ NearH D m k c' y' a) := ⟨hb, hno⟩
    clear hb hno
    go_wp2
    refine bodyPost_ret (results_four rfl _ _ _) rfl ?_
    exact ⟨H1.out.1, Or.inr ⟨H1.out.2, rfl⟩⟩
end Go.Proofs.Ytcgmllamiaflcaa
