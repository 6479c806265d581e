/- For every input the statement TopPeel holds: whatever it is given, the call returns true, and what was there reads as before. No condition. -/
import Derived.Test.YtjkncdmbcckcdabRows
import Derived.Test.YtjkncdmbcckcdabZKE24
import Derived.Test.YtjkncdmbcckcdabZL10
import Derived.Test.YtjkncdmbcckcdabZO5
namespace Go.Proofs.Ytjkncdmbcckcdab
open Go.ChangeShapes Go.WideShapes Go.ChangeAt Go.RowKit
set_option linter.unusedVariables false

theorem topPeel_i64 {a : Int} (h : (Lit.int .i64 a).wf = true) : I64 a := by
  simp [Lit.wf] at h
  exact h

theorem topPeel_own : ownKnob Try.prog.godebug = none := by kernel_rfl

set_option maxRecDepth 100000 in
theorem topPeel_lifted (os : Os) (started : os.Started) (H : Type) (enc : TypeId × Value → H) :
    ReturnsInHanded {} Try.checked os 3 .any (Rows.topPeelSpec.pre6 enc Try.prog Try.f3 Rows.topPeelRow.domain false) (Rows.topPeelSpec.post enc Try.prog Try.f3 false true false false) := by
  refine returnsInHanded_of_change_sized (C := Try.checked) topPeel_own started (by kernel_rfl) Try.func3
    (ChangeSpec.witness6 (enc := enc) (C := Try.checked) false ⟨#[], #[.slice none 0 0, .int .i64 0, .int .i64 0, .slice none 0 0, .slice none 0 0, .slice none 0 0], []⟩ 8 (by kernel_rfl) (by kernel_rfl) (by kernel_rfl) (by kernel_rfl)) ?_
  intro W base args ds gs before hval0 hW hcnd0 hsz0 hholds
  have hval : ∀ (j : Nat) t v, Try.f3.params[j]? = some t → args[j]? = some v → Value.okWide Try.prog W .any base t v := hval0
  have hsz : (DataW.weightsEach Try.prog (Try.f3.params.toList ++ Rows.topPeelSpec.plain.varTypes Try.prog) (ds ++ gs)).all (· ≤ reachBytes) = true := hsz0
  have hW' := hW
  obtain ⟨p, q, hA0, hV, rfl, hfz, hnd⟩ := hW
  have hA : DataW.TrodAll enc Try.prog W 0 (fun _ => true) true Try.f3.params.toList args.toList ds p := hA0
  rw [Try.params3] at hA hval hsz
  obtain ⟨v0, vs0, d0, ds0, p0, q0, hargs, rfl, rfl, h0, r0⟩ := trodAll_cons hA
  obtain ⟨v1, vs1, d1, ds1, p1, q1, rfl, rfl, rfl, h1, r1⟩ := trodAll_cons r0
  obtain ⟨v2, vs2, d2, ds2, p2, q2, rfl, rfl, rfl, h2, r2⟩ := trodAll_cons r1
  obtain ⟨v3, vs3, d3, ds3, p3, q3, rfl, rfl, rfl, h3, r3⟩ := trodAll_cons r2
  obtain ⟨v4, vs4, d4, ds4, p4, q4, rfl, rfl, rfl, h4, r4⟩ := trodAll_cons r3
  obtain ⟨v5, vs5, d5, ds5, p5, q5, rfl, rfl, rfl, h5, r5⟩ := trodAll_cons r4
  obtain ⟨rfl, rfl, rfl⟩ := trodAll_nil r5
  obtain rfl : args = #[v0, v1, v2, v3, v4, v5] := by cases args; simp_all
  obtain ⟨rfl, rfl⟩ := trodVars_none hV
  obtain ⟨bo0, n0, c0, z0, rfl, hL0, hd0⟩ := open_list (hval 0 22 v0 rfl rfl) h0
  have hs0 := sized_list hsz (j := 0) rfl rfl hd0
  obtain ⟨a1, rfl, rfl, rfl, w1⟩ := open_int Try.underlying3 (hval 1 3 v1 rfl rfl) h1
  obtain ⟨a2, rfl, rfl, rfl, w2⟩ := open_int Try.underlying3 (hval 2 3 v2 rfl rfl) h2
  obtain ⟨bo3, n3, c3, z3, rfl, hL3, hd3⟩ := open_list (hval 3 22 v3 rfl rfl) h3
  have hs3 := sized_list hsz (j := 3) rfl rfl hd3
  obtain ⟨bo4, n4, c4, z4, rfl, hL4, hI4, hd4⟩ := open_listI (hval 4 22 v4 rfl rfl) h4
  have hs4 := sized_list hsz (j := 4) rfl rfl hd4
  obtain ⟨bo5, n5, c5, z5, rfl, hL5, hd5⟩ := open_list (hval 5 22 v5 rfl rfl) h5
  have hs5 := sized_list hsz (j := 5) rfl rfl hd5
  clear hA0 hval0 hsz0
  have hlt0 : ∀ x ∈ p0, x.block < W.heap.size := fun x hx => hW'.lt x (by simp [hx])
  have hlt3 : ∀ x ∈ p3, x.block < W.heap.size := fun x hx => hW'.lt x (by simp [hx])
  have hlt4 : ∀ x ∈ p4, x.block < W.heap.size := fun x hx => hW'.lt x (by simp [hx])
  have hlt5 : ∀ x ∈ p5, x.block < W.heap.size := fun x hx => hW'.lt x (by simp [hx])
  have hwalk : Calls Try.prog 3 #[.slice bo0 n0 c0, .int .i64 a1, .int .i64 a2, .slice bo3 n3 c3, .slice bo4 n4 c4, .slice bo5 n5 c5] W fun r w' => r = .returned (.bool true) ∧ Below W.heap.size W w' := by
    by_cases hn : n0 + n3 + n4 + n5 ≤ 256
    · exact topPeel_walk a1 a2 (hL0.arg (by omega)) (hL3.arg (by omega)) (hL4.arg (by omega)) (hL5.arg (by omega)) hn (topPeel_i64 w1) (topPeel_i64 w2) hI4
    · exact topPeel_long a1 a2 W hn (Nat.le_trans hL0.le hs0) (Nat.le_trans hL3.le hs3) (Nat.le_trans hL4.le hs4) (Nat.le_trans hL5.le hs5)
  refine hwalk.mono fun e W' ⟨he, bel⟩ => ?_
  subst he
  exact ⟨_, rfl, _, _, _, [], _, [], hW', trodAll_mk1 (shut_bool Try.underlying4 _), (trodAll_cons_mk (Below.trod Try.laidOut' (by kernel_rfl) (of_decide_eq_true (by kernel_rfl)) h0 bel hlt0) (trodAll_cons_mk (shut_int Try.underlying3 w1) (trodAll_cons_mk (shut_int Try.underlying3 w2) (trodAll_cons_mk (Below.trod Try.laidOut' (by kernel_rfl) (of_decide_eq_true (by kernel_rfl)) h3 bel hlt3) (trodAll_cons_mk (Below.trod Try.laidOut' (by kernel_rfl) (of_decide_eq_true (by kernel_rfl)) h4 bel hlt4) (trodAll_cons_mk (Below.trod Try.laidOut' (by kernel_rfl) (of_decide_eq_true (by kernel_rfl)) h5 bel hlt5) trodAll_mk0)))))), rfl, bel.frame _, fun h => by cases h⟩

theorem topPeel_over : Rows.topPeelRow.holds Try.pinned (OpenSpec.ofChange Rows.topPeelSpec) :=
  OpenClaim.holds_of_wide 3 Try.f3 rfl rfl rfl rfl rfl rfl rfl ⟨rfl, rfl, rfl, rfl, rfl⟩ rfl rfl rfl rfl rfl (by kernel_rfl) Try.func3 (by kernel_rfl)
    (of_decide_eq_true (by kernel_rfl)) (by unfold Func.isWrapper; first | (rw [if_pos (by decide +kernel)]; kernel_rfl) | (rw [if_neg (by decide +kernel)]; exact ⟨rfl, rfl⟩))
    (fun os started H enc _ => topPeel_lifted os started H enc)

theorem topPeel_holds : Rows.TopPeelSaid := topPeel_over
#print axioms topPeel_holds
end Go.Proofs.Ytjkncdmbcckcdab
