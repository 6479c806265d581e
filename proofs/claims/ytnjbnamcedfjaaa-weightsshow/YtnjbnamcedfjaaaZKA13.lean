/- WeightsShow's walk, whole. -/
import Derived.Test.YtnjbnamcedfjaaaZKA12
import Derived.Test.YtnjbnamcedfjaaaZL10
namespace Go.Proofs.Ytnjbnamcedfjaaa
open Go.RowKit Go.Sort

set_option maxHeartbeats 2000000 in
set_option maxRecDepth 100000 in
theorem ws_long (q n d : Int) (ao : Option Addr) (N cap : Nat) (w : World) (hN : N ≤ 17592186044416) (h : ¬ N ≤ 100) :
    Calls Try.prog 4 #[.int .i64 q, .int .i64 n, .int .i64 d, .slice ao N cap] w fun e w' => e = .returned (.bool true) ∧ Below w.heap.size w w' := by
  have h1 : (N : Int) > 100 := by omega
  have h2 : (100 : Int) < (N : Int) := by omega
  go_enter Try.func4, Try.ntmps4
  go_wp2
  go_ret
  exact ⟨rfl, Below.refl _ _⟩

theorem cdk_err {e0 n d : Int} (h : e0 ≠ 0) : cdk e0 n d = e0 := by unfold cdk; rw [if_pos h]
theorem cdk_place {n d : Int} (h : d < 1 ∨ n < d) : cdk 0 n d = 10 := by unfold cdk; rw [if_neg (by simp), if_pos h]
theorem cdk_ok {n d : Int} (h1 : 1 ≤ d) (h2 : d ≤ n) : cdk 0 n d = 0 := by unfold cdk; rw [if_neg (by simp), if_neg (by omega)]

theorem weightsShow_walk (q n d : Int) (hn : n ≤ 9223372036854775807) {ao : Option Addr} {N cap : Nat} {f : Nat → Int} {w : World} (ha : ArgL ao N cap f w) (hN : N ≤ 17592186044416) :
    Calls Try.prog 4 #[.int .i64 q, .int .i64 n, .int .i64 d, .slice ao N cap] w fun e w' => e = .returned (.bool true) ∧ Below w.heap.size w w' := by
  by_cases hN1 : N ≤ 100
  · have hX := ha.arg (by omega)
    by_cases h : ∃ D ∈ fieldsL, (D.q : Int) = q
    · obtain ⟨D, hD, rfl⟩ := h
      have hC : ∀ wx, Calls Try.prog 47 #[.int .i64 D.q, .int .i64 n, .int .i64 d] wx fun e w' => e = .returned (.int .i64 (cdk (D.wck n) n d)) ∧ Below wx.heap.size wx w' := fun wx => cdist_any D.q n d _ (wcheck_any hD n hn wx)
      have hK : ∀ wx, Calls Try.prog 8 #[.int .i64 D.q, .int .i64 n] wx fun e w' => e = .returned (.int .i64 (D.wck n)) ∧ Below wx.heap.size wx w' := fun wx => rcount_any hD n hn wx
      by_cases h0 : D.wck n = 0
      · rw [h0] at hC hK
        obtain ⟨m, rfl, hm1, hm2, hp⟩ := wck_ok (fld hD) h0
        by_cases h1 : d < 1
        · rw [cdk_place (Or.inl h1)] at hC
          exact ws_dlow _ _ d h1 hN1 hK (fun wx _ => shows_e _ _ d 10 (by simp) ao N cap hC)
        · by_cases h2 : (m : Int) < d
          · rw [cdk_place (Or.inr h2)] at hC
            exact ws_dhigh _ _ d h1 h2 hN1 hK (fun wx _ => shows_e _ _ d 10 (by simp) ao N cap hC)
          · rw [cdk_ok (by omega) (by omega)] at hC
            by_cases h4 : (N : Int) = (m : Int) + 1
            · obtain ⟨c, rfl⟩ : ∃ c : Nat, d = (c : Int) := ⟨d.toNat, by omega⟩
              obtain ⟨b, off, hao, _⟩ := hX.sl 0 (by omega)
              subst hao
              have hNm : N = m + 1 := by omega
              cases ho : outB f 1048576 N
              · by_cases hf : f 0 = 0
                · exact ws_zero (by omega) (by omega) hm2 hNm ho hf hX hK (fun wx hb => shows_zero _ _ _ h4 (by omega) (by omega) ho hf (hX.below hb) hC)
                · subst hNm
                  have hq2 := (fld hD).q2
                  have hq64 := (fld hD).q64
                  refine ws_at (by omega) (by omega) hm2 hq2 hq64 hp rfl ho hf hX hK (fun hx wx hb => ?_) (fun hx wx hb => ?_)
                  · obtain ⟨x, hx1, hx2, hx3⟩ := hx
                    have hfd : true = foundB (fun x => decide (0 < dsm D.q m f x)) c (m + 1 - c) := by
                      refine (foundB_yes (i := x - c) ?_ _ (by omega)).symm
                      rw [show c + (x - c) = x by omega]
                      exact decide_eq_true hx3
                    exact shows_at hq2 hq64 hp hm2 (by omega) ho hf true hfd (hX.below hb) hC
                  · have hfd : false = foundB (fun x => decide (0 < dsm D.q m f x)) c (m + 1 - c) := by
                      refine ((foundB_no _).2 fun j hj => ?_).symm
                      have := hx (c + j) (by omega) (by omega)
                      exact decide_eq_false (by omega)
                    exact shows_at hq2 hq64 hp hm2 (by omega) ho hf false hfd (hX.below hb) hC
              · exact ws_val (by omega) (by omega) hm2 hNm ho hX hK (fun wx hb => shows_val _ _ _ h4 (by omega) (by omega) ho (hX.below hb) hC)
            · exact ws_cnt _ _ d (by omega) (by omega) (by omega) hN1 h4 hK (fun wx hb => shows_cnt _ _ d h4 (by omega) (by omega) (hX.below hb) hC)
      · rw [cdk_err h0] at hC
        exact ws_err _ n d _ h0 hN1 hK (fun wx _ => shows_e _ n d _ h0 ao N cap hC)
    · have hno : ∀ D ∈ fieldsL, (D.q : Int) ≠ q := fun D hD e => h ⟨D, hD, e⟩
      have hC : ∀ wx, Calls Try.prog 47 #[.int .i64 q, .int .i64 n, .int .i64 d] wx fun e w' => e = .returned (.int .i64 1) ∧ Below wx.heap.size wx w' := fun wx => by
        have h := cdist_any q n d 1 (wcheck_none q hno n wx)
        rw [cdk_err (by simp)] at h
        exact h
      exact ws_err q n d 1 (by simp) hN1 (fun wx => rcount_none q hno n wx) (fun wx _ => shows_e q n d 1 (by simp) ao N cap hC)
  · exact ws_long q n d ao N cap w hN hN1
end Go.Proofs.Ytnjbnamcedfjaaa
