/- Polar: the reference's Polar. -/
import Derived.Test.YtbfkacnpbelmlaaZKS2
namespace Go.Proofs.Ytbfkacnpbelmlaa
open Go.RowKit Go.Sort

theorem and64_chk : ((List.range 64).all fun a => (List.range 64).all fun b => bits .and .i64 (a : Int) (b : Int) == ((a &&& b : Nat) : Int)) = true := by decide +kernel
theorem and64_nat {a b : Nat} (ha : a < 64) (hb : b < 64) : bits .and .i64 (a : Int) (b : Int) = ((a &&& b : Nat) : Int) := by
  have h := List.all_eq_true.1 and64_chk a (List.mem_range.2 ha)
  exact beq_iff_eq.1 (List.all_eq_true.1 h b (List.mem_range.2 hb))

set_option maxHeartbeats 8000000 in
set_option maxRecDepth 100000 in
theorem rpolar_any {b off n c : Nat} {f : Nat → Nat} {w : World} (hW : Wbt b off n f w) (hn1 : 1 ≤ n) (hn : n ≤ 32) :
    Calls Try.prog 12 #[.slice (some ⟨b, off, none⟩) n c] w fun e w' => ∃ v, e = .returned v ∧ OwnI w.heap.size v (zl n fun i => ((psj f i n : Nat) : Int)) w' ∧ Below w.heap.size w w' := by
  have HW : Hid (Wbt b off n f w) := hW
  clear hW
  go_enter Try.func12, Try.ntmps12
  go_wp2_with (at_make; refine make_int rfl _ _ rfl _ n rfl rfl rfl (by omega) ?_; intro w1 hown1 hgrow1)
  have hrz0 := rowE_zeros hown1
  obtain ⟨g, hg⟩ : ∃ g, g = w.heap.size := ⟨_, rfl⟩
  rw [← hg] at hrz0
  try rw [← hg]
  have HI0 : Hid (RowE g n (fun _ => 0) w1 ∧ Below w.heap.size w w1 ∧ g = w.heap.size) := ⟨hrz0, below_grown hgrow1 (Nat.le_refl _) (fun k hk => by cases hk), hg⟩
  clear hown1 hgrow1 hrz0 hg
  go_loopw [4] (fun vi wr => ∃ (i : Nat) (o : Nat → Int), i ≤ n ∧ vi = .int .i64 (i : Nat) ∧ Hid (RowE g n o wr ∧ (∀ k, k < n → o k = if k < i then ((psj f k n : Nat) : Int) else 0) ∧ Below w.heap.size w wr)) (fun vi _ => n - (intOf vi).toNat)
  case atStart => exact ⟨0, _, by omega, rfl, HI0.out.1, fun k _ => by rw [if_neg (by omega)], HI0.out.2.1⟩
  case round =>
    obtain ⟨i, o, hi, rfl, HG⟩ := hrel
    rename World => wr
    by_cases hlt : i < n
    · have hib : (i : Int) < (n : Int) := by omega
      have hib0 : (0 : Int) ≤ (i : Int) := by omega
      go_wp2
      go_loopw [5] (fun vj wq => ∃ (j : Nat) (o : Nat → Int), j ≤ n ∧ vj = .int .i64 (j : Nat) ∧ Hid (RowE g n o wq ∧ (∀ k, k < n → o k = if k < i then ((psj f k n : Nat) : Int) else if k = i then ((psj f i j : Nat) : Int) else 0) ∧ Below w.heap.size w wq)) (fun vj _ => n - (intOf vj).toNat)
      case atStart =>
        refine ⟨0, o, by omega, rfl, HG.out.1, fun k hk => ?_, HG.out.2.2⟩
        rw [HG.out.2.1 k hk]
        by_cases e : k < i
        · rw [if_pos e, if_pos e]
        · rw [if_neg e, if_neg e]
          by_cases e2 : k = i
          · rw [if_pos e2]; rfl
          · rw [if_neg e2]
      case round =>
        obtain ⟨j, o2, hj, rfl, HJ⟩ := hrel
        rename World => wq
        by_cases hjl : j < n
        · have hjb : (j : Int) < (n : Int) := by omega
          have hjb0 : (0 : Int) ≤ (j : Int) := by omega
          have hand : bits .and .i64 (i : Int) (j : Int) = ((i &&& j : Nat) : Int) := and64_nat (by omega) (by omega)
          obtain ⟨a, ha⟩ : ∃ a, a = i &&& j := ⟨_, rfl⟩
          rw [← ha] at hand
          by_cases hc : a = i
          · have hc2 : ((a : Int) == (i : Int)) = true := by rw [hc]; exact beq_self_eq_true _
            obtain ⟨p, hp⟩ : ∃ p, p = psj f i j := ⟨_, rfl⟩
            have hp2 : p < 2 := by rw [hp]; exact psj_lt f i j
            obtain ⟨v, hv⟩ : ∃ v, v = f j := ⟨_, rfl⟩
            have hv2 : v < 2 := by rw [hv]; exact HW.out.2.2 j hjl
            have c1 : wq.cell? ⟨b, off + j, none⟩ = some (.int .i64 (v : Nat)) := by rw [hv]; exact (HJ.out.2.2.cell (p := ⟨b, off + j, none⟩) HW.out.1).trans (HW.out.2.1 j hjl)
            have hc0 := RowF.cell HJ.out.1 i hlt
            have hf0 := RowF.free HJ.out.1 i
            have ho2 : o2 i = (p : Int) := by rw [HJ.out.2.1 i hlt, if_neg (by omega), if_pos rfl, hp]
            rw [ho2] at hc0
            obtain ⟨u, hu⟩ : ∃ u, u = (p + v) % 2 := ⟨_, rfl⟩
            have hrem : ((p : Int) + (v : Int)).tmod 2 = (u : Int) := by rw [Int.tmod_eq_emod_of_nonneg (by omega), hu]; omega
            have hrm2 : ((p : Int) + (v : Int)) % 2 = (u : Int) := by rw [hu]; omega
            have HS2 : Hid (∀ d, RowE g n (fun k => if k = i then (u : Int) else o2 k) ((wq.drewN d).setCell ⟨g, i, none⟩ (.int .i64 (u : Nat))) ∧ (∀ k, k < n → (if k = i then (u : Int) else o2 k) = if k < i then ((psj f k n : Nat) : Int) else if k = i then ((psj f i (j + 1) : Nat) : Int) else 0) ∧ Below w.heap.size w ((wq.drewN d).setCell ⟨g, i, none⟩ (.int .i64 (u : Nat)))) := fun d => by
              refine ⟨RowE.store (HJ.out.1.drewN d) i (u : Int), fun k hk => ?_, (below_drewN2 HJ.out.2.2 d).setCell (by have := HI0.out.2.2; show w.heap.size ≤ g; omega) _⟩
              by_cases e : k = i
              · rw [if_pos e, if_neg (by omega), if_pos e]
                show (u : Int) = (((if i &&& j = i then (psj f i j + f j) % 2 else psj f i j) : Nat) : Int)
                rw [← ha, if_pos hc, hu, hp, hv]
              · rw [if_neg e, HJ.out.2.1 k hk]
                by_cases e2 : k < i
                · rw [if_pos e2, if_pos e2]
                · rw [if_neg e2, if_neg e2, if_neg e, if_neg e]
            clear hp hv hu ho2 ha hc
            go_wp2
            refine quiet_tail 13 (by kernel_rfl) (by kernel_rfl) ?_
            simp only [List.take_succ_cons, List.take_zero, List.drop_succ_cons, List.drop_zero]
            repeat (go_big_quiet_step (fail))
            refine wpQuiet_nil ?_
            intro _ hw'
            obtain ⟨nq, hw''⟩ := hw'
            subst hw''
            have HS3 := HS2.out nq
            have HS4 : Hid _ := HS3
            clear HS3 HS2 c1
            go_wp2
            go_roundw
            case rel => exact ⟨j + 1, _, by omega, by go_num, HS4.out⟩
            case measure => simp [intOf]; omega
          · have hc2 : ((a : Int) == (i : Int)) = false := beq_eq_false_iff_ne.2 (by omega)
            have HS2 : Hid (RowE g n o2 wq ∧ (∀ k, k < n → o2 k = if k < i then ((psj f k n : Nat) : Int) else if k = i then ((psj f i (j + 1) : Nat) : Int) else 0) ∧ Below w.heap.size w wq) := by
              refine ⟨HJ.out.1, fun k hk => ?_, HJ.out.2.2⟩
              rw [HJ.out.2.1 k hk]
              have : psj f i (j + 1) = psj f i j := by
                show (if i &&& j = i then (psj f i j + f j) % 2 else psj f i j) = _
                rw [← ha, if_neg hc]
              rw [this]
            clear ha
            go_wp2
            go_roundw
            case rel => exact ⟨j + 1, _, by omega, by go_num, HS2.out⟩
            case measure => simp [intOf]; omega
        · have hjb : ¬ (j : Int) < (n : Int) := by omega
          have HS2 : Hid (RowE g n o2 wq ∧ (∀ k, k < n → o2 k = if k < i + 1 then ((psj f k n : Nat) : Int) else 0) ∧ Below w.heap.size w wq) := by
            refine ⟨HJ.out.1, fun k hk => ?_, HJ.out.2.2⟩
            rw [HJ.out.2.1 k hk, show j = n by omega]
            by_cases e : k < i
            · rw [if_pos e, if_pos (by omega)]
            · rw [if_neg e]
              by_cases e2 : k = i
              · rw [if_pos e2, if_pos (by omega), e2]
              · rw [if_neg e2, if_neg (by omega)]
          go_wp2
          go_roundw
          case rel => exact ⟨i + 1, _, by omega, by go_num, HS2.out⟩
          case measure => simp [intOf]; omega
    · have hib : ¬ (i : Int) < (n : Int) := by omega
      have HZ : Hid (OwnI w.heap.size (.slice (some ⟨g, 0, none⟩) n n) (zl n fun i => ((psj f i n : Nat) : Int)) wr ∧ Below w.heap.size w wr) := by
        refine ⟨?_, HG.out.2.2⟩
        have h := HG.out.1.own (base := w.heap.size) (by have := HI0.out.2.2; omega) (by omega)
        rw [zl_congr (y := fun i => ((psj f i n : Nat) : Int)) (fun j hj => by rw [HG.out.2.1 j hj, if_pos (by omega)])] at h
        exact h
      go_wp2
      go_ret
      exact ⟨_, rfl, HZ.out⟩
end Go.Proofs.Ytbfkacnpbelmlaa
