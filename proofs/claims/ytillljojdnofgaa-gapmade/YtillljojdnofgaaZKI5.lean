/- Words that may lose a bit: how far apart two are (gap.between). -/
import Derived.Test.YtillljojdnofgaaZKH7
import Derived.Test.YtillljojdnofgaaZU17
import Derived.Test.YtillljojdnofgaaZKE17
namespace Go.Proofs.Ytillljojdnofgaa
open Go.RowKit Go.Sort

/-- The next row of steps, out of the one ahead. -/
def lrow (x : Int) (y : Nat → Int) (i : Nat) (p : Nat → Nat) : Nat → Nat
  | 0 => i + 1
  | j + 1 => if x = y j then p j else min (p (j + 1)) (lrow x y i p j) + 1
/-- How many bits must be lost and got, from the first i of the one to the first j of the other. -/
def lvd (x y : Nat → Int) : Nat → Nat → Nat
  | 0 => fun j => j
  | i + 1 => lrow (x i) y i (lvd x y i)
theorem lvd_front (x y : Nat → Int) (j : Nat) : lvd x y 0 j = j := rfl
theorem lvd_side (x y : Nat → Int) : ∀ i, lvd x y i 0 = i
  | 0 => rfl
  | _ + 1 => rfl
theorem lvd_step (x y : Nat → Int) (i j : Nat) : lvd x y (i + 1) (j + 1) = if x i = y j then lvd x y i j else min (lvd x y i (j + 1)) (lvd x y (i + 1) j) + 1 := rfl
theorem lvd_few (x y : Nat → Int) : ∀ i j, lvd x y i j ≤ i + j
  | 0, j => by rw [lvd_front]; omega
  | i + 1, 0 => Nat.le_refl _
  | i + 1, j + 1 => by
    rw [lvd_step]
    have h1 := lvd_few x y i j
    have h2 := lvd_few x y i (j + 1)
    split
    · omega
    · have := Nat.min_le_left (lvd x y i (j + 1)) (lvd x y (i + 1) j)
      omega
/-- 14 times 14 noughts. -/
def stz : Array Value := #[.int .i64 0, .int .i64 0, .int .i64 0, .int .i64 0, .int .i64 0, .int .i64 0, .int .i64 0, .int .i64 0, .int .i64 0, .int .i64 0, .int .i64 0, .int .i64 0, .int .i64 0, .int .i64 0, .int .i64 0, .int .i64 0, .int .i64 0, .int .i64 0, .int .i64 0, .int .i64 0, .int .i64 0, .int .i64 0, .int .i64 0, .int .i64 0, .int .i64 0, .int .i64 0, .int .i64 0, .int .i64 0, .int .i64 0, .int .i64 0, .int .i64 0, .int .i64 0, .int .i64 0, .int .i64 0, .int .i64 0, .int .i64 0, .int .i64 0, .int .i64 0, .int .i64 0, .int .i64 0, .int .i64 0, .int .i64 0, .int .i64 0, .int .i64 0, .int .i64 0, .int .i64 0, .int .i64 0, .int .i64 0, .int .i64 0, .int .i64 0, .int .i64 0, .int .i64 0, .int .i64 0, .int .i64 0, .int .i64 0, .int .i64 0, .int .i64 0, .int .i64 0, .int .i64 0, .int .i64 0, .int .i64 0, .int .i64 0, .int .i64 0, .int .i64 0, .int .i64 0, .int .i64 0, .int .i64 0, .int .i64 0, .int .i64 0, .int .i64 0, .int .i64 0, .int .i64 0, .int .i64 0, .int .i64 0, .int .i64 0, .int .i64 0, .int .i64 0, .int .i64 0, .int .i64 0, .int .i64 0, .int .i64 0, .int .i64 0, .int .i64 0, .int .i64 0, .int .i64 0, .int .i64 0, .int .i64 0, .int .i64 0, .int .i64 0, .int .i64 0, .int .i64 0, .int .i64 0, .int .i64 0, .int .i64 0, .int .i64 0, .int .i64 0, .int .i64 0, .int .i64 0, .int .i64 0, .int .i64 0, .int .i64 0, .int .i64 0, .int .i64 0, .int .i64 0, .int .i64 0, .int .i64 0, .int .i64 0, .int .i64 0, .int .i64 0, .int .i64 0, .int .i64 0, .int .i64 0, .int .i64 0, .int .i64 0, .int .i64 0, .int .i64 0, .int .i64 0, .int .i64 0, .int .i64 0, .int .i64 0, .int .i64 0, .int .i64 0, .int .i64 0, .int .i64 0, .int .i64 0, .int .i64 0, .int .i64 0, .int .i64 0, .int .i64 0, .int .i64 0, .int .i64 0, .int .i64 0, .int .i64 0, .int .i64 0, .int .i64 0, .int .i64 0, .int .i64 0, .int .i64 0, .int .i64 0, .int .i64 0, .int .i64 0, .int .i64 0, .int .i64 0, .int .i64 0, .int .i64 0, .int .i64 0, .int .i64 0, .int .i64 0, .int .i64 0, .int .i64 0, .int .i64 0, .int .i64 0, .int .i64 0, .int .i64 0, .int .i64 0, .int .i64 0, .int .i64 0, .int .i64 0, .int .i64 0, .int .i64 0, .int .i64 0, .int .i64 0, .int .i64 0, .int .i64 0, .int .i64 0, .int .i64 0, .int .i64 0, .int .i64 0, .int .i64 0, .int .i64 0, .int .i64 0, .int .i64 0, .int .i64 0, .int .i64 0, .int .i64 0, .int .i64 0, .int .i64 0, .int .i64 0, .int .i64 0, .int .i64 0, .int .i64 0, .int .i64 0, .int .i64 0, .int .i64 0, .int .i64 0, .int .i64 0, .int .i64 0, .int .i64 0, .int .i64 0, .int .i64 0, .int .i64 0, .int .i64 0, .int .i64 0, .int .i64 0, .int .i64 0, .int .i64 0]
set_option maxRecDepth 1000000 in
theorem stz_is : stz = Array.replicate 196 (.int .i64 0) := by kernel_rfl
/-- What the table holds. -/
def StR (T : Nat) (z : Nat → Int) (w : World) : Prop := RowF T 196 99 (fun o => .int .i64 (z o)) w
theorem stR_new (w : World) : StR w.heap.size (fun _ => 0) (w.alloc (.cells stz 99)) := by
  rw [stz_is]
  refine ⟨_, two_new _, by simp, fun o ho => ?_⟩
  rw [Array.getElem?_replicate, if_pos ho]
theorem StR.put {T : Nat} {z : Nat → Int} {w : World} (h : StR T z w) (k : Nat) (v : Int) : StR T (fun o => if o = k then v else z o) (w.setCell ⟨T, k, none⟩ (.int .i64 v)) := by
  refine (RowF.store h k (.int .i64 v)).congr (fun o _ => ?_)
  show (if o = k then Value.int .i64 v else Value.int .i64 (z o)) = Value.int .i64 (if o = k then v else z o)
  by_cases e : o = k
  · rw [if_pos e, if_pos e]
  · rw [if_neg e, if_neg e]
/-- The rows ahead of i, and of row i the numbers ahead of j, are told. -/
def StI (x y : Nat → Int) (m : Nat) (z : Nat → Int) (i j : Nat) : Prop := (∀ a b, a < i → b ≤ m → z (a * 14 + b) = ((lvd x y a b : Nat) : Int)) ∧ ∀ b, b < j → z (i * 14 + b) = ((lvd x y i b : Nat) : Int)
theorem StI.next {x y : Nat → Int} {m : Nat} {z : Nat → Int} {i j : Nat} (h : StI x y m z i j) (hm : m ≤ 13) (hj : j ≤ m) {v : Int} (hv : v = ((lvd x y i j : Nat) : Int)) : StI x y m (fun o => if o = i * 14 + j then v else z o) i (j + 1) := by
  refine ⟨fun a b ha hb => ?_, fun b hb => ?_⟩
  · show (if a * 14 + b = i * 14 + j then v else z (a * 14 + b)) = _
    rw [if_neg (by omega)]; exact h.1 a b ha hb
  · show (if i * 14 + b = i * 14 + j then v else z (i * 14 + b)) = _
    by_cases e : b = j
    · rw [if_pos (by rw [e]), e]; exact hv
    · rw [if_neg (by omega)]; exact h.2 b (by omega)
theorem StI.row {x y : Nat → Int} {m : Nat} {z : Nat → Int} {i : Nat} (h : StI x y m z i (m + 1)) : StI x y m z (i + 1) 0 := by
  refine ⟨fun a b ha hb => ?_, fun b hb => absurd hb (by omega)⟩
  by_cases e : a = i
  · rw [e]; exact h.2 b (by omega)
  · exact h.1 a b (by omega) hb

set_option maxHeartbeats 16000000 in
set_option maxRecDepth 100000 in
theorem between_any {ao bo : Option Addr} {n m ca cb : Nat} {x y : Nat → Int} {w : World} (hX : SlZ ao n x w) (hY : SlZ bo m y w) (hn : n ≤ 13) (hm : m ≤ 13) :
    Calls Try.prog 59 #[.slice ao n ca, .slice bo m cb] w fun e w' => e = .returned (.int .i64 (lvd x y n m : Nat)) ∧ Below w.heap.size w w' := by
  have H0 : Hid (StR w.heap.size (fun _ => 0) (w.alloc (.cells stz 99)) ∧ Below w.heap.size w (w.alloc (.cells stz 99))) := ⟨stR_new w, (Below.refl _ _).alloc (Nat.le_refl _) _⟩
  have HF : Hid (SlZ ao n x w ∧ SlZ bo m y w) := ⟨hX, hY⟩
  have wn : IntKind.i64.wrap ((n : Int) + 1) = ((n + 1 : Nat) : Int) := wrap_to (by omega) (by omega)
  have wm : IntKind.i64.wrap ((m : Int) + 1) = ((m + 1 : Nat) : Int) := wrap_to (by omega) (by omega)
  obtain ⟨n1, hn1⟩ : ∃ n1, n1 = n + 1 := ⟨_, rfl⟩
  obtain ⟨m1, hm1⟩ : ∃ m1, m1 = m + 1 := ⟨_, rfl⟩
  rw [← hn1] at wn
  rw [← hm1] at wm
  clear hX hY
  go_enter Try.func59, Try.ntmps59
  go_wp2
  obtain ⟨T, hT⟩ : ∃ T, T = w.heap.size := ⟨_, rfl⟩
  rw [← hT]
  have HT : Hid (T = w.heap.size) := hT
  clear hT
  go_loopw [11] (fun vi wx => ∃ (i : Nat) (z : Nat → Int), i ≤ n1 ∧ vi = .int .i64 (i : Nat) ∧ Hid (StR T z wx ∧ StI x y m z i 0 ∧ Below w.heap.size w wx)) (fun vi _ => n1 - (intOf vi).toNat)
  case atStart => exact ⟨0, _, by omega, rfl, by rw [HT.out]; exact H0.out.1, ⟨fun a b ha _ => absurd ha (by omega), fun b hb => absurd hb (by omega)⟩, H0.out.2⟩
  case round =>
    obtain ⟨i, z, hi, rfl, HG⟩ := hrel
    rename World => wr
    by_cases hlt : i < n1
    · have hib : (i : Int) < (n1 : Int) := by omega
      go_wp2
      go_loopw [17] (fun vj wx => ∃ (j : Nat) (z : Nat → Int), j ≤ m1 ∧ vj = .int .i64 (j : Nat) ∧ Hid (StR T z wx ∧ StI x y m z i j ∧ Below w.heap.size w wx)) (fun vj _ => m1 - (intOf vj).toNat)
      case atStart => exact ⟨0, z, by omega, rfl, HG.out⟩
      case round =>
        obtain ⟨j, z2, hj, rfl, HJ⟩ := hrel
        rename World => wx
        by_cases hjl : j < m1
        · have hjb : (j : Int) < (m1 : Int) := by omega
          have hib14 : (i : Int) < 14 := by omega
          have hjb14 : (j : Int) < 14 := by omega
          have hib0 : (0 : Int) ≤ (i : Int) := by omega
          have hjb0 : (0 : Int) ≤ (j : Int) := by omega
          have hc0 := RowF.cell HJ.out.1 (i * 14 + j) (by omega)
          have hf0 := RowF.free HJ.out.1 (i * 14 + j)
          obtain ⟨o0, ho0⟩ : ∃ o0, o0 = z2 (i * 14 + j) := ⟨_, rfl⟩
          rw [← ho0] at hc0
          clear ho0
          have HS : Hid (∀ (wy : World) (v : Int), (∃ d, wy = wx.drewN d) → v = ((lvd x y i j : Nat) : Int) → StR T (fun o => if o = i * 14 + j then v else z2 o) (wy.setCell ⟨T, i * 14 + j, none⟩ (.int .i64 v)) ∧ StI x y m (fun o => if o = i * 14 + j then v else z2 o) i (j + 1) ∧ Below w.heap.size w (wy.setCell ⟨T, i * 14 + j, none⟩ (.int .i64 v))) := fun wy v hy hv => by
            obtain ⟨d, rfl⟩ := hy
            exact ⟨StR.put (RowF.drewN HJ.out.1 d) _ v, HJ.out.2.1.next hm (by omega) hv, setO_bel (below_drewN2 HJ.out.2.2 d) (by have := HT.out; omega) _⟩
          by_cases h0 : i = 0 ∨ j = 0
          · obtain ⟨v, hv⟩ : ∃ v, v = i + j := ⟨_, rfl⟩
            have wv : IntKind.i64.wrap ((i : Int) + (j : Int)) = (v : Int) := wrap_to (by omega) (by omega)
            have HV : Hid ((v : Int) = ((lvd x y i j : Nat) : Int)) := by
              show (v : Int) = _
              rcases h0 with h | h
              · rw [hv, h, lvd_front]; omega
              · rw [hv, h, lvd_side]; rfl
            by_cases hi0 : i = 0
            · have zi : ((i : Int) == 0) = true := by rw [hi0]; rfl
              clear hv h0 hi0
              go_wp2
              go_roundw
              case rel => exact ⟨j + 1, _, by omega, by go_num, HS.out _ _ ⟨0, rfl⟩ HV.out⟩
              case measure => simp [intOf]; omega
            · have zi : ((i : Int) == 0) = false := beq_eq_false_iff_ne.2 (by omega)
              have zj : ((j : Int) == 0) = true := by rw [show j = 0 by omega]; rfl
              clear hv h0 hi0
              go_wp2
              go_roundw
              case rel => exact ⟨j + 1, _, by omega, by go_num, HS.out _ _ ⟨0, rfl⟩ HV.out⟩
              case measure => simp [intOf]; omega
          · have zi : ((i : Int) == 0) = false := beq_eq_false_iff_ne.2 (by omega)
            have zj : ((j : Int) == 0) = false := beq_eq_false_iff_ne.2 (by omega)
            obtain ⟨i1, hi1⟩ : ∃ i1, i = i1 + 1 := ⟨i - 1, by omega⟩
            obtain ⟨j1, hj1⟩ : ∃ j1, j = j1 + 1 := ⟨j - 1, by omega⟩
            have wi1 : IntKind.i64.wrap ((i : Int) - 1) = (i1 : Int) := wrap_to (by omega) (by omega)
            have wj1 : IntKind.i64.wrap ((j : Int) - 1) = (j1 : Int) := wrap_to (by omega) (by omega)
            have hi1n : (i1 : Int) < (n : Int) := by omega
            have hj1m : (j1 : Int) < (m : Int) := by omega
            have hi1b : (i1 : Int) < 14 := by omega
            have hj1b : (j1 : Int) < 14 := by omega
            have hi10 : (0 : Int) ≤ (i1 : Int) := by omega
            have hj10 : (0 : Int) ≤ (j1 : Int) := by omega
            obtain ⟨ba, oa, hao, hca⟩ := (slz_below HF.out.1 HJ.out.2.2) i1 (by omega)
            obtain ⟨bb, ob, hbo, hcb⟩ := (slz_below HF.out.2 HJ.out.2.2) j1 (by omega)
            obtain ⟨xv, hxv⟩ : ∃ xv, xv = x i1 := ⟨_, rfl⟩
            obtain ⟨yv, hyv⟩ : ∃ yv, yv = y j1 := ⟨_, rfl⟩
            rw [← hxv] at hca
            rw [← hyv] at hcb
            subst hao
            subst hbo
            have hstep := lvd_step x y i1 j1
            rw [← hxv, ← hyv, ← hi1, ← hj1] at hstep
            clear hxv hyv
            by_cases hxy : xv = yv
            · have zxy : (xv == yv) = true := beq_iff_eq.2 hxy
              rw [if_pos hxy] at hstep
              have hc1 := RowF.cell HJ.out.1 (i1 * 14 + j1) (by omega)
              obtain ⟨v, hv⟩ : ∃ v, v = z2 (i1 * 14 + j1) := ⟨_, rfl⟩
              rw [← hv] at hc1
              have HV : Hid (v = ((lvd x y i j : Nat) : Int)) := by rw [hstep, hv]; exact HJ.out.2.1.1 i1 j1 (by omega) (by omega)
              clear hv hstep hxy h0 hi1 hj1
              go_wp2
              go_quiet (fail)
              go_wp2
              refine quiet_tail 11 (by kernel_rfl) (by kernel_rfl) ?_
              simp only [List.take_succ_cons, List.take_zero, List.drop_succ_cons, List.drop_zero]
              repeat (go_big_quiet_step (fail))
              refine wpQuiet_nil ?_
              intro _ hw'
              obtain ⟨nd, hw''⟩ := hw'
              subst hw''
              go_wp2
              go_roundw
              case rel => exact ⟨j + 1, _, by omega, by go_num, HS.out _ _ ⟨_, by first | rfl | rw [World.drewN_drewN]⟩ HV.out⟩
              case measure => simp [intOf]; omega
            · have zxy : (xv == yv) = false := beq_eq_false_iff_ne.2 hxy
              rw [if_neg hxy] at hstep
              have hc1 := RowF.cell HJ.out.1 (i1 * 14 + j) (by omega)
              have hc2 := RowF.cell HJ.out.1 (i * 14 + j1) (by omega)
              obtain ⟨p, hp⟩ : ∃ p, p = lvd x y i1 j := ⟨_, rfl⟩
              obtain ⟨q, hq⟩ : ∃ q, q = lvd x y i j1 := ⟨_, rfl⟩
              have ep := HJ.out.2.1.1 i1 j (by omega) (by omega)
              have eq' := HJ.out.2.1.2 j1 (by omega)
              rw [ep, ← hp] at hc1
              rw [eq', ← hq] at hc2
              rw [← hp, ← hq] at hstep
              have hp26 : p ≤ 26 := by rw [hp]; have := lvd_few x y i1 j; omega
              have hq26 : q ≤ 26 := by rw [hq]; have := lvd_few x y i j1; omega
              obtain ⟨v, hv⟩ : ∃ v, v = min p q + 1 := ⟨_, rfl⟩
              have HV : Hid (lvd x y i j = min p q + 1) := hstep
              have hmn : min p q ≤ 26 := Nat.le_trans (Nat.min_le_left _ _) hp26
              obtain ⟨mn, hmne⟩ : ∃ mn, mn = min p q := ⟨_, rfl⟩
              have wv : IntKind.i64.wrap (1 + (mn : Int)) = (v : Int) := wrap_to (by rw [hv, ← hmne]; omega) (by omega)
              clear hv hstep hxy h0 hi1 hj1 hp hq ep eq'
              go_wp2
              go_quiet (fail)
              go_wp2
              refine quiet_tail 18 (by kernel_rfl) (by kernel_rfl) ?_
              simp only [List.take_succ_cons, List.take_zero, List.drop_succ_cons, List.drop_zero]
              repeat (go_big_quiet_step (fail))
              refine wpQuiet_nil ?_
              intro _ hw'
              obtain ⟨nd, hw''⟩ := hw'
              subst hw''
              go_wp2
              go_roundw
              case rel => exact ⟨j + 1, _, by omega, by go_num, HS.out _ _ ⟨_, by first | rfl | rw [World.drewN_drewN]⟩ (by rw [HV.out]; split <;> omega)⟩
              case measure => simp [intOf]; omega
        · have hjb : ¬ (j : Int) < (m1 : Int) := by omega
          have HE : Hid (StR T z2 wx ∧ StI x y m z2 (i + 1) 0 ∧ Below w.heap.size w wx) := by
            refine ⟨HJ.out.1, StI.row ?_, HJ.out.2.2⟩
            have h := HJ.out.2.1
            rw [show j = m + 1 by omega] at h; exact h
          go_wp2
          go_roundw
          case rel => exact ⟨i + 1, z2, by omega, by go_num, HE.out⟩
          case measure => simp [intOf]; omega
    · have hib : ¬ (i : Int) < (n1 : Int) := by omega
      have hc := RowF.cell HG.out.1 (n * 14 + m) (by omega)
      obtain ⟨v, hv⟩ : ∃ v, v = z (n * 14 + m) := ⟨_, rfl⟩
      rw [← hv] at hc
      have HV : Hid (v = ((lvd x y n m : Nat) : Int)) := by rw [hv]; exact HG.out.2.1.1 n m (by omega) (Nat.le_refl _)
      have hnb : (n : Int) < 14 := by omega
      have hmb : (m : Int) < 14 := by omega
      clear hv
      go_wp2
      go_ret
      exact ⟨by rw [HV.out]; rfl, HG.out.2.2⟩
end Go.Proofs.Ytillljojdnofgaa
