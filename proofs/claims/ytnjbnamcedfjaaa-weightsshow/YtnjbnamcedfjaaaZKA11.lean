/- WeightsShow's walk where the lengths may be (printed by make/ka11.py). -/
import Derived.Test.YtnjbnamcedfjaaaZKA10
namespace Go.Proofs.Ytnjbnamcedfjaaa
open Go.RowKit Go.Sort
def WI1 (f : Nat → Int) (N : Nat) (w : World) (ve vi : Value) (wr : World) : Prop := ∃ (i : Nat) (e : Int), i ≤ N ∧ ve = .int .i64 e ∧ vi = .int .i64 (i : Nat) ∧ Hid ((e = 0 ∧ Hid (outB f 1048576 i = false)) ∨ e = 2) ∧ Hid (Below w.heap.size w wr)
def WI2 (N : Nat) (w : World) (ve vi : Value) (wr : World) : Prop := ∃ i : Nat, i ≤ N ∧ ve = .int .i64 0 ∧ vi = .int .i64 (i : Nat) ∧ Hid (Below w.heap.size w wr)
theorem SlZ.cell {b off n : Nat} {z : Nat → Int} {w : World} (h : SlZ (some ⟨b, off, none⟩) n z w) {j : Nat} (hj : j < n) : w.cell? ⟨b, off + j, none⟩ = some (.int .i64 (z j)) := by
  obtain ⟨b', off', e, hc⟩ := h j hj
  cases e
  exact hc

set_option maxHeartbeats 8000000 in
set_option maxRecDepth 100000 in
theorem ws_val {q n d : Nat} (h1 : 1 ≤ d) (h2 : d ≤ n) (h3 : n ≤ 30) {b off N cap : Nat} {f : Nat → Int} (hN : N = n + 1) (ho : outB f 1048576 N = true) {w : World} (hX : Arg (some ⟨b, off, none⟩) N cap f w) (hK : ∀ wx, Calls Try.prog 8 #[.int .i64 (q : Nat), .int .i64 (n : Nat)] wx fun e w' => e = .returned (.int .i64 0) ∧ Below wx.heap.size wx w')
    (hS : ∀ wx, Below w.heap.size w wx → Calls Try.prog 16 #[.int .i64 (q : Nat), .int .i64 (n : Nat), .int .i64 (d : Nat), .slice (some ⟨b, off, none⟩) N cap] wx fun e w' => e = .returned (.tuple #[.int .i64 0, .int .i64 0, .bool false, .int .i64 2]) ∧ Below wx.heap.size wx w') :
    Calls Try.prog 4 #[.int .i64 (q : Nat), .int .i64 (n : Nat), .int .i64 (d : Nat), .slice (some ⟨b, off, none⟩) N cap] w fun e w' => e = .returned (.bool true) ∧ Below w.heap.size w w' := by
  have HK : Hid (∀ wx, Calls Try.prog 8 #[.int .i64 (q : Nat), .int .i64 (n : Nat)] wx fun e w' => e = .returned (.int .i64 0) ∧ Below wx.heap.size wx w') := hK
  have HS : Hid (∀ wx, Below w.heap.size w wx → Calls Try.prog 16 #[.int .i64 (q : Nat), .int .i64 (n : Nat), .int .i64 (d : Nat), .slice (some ⟨b, off, none⟩) N cap] wx fun e w' => e = .returned (.tuple #[.int .i64 0, .int .i64 0, .bool false, .int .i64 2]) ∧ Below wx.heap.size wx w') := hS
  have HX : Hid (Arg (some ⟨b, off, none⟩) N cap f w) := hX
  have HO : Hid (outB f 1048576 N = true) := ho
  have HN : Hid (N = n + 1) := hN
  have hNn : (N : Int) = (n : Int) + 1 := by omega
  have hN31 : (N : Int) ≤ 31 := by omega
  clear hK hS hX ho hN
  have hNb : ¬ (N : Int) > 100 := by omega
  have hNb2 : ¬ (100 : Int) < (N : Int) := by omega
  have h1b : ¬ (d : Int) < 1 := by omega
  have h2b : ¬ (d : Int) > (n : Int) := by omega
  have h2c : ¬ (n : Int) < (d : Int) := by omega
  have hz : ((N : Int) != (n : Int) + 1) = false := by rw [hNn]; simp
  have hd1 : decide ((d : Int) < 1) = false := decide_eq_false h1b
  have hd2 : decide (n < d) = false := decide_eq_false (by omega)
  have hd3 : decide ((100 : Int) < (n : Int) + 1) = false := decide_eq_false (by omega)
  go_enter Try.func4, Try.ntmps4
  go_wp2_with fail
  refine (HK.out _).mono ?_
  rintro e w1 ⟨rfl, hb⟩
  have H1 : Hid (Below w.heap.size w w1) := hb
  clear hb
  go_wp2
  go_loopw [9, 10] (fun ve vi wr => WI1 f N w ve vi wr) (fun _ vi _ => N + 1 - (intOf vi).toNat)
  case atStart => exact ⟨0, 0, by omega, rfl, rfl, Or.inl ⟨rfl, rfl⟩, H1.out⟩
  case round =>
    obtain ⟨i, e, hi, rfl, rfl, hc, HV⟩ := hrel
    clear H1
    have hc2 := hc.out
    clear hc
    rcases hc2 with ⟨rfl, HB⟩ | rfl
    · by_cases hlt : i < N
      · have hib : (i : Int) < (N : Int) := by omega
        have hib0 : (0 : Int) ≤ (i : Int) := by omega
        have cc := (HX.out.below HV.out).sl.cell hlt
        obtain ⟨y, hy⟩ : ∃ y, y = f i := ⟨_, rfl⟩
        rw [← hy] at cc
        have HY : Hid (y = f i) := hy
        clear hy
        by_cases hy0 : y < 0
        · go_wp2
          go_roundw
          case rel =>
            first | exact ⟨i + 1, 2, by omega, rfl, by go_num, Or.inr rfl, HV.out⟩ | exact ⟨_, _, _, _, _, _, _, _, _, _, _, _, _, _, _, _, _, _, _, _, _, _, _, _, ⟨i + 1, 2, by omega, rfl, by go_num, Or.inr rfl, HV.out⟩, rfl⟩
          case measure => simp [intOf]; omega
        · by_cases hy1 : (1048576 : Int) < y
          · have hy1b : y > 1048576 := hy1
            go_wp2
            go_roundw
            case rel =>
              first | exact ⟨i + 1, 2, by omega, rfl, by go_num, Or.inr rfl, HV.out⟩ | exact ⟨_, _, _, _, _, _, _, _, _, _, _, _, _, _, _, _, _, _, _, _, _, _, _, _, ⟨i + 1, 2, by omega, rfl, by go_num, Or.inr rfl, HV.out⟩, rfl⟩
            case measure => simp [intOf]; omega
          · have hy1b : ¬ y > 1048576 := hy1
            have HB2 : Hid (outB f 1048576 (i + 1) = false) := by
              show (outB f 1048576 i || (decide (f i < 0) || decide ((1048576 : Int) < f i))) = false
              rw [HB.out, ← HY.out, decide_eq_false hy0, decide_eq_false hy1]; rfl
            go_wp2
            go_roundw
            case rel => exact ⟨i + 1, 0, by omega, rfl, by go_num, Or.inl ⟨rfl, HB2⟩, HV.out⟩
            case measure => simp [intOf]; omega
      · have hie : i = N := by omega
        exfalso
        have h := HB.out
        rw [hie, HO.out] at h
        cases h
    · by_cases hlt : (i : Int) < (N : Int)
      · go_wp2
        go_loopw [11, 12, 13] (fun vu vo vx wr => vu = .int .i64 0 ∧ vo = .bool false ∧ vx = .int .i64 0 ∧ Hid (Below w.heap.size w wr)) (fun _ _ _ _ => 0)
        case atStart => exact ⟨rfl, by first | rfl | simp, rfl, HV.out⟩
        case round =>
          obtain ⟨rfl, rfl, rfl, HV2⟩ := hrel
          go_wp2_with fail
          refine (HS.out _ HV2.out).mono ?_
          rintro e w5 ⟨rfl, hb⟩
          have H5 : Hid (Below w.heap.size w w5) := bel_up' HV2.out hb
          clear hb
          go_wp2
          go_ret
          exact ⟨by simp, H5.out⟩
      · go_wp2
        go_loopw [11, 12, 13] (fun vu vo vx wr => vu = .int .i64 0 ∧ vo = .bool false ∧ vx = .int .i64 0 ∧ Hid (Below w.heap.size w wr)) (fun _ _ _ _ => 0)
        case atStart => exact ⟨rfl, by first | rfl | simp, rfl, HV.out⟩
        case round =>
          obtain ⟨rfl, rfl, rfl, HV2⟩ := hrel
          go_wp2_with fail
          refine (HS.out _ HV2.out).mono ?_
          rintro e w5 ⟨rfl, hb⟩
          have H5 : Hid (Below w.heap.size w w5) := bel_up' HV2.out hb
          clear hb
          go_wp2
          go_ret
          exact ⟨by simp, H5.out⟩

set_option maxHeartbeats 8000000 in
set_option maxRecDepth 100000 in
theorem ws_zero {q n d : Nat} (h1 : 1 ≤ d) (h2 : d ≤ n) (h3 : n ≤ 30) {b off N cap : Nat} {f : Nat → Int} (hN : N = n + 1) (ho : outB f 1048576 N = false) (hf : f 0 = 0) {w : World} (hX : Arg (some ⟨b, off, none⟩) N cap f w) (hK : ∀ wx, Calls Try.prog 8 #[.int .i64 (q : Nat), .int .i64 (n : Nat)] wx fun e w' => e = .returned (.int .i64 0) ∧ Below wx.heap.size wx w')
    (hS : ∀ wx, Below w.heap.size w wx → Calls Try.prog 16 #[.int .i64 (q : Nat), .int .i64 (n : Nat), .int .i64 (d : Nat), .slice (some ⟨b, off, none⟩) N cap] wx fun e w' => e = .returned (.tuple #[.int .i64 0, .int .i64 0, .bool false, .int .i64 0]) ∧ Below wx.heap.size wx w') :
    Calls Try.prog 4 #[.int .i64 (q : Nat), .int .i64 (n : Nat), .int .i64 (d : Nat), .slice (some ⟨b, off, none⟩) N cap] w fun e w' => e = .returned (.bool true) ∧ Below w.heap.size w w' := by
  have HK : Hid (∀ wx, Calls Try.prog 8 #[.int .i64 (q : Nat), .int .i64 (n : Nat)] wx fun e w' => e = .returned (.int .i64 0) ∧ Below wx.heap.size wx w') := hK
  have HS : Hid (∀ wx, Below w.heap.size w wx → Calls Try.prog 16 #[.int .i64 (q : Nat), .int .i64 (n : Nat), .int .i64 (d : Nat), .slice (some ⟨b, off, none⟩) N cap] wx fun e w' => e = .returned (.tuple #[.int .i64 0, .int .i64 0, .bool false, .int .i64 0]) ∧ Below wx.heap.size wx w') := hS
  have HX : Hid (Arg (some ⟨b, off, none⟩) N cap f w) := hX
  have HO : Hid (outB f 1048576 N = false) := ho
  have HN : Hid (N = n + 1) := hN
  have hNn : (N : Int) = (n : Int) + 1 := by omega
  have hN31 : (N : Int) ≤ 31 := by omega
  clear hK hS hX ho hN
  have hNb : ¬ (N : Int) > 100 := by omega
  have hNb2 : ¬ (100 : Int) < (N : Int) := by omega
  have h1b : ¬ (d : Int) < 1 := by omega
  have h2b : ¬ (d : Int) > (n : Int) := by omega
  have h2c : ¬ (n : Int) < (d : Int) := by omega
  have hz : ((N : Int) != (n : Int) + 1) = false := by rw [hNn]; simp
  have hd1 : decide ((d : Int) < 1) = false := decide_eq_false h1b
  have hd2 : decide (n < d) = false := decide_eq_false (by omega)
  have hd3 : decide ((100 : Int) < (n : Int) + 1) = false := decide_eq_false (by omega)
  go_enter Try.func4, Try.ntmps4
  go_wp2_with fail
  refine (HK.out _).mono ?_
  rintro e w1 ⟨rfl, hb⟩
  have H1 : Hid (Below w.heap.size w w1) := hb
  clear hb
  go_wp2
  go_loopw [9, 10] (fun ve vi wr => WI2 N w ve vi wr) (fun _ vi _ => N + 1 - (intOf vi).toNat)
  case atStart => exact ⟨0, by omega, rfl, rfl, H1.out⟩
  case round =>
    obtain ⟨i, hi, rfl, rfl, HV⟩ := hrel
    clear H1
    by_cases hlt : i < N
    · have hib : (i : Int) < (N : Int) := by omega
      have hib0 : (0 : Int) ≤ (i : Int) := by omega
      have cc := (HX.out.below HV.out).sl.cell hlt
      have hfi := outB_no HO.out i hlt
      obtain ⟨y, hy⟩ : ∃ y, y = f i := ⟨_, rfl⟩
      rw [← hy] at cc hfi
      clear hy
      have hy0 : ¬ y < 0 := by omega
      have hy1 : ¬ (1048576 : Int) < y := by omega
      have hy1b : ¬ y > 1048576 := by omega
      go_wp2
      go_roundw
      case rel => exact ⟨i + 1, by omega, rfl, by go_num, HV.out⟩
      case measure => simp [intOf]; omega
    · have hie : ¬ (i : Int) < (N : Int) := by omega
      have hpos : (0 : Int) < (N : Int) := by omega
      have hpos2 : 0 < N := by omega
      have cc := (HX.out.below HV.out).sl.cell hpos2
      rw [Nat.add_zero] at cc
      rw [hf] at cc
      go_wp2
      go_loopw [11, 12, 13] (fun vu vo vx wr => vu = .int .i64 0 ∧ vo = .bool false ∧ vx = .int .i64 0 ∧ Hid (Below w.heap.size w wr)) (fun _ _ _ _ => 0)
      case atStart => exact ⟨rfl, by first | rfl | simp, rfl, HV.out⟩
      case round =>
        obtain ⟨rfl, rfl, rfl, HV2⟩ := hrel
        go_wp2_with fail
        refine (HS.out _ HV2.out).mono ?_
        rintro e w5 ⟨rfl, hb⟩
        have H5 : Hid (Below w.heap.size w w5) := bel_up' HV2.out hb
        clear hb
        go_wp2
        go_ret
        exact ⟨by simp, H5.out⟩
end Go.Proofs.Ytnjbnamcedfjaaa
