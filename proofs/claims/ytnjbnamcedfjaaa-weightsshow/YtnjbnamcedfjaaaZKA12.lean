/- WeightsShow's walk where Delsarte's numbers are asked (printed by make/ka12.py). -/
import Derived.Test.YtnjbnamcedfjaaaZKA11
import Derived.Test.YtnjbnamcedfjaaaZU13
namespace Go.Proofs.Ytnjbnamcedfjaaa
open Go.RowKit Go.Sort
def WO (q n d : Nat) (f : Nat → Int) (w : World) (vu vo vx : Value) (wr : World) : Prop := ∃ (x : Nat) (u : Int) (o : Bool), x ≤ n + 1 ∧ vu = .int .i64 u ∧ vo = .bool o ∧ vx = .int .i64 (x : Nat) ∧ Hid ((o = true → (∀ x', x' < x → d ≤ x' → dsm q n f x' ≤ 0) ∧ (0 < x → u = dsm q n f 0)) ∧ (o = false → ∃ x', d ≤ x' ∧ x' ≤ n ∧ 0 < dsm q n f x')) ∧ Hid (Below w.heap.size w wr)
def WK (q n x : Nat) (f : Nat → Int) (w : World) (vs vk : Value) (wr : World) : Prop := ∃ (k : Nat) (s : Int), k ≤ n + 1 ∧ vs = .int .i64 s ∧ vk = .int .i64 (k : Nat) ∧ Hid (s = vsm f (fun k => kv q n k x) k) ∧ Hid (Below w.heap.size w wr)

set_option maxHeartbeats 8000000 in
set_option maxRecDepth 100000 in
theorem ws_at {q n d : Nat} (h1 : 1 ≤ d) (h2 : d ≤ n) (h3 : n ≤ 30) (hq : 2 ≤ q) (hq2 : q ≤ 64) (hp : q ^ n ≤ 1073741824) {b off N cap : Nat} {f : Nat → Int} (hN : N = n + 1) (ho : outB f 1048576 N = false) (hf : f 0 ≠ 0) {w : World} (hX : Arg (some ⟨b, off, none⟩) N cap f w) (hK : ∀ wx, Calls Try.prog 8 #[.int .i64 (q : Nat), .int .i64 (n : Nat)] wx fun e w' => e = .returned (.int .i64 0) ∧ Below wx.heap.size wx w')
    (hS : (∃ x, d ≤ x ∧ x ≤ n ∧ 0 < dsm q n f x) → ∀ wx, Below w.heap.size w wx → Calls Try.prog 16 #[.int .i64 (q : Nat), .int .i64 (n : Nat), .int .i64 (d : Nat), .slice (some ⟨b, off, none⟩) N cap] wx fun e w' => e = .returned (.tuple #[.int .i64 0, .int .i64 0, .bool false, .int .i64 0]) ∧ Below wx.heap.size wx w')
    (hT : (∀ x, d ≤ x → x ≤ n → dsm q n f x ≤ 0) → ∀ wx, Below w.heap.size w wx → Calls Try.prog 16 #[.int .i64 (q : Nat), .int .i64 (n : Nat), .int .i64 (d : Nat), .slice (some ⟨b, off, none⟩) N cap] wx fun e w' => e = .returned (.tuple #[.int .i64 (dsm q n f 0), .int .i64 (f 0), .bool true, .int .i64 0]) ∧ Below wx.heap.size wx w') :
    Calls Try.prog 4 #[.int .i64 (q : Nat), .int .i64 (n : Nat), .int .i64 (d : Nat), .slice (some ⟨b, off, none⟩) N cap] w fun e w' => e = .returned (.bool true) ∧ Below w.heap.size w w' := by
  have HK : Hid (∀ wx, Calls Try.prog 8 #[.int .i64 (q : Nat), .int .i64 (n : Nat)] wx fun e w' => e = .returned (.int .i64 0) ∧ Below wx.heap.size wx w') := hK
  have HS : Hid ((∃ x, d ≤ x ∧ x ≤ n ∧ 0 < dsm q n f x) → ∀ wx, Below w.heap.size w wx → Calls Try.prog 16 #[.int .i64 (q : Nat), .int .i64 (n : Nat), .int .i64 (d : Nat), .slice (some ⟨b, off, none⟩) N cap] wx fun e w' => e = .returned (.tuple #[.int .i64 0, .int .i64 0, .bool false, .int .i64 0]) ∧ Below wx.heap.size wx w') := hS
  have HT : Hid ((∀ x, d ≤ x → x ≤ n → dsm q n f x ≤ 0) → ∀ wx, Below w.heap.size w wx → Calls Try.prog 16 #[.int .i64 (q : Nat), .int .i64 (n : Nat), .int .i64 (d : Nat), .slice (some ⟨b, off, none⟩) N cap] wx fun e w' => e = .returned (.tuple #[.int .i64 (dsm q n f 0), .int .i64 (f 0), .bool true, .int .i64 0]) ∧ Below wx.heap.size wx w') := hT
  have HP : Hid (q ^ n ≤ 1073741824) := hp
  have HX : Hid (Arg (some ⟨b, off, none⟩) N cap f w) := hX
  have HO : Hid (outB f 1048576 N = false) := ho
  have HN : Hid (N = n + 1) := hN
  have hNn : (N : Int) = (n : Int) + 1 := by omega
  have hN31 : (N : Int) ≤ 31 := by omega
  clear hK hS hT hp hX ho hN
  have hNb : ¬ (N : Int) > 100 := by omega
  have hNb2 : ¬ (100 : Int) < (N : Int) := by omega
  have h1b : ¬ (d : Int) < 1 := by omega
  have h2b : ¬ (d : Int) > (n : Int) := by omega
  have h2c : ¬ (n : Int) < (d : Int) := by omega
  have hz : ((N : Int) != (n : Int) + 1) = false := by rw [hNn]; simp
  have hd1 : decide ((d : Int) < 1) = false := decide_eq_false h1b
  have hd2 : decide (n < d) = false := decide_eq_false (by omega)
  have hd3 : decide ((100 : Int) < (n : Int) + 1) = false := decide_eq_false (by omega)
  go_enter Try.func4, Try.ntmps4
  go_wp2_with fail
  refine (HK.out _).mono ?_
  rintro e w1 ⟨rfl, hb⟩
  have H1 : Hid (Below w.heap.size w w1) := hb
  clear hb
  go_wp2
  go_loopw [9, 10] (fun ve vi wr => WI2 N w ve vi wr) (fun _ vi _ => N + 1 - (intOf vi).toNat)
  case atStart => exact ⟨0, by omega, rfl, rfl, H1.out⟩
  case round =>
    obtain ⟨i, hi, rfl, rfl, HV⟩ := hrel
    clear H1
    by_cases hlt : i < N
    · have hib : (i : Int) < (N : Int) := by omega
      have hib0 : (0 : Int) ≤ (i : Int) := by omega
      have cc := (HX.out.below HV.out).sl.cell hlt
      have hfi := outB_no HO.out i hlt
      obtain ⟨y, hy⟩ : ∃ y, y = f i := ⟨_, rfl⟩
      rw [← hy] at cc hfi
      clear hy
      have hy0 : ¬ y < 0 := by omega
      have hy1 : ¬ (1048576 : Int) < y := by omega
      have hy1b : ¬ y > 1048576 := by omega
      go_wp2
      go_roundw
      case rel => exact ⟨i + 1, by omega, rfl, by go_num, HV.out⟩
      case measure => simp [intOf]; omega
    · have hie : ¬ (i : Int) < (N : Int) := by omega
      have hpos : (0 : Int) < (N : Int) := by omega
      have hpos2 : 0 < N := by omega
      have cc := (HX.out.below HV.out).sl.cell hpos2
      rw [Nat.add_zero] at cc
      have hf0 := outB_no HO.out 0 hpos2
      obtain ⟨f0, hf0e⟩ : ∃ f0, f0 = f 0 := ⟨_, rfl⟩
      rw [← hf0e] at cc hf hf0
      have HF0 : Hid (f0 = f 0) := hf0e
      clear hf0e
      have hfp : (0 : Int) < f0 := by omega
      have hfp2 : f0 > 0 := hfp
      go_wp2
      clear cc
      go_loopw [11, 12, 13] (fun vu vo vx wr => WO q n d f w vu vo vx wr) (fun _ _ vx _ => n + 2 - (intOf vx).toNat)
      case atStart => exact ⟨0, 0, true, by omega, rfl, by first | rfl | simp, rfl, ⟨fun _ => ⟨fun x' hx' => absurd hx' (by omega), fun hx' => absurd hx' (by omega)⟩, fun hx' => by cases hx'⟩, HV.out⟩
      case round =>
        obtain ⟨x, u, o, hx, rfl, rfl, rfl, HI, HV2⟩ := hrel
        cases o
        · have HS2 : Hid (∀ wx, Below w.heap.size w wx → Calls Try.prog 16 #[.int .i64 (q : Nat), .int .i64 (n : Nat), .int .i64 (d : Nat), .slice (some ⟨b, off, none⟩) N cap] wx fun e w' => e = .returned (.tuple #[.int .i64 0, .int .i64 0, .bool false, .int .i64 0]) ∧ Below wx.heap.size wx w') := HS.out (HI.out.2 rfl)
          by_cases hxn : (x : Int) ≤ (n : Int)
          · go_wp2_with fail
            refine (HS2.out _ HV2.out).mono ?_
            rintro e w5 ⟨rfl, hb⟩
            have H5 : Hid (Below w.heap.size w w5) := bel_up' HV2.out hb
            clear hb
            go_wp2
            go_ret
            exact ⟨by simp, H5.out⟩
          · go_wp2_with fail
            refine (HS2.out _ HV2.out).mono ?_
            rintro e w5 ⟨rfl, hb⟩
            have H5 : Hid (Below w.heap.size w w5) := bel_up' HV2.out hb
            clear hb
            go_wp2
            go_ret
            exact ⟨by simp, H5.out⟩
        · by_cases hxn : x ≤ n
          · have hxb : (x : Int) ≤ (n : Int) := by omega
            go_wp2
            go_loopw [14, 15] (fun vs vk wr => WK q n x f w vs vk wr) (fun _ vk _ => n + 1 - (intOf vk).toNat)
            case atStart => exact ⟨0, 0, by omega, rfl, rfl, rfl, HV2.out⟩
            case round =>
              obtain ⟨k, s, hk, rfl, rfl, HSm, HV3⟩ := hrel
              by_cases hkn : k ≤ n
              · have hkb : (k : Int) ≤ (n : Int) := by omega
                have hkN : (k : Int) < (N : Int) := by omega
                have hk0 : (0 : Int) ≤ (k : Int) := by omega
                have hkN2 : k < N := by omega
                have hfk := outB_no HO.out k hkN2
                have hA3 := HX.out.below HV3.out
                have k0 := cell_regrown (hA3.sl.cell hkN2)
                obtain ⟨y, hy⟩ : ∃ y, y = f k := ⟨_, rfl⟩
                rw [← hy] at k0 hfk
                obtain ⟨z, hz2⟩ : ∃ z, z = kv q n k x := ⟨_, rfl⟩
                obtain ⟨P, hP⟩ : ∃ P : Int, P = y * z := ⟨_, rfl⟩
                have hbt := dsm_abs hq HP.out h3 (f := f) (fun j hj => outB_no HO.out j (by omega)) x
                have hPb : P.natAbs ≤ 72057594037927936 := by
                  rw [hP, hy, hz2]
                  exact dsm_term hq HP.out (N := N) (fun j hj => outB_no HO.out j hj) x k hkN2
                have hsb : s.natAbs ≤ 2305843009213693952 := by rw [HSm.out]; exact hbt k (by omega)
                clear hbt
                have hsb2 : -2305843009213693952 ≤ s ∧ s ≤ 2305843009213693952 := by omega
                have hPb2 : -72057594037927936 ≤ P ∧ P ≤ 72057594037927936 := by omega
                have hw1 : IntKind.i64.wrap (y * z) = P := by rw [← hP]; exact wrap_ka (by omega) (by omega)
                have HR : Hid (s + P = vsm f (fun k => kv q n k x) (k + 1)) := by show s + P = vsm f (fun k => kv q n k x) k + f k * kv q n k x; rw [HSm.out, hP, hy, hz2]
                have HC : Hid (∀ ww : World, Calls Try.prog 9 #[.int .i64 (q : Nat), .int .i64 (n : Nat), .int .i64 (k : Nat), .int .i64 (x : Nat)] ww fun e w' => e = .returned (.int .i64 z) ∧ Below ww.heap.size ww w') := fun ww => by
                  rw [hz2]; exact rkraw_any q n k x hq hq2 HP.out hkn ww
                clear hP hy hz2 hPb hsb hA3
                go_wp2
                refine below_tail 12 (by kernel_rfl) (by kernel_rfl) ?_
                simp only [List.take_succ_cons, List.take_zero, List.drop_succ_cons, List.drop_zero]
                repeat (go_big_quiet_step (first | (go_at_call 9; exact Calls.regrown_of (HC.out _))))
                refine wpQuiet_nil ?_
                intro _ hw'
                obtain ⟨⟨ds, oss⟩, hw''⟩ := hw'
                subst hw''
                have H7 : Hid (Below w.heap.size w (grow (redrawn _ ds) oss)) := bel_up' HV3.out (below_regrown _ ds oss)
                go_wp2
                go_roundw
                case rel => exact ⟨k + 1, s + P, by omega, by first | rfl | simp [hw1], by go_num, HR.out, H7.out⟩
                case measure => first | (simp [intOf]; done) | (simp [intOf]; omega)
              · have hkb : ¬ (k : Int) ≤ (n : Int) := by omega
                have HSx : Hid (s = dsm q n f x) := by
                  show s = vsm f (fun k => kv q n k x) (n + 1)
                  rw [HSm.out, show k = n + 1 by omega]
                clear HSm
                by_cases hx0 : x = 0
                · subst hx0
                  go_wp2
                  go_roundw
                  case rel => exact ⟨1, s, true, by omega, rfl, by first | rfl | simp, by first | rfl | go_num, ⟨fun _ => ⟨fun x' hx' hd' => absurd hx' (by omega), fun _ => HSx.out⟩, fun h => by cases h⟩, HV3.out⟩
                  case measure => first | (simp [intOf]; done) | (simp [intOf]; omega)
                · have hx0b : ¬ (x : Int) = 0 := by omega
                  have hxz : ((x : Int) == 0) = false := by rw [beq_eq_false_iff_ne]; omega
                  have HU : Hid (u = dsm q n f 0) := (HI.out.1 (by simp)).2 (by omega)
                  by_cases hxd : x < d
                  · have hxdb : (x : Int) < (d : Int) := by omega
                    have HA : Hid (∀ x', x' < x + 1 → d ≤ x' → dsm q n f x' ≤ 0) := fun x' hx' hd' => absurd hx' (by omega)
                    go_wp2
                    go_roundw
                    case rel => exact ⟨x + 1, u, true, by omega, rfl, by first | rfl | simp, by go_num, ⟨fun _ => ⟨HA.out, fun _ => HU.out⟩, fun h => by cases h⟩, HV3.out⟩
                    case measure => first | (simp [intOf]; done) | (simp [intOf]; omega)
                  · have hxdb : ¬ (x : Int) < (d : Int) := by omega
                    by_cases hs0 : s ≤ 0
                    · have HA : Hid (∀ x', x' < x + 1 → d ≤ x' → dsm q n f x' ≤ 0) := fun x' hx' hd' => by
                        by_cases e : x' = x
                        · rw [e, ← HSx.out]; exact hs0
                        · exact (HI.out.1 (by simp)).1 x' (by omega) hd'
                      go_wp2
                      go_roundw
                      case rel => exact ⟨x + 1, u, true, by omega, rfl, by first | rfl | simp, by go_num, ⟨fun _ => ⟨HA.out, fun _ => HU.out⟩, fun h => by cases h⟩, HV3.out⟩
                      case measure => first | (simp [intOf]; done) | (simp [intOf]; omega)
                    · have HA : Hid (∃ x', d ≤ x' ∧ x' ≤ n ∧ 0 < dsm q n f x') := ⟨x, by omega, hxn, by rw [← HSx.out]; omega⟩
                      go_wp2
                      go_roundw
                      case rel => exact ⟨x + 1, u, false, by omega, rfl, by first | rfl | simp, by go_num, ⟨(fun h => by cases h), fun _ => HA.out⟩, HV3.out⟩
                      case measure => first | (simp [intOf]; done) | (simp [intOf]; omega)
          · have hxb : ¬ (x : Int) ≤ (n : Int) := by omega
            have HAll : Hid (∀ x', d ≤ x' → x' ≤ n → dsm q n f x' ≤ 0) := fun x' h h' => (HI.out.1 (by simp)).1 x' (by omega) h
            have HU : Hid (u = dsm q n f 0) := (HI.out.1 (by simp)).2 (by omega)
            have HS2 : Hid (∀ wx, Below w.heap.size w wx → Calls Try.prog 16 #[.int .i64 (q : Nat), .int .i64 (n : Nat), .int .i64 (d : Nat), .slice (some ⟨b, off, none⟩) N cap] wx fun e w' => e = .returned (.tuple #[.int .i64 u, .int .i64 f0, .bool true, .int .i64 0]) ∧ Below wx.heap.size wx w') := by
              have h := HT.out HAll.out
              rw [← HU.out, ← HF0.out] at h
              exact h
            clear HAll HU
            go_wp2_with fail
            refine (HS2.out _ HV2.out).mono ?_
            rintro e w5 ⟨rfl, hb⟩
            have H5 : Hid (Below w.heap.size w w5) := bel_up' HV2.out hb
            clear hb
            have cc := (HX.out.below H5.out).sl.cell hpos2
            rw [Nat.add_zero, ← HF0.out] at cc
            go_wp2
            go_ret
            exact ⟨by simp, H5.out⟩
end Go.Proofs.Ytnjbnamcedfjaaa
