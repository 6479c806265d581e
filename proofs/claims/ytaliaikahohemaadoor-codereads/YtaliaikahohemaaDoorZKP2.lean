/- Texts of ours, one behind the other: KP2 LS2. -/
import Derived.Test.YtaliaikahohemaaDoorZS59
import Derived.Test.YtaliaikahohemaaDoorZB2
import Derived.Laws.RangeAny
import Derived.StillTailTactics
import Derived.Shelf.Strings.Prefix
import Derived.Shelf.Strings.Split
import Derived.Test.YtaliaikahohemaaDoorProg
/- A number of a text (package code: digitOf, readNumber). -/
namespace Go.Proofs.YtaliaikahohemaaDoor
open Go.RowKit

theorem digitOf_any (r : Nat) (w : World) (hr : r ≤ 2147483647) :
    Calls Tryd.prog 29 #[.int .i32 (r : Nat)] w fun e w' => e = .returned (.tuple #[.int .i64 (if r < 48 ∨ 57 < r then 0 else ((r - 48 : Nat) : Int)), .bool (decide (¬ (r < 48 ∨ 57 < r)))]) ∧ w' = w := by
  by_cases h1 : r < 48
  · have i1 : (r : Int) < 48 := by omega
    rw [if_pos (Or.inl h1), decide_eq_false (fun h => h (Or.inl h1))]
    clear h1
    go_enter Tryd.func29, Tryd.ntmps29
    go_wp2
    go_ret2
    exact ⟨rfl, rfl⟩
  have i1 : ¬ (r : Int) < 48 := by omega
  by_cases h2 : 57 < r
  · have i2 : (57 : Int) < (r : Int) := by omega
    rw [if_pos (Or.inr h2), decide_eq_false (fun h => h (Or.inr h2))]
    clear h1 h2
    go_enter Tryd.func29, Tryd.ntmps29
    go_wp2
    go_ret2
    exact ⟨rfl, rfl⟩
  have i2 : ¬ (57 : Int) < (r : Int) := by omega
  rw [if_neg (by omega), decide_eq_true (by omega)]
  have wu : IntKind.i32.wrap ((r : Int) - 48) = ((r - 48 : Nat) : Int) := by
    have : ∀ r : Nat, r ≤ 57 → ¬ r < 48 → IntKind.i32.wrap ((r : Int) - 48) = ((r - 48 : Nat) : Int) := by decide +kernel
    exact this r (by omega) h1
  have wv : IntKind.i64.wrap ((r - 48 : Nat) : Int) = ((r - 48 : Nat) : Int) := by
    have : ∀ y : Nat, y ≤ 57 → IntKind.i64.wrap (y : Int) = (y : Int) := by decide +kernel
    exact this _ (by omega)
  clear h1 h2
  go_enter Tryd.func29, Tryd.ntmps29
  go_wp2
  go_ret2
  exact ⟨rfl, rfl⟩
theorem not_empty {s : ByteArray} (h : s.size ≠ 0) : s.toList.isEmpty = false := by
  rw [Lib.toList_data]
  cases hl : s.data.toList with
  | nil => exact absurd (by rw [← siz_len, hl]; rfl) h
  | cons _ _ => rfl
theorem below_iter (w : World) (s : ByteArray) (p : Nat) : Below w.heap.size w (w.iter s p) := below_grown (World.grownBy_alloc w _ none) (Nat.le_refl _) (fun k hk => by cases hk)
theorem min_sd (n d : Nat) : Value.int .i64 (if (10000 : Int) < (n : Int) * 10 + (d : Int) then 10000 else (n : Int) * 10 + (d : Int)) = Value.int .i64 ((min (n * 10 + d) 10000 : Nat) : Int) := by
  congr 1
  split <;> omega
theorem min_sd2 (n d : Nat) : Value.int .i64 (min ((n : Int) * 10 + (d : Int)) 10000) = Value.int .i64 ((min (n * 10 + d) 10000 : Nat) : Int) := by
  congr 1
  omega
theorem is_empty {s : ByteArray} (h : s.size = 0) : s.toList.isEmpty = true := by
  rw [Lib.toList_data, List.length_eq_zero_iff.1 ((siz_len s).trans h)]; rfl

set_option maxHeartbeats 4000000 in
set_option maxRecDepth 100000 in
theorem readNumber_any (s : ByteArray) (w : World) (hs : s.size ≤ 1000000) :
    Calls Tryd.prog 18 #[.string s] w fun e w' => e = .returned (.tuple #[.int .i64 ((rnb s).2 : Nat), .int .i64 (rnb s).1]) ∧ Below w.heap.size w w' := by
  by_cases h0 : s.size = 0
  · have he : s = ⟨#[]⟩ := by
      cases s with | mk d => exact congrArg ByteArray.mk (Array.size_eq_zero_iff.1 h0)
    rw [rnb_none h0]
    subst he
    clear h0
    go_enter Tryd.func18, Tryd.ntmps18
    go_wp2
    go_ret2
    exact ⟨rfl, Below.refl _ _⟩
  have hne : s.toList.isEmpty = false := not_empty h0
  have hs0 : 0 < s.size := by omega
  have hb0 := bts_at s 0 hs0
  by_cases h1 : 1 < s.size ∧ bts s 0 = 48
  · rw [rnb_zero h1.1 h1.2]
    have i1 : (1 : Int) < (s.size : Int) := by omega
    have i2 : (((s[0]'hs0).toNat : Int) == 48) = true := by rw [beq_iff_eq]; omega
    clear h1 hb0 h0
    go_enter Tryd.func18, Tryd.ntmps18
    go_wp2
    go_ret2
    exact ⟨rfl, Below.refl _ _⟩
  have HB : Hid (¬ (1 < s.size ∧ bts s 0 = 48)) := h1
  have HN : Hid (s.size ≠ 0) := h0
  by_cases hl1 : 1 < s.size
  · have i1 : (1 : Int) < (s.size : Int) := by omega
    have i2 : (((s[0]'hs0).toNat : Int) == 48) = false := by rw [beq_eq_false_iff_ne]; omega
    clear h1 hb0 h0 hl1
    go_enter Tryd.func18, Tryd.ntmps18
    go_wp2
    go_loopw [4] (fun vn wy => ∃ (t n : Nat), t ≤ s.size ∧ n ≤ 10000 ∧ vn = .int .i64 (n : Nat) ∧ wy = w.iter s t ∧ Hid (n = min (bvl s t) 10000 ∧ ∀ j, j < t → 48 ≤ bts s j ∧ bts s j ≤ 57)) (fun _ wy => s.size - wy.iterPos w.heap.size)
    case atStart => exact ⟨0, 0, by omega, by omega, rfl, rfl, rfl, fun j hj => absurd hj (by omega)⟩
    case round =>
      obtain ⟨t, n, ht, hn, rfl, rfl, HG⟩ := hrel
      by_cases hlt : t < s.size
      · have hbt := bts_at s t hlt
        by_cases hd : bts s t < 48 ∨ 57 < bts s t
        · have HE : Hid (rnb s = (11, 0)) := rnb_bad hlt hd
          obtain ⟨r, p, hr1, hr2, hnx⟩ : ∃ r p : Nat, r ≤ 2147483647 ∧ (r < 48 ∨ 57 < r) ∧ ∀ ty, (Instr.next (.pointer (some ⟨w.heap.size, 0, none⟩)) true ty).run Tryd.prog (w.iter s t) = .ok (.tuple #[.bool true, .int .i64 (t : Nat), .int .i32 (r : Nat)]) (w.iter s p) := by
            refine ⟨(Utf8.decode s t).1, t + (Utf8.decode s t).2, decode_le s t, ?_, fun ty => run_next_any w s t ty hlt⟩
            by_cases ha : (s[t]'hlt).toNat < 128
            · rw [decode_ascii s t hlt ha]
              show (s[t]'hlt).toNat < 48 ∨ 57 < (s[t]'hlt).toNat
              omega
            · have := (decode_high s t hlt (by omega)).1
              omega
          have HR : Hid (r < 48 ∨ 57 < r) := hr2
          clear hr2 hbt hd
          go_wp2_with (go_at_call 29; refine (digitOf_any r _ hr1).mono ?_; rintro e w' ⟨rfl, rfl⟩; rw [if_pos HR.out, decide_eq_false (fun h => h HR.out)])
          go_ret2
          rw [HE.out]
          exact ⟨rfl, below_iter _ _ _⟩
        · have hnx : ∀ ty, (Instr.next (.pointer (some ⟨w.heap.size, 0, none⟩)) true ty).run Tryd.prog (w.iter s t) = .ok (.tuple #[.bool true, .int .i64 (t : Nat), .int .i32 ((s[t]'hlt).toNat : Nat)]) (w.iter s (t + 1)) := fun ty => run_next_ascii w s t ty hlt (by omega)
          obtain ⟨r, hr⟩ : ∃ r : Nat, r = (s[t]'hlt).toNat := ⟨_, rfl⟩
          rw [← hr] at hnx
          have HR : Hid (¬ (r < 48 ∨ 57 < r)) := by rw [hr, hbt]; exact hd
          obtain ⟨d, hdd⟩ : ∃ d : Nat, d = r - 48 := ⟨_, rfl⟩
          have hd10 : d < 10 := by have := HR.out; omega
          have HS : Hid ((min (n * 10 + d) 10000 : Nat) = min (bvl s (t + 1)) 10000 ∧ ∀ j, j < t + 1 → 48 ≤ bts s j ∧ bts s j ≤ 57) := by
            refine ⟨?_, fun j hj => ?_⟩
            · have h1 := HG.out.1
              rw [bvl_next hlt, ← hbt, ← hr, ← hdd]
              omega
            · by_cases e : j = t
              · rw [e]; omega
              · exact HG.out.2 j (by omega)
          have hr1 : r ≤ 2147483647 := by have := HR.out; omega
          clear hbt hd hr
          go_wp2_with (go_at_call 29; refine (digitOf_any r _ hr1).mono ?_; rintro e w' ⟨rfl, rfl⟩; rw [if_neg HR.out, decide_eq_true HR.out, ← hdd])
          go_roundw
          case rel => exact ⟨t + 1, min (n * 10 + d) 10000, by omega, by omega, by rw [← hdd]; first | exact min_sd n d | exact min_sd2 n d, rfl, HS.out⟩
          case measure => simp; omega
      · have hnx : ∀ ty, (Instr.next (.pointer (some ⟨w.heap.size, 0, none⟩)) true ty).run Tryd.prog (w.iter s t) = .ok (.tuple #[.bool false]) (w.iter s t) := fun ty => run_next_end w s t ty hlt
        have hte : t = s.size := by omega
        have hn2 := HG.out.1
        rw [hte] at hn2
        have HE : Hid (rnb s = if 9999 < bvl s s.size then (4, 0) else (0, bvl s s.size)) := rnb_good HN.out HB.out (by rw [← hte]; exact HG.out.2)
        by_cases hb : 9999 < bvl s s.size
        · have i5 : (9999 : Int) < (n : Int) := by omega
          have HF : Hid (rnb s = (4, 0)) := by rw [HE.out, if_pos hb]; rfl
          clear hn2 hb hte
          go_wp2
          go_ret2
          rw [HF.out]
          exact ⟨rfl, below_iter _ _ _⟩
        · have i5 : ¬ (9999 : Int) < (n : Int) := by omega
          have HF : Hid (rnb s = (0, n)) := by rw [HE.out, if_neg hb]; show _ = _; rw [show bvl s s.size = n by omega]
          clear hn2 hb hte
          go_wp2
          go_ret2
          refine ⟨?_, below_iter _ _ _⟩
          show _ = Ending.returned (.tuple #[.int .i64 ((rnb s).2 : Nat), .int .i64 (rnb s).1])
          rw [HF.out]
          rfl
  · have i1 : ¬ (1 : Int) < (s.size : Int) := by omega
    clear h1 hb0 h0 hl1
    go_enter Tryd.func18, Tryd.ntmps18
    go_wp2
    go_loopw [4] (fun vn wy => ∃ (t n : Nat), t ≤ s.size ∧ n ≤ 10000 ∧ vn = .int .i64 (n : Nat) ∧ wy = w.iter s t ∧ Hid (n = min (bvl s t) 10000 ∧ ∀ j, j < t → 48 ≤ bts s j ∧ bts s j ≤ 57)) (fun _ wy => s.size - wy.iterPos w.heap.size)
    case atStart => exact ⟨0, 0, by omega, by omega, rfl, rfl, rfl, fun j hj => absurd hj (by omega)⟩
    case round =>
      obtain ⟨t, n, ht, hn, rfl, rfl, HG⟩ := hrel
      by_cases hlt : t < s.size
      · have hbt := bts_at s t hlt
        by_cases hd : bts s t < 48 ∨ 57 < bts s t
        · have HE : Hid (rnb s = (11, 0)) := rnb_bad hlt hd
          obtain ⟨r, p, hr1, hr2, hnx⟩ : ∃ r p : Nat, r ≤ 2147483647 ∧ (r < 48 ∨ 57 < r) ∧ ∀ ty, (Instr.next (.pointer (some ⟨w.heap.size, 0, none⟩)) true ty).run Tryd.prog (w.iter s t) = .ok (.tuple #[.bool true, .int .i64 (t : Nat), .int .i32 (r : Nat)]) (w.iter s p) := by
            refine ⟨(Utf8.decode s t).1, t + (Utf8.decode s t).2, decode_le s t, ?_, fun ty => run_next_any w s t ty hlt⟩
            by_cases ha : (s[t]'hlt).toNat < 128
            · rw [decode_ascii s t hlt ha]
              show (s[t]'hlt).toNat < 48 ∨ 57 < (s[t]'hlt).toNat
              omega
            · have := (decode_high s t hlt (by omega)).1
              omega
          have HR : Hid (r < 48 ∨ 57 < r) := hr2
          clear hr2 hbt hd
          go_wp2_with (go_at_call 29; refine (digitOf_any r _ hr1).mono ?_; rintro e w' ⟨rfl, rfl⟩; rw [if_pos HR.out, decide_eq_false (fun h => h HR.out)])
          go_ret2
          rw [HE.out]
          exact ⟨rfl, below_iter _ _ _⟩
        · have hnx : ∀ ty, (Instr.next (.pointer (some ⟨w.heap.size, 0, none⟩)) true ty).run Tryd.prog (w.iter s t) = .ok (.tuple #[.bool true, .int .i64 (t : Nat), .int .i32 ((s[t]'hlt).toNat : Nat)]) (w.iter s (t + 1)) := fun ty => run_next_ascii w s t ty hlt (by omega)
          obtain ⟨r, hr⟩ : ∃ r : Nat, r = (s[t]'hlt).toNat := ⟨_, rfl⟩
          rw [← hr] at hnx
          have HR : Hid (¬ (r < 48 ∨ 57 < r)) := by rw [hr, hbt]; exact hd
          obtain ⟨d, hdd⟩ : ∃ d : Nat, d = r - 48 := ⟨_, rfl⟩
          have hd10 : d < 10 := by have := HR.out; omega
          have HS : Hid ((min (n * 10 + d) 10000 : Nat) = min (bvl s (t + 1)) 10000 ∧ ∀ j, j < t + 1 → 48 ≤ bts s j ∧ bts s j ≤ 57) := by
            refine ⟨?_, fun j hj => ?_⟩
            · have h1 := HG.out.1
              rw [bvl_next hlt, ← hbt, ← hr, ← hdd]
              omega
            · by_cases e : j = t
              · rw [e]; omega
              · exact HG.out.2 j (by omega)
          have hr1 : r ≤ 2147483647 := by have := HR.out; omega
          clear hbt hd hr
          go_wp2_with (go_at_call 29; refine (digitOf_any r _ hr1).mono ?_; rintro e w' ⟨rfl, rfl⟩; rw [if_neg HR.out, decide_eq_true HR.out, ← hdd])
          go_roundw
          case rel => exact ⟨t + 1, min (n * 10 + d) 10000, by omega, by omega, by rw [← hdd]; first | exact min_sd n d | exact min_sd2 n d, rfl, HS.out⟩
          case measure => simp; omega
      · have hnx : ∀ ty, (Instr.next (.pointer (some ⟨w.heap.size, 0, none⟩)) true ty).run Tryd.prog (w.iter s t) = .ok (.tuple #[.bool false]) (w.iter s t) := fun ty => run_next_end w s t ty hlt
        have hte : t = s.size := by omega
        have hn2 := HG.out.1
        rw [hte] at hn2
        have HE : Hid (rnb s = if 9999 < bvl s s.size then (4, 0) else (0, bvl s s.size)) := rnb_good HN.out HB.out (by rw [← hte]; exact HG.out.2)
        by_cases hb : 9999 < bvl s s.size
        · have i5 : (9999 : Int) < (n : Int) := by omega
          have HF : Hid (rnb s = (4, 0)) := by rw [HE.out, if_pos hb]; rfl
          clear hn2 hb hte
          go_wp2
          go_ret2
          rw [HF.out]
          exact ⟨rfl, below_iter _ _ _⟩
        · have i5 : ¬ (9999 : Int) < (n : Int) := by omega
          have HF : Hid (rnb s = (0, n)) := by rw [HE.out, if_neg hb]; show _ = _; rw [show bvl s s.size = n by omega]
          clear hn2 hb hte
          go_wp2
          go_ret2
          refine ⟨?_, below_iter _ _ _⟩
          show _ = Ending.returned (.tuple #[.int .i64 ((rnb s).2 : Nat), .int .i64 (rnb s).1])
          rw [HF.out]
          rfl
end Go.Proofs.YtaliaikahohemaaDoor

/- How the library cuts texts (strings.Split, strings.TrimSuffix): what the shelf asks of the program. -/
namespace Go.Proofs.YtaliaikahohemaaDoor
open Go.Shelf
def lay102_ren : Go.Shelf.Ren := ⟨fun | 102 => 8 | 209 => 17 | 207 => 28 | n => n, fun | 9 => 9 | 4 => 4 | 3 => 3 | n => n, fun | n => n⟩
theorem lay102 : Go.Proofs.Lays.n102 Tryd.prog lay102_ren := {
  mixed := by kernel_rfl
  f102 := Tryd.func8.trans (congrArg some (by kernel_rfl))
  f207 := Tryd.func28.trans (congrArg some (by kernel_rfl))
  f209 := Tryd.func17.trans (congrArg some (by kernel_rfl))
  t3 := Tryd.underlying3
  a3 := Tryd.isAgg3
  z3 := Tryd.sizeOf3
  v3 := Tryd.zeroValue3
  t4 := Tryd.underlying4
  a4 := Tryd.isAgg4
  z4 := Tryd.sizeOf4
  v4 := Tryd.zeroValue4
  t9 := Tryd.underlying9
  a9 := Tryd.isAgg9
  z9 := Tryd.sizeOf9
  v9 := Tryd.zeroValue9 }

def lay146_ren : Go.Shelf.Ren := ⟨fun | 146 => 7 | 221 => 16 | 268 => 25 | 138 => 26 | 143 => 27 | 195 => 42 | 197 => 43 | 218 => 44 | 219 => 45 | 260 => 54 | 217 => 55 | 225 => 56 | 224 => 57 | 267 => 58 | 266 => 70 | 314 => 71 | n => n, fun | 9 => 9 | 31 => 30 | 3 => 3 | 4 => 4 | 0 => 0 | 105 => 75 | 21 => 21 | 5 => 5 | 46 => 89 | 119 => 98 | 139 => 101 | 138 => 100 | 146 => 103 | 51 => 102 | n => n, fun | 1 => 0 | 3 => 1 | 4 => 2 | n => n⟩
theorem lay146 : Go.Proofs.Lays.n146 Tryd.prog lay146_ren := {
  mixed := by kernel_rfl
  f138 := Tryd.func26.trans (congrArg some (by kernel_rfl))
  f143 := Tryd.func27.trans (congrArg some (by kernel_rfl))
  f146 := Tryd.func7.trans (congrArg some (by kernel_rfl))
  f195 := Tryd.func42.trans (congrArg some (by kernel_rfl))
  f197 := Tryd.func43.trans (congrArg some (by kernel_rfl))
  f217 := Tryd.func55.trans (congrArg some (by kernel_rfl))
  f218 := Tryd.func44.trans (congrArg some (by kernel_rfl))
  f219 := Tryd.func45.trans (congrArg some (by kernel_rfl))
  f221 := Tryd.func16.trans (congrArg some (by kernel_rfl))
  f224 := Tryd.func57.trans (congrArg some (by kernel_rfl))
  f225 := Tryd.func56.trans (congrArg some (by kernel_rfl))
  f260 := Tryd.func54.trans (congrArg some (by kernel_rfl))
  f266 := Tryd.func70.trans (congrArg some (by kernel_rfl))
  f267 := Tryd.func58.trans (congrArg some (by kernel_rfl))
  f268 := Tryd.func25.trans (congrArg some (by kernel_rfl))
  f314 := Tryd.func71.trans (congrArg some (by kernel_rfl))
  t0 := Tryd.underlying0
  a0 := Tryd.isAgg0
  z0 := Tryd.sizeOf0
  v0 := Tryd.zeroValue0
  t3 := Tryd.underlying3
  a3 := Tryd.isAgg3
  z3 := Tryd.sizeOf3
  v3 := Tryd.zeroValue3
  t4 := Tryd.underlying4
  a4 := Tryd.isAgg4
  z4 := Tryd.sizeOf4
  v4 := Tryd.zeroValue4
  t5 := Tryd.underlying5
  a5 := Tryd.isAgg5
  z5 := Tryd.sizeOf5
  v5 := Tryd.zeroValue5
  t9 := Tryd.underlying9
  a9 := Tryd.isAgg9
  z9 := Tryd.sizeOf9
  v9 := Tryd.zeroValue9
  t21 := Tryd.underlying21
  a21 := Tryd.isAgg21
  z21 := Tryd.sizeOf21
  v21 := Tryd.zeroValue21
  t31 := Tryd.underlying30
  a31 := Tryd.isAgg30
  z31 := Tryd.sizeOf30
  v31 := Tryd.zeroValue30
  t46 := Tryd.underlying89
  a46 := Tryd.isAgg89
  z46 := Tryd.sizeOf89
  v46 := Tryd.zeroValue89
  t51 := Tryd.underlying102
  a51 := Tryd.isAgg102
  z51 := Tryd.sizeOf102
  v51 := Tryd.zeroValue102
  t105 := Tryd.underlying75
  a105 := Tryd.isAgg75
  z105 := Tryd.sizeOf75
  v105 := Tryd.zeroValue75
  t119 := Tryd.underlying98
  a119 := Tryd.isAgg98
  z119 := Tryd.sizeOf98
  t138 := Tryd.underlying100
  a138 := Tryd.isAgg100
  z138 := Tryd.sizeOf100
  v138 := Tryd.zeroValue100
  t139 := Tryd.underlying101
  a139 := Tryd.isAgg101
  z139 := Tryd.sizeOf101
  v139 := Tryd.zeroValue101
  t146 := Tryd.underlying103
  a146 := Tryd.isAgg103
  z146 := Tryd.sizeOf103
  v146 := Tryd.zeroValue103
  g1 := by kernel_rfl
  g3 := by kernel_rfl
  g4 := by kernel_rfl }

/-- The block of the package variable internal/bytealg.MaxLen. -/
def mxl : Nat := lay146_ren.g 1
theorem trimS (s p : ByteArray) (w : World) (hs : s.size ≤ 9223372036854775807) :
    Calls Tryd.prog 8 #[.string s, .string p] w fun e w' => e = .returned (.string ⟨(Lib.trimSuffix s.data.toList p.data.toList).toArray⟩) ∧ w' = w := Any.strings_TrimSuffix lay102 s p w hs
theorem splitS (s sep : ByteArray) (m : Int) (w : World) (hs : s.size < 4294967281) (hm : w.cell? ⟨mxl, 0, none⟩ = some (.int .i64 m)) (h1 : 1 ≤ sep.size) :
    Calls Tryd.prog 7 #[.string s, .string sep] w fun e w' =>
      e = .returned (.slice (some ⟨w.heap.size, 0, none⟩) (Lib.countB s sep + 1) (Lib.countB s sep + 1)) ∧ w' = w.alloc (.cells ((Lib.splitB sep 0 (Lib.countB s sep) s).map Value.string).toArray 9) := Any.strings_Split lay146 (by kernel_rfl) s sep m w hs hm h1
end Go.Proofs.YtaliaikahohemaaDoor
