/- Signs that check: texts and their bytes; Dec of one digit; Right of a word. -/
import Derived.Test.YtonjkpakbmbafaaZS46
import Derived.Test.YtonjkpakbmbafaaZKK20
import Derived.Test.YtonjkpakbmbafaaZKK21
namespace Go.Proofs.Ytonjkpakbmbafaa
open Go.RowKit Go.Maps

theorem byt_ext {a b : ByteArray} (h : a.size = b.size) (he : ∀ i, i < a.size → byt a i = byt b i) : a = b := by
  apply ByteArray.ext
  apply Array.ext
  · exact h
  · intro i h1 h2
    have := he i h1
    rw [← byt_at a i h1, ← byt_at b i h2] at this
    exact UInt8.toNat_inj.1 this
theorem byt_app (a b : ByteArray) (i : Nat) (h : i < a.size + b.size) : byt (a ++ b) i = if i < a.size then byt a i else byt b (i - a.size) := by
  have hs : i < (a ++ b).size := by rw [ByteArray.size_append]; exact h
  rw [← byt_at (a ++ b) i hs]
  by_cases e : i < a.size
  · rw [if_pos e, ← byt_at a i e, ByteArray.getElem_append_left e]
  · rw [if_neg e, ← byt_at b (i - a.size) (by omega), ByteArray.getElem_append_right (by omega)]
theorem byt_sub (s : ByteArray) (a b i : Nat) (hb : b ≤ s.size) (h : a + i < b) : byt (s.extract a b) i = byt s (a + i) := by
  have hs : i < (s.extract a b).size := by rw [ByteArray.size_extract]; omega
  rw [← byt_at _ i hs, ← byt_at s (a + i) (by omega), ByteArray.getElem_extract]
theorem toL_inj {a b : ByteArray} (h : a.toList = b.toList) : a = b := by
  apply ByteArray.ext
  rw [ByteArray.toList_eq, ByteArray.toList_eq] at h
  exact Array.toList_inj.1 h
theorem toL_iff (a b : ByteArray) : (a.toList == b.toList) = decide (a = b) := by
  rw [Bool.eq_iff_iff, beq_iff_eq, decide_eq_true_iff]
  exact ⟨toL_inj, fun h => by rw [h]⟩
theorem conv_one (w : World) (n : Int) : (convert 107 9 (.slice (some ⟨w.heap.size, 0, none⟩) 1 1)).run Try.prog (w.alloc (.cells #[.int .u8 n] 5)) = .ok (.string (ByteArray.empty.push (UInt8.ofNat n.toNat))) (w.alloc (.cells #[.int .u8 n] 5)) := by
  rw [run_convert_bytes_string _ _ _ 5 _ _ _ (by kernel_rfl) (by kernel_rfl) (by kernel_rfl)]
  refine run_bytesToString _ _ _ _ [n] ?_
  refine run_loadCells_list _ _ [.int .u8 n] fun j v hv => ?_
  have hj : j = 0 := by
    cases j with
    | zero => rfl
    | succ j => simp at hv
  subst hj
  simp at hv
  subst hv
  show (w.alloc _).cell? ⟨w.heap.size, 0, none⟩ = _
  simp
set_option maxHeartbeats 4000000 in
set_option maxRecDepth 100000 in
theorem dec_any {x : Nat} (hx : x < 10) (w : World) :
    Calls Try.prog 33 #[.int .i64 (x : Nat)] w fun e w' => ∃ s, e = .returned (.string s) ∧ s.size = 1 ∧ byt s 0 = 48 + x ∧ Below w.heap.size w w' := by
  have i1 : ¬ (x : Int) < -9 := by omega
  have i2 : ¬ (x : Int) < 0 := by omega
  have i3 : (x : Int) < 10 := by omega
  obtain ⟨y, hy⟩ : ∃ y, y = 48 + x := ⟨_, rfl⟩
  have wy : IntKind.i64.wrap (48 + (x : Int)) = (y : Int) := wrpT (by omega) (by omega)
  have wu : IntKind.u8.wrap (y : Int) = (y : Int) := by
    have h : ∀ y : Nat, y < 58 → IntKind.u8.wrap (y : Int) = (y : Int) := by decide +kernel
    exact h y (by omega)
  have hcv := conv_one w (y : Int)
  obtain ⟨s, hs⟩ : ∃ s, s = ByteArray.empty.push (UInt8.ofNat ((y : Int)).toNat) := ⟨_, rfl⟩
  rw [← hs] at hcv
  have HS : Hid (s.size = 1 ∧ byt s 0 = 48 + x) := by
    rw [hs]
    refine ⟨rfl, ?_⟩
    show (UInt8.ofNat ((y : Int)).toNat).toNat = 48 + x
    rw [UInt8.toNat_ofNat', Int.toNat_natCast]
    omega
  have HB : Hid (Below w.heap.size w (w.alloc (.cells #[.int .u8 (y : Int)] 5))) := (Below.refl _ _).alloc (Nat.le_refl _) _
  clear hs hy
  go_enter Try.func33, Try.ntmps33
  go_wp2
  go_ret
  exact ⟨s, rfl, HS.out.1, HS.out.2, HB.out⟩
end Go.Proofs.Ytonjkpakbmbafaa
