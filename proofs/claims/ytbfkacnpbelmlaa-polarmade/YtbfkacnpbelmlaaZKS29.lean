/- Polar: the law's polarReads. -/
import Derived.Test.YtbfkacnpbelmlaaZKS27
import Derived.Test.YtbfkacnpbelmlaaZR15
import Derived.Test.YtbfkacnpbelmlaaZKS12
namespace Go.Proofs.Ytbfkacnpbelmlaa
open Go.RowKit Go.Sort

/-- The i-th of the best places. -/
def bpl (m k i : Nat) : Nat := (bsl m k).getD i 0
theorem zl_nats (L : List Nat) (a : Nat → Int) : zl L.length (fun i => a (L.getD i 0)) = L.map a := by
  have h := list_zl (L.map a)
  rw [List.length_map] at h
  rw [h]
  refine zl_congr (fun i hi => ?_)
  rw [List.getD_eq_getElem?_getD, List.getD_eq_getElem?_getD, List.getElem?_map, List.getElem?_eq_getElem hi]
  rfl
theorem bsl_len {m k : Nat} (hm : m ≤ 5) (hk : k ≤ 2 ^ m) : (bsl m k).length = k := by
  unfold bsl
  rw [(flt_perm hm hk).length_eq, srt_len]
theorem flt_bpl {m k : Nat} (hm : m ≤ 5) (hk : k ≤ 2 ^ m) : flt (srt m k) (2 ^ m) = zl k (fun i => ((bpl m k i : Nat) : Int)) := by
  have h := zl_nats (bsl m k) (fun j => ((j : Nat) : Int))
  rw [bsl_len hm hk] at h
  exact h.symm
theorem bpl_lt {m k : Nat} (hm : m ≤ 5) (hk : k ≤ 2 ^ m) (i : Nat) (hi : i < k) : bpl m k i < 2 ^ m := by
  have hl := bsl_len hm hk
  have : bpl m k i ∈ bsl m k := by
    unfold bpl
    rw [List.getD_eq_getElem?_getD, List.getElem?_eq_getElem (by omega)]
    exact List.getElem_mem _
  exact List.mem_range.1 (List.mem_filter.1 this).1
theorem bpl_msl {m k : Nat} (hm : m ≤ 5) (hk : k ≤ 2 ^ m) (a : Nat → Int) : zl k (fun i => a (bpl m k i)) = msl (fun j => decide ((j : Int) ∈ zl k fun i => ((bpl m k i : Nat) : Int))) a 0 (2 ^ m) := by
  have h := zl_nats (bsl m k) a
  rw [bsl_len hm hk] at h
  rw [msl_is]
  refine Eq.trans h ?_
  congr 1
  unfold bsl
  refine List.filter_congr (fun j hj => ?_)
  rw [← flt_bpl hm hk]
  unfold flt
  by_cases c : (srt m k).contains j = true
  · rw [c, decide_eq_true]
    exact List.mem_map.2 ⟨j, List.mem_filter.2 ⟨hj, c⟩, rfl⟩
  · rw [Bool.not_eq_true] at c
    rw [c, decide_eq_false]
    intro hh
    obtain ⟨i, hi, e⟩ := List.mem_map.1 hh
    have e : i = j := by omega
    subst e
    rw [(List.mem_filter.1 hi).2] at c
    cases c

set_option maxHeartbeats 4000000 in
set_option maxRecDepth 100000 in
theorem pReads_e1 {m k e : Int} (he : e ≠ 0) {ao fo : Option Addr} {n c fk fc : Nat} {w : World} (hD : Calls Try.prog 22 #[.int .i64 m, .int .i64 k, .slice ao n c] w fun x w' => x = .returned (.tuple #[.slice none 0 0, .bool false, .int .i64 e]) ∧ Below w.heap.size w w') :
    Calls Try.prog 17 #[.int .i64 m, .int .i64 k, .slice ao n c, .slice fo fk fc, .int .i64 e] w fun x w' => x = .returned (.bool true) ∧ Below w.heap.size w w' := by
  have HD : Hid (Calls Try.prog 22 #[.int .i64 m, .int .i64 k, .slice ao n c] w fun x w' => x = .returned (.tuple #[.slice none 0 0, .bool false, .int .i64 e]) ∧ Below w.heap.size w w') := hD
  have h1 : (e == 0) = false := beq_eq_false_iff_ne.2 he
  clear hD he
  go_enter Try.func17, Try.ntmps17
  go_wp2_with fail
  refine HD.out.mono ?_
  rintro x w1 ⟨rfl, hb1⟩
  have H1 : Hid (Below w.heap.size w w1 ∧ Calls Try.prog 23 #[.slice none 0 0, .slice none 0 0] w1 fun e w' => e = .returned (.bool true) ∧ ∃ n, w' = w1.drewN n) := ⟨hb1, by
    have := same_any (w := w1) (va := .slice none 0 0) (vb := .slice none 0 0) (la := []) (lb := []) (Or.inl ⟨rfl, none, 0, rfl⟩) (Or.inl ⟨rfl, none, 0, rfl⟩)
    rw [decide_eq_true rfl] at this
    exact this⟩
  clear hb1 HD
  go_wp2_with fail
  refine H1.out.2.mono ?_
  rintro x w2 ⟨rfl, nn, rfl⟩
  go_wp2
  go_ret
  exact ⟨rfl, bel_drewN H1.out.1 _⟩

set_option maxHeartbeats 4000000 in
set_option maxRecDepth 100000 in
theorem pReads_e2 {m N : Nat} {k : Int} (hm : m ≤ 5) (hN : N = 2 ^ m) {ao fo : Option Addr} {n c fk fc : Nat} {w : World} (hn : n ≠ N) (hD : Calls Try.prog 22 #[.int .i64 (m : Nat), .int .i64 k, .slice ao n c] w fun x w' => x = .returned (.tuple #[.slice none 0 0, .bool false, .int .i64 6]) ∧ Below w.heap.size w w') :
    Calls Try.prog 17 #[.int .i64 (m : Nat), .int .i64 k, .slice ao n c, .slice fo fk fc, .int .i64 0] w fun x w' => x = .returned (.bool true) ∧ Below w.heap.size w w' := by
  have HD : Hid (Calls Try.prog 22 #[.int .i64 (m : Nat), .int .i64 k, .slice ao n c] w fun x w' => x = .returned (.tuple #[.slice none 0 0, .bool false, .int .i64 6]) ∧ Below w.heap.size w w') := hD
  have hNb : N ≤ 32 := by rw [hN]; exact Nat.le_trans (Nat.pow_le_pow_right (by omega) hm) (by decide)
  have hNi : (2 : Int) ^ m = (N : Int) := by rw [hN]; simp
  have hNw : IntKind.i64.wrap (N : Int) = (N : Int) := wrap_to rfl (by omega)
  have h1 : ((n : Int) != (N : Int)) = true := bne_iff_ne.2 (by omega)
  clear hD hn hN
  go_enter Try.func17, Try.ntmps17
  go_wp2_with fail
  refine HD.out.mono ?_
  rintro x w1 ⟨rfl, hb1⟩
  have H1 : Hid (Below w.heap.size w w1 ∧ Calls Try.prog 23 #[.slice none 0 0, .slice none 0 0] w1 fun e w' => e = .returned (.bool true) ∧ ∃ n, w' = w1.drewN n) := ⟨hb1, by
    have := same_any (w := w1) (va := .slice none 0 0) (vb := .slice none 0 0) (la := []) (lb := []) (Or.inl ⟨rfl, none, 0, rfl⟩) (Or.inl ⟨rfl, none, 0, rfl⟩)
    rw [decide_eq_true rfl] at this
    exact this⟩
  clear hb1 HD
  go_wp2_with fail
  refine H1.out.2.mono ?_
  rintro x w2 ⟨rfl, nn, rfl⟩
  go_wp2
  go_ret
  exact ⟨rfl, bel_drewN H1.out.1 _⟩

set_option maxHeartbeats 4000000 in
set_option maxRecDepth 100000 in
theorem pReads_e3 {m N : Nat} {k : Int} (hm : m ≤ 5) (hN : N = 2 ^ m) {ao fo : Option Addr} {c fk fc : Nat} {w : World} (hB : Calls Try.prog 11 #[.slice ao N c, .bool true] w fun e w' => e = .returned (.bool false) ∧ w' = w) (hD : Calls Try.prog 22 #[.int .i64 (m : Nat), .int .i64 k, .slice ao N c] w fun x w' => x = .returned (.tuple #[.slice none 0 0, .bool false, .int .i64 2]) ∧ Below w.heap.size w w') :
    Calls Try.prog 17 #[.int .i64 (m : Nat), .int .i64 k, .slice ao N c, .slice fo fk fc, .int .i64 0] w fun x w' => x = .returned (.bool true) ∧ Below w.heap.size w w' := by
  have HD : Hid (Calls Try.prog 22 #[.int .i64 (m : Nat), .int .i64 k, .slice ao N c] w fun x w' => x = .returned (.tuple #[.slice none 0 0, .bool false, .int .i64 2]) ∧ Below w.heap.size w w') := hD
  have HB : Hid (Calls Try.prog 11 #[.slice ao N c, .bool true] w fun e w' => e = .returned (.bool false) ∧ w' = w) := hB
  have hNb : N ≤ 32 := by rw [hN]; exact Nat.le_trans (Nat.pow_le_pow_right (by omega) hm) (by decide)
  have hNi : (2 : Int) ^ m = (N : Int) := by rw [hN]; simp
  have hNw : IntKind.i64.wrap (N : Int) = (N : Int) := wrap_to rfl (by omega)
  clear hD hB hN
  go_enter Try.func17, Try.ntmps17
  go_wp2_with fail
  refine HB.out.mono ?_
  rintro x w' ⟨rfl, hw⟩
  have hw := hw.symm
  subst hw
  go_wp2_with fail
  refine HD.out.mono ?_
  rintro x w1 ⟨rfl, hb1⟩
  have H1 : Hid (Below w.heap.size w w1 ∧ Calls Try.prog 23 #[.slice none 0 0, .slice none 0 0] w1 fun e w' => e = .returned (.bool true) ∧ ∃ n, w' = w1.drewN n) := ⟨hb1, by
    have := same_any (w := w1) (va := .slice none 0 0) (vb := .slice none 0 0) (la := []) (lb := []) (Or.inl ⟨rfl, none, 0, rfl⟩) (Or.inl ⟨rfl, none, 0, rfl⟩)
    rw [decide_eq_true rfl] at this
    exact this⟩
  clear hb1 HD HB
  go_wp2_with fail
  refine H1.out.2.mono ?_
  rintro x w2 ⟨rfl, nn, rfl⟩
  go_wp2
  go_ret
  exact ⟨rfl, bel_drewN H1.out.1 _⟩
end Go.Proofs.Ytbfkacnpbelmlaa
