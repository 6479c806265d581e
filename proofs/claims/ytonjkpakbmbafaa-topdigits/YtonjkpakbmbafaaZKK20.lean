/- Signs that check: Sign and Right, whole. -/
import Derived.Test.YtonjkpakbmbafaaZKK9
import Derived.Test.YtonjkpakbmbafaaZKK10
import Derived.Test.YtonjkpakbmbafaaZKK11
import Derived.Test.YtonjkpakbmbafaaZKK12
namespace Go.Proofs.Ytonjkpakbmbafaa
open Go.RowKit Go.Maps

/-- The sign of a text, empty with an error. -/
def sgQ (k : Int) (s : ByteArray) : ByteArray := if k < 1 ∨ 5 < k then ⟨#[]⟩ else sgR k.toNat s

set_option maxHeartbeats 8000000 in
set_option maxRecDepth 100000 in
theorem signBy_no {k : Int} (hk : k < 1 ∨ 5 < k) (hkw : (Lit.int .i64 k).wf = true) {cs : Array Value} (s : ByteArray) (w : World) :
    Calls Try.prog 57 #[.agg cs, .int .i64 k, .string s] w fun e w' => e = .returned (.tuple #[.string ⟨#[]⟩, .int .i64 13]) ∧ Below w.heap.size w w' := by
  obtain ⟨w1, hw1⟩ : ∃ w1, w1 = w.alloc (.cells cs 95) := ⟨_, rfl⟩
  have hb1 : Below w.heap.size w w1 := by rw [hw1]; exact (Below.refl _ _).alloc (Nat.le_refl _) _
  have HF : Hid ((k < 1 ∨ 5 < k) ∧ (Lit.int .i64 k).wf = true ∧ Below w.heap.size w w1) := ⟨hk, hkw, hb1⟩
  clear hk hkw hb1
  go_enter Try.func57, Try.ntmps57
  go_wp2_with fail
  rw [← hw1]
  clear hw1
  refine (rules_any w1).mono ?_
  rintro e w2 ⟨rfl, hown, hb2⟩
  have hlk := look_no hown HF.out.2.1 HF.out.1
  replace hlk : (Instr.lookup 101 (.map (some w1.heap.size)) (.int .i64 k) true).run Try.prog w2 = .ok (.tuple #[.agg #[.int .i64 0, .int .i64 0, .nilFunc], .bool false]) w2 := hlk
  have HB : Hid (Below w.heap.size w w2) := HF.out.2.2.trans ⟨hb2.os, hb2.tape, hb2.output, hb2.size, fun k hk => hb2.block k (by have := HF.out.2.2.size; omega)⟩
  clear hown hb2
  go_wp2
  go_ret2
  exact ⟨rfl, HB.out.alloc HB.out.size _⟩

theorem signBy_any (k : Int) (hkw : (Lit.int .i64 k).wf = true) {cs : Array Value} (hT : TabD cs) (s : ByteArray) (w : World) (hs : s.size ≤ 1000000) :
    Calls Try.prog 57 #[.agg cs, .int .i64 k, .string s] w fun e w' => e = .returned (.tuple #[.string (sgQ k s), .int .i64 (sgM k s)]) ∧ Below w.heap.size w w' := by
  unfold sgM sgQ
  by_cases h : k < 1 ∨ 5 < k
  · rw [if_pos h, if_pos h]; exact signBy_no h hkw s w
  · rw [if_neg h, if_neg h]
    have h5 : k = 1 ∨ k = 2 ∨ k = 3 ∨ k = 4 ∨ k = 5 := by omega
    rcases h5 with rfl | rfl | rfl | rfl | rfl
    · exact signBy_1 hT s w hs
    · exact signBy_2 hT s w hs
    · exact signBy_3 hT s w hs
    · exact signBy_4 hT s w hs
    · exact signBy_5 hT s w hs

set_option maxHeartbeats 8000000 in
set_option maxRecDepth 100000 in
theorem sign_any (k : Int) (hkw : (Lit.int .i64 k).wf = true) (s : ByteArray) (w : World) (hs : s.size ≤ 1000000) :
    Calls Try.prog 27 #[.int .i64 k, .string s] w fun e w' => e = .returned (.tuple #[.string (sgQ k s), .int .i64 (sgM k s)]) ∧ Below w.heap.size w w' := by
  obtain ⟨Q, hQ⟩ : ∃ Q, Q = sgQ k s := ⟨_, rfl⟩
  obtain ⟨M, hM⟩ : ∃ M, M = sgM k s := ⟨_, rfl⟩
  have HF : Hid (∀ (cs : Array Value) (w : World), TabD cs → Calls Try.prog 57 #[.agg cs, .int .i64 k, .string s] w fun e w' => e = .returned (.tuple #[.string Q, .int .i64 M]) ∧ Below w.heap.size w w') := fun cs w hT => by rw [hQ, hM]; exact signBy_any k hkw hT s w hs
  rw [← hQ, ← hM]
  clear hQ hM hkw
  go_enter Try.func27, Try.ntmps27
  go_wp2_with fail
  refine (lay_any w).mono ?_
  rintro e w1 ⟨cs, rfl, hT, hb1⟩
  have HC := HF.out cs w1 hT
  replace HC : Hid (Calls Try.prog 57 #[.agg cs, .int .i64 k, .string s] w1 fun e w' => e = .returned (.tuple #[.string Q, .int .i64 M]) ∧ Below w1.heap.size w1 w') := HC
  have HB : Hid (Below w.heap.size w w1) := hb1
  clear hT hb1
  go_wp2_with fail
  refine HC.out.mono ?_
  rintro e w2 ⟨rfl, hb2⟩
  have HB2 : Hid (Below w.heap.size w w2) := HB.out.trans ⟨hb2.os, hb2.tape, hb2.output, hb2.size, fun k hk => hb2.block k (by have := HB.out.size; omega)⟩
  clear hb2
  go_wp2
  go_ret2
  exact ⟨rfl, HB2.out⟩

/-- A text without its last sign; its last sign. -/
def tlF (s : ByteArray) : ByteArray := s.extract 0 (s.size - 1)
def tlL (s : ByteArray) : ByteArray := s.extract (s.size - 1) s.size
/-- What Right says. -/
def rgE (k : Int) (s : ByteArray) : Int := if k < 1 ∨ 5 < k then 13 else if s.size < 2 then 6 else sgM k (tlF s)
def rgB (k : Int) (s : ByteArray) : Bool := if rgE k s = 0 then (tlL s).toList == (sgQ k (tlF s)).toList else false

set_option maxHeartbeats 8000000 in
set_option maxRecDepth 100000 in
theorem right_any (k : Int) (hkw : (Lit.int .i64 k).wf = true) (s : ByteArray) (w : World) (hs : s.size ≤ 1000000) :
    Calls Try.prog 28 #[.int .i64 k, .string s] w fun e w' => e = .returned (.tuple #[.bool (rgB k s), .int .i64 (rgE k s)]) ∧ Below w.heap.size w w' := by
  obtain ⟨B, hB⟩ : ∃ B, B = rgB k s := ⟨_, rfl⟩
  obtain ⟨E, hE⟩ : ∃ E, E = rgE k s := ⟨_, rfl⟩
  rw [← hB, ← hE]
  unfold rgB at hB
  unfold rgE at hB hE
  go_enter Try.func28, Try.ntmps28
  go_wp2_with fail
  refine (rules_any w).mono ?_
  rintro e w2 ⟨rfl, hown, hb2⟩
  by_cases hk : k < 1 ∨ 5 < k
  · rw [if_pos hk] at hB hE
    have hlk := look_no hown hkw hk
    replace hlk : (Instr.lookup 101 (.map (some w.heap.size)) (.int .i64 k) true).run Try.prog w2 = .ok (.tuple #[.agg #[.int .i64 0, .int .i64 0, .nilFunc], .bool false]) w2 := hlk
    have HV : Hid (E = 13 ∧ B = false ∧ Below w.heap.size w w2) := ⟨hE, by rw [hB, if_neg (by decide)], hb2⟩
    clear hB hE hown hb2 hk
    go_wp2
    go_ret2
    exact ⟨by rw [HV.out.1, HV.out.2.1]; rfl, HV.out.2.2.alloc HV.out.2.2.size _⟩
  · rw [if_neg hk] at hB hE
    obtain ⟨kn, hkn⟩ : ∃ kn : Nat, k = (kn : Int) := ⟨k.toNat, by omega⟩
    have hlk := look_rul hown (k := kn) (by omega) (by omega)
    obtain ⟨lo, hi, fn, hrul⟩ : ∃ lo hi fn, rulK kn = .agg #[.int .i64 lo, .int .i64 hi, .func (Fn.func fn) #[] #[]] := by
      unfold rulK
      split
      · exact ⟨_, _, _, rfl⟩
      split
      · exact ⟨_, _, _, rfl⟩
      split
      · exact ⟨_, _, _, rfl⟩
      split
      · exact ⟨_, _, _, rfl⟩
      · exact ⟨_, _, _, rfl⟩
    rw [hrul, ← hkn] at hlk
    have HB0 : Hid (Below w.heap.size w w2) := hb2
    clear hrul hkn hown hb2 hk
    by_cases h2 : s.size < 2
    · have i2 : (s.size : Int) < 2 := by omega
      rw [if_pos h2] at hB hE
      have HV : Hid (E = 6 ∧ B = false) := ⟨hE, by rw [hB, if_neg (by decide)]⟩
      clear hB hE h2
      go_wp2
      go_ret2
      exact ⟨by rw [HV.out.1, HV.out.2]; rfl, HB0.out.alloc HB0.out.size _⟩
    · have i2 : ¬ (s.size : Int) < 2 := by omega
      rw [if_neg h2] at hB hE
      obtain ⟨n1, hn1⟩ : ∃ n1, n1 = s.size - 1 := ⟨_, rfl⟩
      have wn1 : IntKind.i64.wrap ((s.size : Int) - 1) = (n1 : Int) := wrpT (by omega) (by omega)
      obtain ⟨Q, hQ⟩ : ∃ Q, Q = sgQ k (tlF s) := ⟨_, rfl⟩
      obtain ⟨M, hM⟩ : ∃ M, M = sgM k (tlF s) := ⟨_, rfl⟩
      have HC : Hid (∀ w, Calls Try.prog 27 #[.int .i64 k, .string (s.extract 0 n1)] w fun e w' => e = .returned (.tuple #[.string Q, .int .i64 M]) ∧ Below w.heap.size w w') := fun w => by
        rw [hQ, hM, hn1]; exact sign_any k hkw _ w (by rw [ByteArray.size_extract]; omega)
      have HV : Hid (E = M ∧ B = if M = 0 then (s.extract n1 s.size).toList == Q.toList else false) := ⟨by rw [hE, hM], by rw [hB, hM, hQ, hn1]; rfl⟩
      have hn1b : (n1 : Int) ≤ (s.size : Int) := by omega
      have hn1c : n1 ≤ s.size := by omega
      clear hB hE hQ hM hn1 h2
      go_wp2_with fail
      obtain ⟨w3, hw3⟩ : ∃ w3, w3 = w2.alloc (.cells #[.int .i64 lo, .int .i64 hi, .func (Fn.func fn) #[] #[]] 99) := ⟨_, rfl⟩
      rw [← hw3]
      have HB3 : Hid (Below w.heap.size w w3) := by rw [hw3]; exact HB0.out.alloc HB0.out.size _
      clear hw3 hlk
      refine (HC.out w3).mono ?_
      rintro e w4 ⟨rfl, hb4⟩
      have HB4 : Hid (Below w.heap.size w w4) := HB3.out.trans ⟨hb4.os, hb4.tape, hb4.output, hb4.size, fun k hk => hb4.block k (by have := HB3.out.size; omega)⟩
      clear hb4
      by_cases hM0 : M = 0
      · have HR : Hid (E = 0 ∧ B = ((s.extract n1 s.size).toList == Q.toList)) := by
          have h := HV.out
          rw [if_pos hM0] at h
          exact ⟨by rw [h.1, hM0], h.2⟩
        subst hM0
        go_wp2
        go_ret2
        exact ⟨by rw [HR.out.1, HR.out.2]; rfl, HB4.out⟩
      · have hM1 : (M != 0) = true := by rw [bne_iff_ne]; exact hM0
        have HR : Hid (E = M ∧ B = false) := by
          have h := HV.out
          rw [if_neg hM0] at h
          exact h
        go_wp2
        go_ret2
        exact ⟨by rw [HR.out.1, HR.out.2]; rfl, HB4.out⟩
end Go.Proofs.Ytonjkpakbmbafaa
