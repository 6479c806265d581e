/- The reference: sums and opposites, as it reckons them. -/
import Derived.Test.YtjkncdmbcckcdaaZW2
import Derived.Test.YtjkncdmbcckcdaaZB2
import Derived.RegionTactic
import Derived.BigRegion
namespace Go.Proofs.Ytjkncdmbcckcdaa
open Go.RowKit

/-- The reference's field, as a value. -/
def rf (q p m gen : Nat) (v : Value) : Value := .agg #[.int .i64 q, .int .i64 p, .int .i64 m, .int .i64 gen, v]

def raddN (D : FD) (a b : Nat) : Nat := if D.m = 1 then (a + b) % D.p else if D.p = 2 then a ^^^ b else horner D.p (fun j => (dg D.p a j + dg D.p b j) % D.p) D.m D.m
def rnegN (D : FD) (a : Nat) : Nat := horner D.p (fun j => (D.p - dg D.p a j) % D.p) D.m D.m
def chkRAdd (D : FD) : Bool := allB D.q fun a => rnegN D a == negD D.p D.q a && allB D.q fun b => raddN D a b == sumD D.p D.q a b
theorem chkRAdd_all : fieldsL.all chkRAdd = true := by decide +kernel
theorem radd_is {D : FD} (h : D ∈ fieldsL) (a b : Nat) (ha : a < D.q) (hb : b < D.q) : raddN D a b = sumD D.p D.q a b := by
  have := allB_of (List.all_eq_true.1 chkRAdd_all D h) a ha
  rw [Bool.and_eq_true] at this
  exact beq_iff_eq.1 (allB_of this.2 b hb)
theorem rneg_is {D : FD} (h : D ∈ fieldsL) (a : Nat) (ha : a < D.q) : rnegN D a = negD D.p D.q a := by
  have := allB_of (List.all_eq_true.1 chkRAdd_all D h) a ha
  rw [Bool.and_eq_true] at this
  exact beq_iff_eq.1 this.1

theorem xor_small (a b : Nat) (ha : a < 64) (hb : b < 64) : bits .xor .i64 (a : Int) (b : Int) = ((a ^^^ b : Nat) : Int) := xor64_nat a b ha hb

/-- Old cells behind a call that only makes memory. -/
theorem bcell {B : Nat} {W w1 : World} (hb : Below B W w1) : (∀ b o, b < B → w1.cell? ⟨b, o, none⟩ = W.cell? ⟨b, o, none⟩) ∧ (∀ b o, b < B → w1.frozen? ⟨b, o, none⟩ = W.frozen? ⟨b, o, none⟩) :=
  ⟨fun b o h => hb.cell (p := ⟨b, o, none⟩) h, fun b o h => hb.frozen (p := ⟨b, o, none⟩) h⟩

theorem rhas_any (D : FD) (gen : Nat) (v : Value) (a : Int) (w : World) :
    Calls Try.prog 84 #[rf D.q D.p D.m gen v, .int .i64 a] w fun e w' => e = .returned (.bool (D.has a)) ∧ Below w.heap.size w w' := by
  unfold rf
  by_cases h0 : 0 ≤ a
  · have HV : Hid (D.has a = decide (a < D.q)) := by show D.has a = _; simp [FD.has, h0]
    go_enter Try.func84, Try.ntmps84
    go_wp2
    go_ret
    exact ⟨ret_bool (by rw [HV.out]), (Below.refl _ _).alloc (Nat.le_refl _) _⟩
  · have HV : Hid (D.has a = false) := by show D.has a = _; simp [FD.has, h0]
    go_enter Try.func84, Try.ntmps84
    go_wp2
    go_ret
    exact ⟨ret_bool (by rw [HV.out]), (Below.refl _ _).alloc (Nat.le_refl _) _⟩

set_option maxHeartbeats 2000000 in
theorem radd_no {D : FD} (gen : Nat) (v : Value) (a b : Int) (w : World) (h : D.has a = false ∨ D.has b = false) :
    Calls Try.prog 107 #[rf D.q D.p D.m gen v, .int .i64 a, .int .i64 b] w fun e w' => e = .returned (.int .i64 (-1)) ∧ Below w.heap.size w w' := by
  by_cases ha : D.has a = true
  · have hb : D.has b = false := by rcases h with h | h; · rw [ha] at h; cases h
                                    · exact h
    clear h
    unfold rf
    go_enter Try.func107, Try.ntmps107
    go_wp2_with fail
    refine (rhas_any D gen v a _).mono ?_
    rintro e w1 ⟨rfl, hb1⟩
    obtain ⟨hc1, hf1⟩ := bcell hb1
    have HB1 : Hid (Below w.heap.size w w1) := ((Below.refl _ _).alloc (Nat.le_refl _) _).trans (hb1.mono (by simp))
    clear hb1
    go_wp2_with fail
    refine (rhas_any D gen v b _).mono ?_
    rintro e w2 ⟨rfl, hb2⟩
    have HB2 : Hid (Below w.heap.size w w2) := HB1.out.trans (hb2.mono HB1.out.size)
    clear hb2 hc1 hf1
    go_wp2
    go_ret
    exact ⟨rfl, HB2.out⟩
  · have ha' : D.has a = false := by simpa using ha
    clear h ha
    unfold rf
    go_enter Try.func107, Try.ntmps107
    go_wp2_with fail
    refine (rhas_any D gen v a _).mono ?_
    rintro e w1 ⟨rfl, hb1⟩
    have HB1 : Hid (Below w.heap.size w w1) := ((Below.refl _ _).alloc (Nat.le_refl _) _).trans (hb1.mono (by simp))
    clear hb1
    go_wp2
    go_ret
    exact ⟨rfl, HB1.out⟩

set_option maxHeartbeats 2000000 in
theorem radd_one {D : FD} (hm : D.m = 1) (hp : 1 ≤ D.p) (hp2 : D.p ≤ 64) (gen : Nat) (v : Value) (a b : Nat) (w : World) (ha : a < 64) (hb : b < 64) (h1 : D.has a = true) (h2 : D.has b = true) :
    Calls Try.prog 107 #[rf D.q D.p D.m gen v, .int .i64 a, .int .i64 b] w fun e w' => e = .returned (.int .i64 ((a + b) % D.p : Nat)) ∧ Below w.heap.size w w' := by
  have hm' : ((D.m : Int) == 1) = true := by rw [hm]; rfl
  clear hm
  unfold rf
  go_enter Try.func107, Try.ntmps107
  go_wp2_with fail
  refine (rhas_any D gen v a _).mono ?_
  rintro e w1 ⟨rfl, hb1⟩
  obtain ⟨hc1, hf1⟩ := bcell hb1
  have hs1 : w.heap.size < w1.heap.size := by have := hb1.size; simp at this; omega
  have HB1 : Hid (Below w.heap.size w w1) := ((Below.refl _ _).alloc (Nat.le_refl _) _).trans (hb1.mono (by simp))
  clear hb1
  go_wp2_with fail
  refine (rhas_any D gen v b _).mono ?_
  rintro e w2 ⟨rfl, hb2⟩
  obtain ⟨hc2, hf2⟩ := bcell hb2
  have HB2 : Hid (Below w.heap.size w w2) := HB1.out.trans (hb2.mono HB1.out.size)
  clear hb2
  go_wp2
  go_ret
  exact ⟨ret_int (by go_num), HB2.out⟩

set_option maxHeartbeats 2000000 in
theorem radd_two {D : FD} (hm : D.m ≠ 1) (hp : D.p = 2) (gen : Nat) (v : Value) (a b : Nat) (w : World) (ha : a < 64) (hb : b < 64) (h1 : D.has a = true) (h2 : D.has b = true) :
    Calls Try.prog 107 #[rf D.q D.p D.m gen v, .int .i64 a, .int .i64 b] w fun e w' => e = .returned (.int .i64 (a ^^^ b : Nat)) ∧ Below w.heap.size w w' := by
  have hm' : ((D.m : Int) == 1) = false := by rw [beq_eq_false_iff_ne]; omega
  have hp' : ((D.p : Int) == 2) = true := by rw [hp]; rfl
  clear hm hp
  unfold rf
  go_enter Try.func107, Try.ntmps107
  go_wp2_with fail
  refine (rhas_any D gen v a _).mono ?_
  rintro e w1 ⟨rfl, hb1⟩
  obtain ⟨hc1, hf1⟩ := bcell hb1
  have hs1 : w.heap.size < w1.heap.size := by have := hb1.size; simp at this; omega
  have HB1 : Hid (Below w.heap.size w w1) := ((Below.refl _ _).alloc (Nat.le_refl _) _).trans (hb1.mono (by simp))
  clear hb1
  go_wp2_with fail
  refine (rhas_any D gen v b _).mono ?_
  rintro e w2 ⟨rfl, hb2⟩
  obtain ⟨hc2, hf2⟩ := bcell hb2
  have HB2 : Hid (Below w.heap.size w w2) := HB1.out.trans (hb2.mono HB1.out.size)
  clear hb2
  go_wp2
  go_ret
  exact ⟨ret_int (xor_small a b ha hb), HB2.out⟩
end Go.Proofs.Ytjkncdmbcckcdaa
