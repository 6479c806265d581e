/- Golay: how many sets have all places of one, of both sides. -/
import Derived.Test.YtafebmhbfmdjlaaZKR1
namespace Go.Proofs.Ytafebmhbfmdjlaa
open Go.RowKit

/-- Numbers of 64 bits in a row. -/
def SlU (ao : Option Addr) (N : Nat) (f : Nat → Nat) (w : World) : Prop := ∀ i, i < N → ∃ b off, ao = some ⟨b, off, none⟩ ∧ w.cell? ⟨b, off + i, none⟩ = some (.int .u64 (f i : Nat))
/-- How many have all places of a set. -/
def lic (f : Nat → Nat) (s : Nat) : Nat → Nat
  | 0 => 0
  | k + 1 => lic f s k + if f k &&& s = s then 1 else 0
theorem lic_le (f : Nat → Nat) (s : Nat) : ∀ k, lic f s k ≤ k
  | 0 => Nat.le_refl _
  | k + 1 => by
    have := lic_le f s k
    show lic f s k + _ ≤ _
    split <;> omega
theorem andnot_bv (x y : BitVec 64) : (x &&& ~~~y = 0#64) ↔ y &&& x = x := by
  constructor
  · intro h
    ext i hi
    have h2 := congrArg (fun v => v[i]) h
    simp only [BitVec.getElem_and, BitVec.getElem_not, BitVec.getElem_zero] at h2 ⊢
    revert h2
    cases x[i] <;> cases y[i] <;> simp
  · intro h
    ext i hi
    have h2 := congrArg (fun v => v[i]) h
    simp only [BitVec.getElem_and, BitVec.getElem_not, BitVec.getElem_zero] at h2 ⊢
    revert h2
    cases x[i] <;> cases y[i] <;> simp
theorem andnot_u64 {a b : Nat} (ha : a < 18446744073709551616) (hb : b < 18446744073709551616) : bits BinOp.andNot IntKind.u64 (a : Int) (b : Int) = 0 ↔ b &&& a = a := by
  have e : bits BinOp.andNot IntKind.u64 (a : Int) (b : Int) = ((BitVec.ofInt 64 (a : Int) &&& ~~~BitVec.ofInt 64 (b : Int)).toNat : Int) := by
    show IntKind.u64.wrap ((BitVec.ofInt 64 (a : Int) &&& ~~~BitVec.ofInt 64 (b : Int)).toNat : Int) = _
    exact wrap_u64 (BitVec.isLt _)
  have h1 := andnot_bv (BitVec.ofInt 64 (a : Int)) (BitVec.ofInt 64 (b : Int))
  have h2 : (b &&& a = a) ↔ BitVec.ofInt 64 (b : Int) &&& BitVec.ofInt 64 (a : Int) = BitVec.ofInt 64 (a : Int) := by
    rw [← BitVec.toNat_inj, BitVec.toNat_and, ofi64 ha, ofi64 hb]
  rw [h2, ← h1, e, ← BitVec.toNat_inj]
  constructor
  · intro h
    have : (BitVec.ofInt 64 (a : Int) &&& ~~~BitVec.ofInt 64 (b : Int)).toNat = 0 := by omega
    rw [this]; rfl
  · intro h
    rw [h]; rfl

set_option maxHeartbeats 4000000 in
set_option maxRecDepth 100000 in
theorem liesIn_any {ao : Option Addr} {N ca s : Nat} {f : Nat → Nat} {w : World} (hX : SlU ao N f w) (hN : N ≤ 6000) (hf : ∀ i, i < N → f i < 18446744073709551616) (hs : s < 18446744073709551616) :
    Calls Try.prog 12 #[.int .u64 (s : Nat), .slice ao N ca] w fun e w' => e = .returned (.int .i64 (lic f s N : Nat)) ∧ w' = w := by
  have HX : Hid (SlU ao N f w ∧ ∀ i, i < N → f i < 18446744073709551616) := ⟨hX, hf⟩
  clear hX hf
  go_enter Try.func12, Try.ntmps12
  go_wp2
  go_loopw [5, 10] (fun vs vi wr => ∃ i m : Nat, vs = .int .i64 (m : Nat) ∧ vi = .int .i64 (i : Nat) ∧ i ≤ N ∧ m ≤ i ∧ Hid (m = lic f s i ∧ wr = w)) (fun _ vi _ => N - (intOf vi).toNat)
  case atStart => exact ⟨0, 0, rfl, rfl, by omega, by omega, rfl, rfl⟩
  case round =>
    obtain ⟨i, m, rfl, rfl, hi, hm, HS⟩ := hrel
    have hw := HS.out.2.symm
    subst hw
    by_cases hlt : i < N
    · have hib : (i : Int) < (N : Int) := by omega
      obtain ⟨b, off, e1, hcell⟩ := HX.out.1 i hlt
      subst e1
      have hfi := HX.out.2 i hlt
      by_cases hc : f i &&& s = s
      · have hb : bits BinOp.andNot IntKind.u64 (s : Int) (f i : Int) = 0 := (andnot_u64 hs hfi).2 hc
        have hb2 : (bits BinOp.andNot IntKind.u64 (s : Int) (f i : Int) == 0) = true := by rw [hb]; rfl
        have HN : Hid (m + 1 = lic f s (i + 1)) := by show _ = lic f s i + _; rw [if_pos hc, HS.out.1]
        clear HS hc
        go_wp2
        go_roundw
        case rel => exact ⟨i + 1, m + 1, by go_num, by go_num, by omega, by omega, HN.out, by first | rfl | trivial⟩
        case measure => simp [intOf]; omega
      · have hb : ¬ bits BinOp.andNot IntKind.u64 (s : Int) (f i : Int) = 0 := fun h => hc ((andnot_u64 hs hfi).1 h)
        have hb2 : (bits BinOp.andNot IntKind.u64 (s : Int) (f i : Int) == 0) = false := beq_eq_false_iff_ne.2 hb
        have HN : Hid (m = lic f s (i + 1)) := by show _ = lic f s i + _; rw [if_neg hc, HS.out.1]; rfl
        clear HS hc
        go_wp2
        go_roundw
        case rel => exact ⟨i + 1, m, by go_num, by go_num, by omega, by omega, HN.out, by first | rfl | trivial⟩
        case measure => simp [intOf]; omega
    · have hib : ¬ (i : Int) < (N : Int) := by omega
      have hie : i = N := by omega
      subst hie
      go_wp2
      go_ret
      exact ⟨by rw [← HS.out.1]; rfl, rfl⟩
end Go.Proofs.Ytafebmhbfmdjlaa
