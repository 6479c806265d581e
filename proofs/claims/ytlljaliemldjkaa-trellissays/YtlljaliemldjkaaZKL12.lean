/- Texts of ours, one behind the other: KL12 S49 S50 S52 S53 KN1 KR1. -/
import Derived.Test.YtlljaliemldjkaaZKH9
import Derived.Test.YtlljaliemldjkaaZW11
import Derived.Test.YtlljaliemldjkaaZS5
import Derived.Test.YtlljaliemldjkaaZKA8
import Derived.Test.YtlljaliemldjkaaZR5
import Derived.Test.YtlljaliemldjkaaZU7
/- The reference's Nearest. -/
namespace Go.Proofs.Ytlljaliemldjkaa
open Go.RowKit Go.Sort

set_option maxHeartbeats 4000000 in
set_option maxRecDepth 100000 in
theorem rapartS_any {ao bo : Option Addr} {n ca cb : Nat} {a b : Nat → Int} {w : World} (hA : SlZ ao n a w) (hB : SlZ bo n b w) (hn : n ≤ 1000) :
    Calls Try.prog 31 #[.slice ao n ca, .slice bo n cb] w fun e w' => e = .returned (.int .i64 (ct (fun i => !decide (a i = b i)) n : Nat)) ∧ ∃ j, w' = w.drewN j := by
  have HF : Hid (SlZ ao n a w ∧ SlZ bo n b w) := ⟨hA, hB⟩
  clear hA hB
  go_enter Try.func31, Try.ntmps31
  go_wp2
  go_loopw [5, 6] (fun vm vi wr => ∃ (r m : Nat), r ≤ n ∧ m ≤ r ∧ vm = .int .i64 (m : Nat) ∧ vi = .int .i64 r ∧ Hid (m = ct (fun i => !decide (a i = b i)) r ∧ ∃ j, wr = w.drewN j)) (fun _ vi _ => n - (intOf vi).toNat)
  case atStart => exact ⟨0, 0, by omega, by omega, rfl, rfl, rfl, 0, rfl⟩
  case round =>
    obtain ⟨r, m, hr, hmr, rfl, rfl, HG⟩ := hrel
    rename World => wr
    by_cases hlt : r < n
    · have hib : (r : Int) < (n : Int) := by omega
      obtain ⟨ba, oa, hao, hca⟩ := HF.out.1 r hlt
      subst hao
      obtain ⟨bb, ob, hbo, hcb⟩ := HF.out.2 r hlt
      subst hbo
      obtain ⟨x, hx⟩ : ∃ x, x = a r := ⟨_, rfl⟩
      obtain ⟨y, hy⟩ : ∃ y, y = b r := ⟨_, rfl⟩
      rw [← hx] at hca
      rw [← hy] at hcb
      obtain ⟨j0, hj0⟩ := HG.out.2
      replace hca : wr.cell? ⟨ba, oa + r, none⟩ = some (.int .i64 x) := by rw [hj0]; exact hca
      replace hcb : wr.cell? ⟨bb, ob + r, none⟩ = some (.int .i64 y) := by rw [hj0]; exact hcb
      have HJ : Hid (∀ i, ∃ j, wr.drewN i = w.drewN j) := fun i => ⟨j0 + i, by rw [hj0, World.drewN_drewN]⟩
      clear hj0
      by_cases e : x = y
      · have hz : (x != y) = false := by rw [e]; simp
        have HV : Hid (m = ct (fun i => !decide (a i = b i)) (r + 1)) := by
          show m = ct (fun i => !decide (a i = b i)) r + if (!decide (a r = b r)) = true then 1 else 0
          rw [← HG.out.1, decide_eq_true (by rw [← hx, ← hy]; exact e)]; rfl
        clear e hx hy
        go_wp2
        go_quiet (fail)
        go_wp2
        go_roundw
        case rel => exact ⟨r + 1, m, by omega, by omega, rfl, by go_num, HV.out, HJ.out _⟩
        case measure => simp [intOf]; omega
      · have hz : (x != y) = true := by rw [bne_iff_ne]; exact e
        have HV : Hid (m + 1 = ct (fun i => !decide (a i = b i)) (r + 1)) := by
          show m + 1 = ct (fun i => !decide (a i = b i)) r + if (!decide (a r = b r)) = true then 1 else 0
          rw [← HG.out.1, decide_eq_false (by rw [← hx, ← hy]; exact e)]; rfl
        clear e hx hy
        go_wp2
        go_quiet (fail)
        go_wp2
        go_roundw
        case rel => exact ⟨r + 1, m + 1, by omega, by omega, by go_num, by go_num, HV.out, HJ.out _⟩
        case measure => simp [intOf]; omega
    · have hib : ¬ (r : Int) < (n : Int) := by omega
      have hre : n = r := by omega
      subst hre
      go_wp2
      go_ret
      exact ⟨by rw [HG.out.1]; rfl, HG.out.2⟩

end Go.Proofs.Ytlljaliemldjkaa

/- Plain mathematics: sums over a field's elements, and over all words. No Go text here. -/
namespace Go.Proofs.Ytlljaliemldjkaa
open Go.RowKit Go.Sort

end Go.Proofs.Ytlljaliemldjkaa

/- Plain mathematics: MacWilliams' identity, by sums over all words. No Go text here. -/
namespace Go.Proofs.Ytlljaliemldjkaa
open Go.RowKit Go.Sort

end Go.Proofs.Ytlljaliemldjkaa

/- Plain mathematics: the weights of a code, gone through by its messages, and MacWilliams' identity for them. No Go text here. -/
namespace Go.Proofs.Ytlljaliemldjkaa
open Go.RowKit Go.Sort

end Go.Proofs.Ytlljaliemldjkaa

/- A code's weights and those of its dual: what weights.Dual makes of them. -/
namespace Go.Proofs.Ytlljaliemldjkaa
open Go.RowKit Go.Sort

end Go.Proofs.Ytlljaliemldjkaa

/- TopMacWilliams: the walk of the statement, whatever raw numbers it is given. -/
namespace Go.Proofs.Ytlljaliemldjkaa
open Go.RowKit Go.Sort

theorem same_yes {va vb : Value} {l : List Int} {w : World} (ha : SliceI va l w) (hb : SliceI vb l w) : Calls Try.prog 29 #[va, vb] w fun e w' => e = .returned (.bool true) ∧ ∃ n, w' = w.drewN n :=
  (same_any ha hb).mono (fun _ _ h => ⟨h.1.trans (by rw [decide_eq_true rfl]), h.2⟩)

end Go.Proofs.Ytlljaliemldjkaa

/- Golay: places as the bits of a number, of both sides. -/
namespace Go.Proofs.Ytlljaliemldjkaa
open Go.RowKit

theorem wrap_u64 {a : Nat} (h : a < 18446744073709551616) : IntKind.u64.wrap (a : Int) = (a : Int) := by
  show ((a : Int) % 18446744073709551616) = _
  omega
theorem ofi64 {a : Nat} (h : a < 18446744073709551616) : (BitVec.ofInt 64 (a : Int)).toNat = a := by
  rw [BitVec.ofInt_natCast, BitVec.toNat_ofNat]; exact Nat.mod_eq_of_lt (by omega)
theorem and_u64 {a b : Nat} (ha : a < 18446744073709551616) (hb : b < 18446744073709551616) : bits BinOp.and IntKind.u64 (a : Int) (b : Int) = ((a &&& b : Nat) : Int) := by
  show IntKind.u64.wrap ((BitVec.ofInt 64 (a : Int) &&& BitVec.ofInt 64 (b : Int)).toNat : Int) = _
  rw [BitVec.toNat_and, ofi64 ha, ofi64 hb]
  exact wrap_u64 (Nat.lt_of_le_of_lt Nat.and_le_left ha)

end Go.Proofs.Ytlljaliemldjkaa
