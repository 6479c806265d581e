/- The program's polynomials: products. -/
import Derived.Test.YtjkncdmbcckcdaaZU2
import Derived.Test.YtjkncdmbcckcdaaZW4
namespace Go.Proofs.Ytjkncdmbcckcdaa
open Go.RowKit

set_option maxHeartbeats 4000000 in
set_option maxRecDepth 100000 in
theorem product_any {F T : Nat} {D : FD} (hD : D ∈ fieldsL) {g : Nat → Value} {w : World} (h : FAt F T D g w) {ao bo : Option Addr} {n m ca cb : Nat} {a b : Nat → Nat} (hn : n ≤ 1000) (hm : m ≤ 1000) (ha : El D a) (hb : El D b) (hbm : Bd m b) (hA : Sl ao n a w) (hB : Sl bo m b w) (hla : LtB ao w.heap.size) (hlb : LtB bo w.heap.size) :
    Calls Try.prog 105 #[.pointer (some ⟨F, 0, none⟩), .slice ao n ca, .slice bo m cb] w fun e w' =>
      e = .returned (.slice (some ⟨w.heap.size, 0, none⟩) (dgn (pmul D n a b) (n + m)) (n + m)) ∧ Row w.heap.size (n + m) (pmul D n a b) w' ∧ Below w.heap.size w w' := by
  have HF : Hid (FAt F T D g w ∧ D ∈ fieldsL ∧ Sl ao n a w ∧ Sl bo m b w ∧ El D a ∧ El D b ∧ Bd m b) := ⟨h, hD, hA, hB, ha, hb, hbm⟩
  have HL : Hid (LtB ao w.heap.size ∧ LtB bo w.heap.size) := ⟨hla, hlb⟩
  clear h hD hA hB ha hb hbm hla hlb
  obtain ⟨N, hN⟩ : ∃ N, N = n + m := ⟨_, rfl⟩
  rw [← hN]
  have HN : Hid (N = n + m) := hN
  have hN2 : N ≤ 2000 := by omega
  clear hN
  go_enter Try.func105, Try.ntmps105
  go_wp2_with (at_make; refine make_int rfl _ _ rfl _ N rfl rfl (by have := HN.out; omega) (by omega) ?_; intro w1 hown1 hgrow1)
  have HB1 : Hid (Below w.heap.size w w1 ∧ Row w.heap.size N pnil w1) := ⟨below_grown hgrow1 (Nat.le_refl _) (fun k hk => by simp at hk), row_zeros hown1⟩
  clear hown1 hgrow1
  go_loopw [20] (fun i wr => ∃ r : Nat, r ≤ n ∧ i = .int .i64 r ∧ Row w.heap.size N (pmul D r a b) wr ∧ Below w.heap.size w wr) (fun i _ => n - (intOf i).toNat)
  case atStart => exact ⟨0, by omega, rfl, HB1.out.2, HB1.out.1⟩
  case round =>
    obtain ⟨r, hr, rfl, hrow, hbel⟩ := hrel
    have HG : Hid (Row w.heap.size N (pmul D r a b) wr ∧ Below w.heap.size w wr) := ⟨hrow, hbel⟩
    clear hrow hbel
    by_cases hlt : r < n
    · obtain ⟨ba, offa, rfl, hca⟩ := (HF.out.2.2.1.below HG.out.2 HL.out.1) r hlt
      go_wp2
      go_loopw [27] (fun i wr => ∃ j : Nat, j ≤ m ∧ i = .int .i64 j ∧ Row w.heap.size N (pin D a b r j) wr ∧ Below w.heap.size w wr) (fun i _ => m - (intOf i).toNat)
      case atStart => exact ⟨0, by omega, rfl, by rw [pin_zero]; exact HG.out.1, HG.out.2⟩
      case round =>
        clear HG hca
        obtain ⟨j, hj, rfl, hrow, hbel⟩ := hrel
        have HG : Hid (Row w.heap.size N (pin D a b r j) wr ∧ Below w.heap.size w wr) := ⟨hrow, hbel⟩
        clear hrow hbel
        by_cases hjm : j < m
        · obtain ⟨bb, offb, rfl, hcb⟩ := (HF.out.2.2.2.1.below HG.out.2 HL.out.2) j hjm
          have hco : wr.cell? ⟨w.heap.size, r + j, none⟩ = some (.int .i64 (pmul D r a b (r + j) : Nat)) := by rw [← pin_at]; exact HG.out.1.cell _ (by have := HN.out; omega)
          have hfo := HG.out.1.free (r + j)
          obtain ⟨p, hp⟩ : ∃ p, p = pmul D r a b (r + j) := ⟨_, rfl⟩
          obtain ⟨y, hy⟩ : ∃ y, y = D.mul (a r) (b j) := ⟨_, rfl⟩
          obtain ⟨z, hz⟩ : ∃ z, z = pmul D (r + 1) a b (r + j) := ⟨_, rfl⟩
          have HC1 : Hid (∀ d, Calls Try.prog 95 #[.pointer (some ⟨F, 0, none⟩), .int .i64 (a r : Nat), .int .i64 (b j : Nat)] (wr.drewN d) fun e w' => e = .returned (.int .i64 (y : Nat)) ∧ ∃ k, w' = (wr.drewN d).drewN k) := by
            intro d; rw [hy]; exact mul_nat HF.out.2.1 ((HF.out.1.below HG.out.2 HF.out.1.ltF HF.out.1.ltT).drewN d) (HF.out.2.2.2.2.1 r) (HF.out.2.2.2.2.2.1 j)
          have HC2 : Hid (∀ d, Calls Try.prog 122 #[.pointer (some ⟨F, 0, none⟩), .int .i64 (p : Nat), .int .i64 (y : Nat)] (wr.drewN d) fun e w' => e = .returned (.int .i64 (z : Nat)) ∧ ∃ k, w' = (wr.drewN d).drewN k) := by
            intro d
            have h := add_nat HF.out.2.1 ((HF.out.1.below HG.out.2 HF.out.1.ltF HF.out.1.ltT).drewN d) (el_mul (fld HF.out.2.1) a b r (r + j)) ((fld HF.out.2.1).mul_lt (a r) (b j))
            rw [hz, hp, hy, ← pin_new]; exact h
          have HV : Hid (Row w.heap.size N (pin D a b r j) wr ∧ Below w.heap.size w wr ∧ FAt F T D g wr ∧ ∀ k, pin D a b r (j + 1) k = if k = r + j then z else pin D a b r j k) :=
            ⟨HG.out.1, HG.out.2, HF.out.1.below HG.out.2 HF.out.1.ltF HF.out.1.ltT, fun k => by rw [hz]; exact pin_step D a b r j k⟩
          rw [← hp] at hco
          clear hp hy hz HG
          obtain ⟨s, hs⟩ : ∃ s : Nat, s = r + j := ⟨_, rfl⟩
          have w1' : IntKind.i64.wrap ((r : Int) + (j : Int)) = (s : Int) := wrap_to (by omega) (by omega)
          have hsb : (s : Int) < (N : Int) := by have := HN.out; omega
          rw [← hs] at hco hfo HV
          clear hs
          go_wp2
          refine quiet_tail 17 (by kernel_rfl) (by kernel_rfl) ?_
          simp only [List.take_succ_cons, List.take_zero, List.drop_succ_cons, List.drop_zero]
          repeat (go_big_quiet_step (first | (go_at_call 95; exact Calls.quiet_of (HC1.out _)) | (go_at_call 122; exact Calls.quiet_of (HC2.out _))))
          refine wpQuiet_nil ?_
          intro _ hw'
          obtain ⟨nq, hw''⟩ := hw'
          subst hw''
          go_wp2
          go_roundw
          case rel => exact ⟨j + 1, by omega, by go_num, (HV.out.1.drewN nq).store s z (fun k _ => HV.out.2.2.2 k), (below_drewN2 HV.out.2.1 nq).setCell (by simp) _⟩
          case measure => simp [intOf]; omega
        · have HE : Hid (Row w.heap.size N (pmul D (r + 1) a b) wr) := by
            show Row _ _ _ _
            have h := HG.out.1
            rw [show j = m from by omega, pin_all (fld HF.out.2.1) HF.out.2.2.2.2.2.2 r] at h; exact h
          go_wp2
          go_roundw
          case rel => exact ⟨r + 1, by omega, by go_num, HE.out, HG.out.2⟩
          case measure => simp [intOf]; omega
    · have e : r = n := by omega
      subst e
      go_wp2_with fail
      refine (trim_any (HG.out.1.sl (Nat.le_refl _)) (Nat.le_refl _) (by omega)).mono ?_
      rintro e w' ⟨rfl, k, rfl⟩
      go_wp2
      go_ret
      exact ⟨rfl, HG.out.1.drewN _, below_drewN2 HG.out.2 _⟩
end Go.Proofs.Ytjkncdmbcckcdaa
