/- A field's calls, gone on: what a smaller field's elements become (at, rootFor, Embed). -/
import Derived.Test.YtillljojdnofgaaZB6
import Derived.Test.YtillljojdnofgaaZR15
namespace Go.Proofs.Ytillljojdnofgaa
open Go.RowKit

theorem mul_nat {F T : Nat} {D : FD} (hD : D ∈ fieldsL) {g : Nat → Value} {w : World} (h : FAt F T D g w) {a b : Nat} (ha : a < D.q) (hb : b < D.q) :
    Calls Try.prog 31 #[.pointer (some ⟨F, 0, none⟩), .int .i64 a, .int .i64 b] w fun e w' => e = .returned (.int .i64 (D.mul a b : Nat)) ∧ ∃ n, w' = w.drewN n := by
  rw [← mulZ_nat (fld hD) ha hb]; exact mul_any hD h a b
theorem add_nat {F T : Nat} {D : FD} (hD : D ∈ fieldsL) {g : Nat → Value} {w : World} (h : FAt F T D g w) {a b : Nat} (ha : a < D.q) (hb : b < D.q) :
    Calls Try.prog 30 #[.pointer (some ⟨F, 0, none⟩), .int .i64 a, .int .i64 b] w fun e w' => e = .returned (.int .i64 (sumD D.p D.q a b : Nat)) ∧ ∃ n, w' = w.drewN n := by
  rw [← addZ_nat (fld hD) ha hb]; exact add_any hD h a b

set_option maxHeartbeats 2000000 in
theorem at_any {F T : Nat} {D : FD} (hD : D ∈ fieldsL) {g : Nat → Value} {w : World} (h : FAt F T D g w) (gl cap n x : Nat) (c : Nat → Nat) (hx : x < D.q) (hn : n ≤ 1000) (hc : ∀ j, c j < D.q) (hN : Nums gl n c w) :
    Calls Try.prog 68 #[.pointer (some ⟨F, 0, none⟩), .slice (some ⟨gl, 0, none⟩) n cap, .int .i64 x] w fun e w' => e = .returned (.int .i64 (D.val c n x n : Nat)) ∧ ∃ n, w' = w.drewN n := by
  have HF : Hid (FAt F T D g w ∧ D ∈ fieldsL ∧ Nums gl n c w ∧ ∀ j, c j < D.q) := ⟨h, hD, hN, hc⟩
  clear h hD hN hc
  go_enter Try.func68, Try.ntmps68
  go_wp2
  go_loopw [7, 8] (fun s i wr => ∃ r : Nat, r ≤ n ∧ i = .int .i64 ((r : Int) - 1) ∧ s = .int .i64 (D.val c n x (n - r) : Nat) ∧ ∃ d, wr = w.drewN d) (fun _ i _ => (intOf i + 1).toNat)
  case atStart => exact ⟨n, by omega, rfl, by rw [Nat.sub_self]; rfl, 0, rfl⟩
  case round =>
    obtain ⟨r, hr, hi, rfl, hwr⟩ := hrel
    have HG : Hid (FAt F T D g wr ∧ Nums gl n c wr ∧ ∃ d, wr = w.drewN d) := by
      obtain ⟨d, rfl⟩ := hwr
      exact ⟨HF.out.1.drewN d, HF.out.2.2.1.other rfl, d, rfl⟩
    clear hwr
    cases r with
    | succ s =>
      have hi' : u8 = .int .i64 (s : Int) := by rw [hi]; go_num
      clear hi
      subst hi'
      obtain ⟨y, hy⟩ : ∃ y, y = D.val c n x (n - (s + 1)) := ⟨_, rfl⟩
      have hyq : y < D.q := by rw [hy]; exact val_lt HF.out.2.1 c n x HF.out.2.2.2 _
      have HY : Hid (D.val c n x (n - s) = sumD D.p D.q (D.mul y x) (c s)) := by
        show _ = _
        rw [hy, show n - s = (n - (s + 1)) + 1 from by omega, FD.val, show n - 1 - (n - (s + 1)) = s from by omega]
      rw [← hy]
      clear hy
      have hcl : wr.cell? ⟨gl, s, none⟩ = some (.int .i64 (c s : Nat)) := HG.out.2.1 s (by omega)
      have HC1 : Hid (∀ k, Calls Try.prog 31 #[.pointer (some ⟨F, 0, none⟩), .int .i64 y, .int .i64 x] (wr.drewN k) fun e w' => e = .returned (.int .i64 (D.mul y x : Nat)) ∧ ∃ m, w' = (wr.drewN k).drewN m) := fun k => mul_nat HF.out.2.1 (HG.out.1.drewN k) hyq hx
      have HC2 : Hid (∀ k, Calls Try.prog 30 #[.pointer (some ⟨F, 0, none⟩), .int .i64 (D.mul y x : Nat), .int .i64 (c s : Nat)] (wr.drewN k) fun e w' => e = .returned (.int .i64 (sumD D.p D.q (D.mul y x) (c s) : Nat)) ∧ ∃ m, w' = (wr.drewN k).drewN m) := fun k => add_nat HF.out.2.1 (HG.out.1.drewN k) ((fld HF.out.2.1).mul_lt _ _) (HF.out.2.2.2 s)
      go_wp2
      go_quiet (first | (go_at_call 31; exact Calls.quiet_of (HC1.out _)) | (go_at_call 30; exact Calls.quiet_of (HC2.out _)))
      go_wp2
      go_roundw
      case rel =>
        obtain ⟨d, hd⟩ := HG.out.2.2
        exact ⟨s, by omega, by go_num, by rw [HY.out], _, by rw [hd, World.drewN_drewN]⟩
      case measure => simp [intOf]
    | zero =>
      have hi' : u8 = .int .i64 (-1) := by rw [hi]; rfl
      clear hi
      subst hi'
      go_wp2
      go_ret
      exact ⟨rfl, HG.out.2.2⟩

theorem isRoot_prime {D E : FD} (hD : D ∈ fieldsL) (hE : E ∈ fieldsL) (hm : E.m = 1) (k : Nat) : D.isRoot E k = false := by
  have F := fld hD
  have hx := xk_lt (E := E) hD k
  have hl := ((fld hE).least1 hm).2.2.2.1
  have h2 := F.q2
  have e1 : E.modN 1 = 1 := by unfold FD.modN; rw [if_pos hm.symm]
  have e0 : E.modN 0 = 0 := by unfold FD.modN dgt; rw [if_neg (by omega), hl]; simp
  have hv : D.val E.modN (E.m + 1) (D.xk E k) (E.m + 1) = D.xk E k := by
    rw [hm]
    show sumD D.p D.q (D.mul (sumD D.p D.q (D.mul 0 (D.xk E k)) (E.modN 1)) (D.xk E k)) (E.modN 0) = _
    rw [e1, e0]
    have h0 : D.mul 0 (D.xk E k) = 0 := by simp [FD.mul]
    rw [h0, F.add_comm 0 1, F.sum_zero 1 (by omega), F.mul_comm, F.mul_one _ hx.1, F.sum_zero _ hx.1]
  unfold FD.isRoot
  rw [hv]
  exact beq_eq_false_iff_ne.2 hx.2

set_option maxHeartbeats 4000000 in
set_option maxRecDepth 100000 in
theorem rootFor_any {F T F2 T2 : Nat} {D E : FD} (hD : D ∈ fieldsL) (hE : E ∈ fieldsL) (h : E.p = D.p ∧ D.m % E.m = 0) {g g2 : Nat → Value} {w : World} (hA : FAt F T D g w) (hB : FAt F2 T2 E g2 w) :
    Calls Try.prog 67 #[.pointer (some ⟨F, 0, none⟩), .pointer (some ⟨F2, 0, none⟩)] w fun e w' => e = .returned (.int .i64 (D.root E : Nat)) ∧ Below w.heap.size w w' := by
  have HN : Hid (D ∈ fieldsL ∧ E ∈ fieldsL ∧ E.p = D.p ∧ D.m % E.m = 0) := ⟨hD, hE, h⟩
  have hq2 := (fld hE).q2
  have hq64 := (fld hE).q64
  have hQ64 := (fld hD).q64
  have hQ2 := (fld hD).q2
  have hm6 := (fld hE).m6
  have hp := hA.ptr
  have hp2 := hB.ptr
  have hc := hA.row.cell 0 (by omega)
  rw [hA.tab.sum.c0] at hc
  have hc2 := hB.row.cell 0 (by omega)
  rw [hB.tab.sum.c0] at hc2
  have HA : Hid (FAt F T D g w ∧ FAt F2 T2 E g2 w) := ⟨hA, hB⟩
  have hF := hA.ltF
  have hT := hA.ltT
  have hF2 := hB.ltF
  have hT2 := hB.ltT
  clear h hD hE hA hB
  obtain ⟨step, hstep⟩ : ∃ step, step = (D.q - 1) / (E.q - 1) := ⟨_, rfl⟩
  have hst64 : step ≤ 64 := by rw [hstep]; exact Nat.le_trans (Nat.div_le_self _ _) (by omega)
  have HST : Hid (step = (D.q - 1) / (E.q - 1)) := hstep
  have HSD : Hid (((D.q : Int) - 1) / ((E.q : Int) - 1) = (step : Int)) := by
    show _ = _
    rw [hstep, show (D.q : Int) - 1 = ((D.q - 1 : Nat) : Int) from by omega, show (E.q : Int) - 1 = ((E.q - 1 : Nat) : Int) from by omega, Int.natCast_ediv]
  clear hstep
  go_enter Try.func67, Try.ntmps67
  go_wp2
  go_quiet (fail)
  go_wp2_with fail
  refine (poly_any HN.out.2.1 (HA.out.2.drewN nq)).mono ?_
  rintro e w1 ⟨vp, rfl, hop, hb1⟩
  obtain ⟨gp, cp, fp, hvp, hgp⟩ := hop.row (E.m + 1) modL_len' (by omega)
  subst hvp
  have hb1' : Below w.heap.size w w1 := bel_up (below_drewN2 (Below.refl _ _) nq) hb1
  have H1 : Hid (FAt F T D g w1 ∧ FAt F2 T2 E g2 w1 ∧ Nums gp (E.m + 1) E.modN w1 ∧ Below w.heap.size w w1) := ⟨HA.out.1.below hb1' hF hT, HA.out.2.below hb1' hF2 hT2, nums_modL hop, hb1'⟩
  clear hop hb1 hb1' hgp hp hp2 hc hc2 HA
  have hp := H1.out.1.ptr
  have hp2 := H1.out.2.1.ptr
  have hc2 : w1.cell? ⟨T2, 0, none⟩ = some (.int .i64 E.q) := by rw [H1.out.2.1.row.cell 0 (by omega), H1.out.2.1.tab.sum.c0]
  go_wp2
  
  rw [HSD.out]
  go_loopw [7] (fun i wr => ∃ k : Nat, 1 ≤ k ∧ k ≤ E.q ∧ i = .int .i64 k ∧ Hid (∀ j, 1 ≤ j → j < k → D.isRoot E j = false) ∧ ∃ d, wr = w1.drewN d) (fun i _ => E.q - (intOf i).toNat)
  case atStart => exact ⟨1, by omega, by omega, rfl, fun j h1 h2 => by omega, 0, rfl⟩
  case round =>
    obtain ⟨k, hk1, hkq, rfl, HK, d, rfl⟩ := hrel
    by_cases hlt : k < E.q
    · obtain ⟨ks, hks⟩ : ∃ ks : Nat, ks = k * step := ⟨_, rfl⟩
      have hksb : ks ≤ 64 * 64 := by rw [hks]; exact Nat.mul_le_mul (by omega) hst64
      obtain ⟨x, hx⟩ : ∃ x, x = D.xk E k := ⟨_, rfl⟩
      have hxl := xk_lt (E := E) HN.out.1 k
      rw [← hx] at hxl
      obtain ⟨y, hy⟩ : ∃ y, y = D.val E.modN (E.m + 1) x (E.m + 1) := ⟨_, rfl⟩
      have HY : Hid (D.isRoot E k = (y == 0)) := by show _ = _; rw [FD.isRoot, hy, hx]
      have hm5 : (k : Int) * (step : Int) = (ks : Int) := by rw [hks, Int.natCast_mul]
      have HC : Hid (Calls Try.prog 62 #[.pointer (some ⟨T, 0, none⟩), .int .i64 (ks : Int)] (w1.drewN d) fun e w' => e = .returned (.int .i64 (x : Nat)) ∧ ∃ n, w' = (w1.drewN d).drewN n) := by
        have h := power_any HN.out.1 (H1.out.1.drewN d) (ks : Int) (by omega) (by omega)
        rw [← Int.natCast_emod, Int.toNat_natCast] at h
        rw [hx, FD.xk, ← HST.out, ← hks]; exact h
      have HC2 : Hid (∀ n, Calls Try.prog 68 #[.pointer (some ⟨F, 0, none⟩), .slice (some ⟨gp, 0, none⟩) (E.m + 1) cp, .int .i64 x] (w1.drewN n) fun e w' => e = .returned (.int .i64 (y : Nat)) ∧ ∃ m, w' = (w1.drewN n).drewN m) := by
        intro n
        rw [hy]
        exact at_any HN.out.1 (H1.out.1.drewN n) gp cp (E.m + 1) x E.modN hxl.1 (by omega) (fun j => modN_lt HN.out.1 HN.out.2.1 HN.out.2.2.1 j) (H1.out.2.2.1.other rfl)
      have HXX : Hid (x = D.xk E k) := hx
      clear hx hy hks hxl
      go_wp2_with fail
      refine HC.out.mono ?_
      rintro e w2 ⟨rfl, n2, hw2⟩
      obtain ⟨n3, hw3⟩ : ∃ n3, w2 = w1.drewN n3 := ⟨_, by rw [hw2, World.drewN_drewN]⟩
      clear hw2
      subst hw3
      go_wp2_with fail
      refine (HC2.out _).mono ?_
      rintro e w3 ⟨rfl, n4, hw4⟩
      obtain ⟨n5, hw5⟩ : ∃ n5, w3 = w1.drewN n5 := ⟨_, by rw [hw4, World.drewN_drewN]⟩
      clear hw4
      subst hw5
      by_cases hy0 : y = 0
      · have HE : Hid (D.root E = x) := by
          show _ = _
          have hr : D.isRoot E k = true := by rw [HY.out, hy0]; rfl
          have hm : E.m ≠ 1 := fun hm => by rw [isRoot_prime HN.out.1 HN.out.2.1 hm k] at hr; cases hr
          have h := rootK_is HN.out.1 HN.out.2.1 HN.out.2.2 hm
          have hkk : D.rootK E = k := by
            rcases Nat.lt_trichotomy (D.rootK E) k with hlt | heq | hgt
            · have h1 := HK.out _ h.1 hlt
              rw [h.2.2.1] at h1; cases h1
            · exact heq
            · have h1 := h.2.2.2 k hk1 hgt
              rw [hr] at h1; cases h1
          rw [FD.root, if_neg hm, hkk, HXX.out]
        subst hy0
        go_wp2
        go_ret
        exact ⟨ret_int (by rw [HE.out]), below_drewN2 H1.out.2.2.2 _⟩
      · go_wp2
        go_roundw
        case rel =>
          refine ⟨k + 1, by omega, by omega, by go_num, ?_, _, rfl⟩
          intro j h1 h2
          by_cases hj : j = k
          · rw [hj, HY.out]; exact beq_eq_false_iff_ne.2 hy0
          · exact HK.out j h1 (by omega)
        case measure => simp [intOf]; omega
    · have HE : Hid (D.root E = 0) := by
        show _ = _
        by_cases hm : E.m = 1
        · rw [FD.root, if_pos hm]
        · have h := rootK_is HN.out.1 HN.out.2.1 HN.out.2.2 hm
          have h1 := HK.out (D.rootK E) h.1 (by omega)
          rw [h.2.2.1] at h1; cases h1
      go_wp2
      go_ret
      exact ⟨ret_int (by rw [HE.out]; rfl), below_drewN2 H1.out.2.2.2 _⟩
end Go.Proofs.Ytillljojdnofgaa
