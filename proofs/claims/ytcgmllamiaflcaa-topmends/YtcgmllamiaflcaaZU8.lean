/- The program's division of polynomials: the walk. -/
import Derived.Test.YtcgmllamiaflcaaZU4
namespace Go.Proofs.Ytcgmllamiaflcaa
open Go.RowKit

set_option maxHeartbeats 8000000 in
set_option maxRecDepth 100000 in
theorem divide_any {F T : Nat} {D : FD} (hD : D ∈ fieldsL) {g : Nat → Value} {w : World} (h : FAt F T D g w) {ao bo : Option Addr} {n l ca cb : Nat} {a b : Nat → Nat} (hn : n ≤ 1000) (hm : l < 1000) (ha : El D a) (hb : El D b) (hbn : Bd n a) (hbm : Bd (l + 1) b) (hbl : b l ≠ 0)
    (hA : Sl ao n a w) (hB : Sl bo (l + 1) b w) (hla : LtB ao w.heap.size) (hlb : LtB bo w.heap.size) (hnil : ao = none → ca = 0) :
    Calls Try.prog 88 #[.pointer (some ⟨F, 0, none⟩), .slice ao n ca, .slice bo (l + 1) cb] w fun e w' =>
      ∃ vq vr, e = .returned (.tuple #[vq, vr]) ∧ OwnP w.heap.size vq (dgn (divQ D b l (D.iv (b l)) (n - l) a) (n - l)) (divQ D b l (D.iv (b l)) (n - l) a) w' ∧
        OwnP w.heap.size vr (dgn (divR D b l (D.iv (b l)) (n - l) a) n) (divR D b l (D.iv (b l)) (n - l) a) w' ∧ Below w.heap.size w w' := by
  have HF : Hid (FAt F T D g w ∧ D ∈ fieldsL ∧ Sl ao n a w ∧ Sl bo (l + 1) b w ∧ El D a ∧ El D b ∧ Bd n a ∧ Bd (l + 1) b ∧ b l ≠ 0) := ⟨h, hD, hA, hB, ha, hb, hbn, hbm, hbl⟩
  have HL : Hid (LtB ao w.heap.size ∧ LtB bo w.heap.size ∧ (ao = none → ca = 0)) := ⟨hla, hlb, hnil⟩
  clear h hD hA hB ha hb hbn hbm hla hlb hnil hbl
  obtain ⟨nq, hnq⟩ : ∃ nq, nq = n - l := ⟨_, rfl⟩
  obtain ⟨inv, hinv⟩ : ∃ inv, inv = D.iv (b l) := ⟨_, rfl⟩
  rw [← hnq, ← hinv]
  have HN : Hid (nq = n - l ∧ inv = D.iv (b l)) := ⟨hnq, hinv⟩
  have hnq2 : nq ≤ 1000 := by omega
  clear hnq hinv
  obtain ⟨bb, offb, rfl, _⟩ := HF.out.2.2.2.1 l (by omega)
  go_enter Try.func88, Try.ntmps88
  go_wp2_with fail
  refine (clone_any HF.out.2.2.1 (by omega) HL.out.2.2 HL.out.1).mono ?_
  rintro e w1 ⟨vr, rfl, hor, hb1⟩
  obtain ⟨ro, rc, rfl, hr1, hr2, hrg, hrl, hrz, hrs⟩ := hor.open
  have HB1 : Hid (OwnP w.heap.size (.slice ro n rc) n a w1 ∧ Below w.heap.size w w1 ∧ LtB ro w1.heap.size) := ⟨hor, hb1, hrl⟩
  clear hor hb1 hrg hrl hrz hrs
  go_wp2_with (first
    | (at_make; refine make_int rfl _ _ rfl _ nq rfl rfl (by have := HN.out; omega) (by omega) ?_; intro w2 hown2 hgrow2; have hcb := HF.out.2.2.2.1.below (bel_up HB1.out.2.1 (below_grown hgrow2 (Nat.le_refl _) (fun k hk => by simp at hk))) HL.out.2.1 l (by omega); obtain ⟨bb', offb', e', hcb⟩ := hcb; simp only [Option.some.injEq, Addr.mk.injEq, and_true] at e'; obtain ⟨rfl, rfl⟩ := e')
    | (go_at_call 66; refine (inv_nat' HF.out.2.1 (HF.out.1.below (bel_up HB1.out.2.1 (below_grown hgrow2 (Nat.le_refl _) (fun k hk => by simp at hk))) HF.out.1.ltF HF.out.1.ltT) (HF.out.2.2.2.2.2.1 l) HF.out.2.2.2.2.2.2.2.2).mono ?_; rintro e w' ⟨rfl, d, rfl⟩))
  all_goals
    have HB2 : Hid (OwnP w.heap.size (.slice ro n rc) n a (w2.drewN d) ∧ Row w1.heap.size nq pnil (w2.drewN d) ∧ Below w.heap.size w (w2.drewN d)) := by
      have hg := below_grown hgrow2 (Nat.le_refl _) (fun k hk => by simp at hk)
      exact ⟨(HB1.out.1.below hg (Nat.le_refl _)).drewN d, (row_zeros hown2).drewN d, below_drewN2 (bel_up HB1.out.2.1 hg) d⟩
    have hsz1 := HB1.out.2.1.size
    rw [show D.iv (b l) = inv from HN.out.2.symm]
    clear hown2 hgrow2 hcb
    go_loopw [10] (fun i wr => ∃ (s : Nat) (r : Nat → Nat), s ≤ nq ∧ i = .int .i64 ((s : Int) - 1) ∧ El D r ∧ Hid (divR D b l inv s r = divR D b l inv nq a ∧ ∀ k, k < s → divQ D b l inv s r k = divQ D b l inv nq a k) ∧
        OwnP w.heap.size (.slice ro n rc) n r wr ∧ Row w1.heap.size nq (fun k => if s ≤ k then divQ D b l inv nq a k else 0) wr ∧ Below w.heap.size w wr) (fun i _ => (intOf i + 1).toNat)
    case atStart => exact ⟨nq, a, Nat.le_refl _, rfl, HF.out.2.2.2.2.1, ⟨rfl, fun _ _ => rfl⟩, HB2.out.1, HB2.out.2.1.congr (fun k hk => by show 0 = if nq ≤ k then _ else 0; rw [if_neg (by omega)]), HB2.out.2.2⟩
    case round =>
      obtain ⟨s, r, hs, hi, hre, HD, hor, hrq, hbel⟩ := hrel
      have HG : Hid (El D r ∧ OwnP w.heap.size (.slice ro n rc) n r wr ∧ Row w1.heap.size nq (fun k => if s ≤ k then divQ D b l inv nq a k else 0) wr ∧ Below w.heap.size w wr) := ⟨hre, hor, hrq, hbel⟩
      clear hre hor hrq hbel
      cases s with
      | succ s =>
        have hi' : u10 = .int .i64 (s : Int) := by rw [hi]; go_num
        clear hi
        subst hi'
        have hsl : s + l < n := by have := HN.out; omega
        first
        | exfalso; omega
        | obtain ⟨gr, rfl, hgr1, hgr2, hrow⟩ := HG.out.2.1.row (by omega)
          have hgr : gr < w1.heap.size := HB1.out.2.2 _ rfl
          have x1 : wr.cell? ⟨gr, s + l, none⟩ = some (.int .i64 (r (s + l) : Nat)) := hrow.cell _ hsl
          obtain ⟨xv, x2⟩ : ∃ v, wr.cell? ⟨w1.heap.size, s, none⟩ = some v := ⟨_, HG.out.2.2.1.cell s (by omega)⟩
          have x3 := HG.out.2.2.1.free s
          have hib : (s : Int) < (nq : Int) := by omega
          have HQ : Hid (D.mul (r (s + l)) inv = divQ D b l inv nq a s) := by
            have h := HD.out.2 s (by omega)
            rw [divQ] at h
            have h : (if s = s then D.mul (r (s + l)) inv else divQ D b l inv s (dstep D b l inv s r) s) = divQ D b l inv nq a s := h
            rw [if_pos rfl] at h; exact h
          obtain ⟨qs, hqs⟩ : ∃ qs, qs = divQ D b l inv nq a s := ⟨_, rfl⟩
          have HC : Hid (Calls Try.prog 20 #[.pointer (some ⟨F, 0, none⟩), .int .i64 (r (s + l) : Nat), .int .i64 (inv : Nat)] wr fun e w' => e = .returned (.int .i64 (qs : Nat)) ∧ ∃ k, w' = wr.drewN k) := by
            show Calls _ _ _ _ _
            rw [hqs, ← HQ.out]
            exact mul_nat HF.out.2.1 (HF.out.1.below HG.out.2.2.2 HF.out.1.ltF HF.out.1.ltT) (HG.out.1 _) (by rw [HN.out.2]; exact iv_lt HF.out.2.1 _)
          have HQ2 : Hid (qs = divQ D b l inv nq a s) := hqs
          clear hqs hrow
          go_wp2_with (go_at_call 20; refine HC.out.mono ?_; rintro e w' ⟨rfl, d2, rfl⟩)
          have HG2 : Hid (El D r ∧ OwnP w.heap.size (.slice (some ⟨gr, 0, none⟩) n rc) n r ((wr.drewN d2).setCell ⟨w1.heap.size, s, none⟩ (.int .i64 (qs : Nat))) ∧ Row w1.heap.size nq (fun k => if s ≤ k then divQ D b l inv nq a k else 0) ((wr.drewN d2).setCell ⟨w1.heap.size, s, none⟩ (.int .i64 (qs : Nat))) ∧ Below w.heap.size w ((wr.drewN d2).setCell ⟨w1.heap.size, s, none⟩ (.int .i64 (qs : Nat)))) := by
            refine ⟨HG.out.1, (HG.out.2.1.drewN d2).setOther _ (fun g hg => ?_) _, (HG.out.2.2.1.drewN d2).store s qs (fun j hj => ?_), (below_drewN2 HG.out.2.2.2 d2).setCell (by show w.heap.size ≤ w1.heap.size; omega) _⟩
            · have hg : some gr = some g := hg
              cases hg
              show gr ≠ w1.heap.size
              omega
            · show (if s ≤ j then _ else 0) = if j = s then qs else if s + 1 ≤ j then _ else 0
              by_cases e : j = s
              · rw [if_pos e, if_pos (by omega), HQ2.out, e]
              · rw [if_neg e]
                by_cases e2 : s ≤ j
                · rw [if_pos e2, if_pos (by omega)]
                · rw [if_neg e2, if_neg (by omega)]
          clear HG x1 x2 x3
          go_loopw [53] (fun i wr => ∃ j : Nat, j ≤ l + 1 ∧ i = .int .i64 j ∧ OwnP w.heap.size (.slice (some ⟨gr, 0, none⟩) n rc) n (pst D b l inv s r j) wr ∧ Row w1.heap.size nq (fun k => if s ≤ k then divQ D b l inv nq a k else 0) wr ∧ Below w.heap.size w wr) (fun i _ => l + 1 - (intOf i).toNat)
          case atStart => exact ⟨0, by omega, rfl, by rw [pst_zero]; exact HG2.out.2.1, HG2.out.2.2.1, HG2.out.2.2.2⟩
          case round =>
            obtain ⟨j, hj, rfl, hor, hrq, hbel⟩ := hrel
            have HG : Hid (El D r ∧ OwnP w.heap.size (.slice (some ⟨gr, 0, none⟩) n rc) n (pst D b l inv s r j) wr ∧ Row w1.heap.size nq (fun k => if s ≤ k then divQ D b l inv nq a k else 0) wr ∧ Below w.heap.size w wr) := ⟨HG2.out.1, hor, hrq, hbel⟩
            clear hor hrq hbel HG2
            by_cases hjl : j < l + 1
            · obtain ⟨bb', offb', e', hcb⟩ := (HF.out.2.2.2.1.below HG.out.2.2.2 HL.out.2.1) j hjl
              simp only [Option.some.injEq, Addr.mk.injEq, and_true] at e'
              obtain ⟨rfl, rfl⟩ := e'
              obtain ⟨gr', e2, _, _, hrow⟩ := HG.out.2.1.row (by omega)
              cases e2
              obtain ⟨t, ht⟩ : ∃ t : Nat, t = s + j := ⟨_, rfl⟩
              have x1 : wr.cell? ⟨gr, t, none⟩ = some (.int .i64 (r t : Nat)) := by
                have h := hrow.cell (s + j) (by omega)
                rw [pst_at] at h; rw [ht]; exact h
              have x4 := hrow.free t
              have x2 : wr.cell? ⟨w1.heap.size, s, none⟩ = some (.int .i64 (qs : Nat)) := by
                have h := HG.out.2.2.1.cell s (by omega)
                rw [if_pos (Nat.le_refl _)] at h; rw [HQ2.out]; exact h
              have htb : (t : Int) < (n : Int) := by omega
              have w1' : IntKind.i64.wrap ((s : Int) + (j : Int)) = (t : Int) := wrap_to (by omega) (by omega)
              obtain ⟨y, hy⟩ : ∃ y, y = D.mul qs (b j) := ⟨_, rfl⟩
              obtain ⟨z, hz⟩ : ∃ z, z = D.sb (r t) y := ⟨_, rfl⟩
              obtain ⟨rt, hrt⟩ : ∃ rt, rt = r t := ⟨_, rfl⟩
              rw [← hrt] at x1 hz
              have hqlt : qs < D.q := by rw [HQ2.out]; exact el_divQ (fld HF.out.2.1) nq a s
              have HC1 : Hid (∀ d, Calls Try.prog 20 #[.pointer (some ⟨F, 0, none⟩), .int .i64 (qs : Nat), .int .i64 (b j : Nat)] (wr.drewN d) fun e w' => e = .returned (.int .i64 (y : Nat)) ∧ ∃ k, w' = (wr.drewN d).drewN k) := by
                intro d; rw [hy]; exact mul_nat HF.out.2.1 ((HF.out.1.below HG.out.2.2.2 HF.out.1.ltF HF.out.1.ltT).drewN d) hqlt (HF.out.2.2.2.2.2.1 j)
              have HC2 : Hid (∀ d, Calls Try.prog 22 #[.pointer (some ⟨F, 0, none⟩), .int .i64 (rt : Nat), .int .i64 (y : Nat)] (wr.drewN d) fun e w' => e = .returned (.int .i64 (z : Nat)) ∧ ∃ k, w' = (wr.drewN d).drewN k) := by
                intro d; rw [hz]; exact sub_nat HF.out.2.1 ((HF.out.1.below HG.out.2.2.2 HF.out.1.ltF HF.out.1.ltT).drewN d) (by rw [hrt]; exact HG.out.1 t) (by rw [hy]; exact (fld HF.out.2.1).mul_lt _ _)
              have HV : Hid (∀ k, k < n → pst D b l inv s r (j + 1) k = if k = t then z else pst D b l inv s r j k) := by
                intro k _
                rw [pst_step, ht, hz, hrt, hy, HQ2.out, ← HQ.out, dstep_at, ht]
              have hgne : gr ≠ w1.heap.size := by omega
              clear ht hy hz hrt hrow
              go_wp2
              refine quiet_tail 20 (by kernel_rfl) (by kernel_rfl) ?_
              simp only [List.take_succ_cons, List.take_zero, List.drop_succ_cons, List.drop_zero]
              repeat (go_big_quiet_step (first | (go_at_call 20; exact Calls.quiet_of (HC1.out _)) | (go_at_call 22; exact Calls.quiet_of (HC2.out _))))
              refine wpQuiet_nil ?_
              intro _ hw'
              obtain ⟨nd, hw''⟩ := hw'
              subst hw''
              go_wp2
              go_roundw
              case rel => exact ⟨j + 1, by omega, by go_num, (HG.out.2.1.drewN nd).store t z (by omega) HV.out, (HG.out.2.2.1.drewN nd).other (Below.heap_setCell _ _ _ _ (fun e => hgne e.symm)), (below_drewN2 HG.out.2.2.2 nd).setCell (by show w.heap.size ≤ gr; omega) _⟩
              case measure => simp [intOf]; omega
            · have HE : Hid (OwnP w.heap.size (.slice (some ⟨gr, 0, none⟩) n rc) n (dstep D b l inv s r) wr) := by
                have h := HG.out.2.1
                rw [show j = l + 1 from by omega, pst_all (fld HF.out.2.1) HG.out.1 HF.out.2.2.2.2.2.2.2.1] at h; exact h
              have HD2 : Hid (divR D b l inv s (dstep D b l inv s r) = divR D b l inv nq a ∧ ∀ k, k < s → divQ D b l inv s (dstep D b l inv s r) k = divQ D b l inv nq a k) := by
                refine ⟨HD.out.1, fun k hk => ?_⟩
                have h := HD.out.2 k (by omega)
                rw [divQ] at h
                have h : (if k = s then D.mul (r (s + l)) inv else divQ D b l inv s (dstep D b l inv s r) k) = divQ D b l inv nq a k := h
                rw [if_neg (by omega)] at h; exact h
              go_wp2
              go_roundw
              case rel => exact ⟨s, dstep D b l inv s r, by omega, by go_num, el_dstep (fld HF.out.2.1) HG.out.1, HD2.out, HE.out, HG.out.2.2.1, HG.out.2.2.2⟩
              case measure => simp [intOf]
      | zero =>
        have hi' : u10 = .int .i64 (-1) := by rw [hi]; rfl
        clear hi
        subst hi'
        have HE : Hid (OwnP w.heap.size (.slice ro n rc) n (divR D b l inv nq a) wr ∧ Row w1.heap.size nq (divQ D b l inv nq a) wr) :=
          ⟨by rw [← HD.out.1]; exact HG.out.2.1, HG.out.2.2.1.congr (fun k _ => by show (if 0 ≤ k then _ else 0) = _; rw [if_pos (Nat.zero_le _)])⟩
        go_wp2_with fail
        refine (trim_any (HE.out.2.sl (Nat.le_refl _)) (Nat.le_refl _) (by omega)).mono ?_
        rintro e w' ⟨rfl, k1, rfl⟩
        go_wp2_with fail
        obtain ⟨ro', rc', hv', h1', h2', _, _, _, hsl'⟩ := (HE.out.1.drewN k1).open
        simp only [Value.slice.injEq, true_and] at hv'
        obtain ⟨rfl, rfl⟩ := hv'
        refine (trim_any hsl' h1' h2').mono ?_
        rintro e w' ⟨rfl, k2, rfl⟩
        go_wp2
        go_ret2
        refine ⟨_, _, rfl, OwnP.of_row (HE.out.2.drewN _) (dgn_le _ _) (dgn_le _ _) (by omega) (by omega), ?_, below_drewN2 HG.out.2.2.2 _⟩
        exact (HE.out.1.drewN _).trimmed
end Go.Proofs.Ytcgmllamiaflcaa
