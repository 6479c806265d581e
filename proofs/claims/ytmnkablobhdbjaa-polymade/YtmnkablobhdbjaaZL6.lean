/- Texts of ours, one behind the other: L6 L7 W8. -/
import Derived.Test.YtmnkablobhdbjaaZL5
/- PolySays: a polynomial through points (polyThrough), where there is one. -/
namespace Go.Proofs.Ytmnkablobhdbjaa
open Go.RowKit Go.Sort

set_option maxHeartbeats 8000000 in
set_option maxRecDepth 100000 in
theorem polyThrough_ok {D : FD} (hD : D ∈ fieldsL) {ao bo : Option Addr} {n ca cb : Nat} {z y : Nat → Int} {w : World} (ha : Arg ao n ca z w) (hb : Arg bo n cb y w) (h0 : D.chk n z = 0) (h0' : D.chk n y = 0) (hnt : ¬ Twice (zc n z) n)
    (h1 : Calls Try.prog 95 #[.int .i64 D.q, .slice ao n ca, .slice bo n cb] w fun r w' => ∃ v lo co, r = .returned (.tuple #[v, .int .i64 0]) ∧ OwnP w.heap.size v lo co w' ∧ lo ≤ n ∧ El D co ∧ Trd lo co ∧ (∀ j, j < n → D.vl co (zc n z j) = zc n y j) ∧ Below w.heap.size w w') :
    Calls Try.prog 59 #[.int .i64 D.q, .slice ao n ca, .slice bo n cb, .int .i64 0] w fun r w' => r = .returned (.bool true) ∧ Below w.heap.size w w' := by
  have H1 : Hid (Calls Try.prog 95 #[.int .i64 D.q, .slice ao n ca, .slice bo n cb] w fun r w' => ∃ v lo co, r = .returned (.tuple #[v, .int .i64 0]) ∧ OwnP w.heap.size v lo co w' ∧ lo ≤ n ∧ El D co ∧ Trd lo co ∧ (∀ j, j < n → D.vl co (zc n z j) = zc n y j) ∧ Below w.heap.size w w') := h1
  have HA : Hid (D ∈ fieldsL ∧ Arg ao n ca z w ∧ Arg bo n cb y w ∧ D.chk n z = 0 ∧ D.chk n y = 0 ∧ ¬ Twice (zc n z) n) := ⟨hD, ha, hb, h0, h0', hnt⟩
  have hn128 := (chk_zero h0).1
  have hle := ha.le
  have hcap := ha.cap
  clear h1 ha hb h0 h0' hD hnt
  have hz : ((n : Int) != (n : Int)) = false := by simp
  go_enter Try.func59, Try.ntmps59
  go_wp2_with fail
  refine H1.out.mono ?_
  rintro r w1 ⟨v, lo, co, rfl, hown, hlo, hel, htr, hvl, hb1⟩
  obtain ⟨vo, vc, rfl, hvc1, hvc2, _, hvl1, hvn, hvs⟩ := hown.open
  have HB1 : Hid (Below w.heap.size w w1 ∧ Arg ao n ca z w1 ∧ Arg bo n cb y w1) := ⟨hb1, HA.out.2.1.below hb1, HA.out.2.2.1.below hb1⟩
  have HV : Hid (El D co ∧ Trd lo co ∧ (∀ j, j < n → D.vl co (zc n z j) = zc n y j) ∧ Sl vo lo co w1 ∧ LtB vo w1.heap.size ∧ (vo = none → vc = 0) ∧ OwnP w.heap.size (.slice vo lo vc) lo co w1) := ⟨hel, htr, hvl, hvs, hvl1, hvn, hown⟩
  clear hb1 hown hel htr hvl hvl1 hvn hvs H1
  go_wp2_with fail
  go_loopw [3, 11] (fun ve i wr => ∃ r : Nat, r ≤ n ∧ i = .int .i64 r ∧ ve = .int .i64 0 ∧ ∃ k, wr = w1.drewN k) (fun _ i _ => n - (intOf i).toNat)
  case atStart => exact ⟨0, by omega, rfl, rfl, 0, rfl⟩
  case round =>
    obtain ⟨r, hr, rfl, rfl, k, rfl⟩ := hrel
    by_cases hlt : r < n
    · obtain ⟨b, off, rfl, hc⟩ := HB1.out.2.1.sl r hlt
      obtain ⟨x, hx⟩ : ∃ x, x = z r := ⟨_, rfl⟩
      rw [← hx] at hc
      have hi1 : (r : Int) < (n : Int) := by omega
      have hi0 : (0 : Int) ≤ (r : Int) := by omega
      have hi2 : (r : Int) ≤ (ca : Int) := by omega
      have HI : Hid (∀ d, Calls Try.prog 96 #[.int .i64 x, .slice (some ⟨b, off, none⟩) r ca] (w1.drewN (k + d)) fun e w' => e = .returned (.bool false) ∧ ∃ m, w' = w1.drewN (k + m)) := fun d => by
        refine (in_any (w := w1.drewN (k + d)) x ((arg_sliceI HB1.out.2.1 hr).drewN _)).mono ?_
        rintro e w' ⟨rfl, m, rfl⟩
        refine ⟨?_, d + m, by rw [World.drewN_drewN, Nat.add_assoc]⟩
        rw [decide_eq_false]
        intro hin
        obtain ⟨j, hj, e⟩ := zl_mem.1 hin
        exact HA.out.2.2.2.2.2 ⟨j, r, hj, hlt, (zc_inj HA.out.2.2.2.1 (by omega) hlt).2 (by rw [e, hx])⟩
      clear hx
      go_wp2
      go_big_quiet (first | (go_at_call 96; exact HI.out _))
      go_wp2
      go_roundw
      case rel => exact ⟨r + 1, by omega, by go_num, rfl, _, by first | rfl | rw [World.drewN_drewN]⟩
      case measure => simp [intOf]; omega
    · have hi1 : ¬ (r : Int) < (n : Int) := by omega
      go_wp2_with fail
      refine (rfield_sl HA.out.1 _).mono ?_
      rintro e w2 ⟨gm, cm, rfl, hmod, hb2⟩
      have hb12 : Below w1.heap.size w1 w2 := (below_drewN2 (Below.refl _ _) k).trans hb2
      have HM : Hid (ModAt D (.slice (some ⟨gm, 0, none⟩) (D.m + 1) cm) D.md w2 ∧ Below w1.heap.size w1 w2) := ⟨hmod, hb12⟩
      clear hmod hb2 hb12
      unfold rf
      have HB0 : Hid (Box w2.heap.size D D.gen (.slice (some ⟨gm, 0, none⟩) (D.m + 1) cm) (w2.alloc (.cells #[.int .i64 D.q, .int .i64 D.p, .int .i64 D.m, .int .i64 D.gen, .slice (some ⟨gm, 0, none⟩) (D.m + 1) cm] 28))) := box_new D D.gen _ w2
      go_wp2_with fail
      go_loopw [14] (fun i wr => ∃ r : Nat, r ≤ n ∧ i = .int .i64 r ∧ Hid (Below w2.heap.size w2 wr ∧ Box w2.heap.size D D.gen (.slice (some ⟨gm, 0, none⟩) (D.m + 1) cm) wr) ∧ w2.heap.size < wr.heap.size) (fun i _ => n - (intOf i).toNat)
      case atStart => exact ⟨0, by omega, rfl, ⟨(Below.refl _ _).alloc (Nat.le_refl _) _, HB0.out⟩, by simp⟩
      case round =>
        clear HB0
        obtain ⟨r, hr, rfl, HG, hsz⟩ := hrel
        have hs12 := HM.out.2.size
        by_cases hlt : r < n
        · have hA := HB1.out.2.1.below (bel_up HM.out.2 HG.out.1)
          have hB := HB1.out.2.2.below (bel_up HM.out.2 HG.out.1)
          obtain ⟨b, off, rfl, hc⟩ := hA.sl r hlt
          obtain ⟨b', off', rfl, hc'⟩ := hB.sl r hlt
          obtain ⟨x, hx, hxq⟩ := has_nat ((chk_zero HA.out.2.2.2.1).2 r hlt)
          obtain ⟨u, hu, huq⟩ := has_nat ((chk_zero HA.out.2.2.2.2.1).2 r hlt)
          rw [hx] at hc
          rw [hu] at hc'
          have hi1 : (r : Int) < (n : Int) := by omega
          have hi0 : (0 : Int) ≤ (r : Int) := by omega
          have k0 := cell_regrown HG.out.2.c0
          have k1 := cell_regrown HG.out.2.c1
          have k2 := cell_regrown HG.out.2.c2
          have k3 := cell_regrown HG.out.2.c3
          have k4 := cell_regrown HG.out.2.c4
          have k5 := cell_regrown hc
          have k6 := cell_regrown hc'
          have HC : Hid (∀ d os, Calls Try.prog 86 #[.agg #[.int .i64 D.q, .int .i64 D.p, .int .i64 D.m, .int .i64 D.gen, .slice (some ⟨gm, 0, none⟩) (D.m + 1) cm], .slice vo lo vc, .int .i64 x] (grow (redrawn wr d) os) fun e w'' => e = .returned (.int .i64 (u : Nat)) ∧ ∃ p : Regrown, w'' = grow (redrawn wr p.d) p.os) := fun d os => by
            have hbb := bel_up (bel_up HM.out.2 HG.out.1) (below_regrown wr d os)
            have h := rpat_any (w := grow (redrawn wr d) os) (cap := vc) HA.out.1 D.gen gm cm hxq (show lo ≤ 1000 by omega) HV.out.1 (HV.out.2.2.2.2.1.mono hbb.size) (HV.out.2.2.2.1.below hbb HV.out.2.2.2.2.1) (HM.out.1.below (bel_up HG.out.1 (below_regrown wr d os)))
            have hv : D.val co lo x lo = u := by
              have h2 := HV.out.2.2.1 r hlt
              rw [show zc n z r = x from by unfold zc; rw [if_pos hlt, hx, Int.toNat_natCast], show zc n y r = u from by unfold zc; rw [if_pos hlt, hu, Int.toNat_natCast]] at h2
              rw [← h2]
              exact vl_val (fld HA.out.1) HV.out.1 HV.out.2.1.1 hxq (show lo ≤ 1000 by omega)
            rw [hv] at h
            exact Calls.regrown_of h
          have hbe : ((u : Int) != (u : Int)) = false := by simp
          clear hA hB hc hc' hx hu hxq huq
          go_wp2
          refine wp_region_quiet_below (by kernel_rfl) (by kernel_rfl) ?_
          repeat (go_big_quiet_step (first | (go_at_call 86; exact HC.out _ _)))
          refine wpQuiet_nil ?_
          intro _ hw'
          obtain ⟨⟨dq, osq⟩, hw''⟩ := hw'
          subst hw''
          have hb := below_regrown wr dq osq
          have HR : Hid (Below w2.heap.size w2 (grow (redrawn wr dq) osq) ∧ Box w2.heap.size D D.gen (.slice (some ⟨gm, 0, none⟩) (D.m + 1) cm) (grow (redrawn wr dq) osq)) := ⟨bel_up HG.out.1 hb, HG.out.2.below hb hsz⟩
          have hs := hb.size
          clear hb k0 k1 k2 k3 k4 k5 k6 HC
          go_wp2
          go_roundw
          case rel => exact ⟨r + 1, by omega, by go_num, HR.out, by omega⟩
          case measure => simp [intOf]; omega
        · have hi1 : ¬ (r : Int) < (n : Int) := by omega
          have hi2 : (lo : Int) ≤ (n : Int) := by omega
          obtain ⟨k0, k1, k2, k3, k4⟩ := HG.out.2
          have hbr := bel_up HM.out.2 HG.out.1
          have HE : Hid (Calls Try.prog 97 #[.agg #[.int .i64 D.q, .int .i64 D.p, .int .i64 D.m, .int .i64 D.gen, .slice (some ⟨gm, 0, none⟩) (D.m + 1) cm], .slice vo lo vc] wr fun e w' => e = .returned (.bool true) ∧ Below wr.heap.size wr w') :=
            relements_ok D.gen _ (by omega) HV.out.1 (HV.out.2.2.2.1.below hbr HV.out.2.2.2.2.1) (HV.out.2.2.2.2.1.mono hbr.size)
          have HBr : Hid (Below w1.heap.size w1 wr) := hbr
          clear hbr
          go_wp2_with fail
          refine HE.out.mono ?_
          rintro e w3 ⟨rfl, hb3⟩
          have HB3 : Hid (Below w1.heap.size w1 w3) := bel_up HBr.out hb3
          clear hb3 HE k0 k1 k2 k3 k4
          have HT : Hid (Calls Try.prog 51 #[.slice vo lo vc] w3 fun e w' => ∃ v, e = .returned v ∧ SliceI v (zl lo fun j => (co j : Nat)) w' ∧ SliceI (.slice vo lo vc) (zl lo fun j => (co j : Nat)) w' ∧ Below w3.heap.size w3 w') := by
            refine (rtrim_any (HV.out.2.2.2.1.below HB3.out HV.out.2.2.2.2.1) hvc1 hvc2 HV.out.2.2.2.2.2.1 (HV.out.2.2.2.2.1.mono HB3.out.size) (by omega)).mono ?_
            rintro e w' ⟨v, rfl, ho, hb⟩
            rw [HV.out.2.1.dgn (Nat.le_refl _)] at ho
            exact ⟨v, rfl, ho.sliceI (by omega), (HV.out.2.2.2.2.2.2.below (bel_up HB3.out hb) (Nat.le_refl _)).sliceI (by omega), hb⟩
          go_wp2_with fail
          refine HT.out.mono ?_
          rintro e w4 ⟨v4, rfl, hs1, hs2, hb4⟩
          have HB4 : Hid (SliceI v4 (zl lo fun j => (co j : Nat)) w4 ∧ SliceI (.slice vo lo vc) (zl lo fun j => (co j : Nat)) w4 ∧ Below w.heap.size w w4) := ⟨hs1, hs2, bel_up HB1.out.1 (bel_up HB3.out hb4)⟩
          clear hs1 hs2 hb4 HT
          go_wp2_with fail
          refine (same_any HB4.out.2.1 HB4.out.1).mono ?_
          rintro e w5 ⟨rfl, m5, rfl⟩
          rw [decide_eq_true rfl]
          go_wp2
          go_ret
          exact ⟨by first | rfl | simp, below_drewN2 HB4.out.2.2 _⟩
end Go.Proofs.Ytmnkablobhdbjaa

/- PolySays: its parts put together; where an argument may not be. -/
namespace Go.Proofs.Ytmnkablobhdbjaa
open Go.RowKit Go.Sort

theorem polyThrough_all {D : FD} (hD : D ∈ fieldsL) {ao bo : Option Addr} {n m ca cb : Nat} {z y : Nat → Int} {w : World} (ha : Arg ao n ca z w) (hb : Arg bo m cb y w) :
    Calls Try.prog 59 #[.int .i64 D.q, .slice ao n ca, .slice bo m cb, .int .i64 (D.chk2 n z m y)] w fun r w' => r = .returned (.bool true) ∧ Below w.heap.size w w' := by
  have ht := through_all hD ha hb
  by_cases h0 : D.chk2 n z m y = 0
  · have hc := chk2_zero h0
    by_cases hnm : n = m
    · subst hnm
      by_cases htw : Twice (zc n z) n
      · rw [h0]
        refine polyThrough_bad ha hc.1 7 (Or.inr ⟨rfl, htw, rfl⟩) (ht.mono ?_)
        rintro e w' ⟨hb, h⟩
        rcases h with ⟨_, _, h, _⟩ | ⟨_, _, _, rfl⟩ | ⟨_, h, _⟩ | ⟨h, _⟩
        · exact absurd htw h
        · exact ⟨rfl, hb⟩
        · exact absurd rfl h
        · exact absurd h0 h
      · rw [h0]
        refine polyThrough_ok hD ha hb hc.1 hc.2 htw (ht.mono ?_)
        rintro e w' ⟨hb, h⟩
        rcases h with ⟨_, _, _, v, lo, co, rfl, h1, h2, h3, h4, h5⟩ | ⟨_, _, h, _⟩ | ⟨_, h, _⟩ | ⟨h, _⟩
        · exact ⟨v, lo, co, rfl, h1, h2, h3, h4, h5, hb⟩
        · exact absurd h htw
        · exact absurd rfl h
        · exact absurd h0 h
    · rw [h0]
      refine polyThrough_bad ha hc.1 6 (Or.inl ⟨hnm, rfl⟩) (ht.mono ?_)
      rintro e w' ⟨hb, h⟩
      rcases h with ⟨_, h, _⟩ | ⟨_, h, _⟩ | ⟨_, _, rfl⟩ | ⟨h, _⟩
      · exact absurd h hnm
      · exact absurd h hnm
      · exact ⟨rfl, hb⟩
      · exact absurd h0 h
  · refine polyThrough_err _ _ h0 (ht.mono ?_)
    rintro e w' ⟨hb, h⟩
    rcases h with ⟨h, _⟩ | ⟨h, _⟩ | ⟨h, _⟩ | ⟨_, rfl⟩
    · exact absurd h h0
    · exact absurd h h0
    · exact absurd h h0
    · exact ⟨rfl, hb⟩

theorem polyRoots_all {D : FD} (hD : D ∈ fieldsL) {ao : Option Addr} {n ca : Nat} {z : Nat → Int} {w : World} (ha : Arg ao n ca z w) :
    Calls Try.prog 58 #[.int .i64 D.q, .slice ao n ca, .int .i64 (D.chk n z)] w fun r w' => r = .returned (.bool true) ∧ Below w.heap.size w w' := by
  have hF := fld hD
  by_cases h0 : D.chk n z = 0
  · rw [h0]
    by_cases hn0 : dgn (zc n z) n = 0
    · refine polyRoots_zero hD ha h0 hn0 (fun w1 hb1 => ?_) (fun w1 hb1 => ?_) (fun w1 hb1 => ?_)
      · refine (roots_any hD (ha.below hb1)).mono ?_
        rintro e w' ⟨hb, h⟩
        rcases h with ⟨_, h, _⟩ | ⟨_, _, rfl⟩ | ⟨h, _⟩
        · exact absurd hn0 h
        · exact ⟨rfl, hb⟩
        · exact absurd h0 h
      · refine (factors_any hD (ha.below hb1)).mono ?_
        rintro e w' ⟨v, er, L, rfl, hb, hl, hs⟩
        obtain ⟨rfl, rfl⟩ := facSpec_uniq hF hs (Or.inr (Or.inr (Or.inl ⟨h0, hn0, rfl, rfl⟩)))
        obtain ⟨lo, lc, rfl⟩ := hl.slice
        exact ⟨lo, lc, rfl, hb⟩
      · refine (irred_any hD (ha.below hb1)).mono ?_
        rintro e w' ⟨er, L, rfl, hb, hs⟩
        obtain ⟨rfl, rfl⟩ := facSpec_uniq hF hs (Or.inr (Or.inr (Or.inl ⟨h0, hn0, rfl, rfl⟩)))
        exact ⟨rfl, hb⟩
    · exact polyRoots_ok hD ha h0 (l := dgn (zc n z) n - 1) (by omega)
  · refine polyRoots_err _ _ h0 (fun w1 hb1 => ?_) (fun w1 hb1 => ?_) (fun w1 hb1 => ?_)
    · refine (roots_any hD (ha.below hb1)).mono ?_
      rintro e w' ⟨hb, h⟩
      rcases h with ⟨h, _⟩ | ⟨h, _⟩ | ⟨_, rfl⟩
      · exact absurd h h0
      · exact absurd h h0
      · exact ⟨rfl, hb⟩
    · refine (factors_any hD (ha.below hb1)).mono ?_
      rintro e w' ⟨v, er, L, rfl, hb, hl, hs⟩
      obtain ⟨rfl, rfl⟩ := facSpec_uniq hF hs (Or.inr (Or.inr (Or.inr ⟨h0, rfl, rfl⟩)))
      obtain ⟨lo, lc, rfl⟩ := hl.slice
      exact ⟨lo, lc, rfl, hb⟩
    · refine (irred_any hD (ha.below hb1)).mono ?_
      rintro e w' ⟨er, L, rfl, hb, hs⟩
      obtain ⟨rfl, rfl⟩ := facSpec_uniq hF hs (Or.inr (Or.inr (Or.inr ⟨h0, rfl, rfl⟩)))
      exact ⟨rfl, hb⟩
end Go.Proofs.Ytmnkablobhdbjaa

/- Lists that were made and lie in memory that is there: kept while more is made. What two answers with lists are held together by, whatever the error. -/
namespace Go.Proofs.Ytmnkablobhdbjaa
open Go.RowKit

/-- The list v reads as l, in memory that is there. -/
def KI (v : Value) (l : List Int) (w : World) : Prop := SliceI v l w ∧ ∀ k, v.ownBlock = some k → k < w.heap.size
theorem KI.below {v : Value} {l : List Int} {w w' : World} (h : KI v l w) (hb : Below w.heap.size w w') : KI v l w' := ⟨h.1.below hb h.2, fun k hk => Nat.lt_of_lt_of_le (h.2 k hk) hb.size⟩
theorem KI.drewN {v : Value} {l : List Int} {w : World} (h : KI v l w) (n : Nat) : KI v l (w.drewN n) := ⟨h.1.drewN n, h.2⟩
theorem OwnI.ki {base : Nat} {v : Value} {l : List Int} {w : World} (h : OwnI base v l w) (hl : l.length ≤ 1000000) : KI v l w := ⟨h.slice hl, fun k hk => (h.lt k hk).2⟩
theorem OwnP.ki {base n : Nat} {v : Value} {c : Nat → Nat} {w : World} (h : OwnP base v n c w) (hn : n ≤ 1000000) : KI v (zl n fun j => (c j : Nat)) w := by
  refine ⟨h.sliceI hn, ?_⟩
  obtain ⟨ao, cap, rfl, _, _, _, hl, _⟩ := h
  intro k hk
  cases ao with
  | none => cases hk
  | some x =>
    have hk : some x.block = some k := hk
    cases hk
    exact hl x rfl

theorem list_gen {va vb : Value} {e : Int} {w : World} (h : (e ≠ 0 ∧ ∃ ao ca, va = .slice ao 0 ca) ∨ (e = 0 ∧ ∃ l, SliceI va l w ∧ SliceI vb l w)) :
    Calls Try.prog 45 #[va, .int .i64 e, vb, .int .i64 e] w fun r w' => r = .returned (.bool true) ∧ ∃ n, w' = w.drewN n := by
  rcases h with ⟨he, ao, ca, rfl⟩ | ⟨rfl, l, h1, h2⟩
  · refine (list_err2 e he ao ca vb w).mono ?_
    rintro r w' ⟨rfl, rfl⟩
    exact ⟨rfl, 0, rfl⟩
  · exact list_same h1 h2
end Go.Proofs.Ytmnkablobhdbjaa
