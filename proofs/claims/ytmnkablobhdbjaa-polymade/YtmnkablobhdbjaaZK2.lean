/- Texts of ours, one behind the other: K2 K3. -/
import Derived.Test.YtmnkablobhdbjaaZL10
/- What statements make of raw numbers: different elements (PlacesOf). -/
namespace Go.Proofs.Ytmnkablobhdbjaa
open Go.RowKit Go.Sort

/-- Different numbers below q. -/
def Perm' (q : Nat) (c : Nat → Nat) : Prop := (∀ j, j < q → c j < q) ∧ ∀ i j, i < j → j < q → c i ≠ c j
/-- Two that change places. -/
def swp (c : Nat → Nat) (i k : Nat) : Nat → Nat := fun j => if j = k then c i else if j = i then c k else c j
theorem swp_perm {q : Nat} {c : Nat → Nat} {i k : Nat} (h : Perm' q c) (hi : i < q) (hk : k < q) : Perm' q (swp c i k) := by
  have inj : ∀ a b, a < q → b < q → c a = c b → a = b := by
    intro a b ha hb e
    rcases Nat.lt_trichotomy a b with h1 | h1 | h1
    · exact absurd e (h.2 a b h1 hb)
    · exact h1
    · exact absurd e.symm (h.2 b a h1 ha)
  refine ⟨fun j hj => ?_, fun a b hab hb e => ?_⟩
  · unfold swp
    split
    · exact h.1 i hi
    · split
      · exact h.1 k hk
      · exact h.1 j hj
  · unfold swp at e
    have ha : a < q := by omega
    by_cases e1 : a = k
    · rw [if_pos e1] at e
      rw [if_neg (by omega)] at e
      by_cases e2 : b = i
      · rw [if_pos e2] at e
        have := inj i k hi hk e
        omega
      · rw [if_neg e2] at e
        have := inj i b hi hb e
        omega
    · rw [if_neg e1] at e
      by_cases e2 : a = i
      · rw [if_pos e2] at e
        by_cases e3 : b = k
        · rw [if_pos e3] at e
          have := inj k i hk hi e
          omega
        · rw [if_neg e3, if_neg (by omega)] at e
          have := inj k b hk hb e
          omega
      · rw [if_neg e2] at e
        by_cases e3 : b = k
        · rw [if_pos e3] at e
          have := inj a i ha hi e
          omega
        · rw [if_neg e3] at e
          by_cases e4 : b = i
          · rw [if_pos e4] at e
            have := inj a k ha hk e
            omega
          · rw [if_neg e4] at e
            have := inj a b ha hb e
            omega

set_option maxHeartbeats 4000000 in
set_option maxRecDepth 100000 in
theorem places_any {ao : Option Addr} {n ca : Nat} {z : Nat → Int} {w : World} (h : Arg ao n ca z w) (hn : n ≤ 1000) (q k : Nat) (hq : 1 ≤ q) (hq2 : q ≤ 100000) (hk : k ≤ q) :
    Calls Try.prog 62 #[.slice ao n ca, .int .i64 q, .int .i64 k] w fun e w' => ∃ g c, e = .returned (.slice (some ⟨g, 0, none⟩) k q) ∧ w.heap.size ≤ g ∧ Row g q c w' ∧ Perm' q c ∧ Below w.heap.size w w' := by
  have HA : Hid (Arg ao n ca z w) := h
  clear h
  go_enter Try.func62, Try.ntmps62
  go_wp2_with (at_make; refine make_int rfl _ _ rfl _ q rfl rfl (by omega) (by omega) ?_; intro w2 hown2 hgrow2)
  have HI : Hid (Row w.heap.size q pnil w2 ∧ Below w.heap.size w w2) := ⟨row_zeros hown2, below_grown hgrow2 (Nat.le_refl _) (fun k hk => by simp at hk)⟩
  clear hown2 hgrow2
  obtain ⟨g, hg⟩ : ∃ g, g = w.heap.size := ⟨_, rfl⟩
  rw [← hg] at HI ⊢
  have hgw : w.heap.size ≤ g := by omega
  have HI2 : Hid (Row g q pnil w2 ∧ Below w.heap.size w w2) := by
    have h := HI.out
    exact ⟨h.1, by rw [← hg]; exact h.2⟩
  clear HI hg
  go_wp2_with fail
  go_loopw [8] (fun i wr => ∃ r : Nat, r ≤ q ∧ i = .int .i64 r ∧ Hid (Row g q (fun k => if k < r then k else 0) wr ∧ Below w.heap.size w wr)) (fun i _ => q - (intOf i).toNat)
  case atStart => exact ⟨0, by omega, rfl, HI2.out.1.congr (fun k _ => by rw [if_neg (by omega)]; rfl), HI2.out.2⟩
  case round =>
    clear HI2
    obtain ⟨r, hr, rfl, HG⟩ := hrel
    by_cases hlt : r < q
    · have hib : (r : Int) < (q : Int) := by omega
      have hfr := HG.out.1.free r
      have hcl := HG.out.1.cell r hlt
      have HR : Hid (Row g q (fun k => if k < r + 1 then k else 0) (wr.setCell ⟨g, r, none⟩ (.int .i64 (r : Nat))) ∧ Below w.heap.size w (wr.setCell ⟨g, r, none⟩ (.int .i64 (r : Nat)))) := by
        refine ⟨HG.out.1.store r r (fun j _ => ?_), HG.out.2.setCell hgw _⟩
        by_cases e : j = r
        · rw [if_pos e, if_pos (by omega), e]
        · rw [if_neg e]
          by_cases e2 : j < r
          · rw [if_pos e2, if_pos (by omega)]
          · rw [if_neg e2, if_neg (by omega)]
      go_wp2
      go_roundw
      case rel => exact ⟨r + 1, by omega, by go_num, HR.out⟩
      case measure => simp [intOf]; omega
    · have hib : ¬ (r : Int) < (q : Int) := by omega
      have HI3 : Hid (Row g q (fun k => k) wr ∧ Below w.heap.size w wr ∧ Perm' q (fun k => k)) := ⟨HG.out.1.congr (fun k hk => by rw [if_pos (by omega)]), HG.out.2, fun j hj => hj, fun i j hij _ => Nat.ne_of_lt hij⟩
      clear HG hlt
      go_wp2_with fail
      go_loopw [9] (fun i wi => ∃ (r : Nat) (c : Nat → Nat), r ≤ k ∧ i = .int .i64 r ∧ Hid (Row g q c wi ∧ Below w.heap.size w wi ∧ Perm' q c)) (fun i _ => k - (intOf i).toNat)
      case atStart => exact ⟨0, _, by omega, rfl, HI3.out⟩
      case round =>
        clear HI3
        obtain ⟨s, c, hs, rfl, HG⟩ := hrel
        by_cases hlt : s < k
        · have hib : (s : Int) < (k : Int) := by omega
          have HR : Hid (Calls Try.prog 98 #[.slice ao n ca, .int .i64 s] wr fun e w' => (∃ x, e = .returned (.int .i64 x) ∧ I64 x) ∧ ∃ k, w' = wr.drewN k) := raw_any (HA.out.below HG.out.2.1) hn s (by omega)
          go_wp2_with fail
          refine HR.out.mono ?_
          rintro e w1 ⟨⟨x, rfl, hx⟩, k1, hw1⟩
          have HG1 : Hid (Row g q c w1 ∧ Below w.heap.size w w1 ∧ Perm' q c) := by rw [hw1]; exact ⟨HG.out.1.drewN _, below_drewN2 HG.out.2.1 _, HG.out.2.2⟩
          clear hw1 HR HG
          obtain ⟨p, hp, hpl⟩ : ∃ p : Nat, pick x ((q : Int) - (s : Int)) = (p : Int) ∧ s + p < q := by
            have hp1 := pick_lo x ((q : Int) - (s : Int)) (by omega)
            have hp2 := pick_hi x ((q : Int) - (s : Int)) (by omega)
            exact ⟨(pick x ((q : Int) - (s : Int))).toNat, by omega, by omega⟩
          have HP : Hid (∀ w : World, Calls Try.prog 42 #[.int .i64 x, .int .i64 ((q : Int) - (s : Int))] w fun e w' => e = .returned (.int .i64 p) ∧ w' = w) := fun w => by rw [← hp]; exact pick_any x _ w hx.1 hx.2 (by omega) (by omega)
          clear hp hx
          have hc1 := HG1.out.1.cell s (by omega)
          have hc2 := HG1.out.1.cell (s + p) hpl
          have hf1 := HG1.out.1.free s
          obtain ⟨u, hu⟩ : ∃ u, u = c s := ⟨_, rfl⟩
          obtain ⟨v, hv⟩ : ∃ v, v = c (s + p) := ⟨_, rfl⟩
          rw [← hu] at hc1
          rw [← hv] at hc2
          have hib2 : (s : Int) + (p : Int) < (q : Int) := by omega
          have hib3 : (s : Int) < (q : Int) := by omega
          have hib4 : (0 : Int) ≤ (s : Int) + (p : Int) := by omega
          have hib5 : ((s : Int) + (p : Int)).toNat = s + p := by omega
          have hr1 : Row g q (fun j => if j = s then v else c j) (w1.setCell ⟨g, s, none⟩ (.int .i64 (v : Nat))) := HG1.out.1.store s v (fun j _ => rfl)
          have hf2 := hr1.free (s + p)
          have hc3 := hr1.cell (s + p) hpl
          obtain ⟨t, ht⟩ : ∃ t, t = (if s + p = s then v else c (s + p)) := ⟨_, rfl⟩
          rw [← ht] at hc3
          have HR : Hid (Row g q (swp c s (s + p)) ((w1.setCell ⟨g, s, none⟩ (.int .i64 (v : Nat))).setCell ⟨g, s + p, none⟩ (.int .i64 (u : Nat))) ∧ Below w.heap.size w ((w1.setCell ⟨g, s, none⟩ (.int .i64 (v : Nat))).setCell ⟨g, s + p, none⟩ (.int .i64 (u : Nat))) ∧ Perm' q (swp c s (s + p))) := by
            refine ⟨hr1.store (s + p) u (fun j _ => by unfold swp; rw [hu, hv]), (HG1.out.2.1.setCell hgw _).setCell hgw _, swp_perm HG1.out.2.2 (by omega) hpl⟩
          clear hu hv hr1 ht
          go_wp2_with (go_at_call 42; refine (HP.out _).mono ?_; rintro e w' ⟨rfl, hw⟩; have hw := hw.symm; subst hw)
          go_roundw
          case rel => exact ⟨s + 1, _, by omega, by go_num, HR.out⟩
          case measure => simp [intOf]; omega
        · have hib : ¬ (s : Int) < (k : Int) := by omega
          have hib2 : (k : Int) ≤ (q : Int) := by omega
          go_wp2
          go_ret
          exact ⟨g, rfl, hgw, c, HG.out.1, HG.out.2.2, HG.out.2.1⟩
end Go.Proofs.Ytmnkablobhdbjaa

/- PolyMade: the walk of the statement. -/
namespace Go.Proofs.Ytmnkablobhdbjaa
open Go.RowKit Go.Sort

theorem OwnI.argL {base : Nat} {v : Value} {n : Nat} {y : Nat → Int} {w : World} (h : OwnI base v (zl n y) w) : ∃ ao ca, v = .slice ao n ca ∧ ArgL ao n ca y w := by
  rcases h.2 with ⟨h1, h2⟩ | ⟨g, cap, cur, hv, hg, hh, hle, hcm, hsz, htake⟩
  · rw [zl_len] at h2
    subst h2
    exact ⟨none, 0, h1, fun j hj => by omega, fun x hx => (by cases hx), fun _ => rfl, Nat.le_refl _, by omega⟩
  · rw [zl_len] at hv hle
    refine ⟨_, cap, hv, fun j hj => ⟨g, 0, rfl, ?_⟩, fun x hx => (by cases hx; exact lt_of_block hh), fun e => (by cases e), hle, by unfold maxLen at hcm; omega⟩
    obtain ⟨g', cap', e, _, _, hc, _⟩ := h.at (fun e => by
      have := congrArg List.length e
      rw [zl_len] at this
      simp at this
      omega)
    rw [zl_len, hv] at e
    cases e
    rw [Nat.zero_add]
    have := hc j (by rw [zl_len]; exact hj)
    rwa [zl_getD n y j hj] at this
theorem blw_chk {D : FD} {n : Nat} {y : Nat → Int} (h : Blw D.q n y) (hn : n ≤ 128) : D.chk n y = 0 := by
  unfold FD.chk
  rw [if_neg (by omega), if_pos]
  refine allHas_iff.2 fun j hj => ?_
  unfold FD.has
  rw [decide_eq_true_eq]
  exact h j hj

set_option maxHeartbeats 1000000 in
theorem polyMade_long {ao : Option Addr} {n ca : Nat} (q m k x : Int) (w : World) (hn : ¬ n ≤ 256) :
    Calls Try.prog 7 #[.slice ao n ca, .int .i64 q, .int .i64 m, .int .i64 k, .int .i64 x] w fun r w' => r = .returned (.bool true) ∧ Below w.heap.size w w' := by
  have h1 : (256 : Int) < (n : Int) := by omega
  go_enter Try.func7, Try.ntmps7
  go_wp2
  go_ret
  exact ⟨rfl, Below.refl _ _⟩

set_option maxHeartbeats 4000000 in
set_option maxRecDepth 100000 in
theorem polyMade_walk {ao : Option Addr} {n ca : Nat} {z : Nat → Int} (q m k x : Int) {w : World} (ha : Arg ao n ca z w) (hn : n ≤ 256) (hq : I64 q) (hm : I64 m) (hk : I64 k) (hx : I64 x) :
    Calls Try.prog 7 #[.slice ao n ca, .int .i64 q, .int .i64 m, .int .i64 k, .int .i64 x] w fun r w' => r = .returned (.bool true) ∧ Below w.heap.size w w' := by
  obtain ⟨D, hD, hDq⟩ := sizeOf_field q
  obtain ⟨M0, hM0, hM1⟩ : ∃ M0 : Nat, pick m 9 = (M0 : Int) ∧ M0 < 9 := by
    have h1 := pick_lo m 9 (by omega)
    have h2 := pick_hi m 9 (by omega)
    exact ⟨(pick m 9).toNat, by omega, by omega⟩
  obtain ⟨K, hK0, hK1⟩ : ∃ K : Nat, pick k 9 = (K : Int) ∧ K < 9 := by
    have h1 := pick_lo k 9 (by omega)
    have h2 := pick_hi k 9 (by omega)
    exact ⟨(pick k 9).toNat, by omega, by omega⟩
  have h64 := (fld hD).q64
  have h2q := (fld hD).q2
  have HA : Hid (Arg ao n ca z w ∧ D ∈ fieldsL) := ⟨ha, hD⟩
  have HS : Hid (∀ w : World, Calls Try.prog 60 #[.int .i64 q] w fun e w' => e = .returned (.int .i64 D.q) ∧ Below w.heap.size w w') := fun w => by rw [← hDq]; exact sizeOf_any q w hq.1 hq.2
  have HP1 : Hid (∀ w : World, Calls Try.prog 42 #[.int .i64 m, .int .i64 9] w fun e w' => e = .returned (.int .i64 M0) ∧ w' = w) := fun w => by rw [← hM0]; exact pick_any m 9 w hm.1 hm.2 (by omega) (by omega)
  have HP2 : Hid (∀ w : World, Calls Try.prog 42 #[.int .i64 k, .int .i64 9] w fun e w' => e = .returned (.int .i64 K) ∧ w' = w) := fun w => by rw [← hK0]; exact pick_any k 9 w hk.1 hk.2 (by omega) (by omega)
  have HP3 : Hid (∀ w : World, Calls Try.prog 42 #[.int .i64 x, .int .i64 D.q] w fun e w' => e = .returned (.int .i64 (pick x D.q)) ∧ w' = w) := fun w => pick_any x D.q w hx.1 hx.2 (by omega) (by omega)
  clear hD hDq hM0 hK0 ha hq hm hk hx
  go_enter Try.func7, Try.ntmps7
  go_wp2_with fail
  refine (HS.out w).mono ?_
  rintro e w1 ⟨rfl, hb1⟩
  have HB1 : Hid (Below w.heap.size w w1) := hb1
  clear hb1
  go_wp2_with fail
  refine (HP1.out w1).mono ?_
  rintro e w' ⟨rfl, hw⟩
  have hw := hw.symm
  subst hw
  go_wp2_with fail
  refine (HP2.out w1).mono ?_
  rintro e w' ⟨rfl, hw⟩
  have hw := hw.symm
  subst hw
  go_upto_if 22 with fail
  go_cut [2] (fun vm wx => ∃ M : Nat, vm = .int .i64 M ∧ M ≤ D.q ∧ M < 9 ∧ wx = w1)
  case first =>
    by_cases hMq : D.q < M0
    · have hz : (D.q : Int) < (M0 : Int) := by omega
      go_wp2
      go_meet
      case rel => exact ⟨D.q, rfl, Nat.le_refl _, by omega, rfl⟩
    · have hz : ¬ (D.q : Int) < (M0 : Int) := by omega
      go_wp2
      go_meet
      case rel => exact ⟨M0, rfl, by omega, hM1, rfl⟩
  case rest =>
    obtain ⟨M, rfl, hMq, hM9, hwx⟩ := hcut
    have hwx := hwx.symm
    subst hwx
    have HN1 : Hid (∀ w2, Below w.heap.size w w2 → ∀ f : Nat, f ≤ 100 → ∀ k : Nat, k ≤ 100 → Calls Try.prog 61 #[.slice ao n ca, .int .i64 f, .int .i64 D.q, .int .i64 k] w2 fun e w' => ∃ bo cb y, e = .returned (.slice bo k cb) ∧ ArgL bo k cb y w' ∧ Blw D.q k y ∧ Below w2.heap.size w2 w') := fun w2 hb2 f hf k hk => by
      refine (numbers_any (HA.out.1.below hb2) (by omega) f D.q k (by omega) (by omega) (by omega) (by omega)).mono ?_
      rintro e w' ⟨v, y, rfl, ho, hbl, hb⟩
      obtain ⟨bo, cb, rfl, hA⟩ := ho.argL
      exact ⟨bo, cb, y, rfl, hA, hbl, hb⟩
    go_wp2_with fail
    refine (HN1.out w1 HB1.out 0 (by omega) M (by omega)).mono ?_
    rintro e w2 ⟨bo, cb, y, rfl, hA2, hbl2, hb2⟩
    have HB2 : Hid (Below w.heap.size w w2 ∧ ArgL bo M cb y w2 ∧ Blw D.q M y) := ⟨bel_up HB1.out hb2, hA2, hbl2⟩
    clear hb2 hA2 hbl2
    go_wp2_with fail
    refine (HN1.out w2 HB2.out.1 M (by omega) K (by omega)).mono ?_
    rintro e w3 ⟨co, cc, u, rfl, hA3, hbl3, hb3⟩
    have HB3 : Hid (Below w.heap.size w w3 ∧ Arg bo M cb y w3 ∧ Arg co K cc u w3 ∧ Blw D.q K u) := ⟨bel_up HB2.out.1 hb3, (HB2.out.2.1.arg (by omega)).below hb3, hA3.arg (by omega), hbl3⟩
    clear hb3 hA3 hbl3
    go_wp2_with (go_at_call 42; refine (HP3.out _).mono ?_; rintro e w' ⟨rfl, hw⟩; have hw := hw.symm; subst hw)
    refine (polySays_walk D.q (pick x D.q) ⟨HB3.out.2.1.sl, HB3.out.2.1.lt, HB3.out.2.1.nil, HB3.out.2.1.le, HB3.out.2.1.cap⟩ ⟨HB3.out.2.2.1.sl, HB3.out.2.2.1.lt, HB3.out.2.2.1.nil, HB3.out.2.2.1.le, HB3.out.2.2.1.cap⟩ (by omega) (by omega)).mono ?_
    rintro e w4 ⟨rfl, hb4⟩
    have HB4 : Hid (Below w.heap.size w w4) := bel_up HB3.out.1 hb4
    clear hb4 HB3 HB2
    go_wp2_with fail
    refine (places_any (HA.out.1.below HB4.out) (by omega) D.q M (by omega) (by omega) hMq).mono ?_
    rintro e w5 ⟨g, c, rfl, hgw, hrow, hper, hb5⟩
    have HB5 : Hid (Below w.heap.size w w5 ∧ Row g D.q c w5 ∧ Perm' D.q c) := ⟨bel_up HB4.out hb5, hrow, hper⟩
    clear hrow hper hb5 hgw
    go_wp2_with fail
    refine (HN1.out w5 HB5.out.1 M (by omega) M (by omega)).mono ?_
    rintro e w6 ⟨fo, fc, t, rfl, hA6, hbl6, hb6⟩
    have HT : Hid (Below w.heap.size w w6 ∧ Calls Try.prog 59 #[.int .i64 D.q, .slice (some ⟨g, 0, none⟩) M D.q, .slice fo M fc, .int .i64 0] w6 fun r w' => r = .returned (.bool true) ∧ Below w6.heap.size w6 w') := by
      have hr6 := HB5.out.2.1.below hb6 HB5.out.2.1.lt
      have hargs : Arg (some ⟨g, 0, none⟩) M D.q (fun j => ((c j : Nat) : Int)) w6 := ⟨(hr6.sl hMq).z, fun x hx => (by cases hx; exact hr6.lt), by omega, fun e => (by cases e), hMq, by omega⟩
      have hch1 : D.chk M (fun j => ((c j : Nat) : Int)) = 0 := blw_chk (fun j hj => ⟨by omega, by have := HB5.out.2.2.1 j (by omega); omega⟩) (by omega)
      have h := polyThrough_all HA.out.2 hargs (hA6.arg (by omega))
      rw [chk2_def, if_pos hch1, blw_chk hbl6 (by omega)] at h
      exact ⟨bel_up HB5.out.1 hb6, h⟩
    clear hA6 hbl6 hb6 HB5 HB4
    go_wp2_with fail
    refine HT.out.2.mono ?_
    rintro e w7 ⟨rfl, hb7⟩
    have HB7 : Hid (Below w.heap.size w w7) := bel_up HT.out.1 hb7
    clear hb7
    go_wp2
    go_ret
    exact ⟨by first | rfl | simp, HB7.out⟩
end Go.Proofs.Ytmnkablobhdbjaa
