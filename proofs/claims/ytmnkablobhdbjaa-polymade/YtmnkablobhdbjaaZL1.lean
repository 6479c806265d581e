/- Texts of ours, one behind the other: L1 L2 L3. -/
import Derived.Test.YtmnkablobhdbjaaZV11
import Derived.Test.YtmnkablobhdbjaaZB5
import Derived.Test.YtmnkablobhdbjaaZR9
/- What two answers are held together by: numbers, lists, lists of lists. -/
namespace Go.Proofs.Ytmnkablobhdbjaa
open Go.RowKit

set_option maxHeartbeats 2000000 in
theorem list_err2 (e : Int) (he : e ≠ 0) (ao : Option Addr) (ca : Nat) (vb : Value) (w : World) :
    Calls Try.prog 45 #[.slice ao 0 ca, .int .i64 e, vb, .int .i64 e] w fun r w' => r = .returned (.bool true) ∧ w' = w := by
  have h1 : (e != 0) = true := bne_iff_ne.2 he
  go_enter Try.func45, Try.ntmps45
  go_wp2
  go_ret
  exact ⟨rfl, rfl⟩
set_option maxHeartbeats 2000000 in
theorem lists_err2 (e : Int) (he : e ≠ 0) (ao : Option Addr) (ca : Nat) (vb : Value) (w : World) :
    Calls Try.prog 94 #[.slice ao 0 ca, .int .i64 e, vb, .int .i64 e] w fun r w' => r = .returned (.bool true) ∧ w' = w := by
  have h1 : (e != 0) = true := bne_iff_ne.2 he
  go_enter Try.func94, Try.ntmps94
  go_wp2
  go_ret
  exact ⟨rfl, rfl⟩
set_option maxHeartbeats 2000000 in
theorem num_err (e : Int) (he : e ≠ 0) (b : Int) (w : World) :
    Calls Try.prog 88 #[.int .i64 0, .int .i64 e, .int .i64 b, .int .i64 e] w fun r w' => r = .returned (.bool true) ∧ w' = w := by
  have h1 : (e != 0) = true := bne_iff_ne.2 he
  go_enter Try.func88, Try.ntmps88
  go_wp2
  go_ret
  exact ⟨rfl, rfl⟩
set_option maxHeartbeats 2000000 in
theorem num_same (a : Int) (w : World) :
    Calls Try.prog 88 #[.int .i64 a, .int .i64 0, .int .i64 a, .int .i64 0] w fun r w' => r = .returned (.bool true) ∧ w' = w := by
  go_enter Try.func88, Try.ntmps88
  go_wp2
  go_ret
  exact ⟨by simp, rfl⟩

/-- The reference's field, with its modulus where it lies. -/
theorem rfield_sl {D : FD} (hD : D ∈ fieldsL) (w : World) :
    Calls Try.prog 10 #[.int .i64 D.q] w fun e w' => ∃ gm cm, e = .returned (.tuple #[rf D.q D.p D.m D.gen (.slice (some ⟨gm, 0, none⟩) (D.m + 1) cm), .int .i64 0]) ∧ ModAt D (.slice (some ⟨gm, 0, none⟩) (D.m + 1) cm) D.md w' ∧ Below w.heap.size w w' := by
  refine (rfield_any hD w).mono ?_
  rintro e w' ⟨v, rfl, hown, hmod, hb⟩
  obtain ⟨gm, cm, fm, rfl, _⟩ := hown.row (D.m + 1) modL_len' (by have := (fld hD).m6; omega)
  exact ⟨gm, cm, rfl, hmod, hb⟩
theorem OwnP.sliceI {base n : Nat} {v : Value} {c : Nat → Nat} {w : World} (h : OwnP base v n c w) (hn : n ≤ 1000000) : SliceI v (zl n fun j => (c j : Nat)) w := by
  obtain ⟨ao, cap, rfl, _, _, _, _, _, hr⟩ := h
  by_cases h0 : n = 0
  · subst h0
    exact Or.inl ⟨rfl, ao, cap, rfl⟩
  · obtain ⟨g, rfl, hrow⟩ := hr (by omega)
    refine Or.inr ⟨fun e => ?_, by rw [zl_len]; exact hn, g, 0, cap, by rw [zl_len], fun j hj => ?_⟩
    · have := congrArg List.length e
      rw [zl_len] at this
      exact h0 this
    · rw [zl_len] at hj
      rw [Nat.zero_add, zl_getD n _ j hj]; exact hrow.cell j hj
theorem Elm.sliceI {v : Value} {p : Nat × (Nat → Nat)} {w : World} (h : Elm v p w) (hn : p.1 + 1 ≤ 1000000) : SliceI v (zl (p.1 + 1) fun j => (p.2 j : Nat)) w := by
  obtain ⟨g, cap, rfl, h1, h2, hr⟩ := h
  exact (OwnP.of_row (base := 0) hr (Nat.le_refl _) h1 h2 (Nat.zero_le _)).sliceI hn

set_option maxHeartbeats 2000000 in
set_option maxRecDepth 100000 in
theorem sameAll_lls {ba bb : Nat} {va vb : Value} {L : List (Nat × (Nat → Nat))} {w : World} (ha : LLs ba va L w) (hb : LLs bb vb L w) (hL : L.length ≤ 1000000) (hp : ∀ p ∈ L, p.1 + 1 ≤ 1000000) :
    Calls Try.prog 108 #[va, vb] w fun e w' => e = .returned (.bool true) ∧ ∃ n, w' = w.drewN n := by
  obtain ⟨l, ho, he⟩ := ha
  obtain ⟨l', ho', he'⟩ := hb
  obtain ⟨ao, ca, rfl, _, _, _, hc⟩ := ho.open
  obtain ⟨bo, cb, rfl, _, _, _, hc'⟩ := ho'.open
  rw [he.1, he'.1]
  have HC : Hid (Elms l L w ∧ Elms l' L w ∧ (∀ p ∈ L, p.1 + 1 ≤ 1000000) ∧ (∀ (j : Nat) (u : Value), l[j]? = some u → ∃ g, ao = some ⟨g, 0, none⟩ ∧ w.cell? ⟨g, j, none⟩ = some u ∧ w.frozen? ⟨g, j, none⟩ = false) ∧ (∀ (j : Nat) (u : Value), l'[j]? = some u → ∃ g, bo = some ⟨g, 0, none⟩ ∧ w.cell? ⟨g, j, none⟩ = some u ∧ w.frozen? ⟨g, j, none⟩ = false)) := ⟨he, he', hp, hc, hc'⟩
  clear he he' hp hc hc' ho ho'
  go_enter Try.func108, Try.ntmps108
  go_wp2
  go_loopw [5] (fun i wr => ∃ r : Nat, r ≤ L.length ∧ i = .int .i64 r ∧ ∃ n, wr = w.drewN n) (fun i _ => L.length - (intOf i).toNat)
  case atStart => exact ⟨0, by omega, rfl, 0, rfl⟩
  case round =>
    obtain ⟨r, hr, rfl, n, rfl⟩ := hrel
    by_cases hlt : r < L.length
    · have h1 := HC.out.1.1
      have h2 := HC.out.2.1.1
      obtain ⟨p, hp⟩ : ∃ p, L[r]? = some p := ⟨L[r], List.getElem?_eq_getElem hlt⟩
      obtain ⟨v, hv⟩ : ∃ v, l[r]? = some v := ⟨l[r]'(by omega), List.getElem?_eq_getElem _⟩
      obtain ⟨v', hv'⟩ : ∃ v', l'[r]? = some v' := ⟨l'[r]'(by omega), List.getElem?_eq_getElem _⟩
      obtain ⟨g, rfl, hc, _⟩ := HC.out.2.2.2.1 r v hv
      obtain ⟨g', rfl, hc', _⟩ := HC.out.2.2.2.2 r v' hv'
      have hpl := HC.out.2.2.1 p (List.mem_of_getElem? hp)
      have HS : Hid (∀ k, Calls Try.prog 15 #[v, v'] (w.drewN (n + k)) fun e w' => e = .returned (.bool true) ∧ ∃ m, w' = w.drewN (n + m)) := fun k => by
        refine (same_any (w := w.drewN (n + k)) ((HC.out.1.2 r v p hv hp).sliceI hpl) ((HC.out.2.1.2 r v' p hv' hp).sliceI hpl)).mono ?_
        rintro e w' ⟨rfl, m, rfl⟩
        exact ⟨by rw [decide_eq_true rfl], k + m, by rw [World.drewN_drewN, Nat.add_assoc]⟩
      have hib : (r : Int) < (L.length : Int) := by omega
      have hib0 : (0 : Int) ≤ (r : Int) := by omega
      clear h1 h2 hp hv hv' hpl
      go_wp2
      go_big_quiet (first | (go_at_call 15; exact HS.out _))
      go_wp2
      go_roundw
      case rel => exact ⟨r + 1, by omega, by go_num, _, by first | rfl | rw [World.drewN_drewN]⟩
      case measure => simp [intOf]; omega
    · go_wp2
      go_ret
      exact ⟨rfl, _, rfl⟩

set_option maxHeartbeats 2000000 in
theorem lists_same {ba bb : Nat} {va vb : Value} {L : List (Nat × (Nat → Nat))} {w : World} (ha : LLs ba va L w) (hb : LLs bb vb L w) (hL : L.length ≤ 1000000) (hp : ∀ p ∈ L, p.1 + 1 ≤ 1000000) :
    Calls Try.prog 94 #[va, .int .i64 0, vb, .int .i64 0] w fun r w' => r = .returned (.bool true) ∧ ∃ n, w' = w.drewN n := by
  have H : Hid (LLs ba va L w ∧ LLs bb vb L w ∧ ∀ p ∈ L, p.1 + 1 ≤ 1000000) := ⟨ha, hb, hp⟩
  clear ha hb hp
  go_enter Try.func94, Try.ntmps94
  go_wp2_with fail
  refine (sameAll_lls H.out.1 H.out.2.1 hL H.out.2.2).mono ?_
  rintro e w' ⟨rfl, n, rfl⟩
  go_wp2
  go_ret
  exact ⟨rfl, _, rfl⟩
end Go.Proofs.Ytmnkablobhdbjaa

/- PolySays: values (polyAt). -/
namespace Go.Proofs.Ytmnkablobhdbjaa
open Go.RowKit

set_option maxHeartbeats 2000000 in
set_option maxRecDepth 100000 in
theorem polyAt_err (q e : Int) (he : e ≠ 0) {ao : Option Addr} {n ca : Nat} (x : Int) {w : World}
    (h1 : Calls Try.prog 87 #[.int .i64 q, .slice ao n ca, .int .i64 x] w fun r w' => r = .returned (.tuple #[.int .i64 0, .int .i64 e]) ∧ Below w.heap.size w w') :
    Calls Try.prog 57 #[.int .i64 q, .slice ao n ca, .int .i64 x, .int .i64 e] w fun r w' => r = .returned (.bool true) ∧ Below w.heap.size w w' := by
  have H1 : Hid (Calls Try.prog 87 #[.int .i64 q, .slice ao n ca, .int .i64 x] w fun r w' => r = .returned (.tuple #[.int .i64 0, .int .i64 e]) ∧ Below w.heap.size w w') := h1
  have hz : (e == 0) = false := beq_eq_false_iff_ne.2 he
  clear h1
  go_enter Try.func57, Try.ntmps57
  go_wp2_with fail
  refine H1.out.mono ?_
  rintro r w1 ⟨rfl, hb1⟩
  have HB1 : Hid (Below w.heap.size w w1) := hb1
  clear hb1
  go_wp2_with (go_at_call 88; refine (num_err e he _ _).mono ?_; rintro r w2 ⟨rfl, hw⟩; have hw := hw.symm; subst hw)
  go_ret
  exact ⟨rfl, HB1.out⟩

theorem chk2_def (D : FD) (n : Nat) (z : Nat → Int) (m : Nat) (y : Nat → Int) : D.chk2 n z m y = if D.chk n z = 0 then D.chk m y else D.chk n z := by
  first | rfl | (unfold FD.chk2; rfl) | (unfold FD.chk2; split <;> simp_all)

set_option maxHeartbeats 4000000 in
set_option maxRecDepth 100000 in
theorem polyAt_any {D : FD} (hD : D ∈ fieldsL) {ao : Option Addr} {n ca : Nat} {z : Nat → Int} (x : Int) {w : World} (ha : Arg ao n ca z w) :
    Calls Try.prog 57 #[.int .i64 D.q, .slice ao n ca, .int .i64 x, .int .i64 (D.chk n z)] w fun r w' => r = .returned (.bool true) ∧ Below w.heap.size w w' := by
  by_cases h0 : D.chk n z = 0
  · have HA : Hid (D ∈ fieldsL ∧ Arg ao n ca z w ∧ D.chk n z = 0) := ⟨hD, ha, h0⟩
    have hn128 := (chk_zero h0).1
    rw [h0]
    clear hD ha h0
    have hal : Below w.heap.size w (w.alloc (.cells #[.int .i64 x] 3)) := (Below.refl _ _).alloc (Nat.le_refl _) _
    have HP : Hid (Calls Try.prog 46 #[.int .i64 D.q, .slice (some ⟨w.heap.size, 0, none⟩) 1 1] (w.alloc (.cells #[.int .i64 x] 3)) fun e w' => e = .returned (.int .i64 (D.chk 1 (fun _ => x))) ∧ Below w.heap.size w w') := by
      refine (polyMay_any HA.out.1 (z := fun _ => x) (fun j hj => ⟨w.heap.size, 0, rfl, by rw [show j = 0 from by omega]; rw [cell_of_row _ _ _ _ _ (0, 0) (two_new _)]; rfl⟩) (fun y hy => by cases hy; simp) (by omega)).mono ?_
      rintro e w' ⟨rfl, hb⟩
      exact ⟨rfl, bel_up hal hb⟩
    obtain ⟨e2, he2⟩ : ∃ e2, e2 = D.chk 1 (fun _ => x) := ⟨_, rfl⟩
    rw [← he2] at HP
    have HE : Hid (e2 = D.chk 1 (fun _ => x)) := he2
    clear he2 hal
    go_enter Try.func57, Try.ntmps57
    go_wp2_with fail
    refine HP.out.mono ?_
    rintro r w1 ⟨rfl, hb1⟩
    have HB1 : Hid (Below w.heap.size w w1) := hb1
    clear hb1 HP
    by_cases h2 : e2 = 0
    · subst h2
      have hxx : D.has x = true := (chk_zero HE.out.symm).2 0 (by omega)
      obtain ⟨y, rfl, hyq⟩ := has_nat hxx
      clear hxx
      go_wp2_with fail
      refine (rfield_sl HA.out.1 w1).mono ?_
      rintro e w2 ⟨gm, cm, rfl, hmod, hb2⟩
      have HM : Hid (ModAt D (.slice (some ⟨gm, 0, none⟩) (D.m + 1) cm) D.md w2 ∧ Below w.heap.size w w2) := ⟨hmod, bel_up HB1.out hb2⟩
      clear hmod hb2
      unfold rf
      have HP : Hid (∀ w3, Below w2.heap.size w2 w3 → Calls Try.prog 86 #[.agg #[.int .i64 D.q, .int .i64 D.p, .int .i64 D.m, .int .i64 D.gen, .slice (some ⟨gm, 0, none⟩) (D.m + 1) cm], .slice ao n ca, .int .i64 y] w3 fun e w' => e = .returned (.int .i64 (D.val (zc n z) n y n : Nat)) ∧ Below w3.heap.size w3 w') := fun w3 hb3 => by
        have hb := bel_up HM.out.2 hb3
        have hA := HA.out.2.1.below hb
        exact rpat_any HA.out.1 D.gen gm cm hyq (by omega) (zc_el (fld HA.out.1) HA.out.2.2) hA.lt (zc_sl HA.out.2.2 hA.sl) (HM.out.1.below hb3)
      go_wp2_with (go_at_call 86; refine (HP.out _ ((Below.refl _ _).alloc (Nat.le_refl _) _)).mono ?_; rintro r w4 ⟨rfl, hb4⟩; have HB4 : Hid (Below w.heap.size w w4) := bel_up (bel_up HM.out.2 ((Below.refl _ _).alloc (Nat.le_refl _) _)) hb4; clear hb4)
      refine (pat_any HA.out.1 (y : Int) (HA.out.2.1.below HB4.out)).mono ?_
      rintro e w5 ⟨hb5, h⟩
      rw [chk2_def, if_pos HA.out.2.2, ← HE.out] at h
      rcases h with ⟨_, rfl⟩ | ⟨h, _⟩
      · rw [Int.toNat_natCast]
        have HB5 : Hid (Below w.heap.size w w5) := bel_up HB4.out hb5
        clear hb5
        go_wp2_with (go_at_call 88; refine (num_same _ _).mono ?_; rintro r w6 ⟨rfl, hw⟩; have hw := hw.symm; subst hw)
        go_ret
        exact ⟨rfl, HB5.out⟩
      · exact absurd rfl h
    · have hz : (e2 == 0) = false := beq_eq_false_iff_ne.2 h2
      go_wp2_with fail
      refine (pat_any HA.out.1 x (HA.out.2.1.below HB1.out)).mono ?_
      rintro e w5 ⟨hb5, h⟩
      rw [chk2_def, if_pos HA.out.2.2, ← HE.out] at h
      rcases h with ⟨h, _⟩ | ⟨_, rfl⟩
      · exact absurd h h2
      · have HB5 : Hid (Below w.heap.size w w5) := bel_up HB1.out hb5
        clear hb5
        go_wp2_with (go_at_call 88; refine (num_err e2 h2 _ _).mono ?_; rintro r w6 ⟨rfl, hw⟩; have hw := hw.symm; subst hw)
        go_ret
        exact ⟨rfl, HB5.out⟩
  · refine polyAt_err _ _ h0 x ?_
    refine (pat_any hD x ha).mono ?_
    rintro e w' ⟨hb, h⟩
    rw [chk2_def, if_neg h0] at h
    rcases h with ⟨h, _⟩ | ⟨_, rfl⟩
    · exact absurd h h0
    · exact ⟨rfl, hb⟩
end Go.Proofs.Ytmnkablobhdbjaa

/- PolySays: roots and parts (polyRoots). -/
namespace Go.Proofs.Ytmnkablobhdbjaa
open Go.RowKit

set_option maxHeartbeats 2000000 in
set_option maxRecDepth 100000 in
theorem polyRoots_err (q e : Int) (he : e ≠ 0) {ao : Option Addr} {n ca : Nat} {w : World}
    (h1 : ∀ w1, Below w.heap.size w w1 → Calls Try.prog 91 #[.int .i64 q, .slice ao n ca] w1 fun r w' => r = .returned (.tuple #[.slice none 0 0, .int .i64 e]) ∧ Below w1.heap.size w1 w')
    (h2 : ∀ w1, Below w.heap.size w w1 → Calls Try.prog 92 #[.int .i64 q, .slice ao n ca] w1 fun r w' => ∃ lo lc, r = .returned (.tuple #[.slice lo 0 lc, .int .i64 e]) ∧ Below w1.heap.size w1 w')
    (h3 : ∀ w1, Below w.heap.size w w1 → Calls Try.prog 93 #[.int .i64 q, .slice ao n ca] w1 fun r w' => r = .returned (.tuple #[.bool false, .int .i64 e]) ∧ Below w1.heap.size w1 w') :
    Calls Try.prog 58 #[.int .i64 q, .slice ao n ca, .int .i64 e] w fun r w' => r = .returned (.bool true) ∧ Below w.heap.size w w' := by
  have HR : Hid (∀ w1, Below w.heap.size w w1 → Calls Try.prog 91 #[.int .i64 q, .slice ao n ca] w1 fun r w' => r = .returned (.tuple #[.slice none 0 0, .int .i64 e]) ∧ Below w1.heap.size w1 w') := h1
  have HC : Hid (∀ w1, Below w.heap.size w w1 → Calls Try.prog 92 #[.int .i64 q, .slice ao n ca] w1 fun r w' => ∃ lo lc, r = .returned (.tuple #[.slice lo 0 lc, .int .i64 e]) ∧ Below w1.heap.size w1 w') := h2
  have HI : Hid (∀ w1, Below w.heap.size w w1 → Calls Try.prog 93 #[.int .i64 q, .slice ao n ca] w1 fun r w' => r = .returned (.tuple #[.bool false, .int .i64 e]) ∧ Below w1.heap.size w1 w') := h3
  have hz : (e == 0) = false := beq_eq_false_iff_ne.2 he
  have hz2 : (e == e) = true := by simp
  clear h1 h2 h3
  go_enter Try.func58, Try.ntmps58
  go_wp2_with fail
  refine (HR.out _ (Below.refl _ _)).mono ?_
  rintro r wa ⟨rfl, hba⟩
  have HBa : Hid (Below w.heap.size w wa) := bel_up (Below.refl _ _) hba
  clear hba
  go_wp2_with fail
  refine (HC.out _ HBa.out).mono ?_
  rintro r wb ⟨lo, lc, rfl, hbb⟩
  have HBb : Hid (Below w.heap.size w wb) := bel_up HBa.out hbb
  clear hbb
  go_wp2_with fail
  refine (HI.out _ HBb.out).mono ?_
  rintro r wc ⟨rfl, hbc⟩
  have HBc : Hid (Below w.heap.size w wc) := bel_up HBb.out hbc
  clear hbc
  go_wp2_with (first | (go_at_call 45; refine (list_err2 e he _ _ _ _).mono ?_; rintro r wd ⟨rfl, hw⟩; have hw := hw.symm; subst hw) | (go_at_call 94; refine (lists_err2 e he _ _ _ _).mono ?_; rintro r wd ⟨rfl, hw⟩; have hw := hw.symm; subst hw))
  go_ret
  exact ⟨by first | rfl | simp, HBc.out⟩

theorem facSpec_len {D : FD} (hD : D ∈ fieldsL) {n : Nat} {z : Nat → Int} {er : Int} {L : List (Nat × (Nat → Nat))} (h : FacSpec D n z er L) (hn : n ≤ 128) : L.length ≤ 1000000 ∧ ∀ p ∈ L, p.1 + 1 ≤ 1000000 := by
  rcases h with ⟨h1, h2, _, _, h5⟩ | ⟨_, _, _, _, rfl⟩ | ⟨_, _, _, rfl⟩ | ⟨_, _, rfl⟩
  · obtain ⟨l, hl⟩ : ∃ l, dgn (zc n z) n = l + 1 := ⟨dgn (zc n z) n - 1, by omega⟩
    have hle := dgn_le (zc n z) n
    rw [hl] at h5
    have htr : Trd (l + 1) (zc n z) := by rw [← hl]; exact trd_dgn (zc_bd _ _)
    have hm := mon_mn hD (zc_el (fld hD) h1) htr
    refine ⟨?_, fun p hp => by have := pre_deg hD hm h5 p hp; omega⟩
    have := pre_length hD hm h5
    omega
  all_goals exact ⟨by simp, fun p hp => by simp at hp⟩

set_option maxHeartbeats 4000000 in
set_option maxRecDepth 100000 in
/-- Of noughts alone. -/
theorem polyRoots_zero {D : FD} (hD : D ∈ fieldsL) {ao : Option Addr} {n ca : Nat} {z : Nat → Int} {w : World} (ha : Arg ao n ca z w) (h0 : D.chk n z = 0) (hn0 : dgn (zc n z) n = 0)
    (h1 : ∀ w1, Below w.heap.size w w1 → Calls Try.prog 91 #[.int .i64 D.q, .slice ao n ca] w1 fun r w' => r = .returned (.tuple #[.slice none 0 0, .int .i64 5]) ∧ Below w1.heap.size w1 w')
    (h2 : ∀ w1, Below w.heap.size w w1 → Calls Try.prog 92 #[.int .i64 D.q, .slice ao n ca] w1 fun r w' => ∃ lo lc, r = .returned (.tuple #[.slice lo 0 lc, .int .i64 5]) ∧ Below w1.heap.size w1 w')
    (h3 : ∀ w1, Below w.heap.size w w1 → Calls Try.prog 93 #[.int .i64 D.q, .slice ao n ca] w1 fun r w' => r = .returned (.tuple #[.bool false, .int .i64 5]) ∧ Below w1.heap.size w1 w') :
    Calls Try.prog 58 #[.int .i64 D.q, .slice ao n ca, .int .i64 0] w fun r w' => r = .returned (.bool true) ∧ Below w.heap.size w w' := by
  have HA : Hid (D ∈ fieldsL ∧ Arg ao n ca z w ∧ D.chk n z = 0) := ⟨hD, ha, h0⟩
  have HR : Hid (∀ w1, Below w.heap.size w w1 → Calls Try.prog 91 #[.int .i64 D.q, .slice ao n ca] w1 fun r w' => r = .returned (.tuple #[.slice none 0 0, .int .i64 5]) ∧ Below w1.heap.size w1 w') := h1
  have HC : Hid (∀ w1, Below w.heap.size w w1 → Calls Try.prog 92 #[.int .i64 D.q, .slice ao n ca] w1 fun r w' => ∃ lo lc, r = .returned (.tuple #[.slice lo 0 lc, .int .i64 5]) ∧ Below w1.heap.size w1 w') := h2
  have HI : Hid (∀ w1, Below w.heap.size w w1 → Calls Try.prog 93 #[.int .i64 D.q, .slice ao n ca] w1 fun r w' => r = .returned (.tuple #[.bool false, .int .i64 5]) ∧ Below w1.heap.size w1 w') := h3
  have HT : Hid (Calls Try.prog 51 #[.slice ao n ca] w fun e w' => ∃ bo cb, e = .returned (.slice bo 0 cb) ∧ Below w.heap.size w w') := by
    refine (rtrim_any (zc_sl h0 ha.sl) ha.le ha.cap ha.nil ha.lt ha.few).mono ?_
    rintro e w' ⟨v, rfl, ho, hb⟩
    rw [hn0] at ho
    obtain ⟨bo, cb, rfl, _⟩ := ho.open
    exact ⟨bo, cb, rfl, hb⟩
  clear h1 h2 h3 hD ha h0 hn0
  go_enter Try.func58, Try.ntmps58
  go_wp2_with fail
  refine HT.out.mono ?_
  rintro e w1 ⟨bo, cb, rfl, hb1⟩
  have HB1 : Hid (Below w.heap.size w w1) := hb1
  clear hb1
  go_wp2_with fail
  refine (HR.out _ HB1.out).mono ?_
  rintro r wa ⟨rfl, hba⟩
  have HBa : Hid (Below w.heap.size w wa) := bel_up HB1.out hba
  clear hba
  go_wp2_with fail
  refine (HC.out _ HBa.out).mono ?_
  rintro r wb ⟨lo, lc, rfl, hbb⟩
  have HBb : Hid (Below w.heap.size w wb) := bel_up HBa.out hbb
  clear hbb
  go_wp2_with fail
  refine (HI.out _ HBb.out).mono ?_
  rintro r wc ⟨rfl, hbc⟩
  have HBc : Hid (Below w.heap.size w wc) := bel_up HBb.out hbc
  clear hbc
  go_wp2_with (first | (go_at_call 45; refine (list_err2 5 (by omega) _ _ _ _).mono ?_; rintro r wd ⟨rfl, hw⟩; have hw := hw.symm; subst hw) | (go_at_call 94; refine (lists_err2 5 (by omega) _ _ _ _).mono ?_; rintro r wd ⟨rfl, hw⟩; have hw := hw.symm; subst hw))
  go_ret
  exact ⟨by first | rfl | simp, HBc.out⟩

end Go.Proofs.Ytmnkablobhdbjaa
