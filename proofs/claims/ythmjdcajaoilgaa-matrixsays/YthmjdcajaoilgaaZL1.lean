/- Texts of ours, one behind the other: L1 L2 L3 L4. -/
import Derived.Test.YthmjdcajaoilgaaZV11
import Derived.Test.YthmjdcajaoilgaaZB7
import Derived.Test.YthmjdcajaoilgaaZR10
/- What two answers are held together by: numbers, lists, lists of lists. -/
namespace Go.Proofs.Ythmjdcajaoilgaa
open Go.RowKit

set_option maxHeartbeats 2000000 in
theorem list_err2 (e : Int) (he : e ≠ 0) (ao : Option Addr) (ca : Nat) (vb : Value) (w : World) :
    Calls Try.prog 45 #[.slice ao 0 ca, .int .i64 e, vb, .int .i64 e] w fun r w' => r = .returned (.bool true) ∧ w' = w := by
  have h1 : (e != 0) = true := bne_iff_ne.2 he
  go_enter Try.func45, Try.ntmps45
  go_wp2
  go_ret
  exact ⟨rfl, rfl⟩
set_option maxHeartbeats 2000000 in
theorem lists_err2 (e : Int) (he : e ≠ 0) (ao : Option Addr) (ca : Nat) (vb : Value) (w : World) :
    Calls Try.prog 68 #[.slice ao 0 ca, .int .i64 e, vb, .int .i64 e] w fun r w' => r = .returned (.bool true) ∧ w' = w := by
  have h1 : (e != 0) = true := bne_iff_ne.2 he
  go_enter Try.func68, Try.ntmps68
  go_wp2
  go_ret
  exact ⟨rfl, rfl⟩
set_option maxHeartbeats 2000000 in
theorem num_err (e : Int) (he : e ≠ 0) (b : Int) (w : World) :
    Calls Try.prog 94 #[.int .i64 0, .int .i64 e, .int .i64 b, .int .i64 e] w fun r w' => r = .returned (.bool true) ∧ w' = w := by
  have h1 : (e != 0) = true := bne_iff_ne.2 he
  go_enter Try.func94, Try.ntmps94
  go_wp2
  go_ret
  exact ⟨rfl, rfl⟩
set_option maxHeartbeats 2000000 in
theorem num_same (a : Int) (w : World) :
    Calls Try.prog 94 #[.int .i64 a, .int .i64 0, .int .i64 a, .int .i64 0] w fun r w' => r = .returned (.bool true) ∧ w' = w := by
  go_enter Try.func94, Try.ntmps94
  go_wp2
  go_ret
  exact ⟨by simp, rfl⟩

/-- The reference's field, with its modulus where it lies. -/
theorem rfield_sl {D : FD} (hD : D ∈ fieldsL) (w : World) :
    Calls Try.prog 10 #[.int .i64 D.q] w fun e w' => ∃ gm cm, e = .returned (.tuple #[rf D.q D.p D.m D.gen (.slice (some ⟨gm, 0, none⟩) (D.m + 1) cm), .int .i64 0]) ∧ ModAt D (.slice (some ⟨gm, 0, none⟩) (D.m + 1) cm) D.md w' ∧ Below w.heap.size w w' := by
  refine (rfield_any hD w).mono ?_
  rintro e w' ⟨v, rfl, hown, hmod, hb⟩
  obtain ⟨gm, cm, fm, rfl, _⟩ := hown.row (D.m + 1) modL_len' (by have := (fld hD).m6; omega)
  exact ⟨gm, cm, rfl, hmod, hb⟩
theorem OwnP.sliceI {base n : Nat} {v : Value} {c : Nat → Nat} {w : World} (h : OwnP base v n c w) (hn : n ≤ 1000000) : SliceI v (zl n fun j => (c j : Nat)) w := by
  obtain ⟨ao, cap, rfl, _, _, _, _, _, hr⟩ := h
  by_cases h0 : n = 0
  · subst h0
    exact Or.inl ⟨rfl, ao, cap, rfl⟩
  · obtain ⟨g, rfl, hrow⟩ := hr (by omega)
    refine Or.inr ⟨fun e => ?_, by rw [zl_len]; exact hn, g, 0, cap, by rw [zl_len], fun j hj => ?_⟩
    · have := congrArg List.length e
      rw [zl_len] at this
      exact h0 this
    · rw [zl_len] at hj
      rw [Nat.zero_add, zl_getD n _ j hj]; exact hrow.cell j hj
theorem Elm.sliceI {v : Value} {p : Nat × (Nat → Nat)} {w : World} (h : Elm v p w) (hn : p.1 + 1 ≤ 1000000) : SliceI v (zl (p.1 + 1) fun j => (p.2 j : Nat)) w := by
  obtain ⟨g, cap, rfl, h1, h2, hr⟩ := h
  exact (OwnP.of_row (base := 0) hr (Nat.le_refl _) h1 h2 (Nat.zero_le _)).sliceI hn

set_option maxHeartbeats 2000000 in
set_option maxRecDepth 100000 in
theorem sameAll_lls {ba bb : Nat} {va vb : Value} {L : List (Nat × (Nat → Nat))} {w : World} (ha : LLs ba va L w) (hb : LLs bb vb L w) (hL : L.length ≤ 1000000) (hp : ∀ p ∈ L, p.1 + 1 ≤ 1000000) :
    Calls Try.prog 108 #[va, vb] w fun e w' => e = .returned (.bool true) ∧ ∃ n, w' = w.drewN n := by
  obtain ⟨l, ho, he⟩ := ha
  obtain ⟨l', ho', he'⟩ := hb
  obtain ⟨ao, ca, rfl, _, _, _, hc⟩ := ho.open
  obtain ⟨bo, cb, rfl, _, _, _, hc'⟩ := ho'.open
  rw [he.1, he'.1]
  have HC : Hid (Elms l L w ∧ Elms l' L w ∧ (∀ p ∈ L, p.1 + 1 ≤ 1000000) ∧ (∀ (j : Nat) (u : Value), l[j]? = some u → ∃ g, ao = some ⟨g, 0, none⟩ ∧ w.cell? ⟨g, j, none⟩ = some u ∧ w.frozen? ⟨g, j, none⟩ = false) ∧ (∀ (j : Nat) (u : Value), l'[j]? = some u → ∃ g, bo = some ⟨g, 0, none⟩ ∧ w.cell? ⟨g, j, none⟩ = some u ∧ w.frozen? ⟨g, j, none⟩ = false)) := ⟨he, he', hp, hc, hc'⟩
  clear he he' hp hc hc' ho ho'
  go_enter Try.func108, Try.ntmps108
  go_wp2
  go_loopw [5] (fun i wr => ∃ r : Nat, r ≤ L.length ∧ i = .int .i64 r ∧ ∃ n, wr = w.drewN n) (fun i _ => L.length - (intOf i).toNat)
  case atStart => exact ⟨0, by omega, rfl, 0, rfl⟩
  case round =>
    obtain ⟨r, hr, rfl, n, rfl⟩ := hrel
    by_cases hlt : r < L.length
    · have h1 := HC.out.1.1
      have h2 := HC.out.2.1.1
      obtain ⟨p, hp⟩ : ∃ p, L[r]? = some p := ⟨L[r], List.getElem?_eq_getElem hlt⟩
      obtain ⟨v, hv⟩ : ∃ v, l[r]? = some v := ⟨l[r]'(by omega), List.getElem?_eq_getElem _⟩
      obtain ⟨v', hv'⟩ : ∃ v', l'[r]? = some v' := ⟨l'[r]'(by omega), List.getElem?_eq_getElem _⟩
      obtain ⟨g, rfl, hc, _⟩ := HC.out.2.2.2.1 r v hv
      obtain ⟨g', rfl, hc', _⟩ := HC.out.2.2.2.2 r v' hv'
      have hpl := HC.out.2.2.1 p (List.mem_of_getElem? hp)
      have HS : Hid (∀ k, Calls Try.prog 15 #[v, v'] (w.drewN (n + k)) fun e w' => e = .returned (.bool true) ∧ ∃ m, w' = w.drewN (n + m)) := fun k => by
        refine (same_any (w := w.drewN (n + k)) ((HC.out.1.2 r v p hv hp).sliceI hpl) ((HC.out.2.1.2 r v' p hv' hp).sliceI hpl)).mono ?_
        rintro e w' ⟨rfl, m, rfl⟩
        exact ⟨by rw [decide_eq_true rfl], k + m, by rw [World.drewN_drewN, Nat.add_assoc]⟩
      have hib : (r : Int) < (L.length : Int) := by omega
      have hib0 : (0 : Int) ≤ (r : Int) := by omega
      clear h1 h2 hp hv hv' hpl
      go_wp2
      go_big_quiet (first | (go_at_call 15; exact HS.out _))
      go_wp2
      go_roundw
      case rel => exact ⟨r + 1, by omega, by go_num, _, by first | rfl | rw [World.drewN_drewN]⟩
      case measure => simp [intOf]; omega
    · go_wp2
      go_ret
      exact ⟨rfl, _, rfl⟩

set_option maxHeartbeats 2000000 in
theorem lists_same {ba bb : Nat} {va vb : Value} {L : List (Nat × (Nat → Nat))} {w : World} (ha : LLs ba va L w) (hb : LLs bb vb L w) (hL : L.length ≤ 1000000) (hp : ∀ p ∈ L, p.1 + 1 ≤ 1000000) :
    Calls Try.prog 68 #[va, .int .i64 0, vb, .int .i64 0] w fun r w' => r = .returned (.bool true) ∧ ∃ n, w' = w.drewN n := by
  have H : Hid (LLs ba va L w ∧ LLs bb vb L w ∧ ∀ p ∈ L, p.1 + 1 ≤ 1000000) := ⟨ha, hb, hp⟩
  clear ha hb hp
  go_enter Try.func68, Try.ntmps68
  go_wp2_with fail
  refine (sameAll_lls H.out.1 H.out.2.1 hL H.out.2.2).mono ?_
  rintro e w' ⟨rfl, n, rfl⟩
  go_wp2
  go_ret
  exact ⟨rfl, _, rfl⟩
end Go.Proofs.Ythmjdcajaoilgaa

/- PolySays: values (polyAt). -/
namespace Go.Proofs.Ythmjdcajaoilgaa
open Go.RowKit

set_option maxHeartbeats 2000000 in
set_option maxRecDepth 100000 in
theorem polyAt_err (q e : Int) (he : e ≠ 0) {ao : Option Addr} {n ca : Nat} (x : Int) {w : World}
    (h1 : Calls Try.prog 93 #[.int .i64 q, .slice ao n ca, .int .i64 x] w fun r w' => r = .returned (.tuple #[.int .i64 0, .int .i64 e]) ∧ Below w.heap.size w w') :
    Calls Try.prog 57 #[.int .i64 q, .slice ao n ca, .int .i64 x, .int .i64 e] w fun r w' => r = .returned (.bool true) ∧ Below w.heap.size w w' := by
  have H1 : Hid (Calls Try.prog 93 #[.int .i64 q, .slice ao n ca, .int .i64 x] w fun r w' => r = .returned (.tuple #[.int .i64 0, .int .i64 e]) ∧ Below w.heap.size w w') := h1
  have hz : (e == 0) = false := beq_eq_false_iff_ne.2 he
  clear h1
  go_enter Try.func57, Try.ntmps57
  go_wp2_with fail
  refine H1.out.mono ?_
  rintro r w1 ⟨rfl, hb1⟩
  have HB1 : Hid (Below w.heap.size w w1) := hb1
  clear hb1
  go_wp2_with (go_at_call 94; refine (num_err e he _ _).mono ?_; rintro r w2 ⟨rfl, hw⟩; have hw := hw.symm; subst hw)
  go_ret
  exact ⟨rfl, HB1.out⟩

theorem chk2_def (D : FD) (n : Nat) (z : Nat → Int) (m : Nat) (y : Nat → Int) : D.chk2 n z m y = if D.chk n z = 0 then D.chk m y else D.chk n z := by
  first | rfl | (unfold FD.chk2; rfl) | (unfold FD.chk2; split <;> simp_all)

set_option maxHeartbeats 4000000 in
set_option maxRecDepth 100000 in
theorem polyAt_any {D : FD} (hD : D ∈ fieldsL) {ao : Option Addr} {n ca : Nat} {z : Nat → Int} (x : Int) {w : World} (ha : Arg ao n ca z w) :
    Calls Try.prog 57 #[.int .i64 D.q, .slice ao n ca, .int .i64 x, .int .i64 (D.chk n z)] w fun r w' => r = .returned (.bool true) ∧ Below w.heap.size w w' := by
  by_cases h0 : D.chk n z = 0
  · have HA : Hid (D ∈ fieldsL ∧ Arg ao n ca z w ∧ D.chk n z = 0) := ⟨hD, ha, h0⟩
    have hn128 := (chk_zero h0).1
    rw [h0]
    clear hD ha h0
    have hal : Below w.heap.size w (w.alloc (.cells #[.int .i64 x] 3)) := (Below.refl _ _).alloc (Nat.le_refl _) _
    have HP : Hid (Calls Try.prog 46 #[.int .i64 D.q, .slice (some ⟨w.heap.size, 0, none⟩) 1 1] (w.alloc (.cells #[.int .i64 x] 3)) fun e w' => e = .returned (.int .i64 (D.chk 1 (fun _ => x))) ∧ Below w.heap.size w w') := by
      refine (polyMay_any HA.out.1 (z := fun _ => x) (fun j hj => ⟨w.heap.size, 0, rfl, by rw [show j = 0 from by omega]; rw [cell_of_row _ _ _ _ _ (0, 0) (two_new _)]; rfl⟩) (fun y hy => by cases hy; simp) (by omega)).mono ?_
      rintro e w' ⟨rfl, hb⟩
      exact ⟨rfl, bel_up hal hb⟩
    obtain ⟨e2, he2⟩ : ∃ e2, e2 = D.chk 1 (fun _ => x) := ⟨_, rfl⟩
    rw [← he2] at HP
    have HE : Hid (e2 = D.chk 1 (fun _ => x)) := he2
    clear he2 hal
    go_enter Try.func57, Try.ntmps57
    go_wp2_with fail
    refine HP.out.mono ?_
    rintro r w1 ⟨rfl, hb1⟩
    have HB1 : Hid (Below w.heap.size w w1) := hb1
    clear hb1 HP
    by_cases h2 : e2 = 0
    · subst h2
      have hxx : D.has x = true := (chk_zero HE.out.symm).2 0 (by omega)
      obtain ⟨y, rfl, hyq⟩ := has_nat hxx
      clear hxx
      go_wp2_with fail
      refine (rfield_sl HA.out.1 w1).mono ?_
      rintro e w2 ⟨gm, cm, rfl, hmod, hb2⟩
      have HM : Hid (ModAt D (.slice (some ⟨gm, 0, none⟩) (D.m + 1) cm) D.md w2 ∧ Below w.heap.size w w2) := ⟨hmod, bel_up HB1.out hb2⟩
      clear hmod hb2
      unfold rf
      have HP : Hid (∀ w3, Below w2.heap.size w2 w3 → Calls Try.prog 92 #[.agg #[.int .i64 D.q, .int .i64 D.p, .int .i64 D.m, .int .i64 D.gen, .slice (some ⟨gm, 0, none⟩) (D.m + 1) cm], .slice ao n ca, .int .i64 y] w3 fun e w' => e = .returned (.int .i64 (D.val (zc n z) n y n : Nat)) ∧ Below w3.heap.size w3 w') := fun w3 hb3 => by
        have hb := bel_up HM.out.2 hb3
        have hA := HA.out.2.1.below hb
        exact rpat_any HA.out.1 D.gen gm cm hyq (by omega) (zc_el (fld HA.out.1) HA.out.2.2) hA.lt (zc_sl HA.out.2.2 hA.sl) (HM.out.1.below hb3)
      go_wp2_with (go_at_call 92; refine (HP.out _ ((Below.refl _ _).alloc (Nat.le_refl _) _)).mono ?_; rintro r w4 ⟨rfl, hb4⟩; have HB4 : Hid (Below w.heap.size w w4) := bel_up (bel_up HM.out.2 ((Below.refl _ _).alloc (Nat.le_refl _) _)) hb4; clear hb4)
      refine (pat_any HA.out.1 (y : Int) (HA.out.2.1.below HB4.out)).mono ?_
      rintro e w5 ⟨hb5, h⟩
      rw [chk2_def, if_pos HA.out.2.2, ← HE.out] at h
      rcases h with ⟨_, rfl⟩ | ⟨h, _⟩
      · rw [Int.toNat_natCast]
        have HB5 : Hid (Below w.heap.size w w5) := bel_up HB4.out hb5
        clear hb5
        go_wp2_with (go_at_call 94; refine (num_same _ _).mono ?_; rintro r w6 ⟨rfl, hw⟩; have hw := hw.symm; subst hw)
        go_ret
        exact ⟨rfl, HB5.out⟩
      · exact absurd rfl h
    · have hz : (e2 == 0) = false := beq_eq_false_iff_ne.2 h2
      go_wp2_with fail
      refine (pat_any HA.out.1 x (HA.out.2.1.below HB1.out)).mono ?_
      rintro e w5 ⟨hb5, h⟩
      rw [chk2_def, if_pos HA.out.2.2, ← HE.out] at h
      rcases h with ⟨h, _⟩ | ⟨_, rfl⟩
      · exact absurd h h2
      · have HB5 : Hid (Below w.heap.size w w5) := bel_up HB1.out hb5
        clear hb5
        go_wp2_with (go_at_call 94; refine (num_err e2 h2 _ _).mono ?_; rintro r w6 ⟨rfl, hw⟩; have hw := hw.symm; subst hw)
        go_ret
        exact ⟨rfl, HB5.out⟩
  · refine polyAt_err _ _ h0 x ?_
    refine (pat_any hD x ha).mono ?_
    rintro e w' ⟨hb, h⟩
    rw [chk2_def, if_neg h0] at h
    rcases h with ⟨h, _⟩ | ⟨_, rfl⟩
    · exact absurd h h0
    · exact ⟨rfl, hb⟩
end Go.Proofs.Ythmjdcajaoilgaa

/- PolySays: roots and parts (polyRoots). -/
namespace Go.Proofs.Ythmjdcajaoilgaa
open Go.RowKit

set_option maxHeartbeats 2000000 in
set_option maxRecDepth 100000 in
theorem polyRoots_err (q e : Int) (he : e ≠ 0) {ao : Option Addr} {n ca : Nat} {w : World}
    (h1 : ∀ w1, Below w.heap.size w w1 → Calls Try.prog 97 #[.int .i64 q, .slice ao n ca] w1 fun r w' => r = .returned (.tuple #[.slice none 0 0, .int .i64 e]) ∧ Below w1.heap.size w1 w')
    (h2 : ∀ w1, Below w.heap.size w w1 → Calls Try.prog 98 #[.int .i64 q, .slice ao n ca] w1 fun r w' => ∃ lo lc, r = .returned (.tuple #[.slice lo 0 lc, .int .i64 e]) ∧ Below w1.heap.size w1 w')
    (h3 : ∀ w1, Below w.heap.size w w1 → Calls Try.prog 99 #[.int .i64 q, .slice ao n ca] w1 fun r w' => r = .returned (.tuple #[.bool false, .int .i64 e]) ∧ Below w1.heap.size w1 w') :
    Calls Try.prog 58 #[.int .i64 q, .slice ao n ca, .int .i64 e] w fun r w' => r = .returned (.bool true) ∧ Below w.heap.size w w' := by
  have HR : Hid (∀ w1, Below w.heap.size w w1 → Calls Try.prog 97 #[.int .i64 q, .slice ao n ca] w1 fun r w' => r = .returned (.tuple #[.slice none 0 0, .int .i64 e]) ∧ Below w1.heap.size w1 w') := h1
  have HC : Hid (∀ w1, Below w.heap.size w w1 → Calls Try.prog 98 #[.int .i64 q, .slice ao n ca] w1 fun r w' => ∃ lo lc, r = .returned (.tuple #[.slice lo 0 lc, .int .i64 e]) ∧ Below w1.heap.size w1 w') := h2
  have HI : Hid (∀ w1, Below w.heap.size w w1 → Calls Try.prog 99 #[.int .i64 q, .slice ao n ca] w1 fun r w' => r = .returned (.tuple #[.bool false, .int .i64 e]) ∧ Below w1.heap.size w1 w') := h3
  have hz : (e == 0) = false := beq_eq_false_iff_ne.2 he
  have hz2 : (e == e) = true := by simp
  clear h1 h2 h3
  go_enter Try.func58, Try.ntmps58
  go_wp2_with fail
  refine (HR.out _ (Below.refl _ _)).mono ?_
  rintro r wa ⟨rfl, hba⟩
  have HBa : Hid (Below w.heap.size w wa) := bel_up (Below.refl _ _) hba
  clear hba
  go_wp2_with fail
  refine (HC.out _ HBa.out).mono ?_
  rintro r wb ⟨lo, lc, rfl, hbb⟩
  have HBb : Hid (Below w.heap.size w wb) := bel_up HBa.out hbb
  clear hbb
  go_wp2_with fail
  refine (HI.out _ HBb.out).mono ?_
  rintro r wc ⟨rfl, hbc⟩
  have HBc : Hid (Below w.heap.size w wc) := bel_up HBb.out hbc
  clear hbc
  go_wp2_with (first | (go_at_call 45; refine (list_err2 e he _ _ _ _).mono ?_; rintro r wd ⟨rfl, hw⟩; have hw := hw.symm; subst hw) | (go_at_call 68; refine (lists_err2 e he _ _ _ _).mono ?_; rintro r wd ⟨rfl, hw⟩; have hw := hw.symm; subst hw))
  go_ret
  exact ⟨by first | rfl | simp, HBc.out⟩

theorem facSpec_len {D : FD} (hD : D ∈ fieldsL) {n : Nat} {z : Nat → Int} {er : Int} {L : List (Nat × (Nat → Nat))} (h : FacSpec D n z er L) (hn : n ≤ 128) : L.length ≤ 1000000 ∧ ∀ p ∈ L, p.1 + 1 ≤ 1000000 := by
  rcases h with ⟨h1, h2, _, _, h5⟩ | ⟨_, _, _, _, rfl⟩ | ⟨_, _, _, rfl⟩ | ⟨_, _, rfl⟩
  · obtain ⟨l, hl⟩ : ∃ l, dgn (zc n z) n = l + 1 := ⟨dgn (zc n z) n - 1, by omega⟩
    have hle := dgn_le (zc n z) n
    rw [hl] at h5
    have htr : Trd (l + 1) (zc n z) := by rw [← hl]; exact trd_dgn (zc_bd _ _)
    have hm := mon_mn hD (zc_el (fld hD) h1) htr
    refine ⟨?_, fun p hp => by have := pre_deg hD hm h5 p hp; omega⟩
    have := pre_length hD hm h5
    omega
  all_goals exact ⟨by simp, fun p hp => by simp at hp⟩

set_option maxHeartbeats 4000000 in
set_option maxRecDepth 100000 in
/-- Of noughts alone. -/
theorem polyRoots_zero {D : FD} (hD : D ∈ fieldsL) {ao : Option Addr} {n ca : Nat} {z : Nat → Int} {w : World} (ha : Arg ao n ca z w) (h0 : D.chk n z = 0) (hn0 : dgn (zc n z) n = 0)
    (h1 : ∀ w1, Below w.heap.size w w1 → Calls Try.prog 97 #[.int .i64 D.q, .slice ao n ca] w1 fun r w' => r = .returned (.tuple #[.slice none 0 0, .int .i64 5]) ∧ Below w1.heap.size w1 w')
    (h2 : ∀ w1, Below w.heap.size w w1 → Calls Try.prog 98 #[.int .i64 D.q, .slice ao n ca] w1 fun r w' => ∃ lo lc, r = .returned (.tuple #[.slice lo 0 lc, .int .i64 5]) ∧ Below w1.heap.size w1 w')
    (h3 : ∀ w1, Below w.heap.size w w1 → Calls Try.prog 99 #[.int .i64 D.q, .slice ao n ca] w1 fun r w' => r = .returned (.tuple #[.bool false, .int .i64 5]) ∧ Below w1.heap.size w1 w') :
    Calls Try.prog 58 #[.int .i64 D.q, .slice ao n ca, .int .i64 0] w fun r w' => r = .returned (.bool true) ∧ Below w.heap.size w w' := by
  have HA : Hid (D ∈ fieldsL ∧ Arg ao n ca z w ∧ D.chk n z = 0) := ⟨hD, ha, h0⟩
  have HR : Hid (∀ w1, Below w.heap.size w w1 → Calls Try.prog 97 #[.int .i64 D.q, .slice ao n ca] w1 fun r w' => r = .returned (.tuple #[.slice none 0 0, .int .i64 5]) ∧ Below w1.heap.size w1 w') := h1
  have HC : Hid (∀ w1, Below w.heap.size w w1 → Calls Try.prog 98 #[.int .i64 D.q, .slice ao n ca] w1 fun r w' => ∃ lo lc, r = .returned (.tuple #[.slice lo 0 lc, .int .i64 5]) ∧ Below w1.heap.size w1 w') := h2
  have HI : Hid (∀ w1, Below w.heap.size w w1 → Calls Try.prog 99 #[.int .i64 D.q, .slice ao n ca] w1 fun r w' => r = .returned (.tuple #[.bool false, .int .i64 5]) ∧ Below w1.heap.size w1 w') := h3
  have HT : Hid (Calls Try.prog 51 #[.slice ao n ca] w fun e w' => ∃ bo cb, e = .returned (.slice bo 0 cb) ∧ Below w.heap.size w w') := by
    refine (rtrim_any (zc_sl h0 ha.sl) ha.le ha.cap ha.nil ha.lt ha.few).mono ?_
    rintro e w' ⟨v, rfl, ho, hb⟩
    rw [hn0] at ho
    obtain ⟨bo, cb, rfl, _⟩ := ho.open
    exact ⟨bo, cb, rfl, hb⟩
  clear h1 h2 h3 hD ha h0 hn0
  go_enter Try.func58, Try.ntmps58
  go_wp2_with fail
  refine HT.out.mono ?_
  rintro e w1 ⟨bo, cb, rfl, hb1⟩
  have HB1 : Hid (Below w.heap.size w w1) := hb1
  clear hb1
  go_wp2_with fail
  refine (HR.out _ HB1.out).mono ?_
  rintro r wa ⟨rfl, hba⟩
  have HBa : Hid (Below w.heap.size w wa) := bel_up HB1.out hba
  clear hba
  go_wp2_with fail
  refine (HC.out _ HBa.out).mono ?_
  rintro r wb ⟨lo, lc, rfl, hbb⟩
  have HBb : Hid (Below w.heap.size w wb) := bel_up HBa.out hbb
  clear hbb
  go_wp2_with fail
  refine (HI.out _ HBb.out).mono ?_
  rintro r wc ⟨rfl, hbc⟩
  have HBc : Hid (Below w.heap.size w wc) := bel_up HBb.out hbc
  clear hbc
  go_wp2_with (first | (go_at_call 45; refine (list_err2 5 (by omega) _ _ _ _).mono ?_; rintro r wd ⟨rfl, hw⟩; have hw := hw.symm; subst hw) | (go_at_call 68; refine (lists_err2 5 (by omega) _ _ _ _).mono ?_; rintro r wd ⟨rfl, hw⟩; have hw := hw.symm; subst hw))
  go_ret
  exact ⟨by first | rfl | simp, HBc.out⟩

end Go.Proofs.Ythmjdcajaoilgaa

/- PolySays: roots and parts (polyRoots), the rest. -/
namespace Go.Proofs.Ythmjdcajaoilgaa
open Go.RowKit

set_option maxHeartbeats 8000000 in
set_option maxRecDepth 100000 in
theorem polyRoots_ok {D : FD} (hD : D ∈ fieldsL) {ao : Option Addr} {n ca : Nat} {z : Nat → Int} {w : World} (ha : Arg ao n ca z w) (h0 : D.chk n z = 0) {l : Nat} (hl : dgn (zc n z) n = l + 1) :
    Calls Try.prog 58 #[.int .i64 D.q, .slice ao n ca, .int .i64 0] w fun r w' => r = .returned (.bool true) ∧ Below w.heap.size w w' := by
  have HA : Hid (D ∈ fieldsL ∧ Arg ao n ca z w) := ⟨hD, ha⟩
  have HN : Hid (D.chk n z = 0 ∧ dgn (zc n z) n = l + 1 ∧ ¬ dgn (zc n z) n = 0) := ⟨h0, hl, by omega⟩
  have hn128 := (chk_zero h0).1
  have hl1 : l + 1 ≤ n := by rw [← hl]; exact dgn_le _ _
  have h64 := (fld hD).q64
  have h2q := (fld hD).q2
  have HT : Hid (∀ w1, Below w.heap.size w w1 → Calls Try.prog 51 #[.slice ao n ca] w1 fun e w' => ∃ bo cb, e = .returned (.slice bo (l + 1) cb) ∧ Below w1.heap.size w1 w') := fun w1 hb1 => by
    have ha1 := ha.below hb1
    refine (rtrim_any (zc_sl h0 ha1.sl) ha1.le ha1.cap ha1.nil ha1.lt ha1.few).mono ?_
    rintro e w' ⟨v, rfl, ho, hb⟩
    rw [hl] at ho
    obtain ⟨bo, cb, rfl, _⟩ := ho.open
    exact ⟨bo, cb, rfl, hb⟩
  have hz1 : ((l : Int) + 1 == 0) = false := by rw [beq_eq_false_iff_ne]; omega
  clear hD ha h0 hl
  go_enter Try.func58, Try.ntmps58
  go_wp2_with fail
  refine (HT.out w (Below.refl _ _)).mono ?_
  rintro e w1 ⟨bo, cb, rfl, hb1⟩
  have HB1 : Hid (Below w.heap.size w w1) := hb1
  clear hb1
  go_wp2_with fail
  refine (rfield_sl HA.out.1 w1).mono ?_
  rintro e w2 ⟨gm, cm, rfl, hmod, hb2⟩
  have HM : Hid (ModAt D (.slice (some ⟨gm, 0, none⟩) (D.m + 1) cm) D.md w2 ∧ Below w.heap.size w w2) := ⟨hmod, bel_up HB1.out hb2⟩
  clear hmod hb2 HB1
  unfold rf
  have HB0 : Hid (Box w2.heap.size D D.gen (.slice (some ⟨gm, 0, none⟩) (D.m + 1) cm) (w2.alloc (.cells #[.int .i64 D.q, .int .i64 D.p, .int .i64 D.m, .int .i64 D.gen, .slice (some ⟨gm, 0, none⟩) (D.m + 1) cm] 28))) := box_new D D.gen _ w2
  have hs2 := HM.out.2.size
  go_wp2_with fail
  go_loopw [7, 12] (fun vl i wr => ∃ x : Nat, x ≤ D.q ∧ i = .int .i64 x ∧ Hid (OwnI (w2.heap.size + 1) vl (D.rootsL (zc n z) n x) wr ∧ Below w2.heap.size w2 wr ∧ Box w2.heap.size D D.gen (.slice (some ⟨gm, 0, none⟩) (D.m + 1) cm) wr) ∧ w2.heap.size < wr.heap.size) (fun _ i _ => D.q - (intOf i).toNat)
  case atStart => exact ⟨0, by omega, rfl, ⟨OwnI.nil _ _, (Below.refl _ _).alloc (Nat.le_refl _) _, HB0.out⟩, by simp⟩
  case round =>
    clear HB0
    obtain ⟨x, hx, rfl, HG, hsz⟩ := hrel
    have hlen := rootsL_len D (zc n z) n x
    obtain ⟨k0, k1, k2, k3, k4⟩ := HG.out.2.2
    by_cases hlt : x < D.q
    · have hl2 : (x : Int) < (D.q : Int) := by omega
      obtain ⟨y, hy⟩ : ∃ y, y = D.val (zc n z) n x n := ⟨_, rfl⟩
      have HC : Hid (Calls Try.prog 92 #[.agg #[.int .i64 D.q, .int .i64 D.p, .int .i64 D.m, .int .i64 D.gen, .slice (some ⟨gm, 0, none⟩) (D.m + 1) cm], .slice ao n ca, .int .i64 x] wr fun e w' => e = .returned (.int .i64 (y : Nat)) ∧ Below wr.heap.size wr w') := by
        show Calls _ _ _ _ _
        rw [hy]
        have hA := HA.out.2.below (bel_up HM.out.2 HG.out.2.1)
        exact rpat_any HA.out.1 D.gen gm cm hlt (by omega) (zc_el (fld HA.out.1) HN.out.1) hA.lt (zc_sl HN.out.1 hA.sl) (HM.out.1.below HG.out.2.1)
      go_wp2_with fail
      refine HC.out.mono ?_
      rintro e w3 ⟨rfl, hb3⟩
      have hs3 := hb3.size
      have HG3 : Hid (OwnI (w2.heap.size + 1) u7 (D.rootsL (zc n z) n x) w3 ∧ Below w2.heap.size w2 w3 ∧ Box w2.heap.size D D.gen (.slice (some ⟨gm, 0, none⟩) (D.m + 1) cm) w3) := ⟨HG.out.1.below hb3 (fun k hk => (HG.out.1.lt k hk).2), bel_up HG.out.2.1 hb3, HG.out.2.2.below hb3 hsz⟩
      clear HC hb3 k0 k1 k2 k3 k4 HG
      by_cases he : y = 0
      · have hbe : ((y : Int) == 0) = true := by rw [he]; rfl
        have HL : Hid (D.rootsL (zc n z) n (x + 1) = D.rootsL (zc n z) n x ++ [(x : Int)]) := rootsL_yes (by rw [← hy, he])
        clear he hy
        go_wp2_with (at_builtin; refine append_int rfl _ _ rfl (w2.heap.size + 1) _ (D.rootsL (zc n z) n x) rfl (HG3.out.1.alloc _) ⟨_, 0, none⟩ 1 x rfl (by simp) (by omega) (by simp; omega) ?_; intro v2 w4 hown4 hg4)
        have hal : Below w3.heap.size w3 (w3.alloc (.cells #[.int .i64 (x : Int)] 3)) := (Below.refl _ _).alloc (Nat.le_refl _) _
        have hs4 := hg4.size
        have HR : Hid (OwnI (w2.heap.size + 1) v2 (D.rootsL (zc n z) n (x + 1)) w4 ∧ Below w2.heap.size w2 w4 ∧ Box w2.heap.size D D.gen (.slice (some ⟨gm, 0, none⟩) (D.m + 1) cm) w4) := by
          refine ⟨by rw [HL.out]; exact hown4, (bel_up HG3.out.2.1 hal).grown hg4 (by simp; omega) (fun k hk => by have := (HG3.out.1.lt k hk).1; omega), ?_⟩
          refine (HG3.out.2.2.below hal (by omega)).other (hg4.block w2.heap.size (by simp; omega) fun e => ?_)
          have := (HG3.out.1.lt _ e.symm).1
          omega
        simp at hs4
        clear hown4 hg4 hal
        go_roundw
        case rel => exact ⟨x + 1, by omega, by go_num, HR.out, by omega⟩
        case measure => simp [intOf]; omega
      · have hbe : ((y : Int) == 0) = false := beq_eq_false_iff_ne.2 (by omega)
        have HL : Hid (D.rootsL (zc n z) n (x + 1) = D.rootsL (zc n z) n x) := rootsL_no (by rw [← hy]; exact he)
        clear he hy
        go_wp2
        go_roundw
        case rel => exact ⟨x + 1, by omega, by go_num, ⟨by rw [HL.out]; exact HG3.out.1, HG3.out.2.1, HG3.out.2.2⟩, by omega⟩
        case measure => simp [intOf]; omega
    · have hl2 : ¬ (x : Int) < (D.q : Int) := by omega
      have hxq : x = D.q := by omega
      subst hxq
      obtain ⟨p, hp⟩ : ∃ p, p = l / 2 := ⟨_, rfl⟩
      have HTr : Hid (∀ w : World, Calls Try.prog 95 #[.int .i64 D.q, .int .i64 l] w fun e w' => e = .returned (.bool (decide (D.q ^ p ≤ 4096))) ∧ w' = w) := fun w => by rw [hp]; exact tries_any D.q l w (by omega) h64 (by omega)
      have HPP : Hid (p = l / 2) := hp
      clear hp k0 k1 k2 k3 k4
      go_wp2_with (first
        | (go_at_call 51; refine (HT.out _ (bel_up HM.out.2 HG.out.2.1)).mono ?_; rintro e w4 ⟨bo4, cb4, rfl, hb4⟩))
      refine (HTr.out _).mono ?_
      rintro e w' ⟨rfl, hw⟩
      have hw := hw.symm
      subst hw
      obtain ⟨vl, hvl⟩ : ∃ vl, vl = u7 := ⟨_, rfl⟩
      rw [← hvl] at HG ⊢
      clear hvl HT HTr
      have HG4 : Hid (OwnI (w2.heap.size + 1) vl (D.rootsL (zc n z) n D.q) w4 ∧ Below w2.heap.size w2 w4 ∧ Box w2.heap.size D D.gen (.slice (some ⟨gm, 0, none⟩) (D.m + 1) cm) w4) := ⟨HG.out.1.below hb4 (fun k hk => (HG.out.1.lt k hk).2), bel_up HG.out.2.1 hb4, HG.out.2.2.below hb4 hsz⟩
      have hs4 := hb4.size
      clear hb4 HG
      by_cases hbig : D.q ^ p ≤ 4096
      · have HV : Hid (D.q ^ ((dgn (zc n z) n - 1) / 2) ≤ 4096) := by
          show _ ≤ _
          rw [HN.out.2.1, Nat.add_sub_cancel, ← HPP.out]; exact hbig
        rw [decide_eq_true hbig]
        clear hbig
        obtain ⟨k0, k1, k2, k3, k4⟩ := HG4.out.2.2
        have HFa : Hid (Calls Try.prog 96 #[.agg #[.int .i64 D.q, .int .i64 D.p, .int .i64 D.m, .int .i64 D.gen, .slice (some ⟨gm, 0, none⟩) (D.m + 1) cm], .slice ao n ca] w4 fun e w' => ∃ v L, e = .returned v ∧ LLs w4.heap.size v L w' ∧ FacSpec D n z 0 L ∧ Below w4.heap.size w4 w') := by
          have hA := HA.out.2.below (bel_up HM.out.2 HG4.out.2.1)
          refine (rfactors_any HA.out.1 D.gen gm cm hn128 (zc_el (fld HA.out.1) HN.out.1) (zc_bd _ _) HN.out.2.1 (zc_sl HN.out.1 hA.sl) hA.lt hA.le hA.cap hA.nil (HM.out.1.below HG4.out.2.1)).mono ?_
          rintro e w' ⟨v, L, rfl, hls, hpre, hb⟩
          exact ⟨v, L, rfl, hls, Or.inl ⟨HN.out.1, HN.out.2.2, HV.out, rfl, hpre⟩, hb⟩
        go_wp2_with fail
        refine HFa.out.mono ?_
        rintro e w5 ⟨vp, L0, rfl, hls, hsp, hb5⟩
        have HX : Hid (Below w.heap.size w w5 ∧ OwnI (w2.heap.size + 1) vl (D.rootsL (zc n z) n D.q) w5 ∧ LLs w4.heap.size vp L0 w5 ∧ FacSpec D n z 0 L0) := ⟨bel_up HM.out.2 (bel_up HG4.out.2.1 hb5), HG4.out.1.below hb5 (fun k hk => (HG4.out.1.lt k hk).2), hls, hsp⟩
        clear hls hsp hb5 HFa k0 k1 k2 k3 k4
        go_wp2_with fail
        refine (roots_any HA.out.1 (HA.out.2.below HX.out.1)).mono ?_
        rintro r wa ⟨hba, hra⟩
        rcases hra with ⟨_, _, va, rfl, hoa⟩ | ⟨_, h, _⟩ | ⟨h, _⟩
        rotate_left
        · exact absurd h HN.out.2.2
        · exact absurd HN.out.1 h
        have HBa : Hid (Below w.heap.size w wa ∧ OwnI w5.heap.size va (D.rootsL (zc n z) n D.q) wa ∧ Below w5.heap.size w5 wa) := ⟨bel_up HX.out.1 hba, hoa, hba⟩
        clear hba hoa
        go_wp2_with fail
        refine (factors_any HA.out.1 (HA.out.2.below HBa.out.1)).mono ?_
        rintro r wb ⟨vb, er, L, rfl, hbb, hls, hsp⟩
        obtain ⟨lo, lc, rfl⟩ := hls.slice
        have HBb : Hid (Below w.heap.size w wb ∧ Below wa.heap.size wa wb ∧ LLs wa.heap.size (.slice lo L.length lc) L wb ∧ FacSpec D n z er L) := ⟨bel_up HBa.out.1 hbb, hbb, hls, hsp⟩
        clear hbb hls hsp
        go_wp2_with fail
        refine (irred_any HA.out.1 (HA.out.2.below HBb.out.1)).mono ?_
        rintro r wc ⟨er2, L2, rfl, hbc, hsp2⟩
        have hun := facSpec_uniq (fld HA.out.1) HBb.out.2.2.2 hsp2
        obtain ⟨e1, e2⟩ := hun
        subst e1 e2
        have HBc : Hid (Below w.heap.size w wc ∧ Below wb.heap.size wb wc ∧ Below w5.heap.size w5 wc ∧ SliceI va (D.rootsL (zc n z) n D.q) wc) := ⟨bel_up HBb.out.1 hbc, hbc, bel_up HBa.out.2.2 (bel_up HBb.out.2.1 hbc), ((HBa.out.2.1.below (bel_up HBb.out.2.1 hbc) (fun k hk => (HBa.out.2.1.lt k hk).2)).slice (by have := rootsL_len D (zc n z) n D.q; omega))⟩
        clear hbc hsp2
        have hun := facSpec_uniq (fld HA.out.1) HBb.out.2.2.2 HX.out.2.2.2
        obtain ⟨e1, e2⟩ := hun
        subst e1 e2
        have HLL : Hid (LLs wa.heap.size (.slice lo L.length lc) L wc ∧ LLs w4.heap.size vp L wc ∧ SliceI vl (D.rootsL (zc n z) n D.q) wc ∧ L.length ≤ 1000000 ∧ ∀ p ∈ L, p.1 + 1 ≤ 1000000) :=
          ⟨HBb.out.2.2.1.below HBc.out.2.1 (Nat.le_refl _), HX.out.2.2.1.below HBc.out.2.2.1 (Nat.le_refl _), (HX.out.2.1.below HBc.out.2.2.1 (fun k hk => (HX.out.2.1.lt k hk).2)).slice (by have := rootsL_len D (zc n z) n D.q; omega), facSpec_len HA.out.1 HBb.out.2.2.2 hn128⟩
        obtain ⟨po, pc, rfl⟩ := HX.out.2.2.1.slice
        have HLI : Hid (∀ k, Calls Try.prog 45 #[va, .int .i64 0, vl, .int .i64 0] (wc.drewN k) fun r w' => r = .returned (.bool true) ∧ ∃ m, w' = wc.drewN m) := fun k => by
          refine (list_same (w := wc.drewN k) (HBc.out.2.2.2.drewN k) (HLL.out.2.2.1.drewN k)).mono ?_
          rintro r w' ⟨rfl, m, rfl⟩
          exact ⟨rfl, _, World.drewN_drewN _ _ _⟩
        have HLS : Hid (∀ k, Calls Try.prog 68 #[.slice lo L.length lc, .int .i64 0, .slice po L.length pc, .int .i64 0] (wc.drewN k) fun r w' => r = .returned (.bool true) ∧ ∃ m, w' = wc.drewN m) := fun k => by
          refine (lists_same (w := wc.drewN k) (HLL.out.1.below (below_drewN2 (Below.refl _ _) k) (Nat.le_refl _)) (HLL.out.2.1.below (below_drewN2 (Below.refl _ _) k) (Nat.le_refl _)) HLL.out.2.2.2.1 HLL.out.2.2.2.2).mono ?_
          rintro r w' ⟨rfl, m, rfl⟩
          exact ⟨rfl, _, World.drewN_drewN _ _ _⟩
        go_wp2_with fail
        refine (HLI.out 0).mono ?_
        rintro r wd ⟨rfl, m1, rfl⟩
        go_wp2_with fail
        refine (HLS.out m1).mono ?_
        rintro r wd ⟨rfl, m2, rfl⟩
        by_cases h1 : L.length = 1
        · have hz5 : ((L.length : Int) == 1) = true := by rw [h1]; rfl
          have hz6 : decide (L.length = 1) = true := decide_eq_true h1
          rw [hz6]
          clear h1
          go_wp2
          go_ret
          exact ⟨by first | rfl | simp, below_drewN2 HBc.out.1 _⟩
        · have hz5 : ((L.length : Int) == 1) = false := by rw [beq_eq_false_iff_ne]; omega
          have hz6 : decide (L.length = 1) = false := decide_eq_false h1
          rw [hz6]
          clear h1
          go_wp2
          go_ret
          exact ⟨by first | rfl | simp, below_drewN2 HBc.out.1 _⟩
      · have HV : Hid (4096 < D.q ^ ((dgn (zc n z) n - 1) / 2)) := by
          show _ < _
          rw [HN.out.2.1, Nat.add_sub_cancel, ← HPP.out]; omega
        rw [decide_eq_false hbig]
        clear hbig
        have HX : Hid (Below w.heap.size w w4 ∧ OwnI (w2.heap.size + 1) vl (D.rootsL (zc n z) n D.q) w4 ∧ FacSpec D n z 4 []) := ⟨bel_up HM.out.2 HG4.out.2.1, HG4.out.1, Or.inr (Or.inl ⟨HN.out.1, HN.out.2.2, HV.out, rfl, rfl⟩)⟩
        go_wp2_with fail
        refine (roots_any HA.out.1 (HA.out.2.below HX.out.1)).mono ?_
        rintro r wa ⟨hba, hra⟩
        rcases hra with ⟨_, _, va, rfl, hoa⟩ | ⟨_, h, _⟩ | ⟨h, _⟩
        rotate_left
        · exact absurd h HN.out.2.2
        · exact absurd HN.out.1 h
        have HBa : Hid (Below w.heap.size w wa ∧ OwnI w4.heap.size va (D.rootsL (zc n z) n D.q) wa ∧ Below w4.heap.size w4 wa) := ⟨bel_up HX.out.1 hba, hoa, hba⟩
        clear hba hoa
        go_wp2_with fail
        refine (factors_any HA.out.1 (HA.out.2.below HBa.out.1)).mono ?_
        rintro r wb ⟨vb, er, L, rfl, hbb, hls, hsp⟩
        obtain ⟨lo, lc, rfl⟩ := hls.slice
        have HBb : Hid (Below w.heap.size w wb ∧ Below wa.heap.size wa wb ∧ LLs wa.heap.size (.slice lo L.length lc) L wb ∧ FacSpec D n z er L) := ⟨bel_up HBa.out.1 hbb, hbb, hls, hsp⟩
        clear hbb hls hsp
        go_wp2_with fail
        refine (irred_any HA.out.1 (HA.out.2.below HBb.out.1)).mono ?_
        rintro r wc ⟨er2, L2, rfl, hbc, hsp2⟩
        have hun := facSpec_uniq (fld HA.out.1) HBb.out.2.2.2 hsp2
        obtain ⟨e1, e2⟩ := hun
        subst e1 e2
        have HBc : Hid (Below w.heap.size w wc ∧ Below wb.heap.size wb wc ∧ Below w4.heap.size w4 wc ∧ SliceI va (D.rootsL (zc n z) n D.q) wc) := ⟨bel_up HBb.out.1 hbc, hbc, bel_up HBa.out.2.2 (bel_up HBb.out.2.1 hbc), ((HBa.out.2.1.below (bel_up HBb.out.2.1 hbc) (fun k hk => (HBa.out.2.1.lt k hk).2)).slice (by have := rootsL_len D (zc n z) n D.q; omega))⟩
        clear hbc hsp2
        have hun := facSpec_uniq (fld HA.out.1) HBb.out.2.2.2 HX.out.2.2
        obtain ⟨e1, e2⟩ := hun
        subst e1 e2
        have HLL : Hid (SliceI vl (D.rootsL (zc n z) n D.q) wc) := (HX.out.2.1.below HBc.out.2.2.1 (fun k hk => (HX.out.2.1.lt k hk).2)).slice (by have := rootsL_len D (zc n z) n D.q; omega)
        go_wp2_with fail
        refine (list_same HBc.out.2.2.2 HLL.out).mono ?_
        rintro r wd ⟨rfl, m1, rfl⟩
        go_wp2_with (go_at_call 68; refine (lists_err2 4 (by omega) _ _ _ _).mono ?_; rintro r wd ⟨rfl, hw⟩; have hw := hw.symm; subst hw)
        go_ret
        exact ⟨by first | rfl | simp, below_drewN2 HBc.out.1 _⟩
end Go.Proofs.Ythmjdcajaoilgaa
