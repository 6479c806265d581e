/- Words that may lose a bit: gap.Check, the reference's GapMay, gap.Steps. -/
import Derived.Test.YtillljojdnofgaaZKI6
import Derived.Test.YtillljojdnofgaaZKE2
namespace Go.Proofs.Ytillljojdnofgaa
open Go.RowKit Go.Sort

/-- What is said of a word. -/
def gwchk (n : Nat) (z : Nat → Int) : Int := if 13 < n then 4 else if allP isbt z n = true then 0 else 2
theorem gwchk_ok {n : Nat} {z : Nat → Int} (h : gwchk n z = 0) : n ≤ 13 ∧ allP isbt z n = true := by
  unfold gwchk at h
  by_cases h1 : 13 < n
  · rw [if_pos h1] at h; cases h
  · rw [if_neg h1] at h
    refine ⟨by omega, ?_⟩
    by_cases h2 : allP isbt z n = true
    · exact h2
    · rw [if_neg h2] at h; cases h
theorem isbt_is {x : Int} (h : isbt x = true) : x = 0 ∨ x = 1 := of_decide_eq_true h
set_option maxHeartbeats 2000000 in
theorem bAll_any {ao : Option Addr} {l cap : Nat} {z : Nat → Int} {w : World} (hs : SlZ ao l z w) (hn : l ≤ 1000000) :
    Calls Try.prog 53 #[.slice ao l cap] w fun e w' => e = .returned (.bool (allP isbt z l)) ∧ w' = w := by
  have HC : Hid (Calls Try.prog 79 #[.slice ao l cap, .func (.func 80) #[] #[]] w fun e w' => e = .returned (.bool (allP isbt z l)) ∧ w' = w) := ball_any enters_isbit hs hn (fun x => isBit_any x w)
  obtain ⟨E, hE⟩ : ∃ E, E = allP isbt z l := ⟨_, rfl⟩
  rw [← hE] at HC ⊢
  clear hs hE
  go_enter Try.func53, Try.ntmps53
  go_wp2_with (go_at_call 79; refine HC.out.mono ?_; rintro e w' ⟨rfl, hw⟩; have hw := hw.symm; subst hw)
  go_ret
  exact ⟨rfl, rfl⟩
set_option maxHeartbeats 2000000 in
set_option maxRecDepth 100000 in
theorem gCheck_any {ao : Option Addr} {n cap : Nat} {z : Nat → Int} {w : World} (hs : SlZ ao n z w) (hn : n ≤ 1000000) :
    Calls Try.prog 15 #[.slice ao n cap] w fun e w' => e = .returned (.int .i64 (gwchk n z)) ∧ w' = w := by
  obtain ⟨E, hE⟩ : ∃ E, E = gwchk n z := ⟨_, rfl⟩
  rw [← hE]
  by_cases h1 : 13 < n
  · have HV : Hid (E = 4) := by show E = 4; rw [hE]; unfold gwchk; rw [if_pos h1]
    have hb : (13 : Int) < (n : Int) := by omega
    clear hE h1
    go_enter Try.func15, Try.ntmps15
    go_wp2
    go_ret
    exact ⟨by rw [HV.out]; rfl, rfl⟩
  · have hb : ¬ (13 : Int) < (n : Int) := by omega
    obtain ⟨r, hr⟩ : ∃ r, r = allP isbt z n := ⟨_, rfl⟩
    have HC : Hid (Calls Try.prog 53 #[.slice ao n cap] w fun e w' => e = .returned (.bool r) ∧ w' = w) := by rw [hr]; exact bAll_any hs hn
    have HE : Hid (E = if r = true then 0 else 2) := by show E = _; rw [hE, hr]; unfold gwchk; rw [if_neg h1]
    clear hE h1 hr
    cases r with
    | true =>
      have HV : Hid (E = 0) := HE.out
      go_enter Try.func15, Try.ntmps15
      go_wp2_with (go_at_call 53; refine HC.out.mono ?_; rintro e w' ⟨rfl, hw⟩; have hw := hw.symm; subst hw)
      go_ret
      exact ⟨by rw [HV.out]; rfl, rfl⟩
    | false =>
      have HV : Hid (E = 2) := HE.out
      go_enter Try.func15, Try.ntmps15
      go_wp2_with (go_at_call 53; refine HC.out.mono ?_; rintro e w' ⟨rfl, hw⟩; have hw := hw.symm; subst hw)
      go_ret
      exact ⟨by rw [HV.out]; rfl, rfl⟩
set_option maxHeartbeats 2000000 in
set_option maxRecDepth 100000 in
theorem gapMay_any {ao : Option Addr} {n cap : Nat} {z : Nat → Int} {w : World} (hs : SlZ ao n z w) (hn : n ≤ 1000000) :
    Calls Try.prog 12 #[.slice ao n cap] w fun e w' => e = .returned (.int .i64 (gwchk n z)) ∧ w' = w := by
  obtain ⟨E, hE⟩ : ∃ E, E = gwchk n z := ⟨_, rfl⟩
  rw [← hE]
  by_cases h1 : 13 < n
  · have HV : Hid (E = 4) := by show E = 4; rw [hE]; unfold gwchk; rw [if_pos h1]
    have hb : (13 : Int) < (n : Int) := by omega
    clear hE h1
    go_enter Try.func12, Try.ntmps12
    go_wp2
    go_ret
    exact ⟨by rw [HV.out]; rfl, rfl⟩
  · have hb : ¬ (13 : Int) < (n : Int) := by omega
    obtain ⟨r, hr⟩ : ∃ r, r = allP isbt z n := ⟨_, rfl⟩
    have e : allP (isbg false) z n = r := by rw [hr]; rfl
    have HC : Hid (Calls Try.prog 50 #[.slice ao n cap, .bool false] w fun e w' => e = .returned (.bool r) ∧ w' = w) := by rw [← e]; exact rbits_any false hs hn
    have HE : Hid (E = if r = true then 0 else 2) := by show E = _; rw [hE, hr]; unfold gwchk; rw [if_neg h1]
    clear hE h1 hr e
    cases r with
    | true =>
      have HV : Hid (E = 0) := HE.out
      go_enter Try.func12, Try.ntmps12
      go_wp2_with (go_at_call 50; refine HC.out.mono ?_; rintro e w' ⟨rfl, hw⟩; have hw := hw.symm; subst hw)
      go_ret
      exact ⟨by rw [HV.out]; rfl, rfl⟩
    | false =>
      have HV : Hid (E = 2) := HE.out
      go_enter Try.func12, Try.ntmps12
      go_wp2_with (go_at_call 50; refine HC.out.mono ?_; rintro e w' ⟨rfl, hw⟩; have hw := hw.symm; subst hw)
      go_ret
      exact ⟨by rw [HV.out]; rfl, rfl⟩
/-- What Steps tells. -/
def stE (n m : Nat) (x y : Nat → Int) : Int := if gwchk n x ≠ 0 then gwchk n x else gwchk m y
set_option maxHeartbeats 2000000 in
set_option maxRecDepth 100000 in
theorem gSteps_any {ao bo : Option Addr} {n m ca cb : Nat} {x y : Nat → Int} {w : World} (hX : SlZ ao n x w) (hY : SlZ bo m y w) (hn : n ≤ 1000000) (hm : m ≤ 1000000) :
    Calls Try.prog 21 #[.slice ao n ca, .slice bo m cb] w fun e w' => e = .returned (.tuple #[.int .i64 ((if stE n m x y = 0 then lvd x y n m else 0 : Nat) : Int), .int .i64 (stE n m x y)]) ∧ Below w.heap.size w w' := by
  obtain ⟨E, hE⟩ : ∃ E, E = stE n m x y := ⟨_, rfl⟩
  obtain ⟨A, hA⟩ : ∃ A : Nat, A = if E = 0 then lvd x y n m else 0 := ⟨_, rfl⟩
  obtain ⟨e1, he1⟩ : ∃ e1, e1 = gwchk n x := ⟨_, rfl⟩
  obtain ⟨e2, he2⟩ : ∃ e2, e2 = gwchk m y := ⟨_, rfl⟩
  have H1 : Hid (Calls Try.prog 15 #[.slice ao n ca] w fun e w' => e = .returned (.int .i64 e1) ∧ w' = w) := by rw [he1]; exact gCheck_any hX hn
  have H2 : Hid (Calls Try.prog 15 #[.slice bo m cb] w fun e w' => e = .returned (.int .i64 e2) ∧ w' = w) := by rw [he2]; exact gCheck_any hY hm
  rw [← hE, ← hA]
  by_cases h1 : e1 = 0
  · have z1 : (e1 != 0) = false := by rw [h1]; rfl
    have hEe : E = e2 := by rw [hE, he2]; unfold stE; rw [if_neg (by rw [← he1]; exact fun x => x h1)]
    by_cases h2 : e2 = 0
    · have z2 : (e2 != 0) = false := by rw [h2]; rfl
      have hn13 : n ≤ 13 := (gwchk_ok (he1.symm.trans h1)).1
      have hm13 : m ≤ 13 := (gwchk_ok (he2.symm.trans h2)).1
      have hAl : A = lvd x y n m := by rw [hA, if_pos (hEe.trans h2)]
      have HB : Hid (Calls Try.prog 59 #[.slice ao n ca, .slice bo m cb] w fun e w' => e = .returned (.int .i64 (A : Nat)) ∧ Below w.heap.size w w') := by rw [hAl]; exact between_any hX hY hn13 hm13
      have HV : Hid (E = 0) := hEe.trans h2
      clear hX hY hE hA he1 he2 h1 h2 hEe hAl
      go_enter Try.func21, Try.ntmps21
      go_wp2_with fail
      refine H1.out.mono ?_
      rintro e w' ⟨rfl, hw⟩
      have hw := hw.symm
      subst hw
      go_wp2_with fail
      refine H2.out.mono ?_
      rintro e w' ⟨rfl, hw⟩
      have hw := hw.symm
      subst hw
      go_wp2_with fail
      refine HB.out.mono ?_
      rintro e w1 ⟨rfl, hb1⟩
      have HB1 : Hid (Below w.heap.size w w1) := hb1
      clear hb1
      go_wp2
      go_ret2
      exact ⟨by rw [HV.out]; rfl, HB1.out⟩
    · have z2 : (e2 != 0) = true := bne_iff_ne.2 h2
      have HV : Hid (E = e2 ∧ A = 0) := ⟨hEe, by rw [hA, if_neg (by rw [hEe]; exact h2)]⟩
      clear hX hY hE hA he1 he2 h1 h2 hEe
      go_enter Try.func21, Try.ntmps21
      go_wp2_with fail
      refine H1.out.mono ?_
      rintro e w' ⟨rfl, hw⟩
      have hw := hw.symm
      subst hw
      go_wp2_with fail
      refine H2.out.mono ?_
      rintro e w' ⟨rfl, hw⟩
      have hw := hw.symm
      subst hw
      go_wp2
      go_ret2
      exact ⟨by rw [HV.out.1, HV.out.2]; rfl, Below.refl _ _⟩
  · have z1 : (e1 != 0) = true := bne_iff_ne.2 h1
    have hEe : E = e1 := by rw [hE, he1]; unfold stE; rw [if_pos (by rw [← he1]; exact h1)]
    have HV : Hid (E = e1 ∧ A = 0) := ⟨hEe, by rw [hA, if_neg (by rw [hEe]; exact h1)]⟩
    clear hX hY hE hA he1 he2 h1 hEe
    go_enter Try.func21, Try.ntmps21
    go_wp2_with fail
    refine H1.out.mono ?_
    rintro e w' ⟨rfl, hw⟩
    have hw := hw.symm
    subst hw
    go_wp2
    go_ret2
    exact ⟨by rw [HV.out.1, HV.out.2]; rfl, Below.refl _ _⟩
end Go.Proofs.Ytillljojdnofgaa
