/- Words of bits (package bit); slices.Equal; slices.Max. -/
import Derived.Test.YtbfkacnpbelmlaaZS31
namespace Go.Proofs.Ytbfkacnpbelmlaa
open Go.RowKit Go.Sort

def allP (p : Int → Bool) (z : Nat → Int) : Nat → Bool
  | 0 => true
  | n + 1 => allP p z n && p (z n)
theorem allP_no {p : Int → Bool} {z : Nat → Int} {i : Nat} (h : p (z i) = false) : ∀ n, i < n → allP p z n = false
  | 0, hi => absurd hi (by omega)
  | n + 1, hi => by
    show (allP p z n && p (z n)) = false
    by_cases e : i = n
    · rw [← e, h, Bool.and_false]
    · rw [allP_no h n (by omega), Bool.false_and]
set_option maxHeartbeats 4000000 in
set_option maxRecDepth 100000 in
theorem ball_any {gf : Nat} (eg : ∀ args w, (callFunc gf args).run Try.prog w = .ok (.enter gf args) w) {ao : Option Addr} {n cap : Nat} {z : Nat → Int} {p : Int → Bool} {w : World} (hs : SlZ ao n z w) (hn : n ≤ 1000000)
    (hp : ∀ x, Calls Try.prog gf (#[.int .i64 x] ++ #[]) w fun e w' => e = .returned (.bool (p x)) ∧ w' = w) :
    Calls Try.prog 47 #[.slice ao n cap, .func (.func gf) #[] #[]] w fun e w' => e = .returned (.bool (allP p z n)) ∧ w' = w := by
  obtain ⟨R, hR⟩ : ∃ R, R = allP p z n := ⟨_, rfl⟩
  have HS : Hid (SlZ ao n z w ∧ (∀ x, Calls Try.prog gf (#[.int .i64 x] ++ #[]) w fun e w' => e = .returned (.bool (p x)) ∧ w' = w) ∧ R = allP p z n) := ⟨hs, hp, hR⟩
  rw [← hR]
  clear hs hp hR
  go_enter Try.func47, Try.ntmps47
  go_wp2
  go_loopw [9] (fun vi wx => ∃ i : Nat, i ≤ n ∧ vi = .int .i64 (i : Nat) ∧ Hid (allP p z i = true) ∧ wx = w) (fun vi _ => n - (intOf vi).toNat)
  case atStart => exact ⟨0, by omega, rfl, rfl, rfl⟩
  case round =>
    obtain ⟨i, hi, rfl, HI, hwx⟩ := hrel
    have hwx := hwx.symm
    subst hwx
    by_cases hlt : i < n
    · have hib : (i : Int) < (n : Int) := by omega
      have hib0 : (0 : Int) ≤ (i : Int) := by omega
      obtain ⟨b, off, rfl, hc⟩ := HS.out.1 i hlt
      obtain ⟨x, hx⟩ : ∃ x, x = z i := ⟨_, rfl⟩
      rw [← hx] at hc
      obtain ⟨pb, hpb⟩ : ∃ pb, pb = p x := ⟨_, rfl⟩
      have hcall : Calls Try.prog gf (#[.int .i64 x] ++ #[]) w fun e w' => e = .returned (.bool pb) ∧ w' = w := by
        rw [hpb]; exact HS.out.2.1 x
      have HP : Hid (pb = p (z i)) := by show _ = _; rw [hpb, hx]
      clear hx hpb
      cases pb with
      | false =>
        have HV : Hid (R = false) := by show _ = _; rw [HS.out.2.2]; exact allP_no HP.out.symm n hlt
        go_wp2_with (go_at_fn gf; refine hcall.mono ?_; rintro e w' ⟨rfl, hw⟩; have hw := hw.symm; subst hw)
        go_ret
        exact ⟨by (first | (rw [HV.out]; rfl) | rw [HV.out]), rfl⟩
      | true =>
        have HV : Hid (allP p z (i + 1) = true) := by
          show (allP p z i && p (z i)) = true
          rw [HI.out, ← HP.out]; rfl
        go_wp2_with (go_at_fn gf; refine hcall.mono ?_; rintro e w' ⟨rfl, hw⟩; have hw := hw.symm; subst hw)
        go_roundw
        case rel => exact ⟨i + 1, by omega, by go_num, HV.out, by first | rfl | trivial⟩
        case measure => simp [intOf]; omega
    · have hib : ¬ (i : Int) < (n : Int) := by omega
      have HV : Hid (R = true) := by show _ = _; rw [HS.out.2.2, show n = i by omega]; exact HI.out
      go_wp2
      go_ret
      exact ⟨by (first | (rw [HV.out]; rfl) | rw [HV.out]), rfl⟩
def isbt (x : Int) : Bool := decide (x = 0 ∨ x = 1)
def isht (x : Int) : Bool := decide (x = -1 ∨ x = 0 ∨ x = 1)
set_option maxHeartbeats 2000000 in
theorem isBit_any (x : Int) (w : World) : Calls Try.prog 45 #[.int .i64 x] w fun e w' => e = .returned (.bool (isbt x)) ∧ w' = w := by
  by_cases h0 : x = 0
  · have HV : Hid (isbt x = true) := decide_eq_true (Or.inl h0)
    have hz : (x == 0) = true := by rw [h0]; rfl
    clear h0
    go_enter Try.func45, Try.ntmps45
    go_wp2
    go_ret
    exact ⟨by (first | (rw [HV.out]; rfl) | rw [HV.out]), rfl⟩
  · have hz : (x == 0) = false := beq_eq_false_iff_ne.2 h0
    by_cases h1 : x = 1
    · have HV : Hid (isbt x = true) := decide_eq_true (Or.inr h1)
      have hz1 : (x == 1) = true := by rw [h1]; rfl
      clear h0 h1
      go_enter Try.func45, Try.ntmps45
      go_wp2
      go_ret
      exact ⟨by (first | (rw [HV.out]; rfl) | rw [HV.out]), rfl⟩
    · have HV : Hid (isbt x = false) := decide_eq_false (by omega)
      have hz1 : (x == 1) = false := beq_eq_false_iff_ne.2 h1
      clear h0 h1
      go_enter Try.func45, Try.ntmps45
      go_wp2
      go_ret
      exact ⟨by (first | (rw [HV.out]; rfl) | rw [HV.out]), rfl⟩
theorem isht_is (x : Int) : isht x = (decide (x = -1) || isbt x) := by
  unfold isht isbt
  rw [← Bool.decide_or]
set_option maxHeartbeats 2000000 in
theorem heard1_any (x : Int) (w : World) : Calls Try.prog 49 #[.int .i64 x] w fun e w' => e = .returned (.bool (isht x)) ∧ w' = w := by
  obtain ⟨bb, hbb⟩ : ∃ bb, bb = isbt x := ⟨_, rfl⟩
  have HC : Hid (Calls Try.prog 45 #[.int .i64 x] w fun e w' => e = .returned (.bool bb) ∧ w' = w) := by rw [hbb]; exact isBit_any x w
  by_cases h0 : x = -1
  · have HV : Hid (isht x = true) := decide_eq_true (Or.inl h0)
    have hz : (x == -1) = true := by rw [h0]; rfl
    clear h0 hbb
    go_enter Try.func49, Try.ntmps49
    go_wp2
    go_ret
    exact ⟨by (first | (rw [HV.out]; rfl) | rw [HV.out]), rfl⟩
  · have HV : Hid (isht x = bb) := by show _ = _; rw [isht_is, decide_eq_false h0, Bool.false_or, hbb]
    have hz : (x == -1) = false := beq_eq_false_iff_ne.2 h0
    clear h0 hbb
    go_enter Try.func49, Try.ntmps49
    go_wp2_with (go_at_call 45; refine HC.out.mono ?_; rintro e w' ⟨rfl, hw⟩; have hw := hw.symm; subst hw)
    go_ret
    exact ⟨by (first | (rw [HV.out]; rfl) | rw [HV.out]), rfl⟩
theorem enters_isbit : ∀ args w, (callFunc 45 args).run Try.prog w = .ok (.enter 45 args) w :=
  enters_of Try.func45 (by kernel_rfl) rfl
theorem enters_heard1 : ∀ args w, (callFunc 49 args).run Try.prog w = .ok (.enter 49 args) w :=
  enters_of Try.func49 (by kernel_rfl) rfl
/-- What is said of a word. -/
def bchk (p : Int → Bool) (l : Nat) (z : Nat → Int) (n : Int) : Int := if (l : Int) ≠ n then 6 else if allP p z l = true then 0 else 2
set_option maxHeartbeats 2000000 in
theorem bcheck_any {gf : Nat} (eg : ∀ args w, (callFunc gf args).run Try.prog w = .ok (.enter gf args) w) {ao : Option Addr} {l cap : Nat} {z : Nat → Int} {p : Int → Bool} {w : World} (n : Int) (hs : SlZ ao l z w) (hn : l ≤ 1000000)
    (hp : ∀ x, Calls Try.prog gf (#[.int .i64 x] ++ #[]) w fun e w' => e = .returned (.bool (p x)) ∧ w' = w) :
    Calls Try.prog 44 #[.slice ao l cap, .int .i64 n, .func (.func gf) #[] #[]] w fun e w' => e = .returned (.int .i64 (bchk p l z n)) ∧ w' = w := by
  obtain ⟨R, hR⟩ : ∃ R, R = allP p z l := ⟨_, rfl⟩
  have HC : Hid (Calls Try.prog 47 #[.slice ao l cap, .func (.func gf) #[] #[]] w fun e w' => e = .returned (.bool R) ∧ w' = w) := by rw [hR]; exact ball_any eg hs hn hp
  clear hs hp
  by_cases h0 : (l : Int) = n
  · have hz : ((l : Int) != n) = false := by rw [h0]; simp
    cases R with
    | true =>
      have HV : Hid (bchk p l z n = 0) := by show _ = _; unfold bchk; rw [if_neg (fun x => x h0), ← hR, if_pos rfl]
      clear h0 hR
      go_enter Try.func44, Try.ntmps44
      go_wp2_with (go_at_call 47; refine HC.out.mono ?_; rintro e w' ⟨rfl, hw⟩; have hw := hw.symm; subst hw)
      go_ret
      exact ⟨by (first | (rw [HV.out]; rfl) | rw [HV.out]), rfl⟩
    | false =>
      have HV : Hid (bchk p l z n = 2) := by show _ = _; unfold bchk; rw [if_neg (fun x => x h0), ← hR, if_neg (by intro h; cases h)]
      clear h0 hR
      go_enter Try.func44, Try.ntmps44
      go_wp2_with (go_at_call 47; refine HC.out.mono ?_; rintro e w' ⟨rfl, hw⟩; have hw := hw.symm; subst hw)
      go_ret
      exact ⟨by (first | (rw [HV.out]; rfl) | rw [HV.out]), rfl⟩
  · have hz : ((l : Int) != n) = true := bne_iff_ne.2 h0
    have HV : Hid (bchk p l z n = 6) := by show _ = _; unfold bchk; rw [if_pos h0]
    clear h0 hR
    go_enter Try.func44, Try.ntmps44
    go_wp2
    go_ret
    exact ⟨by (first | (rw [HV.out]; rfl) | rw [HV.out]), rfl⟩
set_option maxHeartbeats 2000000 in
theorem bCheck_any {ao : Option Addr} {l cap : Nat} {z : Nat → Int} {w : World} (n : Int) (hs : SlZ ao l z w) (hn : l ≤ 1000000) :
    Calls Try.prog 32 #[.slice ao l cap, .int .i64 n] w fun e w' => e = .returned (.int .i64 (bchk isbt l z n)) ∧ w' = w := by
  have HC : Hid (Calls Try.prog 44 #[.slice ao l cap, .int .i64 n, .func (.func 45) #[] #[]] w fun e w' => e = .returned (.int .i64 (bchk isbt l z n)) ∧ w' = w) := bcheck_any enters_isbit n hs hn (fun x => isBit_any x w)
  obtain ⟨E, hE⟩ : ∃ E, E = bchk isbt l z n := ⟨_, rfl⟩
  rw [← hE] at HC ⊢
  clear hs hE
  go_enter Try.func32, Try.ntmps32
  go_wp2_with (go_at_call 44; refine HC.out.mono ?_; rintro e w' ⟨rfl, hw⟩; have hw := hw.symm; subst hw)
  go_ret
  exact ⟨rfl, rfl⟩
set_option maxHeartbeats 2000000 in
theorem bHeard_any {ao : Option Addr} {l cap : Nat} {z : Nat → Int} {w : World} (n : Int) (hs : SlZ ao l z w) (hn : l ≤ 1000000) :
    Calls Try.prog 36 #[.slice ao l cap, .int .i64 n] w fun e w' => e = .returned (.int .i64 (bchk isht l z n)) ∧ w' = w := by
  have HC : Hid (Calls Try.prog 44 #[.slice ao l cap, .int .i64 n, .func (.func 49) #[] #[]] w fun e w' => e = .returned (.int .i64 (bchk isht l z n)) ∧ w' = w) := bcheck_any enters_heard1 n hs hn (fun x => heard1_any x w)
  obtain ⟨E, hE⟩ : ∃ E, E = bchk isht l z n := ⟨_, rfl⟩
  rw [← hE] at HC ⊢
  clear hs hE
  go_enter Try.func36, Try.ntmps36
  go_wp2_with (go_at_call 44; refine HC.out.mono ?_; rintro e w' ⟨rfl, hw⟩; have hw := hw.symm; subst hw)
  go_ret
  exact ⟨rfl, rfl⟩
end Go.Proofs.Ytbfkacnpbelmlaa
