/- Texts of ours, one behind the other: KE3 KE4. -/
import Derived.Test.YtjkncdmbcckcdabZKE1
/- Words of bits (package bit); slices.Equal; slices.Max. -/
namespace Go.Proofs.Ytjkncdmbcckcdab
open Go.RowKit Go.Sort

def allP (p : Int → Bool) (z : Nat → Int) : Nat → Bool
  | 0 => true
  | n + 1 => allP p z n && p (z n)
theorem allP_no {p : Int → Bool} {z : Nat → Int} {i : Nat} (h : p (z i) = false) : ∀ n, i < n → allP p z n = false
  | 0, hi => absurd hi (by omega)
  | n + 1, hi => by
    show (allP p z n && p (z n)) = false
    by_cases e : i = n
    · rw [← e, h, Bool.and_false]
    · rw [allP_no h n (by omega), Bool.false_and]
theorem allP_iff {p : Int → Bool} {z : Nat → Int} : ∀ n, allP p z n = true → ∀ j, j < n → p (z j) = true
  | 0, _, j, hj => absurd hj (by omega)
  | n + 1, h, j, hj => by
    have h : (allP p z n && p (z n)) = true := h
    rw [Bool.and_eq_true] at h
    by_cases e : j = n
    · rw [e]; exact h.2
    · exact allP_iff n h.1 j (by omega)
set_option maxHeartbeats 4000000 in
set_option maxRecDepth 100000 in
theorem ball_any {gf : Nat} (eg : ∀ args w, (callFunc gf args).run Try.prog w = .ok (.enter gf args) w) {ao : Option Addr} {n cap : Nat} {z : Nat → Int} {p : Int → Bool} {w : World} (hs : SlZ ao n z w) (hn : n ≤ 1000000)
    (hp : ∀ x, Calls Try.prog gf (#[.int .i64 x] ++ #[]) w fun e w' => e = .returned (.bool (p x)) ∧ w' = w) :
    Calls Try.prog 58 #[.slice ao n cap, .func (.func gf) #[] #[]] w fun e w' => e = .returned (.bool (allP p z n)) ∧ w' = w := by
  obtain ⟨R, hR⟩ : ∃ R, R = allP p z n := ⟨_, rfl⟩
  have HS : Hid (SlZ ao n z w ∧ (∀ x, Calls Try.prog gf (#[.int .i64 x] ++ #[]) w fun e w' => e = .returned (.bool (p x)) ∧ w' = w) ∧ R = allP p z n) := ⟨hs, hp, hR⟩
  rw [← hR]
  clear hs hp hR
  go_enter Try.func58, Try.ntmps58
  go_wp2
  go_loopw [9] (fun vi wx => ∃ i : Nat, i ≤ n ∧ vi = .int .i64 (i : Nat) ∧ Hid (allP p z i = true) ∧ wx = w) (fun vi _ => n - (intOf vi).toNat)
  case atStart => exact ⟨0, by omega, rfl, rfl, rfl⟩
  case round =>
    obtain ⟨i, hi, rfl, HI, hwx⟩ := hrel
    have hwx := hwx.symm
    subst hwx
    by_cases hlt : i < n
    · have hib : (i : Int) < (n : Int) := by omega
      have hib0 : (0 : Int) ≤ (i : Int) := by omega
      obtain ⟨b, off, rfl, hc⟩ := HS.out.1 i hlt
      obtain ⟨x, hx⟩ : ∃ x, x = z i := ⟨_, rfl⟩
      rw [← hx] at hc
      obtain ⟨pb, hpb⟩ : ∃ pb, pb = p x := ⟨_, rfl⟩
      have hcall : Calls Try.prog gf (#[.int .i64 x] ++ #[]) w fun e w' => e = .returned (.bool pb) ∧ w' = w := by
        rw [hpb]; exact HS.out.2.1 x
      have HP : Hid (pb = p (z i)) := by show _ = _; rw [hpb, hx]
      clear hx hpb
      cases pb with
      | false =>
        have HV : Hid (R = false) := by show _ = _; rw [HS.out.2.2]; exact allP_no HP.out.symm n hlt
        go_wp2_with (go_at_fn gf; refine hcall.mono ?_; rintro e w' ⟨rfl, hw⟩; have hw := hw.symm; subst hw)
        go_ret
        exact ⟨by (first | (rw [HV.out]; rfl) | rw [HV.out]), rfl⟩
      | true =>
        have HV : Hid (allP p z (i + 1) = true) := by
          show (allP p z i && p (z i)) = true
          rw [HI.out, ← HP.out]; rfl
        go_wp2_with (go_at_fn gf; refine hcall.mono ?_; rintro e w' ⟨rfl, hw⟩; have hw := hw.symm; subst hw)
        go_roundw
        case rel => exact ⟨i + 1, by omega, by go_num, HV.out, by first | rfl | trivial⟩
        case measure => simp [intOf]; omega
    · have hib : ¬ (i : Int) < (n : Int) := by omega
      have HV : Hid (R = true) := by show _ = _; rw [HS.out.2.2, show n = i by omega]; exact HI.out
      go_wp2
      go_ret
      exact ⟨by (first | (rw [HV.out]; rfl) | rw [HV.out]), rfl⟩
def isbt (x : Int) : Bool := decide (x = 0 ∨ x = 1)
def isht (x : Int) : Bool := decide (x = -1 ∨ x = 0 ∨ x = 1)
set_option maxHeartbeats 2000000 in
theorem isBit_any (x : Int) (w : World) : Calls Try.prog 43 #[.int .i64 x] w fun e w' => e = .returned (.bool (isbt x)) ∧ w' = w := by
  by_cases h0 : x = 0
  · have HV : Hid (isbt x = true) := decide_eq_true (Or.inl h0)
    have hz : (x == 0) = true := by rw [h0]; rfl
    clear h0
    go_enter Try.func43, Try.ntmps43
    go_wp2
    go_ret
    exact ⟨by (first | (rw [HV.out]; rfl) | rw [HV.out]), rfl⟩
  · have hz : (x == 0) = false := beq_eq_false_iff_ne.2 h0
    by_cases h1 : x = 1
    · have HV : Hid (isbt x = true) := decide_eq_true (Or.inr h1)
      have hz1 : (x == 1) = true := by rw [h1]; rfl
      clear h0 h1
      go_enter Try.func43, Try.ntmps43
      go_wp2
      go_ret
      exact ⟨by (first | (rw [HV.out]; rfl) | rw [HV.out]), rfl⟩
    · have HV : Hid (isbt x = false) := decide_eq_false (by omega)
      have hz1 : (x == 1) = false := beq_eq_false_iff_ne.2 h1
      clear h0 h1
      go_enter Try.func43, Try.ntmps43
      go_wp2
      go_ret
      exact ⟨by (first | (rw [HV.out]; rfl) | rw [HV.out]), rfl⟩
theorem isht_is (x : Int) : isht x = (decide (x = -1) || isbt x) := by
  unfold isht isbt
  rw [← Bool.decide_or]
set_option maxHeartbeats 2000000 in
theorem heard1_any (x : Int) (w : World) : Calls Try.prog 42 #[.int .i64 x] w fun e w' => e = .returned (.bool (isht x)) ∧ w' = w := by
  obtain ⟨bb, hbb⟩ : ∃ bb, bb = isbt x := ⟨_, rfl⟩
  have HC : Hid (Calls Try.prog 43 #[.int .i64 x] w fun e w' => e = .returned (.bool bb) ∧ w' = w) := by rw [hbb]; exact isBit_any x w
  by_cases h0 : x = -1
  · have HV : Hid (isht x = true) := decide_eq_true (Or.inl h0)
    have hz : (x == -1) = true := by rw [h0]; rfl
    clear h0 hbb
    go_enter Try.func42, Try.ntmps42
    go_wp2
    go_ret
    exact ⟨by (first | (rw [HV.out]; rfl) | rw [HV.out]), rfl⟩
  · have HV : Hid (isht x = bb) := by show _ = _; rw [isht_is, decide_eq_false h0, Bool.false_or, hbb]
    have hz : (x == -1) = false := beq_eq_false_iff_ne.2 h0
    clear h0 hbb
    go_enter Try.func42, Try.ntmps42
    go_wp2_with (go_at_call 43; refine HC.out.mono ?_; rintro e w' ⟨rfl, hw⟩; have hw := hw.symm; subst hw)
    go_ret
    exact ⟨by (first | (rw [HV.out]; rfl) | rw [HV.out]), rfl⟩
theorem enters_isbit : ∀ args w, (callFunc 43 args).run Try.prog w = .ok (.enter 43 args) w :=
  enters_of Try.func43 (by kernel_rfl) rfl
theorem enters_heard1 : ∀ args w, (callFunc 42 args).run Try.prog w = .ok (.enter 42 args) w :=
  enters_of Try.func42 (by kernel_rfl) rfl
/-- What is said of a word. -/
def bchk (p : Int → Bool) (l : Nat) (z : Nat → Int) (n : Int) : Int := if (l : Int) ≠ n then 6 else if allP p z l = true then 0 else 2
set_option maxHeartbeats 2000000 in
theorem bcheck_any {gf : Nat} (eg : ∀ args w, (callFunc gf args).run Try.prog w = .ok (.enter gf args) w) {ao : Option Addr} {l cap : Nat} {z : Nat → Int} {p : Int → Bool} {w : World} (n : Int) (hs : SlZ ao l z w) (hn : l ≤ 1000000)
    (hp : ∀ x, Calls Try.prog gf (#[.int .i64 x] ++ #[]) w fun e w' => e = .returned (.bool (p x)) ∧ w' = w) :
    Calls Try.prog 41 #[.slice ao l cap, .int .i64 n, .func (.func gf) #[] #[]] w fun e w' => e = .returned (.int .i64 (bchk p l z n)) ∧ w' = w := by
  obtain ⟨R, hR⟩ : ∃ R, R = allP p z l := ⟨_, rfl⟩
  have HC : Hid (Calls Try.prog 58 #[.slice ao l cap, .func (.func gf) #[] #[]] w fun e w' => e = .returned (.bool R) ∧ w' = w) := by rw [hR]; exact ball_any eg hs hn hp
  clear hs hp
  by_cases h0 : (l : Int) = n
  · have hz : ((l : Int) != n) = false := by rw [h0]; simp
    cases R with
    | true =>
      have HV : Hid (bchk p l z n = 0) := by show _ = _; unfold bchk; rw [if_neg (fun x => x h0), ← hR, if_pos rfl]
      clear h0 hR
      go_enter Try.func41, Try.ntmps41
      go_wp2_with (go_at_call 58; refine HC.out.mono ?_; rintro e w' ⟨rfl, hw⟩; have hw := hw.symm; subst hw)
      go_ret
      exact ⟨by (first | (rw [HV.out]; rfl) | rw [HV.out]), rfl⟩
    | false =>
      have HV : Hid (bchk p l z n = 2) := by show _ = _; unfold bchk; rw [if_neg (fun x => x h0), ← hR, if_neg (by intro h; cases h)]
      clear h0 hR
      go_enter Try.func41, Try.ntmps41
      go_wp2_with (go_at_call 58; refine HC.out.mono ?_; rintro e w' ⟨rfl, hw⟩; have hw := hw.symm; subst hw)
      go_ret
      exact ⟨by (first | (rw [HV.out]; rfl) | rw [HV.out]), rfl⟩
  · have hz : ((l : Int) != n) = true := bne_iff_ne.2 h0
    have HV : Hid (bchk p l z n = 6) := by show _ = _; unfold bchk; rw [if_pos h0]
    clear h0 hR
    go_enter Try.func41, Try.ntmps41
    go_wp2
    go_ret
    exact ⟨by (first | (rw [HV.out]; rfl) | rw [HV.out]), rfl⟩
set_option maxHeartbeats 2000000 in
theorem bCheck_any {ao : Option Addr} {l cap : Nat} {z : Nat → Int} {w : World} (n : Int) (hs : SlZ ao l z w) (hn : l ≤ 1000000) :
    Calls Try.prog 28 #[.slice ao l cap, .int .i64 n] w fun e w' => e = .returned (.int .i64 (bchk isbt l z n)) ∧ w' = w := by
  have HC : Hid (Calls Try.prog 41 #[.slice ao l cap, .int .i64 n, .func (.func 43) #[] #[]] w fun e w' => e = .returned (.int .i64 (bchk isbt l z n)) ∧ w' = w) := bcheck_any enters_isbit n hs hn (fun x => isBit_any x w)
  obtain ⟨E, hE⟩ : ∃ E, E = bchk isbt l z n := ⟨_, rfl⟩
  rw [← hE] at HC ⊢
  clear hs hE
  go_enter Try.func28, Try.ntmps28
  go_wp2_with (go_at_call 41; refine HC.out.mono ?_; rintro e w' ⟨rfl, hw⟩; have hw := hw.symm; subst hw)
  go_ret
  exact ⟨rfl, rfl⟩
set_option maxHeartbeats 2000000 in
theorem bHeard_any {ao : Option Addr} {l cap : Nat} {z : Nat → Int} {w : World} (n : Int) (hs : SlZ ao l z w) (hn : l ≤ 1000000) :
    Calls Try.prog 22 #[.slice ao l cap, .int .i64 n] w fun e w' => e = .returned (.int .i64 (bchk isht l z n)) ∧ w' = w := by
  have HC : Hid (Calls Try.prog 41 #[.slice ao l cap, .int .i64 n, .func (.func 42) #[] #[]] w fun e w' => e = .returned (.int .i64 (bchk isht l z n)) ∧ w' = w) := bcheck_any enters_heard1 n hs hn (fun x => heard1_any x w)
  obtain ⟨E, hE⟩ : ∃ E, E = bchk isht l z n := ⟨_, rfl⟩
  rw [← hE] at HC ⊢
  clear hs hE
  go_enter Try.func22, Try.ntmps22
  go_wp2_with (go_at_call 41; refine HC.out.mono ?_; rintro e w' ⟨rfl, hw⟩; have hw := hw.symm; subst hw)
  go_ret
  exact ⟨rfl, rfl⟩
/-- Are the first numbers of two lists the same? -/
def eqN (a b : Nat → Int) : Nat → Bool
  | 0 => true
  | n + 1 => eqN a b n && decide (a n = b n)
theorem eqN_no {a b : Nat → Int} {i : Nat} (h : a i ≠ b i) : ∀ n, i < n → eqN a b n = false
  | 0, hi => absurd hi (by omega)
  | n + 1, hi => by
    show (eqN a b n && decide (a n = b n)) = false
    by_cases e : i = n
    · rw [← e, decide_eq_false h, Bool.and_false]
    · rw [eqN_no h n (by omega), Bool.false_and]
theorem eqN_iff {a b : Nat → Int} : ∀ n, eqN a b n = true ↔ ∀ j, j < n → a j = b j
  | 0 => ⟨fun _ j hj => absurd hj (by omega), fun _ => rfl⟩
  | n + 1 => by
    show (eqN a b n && decide (a n = b n)) = true ↔ _
    rw [Bool.and_eq_true, eqN_iff n, decide_eq_true_eq]
    constructor
    · rintro ⟨h1, h2⟩ j hj
      by_cases e : j = n
      · rw [e]; exact h2
      · exact h1 j (by omega)
    · intro h
      exact ⟨fun j hj => h j (by omega), h n (by omega)⟩
set_option maxHeartbeats 4000000 in
set_option maxRecDepth 100000 in
theorem sequal_any {ao bo : Option Addr} {n ca cb : Nat} {a b : Nat → Int} {w : World} (ha : SlZ ao n a w) (hb : SlZ bo n b w) (hn : n ≤ 1000000) :
    Calls Try.prog 25 #[.slice ao n ca, .slice bo n cb] w fun e w' => e = .returned (.bool (eqN a b n)) ∧ ∃ d, w' = w.drewN d := by
  obtain ⟨R, hR⟩ : ∃ R, R = eqN a b n := ⟨_, rfl⟩
  have HS : Hid (SlZ ao n a w ∧ SlZ bo n b w ∧ R = eqN a b n) := ⟨ha, hb, hR⟩
  have hnn : ((n : Int) != (n : Int)) = false := by simp
  rw [← hR]
  clear ha hb hR
  go_enter Try.func25, Try.ntmps25
  go_wp2
  go_loopw [13] (fun vi wx => ∃ i : Nat, i ≤ n ∧ vi = .int .i64 (i : Nat) ∧ Hid (eqN a b i = true) ∧ ∃ d, wx = w.drewN d) (fun vi _ => n - (intOf vi).toNat)
  case atStart => exact ⟨0, by omega, rfl, rfl, 0, rfl⟩
  case round =>
    obtain ⟨i, hi, rfl, HI, d, hwx⟩ := hrel
    subst hwx
    by_cases hlt : i < n
    · have hib : (i : Int) < (n : Int) := by omega
      have hib0 : (0 : Int) ≤ (i : Int) := by omega
      obtain ⟨b1, o1, rfl, hc1⟩ := HS.out.1 i hlt
      obtain ⟨b2, o2, rfl, hc2⟩ := HS.out.2.1 i hlt
      obtain ⟨x, hx⟩ : ∃ x, x = a i := ⟨_, rfl⟩
      obtain ⟨y, hy⟩ : ∃ y, y = b i := ⟨_, rfl⟩
      replace hc1 : w.cell? ⟨b1, o1 + i, none⟩ = some (.int .i64 x) := by rw [hx]; exact hc1
      replace hc2 : w.cell? ⟨b2, o2 + i, none⟩ = some (.int .i64 y) := by rw [hy]; exact hc2
      by_cases hxy : x = y
      · have hz : (x != y) = false := by rw [hxy]; simp
        have HV : Hid (eqN a b (i + 1) = true) := by
          show (eqN a b i && decide (a i = b i)) = true
          rw [HI.out, ← hx, ← hy, decide_eq_true hxy]; rfl
        clear hx hy hxy
        go_wp2
        go_quiet (fail)
        go_wp2
        go_roundw
        case rel => exact ⟨i + 1, by omega, by go_num, HV.out, _, by first | rfl | exact World.drewN_drewN _ _ _⟩
        case measure => simp [intOf]; omega
      · have hz : (x != y) = true := bne_iff_ne.2 hxy
        have HV : Hid (R = false) := by show _ = _; rw [HS.out.2.2]; exact eqN_no (by rw [← hx, ← hy]; exact hxy) n hlt
        clear hx hy hxy
        go_wp2
        go_quiet (fail)
        go_wp2
        go_ret
        exact ⟨by (first | (rw [HV.out]; rfl) | rw [HV.out]), _, by first | rfl | exact World.drewN_drewN _ _ _⟩
    · have hib : ¬ (i : Int) < (n : Int) := by omega
      have HV : Hid (R = true) := by show _ = _; rw [HS.out.2.2, show n = i by omega]; exact HI.out
      go_wp2
      go_ret
      exact ⟨by (first | (rw [HV.out]; rfl) | rw [HV.out]), d, rfl⟩
end Go.Proofs.Ytjkncdmbcckcdab

/- Codes of few checks: the reference's ChecksMay and Bits. -/
namespace Go.Proofs.Ytjkncdmbcckcdab
open Go.RowKit Go.Sort

end Go.Proofs.Ytjkncdmbcckcdab
