/- Texts of ours, one behind the other: KE3 KE4 KE5 KE6 KE7 KE8 KE9 KE10 KE11 KE12 KE13 KE14. -/
import Derived.Test.YtbfkacnpbelmlaaZKA3
import Derived.Test.YtbfkacnpbelmlaaZL1
import Derived.Test.YtbfkacnpbelmlaaZR15
/- Words of bits (package bit); slices.Equal; slices.Max. -/
namespace Go.Proofs.Ytbfkacnpbelmlaa
open Go.RowKit Go.Sort

def allP (p : Int → Bool) (z : Nat → Int) : Nat → Bool
  | 0 => true
  | n + 1 => allP p z n && p (z n)
theorem allP_no {p : Int → Bool} {z : Nat → Int} {i : Nat} (h : p (z i) = false) : ∀ n, i < n → allP p z n = false
  | 0, hi => absurd hi (by omega)
  | n + 1, hi => by
    show (allP p z n && p (z n)) = false
    by_cases e : i = n
    · rw [← e, h, Bool.and_false]
    · rw [allP_no h n (by omega), Bool.false_and]
theorem allP_iff {p : Int → Bool} {z : Nat → Int} : ∀ n, allP p z n = true → ∀ j, j < n → p (z j) = true
  | 0, _, j, hj => absurd hj (by omega)
  | n + 1, h, j, hj => by
    have h : (allP p z n && p (z n)) = true := h
    rw [Bool.and_eq_true] at h
    by_cases e : j = n
    · rw [e]; exact h.2
    · exact allP_iff n h.1 j (by omega)
set_option maxHeartbeats 4000000 in
set_option maxRecDepth 100000 in
theorem ball_any {gf : Nat} (eg : ∀ args w, (callFunc gf args).run Try.prog w = .ok (.enter gf args) w) {ao : Option Addr} {n cap : Nat} {z : Nat → Int} {p : Int → Bool} {w : World} (hs : SlZ ao n z w) (hn : n ≤ 1000000)
    (hp : ∀ x, Calls Try.prog gf (#[.int .i64 x] ++ #[]) w fun e w' => e = .returned (.bool (p x)) ∧ w' = w) :
    Calls Try.prog 47 #[.slice ao n cap, .func (.func gf) #[] #[]] w fun e w' => e = .returned (.bool (allP p z n)) ∧ w' = w := by
  obtain ⟨R, hR⟩ : ∃ R, R = allP p z n := ⟨_, rfl⟩
  have HS : Hid (SlZ ao n z w ∧ (∀ x, Calls Try.prog gf (#[.int .i64 x] ++ #[]) w fun e w' => e = .returned (.bool (p x)) ∧ w' = w) ∧ R = allP p z n) := ⟨hs, hp, hR⟩
  rw [← hR]
  clear hs hp hR
  go_enter Try.func47, Try.ntmps47
  go_wp2
  go_loopw [9] (fun vi wx => ∃ i : Nat, i ≤ n ∧ vi = .int .i64 (i : Nat) ∧ Hid (allP p z i = true) ∧ wx = w) (fun vi _ => n - (intOf vi).toNat)
  case atStart => exact ⟨0, by omega, rfl, rfl, rfl⟩
  case round =>
    obtain ⟨i, hi, rfl, HI, hwx⟩ := hrel
    have hwx := hwx.symm
    subst hwx
    by_cases hlt : i < n
    · have hib : (i : Int) < (n : Int) := by omega
      have hib0 : (0 : Int) ≤ (i : Int) := by omega
      obtain ⟨b, off, rfl, hc⟩ := HS.out.1 i hlt
      obtain ⟨x, hx⟩ : ∃ x, x = z i := ⟨_, rfl⟩
      rw [← hx] at hc
      obtain ⟨pb, hpb⟩ : ∃ pb, pb = p x := ⟨_, rfl⟩
      have hcall : Calls Try.prog gf (#[.int .i64 x] ++ #[]) w fun e w' => e = .returned (.bool pb) ∧ w' = w := by
        rw [hpb]; exact HS.out.2.1 x
      have HP : Hid (pb = p (z i)) := by show _ = _; rw [hpb, hx]
      clear hx hpb
      cases pb with
      | false =>
        have HV : Hid (R = false) := by show _ = _; rw [HS.out.2.2]; exact allP_no HP.out.symm n hlt
        go_wp2_with (go_at_fn gf; refine hcall.mono ?_; rintro e w' ⟨rfl, hw⟩; have hw := hw.symm; subst hw)
        go_ret
        exact ⟨by (first | (rw [HV.out]; rfl) | rw [HV.out]), rfl⟩
      | true =>
        have HV : Hid (allP p z (i + 1) = true) := by
          show (allP p z i && p (z i)) = true
          rw [HI.out, ← HP.out]; rfl
        go_wp2_with (go_at_fn gf; refine hcall.mono ?_; rintro e w' ⟨rfl, hw⟩; have hw := hw.symm; subst hw)
        go_roundw
        case rel => exact ⟨i + 1, by omega, by go_num, HV.out, by first | rfl | trivial⟩
        case measure => simp [intOf]; omega
    · have hib : ¬ (i : Int) < (n : Int) := by omega
      have HV : Hid (R = true) := by show _ = _; rw [HS.out.2.2, show n = i by omega]; exact HI.out
      go_wp2
      go_ret
      exact ⟨by (first | (rw [HV.out]; rfl) | rw [HV.out]), rfl⟩
def isbt (x : Int) : Bool := decide (x = 0 ∨ x = 1)
def isht (x : Int) : Bool := decide (x = -1 ∨ x = 0 ∨ x = 1)
set_option maxHeartbeats 2000000 in
theorem isBit_any (x : Int) (w : World) : Calls Try.prog 45 #[.int .i64 x] w fun e w' => e = .returned (.bool (isbt x)) ∧ w' = w := by
  by_cases h0 : x = 0
  · have HV : Hid (isbt x = true) := decide_eq_true (Or.inl h0)
    have hz : (x == 0) = true := by rw [h0]; rfl
    clear h0
    go_enter Try.func45, Try.ntmps45
    go_wp2
    go_ret
    exact ⟨by (first | (rw [HV.out]; rfl) | rw [HV.out]), rfl⟩
  · have hz : (x == 0) = false := beq_eq_false_iff_ne.2 h0
    by_cases h1 : x = 1
    · have HV : Hid (isbt x = true) := decide_eq_true (Or.inr h1)
      have hz1 : (x == 1) = true := by rw [h1]; rfl
      clear h0 h1
      go_enter Try.func45, Try.ntmps45
      go_wp2
      go_ret
      exact ⟨by (first | (rw [HV.out]; rfl) | rw [HV.out]), rfl⟩
    · have HV : Hid (isbt x = false) := decide_eq_false (by omega)
      have hz1 : (x == 1) = false := beq_eq_false_iff_ne.2 h1
      clear h0 h1
      go_enter Try.func45, Try.ntmps45
      go_wp2
      go_ret
      exact ⟨by (first | (rw [HV.out]; rfl) | rw [HV.out]), rfl⟩
theorem isht_is (x : Int) : isht x = (decide (x = -1) || isbt x) := by
  unfold isht isbt
  rw [← Bool.decide_or]
set_option maxHeartbeats 2000000 in
theorem heard1_any (x : Int) (w : World) : Calls Try.prog 49 #[.int .i64 x] w fun e w' => e = .returned (.bool (isht x)) ∧ w' = w := by
  obtain ⟨bb, hbb⟩ : ∃ bb, bb = isbt x := ⟨_, rfl⟩
  have HC : Hid (Calls Try.prog 45 #[.int .i64 x] w fun e w' => e = .returned (.bool bb) ∧ w' = w) := by rw [hbb]; exact isBit_any x w
  by_cases h0 : x = -1
  · have HV : Hid (isht x = true) := decide_eq_true (Or.inl h0)
    have hz : (x == -1) = true := by rw [h0]; rfl
    clear h0 hbb
    go_enter Try.func49, Try.ntmps49
    go_wp2
    go_ret
    exact ⟨by (first | (rw [HV.out]; rfl) | rw [HV.out]), rfl⟩
  · have HV : Hid (isht x = bb) := by show _ = _; rw [isht_is, decide_eq_false h0, Bool.false_or, hbb]
    have hz : (x == -1) = false := beq_eq_false_iff_ne.2 h0
    clear h0 hbb
    go_enter Try.func49, Try.ntmps49
    go_wp2_with (go_at_call 45; refine HC.out.mono ?_; rintro e w' ⟨rfl, hw⟩; have hw := hw.symm; subst hw)
    go_ret
    exact ⟨by (first | (rw [HV.out]; rfl) | rw [HV.out]), rfl⟩
theorem enters_isbit : ∀ args w, (callFunc 45 args).run Try.prog w = .ok (.enter 45 args) w :=
  enters_of Try.func45 (by kernel_rfl) rfl
theorem enters_heard1 : ∀ args w, (callFunc 49 args).run Try.prog w = .ok (.enter 49 args) w :=
  enters_of Try.func49 (by kernel_rfl) rfl
/-- What is said of a word. -/
def bchk (p : Int → Bool) (l : Nat) (z : Nat → Int) (n : Int) : Int := if (l : Int) ≠ n then 6 else if allP p z l = true then 0 else 2
set_option maxHeartbeats 2000000 in
theorem bcheck_any {gf : Nat} (eg : ∀ args w, (callFunc gf args).run Try.prog w = .ok (.enter gf args) w) {ao : Option Addr} {l cap : Nat} {z : Nat → Int} {p : Int → Bool} {w : World} (n : Int) (hs : SlZ ao l z w) (hn : l ≤ 1000000)
    (hp : ∀ x, Calls Try.prog gf (#[.int .i64 x] ++ #[]) w fun e w' => e = .returned (.bool (p x)) ∧ w' = w) :
    Calls Try.prog 44 #[.slice ao l cap, .int .i64 n, .func (.func gf) #[] #[]] w fun e w' => e = .returned (.int .i64 (bchk p l z n)) ∧ w' = w := by
  obtain ⟨R, hR⟩ : ∃ R, R = allP p z l := ⟨_, rfl⟩
  have HC : Hid (Calls Try.prog 47 #[.slice ao l cap, .func (.func gf) #[] #[]] w fun e w' => e = .returned (.bool R) ∧ w' = w) := by rw [hR]; exact ball_any eg hs hn hp
  clear hs hp
  by_cases h0 : (l : Int) = n
  · have hz : ((l : Int) != n) = false := by rw [h0]; simp
    cases R with
    | true =>
      have HV : Hid (bchk p l z n = 0) := by show _ = _; unfold bchk; rw [if_neg (fun x => x h0), ← hR, if_pos rfl]
      clear h0 hR
      go_enter Try.func44, Try.ntmps44
      go_wp2_with (go_at_call 47; refine HC.out.mono ?_; rintro e w' ⟨rfl, hw⟩; have hw := hw.symm; subst hw)
      go_ret
      exact ⟨by (first | (rw [HV.out]; rfl) | rw [HV.out]), rfl⟩
    | false =>
      have HV : Hid (bchk p l z n = 2) := by show _ = _; unfold bchk; rw [if_neg (fun x => x h0), ← hR, if_neg (by intro h; cases h)]
      clear h0 hR
      go_enter Try.func44, Try.ntmps44
      go_wp2_with (go_at_call 47; refine HC.out.mono ?_; rintro e w' ⟨rfl, hw⟩; have hw := hw.symm; subst hw)
      go_ret
      exact ⟨by (first | (rw [HV.out]; rfl) | rw [HV.out]), rfl⟩
  · have hz : ((l : Int) != n) = true := bne_iff_ne.2 h0
    have HV : Hid (bchk p l z n = 6) := by show _ = _; unfold bchk; rw [if_pos h0]
    clear h0 hR
    go_enter Try.func44, Try.ntmps44
    go_wp2
    go_ret
    exact ⟨by (first | (rw [HV.out]; rfl) | rw [HV.out]), rfl⟩
set_option maxHeartbeats 2000000 in
theorem bCheck_any {ao : Option Addr} {l cap : Nat} {z : Nat → Int} {w : World} (n : Int) (hs : SlZ ao l z w) (hn : l ≤ 1000000) :
    Calls Try.prog 32 #[.slice ao l cap, .int .i64 n] w fun e w' => e = .returned (.int .i64 (bchk isbt l z n)) ∧ w' = w := by
  have HC : Hid (Calls Try.prog 44 #[.slice ao l cap, .int .i64 n, .func (.func 45) #[] #[]] w fun e w' => e = .returned (.int .i64 (bchk isbt l z n)) ∧ w' = w) := bcheck_any enters_isbit n hs hn (fun x => isBit_any x w)
  obtain ⟨E, hE⟩ : ∃ E, E = bchk isbt l z n := ⟨_, rfl⟩
  rw [← hE] at HC ⊢
  clear hs hE
  go_enter Try.func32, Try.ntmps32
  go_wp2_with (go_at_call 44; refine HC.out.mono ?_; rintro e w' ⟨rfl, hw⟩; have hw := hw.symm; subst hw)
  go_ret
  exact ⟨rfl, rfl⟩
set_option maxHeartbeats 2000000 in
theorem bHeard_any {ao : Option Addr} {l cap : Nat} {z : Nat → Int} {w : World} (n : Int) (hs : SlZ ao l z w) (hn : l ≤ 1000000) :
    Calls Try.prog 36 #[.slice ao l cap, .int .i64 n] w fun e w' => e = .returned (.int .i64 (bchk isht l z n)) ∧ w' = w := by
  have HC : Hid (Calls Try.prog 44 #[.slice ao l cap, .int .i64 n, .func (.func 49) #[] #[]] w fun e w' => e = .returned (.int .i64 (bchk isht l z n)) ∧ w' = w) := bcheck_any enters_heard1 n hs hn (fun x => heard1_any x w)
  obtain ⟨E, hE⟩ : ∃ E, E = bchk isht l z n := ⟨_, rfl⟩
  rw [← hE] at HC ⊢
  clear hs hE
  go_enter Try.func36, Try.ntmps36
  go_wp2_with (go_at_call 44; refine HC.out.mono ?_; rintro e w' ⟨rfl, hw⟩; have hw := hw.symm; subst hw)
  go_ret
  exact ⟨rfl, rfl⟩
end Go.Proofs.Ytbfkacnpbelmlaa

/- Codes of few checks: the reference's ChecksMay and Bits. -/
namespace Go.Proofs.Ytbfkacnpbelmlaa
open Go.RowKit Go.Sort

end Go.Proofs.Ytbfkacnpbelmlaa

/- Codes of few checks: a round of peeling (the program's fill; printed by make/ke5.py). -/
namespace Go.Proofs.Ytbfkacnpbelmlaa
open Go.RowKit Go.Sort

theorem RowZ.lt' {g n : Nat} {z : Nat → Int} {w : World} (h : RowZ g n z w) : g < w.heap.size := by
  obtain ⟨cap, f, h1, _⟩ := h
  exact h1.lt
theorem RowZ.slz {g n : Nat} {z : Nat → Int} {w : World} (h : RowZ g n z w) : SlZ (some ⟨g, 0, none⟩) n z w := fun j hj => ⟨g, 0, rfl, by rw [Nat.zero_add]; exact h.cell j hj⟩
theorem OwnI.rowZ {base : Nat} {v : Value} {n : Nat} {z : Nat → Int} {w : World} (h : OwnI base v (zl n z) w) (h0 : 0 < n) : ∃ g cap, v = .slice (some ⟨g, 0, none⟩) n cap ∧ n ≤ cap ∧ cap ≤ 9223372036854775807 ∧ base ≤ g ∧ RowZ g n z w := by
  obtain ⟨g, cap, f, e1, g1, g2, g3, g4, g5, g6⟩ := h.row n (zl_len _ _) h0
  exact ⟨g, cap, e1, g3, by unfold maxLen at g4; omega, g1, cap, f, g5, g3, fun k hk => by rw [g6 k hk, zl_getD _ _ k hk]⟩
set_option maxHeartbeats 4000000 in
theorem sclone_any {b off n cap : Nat} {z : Nat → Int} {w : World} (h : SlZ (some ⟨b, off, none⟩) n z w) (h0 : 0 < n) (hn : n ≤ 1000000) (hl : b < w.heap.size) :
    Calls Try.prog 30 #[.slice (some ⟨b, off, none⟩) n cap] w fun e w' => ∃ g c, e = .returned (.slice (some ⟨g, 0, none⟩) n c) ∧ n ≤ c ∧ c ≤ 9223372036854775807 ∧ w.heap.size ≤ g ∧ RowZ g n z w' ∧ Below w.heap.size w w' := by
  have HS : Hid (SlZ (some ⟨b, off, none⟩) n z w ∧ LtB (some ⟨b, off, none⟩) w.heap.size) := ⟨h, fun x hx => by cases hx; exact hl⟩
  clear h hl
  have hrn : ∀ w1 : World, Sem.run Try.prog (binOp BinOp.eql 22 (Value.slice (some ⟨b, off, none⟩) n cap) (Value.slice none 0 0)) w1 = .ok (.bool false) w1 := fun w1 => Lib.run_eql_slice_nil w1 _ 3 (some ⟨b, off, none⟩) n cap 0 0 Try.underlying22
  go_enter Try.func30, Try.ntmps30
  go_wp2_with (at_builtin; refine append_ints rfl _ _ rfl w.heap.size _ [] rfl (own_empty (two_new _) (Nat.le_refl _)) (some ⟨b, off, none⟩) n cap z rfl (HS.out.1.below ((Below.refl _ _).alloc (Nat.le_refl _) _) HS.out.2) (fun e => by cases e) (by simpa using hn) (by simp) ?_; intro v' w' hown hgrow)
  obtain ⟨g, c, e1, g1, g2, g3, g4⟩ := OwnI.rowZ hown h0
  subst e1
  have HB : Hid (Below w.heap.size w w') := ((Below.refl _ _).alloc (Nat.le_refl _) _).grown hgrow (by simp) (by intro k hk; have hk : some w.heap.size = some k := hk; cases hk; exact Nat.le_refl _)
  have HR : Hid (n ≤ c ∧ c ≤ 9223372036854775807 ∧ w.heap.size ≤ g ∧ RowZ g n z w') := ⟨g1, g2, g3, g4⟩
  clear hown hgrow g1 g2 g3 g4
  go_ret
  exact ⟨g, c, rfl, HR.out.1, HR.out.2.1, HR.out.2.2.1, HR.out.2.2.2, HB.out⟩
end Go.Proofs.Ytbfkacnpbelmlaa

/- Codes of few checks: the program's Peel. -/
namespace Go.Proofs.Ytbfkacnpbelmlaa
open Go.RowKit Go.Sort

end Go.Proofs.Ytbfkacnpbelmlaa

/- Codes of few checks: the reference's alone and Peeled. -/
namespace Go.Proofs.Ytbfkacnpbelmlaa
open Go.RowKit Go.Sort

end Go.Proofs.Ytbfkacnpbelmlaa

/- Codes of few checks: the reference's Peeled. -/
namespace Go.Proofs.Ytbfkacnpbelmlaa
open Go.RowKit Go.Sort

end Go.Proofs.Ytbfkacnpbelmlaa

/- Codes of few checks: which checks are odd (the program's oddOnes); slices.Max. -/
namespace Go.Proofs.Ytbfkacnpbelmlaa
open Go.RowKit Go.Sort

end Go.Proofs.Ytbfkacnpbelmlaa

/- Codes of few checks: a round of turning (the program's turned). -/
namespace Go.Proofs.Ytbfkacnpbelmlaa
open Go.RowKit Go.Sort

end Go.Proofs.Ytbfkacnpbelmlaa

/- Codes of few checks: the program's Flip. -/
namespace Go.Proofs.Ytbfkacnpbelmlaa
open Go.RowKit Go.Sort

end Go.Proofs.Ytbfkacnpbelmlaa

/- Codes of few checks: what Flip says of what is wrong. -/
namespace Go.Proofs.Ytbfkacnpbelmlaa
open Go.RowKit Go.Sort

end Go.Proofs.Ytbfkacnpbelmlaa

/- Codes of few checks: what Stops says of checks that are none. -/
namespace Go.Proofs.Ytbfkacnpbelmlaa
open Go.RowKit Go.Sort

end Go.Proofs.Ytbfkacnpbelmlaa

/- Codes of few checks: the reference's odd checks. -/
namespace Go.Proofs.Ytbfkacnpbelmlaa
open Go.RowKit Go.Sort

end Go.Proofs.Ytbfkacnpbelmlaa
