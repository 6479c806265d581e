/- Texts of ours, one behind the other: S32 S33 KE1 KE2 KE3 KE4 KE5 KE6 KE7 KE8 KE9 KE10 KE11 KE12 KE13 KE14 KE15 KE16 KE17 KE18 KE19 KE20. -/
import Derived.Test.YtabkomelnhnoiaaZS15
import Derived.Test.YtabkomelnhnoiaaZU21
import Derived.Test.YtabkomelnhnoiaaZT2
import Derived.Shelf.Abstract
import Derived.Test.YtabkomelnhnoiaaZL1
import Derived.Test.YtabkomelnhnoiaaZU5
import Derived.Test.YtabkomelnhnoiaaZS4
import Derived.Test.YtabkomelnhnoiaaZR5
import Derived.Test.YtabkomelnhnoiaaZL10
/- Plain mathematics of codes of few checks: which checks may be; which places of a check are lost; sums modulo 2; which bits stand in the most odd checks. No Go text here. -/
namespace Go.Proofs.Ytabkomelnhnoiaa
open Go.RowKit Go.Sort

/-- Those of the first numbers for which something holds. -/
def selZ (p : Int → Bool) (z : Nat → Int) : Nat → List Int
  | 0 => []
  | m + 1 => if p (z m) = true then selZ p z m ++ [z m] else selZ p z m
/-- What is said of the first places of one check. -/
def crow (n : Int) (z : Nat → Int) : Nat → Int
  | 0 => 0
  | m + 1 => if crow n z m ≠ 0 then crow n z m else if z m < 0 ∨ n ≤ z m then 10 else if 0 < m ∧ z m ≤ z (m - 1) then 3 else 0
/-- Which places of a check are lost. -/
def losts (y z : Nat → Int) (m : Nat) : List Int := selZ (fun x => decide (y x.toNat = -1)) z m
/-- The sum of a check's bits, modulo 2. -/
def par (y z : Nat → Int) (m : Nat) : Nat := (selZ (fun x => decide (y x.toNat = 1)) z m).length % 2
/-- What a check fills in. -/
def pfil (N : Nat → Nat) (Z : Nat → Nat → Int) (y : Nat → Int) : Fil := fun i => match losts y (Z i) (N i) with
  | [x] => some (x.toNat, ((par y (Z i) (N i) : Nat) : Int))
  | _ => none
/-- A round of peeling. -/
def pround (m : Nat) (N : Nat → Nat) (Z : Nat → Nat → Int) (y : Nat → Int) : Nat → Int := flP (pfil N Z y) y m
def prounds (m : Nat) (N : Nat → Nat) (Z : Nat → Nat → Int) (y : Nat → Int) : Nat → Nat → Int
  | 0 => y
  | k + 1 => pround m N Z (prounds m N Z y k)
end Go.Proofs.Ytabkomelnhnoiaa

/- Plain mathematics of codes of few checks: which bits stand in the most odd checks; rounds of turning. No Go text here. -/
namespace Go.Proofs.Ytabkomelnhnoiaa
open Go.RowKit Go.Sort

/-- The greatest of the first numbers. -/
def mxv (f : Nat → Nat) : Nat → Nat
  | 0 => 0
  | n + 1 => max (mxv f n) (f n)
/-- How often a place stands among the first numbers of a check. -/
def ofc (z : Nat → Int) (m p : Nat) : Nat := ct (fun j => decide ((z j).toNat = p)) m
/-- .. of the first checks that are odd. -/
def oft (N : Nat → Nat) (Z : Nat → Nat → Int) (y : Nat → Int) (p : Nat) : Nat → Nat
  | 0 => 0
  | i + 1 => oft N Z y p i + if par y (Z i) (N i) = 1 then ofc (Z i) (N i) p else 0
/-- Which checks are odd. -/
def odds (N : Nat → Nat) (Z : Nat → Nat → Int) (y : Nat → Int) : Nat → List Nat
  | 0 => []
  | i + 1 => if par y (Z i) (N i) = 1 then odds N Z y i ++ [i] else odds N Z y i
/-- A round of turning. -/
def tround (n m : Nat) (N : Nat → Nat) (Z : Nat → Nat → Int) (y : Nat → Int) : Nat → Int := fun p => if p < n ∧ oft N Z y p m = mxv (fun p => oft N Z y p m) n then 1 - y p else y p
def trounds (n m : Nat) (N : Nat → Nat) (Z : Nat → Nat → Int) (y : Nat → Int) : Nat → Nat → Int
  | 0 => y
  | r + 1 => tround n m N Z (trounds n m N Z y r)
/-- Where it ends: after r rounds. -/
def Tend (n m : Nat) (N : Nat → Nat) (Z : Nat → Nat → Int) (y : Nat → Int) (most r : Nat) : Prop := r ≤ most ∧ (∀ j, j < r → odds N Z (trounds n m N Z y j) m ≠ []) ∧ (odds N Z (trounds n m N Z y r) m = [] ∨ r = most)
end Go.Proofs.Ytabkomelnhnoiaa

/- Codes of few checks: which checks may be (the program's Check, the reference's ChecksMay). -/
namespace Go.Proofs.Ytabkomelnhnoiaa
open Go.RowKit Go.Sort

end Go.Proofs.Ytabkomelnhnoiaa

/- Codes of few checks: those places of a check for which something holds (those); the sum of its bits (sum). -/
namespace Go.Proofs.Ytabkomelnhnoiaa
open Go.RowKit Go.Sort

end Go.Proofs.Ytabkomelnhnoiaa

/- Words of bits (package bit); slices.Equal; slices.Max. -/
namespace Go.Proofs.Ytabkomelnhnoiaa
open Go.RowKit Go.Sort

def allP (p : Int → Bool) (z : Nat → Int) : Nat → Bool
  | 0 => true
  | n + 1 => allP p z n && p (z n)
theorem allP_no {p : Int → Bool} {z : Nat → Int} {i : Nat} (h : p (z i) = false) : ∀ n, i < n → allP p z n = false
  | 0, hi => absurd hi (by omega)
  | n + 1, hi => by
    show (allP p z n && p (z n)) = false
    by_cases e : i = n
    · rw [← e, h, Bool.and_false]
    · rw [allP_no h n (by omega), Bool.false_and]
set_option maxHeartbeats 4000000 in
set_option maxRecDepth 100000 in
theorem ball_any {gf : Nat} (eg : ∀ args w, (callFunc gf args).run Try.prog w = .ok (.enter gf args) w) {ao : Option Addr} {n cap : Nat} {z : Nat → Int} {p : Int → Bool} {w : World} (hs : SlZ ao n z w) (hn : n ≤ 1000000)
    (hp : ∀ x, Calls Try.prog gf (#[.int .i64 x] ++ #[]) w fun e w' => e = .returned (.bool (p x)) ∧ w' = w) :
    Calls Try.prog 67 #[.slice ao n cap, .func (.func gf) #[] #[]] w fun e w' => e = .returned (.bool (allP p z n)) ∧ w' = w := by
  obtain ⟨R, hR⟩ : ∃ R, R = allP p z n := ⟨_, rfl⟩
  have HS : Hid (SlZ ao n z w ∧ (∀ x, Calls Try.prog gf (#[.int .i64 x] ++ #[]) w fun e w' => e = .returned (.bool (p x)) ∧ w' = w) ∧ R = allP p z n) := ⟨hs, hp, hR⟩
  rw [← hR]
  clear hs hp hR
  go_enter Try.func67, Try.ntmps67
  go_wp2
  go_loopw [9] (fun vi wx => ∃ i : Nat, i ≤ n ∧ vi = .int .i64 (i : Nat) ∧ Hid (allP p z i = true) ∧ wx = w) (fun vi _ => n - (intOf vi).toNat)
  case atStart => exact ⟨0, by omega, rfl, rfl, rfl⟩
  case round =>
    obtain ⟨i, hi, rfl, HI, hwx⟩ := hrel
    have hwx := hwx.symm
    subst hwx
    by_cases hlt : i < n
    · have hib : (i : Int) < (n : Int) := by omega
      have hib0 : (0 : Int) ≤ (i : Int) := by omega
      obtain ⟨b, off, rfl, hc⟩ := HS.out.1 i hlt
      obtain ⟨x, hx⟩ : ∃ x, x = z i := ⟨_, rfl⟩
      rw [← hx] at hc
      obtain ⟨pb, hpb⟩ : ∃ pb, pb = p x := ⟨_, rfl⟩
      have hcall : Calls Try.prog gf (#[.int .i64 x] ++ #[]) w fun e w' => e = .returned (.bool pb) ∧ w' = w := by
        rw [hpb]; exact HS.out.2.1 x
      have HP : Hid (pb = p (z i)) := by show _ = _; rw [hpb, hx]
      clear hx hpb
      cases pb with
      | false =>
        have HV : Hid (R = false) := by show _ = _; rw [HS.out.2.2]; exact allP_no HP.out.symm n hlt
        go_wp2_with (go_at_fn gf; refine hcall.mono ?_; rintro e w' ⟨rfl, hw⟩; have hw := hw.symm; subst hw)
        go_ret
        exact ⟨by (first | (rw [HV.out]; rfl) | rw [HV.out]), rfl⟩
      | true =>
        have HV : Hid (allP p z (i + 1) = true) := by
          show (allP p z i && p (z i)) = true
          rw [HI.out, ← HP.out]; rfl
        go_wp2_with (go_at_fn gf; refine hcall.mono ?_; rintro e w' ⟨rfl, hw⟩; have hw := hw.symm; subst hw)
        go_roundw
        case rel => exact ⟨i + 1, by omega, by go_num, HV.out, by first | rfl | trivial⟩
        case measure => simp [intOf]; omega
    · have hib : ¬ (i : Int) < (n : Int) := by omega
      have HV : Hid (R = true) := by show _ = _; rw [HS.out.2.2, show n = i by omega]; exact HI.out
      go_wp2
      go_ret
      exact ⟨by (first | (rw [HV.out]; rfl) | rw [HV.out]), rfl⟩
def isbt (x : Int) : Bool := decide (x = 0 ∨ x = 1)
set_option maxHeartbeats 2000000 in
theorem isBit_any (x : Int) (w : World) : Calls Try.prog 68 #[.int .i64 x] w fun e w' => e = .returned (.bool (isbt x)) ∧ w' = w := by
  by_cases h0 : x = 0
  · have HV : Hid (isbt x = true) := decide_eq_true (Or.inl h0)
    have hz : (x == 0) = true := by rw [h0]; rfl
    clear h0
    go_enter Try.func68, Try.ntmps68
    go_wp2
    go_ret
    exact ⟨by (first | (rw [HV.out]; rfl) | rw [HV.out]), rfl⟩
  · have hz : (x == 0) = false := beq_eq_false_iff_ne.2 h0
    by_cases h1 : x = 1
    · have HV : Hid (isbt x = true) := decide_eq_true (Or.inr h1)
      have hz1 : (x == 1) = true := by rw [h1]; rfl
      clear h0 h1
      go_enter Try.func68, Try.ntmps68
      go_wp2
      go_ret
      exact ⟨by (first | (rw [HV.out]; rfl) | rw [HV.out]), rfl⟩
    · have HV : Hid (isbt x = false) := decide_eq_false (by omega)
      have hz1 : (x == 1) = false := beq_eq_false_iff_ne.2 h1
      clear h0 h1
      go_enter Try.func68, Try.ntmps68
      go_wp2
      go_ret
      exact ⟨by (first | (rw [HV.out]; rfl) | rw [HV.out]), rfl⟩
theorem enters_isbit : ∀ args w, (callFunc 68 args).run Try.prog w = .ok (.enter 68 args) w :=
  enters_of Try.func68 (by kernel_rfl) rfl
end Go.Proofs.Ytabkomelnhnoiaa

/- Codes of few checks: the reference's ChecksMay and Bits. -/
namespace Go.Proofs.Ytabkomelnhnoiaa
open Go.RowKit Go.Sort

end Go.Proofs.Ytabkomelnhnoiaa

/- Codes of few checks: a round of peeling (the program's fill; printed by make/ke5.py). -/
namespace Go.Proofs.Ytabkomelnhnoiaa
open Go.RowKit Go.Sort

end Go.Proofs.Ytabkomelnhnoiaa

/- Codes of few checks: the program's Peel. -/
namespace Go.Proofs.Ytabkomelnhnoiaa
open Go.RowKit Go.Sort

end Go.Proofs.Ytabkomelnhnoiaa

/- Codes of few checks: the reference's alone and Peeled. -/
namespace Go.Proofs.Ytabkomelnhnoiaa
open Go.RowKit Go.Sort

end Go.Proofs.Ytabkomelnhnoiaa

/- Codes of few checks: the reference's Peeled. -/
namespace Go.Proofs.Ytabkomelnhnoiaa
open Go.RowKit Go.Sort

theorem RowZ.sliceI {g n c : Nat} {z : Nat → Int} {w : World} (h : RowZ g n z w) (h0 : 0 < n) (hn : n ≤ 1000000) : SliceI (.slice (some ⟨g, 0, none⟩) n c) (zl n z) w := by
  refine Or.inr ⟨fun e => ?_, by rw [zl_len]; exact hn, g, 0, c, by rw [zl_len], fun j hj => ?_⟩
  · have := congrArg List.length e
    rw [zl_len] at this
    exact absurd this (by show n ≠ 0; omega)
  · rw [zl_len] at hj
    rw [Nat.zero_add, h.cell j hj, zl_getD n z j hj]
end Go.Proofs.Ytabkomelnhnoiaa

/- Codes of few checks: which checks are odd (the program's oddOnes); slices.Max. -/
namespace Go.Proofs.Ytabkomelnhnoiaa
open Go.RowKit Go.Sort

end Go.Proofs.Ytabkomelnhnoiaa

/- Codes of few checks: a round of turning (the program's turned). -/
namespace Go.Proofs.Ytabkomelnhnoiaa
open Go.RowKit Go.Sort

end Go.Proofs.Ytabkomelnhnoiaa

/- Codes of few checks: the program's Flip. -/
namespace Go.Proofs.Ytabkomelnhnoiaa
open Go.RowKit Go.Sort

end Go.Proofs.Ytabkomelnhnoiaa

/- Codes of few checks: what Flip says of what is wrong. -/
namespace Go.Proofs.Ytabkomelnhnoiaa
open Go.RowKit Go.Sort

end Go.Proofs.Ytabkomelnhnoiaa

/- Codes of few checks: what Stops says of checks that are none. -/
namespace Go.Proofs.Ytabkomelnhnoiaa
open Go.RowKit Go.Sort

end Go.Proofs.Ytabkomelnhnoiaa

/- Codes of few checks: the reference's odd checks. -/
namespace Go.Proofs.Ytabkomelnhnoiaa
open Go.RowKit Go.Sort

end Go.Proofs.Ytabkomelnhnoiaa

/- Codes of few checks: the reference's Bits. -/
namespace Go.Proofs.Ytabkomelnhnoiaa
open Go.RowKit Go.Sort

end Go.Proofs.Ytabkomelnhnoiaa

/- Codes of few checks: the reference's Stopping (over what In says, as a premise). -/
namespace Go.Proofs.Ytabkomelnhnoiaa
open Go.RowKit Go.Sort

end Go.Proofs.Ytabkomelnhnoiaa

/- Codes of few checks: the program's Stops. -/
namespace Go.Proofs.Ytabkomelnhnoiaa
open Go.RowKit Go.Sort

end Go.Proofs.Ytabkomelnhnoiaa

/- Codes of few checks: the reference's Flipped. -/
namespace Go.Proofs.Ytabkomelnhnoiaa
open Go.RowKit Go.Sort

/-- A running maximum. -/
def Mxs (f : Nat → Nat) (n t : Nat) : Prop := (∀ p, p < n → f p ≤ t) ∧ (t = 0 ∨ ∃ p, p < n ∧ f p = t)
theorem Mxs.up {f f' : Nat → Nat} {n t X : Nat} (h : Mxs f n t) (hX : X < n) (hf : ∀ p, p < n → f' p = if p = X then f X + 1 else f p) (hgt : t < f X + 1) : Mxs f' n (f X + 1) := by
  refine ⟨fun p hp => ?_, Or.inr ⟨X, hX, by rw [hf X hX, if_pos rfl]⟩⟩
  rw [hf p hp]
  split
  · exact Nat.le_refl _
  · have := h.1 p hp; omega
theorem Mxs.stay {f f' : Nat → Nat} {n t X : Nat} (h : Mxs f n t) (hf : ∀ p, p < n → f' p = if p = X then f X + 1 else f p) (hle : ¬ t < f X + 1) : Mxs f' n t := by
  refine ⟨fun p hp => ?_, ?_⟩
  · rw [hf p hp]
    split
    · omega
    · exact h.1 p hp
  · rcases h.2 with h0 | ⟨p, hp, hpt⟩
    · omega
    · refine Or.inr ⟨p, hp, ?_⟩
      rw [hf p hp, if_neg (fun e => by rw [e] at hpt; omega)]
      exact hpt
theorem Mxs.congr {f f' : Nat → Nat} {n t : Nat} (h : Mxs f n t) (hf : ∀ p, p < n → f' p = f p) : Mxs f' n t := by
  refine ⟨fun p hp => by rw [hf p hp]; exact h.1 p hp, ?_⟩
  rcases h.2 with h0 | ⟨p, hp, hpt⟩
  · exact Or.inl h0
  · exact Or.inr ⟨p, hp, by rw [hf p hp]; exact hpt⟩
end Go.Proofs.Ytabkomelnhnoiaa

/- SparseSays: seven ways through it, over what its calls tell. -/
namespace Go.Proofs.Ytabkomelnhnoiaa
open Go.RowKit Go.Sort

end Go.Proofs.Ytabkomelnhnoiaa

/- SparseSays: whatever it is given. -/
namespace Go.Proofs.Ytabkomelnhnoiaa
open Go.RowKit Go.Sort

/-- At which round peeling ends. -/
noncomputable def pk (m : Nat) (N : Nat → Nat) (Z : Nat → Nat → Int) (y : Nat → Int) : Nat := Classical.epsilon fun k => pround m N Z (prounds m N Z y k) = prounds m N Z y k
/-- At which round turning ends. -/
noncomputable def tk (n m : Nat) (N : Nat → Nat) (Z : Nat → Nat → Int) (y : Nat → Int) (most : Nat) : Nat := Classical.epsilon fun r => Tend n m N Z y most r
end Go.Proofs.Ytabkomelnhnoiaa
