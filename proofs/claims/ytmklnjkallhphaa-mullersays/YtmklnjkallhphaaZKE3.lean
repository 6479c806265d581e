/- Texts of ours, one behind the other: KE3 KE4 KE5 KE6 KE7 KE8 KE9 KE10 KE11 KE12 KE13 KE14 KE15 W14 W15 KL1 KL2 KL3 KL4 KL5 KL6 KL7 KL8. -/
import Derived.Test.YtmklnjkallhphaaZS27
import Derived.Test.YtmklnjkallhphaaZK7
import Derived.Test.YtmklnjkallhphaaZL1
import Derived.Test.YtmklnjkallhphaaZU4
import Derived.RangeFuncNested
import Derived.RangeFuncBound
import Derived.RangeFuncCalls
import Derived.RangeFuncLeaves
import Derived.WalkKit
import Derived.Test.YtmklnjkallhphaaZN4
import Derived.Test.YtmklnjkallhphaaZZ9
import Derived.OrdersIn
import Derived.Test.YtmklnjkallhphaaZB2
import Derived.Shelf.Abstract
import Derived.Shelf.RegionOpen
import Derived.OwnWalkIn
import Derived.TacticsInMore
import Derived.LoopNIn
import Derived.LoopIn
import Derived.Test.YtmklnjkallhphaaZI18
import Derived.Test.YtmklnjkallhphaaZI5
import Derived.Test.YtmklnjkallhphaaZX18
import Derived.Deep.RegionHeld3
import Derived.Test.YtmklnjkallhphaaZQ5
/- Words of bits (package bit); slices.Equal; slices.Max. -/
namespace Go.Proofs.Ytmklnjkallhphaa
open Go.RowKit Go.Sort

def allP (p : Int → Bool) (z : Nat → Int) : Nat → Bool
  | 0 => true
  | n + 1 => allP p z n && p (z n)
theorem allP_no {p : Int → Bool} {z : Nat → Int} {i : Nat} (h : p (z i) = false) : ∀ n, i < n → allP p z n = false
  | 0, hi => absurd hi (by omega)
  | n + 1, hi => by
    show (allP p z n && p (z n)) = false
    by_cases e : i = n
    · rw [← e, h, Bool.and_false]
    · rw [allP_no h n (by omega), Bool.false_and]
theorem allP_iff {p : Int → Bool} {z : Nat → Int} : ∀ n, allP p z n = true → ∀ j, j < n → p (z j) = true
  | 0, _, j, hj => absurd hj (by omega)
  | n + 1, h, j, hj => by
    have h : (allP p z n && p (z n)) = true := h
    rw [Bool.and_eq_true] at h
    by_cases e : j = n
    · rw [e]; exact h.2
    · exact allP_iff n h.1 j (by omega)
set_option maxHeartbeats 4000000 in
set_option maxRecDepth 100000 in
theorem ball_any {gf : Nat} (eg : ∀ args w, (callFunc gf args).run Try.prog w = .ok (.enter gf args) w) {ao : Option Addr} {n cap : Nat} {z : Nat → Int} {p : Int → Bool} {w : World} (hs : SlZ ao n z w) (hn : n ≤ 1000000)
    (hp : ∀ x, Calls Try.prog gf (#[.int .i64 x] ++ #[]) w fun e w' => e = .returned (.bool (p x)) ∧ w' = w) :
    Calls Try.prog 75 #[.slice ao n cap, .func (.func gf) #[] #[]] w fun e w' => e = .returned (.bool (allP p z n)) ∧ w' = w := by
  obtain ⟨R, hR⟩ : ∃ R, R = allP p z n := ⟨_, rfl⟩
  have HS : Hid (SlZ ao n z w ∧ (∀ x, Calls Try.prog gf (#[.int .i64 x] ++ #[]) w fun e w' => e = .returned (.bool (p x)) ∧ w' = w) ∧ R = allP p z n) := ⟨hs, hp, hR⟩
  rw [← hR]
  clear hs hp hR
  go_enter Try.func75, Try.ntmps75
  go_wp2
  go_loopw [9] (fun vi wx => ∃ i : Nat, i ≤ n ∧ vi = .int .i64 (i : Nat) ∧ Hid (allP p z i = true) ∧ wx = w) (fun vi _ => n - (intOf vi).toNat)
  case atStart => exact ⟨0, by omega, rfl, rfl, rfl⟩
  case round =>
    obtain ⟨i, hi, rfl, HI, hwx⟩ := hrel
    have hwx := hwx.symm
    subst hwx
    by_cases hlt : i < n
    · have hib : (i : Int) < (n : Int) := by omega
      have hib0 : (0 : Int) ≤ (i : Int) := by omega
      obtain ⟨b, off, rfl, hc⟩ := HS.out.1 i hlt
      obtain ⟨x, hx⟩ : ∃ x, x = z i := ⟨_, rfl⟩
      rw [← hx] at hc
      obtain ⟨pb, hpb⟩ : ∃ pb, pb = p x := ⟨_, rfl⟩
      have hcall : Calls Try.prog gf (#[.int .i64 x] ++ #[]) w fun e w' => e = .returned (.bool pb) ∧ w' = w := by
        rw [hpb]; exact HS.out.2.1 x
      have HP : Hid (pb = p (z i)) := by show _ = _; rw [hpb, hx]
      clear hx hpb
      cases pb with
      | false =>
        have HV : Hid (R = false) := by show _ = _; rw [HS.out.2.2]; exact allP_no HP.out.symm n hlt
        go_wp2_with (go_at_fn gf; refine hcall.mono ?_; rintro e w' ⟨rfl, hw⟩; have hw := hw.symm; subst hw)
        go_ret
        exact ⟨by (first | (rw [HV.out]; rfl) | rw [HV.out]), rfl⟩
      | true =>
        have HV : Hid (allP p z (i + 1) = true) := by
          show (allP p z i && p (z i)) = true
          rw [HI.out, ← HP.out]; rfl
        go_wp2_with (go_at_fn gf; refine hcall.mono ?_; rintro e w' ⟨rfl, hw⟩; have hw := hw.symm; subst hw)
        go_roundw
        case rel => exact ⟨i + 1, by omega, by go_num, HV.out, by first | rfl | trivial⟩
        case measure => simp [intOf]; omega
    · have hib : ¬ (i : Int) < (n : Int) := by omega
      have HV : Hid (R = true) := by show _ = _; rw [HS.out.2.2, show n = i by omega]; exact HI.out
      go_wp2
      go_ret
      exact ⟨by (first | (rw [HV.out]; rfl) | rw [HV.out]), rfl⟩
def isbt (x : Int) : Bool := decide (x = 0 ∨ x = 1)
def isht (x : Int) : Bool := decide (x = -1 ∨ x = 0 ∨ x = 1)
set_option maxHeartbeats 2000000 in
theorem isBit_any (x : Int) (w : World) : Calls Try.prog 56 #[.int .i64 x] w fun e w' => e = .returned (.bool (isbt x)) ∧ w' = w := by
  by_cases h0 : x = 0
  · have HV : Hid (isbt x = true) := decide_eq_true (Or.inl h0)
    have hz : (x == 0) = true := by rw [h0]; rfl
    clear h0
    go_enter Try.func56, Try.ntmps56
    go_wp2
    go_ret
    exact ⟨by (first | (rw [HV.out]; rfl) | rw [HV.out]), rfl⟩
  · have hz : (x == 0) = false := beq_eq_false_iff_ne.2 h0
    by_cases h1 : x = 1
    · have HV : Hid (isbt x = true) := decide_eq_true (Or.inr h1)
      have hz1 : (x == 1) = true := by rw [h1]; rfl
      clear h0 h1
      go_enter Try.func56, Try.ntmps56
      go_wp2
      go_ret
      exact ⟨by (first | (rw [HV.out]; rfl) | rw [HV.out]), rfl⟩
    · have HV : Hid (isbt x = false) := decide_eq_false (by omega)
      have hz1 : (x == 1) = false := beq_eq_false_iff_ne.2 h1
      clear h0 h1
      go_enter Try.func56, Try.ntmps56
      go_wp2
      go_ret
      exact ⟨by (first | (rw [HV.out]; rfl) | rw [HV.out]), rfl⟩
theorem enters_isbit : ∀ args w, (callFunc 56 args).run Try.prog w = .ok (.enter 56 args) w :=
  enters_of Try.func56 (by kernel_rfl) rfl
/-- What is said of a word. -/
def bchk (p : Int → Bool) (l : Nat) (z : Nat → Int) (n : Int) : Int := if (l : Int) ≠ n then 6 else if allP p z l = true then 0 else 2
set_option maxHeartbeats 2000000 in
theorem bcheck_any {gf : Nat} (eg : ∀ args w, (callFunc gf args).run Try.prog w = .ok (.enter gf args) w) {ao : Option Addr} {l cap : Nat} {z : Nat → Int} {p : Int → Bool} {w : World} (n : Int) (hs : SlZ ao l z w) (hn : l ≤ 1000000)
    (hp : ∀ x, Calls Try.prog gf (#[.int .i64 x] ++ #[]) w fun e w' => e = .returned (.bool (p x)) ∧ w' = w) :
    Calls Try.prog 55 #[.slice ao l cap, .int .i64 n, .func (.func gf) #[] #[]] w fun e w' => e = .returned (.int .i64 (bchk p l z n)) ∧ w' = w := by
  obtain ⟨R, hR⟩ : ∃ R, R = allP p z l := ⟨_, rfl⟩
  have HC : Hid (Calls Try.prog 75 #[.slice ao l cap, .func (.func gf) #[] #[]] w fun e w' => e = .returned (.bool R) ∧ w' = w) := by rw [hR]; exact ball_any eg hs hn hp
  clear hs hp
  by_cases h0 : (l : Int) = n
  · have hz : ((l : Int) != n) = false := by rw [h0]; simp
    cases R with
    | true =>
      have HV : Hid (bchk p l z n = 0) := by show _ = _; unfold bchk; rw [if_neg (fun x => x h0), ← hR, if_pos rfl]
      clear h0 hR
      go_enter Try.func55, Try.ntmps55
      go_wp2_with (go_at_call 75; refine HC.out.mono ?_; rintro e w' ⟨rfl, hw⟩; have hw := hw.symm; subst hw)
      go_ret
      exact ⟨by (first | (rw [HV.out]; rfl) | rw [HV.out]), rfl⟩
    | false =>
      have HV : Hid (bchk p l z n = 2) := by show _ = _; unfold bchk; rw [if_neg (fun x => x h0), ← hR, if_neg (by intro h; cases h)]
      clear h0 hR
      go_enter Try.func55, Try.ntmps55
      go_wp2_with (go_at_call 75; refine HC.out.mono ?_; rintro e w' ⟨rfl, hw⟩; have hw := hw.symm; subst hw)
      go_ret
      exact ⟨by (first | (rw [HV.out]; rfl) | rw [HV.out]), rfl⟩
  · have hz : ((l : Int) != n) = true := bne_iff_ne.2 h0
    have HV : Hid (bchk p l z n = 6) := by show _ = _; unfold bchk; rw [if_pos h0]
    clear h0 hR
    go_enter Try.func55, Try.ntmps55
    go_wp2
    go_ret
    exact ⟨by (first | (rw [HV.out]; rfl) | rw [HV.out]), rfl⟩
set_option maxHeartbeats 2000000 in
theorem bCheck_any {ao : Option Addr} {l cap : Nat} {z : Nat → Int} {w : World} (n : Int) (hs : SlZ ao l z w) (hn : l ≤ 1000000) :
    Calls Try.prog 37 #[.slice ao l cap, .int .i64 n] w fun e w' => e = .returned (.int .i64 (bchk isbt l z n)) ∧ w' = w := by
  have HC : Hid (Calls Try.prog 55 #[.slice ao l cap, .int .i64 n, .func (.func 56) #[] #[]] w fun e w' => e = .returned (.int .i64 (bchk isbt l z n)) ∧ w' = w) := bcheck_any enters_isbit n hs hn (fun x => isBit_any x w)
  obtain ⟨E, hE⟩ : ∃ E, E = bchk isbt l z n := ⟨_, rfl⟩
  rw [← hE] at HC ⊢
  clear hs hE
  go_enter Try.func37, Try.ntmps37
  go_wp2_with (go_at_call 55; refine HC.out.mono ?_; rintro e w' ⟨rfl, hw⟩; have hw := hw.symm; subst hw)
  go_ret
  exact ⟨rfl, rfl⟩
end Go.Proofs.Ytmklnjkallhphaa

/- Codes of few checks: the reference's ChecksMay and Bits. -/
namespace Go.Proofs.Ytmklnjkallhphaa
open Go.RowKit Go.Sort

end Go.Proofs.Ytmklnjkallhphaa

/- Codes of few checks: a round of peeling (the program's fill; printed by make/ke5.py). -/
namespace Go.Proofs.Ytmklnjkallhphaa
open Go.RowKit Go.Sort

end Go.Proofs.Ytmklnjkallhphaa

/- Codes of few checks: the program's Peel. -/
namespace Go.Proofs.Ytmklnjkallhphaa
open Go.RowKit Go.Sort

end Go.Proofs.Ytmklnjkallhphaa

/- Codes of few checks: the reference's alone and Peeled. -/
namespace Go.Proofs.Ytmklnjkallhphaa
open Go.RowKit Go.Sort

end Go.Proofs.Ytmklnjkallhphaa

/- Codes of few checks: the reference's Peeled. -/
namespace Go.Proofs.Ytmklnjkallhphaa
open Go.RowKit Go.Sort

end Go.Proofs.Ytmklnjkallhphaa

/- Codes of few checks: which checks are odd (the program's oddOnes); slices.Max. -/
namespace Go.Proofs.Ytmklnjkallhphaa
open Go.RowKit Go.Sort

end Go.Proofs.Ytmklnjkallhphaa

/- Codes of few checks: a round of turning (the program's turned). -/
namespace Go.Proofs.Ytmklnjkallhphaa
open Go.RowKit Go.Sort

end Go.Proofs.Ytmklnjkallhphaa

/- Codes of few checks: the program's Flip. -/
namespace Go.Proofs.Ytmklnjkallhphaa
open Go.RowKit Go.Sort

end Go.Proofs.Ytmklnjkallhphaa

/- Codes of few checks: what Flip says of what is wrong. -/
namespace Go.Proofs.Ytmklnjkallhphaa
open Go.RowKit Go.Sort

end Go.Proofs.Ytmklnjkallhphaa

/- Codes of few checks: what Stops says of checks that are none. -/
namespace Go.Proofs.Ytmklnjkallhphaa
open Go.RowKit Go.Sort

end Go.Proofs.Ytmklnjkallhphaa

/- Codes of few checks: the reference's odd checks. -/
namespace Go.Proofs.Ytmklnjkallhphaa
open Go.RowKit Go.Sort

end Go.Proofs.Ytmklnjkallhphaa

/- Codes of few checks: the reference's Bits. -/
namespace Go.Proofs.Ytmklnjkallhphaa
open Go.RowKit Go.Sort

/-- What Bits takes: bits, and gaps where they are allowed. -/
def isbg (g : Bool) (x : Int) : Bool := if g = true then isht x else isbt x

set_option maxHeartbeats 8000000 in
set_option maxRecDepth 100000 in
theorem rbits_any (gp : Bool) {ao : Option Addr} {n cap : Nat} {z : Nat → Int} {w : World} (hs : SlZ ao n z w) (hn : n ≤ 1000000) :
    Calls Try.prog 13 #[.slice ao n cap, .bool gp] w fun e w' => e = .returned (.bool (allP (isbg gp) z n)) ∧ w' = w := by
  obtain ⟨R, hR⟩ : ∃ R, R = allP (isbg gp) z n := ⟨_, rfl⟩
  have HS : Hid (SlZ ao n z w ∧ R = allP (isbg gp) z n) := ⟨hs, hR⟩
  rw [← hR]
  clear hs hR
  go_enter Try.func13, Try.ntmps13
  go_wp2
  go_loopw [5] (fun vi wx => ∃ i : Nat, i ≤ n ∧ vi = .int .i64 (i : Nat) ∧ Hid (allP (isbg gp) z i = true) ∧ wx = w) (fun vi _ => n - (intOf vi).toNat)
  case atStart => exact ⟨0, by omega, rfl, rfl, rfl⟩
  case round =>
    obtain ⟨i, hi, rfl, HI, hwx⟩ := hrel
    have hwx := hwx.symm
    subst hwx
    by_cases hlt : i < n
    · have hib : (i : Int) < (n : Int) := by omega
      have hib0 : (0 : Int) ≤ (i : Int) := by omega
      obtain ⟨b, off, rfl, hc⟩ := HS.out.1 i hlt
      obtain ⟨x, hx⟩ : ∃ x, x = z i := ⟨_, rfl⟩
      rw [← hx] at hc
      have key : ∀ c : Bool, isbg gp x = c → (c = false → R = false) ∧ (c = true → allP (isbg gp) z (i + 1) = true) := fun c hcx => by
        constructor
        · intro h
          rw [HS.out.2]
          exact allP_no (by rw [← hx, hcx, h]) n hlt
        · intro h
          show (allP (isbg gp) z i && isbg gp (z i)) = true
          rw [HI.out, ← hx, hcx, h]; rfl
      by_cases h1 : 1 < x
      · have hg : x > 1 := h1
        have HV : Hid (R = false) := (key false (by unfold isbg isht isbt; cases gp <;> simp <;> omega)).1 rfl
        clear key hx
        go_wp2
        go_ret
        exact ⟨by rw [HV.out]; rfl, rfl⟩
      · have hg : ¬ x > 1 := h1
        by_cases h2 : x < -1
        · have HV : Hid (R = false) := (key false (by unfold isbg isht isbt; cases gp <;> simp <;> omega)).1 rfl
          clear key hx
          go_wp2
          go_ret
          exact ⟨by rw [HV.out]; rfl, rfl⟩
        · by_cases h3 : x = -1
          · have hz : (x == -1) = true := by rw [h3]; rfl
            cases gp with
            | false =>
              have HV : Hid (R = false) := (key false (by rw [h3]; rfl)).1 rfl
              clear key hx h3
              go_wp2
              go_ret
              exact ⟨by rw [HV.out]; rfl, rfl⟩
            | true =>
              have HV : Hid (allP (isbg true) z (i + 1) = true) := (key true (by rw [h3]; rfl)).2 rfl
              clear key hx h3
              go_wp2
              go_roundw
              case rel => exact ⟨i + 1, by omega, by go_num, HV.out, by first | rfl | trivial⟩
              case measure => simp [intOf]; omega
          · have hz : (x == -1) = false := beq_eq_false_iff_ne.2 h3
            have HV : Hid (allP (isbg gp) z (i + 1) = true) := (key true (by unfold isbg isht isbt; cases gp <;> simp <;> omega)).2 rfl
            clear key hx h3
            go_wp2
            go_roundw
            case rel => exact ⟨i + 1, by omega, by go_num, HV.out, by first | rfl | trivial⟩
            case measure => simp [intOf]; omega
    · have hib : ¬ (i : Int) < (n : Int) := by omega
      have hie : n = i := by omega
      subst hie
      have HV : Hid (R = true) := by show _ = _; rw [HS.out.2]; exact HI.out
      go_wp2
      go_ret
      exact ⟨by rw [HV.out]; rfl, rfl⟩
end Go.Proofs.Ytmklnjkallhphaa

/- A range over a function whose rounds are handed memory: a law of our own over the library's steps. No Go text here. -/
namespace Go.Proofs.Ytmklnjkallhphaa
open Go.RowKit

/-- What is not one's own lies as it lay. -/
structure KpO (own : Nat → Prop) (X Y : World) : Prop where
  os : Y.os = X.os
  tape : Y.tape = X.tape
  output : Y.output = X.output
  size : X.heap.size ≤ Y.heap.size
  same : ∀ k, k < X.heap.size → ¬ own k → Y.heap[k]? = X.heap[k]?
/-- Cells, and whatever lies below B, lie as they lay. -/
structure GrC (B : Nat) (X Y : World) : Prop where
  os : Y.os = X.os
  tape : Y.tape = X.tape
  output : Y.output = X.output
  size : X.heap.size ≤ Y.heap.size
  same : ∀ k, k < X.heap.size → (k < B ∨ ∀ o, X.heap[k]? = some o → o.isCells = true) → Y.heap[k]? = X.heap[k]?
theorem GrC.of_below {B : Nat} {X Y : World} (h : Below X.heap.size X Y) : GrC B X Y := ⟨h.os, h.tape, h.output, h.size, fun k hk _ => h.block k hk⟩
theorem GrC.put {B l : Nat} {X : World} {o : Obj} (o' : Obj) (hl : B ≤ l) (h : X.heap[l]? = some o) (hc : o.isCells = false) : GrC B X (X.putObj l o') :=
  ⟨rfl, rfl, rfl, by simp, fun k hk hx => World.putObj_heap_other (fun e => by
    subst e
    rcases hx with hx | hx
    · omega
    · rw [hx o h] at hc; cases hc)⟩
theorem KpO.refl (own : Nat → Prop) (X : World) : KpO own X X := ⟨rfl, rfl, rfl, Nat.le_refl _, fun _ _ _ => rfl⟩
theorem KpO.trans {own : Nat → Prop} {X Y Z : World} (h : KpO own X Y) (k : KpO own Y Z) : KpO own X Z :=
  ⟨k.os.trans h.os, k.tape.trans h.tape, k.output.trans h.output, Nat.le_trans h.size k.size, fun i hi hn => (k.same i (Nat.lt_of_lt_of_le hi h.size) hn).trans (h.same i hi hn)⟩
theorem KpO.mono {own own' : Nat → Prop} {X Y : World} (h : KpO own X Y) (hm : ∀ k, own k → own' k) : KpO own' X Y := ⟨h.os, h.tape, h.output, h.size, fun k hk hn => h.same k hk (fun e => hn (hm k e))⟩
theorem KpO.of_below {own : Nat → Prop} {X Y : World} (h : Below X.heap.size X Y) : KpO own X Y := ⟨h.os, h.tape, h.output, h.size, fun k hk _ => h.block k hk⟩
theorem KpO.put {own : Nat → Prop} (X : World) (l : Nat) (o : Obj) (hl : own l) : KpO own X (X.putObj l o) :=
  ⟨rfl, rfl, rfl, by simp, fun _ _ hn => World.putObj_heap_other (fun e => hn (by rw [e]; exact hl))⟩
theorem KpO.setCell {own : Nat → Prop} (X : World) (a : Addr) (v : Value) (hl : own a.block) : KpO own X (X.setCell a v) :=
  ⟨rfl, rfl, rfl, by simp [World.setCell], fun k _ hn => Below.heap_setCell X a v k (fun e => hn (by rw [e]; exact hl))⟩

/-- An iterator that hands on N things: the r-th one is told by E, in the world in which it is handed on. A round may change what is the loop's own. -/
def SeqI (P : Program) (gf : Nat) (lb : Array Value) (N : Nat) (E : Nat → Array Value → World → Prop) (own : Nat → Prop) (w0 : World) : Prop :=
  ∀ (l : Nat) (J : Nat → World → Prop) (W : World), Below w0.heap.size w0 W → w0.heap.size ≤ l → l < W.heap.size →
    (∀ r X Y, J r X → Below X.heap.size X Y → J r Y) →
    (∀ r args X, r < N → J r X → E r args X → YieldAt Fence.wide 0 P l args X fun e Y => e = .returned (.bool true) ∧ J (r + 1) Y ∧ KpO (fun k => own k ∨ k = l) X Y) →
    J 0 W → CallsIn Fence.wide 0 P gf (#[.func (.yield l) #[] #[]] ++ lb) W fun e W' => (∃ v, e = .returned v) ∧ J N W'

end Go.Proofs.Ytmklnjkallhphaa

/- A region that draws its order, in a round of a range over a function: what serves elsewhere serves there. No Go text here. -/
namespace Go.Proofs.Ytmklnjkallhphaa
open Go

end Go.Proofs.Ytmklnjkallhphaa

/- Ranges over span.Words: the leaf of goThrough (a call of yield). -/


namespace Go.Proofs.Ytmklnjkallhphaa
open Go.RowKit Go.Shelf
attribute [local go_sem] Oper.semAt_some

end Go.Proofs.Ytmklnjkallhphaa

/- Codes: the capacity of the rows that Make tells. -/
namespace Go.Proofs.Ytmklnjkallhphaa
open Go.RowKit Go.Sort

end Go.Proofs.Ytmklnjkallhphaa

/- Ranges over span.Words: goThrough, whole. -/
namespace Go.Proofs.Ytmklnjkallhphaa
open Go.RowKit Go.Sort

/-- The number whose digits to the base q are the first values of z. -/
def hnm (q : Nat) (z : Nat → Nat) : Nat → Nat
  | 0 => 0
  | i + 1 => hnm q z i * q + z i
theorem enw_zc {D : FD} {R : Nat → Nat → Nat} {z y : Nat → Nat} : ∀ {k : Nat}, (∀ i, i < k → z i = y i) → enw D R z k = enw D R y k
  | 0, _ => rfl
  | k + 1, h => by
    show padd D (enw D R z k) (pscale D (z k) (R k)) = padd D (enw D R y k) (pscale D (y k) (R k))
    rw [enw_zc (fun i hi => h i (by omega)), h k (by omega)]
/-- The r-th word: what is handed on. -/
def WdE (D : FD) (R : Nat → Nat → Nat) (n K B0 : Nat) (r : Nat) (args : Array Value) (X : World) : Prop :=
  ∃ z g c, (∀ i, i < K → z i < D.q) ∧ hnm D.q z K = r ∧ args = #[.slice (some ⟨g, 0, none⟩) n c] ∧ n ≤ c ∧ c ≤ 9223372036854775807 ∧ Row g n (enw D R z K) X ∧ B0 ≤ g
end Go.Proofs.Ytmklnjkallhphaa

/- Ranges over span.Words: the iterator's contract. -/
namespace Go.Proofs.Ytmklnjkallhphaa
open Go.RowKit Go.Sort

/-- The rows of a code that is ranged over: none, or k of n elements in blocks of their own. -/
def WdR (ro : Option Addr) (n K B G mm : Nat) (R : Nat → Nat → Nat) (h : Nat → Nat) (w : World) : Prop := 0 < K → (ro = some ⟨G, 0, none⟩ ∧ Mx B G mm K n R h w)

theorem make_run (n : Nat) (hn : n ≤ 1000000) (w : World) : ∃ w', (Instr.makeSlice 22 (.int .i64 (n : Nat)) (.int .i64 (n : Nat))).run Try.prog w = .ok (.slice (some ⟨w.heap.size, 0, none⟩) n n) w' ∧ Row w.heap.size n pnil w' ∧ Below w.heap.size w w' := by
  obtain ⟨i0, hi, hz0, hz1, hz2⟩ := info_parts Try.infoInt
  refine ⟨_, run_make_row (P := Try.prog) 22 3 i0 (.int .i64 0) Try.underlying22 hi hz0 hz1 rfl .i64 .i64 n (by rw [hz2]; omega) (by omega) w, ⟨n, fun _ => .int .i64 0, ⟨_, two_new _, ?_, fun o ho => ?_⟩, Nat.le_refl _, fun _ _ => rfl⟩, (Below.refl _ _).alloc (Nat.le_refl _) _⟩
  · simp [madeCells]
  · simp [madeCells, ho, Nat.mod_one]
end Go.Proofs.Ytmklnjkallhphaa

/- Codes: those of few words (code.small). -/
namespace Go.Proofs.Ytmklnjkallhphaa
open Go.RowKit Go.Sort

end Go.Proofs.Ytmklnjkallhphaa

/- The words of a code by their numbers; how many have a weight. -/
namespace Go.Proofs.Ytmklnjkallhphaa
open Go.RowKit Go.Sort

theorem hnm_div {q : Nat} (hq : 2 ≤ q) {z : Nat → Nat} {i : Nat} : ∀ t, (∀ j, j < i + t → z j < q) → hnm q z (i + t) / q ^ t = hnm q z i
  | 0, _ => by rw [Nat.pow_zero, Nat.div_one]; rfl
  | t + 1, h => by
    have h1 := hnm_div hq (z := z) (i := i) t (fun j hj => h j (by omega))
    have h2 := h (i + t) (by omega)
    show (hnm q z (i + t) * q + z (i + t)) / q ^ (t + 1) = _
    rw [Nat.pow_succ', ← Nat.div_div_eq_div_mul, Nat.mul_comm (hnm q z (i + t)) q, Nat.mul_add_div (by omega), Nat.div_eq_of_lt h2, Nat.add_zero]
    exact h1
theorem hnm_dgs {q K : Nat} (hq : 2 ≤ q) {z : Nat → Nat} (hz : ∀ j, j < K → z j < q) (i : Nat) (hi : i < K) : z i = dgs q K (hnm q z K) i := by
  have h := hnm_div hq (z := z) (i := i + 1) (K - 1 - i) (fun j hj => hz j (by omega))
  rw [show i + 1 + (K - 1 - i) = K by omega] at h
  unfold dgs
  rw [if_pos hi, h]
  show z i = (hnm q z i * q + z i) % q
  rw [Nat.mul_comm, Nat.mul_add_mod, Nat.mod_eq_of_lt (hz i hi)]
/-- The r-th word. -/
def wdr (D : FD) (R : Nat → Nat → Nat) (K r : Nat) : Nat → Nat := enw D R (dgs D.q K r) K
theorem WdE.word {D : FD} (F : Fld D) {R : Nat → Nat → Nat} {n K B0 r : Nat} {args : Array Value} {X : World} (h : WdE D R n K B0 r args X) : ∃ g c, args = #[.slice (some ⟨g, 0, none⟩) n c] ∧ n ≤ c ∧ c ≤ 9223372036854775807 ∧ Row g n (wdr D R K r) X ∧ B0 ≤ g := by
  obtain ⟨z, g, c, hz, hr, ha, h1, h2, h3, h4⟩ := h
  refine ⟨g, c, ha, h1, h2, ?_, h4⟩
  unfold wdr
  rw [← enw_zc (z := z) (fun i hi => by rw [← hr]; exact hnm_dgs F.q2 hz i hi)]
  exact h3
theorem Row.grc {g n B : Nat} {c : Nat → Nat} {X Y : World} (h : Row g n c X) (hg : GrC B X Y) : Row g n c Y := by
  refine h.other (hg.same g h.lt (Or.inr fun o ho => ?_))
  obtain ⟨cap, f, ⟨cs, h1, _⟩, _⟩ := h
  rw [h1] at ho
  cases ho; rfl
theorem WdE.grc {D : FD} {R : Nat → Nat → Nat} {n K B0 B r : Nat} {args : Array Value} {X Y : World} (h : WdE D R n K B0 r args X) (hg : GrC B X Y) : WdE D R n K B0 r args Y := by
  obtain ⟨z, g, c, hz, hr, ha, h1, h2, h3, h4⟩ := h
  exact ⟨z, g, c, hz, hr, ha, h1, h2, h3.grc hg, h4⟩
end Go.Proofs.Ytmklnjkallhphaa

/- code.Weights: the words of a code, gone through. -/
namespace Go.Proofs.Ytmklnjkallhphaa
open Go.RowKit Go.Sort Go.Shelf
attribute [local go_sem] Oper.semAt_some

theorem MV.wdr {B k rc n : Nat} {ro : Option Addr} {R : Nat → Nat → Nat} {w : World} (h : MV B (.slice ro k rc) k n R w) : ∃ (Gm mm : Nat) (hm : Nat → Nat), WdR ro n k B Gm mm R hm w ∧ (0 < k → Gm < w.heap.size) ∧ ∀ i, i < k → hm i < w.heap.size := by
  rcases h with ⟨e, _⟩ | ⟨G, mc, mm, hm, ev, hM⟩
  · exact ⟨0, 0, fun _ => 0, fun hk => absurd hk (by omega), fun hk => absurd hk (by omega), fun i hi => absurd hi (by omega)⟩
  · cases ev
    exact ⟨G, mm, hm, fun _ => ⟨rfl, hM⟩, fun _ => hM.ltG, fun i hi => hM.lt i hi⟩
end Go.Proofs.Ytmklnjkallhphaa

/- code.Weights where there is none; code.Distance. -/
namespace Go.Proofs.Ytmklnjkallhphaa
open Go.RowKit Go.Sort Go.Shelf

/-- The least place above 0 at which there is something; 0: there is none. -/
def Lwt (c : Nat → Nat) (N d : Nat) : Prop := (d = 0 ∧ ∀ i, 0 < i → i < N → c i = 0) ∨ (0 < d ∧ d < N ∧ 0 < c d ∧ ∀ i, 0 < i → i < d → c i = 0)
theorem Lwt.uniq {c : Nat → Nat} {N d e : Nat} (h : Lwt c N d) (h' : Lwt c N e) : d = e := by
  rcases h with ⟨h1, h2⟩ | ⟨h1, h2, h3, h4⟩
  · rcases h' with ⟨k1, k2⟩ | ⟨k1, k2, k3, k4⟩
    · omega
    · have := h2 e k1 k2; omega
  · rcases h' with ⟨k1, k2⟩ | ⟨k1, k2, k3, k4⟩
    · have := k2 d h1 h2; omega
    · rcases Nat.lt_trichotomy d e with h5 | h5 | h5
      · have := k4 d h1 h5; omega
      · exact h5
      · have := h4 e k1 h5; omega
end Go.Proofs.Ytmklnjkallhphaa
