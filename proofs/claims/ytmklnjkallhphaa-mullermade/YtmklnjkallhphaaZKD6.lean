/- Texts of ours, one behind the other: KD6 KD7 KD8 KD9 S29 KD10 S31 S32 S33 KE1 KE2 KE3 KE4 KE5 KE6 KE7 KE8 KE9 KE10 KE11 KE12 KE13 KE14 KE15 KE16 KE17 KE18 KE19 KE20. -/
import Derived.Test.YtmklnjkallhphaaZKA6
import Derived.Test.YtmklnjkallhphaaZW4
import Derived.Test.YtmklnjkallhphaaZS8
import Derived.Test.YtmklnjkallhphaaZX18
import Derived.Deep.OwnRows
import Derived.Test.YtmklnjkallhphaaZV7
import Derived.Test.YtmklnjkallhphaaZW9
import Derived.Shelf.Abstract
import Derived.Test.YtmklnjkallhphaaZL1
import Derived.Test.YtmklnjkallhphaaZI21
import Derived.Test.YtmklnjkallhphaaZR9
import Derived.Test.YtmklnjkallhphaaZL10
/- The program's reed: equation (the row of one place). -/
namespace Go.Proofs.Ytmklnjkallhphaa
open Go.RowKit Go.Sort

end Go.Proofs.Ytmklnjkallhphaa

/- What was heard of a word: numbers and places, as functions. -/
namespace Go.Proofs.Ytmklnjkallhphaa
open Go.RowKit Go.Sort

/-- What hear tells, as functions. -/
structure Heard (D : FD) (n : Nat) (c : Nat → Nat) (y : Nat → Int) (m : Nat) (c' y' : Nat → Nat) : Prop where
  lx : hrL (fun i => ((c i : Nat) : Int)) y n = zl m fun j => ((c' j : Nat) : Int)
  ly : hrL y y n = zl m fun j => ((y' j : Nat) : Int)
  le : m ≤ n
  cq : ∀ j, j < m → c' j < D.q
  ne : ∀ i j, i < m → j < m → i ≠ j → c' i ≠ c' j
  yq : ∀ j, j < m → y' j < D.q
  many : m = ct (fun i => !decide (y i = -1)) n
  ofs : ∀ k a, ofs D k m c' y' a = ct (fun i => !decide (y i = -1) && !decide (((D.ev a (c i) k : Nat) : Int) = y i)) n
end Go.Proofs.Ytmklnjkallhphaa

/- The program's reed: mend (printed by make/kd8.py). -/
namespace Go.Proofs.Ytmklnjkallhphaa
open Go.RowKit Go.Sort

/-- A message is near what was heard. -/
def NearH (D : FD) (m k : Nat) (c y a : Nat → Nat) : Prop := El D a ∧ Bd k a ∧ k ≤ m ∧ 2 * ofs D k m c y a ≤ m - k
end Go.Proofs.Ytmklnjkallhphaa

/- The program's reed: Euclid. -/
namespace Go.Proofs.Ytmklnjkallhphaa
open Go.RowKit Go.Sort

/-- Two near messages are one. -/
theorem NearH.one {D : FD} (hD : D ∈ fieldsL) {n m k : Nat} {c c' y' a b : Nat → Nat} {y : Nat → Int} (hH : Heard D n c y m c' y') (ha : NearH D m k c' y' a) (hb : NearH D m k c' y' b) : a = b :=
  Go.Proofs.Ytmklnjkallhphaa.near_one (fld hD) ha.2.2.1 hH.cq hH.ne ha.1 hb.1 ha.2.1 hb.2.1 ha.2.2.2 hb.2.2.2
end Go.Proofs.Ytmklnjkallhphaa

/- Plain mathematics of words that are mended by equations: there is a solution where a near message is, and each solution tells it. No Go text here. -/
namespace Go.Proofs.Ytmklnjkallhphaa
open Go.RowKit Go.Sort

end Go.Proofs.Ytmklnjkallhphaa

/- Steps of a region that draws its order: rows that are made; an append that makes a new block, since none of the old one is left. -/
namespace Go.Proofs.Ytmklnjkallhphaa
open Go.RowKit Go.Sort

theorem step_make_int {ops : Array Oper} {o : Oper} {a : Act} {w : World} {K : Act → World → Prop} {Q : Exit → Act → World → Prop} {E : Prop} (hgd : o.guard = none) (l c : Operand) (hop : o.op = Op.makeSlice 22 l c) (n : Nat) (hl : a.eval l = .int .i64 (n : Int)) (hc : a.eval c = .int .i64 (n : Int)) (hn : n ≤ 1000000)
    (h : ∀ w', Row w.heap.size n pnil w' → Below w.heap.size w w' → w'.heap.size = w.heap.size + 1 → K (a.put o.dst (.slice (some ⟨w.heap.size, 0, none⟩) n n)) w') : if Region.wanted o (yielded ops a.tmps) = true then Oper.wp Try.prog o a w K Q else E := by
  have hw : Region.wanted o (yielded ops a.tmps) = true := by simp [Region.wanted, hgd]
  rw [if_pos hw]
  obtain ⟨i0, hi, hz0, hz1, hz2⟩ := info_parts Try.infoInt
  have hrun := run_make_row (P := Try.prog) 22 3 i0 (.int .i64 0) Try.underlying22 hi hz0 hz1 rfl .i64 .i64 n (by rw [hz2]; omega) (by omega) w
  unfold Oper.wp
  simp [execOp, hop, hl, hc, hrun, Result.andThen]
  refine h _ ⟨n, fun _ => .int .i64 0, ⟨_, two_new _, ?_, fun o ho => ?_⟩, Nat.le_refl _, fun _ _ => rfl⟩ ((Below.refl _ _).alloc (Nat.le_refl _) _) (by simp)
  · simp [madeCells]
  · simp [madeCells, ho, Nat.mod_one]
end Go.Proofs.Ytmklnjkallhphaa

/- Plain mathematics of codes of few checks: what a round of peeling fills in, check by check from the first on or from the last on; rounds come to an end. No Go text here. -/
namespace Go.Proofs.Ytmklnjkallhphaa
open Go.RowKit Go.Sort

/-- What one check fills in: a place and its bit, or nothing. -/
abbrev Fil := Nat → Option (Nat × Int)
/-- From the first check on: a place that is lost still is filled in. -/
def flP (pr : Fil) (y : Nat → Int) : Nat → Nat → Int
  | 0 => y
  | i + 1 => match pr i with
    | some x => if flP pr y i x.1 = -1 then fun p => if p = x.1 then x.2 else flP pr y i p else flP pr y i
    | none => flP pr y i
end Go.Proofs.Ytmklnjkallhphaa

/- Plain mathematics of codes of few checks: which checks may be; which places of a check are lost; sums modulo 2; which bits stand in the most odd checks. No Go text here. -/
namespace Go.Proofs.Ytmklnjkallhphaa
open Go.RowKit Go.Sort

/-- Those of the first numbers for which something holds. -/
def selZ (p : Int → Bool) (z : Nat → Int) : Nat → List Int
  | 0 => []
  | m + 1 => if p (z m) = true then selZ p z m ++ [z m] else selZ p z m
/-- What is said of the first places of one check. -/
def crow (n : Int) (z : Nat → Int) : Nat → Int
  | 0 => 0
  | m + 1 => if crow n z m ≠ 0 then crow n z m else if z m < 0 ∨ n ≤ z m then 10 else if 0 < m ∧ z m ≤ z (m - 1) then 3 else 0
/-- Which places of a check are lost. -/
def losts (y z : Nat → Int) (m : Nat) : List Int := selZ (fun x => decide (y x.toNat = -1)) z m
/-- The sum of a check's bits, modulo 2. -/
def par (y z : Nat → Int) (m : Nat) : Nat := (selZ (fun x => decide (y x.toNat = 1)) z m).length % 2
/-- What a check fills in. -/
def pfil (N : Nat → Nat) (Z : Nat → Nat → Int) (y : Nat → Int) : Fil := fun i => match losts y (Z i) (N i) with
  | [x] => some (x.toNat, ((par y (Z i) (N i) : Nat) : Int))
  | _ => none
/-- A round of peeling. -/
def pround (m : Nat) (N : Nat → Nat) (Z : Nat → Nat → Int) (y : Nat → Int) : Nat → Int := flP (pfil N Z y) y m
def prounds (m : Nat) (N : Nat → Nat) (Z : Nat → Nat → Int) (y : Nat → Int) : Nat → Nat → Int
  | 0 => y
  | k + 1 => pround m N Z (prounds m N Z y k)
end Go.Proofs.Ytmklnjkallhphaa

/- Plain mathematics of codes of few checks: which bits stand in the most odd checks; rounds of turning. No Go text here. -/
namespace Go.Proofs.Ytmklnjkallhphaa
open Go.RowKit Go.Sort

/-- The greatest of the first numbers. -/
def mxv (f : Nat → Nat) : Nat → Nat
  | 0 => 0
  | n + 1 => max (mxv f n) (f n)
/-- How often a place stands among the first numbers of a check. -/
def ofc (z : Nat → Int) (m p : Nat) : Nat := ct (fun j => decide ((z j).toNat = p)) m
/-- .. of the first checks that are odd. -/
def oft (N : Nat → Nat) (Z : Nat → Nat → Int) (y : Nat → Int) (p : Nat) : Nat → Nat
  | 0 => 0
  | i + 1 => oft N Z y p i + if par y (Z i) (N i) = 1 then ofc (Z i) (N i) p else 0
/-- Which checks are odd. -/
def odds (N : Nat → Nat) (Z : Nat → Nat → Int) (y : Nat → Int) : Nat → List Nat
  | 0 => []
  | i + 1 => if par y (Z i) (N i) = 1 then odds N Z y i ++ [i] else odds N Z y i
/-- A round of turning. -/
def tround (n m : Nat) (N : Nat → Nat) (Z : Nat → Nat → Int) (y : Nat → Int) : Nat → Int := fun p => if p < n ∧ oft N Z y p m = mxv (fun p => oft N Z y p m) n then 1 - y p else y p
def trounds (n m : Nat) (N : Nat → Nat) (Z : Nat → Nat → Int) (y : Nat → Int) : Nat → Nat → Int
  | 0 => y
  | r + 1 => tround n m N Z (trounds n m N Z y r)
/-- Where it ends: after r rounds. -/
def Tend (n m : Nat) (N : Nat → Nat) (Z : Nat → Nat → Int) (y : Nat → Int) (most r : Nat) : Prop := r ≤ most ∧ (∀ j, j < r → odds N Z (trounds n m N Z y j) m ≠ []) ∧ (odds N Z (trounds n m N Z y r) m = [] ∨ r = most)
end Go.Proofs.Ytmklnjkallhphaa

/- Codes of few checks: which checks may be (the program's Check, the reference's ChecksMay). -/
namespace Go.Proofs.Ytmklnjkallhphaa
open Go.RowKit Go.Sort

end Go.Proofs.Ytmklnjkallhphaa

/- Codes of few checks: those places of a check for which something holds (those); the sum of its bits (sum). -/
namespace Go.Proofs.Ytmklnjkallhphaa
open Go.RowKit Go.Sort

end Go.Proofs.Ytmklnjkallhphaa

/- Words of bits (package bit); slices.Equal; slices.Max. -/
namespace Go.Proofs.Ytmklnjkallhphaa
open Go.RowKit Go.Sort

def allP (p : Int → Bool) (z : Nat → Int) : Nat → Bool
  | 0 => true
  | n + 1 => allP p z n && p (z n)
theorem allP_no {p : Int → Bool} {z : Nat → Int} {i : Nat} (h : p (z i) = false) : ∀ n, i < n → allP p z n = false
  | 0, hi => absurd hi (by omega)
  | n + 1, hi => by
    show (allP p z n && p (z n)) = false
    by_cases e : i = n
    · rw [← e, h, Bool.and_false]
    · rw [allP_no h n (by omega), Bool.false_and]
theorem allP_iff {p : Int → Bool} {z : Nat → Int} : ∀ n, allP p z n = true → ∀ j, j < n → p (z j) = true
  | 0, _, j, hj => absurd hj (by omega)
  | n + 1, h, j, hj => by
    have h : (allP p z n && p (z n)) = true := h
    rw [Bool.and_eq_true] at h
    by_cases e : j = n
    · rw [e]; exact h.2
    · exact allP_iff n h.1 j (by omega)
set_option maxHeartbeats 4000000 in
set_option maxRecDepth 100000 in
theorem ball_any {gf : Nat} (eg : ∀ args w, (callFunc gf args).run Try.prog w = .ok (.enter gf args) w) {ao : Option Addr} {n cap : Nat} {z : Nat → Int} {p : Int → Bool} {w : World} (hs : SlZ ao n z w) (hn : n ≤ 1000000)
    (hp : ∀ x, Calls Try.prog gf (#[.int .i64 x] ++ #[]) w fun e w' => e = .returned (.bool (p x)) ∧ w' = w) :
    Calls Try.prog 75 #[.slice ao n cap, .func (.func gf) #[] #[]] w fun e w' => e = .returned (.bool (allP p z n)) ∧ w' = w := by
  obtain ⟨R, hR⟩ : ∃ R, R = allP p z n := ⟨_, rfl⟩
  have HS : Hid (SlZ ao n z w ∧ (∀ x, Calls Try.prog gf (#[.int .i64 x] ++ #[]) w fun e w' => e = .returned (.bool (p x)) ∧ w' = w) ∧ R = allP p z n) := ⟨hs, hp, hR⟩
  rw [← hR]
  clear hs hp hR
  go_enter Try.func75, Try.ntmps75
  go_wp2
  go_loopw [9] (fun vi wx => ∃ i : Nat, i ≤ n ∧ vi = .int .i64 (i : Nat) ∧ Hid (allP p z i = true) ∧ wx = w) (fun vi _ => n - (intOf vi).toNat)
  case atStart => exact ⟨0, by omega, rfl, rfl, rfl⟩
  case round =>
    obtain ⟨i, hi, rfl, HI, hwx⟩ := hrel
    have hwx := hwx.symm
    subst hwx
    by_cases hlt : i < n
    · have hib : (i : Int) < (n : Int) := by omega
      have hib0 : (0 : Int) ≤ (i : Int) := by omega
      obtain ⟨b, off, rfl, hc⟩ := HS.out.1 i hlt
      obtain ⟨x, hx⟩ : ∃ x, x = z i := ⟨_, rfl⟩
      rw [← hx] at hc
      obtain ⟨pb, hpb⟩ : ∃ pb, pb = p x := ⟨_, rfl⟩
      have hcall : Calls Try.prog gf (#[.int .i64 x] ++ #[]) w fun e w' => e = .returned (.bool pb) ∧ w' = w := by
        rw [hpb]; exact HS.out.2.1 x
      have HP : Hid (pb = p (z i)) := by show _ = _; rw [hpb, hx]
      clear hx hpb
      cases pb with
      | false =>
        have HV : Hid (R = false) := by show _ = _; rw [HS.out.2.2]; exact allP_no HP.out.symm n hlt
        go_wp2_with (go_at_fn gf; refine hcall.mono ?_; rintro e w' ⟨rfl, hw⟩; have hw := hw.symm; subst hw)
        go_ret
        exact ⟨by (first | (rw [HV.out]; rfl) | rw [HV.out]), rfl⟩
      | true =>
        have HV : Hid (allP p z (i + 1) = true) := by
          show (allP p z i && p (z i)) = true
          rw [HI.out, ← HP.out]; rfl
        go_wp2_with (go_at_fn gf; refine hcall.mono ?_; rintro e w' ⟨rfl, hw⟩; have hw := hw.symm; subst hw)
        go_roundw
        case rel => exact ⟨i + 1, by omega, by go_num, HV.out, by first | rfl | trivial⟩
        case measure => simp [intOf]; omega
    · have hib : ¬ (i : Int) < (n : Int) := by omega
      have HV : Hid (R = true) := by show _ = _; rw [HS.out.2.2, show n = i by omega]; exact HI.out
      go_wp2
      go_ret
      exact ⟨by (first | (rw [HV.out]; rfl) | rw [HV.out]), rfl⟩
def isbt (x : Int) : Bool := decide (x = 0 ∨ x = 1)
def isht (x : Int) : Bool := decide (x = -1 ∨ x = 0 ∨ x = 1)
set_option maxHeartbeats 2000000 in
theorem isBit_any (x : Int) (w : World) : Calls Try.prog 56 #[.int .i64 x] w fun e w' => e = .returned (.bool (isbt x)) ∧ w' = w := by
  by_cases h0 : x = 0
  · have HV : Hid (isbt x = true) := decide_eq_true (Or.inl h0)
    have hz : (x == 0) = true := by rw [h0]; rfl
    clear h0
    go_enter Try.func56, Try.ntmps56
    go_wp2
    go_ret
    exact ⟨by (first | (rw [HV.out]; rfl) | rw [HV.out]), rfl⟩
  · have hz : (x == 0) = false := beq_eq_false_iff_ne.2 h0
    by_cases h1 : x = 1
    · have HV : Hid (isbt x = true) := decide_eq_true (Or.inr h1)
      have hz1 : (x == 1) = true := by rw [h1]; rfl
      clear h0 h1
      go_enter Try.func56, Try.ntmps56
      go_wp2
      go_ret
      exact ⟨by (first | (rw [HV.out]; rfl) | rw [HV.out]), rfl⟩
    · have HV : Hid (isbt x = false) := decide_eq_false (by omega)
      have hz1 : (x == 1) = false := beq_eq_false_iff_ne.2 h1
      clear h0 h1
      go_enter Try.func56, Try.ntmps56
      go_wp2
      go_ret
      exact ⟨by (first | (rw [HV.out]; rfl) | rw [HV.out]), rfl⟩
theorem enters_isbit : ∀ args w, (callFunc 56 args).run Try.prog w = .ok (.enter 56 args) w :=
  enters_of Try.func56 (by kernel_rfl) rfl
/-- What is said of a word. -/
def bchk (p : Int → Bool) (l : Nat) (z : Nat → Int) (n : Int) : Int := if (l : Int) ≠ n then 6 else if allP p z l = true then 0 else 2
set_option maxHeartbeats 2000000 in
theorem bcheck_any {gf : Nat} (eg : ∀ args w, (callFunc gf args).run Try.prog w = .ok (.enter gf args) w) {ao : Option Addr} {l cap : Nat} {z : Nat → Int} {p : Int → Bool} {w : World} (n : Int) (hs : SlZ ao l z w) (hn : l ≤ 1000000)
    (hp : ∀ x, Calls Try.prog gf (#[.int .i64 x] ++ #[]) w fun e w' => e = .returned (.bool (p x)) ∧ w' = w) :
    Calls Try.prog 55 #[.slice ao l cap, .int .i64 n, .func (.func gf) #[] #[]] w fun e w' => e = .returned (.int .i64 (bchk p l z n)) ∧ w' = w := by
  obtain ⟨R, hR⟩ : ∃ R, R = allP p z l := ⟨_, rfl⟩
  have HC : Hid (Calls Try.prog 75 #[.slice ao l cap, .func (.func gf) #[] #[]] w fun e w' => e = .returned (.bool R) ∧ w' = w) := by rw [hR]; exact ball_any eg hs hn hp
  clear hs hp
  by_cases h0 : (l : Int) = n
  · have hz : ((l : Int) != n) = false := by rw [h0]; simp
    cases R with
    | true =>
      have HV : Hid (bchk p l z n = 0) := by show _ = _; unfold bchk; rw [if_neg (fun x => x h0), ← hR, if_pos rfl]
      clear h0 hR
      go_enter Try.func55, Try.ntmps55
      go_wp2_with (go_at_call 75; refine HC.out.mono ?_; rintro e w' ⟨rfl, hw⟩; have hw := hw.symm; subst hw)
      go_ret
      exact ⟨by (first | (rw [HV.out]; rfl) | rw [HV.out]), rfl⟩
    | false =>
      have HV : Hid (bchk p l z n = 2) := by show _ = _; unfold bchk; rw [if_neg (fun x => x h0), ← hR, if_neg (by intro h; cases h)]
      clear h0 hR
      go_enter Try.func55, Try.ntmps55
      go_wp2_with (go_at_call 75; refine HC.out.mono ?_; rintro e w' ⟨rfl, hw⟩; have hw := hw.symm; subst hw)
      go_ret
      exact ⟨by (first | (rw [HV.out]; rfl) | rw [HV.out]), rfl⟩
  · have hz : ((l : Int) != n) = true := bne_iff_ne.2 h0
    have HV : Hid (bchk p l z n = 6) := by show _ = _; unfold bchk; rw [if_pos h0]
    clear h0 hR
    go_enter Try.func55, Try.ntmps55
    go_wp2
    go_ret
    exact ⟨by (first | (rw [HV.out]; rfl) | rw [HV.out]), rfl⟩
set_option maxHeartbeats 2000000 in
theorem bCheck_any {ao : Option Addr} {l cap : Nat} {z : Nat → Int} {w : World} (n : Int) (hs : SlZ ao l z w) (hn : l ≤ 1000000) :
    Calls Try.prog 37 #[.slice ao l cap, .int .i64 n] w fun e w' => e = .returned (.int .i64 (bchk isbt l z n)) ∧ w' = w := by
  have HC : Hid (Calls Try.prog 55 #[.slice ao l cap, .int .i64 n, .func (.func 56) #[] #[]] w fun e w' => e = .returned (.int .i64 (bchk isbt l z n)) ∧ w' = w) := bcheck_any enters_isbit n hs hn (fun x => isBit_any x w)
  obtain ⟨E, hE⟩ : ∃ E, E = bchk isbt l z n := ⟨_, rfl⟩
  rw [← hE] at HC ⊢
  clear hs hE
  go_enter Try.func37, Try.ntmps37
  go_wp2_with (go_at_call 55; refine HC.out.mono ?_; rintro e w' ⟨rfl, hw⟩; have hw := hw.symm; subst hw)
  go_ret
  exact ⟨rfl, rfl⟩
end Go.Proofs.Ytmklnjkallhphaa

/- Codes of few checks: the reference's ChecksMay and Bits. -/
namespace Go.Proofs.Ytmklnjkallhphaa
open Go.RowKit Go.Sort

end Go.Proofs.Ytmklnjkallhphaa

/- Codes of few checks: a round of peeling (the program's fill; printed by make/ke5.py). -/
namespace Go.Proofs.Ytmklnjkallhphaa
open Go.RowKit Go.Sort

end Go.Proofs.Ytmklnjkallhphaa

/- Codes of few checks: the program's Peel. -/
namespace Go.Proofs.Ytmklnjkallhphaa
open Go.RowKit Go.Sort

end Go.Proofs.Ytmklnjkallhphaa

/- Codes of few checks: the reference's alone and Peeled. -/
namespace Go.Proofs.Ytmklnjkallhphaa
open Go.RowKit Go.Sort

end Go.Proofs.Ytmklnjkallhphaa

/- Codes of few checks: the reference's Peeled. -/
namespace Go.Proofs.Ytmklnjkallhphaa
open Go.RowKit Go.Sort

end Go.Proofs.Ytmklnjkallhphaa

/- Codes of few checks: which checks are odd (the program's oddOnes); slices.Max. -/
namespace Go.Proofs.Ytmklnjkallhphaa
open Go.RowKit Go.Sort

end Go.Proofs.Ytmklnjkallhphaa

/- Codes of few checks: a round of turning (the program's turned). -/
namespace Go.Proofs.Ytmklnjkallhphaa
open Go.RowKit Go.Sort

end Go.Proofs.Ytmklnjkallhphaa

/- Codes of few checks: the program's Flip. -/
namespace Go.Proofs.Ytmklnjkallhphaa
open Go.RowKit Go.Sort

end Go.Proofs.Ytmklnjkallhphaa

/- Codes of few checks: what Flip says of what is wrong. -/
namespace Go.Proofs.Ytmklnjkallhphaa
open Go.RowKit Go.Sort

end Go.Proofs.Ytmklnjkallhphaa

/- Codes of few checks: what Stops says of checks that are none. -/
namespace Go.Proofs.Ytmklnjkallhphaa
open Go.RowKit Go.Sort

end Go.Proofs.Ytmklnjkallhphaa

/- Codes of few checks: the reference's odd checks. -/
namespace Go.Proofs.Ytmklnjkallhphaa
open Go.RowKit Go.Sort

end Go.Proofs.Ytmklnjkallhphaa

/- Codes of few checks: the reference's Bits. -/
namespace Go.Proofs.Ytmklnjkallhphaa
open Go.RowKit Go.Sort

/-- What Bits takes: bits, and gaps where they are allowed. -/
def isbg (g : Bool) (x : Int) : Bool := if g = true then isht x else isbt x

set_option maxHeartbeats 8000000 in
set_option maxRecDepth 100000 in
theorem rbits_any (gp : Bool) {ao : Option Addr} {n cap : Nat} {z : Nat → Int} {w : World} (hs : SlZ ao n z w) (hn : n ≤ 1000000) :
    Calls Try.prog 13 #[.slice ao n cap, .bool gp] w fun e w' => e = .returned (.bool (allP (isbg gp) z n)) ∧ w' = w := by
  obtain ⟨R, hR⟩ : ∃ R, R = allP (isbg gp) z n := ⟨_, rfl⟩
  have HS : Hid (SlZ ao n z w ∧ R = allP (isbg gp) z n) := ⟨hs, hR⟩
  rw [← hR]
  clear hs hR
  go_enter Try.func13, Try.ntmps13
  go_wp2
  go_loopw [5] (fun vi wx => ∃ i : Nat, i ≤ n ∧ vi = .int .i64 (i : Nat) ∧ Hid (allP (isbg gp) z i = true) ∧ wx = w) (fun vi _ => n - (intOf vi).toNat)
  case atStart => exact ⟨0, by omega, rfl, rfl, rfl⟩
  case round =>
    obtain ⟨i, hi, rfl, HI, hwx⟩ := hrel
    have hwx := hwx.symm
    subst hwx
    by_cases hlt : i < n
    · have hib : (i : Int) < (n : Int) := by omega
      have hib0 : (0 : Int) ≤ (i : Int) := by omega
      obtain ⟨b, off, rfl, hc⟩ := HS.out.1 i hlt
      obtain ⟨x, hx⟩ : ∃ x, x = z i := ⟨_, rfl⟩
      rw [← hx] at hc
      have key : ∀ c : Bool, isbg gp x = c → (c = false → R = false) ∧ (c = true → allP (isbg gp) z (i + 1) = true) := fun c hcx => by
        constructor
        · intro h
          rw [HS.out.2]
          exact allP_no (by rw [← hx, hcx, h]) n hlt
        · intro h
          show (allP (isbg gp) z i && isbg gp (z i)) = true
          rw [HI.out, ← hx, hcx, h]; rfl
      by_cases h1 : 1 < x
      · have hg : x > 1 := h1
        have HV : Hid (R = false) := (key false (by unfold isbg isht isbt; cases gp <;> simp <;> omega)).1 rfl
        clear key hx
        go_wp2
        go_ret
        exact ⟨by rw [HV.out]; rfl, rfl⟩
      · have hg : ¬ x > 1 := h1
        by_cases h2 : x < -1
        · have HV : Hid (R = false) := (key false (by unfold isbg isht isbt; cases gp <;> simp <;> omega)).1 rfl
          clear key hx
          go_wp2
          go_ret
          exact ⟨by rw [HV.out]; rfl, rfl⟩
        · by_cases h3 : x = -1
          · have hz : (x == -1) = true := by rw [h3]; rfl
            cases gp with
            | false =>
              have HV : Hid (R = false) := (key false (by rw [h3]; rfl)).1 rfl
              clear key hx h3
              go_wp2
              go_ret
              exact ⟨by rw [HV.out]; rfl, rfl⟩
            | true =>
              have HV : Hid (allP (isbg true) z (i + 1) = true) := (key true (by rw [h3]; rfl)).2 rfl
              clear key hx h3
              go_wp2
              go_roundw
              case rel => exact ⟨i + 1, by omega, by go_num, HV.out, by first | rfl | trivial⟩
              case measure => simp [intOf]; omega
          · have hz : (x == -1) = false := beq_eq_false_iff_ne.2 h3
            have HV : Hid (allP (isbg gp) z (i + 1) = true) := (key true (by unfold isbg isht isbt; cases gp <;> simp <;> omega)).2 rfl
            clear key hx h3
            go_wp2
            go_roundw
            case rel => exact ⟨i + 1, by omega, by go_num, HV.out, by first | rfl | trivial⟩
            case measure => simp [intOf]; omega
    · have hib : ¬ (i : Int) < (n : Int) := by omega
      have hie : n = i := by omega
      subst hie
      have HV : Hid (R = true) := by show _ = _; rw [HS.out.2]; exact HI.out
      go_wp2
      go_ret
      exact ⟨by rw [HV.out]; rfl, rfl⟩
end Go.Proofs.Ytmklnjkallhphaa

/- Codes of few checks: the reference's Stopping (over what In says, as a premise). -/
namespace Go.Proofs.Ytmklnjkallhphaa
open Go.RowKit Go.Sort

end Go.Proofs.Ytmklnjkallhphaa

/- Codes of few checks: the program's Stops. -/
namespace Go.Proofs.Ytmklnjkallhphaa
open Go.RowKit Go.Sort

end Go.Proofs.Ytmklnjkallhphaa

/- Codes of few checks: the reference's Flipped. -/
namespace Go.Proofs.Ytmklnjkallhphaa
open Go.RowKit Go.Sort

/-- A running maximum. -/
def Mxs (f : Nat → Nat) (n t : Nat) : Prop := (∀ p, p < n → f p ≤ t) ∧ (t = 0 ∨ ∃ p, p < n ∧ f p = t)
theorem Mxs.up {f f' : Nat → Nat} {n t X : Nat} (h : Mxs f n t) (hX : X < n) (hf : ∀ p, p < n → f' p = if p = X then f X + 1 else f p) (hgt : t < f X + 1) : Mxs f' n (f X + 1) := by
  refine ⟨fun p hp => ?_, Or.inr ⟨X, hX, by rw [hf X hX, if_pos rfl]⟩⟩
  rw [hf p hp]
  split
  · exact Nat.le_refl _
  · have := h.1 p hp; omega
theorem Mxs.stay {f f' : Nat → Nat} {n t X : Nat} (h : Mxs f n t) (hf : ∀ p, p < n → f' p = if p = X then f X + 1 else f p) (hle : ¬ t < f X + 1) : Mxs f' n t := by
  refine ⟨fun p hp => ?_, ?_⟩
  · rw [hf p hp]
    split
    · omega
    · exact h.1 p hp
  · rcases h.2 with h0 | ⟨p, hp, hpt⟩
    · omega
    · refine Or.inr ⟨p, hp, ?_⟩
      rw [hf p hp, if_neg (fun e => by rw [e] at hpt; omega)]
      exact hpt
theorem Mxs.congr {f f' : Nat → Nat} {n t : Nat} (h : Mxs f n t) (hf : ∀ p, p < n → f' p = f p) : Mxs f' n t := by
  refine ⟨fun p hp => by rw [hf p hp]; exact h.1 p hp, ?_⟩
  rcases h.2 with h0 | ⟨p, hp, hpt⟩
  · exact Or.inl h0
  · exact Or.inr ⟨p, hp, by rw [hf p hp]; exact hpt⟩
theorem Row.setOther {g N : Nat} {c : Nat → Nat} {w : World} (h : Row g N c w) (a : Addr) (ha : g ≠ a.block) (v : Value) : Row g N c (w.setCell a v) := by
  obtain ⟨cap, f, h1, h2, h3⟩ := h
  exact ⟨cap, f, h1.setOther a ha v, h2, h3⟩
end Go.Proofs.Ytmklnjkallhphaa

/- SparseSays: seven ways through it, over what its calls tell. -/
namespace Go.Proofs.Ytmklnjkallhphaa
open Go.RowKit Go.Sort

end Go.Proofs.Ytmklnjkallhphaa

/- SparseSays: whatever it is given. -/
namespace Go.Proofs.Ytmklnjkallhphaa
open Go.RowKit Go.Sort

/-- At which round peeling ends. -/
noncomputable def pk (m : Nat) (N : Nat → Nat) (Z : Nat → Nat → Int) (y : Nat → Int) : Nat := Classical.epsilon fun k => pround m N Z (prounds m N Z y k) = prounds m N Z y k
/-- At which round turning ends. -/
noncomputable def tk (n m : Nat) (N : Nat → Nat) (Z : Nat → Nat → Int) (y : Nat → Int) (most : Nat) : Nat := Classical.epsilon fun r => Tend n m N Z y most r
end Go.Proofs.Ytmklnjkallhphaa
