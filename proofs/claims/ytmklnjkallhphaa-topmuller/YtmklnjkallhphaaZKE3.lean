/- Texts of ours, one behind the other: KE3 KE4 KE5 KE6 KE7 KE8 KE9 KE10 KE11 KE12 KE13 KE14 KE15 KE16 KE17 KE18 KE19 KE20 KE21. -/
import Derived.Test.YtmklnjkallhphaaZS28
import Derived.Test.YtmklnjkallhphaaZK7
import Derived.Test.YtmklnjkallhphaaZL1
import Derived.Test.YtmklnjkallhphaaZU5
import Derived.Test.YtmklnjkallhphaaZT10
import Derived.Test.YtmklnjkallhphaaZR5
import Derived.Test.YtmklnjkallhphaaZL10
/- Words of bits (package bit); slices.Equal; slices.Max. -/
namespace Go.Proofs.Ytmklnjkallhphaa
open Go.RowKit Go.Sort

def allP (p : Int → Bool) (z : Nat → Int) : Nat → Bool
  | 0 => true
  | n + 1 => allP p z n && p (z n)
theorem allP_no {p : Int → Bool} {z : Nat → Int} {i : Nat} (h : p (z i) = false) : ∀ n, i < n → allP p z n = false
  | 0, hi => absurd hi (by omega)
  | n + 1, hi => by
    show (allP p z n && p (z n)) = false
    by_cases e : i = n
    · rw [← e, h, Bool.and_false]
    · rw [allP_no h n (by omega), Bool.false_and]
theorem allP_iff {p : Int → Bool} {z : Nat → Int} : ∀ n, allP p z n = true → ∀ j, j < n → p (z j) = true
  | 0, _, j, hj => absurd hj (by omega)
  | n + 1, h, j, hj => by
    have h : (allP p z n && p (z n)) = true := h
    rw [Bool.and_eq_true] at h
    by_cases e : j = n
    · rw [e]; exact h.2
    · exact allP_iff n h.1 j (by omega)
set_option maxHeartbeats 4000000 in
set_option maxRecDepth 100000 in
theorem ball_any {gf : Nat} (eg : ∀ args w, (callFunc gf args).run Try.prog w = .ok (.enter gf args) w) {ao : Option Addr} {n cap : Nat} {z : Nat → Int} {p : Int → Bool} {w : World} (hs : SlZ ao n z w) (hn : n ≤ 1000000)
    (hp : ∀ x, Calls Try.prog gf (#[.int .i64 x] ++ #[]) w fun e w' => e = .returned (.bool (p x)) ∧ w' = w) :
    Calls Try.prog 75 #[.slice ao n cap, .func (.func gf) #[] #[]] w fun e w' => e = .returned (.bool (allP p z n)) ∧ w' = w := by
  obtain ⟨R, hR⟩ : ∃ R, R = allP p z n := ⟨_, rfl⟩
  have HS : Hid (SlZ ao n z w ∧ (∀ x, Calls Try.prog gf (#[.int .i64 x] ++ #[]) w fun e w' => e = .returned (.bool (p x)) ∧ w' = w) ∧ R = allP p z n) := ⟨hs, hp, hR⟩
  rw [← hR]
  clear hs hp hR
  go_enter Try.func75, Try.ntmps75
  go_wp2
  go_loopw [9] (fun vi wx => ∃ i : Nat, i ≤ n ∧ vi = .int .i64 (i : Nat) ∧ Hid (allP p z i = true) ∧ wx = w) (fun vi _ => n - (intOf vi).toNat)
  case atStart => exact ⟨0, by omega, rfl, rfl, rfl⟩
  case round =>
    obtain ⟨i, hi, rfl, HI, hwx⟩ := hrel
    have hwx := hwx.symm
    subst hwx
    by_cases hlt : i < n
    · have hib : (i : Int) < (n : Int) := by omega
      have hib0 : (0 : Int) ≤ (i : Int) := by omega
      obtain ⟨b, off, rfl, hc⟩ := HS.out.1 i hlt
      obtain ⟨x, hx⟩ : ∃ x, x = z i := ⟨_, rfl⟩
      rw [← hx] at hc
      obtain ⟨pb, hpb⟩ : ∃ pb, pb = p x := ⟨_, rfl⟩
      have hcall : Calls Try.prog gf (#[.int .i64 x] ++ #[]) w fun e w' => e = .returned (.bool pb) ∧ w' = w := by
        rw [hpb]; exact HS.out.2.1 x
      have HP : Hid (pb = p (z i)) := by show _ = _; rw [hpb, hx]
      clear hx hpb
      cases pb with
      | false =>
        have HV : Hid (R = false) := by show _ = _; rw [HS.out.2.2]; exact allP_no HP.out.symm n hlt
        go_wp2_with (go_at_fn gf; refine hcall.mono ?_; rintro e w' ⟨rfl, hw⟩; have hw := hw.symm; subst hw)
        go_ret
        exact ⟨by (first | (rw [HV.out]; rfl) | rw [HV.out]), rfl⟩
      | true =>
        have HV : Hid (allP p z (i + 1) = true) := by
          show (allP p z i && p (z i)) = true
          rw [HI.out, ← HP.out]; rfl
        go_wp2_with (go_at_fn gf; refine hcall.mono ?_; rintro e w' ⟨rfl, hw⟩; have hw := hw.symm; subst hw)
        go_roundw
        case rel => exact ⟨i + 1, by omega, by go_num, HV.out, by first | rfl | trivial⟩
        case measure => simp [intOf]; omega
    · have hib : ¬ (i : Int) < (n : Int) := by omega
      have HV : Hid (R = true) := by show _ = _; rw [HS.out.2.2, show n = i by omega]; exact HI.out
      go_wp2
      go_ret
      exact ⟨by (first | (rw [HV.out]; rfl) | rw [HV.out]), rfl⟩
def isbt (x : Int) : Bool := decide (x = 0 ∨ x = 1)
set_option maxHeartbeats 2000000 in
theorem isBit_any (x : Int) (w : World) : Calls Try.prog 56 #[.int .i64 x] w fun e w' => e = .returned (.bool (isbt x)) ∧ w' = w := by
  by_cases h0 : x = 0
  · have HV : Hid (isbt x = true) := decide_eq_true (Or.inl h0)
    have hz : (x == 0) = true := by rw [h0]; rfl
    clear h0
    go_enter Try.func56, Try.ntmps56
    go_wp2
    go_ret
    exact ⟨by (first | (rw [HV.out]; rfl) | rw [HV.out]), rfl⟩
  · have hz : (x == 0) = false := beq_eq_false_iff_ne.2 h0
    by_cases h1 : x = 1
    · have HV : Hid (isbt x = true) := decide_eq_true (Or.inr h1)
      have hz1 : (x == 1) = true := by rw [h1]; rfl
      clear h0 h1
      go_enter Try.func56, Try.ntmps56
      go_wp2
      go_ret
      exact ⟨by (first | (rw [HV.out]; rfl) | rw [HV.out]), rfl⟩
    · have HV : Hid (isbt x = false) := decide_eq_false (by omega)
      have hz1 : (x == 1) = false := beq_eq_false_iff_ne.2 h1
      clear h0 h1
      go_enter Try.func56, Try.ntmps56
      go_wp2
      go_ret
      exact ⟨by (first | (rw [HV.out]; rfl) | rw [HV.out]), rfl⟩
theorem enters_isbit : ∀ args w, (callFunc 56 args).run Try.prog w = .ok (.enter 56 args) w :=
  enters_of Try.func56 (by kernel_rfl) rfl
/-- What is said of a word. -/
def bchk (p : Int → Bool) (l : Nat) (z : Nat → Int) (n : Int) : Int := if (l : Int) ≠ n then 6 else if allP p z l = true then 0 else 2
set_option maxHeartbeats 2000000 in
theorem bcheck_any {gf : Nat} (eg : ∀ args w, (callFunc gf args).run Try.prog w = .ok (.enter gf args) w) {ao : Option Addr} {l cap : Nat} {z : Nat → Int} {p : Int → Bool} {w : World} (n : Int) (hs : SlZ ao l z w) (hn : l ≤ 1000000)
    (hp : ∀ x, Calls Try.prog gf (#[.int .i64 x] ++ #[]) w fun e w' => e = .returned (.bool (p x)) ∧ w' = w) :
    Calls Try.prog 55 #[.slice ao l cap, .int .i64 n, .func (.func gf) #[] #[]] w fun e w' => e = .returned (.int .i64 (bchk p l z n)) ∧ w' = w := by
  obtain ⟨R, hR⟩ : ∃ R, R = allP p z l := ⟨_, rfl⟩
  have HC : Hid (Calls Try.prog 75 #[.slice ao l cap, .func (.func gf) #[] #[]] w fun e w' => e = .returned (.bool R) ∧ w' = w) := by rw [hR]; exact ball_any eg hs hn hp
  clear hs hp
  by_cases h0 : (l : Int) = n
  · have hz : ((l : Int) != n) = false := by rw [h0]; simp
    cases R with
    | true =>
      have HV : Hid (bchk p l z n = 0) := by show _ = _; unfold bchk; rw [if_neg (fun x => x h0), ← hR, if_pos rfl]
      clear h0 hR
      go_enter Try.func55, Try.ntmps55
      go_wp2_with (go_at_call 75; refine HC.out.mono ?_; rintro e w' ⟨rfl, hw⟩; have hw := hw.symm; subst hw)
      go_ret
      exact ⟨by (first | (rw [HV.out]; rfl) | rw [HV.out]), rfl⟩
    | false =>
      have HV : Hid (bchk p l z n = 2) := by show _ = _; unfold bchk; rw [if_neg (fun x => x h0), ← hR, if_neg (by intro h; cases h)]
      clear h0 hR
      go_enter Try.func55, Try.ntmps55
      go_wp2_with (go_at_call 75; refine HC.out.mono ?_; rintro e w' ⟨rfl, hw⟩; have hw := hw.symm; subst hw)
      go_ret
      exact ⟨by (first | (rw [HV.out]; rfl) | rw [HV.out]), rfl⟩
  · have hz : ((l : Int) != n) = true := bne_iff_ne.2 h0
    have HV : Hid (bchk p l z n = 6) := by show _ = _; unfold bchk; rw [if_pos h0]
    clear h0 hR
    go_enter Try.func55, Try.ntmps55
    go_wp2
    go_ret
    exact ⟨by (first | (rw [HV.out]; rfl) | rw [HV.out]), rfl⟩
set_option maxHeartbeats 2000000 in
theorem bCheck_any {ao : Option Addr} {l cap : Nat} {z : Nat → Int} {w : World} (n : Int) (hs : SlZ ao l z w) (hn : l ≤ 1000000) :
    Calls Try.prog 37 #[.slice ao l cap, .int .i64 n] w fun e w' => e = .returned (.int .i64 (bchk isbt l z n)) ∧ w' = w := by
  have HC : Hid (Calls Try.prog 55 #[.slice ao l cap, .int .i64 n, .func (.func 56) #[] #[]] w fun e w' => e = .returned (.int .i64 (bchk isbt l z n)) ∧ w' = w) := bcheck_any enters_isbit n hs hn (fun x => isBit_any x w)
  obtain ⟨E, hE⟩ : ∃ E, E = bchk isbt l z n := ⟨_, rfl⟩
  rw [← hE] at HC ⊢
  clear hs hE
  go_enter Try.func37, Try.ntmps37
  go_wp2_with (go_at_call 55; refine HC.out.mono ?_; rintro e w' ⟨rfl, hw⟩; have hw := hw.symm; subst hw)
  go_ret
  exact ⟨rfl, rfl⟩
end Go.Proofs.Ytmklnjkallhphaa

/- Codes of few checks: the reference's ChecksMay and Bits. -/
namespace Go.Proofs.Ytmklnjkallhphaa
open Go.RowKit Go.Sort

end Go.Proofs.Ytmklnjkallhphaa

/- Codes of few checks: a round of peeling (the program's fill; printed by make/ke5.py). -/
namespace Go.Proofs.Ytmklnjkallhphaa
open Go.RowKit Go.Sort

end Go.Proofs.Ytmklnjkallhphaa

/- Codes of few checks: the program's Peel. -/
namespace Go.Proofs.Ytmklnjkallhphaa
open Go.RowKit Go.Sort

end Go.Proofs.Ytmklnjkallhphaa

/- Codes of few checks: the reference's alone and Peeled. -/
namespace Go.Proofs.Ytmklnjkallhphaa
open Go.RowKit Go.Sort

end Go.Proofs.Ytmklnjkallhphaa

/- Codes of few checks: the reference's Peeled. -/
namespace Go.Proofs.Ytmklnjkallhphaa
open Go.RowKit Go.Sort

end Go.Proofs.Ytmklnjkallhphaa

/- Codes of few checks: which checks are odd (the program's oddOnes); slices.Max. -/
namespace Go.Proofs.Ytmklnjkallhphaa
open Go.RowKit Go.Sort

end Go.Proofs.Ytmklnjkallhphaa

/- Codes of few checks: a round of turning (the program's turned). -/
namespace Go.Proofs.Ytmklnjkallhphaa
open Go.RowKit Go.Sort

end Go.Proofs.Ytmklnjkallhphaa

/- Codes of few checks: the program's Flip. -/
namespace Go.Proofs.Ytmklnjkallhphaa
open Go.RowKit Go.Sort

end Go.Proofs.Ytmklnjkallhphaa

/- Codes of few checks: what Flip says of what is wrong. -/
namespace Go.Proofs.Ytmklnjkallhphaa
open Go.RowKit Go.Sort

end Go.Proofs.Ytmklnjkallhphaa

/- Codes of few checks: what Stops says of checks that are none. -/
namespace Go.Proofs.Ytmklnjkallhphaa
open Go.RowKit Go.Sort

end Go.Proofs.Ytmklnjkallhphaa

/- Codes of few checks: the reference's odd checks. -/
namespace Go.Proofs.Ytmklnjkallhphaa
open Go.RowKit Go.Sort

end Go.Proofs.Ytmklnjkallhphaa

/- Codes of few checks: the reference's Bits. -/
namespace Go.Proofs.Ytmklnjkallhphaa
open Go.RowKit Go.Sort

end Go.Proofs.Ytmklnjkallhphaa

/- Codes of few checks: the reference's Stopping (over what In says, as a premise). -/
namespace Go.Proofs.Ytmklnjkallhphaa
open Go.RowKit Go.Sort

end Go.Proofs.Ytmklnjkallhphaa

/- Codes of few checks: the program's Stops. -/
namespace Go.Proofs.Ytmklnjkallhphaa
open Go.RowKit Go.Sort

end Go.Proofs.Ytmklnjkallhphaa

/- Codes of few checks: the reference's Flipped. -/
namespace Go.Proofs.Ytmklnjkallhphaa
open Go.RowKit Go.Sort

/-- A running maximum. -/
def Mxs (f : Nat → Nat) (n t : Nat) : Prop := (∀ p, p < n → f p ≤ t) ∧ (t = 0 ∨ ∃ p, p < n ∧ f p = t)
theorem Mxs.up {f f' : Nat → Nat} {n t X : Nat} (h : Mxs f n t) (hX : X < n) (hf : ∀ p, p < n → f' p = if p = X then f X + 1 else f p) (hgt : t < f X + 1) : Mxs f' n (f X + 1) := by
  refine ⟨fun p hp => ?_, Or.inr ⟨X, hX, by rw [hf X hX, if_pos rfl]⟩⟩
  rw [hf p hp]
  split
  · exact Nat.le_refl _
  · have := h.1 p hp; omega
theorem Mxs.stay {f f' : Nat → Nat} {n t X : Nat} (h : Mxs f n t) (hf : ∀ p, p < n → f' p = if p = X then f X + 1 else f p) (hle : ¬ t < f X + 1) : Mxs f' n t := by
  refine ⟨fun p hp => ?_, ?_⟩
  · rw [hf p hp]
    split
    · omega
    · exact h.1 p hp
  · rcases h.2 with h0 | ⟨p, hp, hpt⟩
    · omega
    · refine Or.inr ⟨p, hp, ?_⟩
      rw [hf p hp, if_neg (fun e => by rw [e] at hpt; omega)]
      exact hpt
theorem Mxs.congr {f f' : Nat → Nat} {n t : Nat} (h : Mxs f n t) (hf : ∀ p, p < n → f' p = f p) : Mxs f' n t := by
  refine ⟨fun p hp => by rw [hf p hp]; exact h.1 p hp, ?_⟩
  rcases h.2 with h0 | ⟨p, hp, hpt⟩
  · exact Or.inl h0
  · exact Or.inr ⟨p, hp, by rw [hf p hp]; exact hpt⟩
end Go.Proofs.Ytmklnjkallhphaa

/- SparseSays: seven ways through it, over what its calls tell. -/
namespace Go.Proofs.Ytmklnjkallhphaa
open Go.RowKit Go.Sort

end Go.Proofs.Ytmklnjkallhphaa

/- SparseSays: whatever it is given. -/
namespace Go.Proofs.Ytmklnjkallhphaa
open Go.RowKit Go.Sort

/-- At which round peeling ends. -/
noncomputable def pk (m : Nat) (N : Nat → Nat) (Z : Nat → Nat → Int) (y : Nat → Int) : Nat := Classical.epsilon fun k => pround m N Z (prounds m N Z y k) = prounds m N Z y k
/-- At which round turning ends. -/
noncomputable def tk (n m : Nat) (N : Nat → Nat) (Z : Nat → Nat → Int) (y : Nat → Int) (most : Nat) : Nat := Classical.epsilon fun r => Tend n m N Z y most r
end Go.Proofs.Ytmklnjkallhphaa

/- Checks and words out of raw numbers (ChecksOf, WordOf; printed by make/ke21.py). -/
namespace Go.Proofs.Ytmklnjkallhphaa
open Go.RowKit Go.Sort

theorem crow_congr {n : Int} {z y : Nat → Int} : ∀ m, (∀ j, j < m → z j = y j) → crow n z m = crow n y m
  | 0, _ => rfl
  | m + 1, h => by
    show (if crow n z m ≠ 0 then crow n z m else if z m < 0 ∨ n ≤ z m then 10 else if 0 < m ∧ z m ≤ z (m - 1) then 3 else 0) = if crow n y m ≠ 0 then crow n y m else if y m < 0 ∨ n ≤ y m then 10 else if 0 < m ∧ y m ≤ y (m - 1) then 3 else 0
    rw [crow_congr m (fun j hj => h j (by omega)), h m (by omega)]
    by_cases e : 0 < m
    · rw [h (m - 1) (by omega)]
    · have e1 : ¬ (0 < m ∧ y m ≤ z (m - 1)) := fun x => e x.1
      have e2 : ¬ (0 < m ∧ y m ≤ y (m - 1)) := fun x => e x.1
      rw [if_neg e1, if_neg e2]
/-- A rising list of places below k, all of them below K. -/
structure RsL (K k m : Nat) (z : Nat → Int) : Prop where
  few : m ≤ k
  at' : ∀ j, j < m → 0 ≤ z j ∧ z j < (k : Int)
  ok : crow (K : Int) z m = 0
theorem RsL.skip {K k m : Nat} {z : Nat → Int} (h : RsL K k m z) : RsL K (k + 1) m z := ⟨by have := h.few; omega, fun j hj => by have := h.at' j hj; omega, h.ok⟩
theorem RsL.put {K k m : Nat} {z : Nat → Int} (h : RsL K k m z) (hk : k < K) : RsL K (k + 1) (m + 1) (fun j => if j = m then (k : Int) else z j) := by
  refine ⟨by have := h.few; omega, fun j hj => ?_, ?_⟩
  · show 0 ≤ (if j = m then (k : Int) else z j) ∧ (if j = m then (k : Int) else z j) < ((k + 1 : Nat) : Int)
    by_cases e : j = m
    · rw [if_pos e]; omega
    · rw [if_neg e]; have := h.at' j (by omega); omega
  · have e0 : crow (K : Int) (fun j => if j = m then (k : Int) else z j) m = 0 := by
      rw [crow_congr (y := z) m (fun j hj => if_neg (by omega))]; exact h.ok
    show (if crow (K : Int) (fun j => if j = m then (k : Int) else z j) m ≠ 0 then _ else if (if m = m then (k : Int) else z m) < 0 ∨ (K : Int) ≤ (if m = m then (k : Int) else z m) then 10 else if 0 < m ∧ (if m = m then (k : Int) else z m) ≤ (if m - 1 = m then (k : Int) else z (m - 1)) then 3 else 0) = 0
    rw [if_neg (fun x => x e0), if_pos rfl, if_neg (by omega), if_neg ?_]
    rintro ⟨h1, h2⟩
    rw [if_neg (by omega)] at h2
    have := h.at' (m - 1) (by omega)
    omega
/-- i rising lists of places below K, in a list of the call's own. -/
structure MkV (base K i : Nat) (v : Value) (vs : Nat → Value) (N : Nat → Nat) (Z : Nat → Nat → Int) (w : World) : Prop where
  own : OwnV base v (vl i vs) w
  row : ∀ j, j < i → OwnI base (vs j) (zl (N j) (Z j)) w
  ris : ∀ j, j < i → RsL K K (N j) (Z j)
theorem MkV.below {base K i : Nat} {v : Value} {vs : Nat → Value} {N : Nat → Nat} {Z : Nat → Nat → Int} {w w' : World} (h : MkV base K i v vs N Z w) (hb : Below w.heap.size w w') : MkV base K i v vs N Z w' :=
  ⟨h.own.below hb (Nat.le_refl _), fun j hj => (h.row j hj).below hb (fun k hk => ((h.row j hj).lt k hk).2), h.ris⟩
theorem MkV.push {base K i c : Nat} {v v' u : Value} {vs : Nat → Value} {N : Nat → Nat} {Z : Nat → Nat → Int} {y : Nat → Int} {w w' : World} (h : MkV base K i v vs N Z w) (hu : OwnI base u (zl c y) w) (hy : RsL K K c y) (ho : OwnV base v' (vl i vs ++ [u]) w') (hg : w.grownBy w' v.ownBlock) :
    MkV base K (i + 1) v' (fun j => if j = i then u else vs j) (fun j => if j = i then c else N j) (fun j => if j = i then y else Z j) w' := by
  refine ⟨?_, fun j hj => ?_, fun j hj => ?_⟩
  · have e : vl (i + 1) (fun j => if j = i then u else vs j) = vl i vs ++ [u] := by
      unfold vl
      rw [List.range_succ, List.map_append]
      congr 1
      · exact List.map_congr_left (fun j hj => by rw [if_neg (by have := List.mem_range.1 hj; omega)])
      · simp
    rw [e]; exact ho
  · by_cases e : j = i
    · simp only [if_pos e]; exact hu.kept hg (hu.apart h.own)
    · simp only [if_neg e]; exact (h.row j (by omega)).kept hg ((h.row j (by omega)).apart h.own)
  · by_cases e : j = i
    · simp only [if_pos e]; exact hy
    · simp only [if_neg e]; exact h.ris j (by omega)
theorem MkV.matZ {base K i : Nat} {v : Value} {vs : Nat → Value} {N : Nat → Nat} {Z : Nat → Nat → Int} {w : World} (h : MkV base K i v vs N Z w) (hK : K ≤ 1000000) : ∃ mo mc, v = .slice mo i mc ∧ MatZ mo i (fun j => slA (vs j)) N (fun j => slC (vs j)) Z w := by
  obtain ⟨mo, mc, hv, _, _, _, hcell⟩ := h.own.open
  rw [vl_len] at hv
  have key : ∀ j, j < i → ∃ so sc, vs j = .slice so (N j) sc ∧ ArgL so (N j) sc (Z j) w := fun j hj => (h.row j hj).argL
  refine ⟨mo, mc, hv, ⟨fun j hj => ?_, fun j hj => ?_, fun j hj => ?_, fun j hj => ?_, fun j hj => ?_, fun j hj => by have := (h.ris j hj).few; omega⟩⟩
  · obtain ⟨g, e, hc, _⟩ := hcell j (vs j) (vl_get i vs j hj)
    obtain ⟨so, sc, e2, _⟩ := key j hj
    refine ⟨g, 0, e, ?_⟩
    rw [Nat.zero_add, hc, e2]; rfl
  · obtain ⟨so, sc, e2, ha⟩ := key j hj
    simp only [e2, slA]; exact ha.sl
  · obtain ⟨so, sc, e2, ha⟩ := key j hj
    simp only [e2, slC]; exact ha.le
  · obtain ⟨so, sc, e2, ha⟩ := key j hj
    simp only [e2, slC]; exact ha.cap
  · obtain ⟨so, sc, e2, ha⟩ := key j hj
    simp only [e2, slA, slC]; exact ha.nil

/-- Bits, and what is lost, where something may be. -/
def WdB (lost : Bool) (n : Nat) (y : Nat → Int) : Prop := ∀ j, j < n → (y j = 0 ∨ y j = 1) ∨ (lost = true ∧ y j = -1)
theorem WdB.put {lost : Bool} {r : Nat} {y : Nat → Int} {v : Int} (h : WdB lost r y) (hv : (v = 0 ∨ v = 1) ∨ (lost = true ∧ v = -1)) : WdB lost (r + 1) (fun j => if j = r then v else y j) := fun j hj => by
  show ((if j = r then v else y j) = 0 ∨ (if j = r then v else y j) = 1) ∨ (lost = true ∧ (if j = r then v else y j) = -1)
  by_cases e : j = r
  · rw [if_pos e]; exact hv
  · rw [if_neg e]; exact h j (by omega)

set_option maxHeartbeats 8000000 in
set_option maxRecDepth 100000 in
theorem wordOf_any {ao : Option Addr} {n ca : Nat} {z : Nat → Int} {w : World} (h : Arg ao n ca z w) (hn : n ≤ 1000) (f k : Nat) (lost : Bool) (hf : f ≤ 1000) (hk : k ≤ 1000) :
    Calls Try.prog 21 #[.slice ao n ca, .int .i64 f, .int .i64 k, .bool lost] w fun e w' => ∃ v y, e = .returned v ∧ OwnI w.heap.size v (zl k y) w' ∧ WdB lost k y ∧ Below w.heap.size w w' := by
  have HA : Hid (Arg ao n ca z w) := h
  have HPi : Hid (∀ (x : Int) (q : Nat), I64 x → 1 ≤ q → q ≤ 100 → ∃ M : Nat, M < q ∧ ∀ w : World, Calls Try.prog 20 #[.int .i64 x, .int .i64 (q : Nat)] w fun e w' => e = .returned (.int .i64 (M : Nat)) ∧ w' = w) := fun x q hx h1 h2 => by
    have h3 := pick_lo x (q : Int) (by omega)
    have h4 := pick_hi x (q : Int) (by omega)
    exact ⟨(pick x (q : Int)).toNat, by omega, fun w => by rw [Int.toNat_of_nonneg h3]; exact pick_any x q w hx.1 hx.2 (by omega) (by omega)⟩
  clear h
  go_enter Try.func21, Try.ntmps21
  go_wp2
  go_loopw [9, 10] (fun vl vi wr => ∃ (r : Nat) (y : Nat → Int), r ≤ k ∧ vi = .int .i64 r ∧ Hid (OwnI w.heap.size vl (zl r y) wr ∧ WdB lost r y ∧ Below w.heap.size w wr)) (fun _ vi _ => k - (intOf vi).toNat)
  case atStart => exact ⟨0, fun _ => 0, by omega, rfl, OwnI.nil _ _, fun j hj => absurd hj (by omega), Below.refl _ _⟩
  case round =>
    obtain ⟨r, y, hr, rfl, HG⟩ := hrel
    rename World => wr
    have hsz := HG.out.2.2.size
    by_cases hlt : r < k
    · have hib : (r : Int) < (k : Int) := by omega
      have HRa : Hid (∀ wx, Below w.heap.size w wx → Calls Try.prog 22 #[.slice ao n ca, .int .i64 ((f : Int) + (r : Int))] wx fun e w' => (∃ x, e = .returned (.int .i64 x) ∧ I64 x) ∧ ∃ k, w' = wx.drewN k) := fun wx hb => by
        have h := raw_any (HA.out.below hb) hn (f + r) (by omega)
        rw [Int.natCast_add] at h; exact h
      go_wp2_with fail
      refine (HRa.out wr HG.out.2.2).mono ?_
      rintro e w1 ⟨⟨x, rfl, hx⟩, k1, hw1⟩
      have HG1 : Hid (OwnI w.heap.size u9 (zl r y) w1 ∧ Below w.heap.size w w1) := by rw [hw1]; exact ⟨HG.out.1.drewN _, below_drewN2 HG.out.2.2 _⟩
      have hsz1 := HG1.out.2.size
      clear hw1
      obtain ⟨p, hp4, hP⟩ := HPi.out x 4 hx (by omega) (by omega)
      have HP : Hid (∀ w : World, Calls Try.prog 20 #[.int .i64 x, .int .i64 4] w fun e w' => e = .returned (.int .i64 (p : Nat)) ∧ w' = w) := hP
      clear hP hx
      go_wp2_with fail
      refine (HP.out w1).mono ?_
      rintro e w' ⟨rfl, hw⟩
      have hw := hw.symm
      subst hw
      clear HP
      by_cases hp : p ≤ 1
      · have hpb : ¬ (1 : Int) < (p : Int) := by omega
        have hpc : ¬ (p : Int) > 1 := by omega
        go_wp2_with (at_builtin; refine append_int rfl _ _ rfl w.heap.size _ (zl r y) rfl (HG1.out.1.alloc _) ⟨_, 0, none⟩ 1 (p : Int) rfl (by simp) (by rw [zl_len]; omega) (by simp; omega) ?_; intro v2 w3 hown3 hgrow3)
        have HX : Hid (OwnI w.heap.size v2 (zl (r + 1) (fun j => if j = r then (p : Int) else y j)) w3 ∧ WdB lost (r + 1) (fun j => if j = r then (p : Int) else y j) ∧ Below w.heap.size w w3) := by
          refine ⟨?_, HG.out.2.1.put (Or.inl (by omega)), (HG1.out.2.alloc hsz1 _).grown hgrow3 (by simp; omega) (fun k hk => (HG1.out.1.lt k hk).1)⟩
          rw [zl_succ, zl_congr (y := y) (fun j hj => by show (if j = r then (p : Int) else y j) = y j; rw [if_neg (by omega)])]
          show OwnI w.heap.size v2 (zl r y ++ [if r = r then (p : Int) else y r]) w3
          rw [if_pos rfl]; exact hown3
        clear hown3 hgrow3
        go_roundw
        case rel => exact ⟨r + 1, _, by omega, by go_num, HX.out⟩
        case measure => simp [intOf]; omega
      · have hpb : (1 : Int) < (p : Int) := by omega
        have hpc : (p : Int) > 1 := by omega
        obtain ⟨p2, hp2⟩ : ∃ p2 : Nat, p = p2 + 2 := ⟨p - 2, by omega⟩
        have hsub : (p : Int) - 2 = (p2 : Int) := by omega
        have hp21 : p2 ≤ 1 := by omega
        have hsw : IntKind.i64.wrap ((p : Int) - 2) = (p2 : Int) := wrap_to (by omega) (by omega)
        clear hp2 hp hp4
        cases lost with
        | false =>
          go_wp2_with (at_builtin; refine append_int rfl _ _ rfl w.heap.size _ (zl r y) rfl (HG1.out.1.alloc _) ⟨_, 0, none⟩ 1 (p2 : Int) rfl (by simp) (by rw [zl_len]; omega) (by simp; omega) ?_; intro v2 w3 hown3 hgrow3)
          have HX : Hid (OwnI w.heap.size v2 (zl (r + 1) (fun j => if j = r then (p2 : Int) else y j)) w3 ∧ WdB false (r + 1) (fun j => if j = r then (p2 : Int) else y j) ∧ Below w.heap.size w w3) := by
            refine ⟨?_, HG.out.2.1.put (Or.inl (by omega)), (HG1.out.2.alloc hsz1 _).grown hgrow3 (by simp; omega) (fun k hk => (HG1.out.1.lt k hk).1)⟩
            rw [zl_succ, zl_congr (y := y) (fun j hj => by show (if j = r then (p2 : Int) else y j) = y j; rw [if_neg (by omega)])]
            show OwnI w.heap.size v2 (zl r y ++ [if r = r then (p2 : Int) else y r]) w3
            rw [if_pos rfl]; exact hown3
          clear hown3 hgrow3
          go_roundw
          case rel => exact ⟨r + 1, _, by omega, by go_num, HX.out⟩
          case measure => simp [intOf]; omega
        | true =>
          go_wp2_with fail
          refine (HRa.out w1 HG1.out.2).mono ?_
          rintro e w2 ⟨⟨x2, rfl, hx2⟩, k2, hw2⟩
          have HG2 : Hid (OwnI w.heap.size u9 (zl r y) w2 ∧ Below w.heap.size w w2) := by rw [hw2]; exact ⟨HG1.out.1.drewN _, below_drewN2 HG1.out.2 _⟩
          have hsz2 := HG2.out.2.size
          clear hw2
          obtain ⟨x3, hx3⟩ : ∃ x3, IntKind.i64.wrap (x2.tdiv 4) = x3 := ⟨_, rfl⟩
          have hI3 : I64 x3 := by rw [← hx3]; exact i64_wrap _
          obtain ⟨M, hM2, hP⟩ := HPi.out x3 2 hI3 (by omega) (by omega)
          have HP : Hid (∀ w : World, Calls Try.prog 20 #[.int .i64 x3, .int .i64 2] w fun e w' => e = .returned (.int .i64 (M : Nat)) ∧ w' = w) := hP
          clear hP hI3 hx2
          go_wp2_with fail
          refine (HP.out w2).mono ?_
          rintro e w' ⟨rfl, hw⟩
          have hw := hw.symm
          subst hw
          clear HP
          by_cases hM0 : M = 0
          · have hz : ((M : Int) == 0) = true := by rw [hM0]; rfl
            clear hM0
            go_wp2_with (at_builtin; refine append_int rfl _ _ rfl w.heap.size _ (zl r y) rfl (HG2.out.1.alloc _) ⟨_, 0, none⟩ 1 (-1 : Int) rfl (by simp) (by rw [zl_len]; omega) (by simp; omega) ?_; intro v2 w3 hown3 hgrow3)
            have HX : Hid (OwnI w.heap.size v2 (zl (r + 1) (fun j => if j = r then (-1 : Int) else y j)) w3 ∧ WdB true (r + 1) (fun j => if j = r then (-1 : Int) else y j) ∧ Below w.heap.size w w3) := by
              refine ⟨?_, HG.out.2.1.put (Or.inr ⟨rfl, rfl⟩), (HG2.out.2.alloc hsz2 _).grown hgrow3 (by simp; omega) (fun k hk => (HG2.out.1.lt k hk).1)⟩
              rw [zl_succ, zl_congr (y := y) (fun j hj => by show (if j = r then (-1 : Int) else y j) = y j; rw [if_neg (by omega)])]
              show OwnI w.heap.size v2 (zl r y ++ [if r = r then (-1 : Int) else y r]) w3
              rw [if_pos rfl]; exact hown3
            clear hown3 hgrow3
            go_roundw
            case rel => exact ⟨r + 1, _, by omega, by go_num, HX.out⟩
            case measure => simp [intOf]; omega
          · have hz : ((M : Int) == 0) = false := by rw [beq_eq_false_iff_ne]; omega
            clear hM0
            go_wp2_with (at_builtin; refine append_int rfl _ _ rfl w.heap.size _ (zl r y) rfl (HG2.out.1.alloc _) ⟨_, 0, none⟩ 1 (p2 : Int) rfl (by simp) (by rw [zl_len]; omega) (by simp; omega) ?_; intro v2 w3 hown3 hgrow3)
            have HX : Hid (OwnI w.heap.size v2 (zl (r + 1) (fun j => if j = r then (p2 : Int) else y j)) w3 ∧ WdB true (r + 1) (fun j => if j = r then (p2 : Int) else y j) ∧ Below w.heap.size w w3) := by
              refine ⟨?_, HG.out.2.1.put (Or.inl (by omega)), (HG2.out.2.alloc hsz2 _).grown hgrow3 (by simp; omega) (fun k hk => (HG2.out.1.lt k hk).1)⟩
              rw [zl_succ, zl_congr (y := y) (fun j hj => by show (if j = r then (p2 : Int) else y j) = y j; rw [if_neg (by omega)])]
              show OwnI w.heap.size v2 (zl r y ++ [if r = r then (p2 : Int) else y r]) w3
              rw [if_pos rfl]; exact hown3
            clear hown3 hgrow3
            go_roundw
            case rel => exact ⟨r + 1, _, by omega, by go_num, HX.out⟩
            case measure => simp [intOf]; omega
    · have hib : ¬ (r : Int) < (k : Int) := by omega
      have e : r = k := by omega
      subst e
      go_wp2
      go_ret
      exact ⟨_, rfl, y, HG.out.1, HG.out.2.1, HG.out.2.2⟩
end Go.Proofs.Ytmklnjkallhphaa
