/- Texts of ours, one behind the other: KH7 KH8 S36 KH9 KH10 KI1 KI2. -/
import Derived.Test.YtillljojdnofgaaZKE17
import Derived.Test.YtillljojdnofgaaZR5
import Derived.Test.YtillljojdnofgaaZS3
/- Rings: how many values (the reference's RingMay), and the program's Ring. -/
namespace Go.Proofs.Ytillljojdnofgaa
open Go.RowKit Go.Sort

end Go.Proofs.Ytillljojdnofgaa

/- Rings: the program's Ring. -/
namespace Go.Proofs.Ytillljojdnofgaa
open Go.RowKit Go.Sort

end Go.Proofs.Ytillljojdnofgaa

/- Rings, edge by edge. No Go text here. -/
namespace Go.Proofs.Ytillljojdnofgaa

end Go.Proofs.Ytillljojdnofgaa

/- Rings: is the way around kept (the reference's goes)? -/
namespace Go.Proofs.Ytillljojdnofgaa
open Go.RowKit Go.Sort

end Go.Proofs.Ytillljojdnofgaa

/- Rings, edge by edge (the reference's RingOf). -/
namespace Go.Proofs.Ytillljojdnofgaa
open Go.RowKit Go.Sort

/-- Only block G has changed, among what there was. -/
structure OfG (G : Nat) (w w' : World) : Prop where
  same : ∀ g, g < w.heap.size → g ≠ G → w'.heap[g]? = w.heap[g]?
  bel : ∀ B u, Below B u w → B ≤ G → Below B u w'
theorem OfG.size {G : Nat} {w w' : World} (h : OfG G w w') : w.heap.size ≤ w'.heap.size := (h.bel 0 w (Below.refl _ _) (Nat.zero_le _)).size
theorem OfG.refl (G : Nat) (w : World) : OfG G w w := ⟨fun _ _ _ => rfl, fun _ _ h _ => h⟩
theorem OfG.trans {G : Nat} {a b c : World} (h : OfG G a b) (h2 : OfG G b c) : OfG G a c := ⟨fun g hg hn => (h2.same g (Nat.lt_of_lt_of_le hg h.size) hn).trans (h.same g hg hn), fun B u hb hB => h2.bel B u (h.bel B u hb hB) hB⟩
end Go.Proofs.Ytillljojdnofgaa

/- Words that may lose a bit: which numbers may be (gap.checkSum; the reference's GapArgs). -/
namespace Go.Proofs.Ytillljojdnofgaa
open Go.RowKit Go.Sort

/-- What is said of a word's length and what is left of its sum. -/
def gaChk (n a : Int) : Int := if n < 1 ∨ 12 < n then 4 else if a < 0 ∨ n < a then 10 else 0
set_option maxHeartbeats 2000000 in
set_option maxRecDepth 100000 in
theorem checkSum_any (n a : Int) (w : World) : Calls Try.prog 46 #[.int .i64 n, .int .i64 a] w fun e w' => e = .returned (.int .i64 (gaChk n a)) ∧ w' = w := by
  obtain ⟨E, hE⟩ : ∃ E, E = gaChk n a := ⟨_, rfl⟩
  rw [← hE]
  by_cases k1 : n < 1
  · have k1' : n < 1 ∨ 12 < n := Or.inl k1
    have HV : Hid (E = 4) := by show E = 4; rw [hE]; unfold gaChk; rw [if_pos k1']
    clear hE k1'
    go_enter Try.func46, Try.ntmps46
    go_wp2
    go_ret
    exact ⟨by rw [HV.out]; rfl, rfl⟩
  by_cases k2 : 12 < n
  · have k2' : n < 1 ∨ 12 < n := Or.inr k2
    have HV : Hid (E = 4) := by show E = 4; rw [hE]; unfold gaChk; rw [if_pos k2']
    clear hE k2'
    go_enter Try.func46, Try.ntmps46
    go_wp2
    go_ret
    exact ⟨by rw [HV.out]; rfl, rfl⟩
  have k3 : ¬ (n < 1 ∨ 12 < n) := by omega
  by_cases k4 : a < 0
  · have k4' : a < 0 ∨ n < a := Or.inl k4
    have HV : Hid (E = 10) := by show E = 10; rw [hE]; unfold gaChk; rw [if_neg k3, if_pos k4']
    clear hE k3 k4'
    go_enter Try.func46, Try.ntmps46
    go_wp2
    go_ret
    exact ⟨by rw [HV.out]; rfl, rfl⟩
  by_cases k5 : n < a
  · have k5' : a < 0 ∨ n < a := Or.inr k5
    have HV : Hid (E = 10) := by show E = 10; rw [hE]; unfold gaChk; rw [if_neg k3, if_pos k5']
    clear hE k3 k5'
    go_enter Try.func46, Try.ntmps46
    go_wp2
    go_ret
    exact ⟨by rw [HV.out]; rfl, rfl⟩
  have k6 : ¬ (a < 0 ∨ n < a) := by omega
  have HV : Hid (E = 0) := by show E = 0; rw [hE]; unfold gaChk; rw [if_neg k3, if_neg k6]
  clear hE k3 k6
  go_enter Try.func46, Try.ntmps46
  go_wp2
  go_ret
  exact ⟨by rw [HV.out]; rfl, rfl⟩
set_option maxHeartbeats 2000000 in
set_option maxRecDepth 100000 in
theorem gapArgs_any (n a : Int) (w : World) : Calls Try.prog 8 #[.int .i64 n, .int .i64 a] w fun e w' => e = .returned (.int .i64 (gaChk n a)) ∧ w' = w := by
  obtain ⟨E, hE⟩ : ∃ E, E = gaChk n a := ⟨_, rfl⟩
  rw [← hE]
  by_cases k1 : n < 1
  · have k1' : n < 1 ∨ 12 < n := Or.inl k1
    have HV : Hid (E = 4) := by show E = 4; rw [hE]; unfold gaChk; rw [if_pos k1']
    clear hE k1'
    go_enter Try.func8, Try.ntmps8
    go_wp2
    go_ret
    exact ⟨by rw [HV.out]; rfl, rfl⟩
  by_cases k2 : 12 < n
  · have k2' : n < 1 ∨ 12 < n := Or.inr k2
    have HV : Hid (E = 4) := by show E = 4; rw [hE]; unfold gaChk; rw [if_pos k2']
    clear hE k2'
    go_enter Try.func8, Try.ntmps8
    go_wp2
    go_ret
    exact ⟨by rw [HV.out]; rfl, rfl⟩
  have k3 : ¬ (n < 1 ∨ 12 < n) := by omega
  by_cases k4 : a < 0
  · have k4' : a < 0 ∨ n < a := Or.inl k4
    have HV : Hid (E = 10) := by show E = 10; rw [hE]; unfold gaChk; rw [if_neg k3, if_pos k4']
    clear hE k3 k4'
    go_enter Try.func8, Try.ntmps8
    go_wp2
    go_ret
    exact ⟨by rw [HV.out]; rfl, rfl⟩
  by_cases k5 : n < a
  · have k5' : a < 0 ∨ n < a := Or.inr k5
    have HV : Hid (E = 10) := by show E = 10; rw [hE]; unfold gaChk; rw [if_neg k3, if_pos k5']
    clear hE k3 k5'
    go_enter Try.func8, Try.ntmps8
    go_wp2
    go_ret
    exact ⟨by rw [HV.out]; rfl, rfl⟩
  have k6 : ¬ (a < 0 ∨ n < a) := by omega
  have HV : Hid (E = 0) := by show E = 0; rw [hE]; unfold gaChk; rw [if_neg k3, if_neg k6]
  clear hE k3 k6
  go_enter Try.func8, Try.ntmps8
  go_wp2
  go_ret
  exact ⟨by rw [HV.out]; rfl, rfl⟩
end Go.Proofs.Ytillljojdnofgaa

/- Words that may lose a bit: the sum of the places of ones (gap.comesTo; the reference's Places). -/
namespace Go.Proofs.Ytillljojdnofgaa
open Go.RowKit Go.Sort

/-- The sum of the places of ones. -/
def psm (c : Nat → Nat) : Nat → Nat
  | 0 => 0
  | i + 1 => psm c i + (i + 1) * c i
theorem psm_few {c : Nat → Nat} : ∀ i, (∀ j, j < i → c j ≤ 1) → psm c i ≤ i * (i + 1)
  | 0, _ => Nat.le_refl _
  | i + 1, h => by
    have h1 := psm_few i fun j hj => h j (by omega)
    have h2 := Nat.mul_le_mul_left (i + 1) (h i (by omega))
    have h3 : i * (i + 1) ≤ (i + 1) * (i + 1) := Nat.mul_le_mul_right _ (by omega)
    have h4 : (i + 1) * (i + 1 + 1) = (i + 1) * (i + 1) + (i + 1) := by rw [Nat.mul_succ]
    show psm c i + (i + 1) * c i ≤ (i + 1) * (i + 1 + 1)
    omega

set_option maxHeartbeats 4000000 in
set_option maxRecDepth 100000 in
theorem comesTo_any (a : Int) {wo : Option Addr} {n cw : Nat} {c : Nat → Nat} {w : World} (hS : SlZ wo n (fun j => ((c j : Nat) : Int)) w) (hn : n ≤ 13) (hc : ∀ j, j < n → c j ≤ 1) :
    Calls Try.prog 48 #[.slice wo n cw, .int .i64 a] w fun e w' => e = .returned (.bool (((psm c n % (n + 1) : Nat) : Int) == a)) ∧ w' = w := by
  have HF : Hid (SlZ wo n (fun j => ((c j : Nat) : Int)) w ∧ ∀ j, j < n → c j ≤ 1) := ⟨hS, hc⟩
  obtain ⟨n1, hn1⟩ : ∃ n1, n1 = n + 1 := ⟨_, rfl⟩
  obtain ⟨md, hmd⟩ : ∃ md : Nat, md = psm c n % (n + 1) := ⟨_, rfl⟩
  rw [← hmd]
  have hw1 : IntKind.i64.wrap ((n : Int) + 1) = (n1 : Int) := wrap_to (by omega) (by omega)
  have HD : Hid (md = psm c n % n1 ∧ n1 = n + 1) := ⟨by rw [hn1]; exact hmd, hn1⟩
  have hn0 : ¬ (n1 : Int) = 0 := by omega
  clear hS hc hn1 hmd
  go_enter Try.func48, Try.ntmps48
  go_wp2
  go_loopw [5, 10] (fun vs vi wr => ∃ (i s : Nat), i ≤ n ∧ vs = .int .i64 (s : Nat) ∧ vi = .int .i64 (i : Nat) ∧ Hid (s = psm c i ∧ wr = w)) (fun _ vi _ => n - (intOf vi).toNat)
  case atStart => exact ⟨0, 0, by omega, rfl, rfl, rfl, rfl⟩
  case round =>
    obtain ⟨i, s, hi, rfl, rfl, HG⟩ := hrel
    rename World => wr
    have hsb : s ≤ 182 := by
      rw [HG.out.1]
      have h1 := psm_few i fun j hj => HF.out.2 j (by omega)
      have h2 : i * (i + 1) ≤ 13 * 14 := Nat.mul_le_mul (by omega) (by omega)
      omega
    by_cases hlt : i < n
    · have hib : (i : Int) < (n : Int) := by omega
      obtain ⟨b, off, hwo, hcell⟩ := HF.out.1 i hlt
      rw [← HG.out.2] at hcell
      subst hwo
      obtain ⟨x, hx⟩ : ∃ x, x = c i := ⟨_, rfl⟩
      replace hcell : wr.cell? ⟨b, off + i, none⟩ = some (.int .i64 (x : Nat)) := by rw [hx]; exact hcell
      have hx1 : x ≤ 1 := by rw [hx]; exact HF.out.2 i hlt
      obtain ⟨i1, hi1⟩ : ∃ i1, i1 = i + 1 := ⟨_, rfl⟩
      obtain ⟨p, hp⟩ : ∃ p, p = i1 * x := ⟨_, rfl⟩
      have hpb : p ≤ 14 := by rw [hp]; have := Nat.mul_le_mul_left i1 hx1; omega
      have v1 : IntKind.i64.wrap ((i : Int) + 1) = (i1 : Int) := wrap_to (by omega) (by omega)
      have v1' : (i : Int) + 1 = (i1 : Int) := by omega
      have v2 : IntKind.i64.wrap ((i1 : Int) * (x : Int)) = (p : Int) := wrap_to (by rw [hp]; simp) (by omega)
      have v2' : IntKind.i64.wrap (((i : Int) + 1) * (x : Int)) = (p : Int) := by rw [v1']; exact v2
      have HV : Hid (s + p = psm c (i + 1) ∧ wr = w) := ⟨by show s + p = psm c i + (i + 1) * c i; rw [HG.out.1, hp, hi1, hx], HG.out.2⟩
      have HI1 : Hid (i1 = i + 1) := hi1
      clear hx hp hi1 v1'
      go_wp2
      go_roundw
      case rel => exact ⟨i1, s + p, by have := HI1.out; omega, by first | rfl | go_num, by first | rfl | go_num, by rw [HI1.out]; exact HV.out.1, HV.out.2⟩
      case measure => have := HI1.out; simp [intOf]; omega
    · have hib : ¬ (i : Int) < (n : Int) := by omega
      have hie : n = i := by omega
      have d1 : (s : Int).tmod (n1 : Int) = (md : Int) := by rw [HD.out.1, hie, ← HG.out.1]; rfl
      have HW : Hid (wr = w) := HG.out.2
      clear hie
      go_wp2
      go_ret
      exact ⟨rfl, HW.out⟩
end Go.Proofs.Ytillljojdnofgaa
