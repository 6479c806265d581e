/- Texts of ours, one behind the other: KE2 KE3 KE4. -/
import Derived.Test.YthcgmdapgphmiaaZS32
import Derived.Shelf.Abstract
import Derived.Test.YthcgmdapgphmiaaZL1
/- Codes of few checks: those places of a check for which something holds (those); the sum of its bits (sum). -/
namespace Go.Proofs.Ythcgmdapgphmiaa
open Go.RowKit Go.Sort

set_option maxHeartbeats 4000000 in
set_option maxRecDepth 100000 in
theorem those_any {gf : Nat} {lb : Array Value} (eg : ∀ args w, (callFunc gf args).run Try.prog w = .ok (.enter gf args) w) {ao : Option Addr} {n cap : Nat} {z : Nat → Int} {p : Int → Bool} {w : World} (hs : SlZ ao n z w) (hn : n ≤ 100000)
    (hp : ∀ wx, Below w.heap.size w wx → ∀ j, j < n → Calls Try.prog gf (#[.int .i64 (z j)] ++ lb) wx fun e w' => e = .returned (.bool (p (z j))) ∧ w' = wx) :
    Calls Try.prog 37 #[.slice ao n cap, .func (.func gf) #[] lb] w fun e w' => ∃ v, e = .returned v ∧ OwnI w.heap.size v (selZ p z n) w' ∧ Below w.heap.size w w' := by
  have HS : Hid (SlZ ao n z w ∧ ∀ wx, Below w.heap.size w wx → ∀ j, j < n → Calls Try.prog gf (#[.int .i64 (z j)] ++ lb) wx fun e w' => e = .returned (.bool (p (z j))) ∧ w' = wx) := ⟨hs, hp⟩
  clear hs hp
  go_enter Try.func37, Try.ntmps37
  go_wp2
  go_loopw [5, 10] (fun vo vi wx => ∃ i : Nat, i ≤ n ∧ vi = .int .i64 (i : Nat) ∧ Hid (OwnI w.heap.size vo (selZ p z i) wx ∧ Below w.heap.size w wx)) (fun _ vi _ => n - (intOf vi).toNat)
  case atStart => exact ⟨0, by omega, rfl, OwnI.nil _ _, Below.refl _ _⟩
  case round =>
    obtain ⟨i, hi, rfl, HI⟩ := hrel
    rename World => wr
    by_cases hlt : i < n
    · have hib : (i : Int) < (n : Int) := by omega
      have hib0 : (0 : Int) ≤ (i : Int) := by omega
      obtain ⟨b, off, rfl, hc⟩ := (slz_below HS.out.1 HI.out.2) i hlt
      obtain ⟨x, hx⟩ : ∃ x, x = z i := ⟨_, rfl⟩
      rw [← hx] at hc
      obtain ⟨pb, hpb⟩ : ∃ pb, pb = p x := ⟨_, rfl⟩
      have hcall : Calls Try.prog gf (#[.int .i64 x] ++ lb) wr fun e w' => e = .returned (.bool pb) ∧ w' = wr := by
        rw [hpb, hx]; exact HS.out.2 wr HI.out.2 i hlt
      have HP : Hid (pb = p (z i) ∧ x = z i) := ⟨by rw [hpb, hx], hx⟩
      have hsr := HI.out.2.size
      clear hx hpb
      cases pb with
      | false =>
        have HV : Hid (selZ p z (i + 1) = selZ p z i) := if_neg (by rw [← HP.out.1]; intro h; cases h)
        go_wp2_with (go_at_fn gf; refine hcall.mono ?_; rintro e w' ⟨rfl, hw⟩; have hw := hw.symm; subst hw)
        go_roundw
        case rel => exact ⟨i + 1, by omega, by go_num, by rw [HV.out]; exact HI.out.1, HI.out.2⟩
        case measure => simp [intOf]; omega
      | true =>
        have HV : Hid (selZ p z (i + 1) = selZ p z i ++ [x]) := by
          show _ = _
          rw [HP.out.2]; exact if_pos HP.out.1.symm
        have hle := selZ_len p z i
        go_wp2_with (first
          | (go_at_fn gf; refine hcall.mono ?_; rintro e w' ⟨rfl, hw⟩; have hw := hw.symm; subst hw)
          | (at_builtin; refine append_int rfl _ _ rfl w.heap.size _ (selZ p z i) rfl (HI.out.1.alloc _) ⟨_, 0, none⟩ 1 x rfl (by simp) (by omega) (by simp; omega) ?_; intro v5 w5 hown5 hgrow5))
        have HR : Hid (OwnI w.heap.size v5 (selZ p z (i + 1)) w5 ∧ Below w.heap.size w w5) := ⟨by rw [HV.out]; exact hown5, (HI.out.2.alloc hsr _).grown hgrow5 (by simp; omega) (fun b hb => (HI.out.1.lt b hb).1)⟩
        clear hown5 hgrow5
        go_roundw
        case rel => exact ⟨i + 1, by omega, by go_num, HR.out⟩
        case measure => simp [intOf]; omega
    · have hib : ¬ (i : Int) < (n : Int) := by omega
      have hie : n = i := by omega
      subst hie
      go_wp2
      go_ret
      exact ⟨_, rfl, HI.out⟩
theorem own_form {base : Nat} {v : Value} {l : List Int} {w : World} (h : OwnI base v l w) : ∃ ao cap, v = .slice ao l.length cap := by
  rcases h.2 with ⟨h1, h2⟩ | ⟨g, cap, cur, hv, _⟩
  · exact ⟨none, 0, by rw [h1, h2]⟩
  · exact ⟨_, cap, hv⟩
theorem enters_sum1 : ∀ args w, (callFunc 60 args).run Try.prog w = .ok (.enter 60 args) w :=
  enters_of Try.func60 (by kernel_rfl) rfl
theorem enters_fill1 : ∀ args w, (callFunc 46 args).run Try.prog w = .ok (.enter 46 args) w :=
  enters_of Try.func46 (by kernel_rfl) rfl
set_option maxHeartbeats 2000000 in
theorem sum1_any {B : Nat} {wo : Option Addr} {n cw : Nat} {y : Nat → Int} {w : World} (hc : w.cell? ⟨B, 0, none⟩ = some (.slice wo n cw)) (hy : SlZ wo n y w) (x : Int) (h0 : 0 ≤ x) (h1 : x < (n : Int)) :
    Calls Try.prog 60 #[.int .i64 x, .pointer (some ⟨B, 0, none⟩)] w fun e w' => e = .returned (.bool (decide (y x.toNat = 1))) ∧ w' = w := by
  obtain ⟨j, rfl⟩ : ∃ j : Nat, x = (j : Int) := ⟨x.toNat, by omega⟩
  obtain ⟨b, off, rfl, hcx⟩ := hy j (by omega)
  obtain ⟨v, hv⟩ : ∃ v, v = y j := ⟨_, rfl⟩
  rw [← hv] at hcx
  have e : decide (y ((j : Nat) : Int).toNat = 1) = (v == 1) := by
    rw [Int.toNat_natCast, ← hv]
    by_cases h : v = 1
    · rw [h]; rfl
    · rw [decide_eq_false h, beq_eq_false_iff_ne.2 h]
  rw [e]
  clear hv hy e
  go_enter Try.func60, Try.ntmps60
  go_wp2
  go_ret
  exact ⟨rfl, rfl⟩
set_option maxHeartbeats 2000000 in
theorem fill1_any {B : Nat} {wo : Option Addr} {n cw : Nat} {y : Nat → Int} {w : World} (hc : w.cell? ⟨B, 0, none⟩ = some (.slice wo n cw)) (hy : SlZ wo n y w) (x : Int) (h0 : 0 ≤ x) (h1 : x < (n : Int)) :
    Calls Try.prog 46 #[.int .i64 x, .pointer (some ⟨B, 0, none⟩)] w fun e w' => e = .returned (.bool (decide (y x.toNat = -1))) ∧ w' = w := by
  obtain ⟨j, rfl⟩ : ∃ j : Nat, x = (j : Int) := ⟨x.toNat, by omega⟩
  obtain ⟨b, off, rfl, hcx⟩ := hy j (by omega)
  obtain ⟨v, hv⟩ : ∃ v, v = y j := ⟨_, rfl⟩
  rw [← hv] at hcx
  have e : decide (y ((j : Nat) : Int).toNat = -1) = (v == -1) := by
    rw [Int.toNat_natCast, ← hv]
    by_cases h : v = -1
    · rw [h]; rfl
    · rw [decide_eq_false h, beq_eq_false_iff_ne.2 h]
  rw [e]
  clear hv hy e
  go_enter Try.func46, Try.ntmps46
  go_wp2
  go_ret
  exact ⟨rfl, rfl⟩
set_option maxHeartbeats 4000000 in
set_option maxRecDepth 100000 in
theorem ssum_any {ao wo : Option Addr} {l ca n cw : Nat} {z y : Nat → Int} {w : World} (hz : SlZ ao l z w) (hy : SlZ wo n y w) (hl : l ≤ 100000) (hr : ∀ j, j < l → 0 ≤ z j ∧ z j < (n : Int)) :
    Calls Try.prog 47 #[.slice ao l ca, .slice wo n cw] w fun e w' => e = .returned (.int .i64 (par y z l : Nat)) ∧ Below w.heap.size w w' := by
  obtain ⟨w0, hw0⟩ : ∃ w0, w0 = w.alloc (.cells #[.slice wo n cw] 23) := ⟨_, rfl⟩
  have hb0 : Below w.heap.size w w0 := by rw [hw0]; exact (Below.refl _ _).alloc (Nat.le_refl _) _
  have hc0 : w0.cell? ⟨w.heap.size, 0, none⟩ = some (.slice wo n cw) := by rw [hw0, cell_of_row _ _ _ _ _ (0, 0) (two_new _)]; rfl
  obtain ⟨L, hL⟩ : ∃ L, L = selZ (fun x => decide (y x.toNat = 1)) z l := ⟨_, rfl⟩
  have HT : Hid (Calls Try.prog 37 #[.slice ao l ca, .func (.func 60) #[] #[.pointer (some ⟨w.heap.size, 0, none⟩)]] w0 fun e w' => ∃ v, e = .returned v ∧ OwnI w0.heap.size v L w' ∧ Below w0.heap.size w0 w') := by
    rw [hL]
    refine those_any enters_sum1 (slz_below hz hb0) hl (fun wx hb j hj => ?_)
    have e : (#[Value.int .i64 (z j)] ++ #[Value.pointer (some ⟨w.heap.size, 0, none⟩)] : Array Value) = #[.int .i64 (z j), .pointer (some ⟨w.heap.size, 0, none⟩)] := rfl
    rw [e]
    exact sum1_any (((bcell hb).1 w.heap.size 0 (by rw [hw0]; simp)).trans hc0) (slz_below (slz_below hy hb0) hb) (z j) (hr j hj).1 (hr j hj).2
  obtain ⟨k, hk⟩ : ∃ k, k = L.length := ⟨_, rfl⟩
  have hkl : k ≤ 100000 := by rw [hk, hL]; have := selZ_len (fun x => decide (y x.toNat = 1)) z l; omega
  obtain ⟨r, hr2⟩ : ∃ r, r = k % 2 := ⟨_, rfl⟩
  have hm : (k : Int).tmod 2 = (r : Int) := by rw [Int.tmod_eq_emod_of_nonneg (by omega)]; omega
  have HR : Hid (par y z l = r ∧ L.length = k ∧ Below w.heap.size w w0) := ⟨by unfold par; rw [hr2, hk, hL], hk.symm, hb0⟩
  clear hz hy hr hb0 hc0 hL hk hr2
  go_enter Try.func47, Try.ntmps47
  go_wp2_with fail
  rw [← hw0]
  clear hw0
  refine HT.out.mono ?_
  rintro e w1 ⟨v, rfl, hv, hb1⟩
  obtain ⟨vo, vc, hvv⟩ := own_form hv
  rw [HR.out.2.1] at hvv
  subst hvv
  have HB : Hid (Below w.heap.size w w1) := bel_up' HR.out.2.2 hb1
  clear hv hb1
  go_wp2
  go_ret
  exact ⟨by (first | (rw [HR.out.1]; rfl) | rw [HR.out.1]), HB.out⟩
end Go.Proofs.Ythcgmdapgphmiaa

/- Words of bits (package bit); slices.Equal; slices.Max. -/
namespace Go.Proofs.Ythcgmdapgphmiaa
open Go.RowKit Go.Sort

def allP (p : Int → Bool) (z : Nat → Int) : Nat → Bool
  | 0 => true
  | n + 1 => allP p z n && p (z n)
theorem allP_no {p : Int → Bool} {z : Nat → Int} {i : Nat} (h : p (z i) = false) : ∀ n, i < n → allP p z n = false
  | 0, hi => absurd hi (by omega)
  | n + 1, hi => by
    show (allP p z n && p (z n)) = false
    by_cases e : i = n
    · rw [← e, h, Bool.and_false]
    · rw [allP_no h n (by omega), Bool.false_and]
theorem allP_iff {p : Int → Bool} {z : Nat → Int} : ∀ n, allP p z n = true → ∀ j, j < n → p (z j) = true
  | 0, _, j, hj => absurd hj (by omega)
  | n + 1, h, j, hj => by
    have h : (allP p z n && p (z n)) = true := h
    rw [Bool.and_eq_true] at h
    by_cases e : j = n
    · rw [e]; exact h.2
    · exact allP_iff n h.1 j (by omega)
set_option maxHeartbeats 4000000 in
set_option maxRecDepth 100000 in
theorem ball_any {gf : Nat} (eg : ∀ args w, (callFunc gf args).run Try.prog w = .ok (.enter gf args) w) {ao : Option Addr} {n cap : Nat} {z : Nat → Int} {p : Int → Bool} {w : World} (hs : SlZ ao n z w) (hn : n ≤ 1000000)
    (hp : ∀ x, Calls Try.prog gf (#[.int .i64 x] ++ #[]) w fun e w' => e = .returned (.bool (p x)) ∧ w' = w) :
    Calls Try.prog 59 #[.slice ao n cap, .func (.func gf) #[] #[]] w fun e w' => e = .returned (.bool (allP p z n)) ∧ w' = w := by
  obtain ⟨R, hR⟩ : ∃ R, R = allP p z n := ⟨_, rfl⟩
  have HS : Hid (SlZ ao n z w ∧ (∀ x, Calls Try.prog gf (#[.int .i64 x] ++ #[]) w fun e w' => e = .returned (.bool (p x)) ∧ w' = w) ∧ R = allP p z n) := ⟨hs, hp, hR⟩
  rw [← hR]
  clear hs hp hR
  go_enter Try.func59, Try.ntmps59
  go_wp2
  go_loopw [9] (fun vi wx => ∃ i : Nat, i ≤ n ∧ vi = .int .i64 (i : Nat) ∧ Hid (allP p z i = true) ∧ wx = w) (fun vi _ => n - (intOf vi).toNat)
  case atStart => exact ⟨0, by omega, rfl, rfl, rfl⟩
  case round =>
    obtain ⟨i, hi, rfl, HI, hwx⟩ := hrel
    have hwx := hwx.symm
    subst hwx
    by_cases hlt : i < n
    · have hib : (i : Int) < (n : Int) := by omega
      have hib0 : (0 : Int) ≤ (i : Int) := by omega
      obtain ⟨b, off, rfl, hc⟩ := HS.out.1 i hlt
      obtain ⟨x, hx⟩ : ∃ x, x = z i := ⟨_, rfl⟩
      rw [← hx] at hc
      obtain ⟨pb, hpb⟩ : ∃ pb, pb = p x := ⟨_, rfl⟩
      have hcall : Calls Try.prog gf (#[.int .i64 x] ++ #[]) w fun e w' => e = .returned (.bool pb) ∧ w' = w := by
        rw [hpb]; exact HS.out.2.1 x
      have HP : Hid (pb = p (z i)) := by show _ = _; rw [hpb, hx]
      clear hx hpb
      cases pb with
      | false =>
        have HV : Hid (R = false) := by show _ = _; rw [HS.out.2.2]; exact allP_no HP.out.symm n hlt
        go_wp2_with (go_at_fn gf; refine hcall.mono ?_; rintro e w' ⟨rfl, hw⟩; have hw := hw.symm; subst hw)
        go_ret
        exact ⟨by (first | (rw [HV.out]; rfl) | rw [HV.out]), rfl⟩
      | true =>
        have HV : Hid (allP p z (i + 1) = true) := by
          show (allP p z i && p (z i)) = true
          rw [HI.out, ← HP.out]; rfl
        go_wp2_with (go_at_fn gf; refine hcall.mono ?_; rintro e w' ⟨rfl, hw⟩; have hw := hw.symm; subst hw)
        go_roundw
        case rel => exact ⟨i + 1, by omega, by go_num, HV.out, by first | rfl | trivial⟩
        case measure => simp [intOf]; omega
    · have hib : ¬ (i : Int) < (n : Int) := by omega
      have HV : Hid (R = true) := by show _ = _; rw [HS.out.2.2, show n = i by omega]; exact HI.out
      go_wp2
      go_ret
      exact ⟨by (first | (rw [HV.out]; rfl) | rw [HV.out]), rfl⟩
def isbt (x : Int) : Bool := decide (x = 0 ∨ x = 1)
def isht (x : Int) : Bool := decide (x = -1 ∨ x = 0 ∨ x = 1)
set_option maxHeartbeats 2000000 in
theorem isBit_any (x : Int) (w : World) : Calls Try.prog 45 #[.int .i64 x] w fun e w' => e = .returned (.bool (isbt x)) ∧ w' = w := by
  by_cases h0 : x = 0
  · have HV : Hid (isbt x = true) := decide_eq_true (Or.inl h0)
    have hz : (x == 0) = true := by rw [h0]; rfl
    clear h0
    go_enter Try.func45, Try.ntmps45
    go_wp2
    go_ret
    exact ⟨by (first | (rw [HV.out]; rfl) | rw [HV.out]), rfl⟩
  · have hz : (x == 0) = false := beq_eq_false_iff_ne.2 h0
    by_cases h1 : x = 1
    · have HV : Hid (isbt x = true) := decide_eq_true (Or.inr h1)
      have hz1 : (x == 1) = true := by rw [h1]; rfl
      clear h0 h1
      go_enter Try.func45, Try.ntmps45
      go_wp2
      go_ret
      exact ⟨by (first | (rw [HV.out]; rfl) | rw [HV.out]), rfl⟩
    · have HV : Hid (isbt x = false) := decide_eq_false (by omega)
      have hz1 : (x == 1) = false := beq_eq_false_iff_ne.2 h1
      clear h0 h1
      go_enter Try.func45, Try.ntmps45
      go_wp2
      go_ret
      exact ⟨by (first | (rw [HV.out]; rfl) | rw [HV.out]), rfl⟩
theorem isht_is (x : Int) : isht x = (decide (x = -1) || isbt x) := by
  unfold isht isbt
  rw [← Bool.decide_or]
set_option maxHeartbeats 2000000 in
theorem heard1_any (x : Int) (w : World) : Calls Try.prog 44 #[.int .i64 x] w fun e w' => e = .returned (.bool (isht x)) ∧ w' = w := by
  obtain ⟨bb, hbb⟩ : ∃ bb, bb = isbt x := ⟨_, rfl⟩
  have HC : Hid (Calls Try.prog 45 #[.int .i64 x] w fun e w' => e = .returned (.bool bb) ∧ w' = w) := by rw [hbb]; exact isBit_any x w
  by_cases h0 : x = -1
  · have HV : Hid (isht x = true) := decide_eq_true (Or.inl h0)
    have hz : (x == -1) = true := by rw [h0]; rfl
    clear h0 hbb
    go_enter Try.func44, Try.ntmps44
    go_wp2
    go_ret
    exact ⟨by (first | (rw [HV.out]; rfl) | rw [HV.out]), rfl⟩
  · have HV : Hid (isht x = bb) := by show _ = _; rw [isht_is, decide_eq_false h0, Bool.false_or, hbb]
    have hz : (x == -1) = false := beq_eq_false_iff_ne.2 h0
    clear h0 hbb
    go_enter Try.func44, Try.ntmps44
    go_wp2_with (go_at_call 45; refine HC.out.mono ?_; rintro e w' ⟨rfl, hw⟩; have hw := hw.symm; subst hw)
    go_ret
    exact ⟨by (first | (rw [HV.out]; rfl) | rw [HV.out]), rfl⟩
theorem enters_isbit : ∀ args w, (callFunc 45 args).run Try.prog w = .ok (.enter 45 args) w :=
  enters_of Try.func45 (by kernel_rfl) rfl
theorem enters_heard1 : ∀ args w, (callFunc 44 args).run Try.prog w = .ok (.enter 44 args) w :=
  enters_of Try.func44 (by kernel_rfl) rfl
/-- What is said of a word. -/
def bchk (p : Int → Bool) (l : Nat) (z : Nat → Int) (n : Int) : Int := if (l : Int) ≠ n then 6 else if allP p z l = true then 0 else 2
set_option maxHeartbeats 2000000 in
theorem bcheck_any {gf : Nat} (eg : ∀ args w, (callFunc gf args).run Try.prog w = .ok (.enter gf args) w) {ao : Option Addr} {l cap : Nat} {z : Nat → Int} {p : Int → Bool} {w : World} (n : Int) (hs : SlZ ao l z w) (hn : l ≤ 1000000)
    (hp : ∀ x, Calls Try.prog gf (#[.int .i64 x] ++ #[]) w fun e w' => e = .returned (.bool (p x)) ∧ w' = w) :
    Calls Try.prog 43 #[.slice ao l cap, .int .i64 n, .func (.func gf) #[] #[]] w fun e w' => e = .returned (.int .i64 (bchk p l z n)) ∧ w' = w := by
  obtain ⟨R, hR⟩ : ∃ R, R = allP p z l := ⟨_, rfl⟩
  have HC : Hid (Calls Try.prog 59 #[.slice ao l cap, .func (.func gf) #[] #[]] w fun e w' => e = .returned (.bool R) ∧ w' = w) := by rw [hR]; exact ball_any eg hs hn hp
  clear hs hp
  by_cases h0 : (l : Int) = n
  · have hz : ((l : Int) != n) = false := by rw [h0]; simp
    cases R with
    | true =>
      have HV : Hid (bchk p l z n = 0) := by show _ = _; unfold bchk; rw [if_neg (fun x => x h0), ← hR, if_pos rfl]
      clear h0 hR
      go_enter Try.func43, Try.ntmps43
      go_wp2_with (go_at_call 59; refine HC.out.mono ?_; rintro e w' ⟨rfl, hw⟩; have hw := hw.symm; subst hw)
      go_ret
      exact ⟨by (first | (rw [HV.out]; rfl) | rw [HV.out]), rfl⟩
    | false =>
      have HV : Hid (bchk p l z n = 2) := by show _ = _; unfold bchk; rw [if_neg (fun x => x h0), ← hR, if_neg (by intro h; cases h)]
      clear h0 hR
      go_enter Try.func43, Try.ntmps43
      go_wp2_with (go_at_call 59; refine HC.out.mono ?_; rintro e w' ⟨rfl, hw⟩; have hw := hw.symm; subst hw)
      go_ret
      exact ⟨by (first | (rw [HV.out]; rfl) | rw [HV.out]), rfl⟩
  · have hz : ((l : Int) != n) = true := bne_iff_ne.2 h0
    have HV : Hid (bchk p l z n = 6) := by show _ = _; unfold bchk; rw [if_pos h0]
    clear h0 hR
    go_enter Try.func43, Try.ntmps43
    go_wp2
    go_ret
    exact ⟨by (first | (rw [HV.out]; rfl) | rw [HV.out]), rfl⟩
set_option maxHeartbeats 2000000 in
theorem bCheck_any {ao : Option Addr} {l cap : Nat} {z : Nat → Int} {w : World} (n : Int) (hs : SlZ ao l z w) (hn : l ≤ 1000000) :
    Calls Try.prog 33 #[.slice ao l cap, .int .i64 n] w fun e w' => e = .returned (.int .i64 (bchk isbt l z n)) ∧ w' = w := by
  have HC : Hid (Calls Try.prog 43 #[.slice ao l cap, .int .i64 n, .func (.func 45) #[] #[]] w fun e w' => e = .returned (.int .i64 (bchk isbt l z n)) ∧ w' = w) := bcheck_any enters_isbit n hs hn (fun x => isBit_any x w)
  obtain ⟨E, hE⟩ : ∃ E, E = bchk isbt l z n := ⟨_, rfl⟩
  rw [← hE] at HC ⊢
  clear hs hE
  go_enter Try.func33, Try.ntmps33
  go_wp2_with (go_at_call 43; refine HC.out.mono ?_; rintro e w' ⟨rfl, hw⟩; have hw := hw.symm; subst hw)
  go_ret
  exact ⟨rfl, rfl⟩
set_option maxHeartbeats 2000000 in
theorem bHeard_any {ao : Option Addr} {l cap : Nat} {z : Nat → Int} {w : World} (n : Int) (hs : SlZ ao l z w) (hn : l ≤ 1000000) :
    Calls Try.prog 28 #[.slice ao l cap, .int .i64 n] w fun e w' => e = .returned (.int .i64 (bchk isht l z n)) ∧ w' = w := by
  have HC : Hid (Calls Try.prog 43 #[.slice ao l cap, .int .i64 n, .func (.func 44) #[] #[]] w fun e w' => e = .returned (.int .i64 (bchk isht l z n)) ∧ w' = w) := bcheck_any enters_heard1 n hs hn (fun x => heard1_any x w)
  obtain ⟨E, hE⟩ : ∃ E, E = bchk isht l z n := ⟨_, rfl⟩
  rw [← hE] at HC ⊢
  clear hs hE
  go_enter Try.func28, Try.ntmps28
  go_wp2_with (go_at_call 43; refine HC.out.mono ?_; rintro e w' ⟨rfl, hw⟩; have hw := hw.symm; subst hw)
  go_ret
  exact ⟨rfl, rfl⟩
/-- Are the first numbers of two lists the same? -/
def eqN (a b : Nat → Int) : Nat → Bool
  | 0 => true
  | n + 1 => eqN a b n && decide (a n = b n)
theorem eqN_no {a b : Nat → Int} {i : Nat} (h : a i ≠ b i) : ∀ n, i < n → eqN a b n = false
  | 0, hi => absurd hi (by omega)
  | n + 1, hi => by
    show (eqN a b n && decide (a n = b n)) = false
    by_cases e : i = n
    · rw [← e, decide_eq_false h, Bool.and_false]
    · rw [eqN_no h n (by omega), Bool.false_and]
theorem eqN_iff {a b : Nat → Int} : ∀ n, eqN a b n = true ↔ ∀ j, j < n → a j = b j
  | 0 => ⟨fun _ j hj => absurd hj (by omega), fun _ => rfl⟩
  | n + 1 => by
    show (eqN a b n && decide (a n = b n)) = true ↔ _
    rw [Bool.and_eq_true, eqN_iff n, decide_eq_true_eq]
    constructor
    · rintro ⟨h1, h2⟩ j hj
      by_cases e : j = n
      · rw [e]; exact h2
      · exact h1 j (by omega)
    · intro h
      exact ⟨fun j hj => h j (by omega), h n (by omega)⟩
set_option maxHeartbeats 4000000 in
set_option maxRecDepth 100000 in
theorem sequal_any {ao bo : Option Addr} {n ca cb : Nat} {a b : Nat → Int} {w : World} (ha : SlZ ao n a w) (hb : SlZ bo n b w) (hn : n ≤ 1000000) :
    Calls Try.prog 31 #[.slice ao n ca, .slice bo n cb] w fun e w' => e = .returned (.bool (eqN a b n)) ∧ ∃ d, w' = w.drewN d := by
  obtain ⟨R, hR⟩ : ∃ R, R = eqN a b n := ⟨_, rfl⟩
  have HS : Hid (SlZ ao n a w ∧ SlZ bo n b w ∧ R = eqN a b n) := ⟨ha, hb, hR⟩
  have hnn : ((n : Int) != (n : Int)) = false := by simp
  rw [← hR]
  clear ha hb hR
  go_enter Try.func31, Try.ntmps31
  go_wp2
  go_loopw [13] (fun vi wx => ∃ i : Nat, i ≤ n ∧ vi = .int .i64 (i : Nat) ∧ Hid (eqN a b i = true) ∧ ∃ d, wx = w.drewN d) (fun vi _ => n - (intOf vi).toNat)
  case atStart => exact ⟨0, by omega, rfl, rfl, 0, rfl⟩
  case round =>
    obtain ⟨i, hi, rfl, HI, d, hwx⟩ := hrel
    subst hwx
    by_cases hlt : i < n
    · have hib : (i : Int) < (n : Int) := by omega
      have hib0 : (0 : Int) ≤ (i : Int) := by omega
      obtain ⟨b1, o1, rfl, hc1⟩ := HS.out.1 i hlt
      obtain ⟨b2, o2, rfl, hc2⟩ := HS.out.2.1 i hlt
      obtain ⟨x, hx⟩ : ∃ x, x = a i := ⟨_, rfl⟩
      obtain ⟨y, hy⟩ : ∃ y, y = b i := ⟨_, rfl⟩
      replace hc1 : w.cell? ⟨b1, o1 + i, none⟩ = some (.int .i64 x) := by rw [hx]; exact hc1
      replace hc2 : w.cell? ⟨b2, o2 + i, none⟩ = some (.int .i64 y) := by rw [hy]; exact hc2
      by_cases hxy : x = y
      · have hz : (x != y) = false := by rw [hxy]; simp
        have HV : Hid (eqN a b (i + 1) = true) := by
          show (eqN a b i && decide (a i = b i)) = true
          rw [HI.out, ← hx, ← hy, decide_eq_true hxy]; rfl
        clear hx hy hxy
        go_wp2
        go_quiet (fail)
        go_wp2
        go_roundw
        case rel => exact ⟨i + 1, by omega, by go_num, HV.out, _, by first | rfl | exact World.drewN_drewN _ _ _⟩
        case measure => simp [intOf]; omega
      · have hz : (x != y) = true := bne_iff_ne.2 hxy
        have HV : Hid (R = false) := by show _ = _; rw [HS.out.2.2]; exact eqN_no (by rw [← hx, ← hy]; exact hxy) n hlt
        clear hx hy hxy
        go_wp2
        go_quiet (fail)
        go_wp2
        go_ret
        exact ⟨by (first | (rw [HV.out]; rfl) | rw [HV.out]), _, by first | rfl | exact World.drewN_drewN _ _ _⟩
    · have hib : ¬ (i : Int) < (n : Int) := by omega
      have HV : Hid (R = true) := by show _ = _; rw [HS.out.2.2, show n = i by omega]; exact HI.out
      go_wp2
      go_ret
      exact ⟨by (first | (rw [HV.out]; rfl) | rw [HV.out]), d, rfl⟩
end Go.Proofs.Ythcgmdapgphmiaa

/- Codes of few checks: the reference's ChecksMay and Bits. -/
namespace Go.Proofs.Ythcgmdapgphmiaa
open Go.RowKit Go.Sort

end Go.Proofs.Ythcgmdapgphmiaa
