/- Gray's lists: the program's Place. -/
import Derived.Test.YthkjaiihlphgfabZKH2
namespace Go.Proofs.Ythkjaiihlphgfab
open Go.RowKit Go.Sort

/-- Are all values values of their places? -/
def plOk (z y : Nat → Int) : Nat → Bool
  | 0 => true
  | i + 1 => plOk z y i && decide (0 ≤ y i ∧ y i < z i)
theorem plOk_at {z y : Nat → Int} : ∀ n, plOk z y n = true → ∀ j, j < n → 0 ≤ y j ∧ y j < z j
  | 0, _, j, hj => absurd hj (by omega)
  | n + 1, h, j, hj => by
    have h : (plOk z y n && decide (0 ≤ y n ∧ y n < z n)) = true := h
    rw [Bool.and_eq_true] at h
    by_cases e : j = n
    · subst e; exact of_decide_eq_true h.2
    · exact plOk_at n h.1 j (by omega)
theorem plOk_no {z y : Nat → Int} {i : Nat} (h : ¬ (0 ≤ y i ∧ y i < z i)) : ∀ n, i < n → plOk z y n = false
  | 0, hi => absurd hi (by omega)
  | n + 1, hi => by
    show (plOk z y n && decide (0 ≤ y n ∧ y n < z n)) = false
    by_cases e : i = n
    · subst e; rw [decide_eq_false h, Bool.and_false]
    · rw [plOk_no h n (by omega), Bool.false_and]
theorem plOk_yes {z y : Nat → Int} {i : Nat} (h0 : plOk z y i = true) (h : 0 ≤ y i ∧ y i < z i) : plOk z y (i + 1) = true := by
  show (plOk z y i && decide (0 ≤ y i ∧ y i < z i)) = true
  rw [h0, decide_eq_true h]; rfl
/-- What is said of a list. -/
def pchkG (n ln : Nat) (z y : Nat → Int) : Int := if gchk n z ≠ 0 then gchk n z else if ln ≠ n then 6 else if plOk z y n = true then 0 else 2
/-- The number ahead. -/
def preI : Nat → Int
  | 0 => -1
  | c + 1 => (c : Int)
theorem plc_step (n c : Nat) (hc : c < n) (b l : Nat → Nat) : plc (n - c) (drp c b) (drp c l) = l c * prd (n - (c + 1)) (drp (c + 1) b) + bhd (l c) (plc (n - (c + 1)) (drp (c + 1) b) (drp (c + 1) l)) (prd (n - (c + 1)) (drp (c + 1) b)) := by
  rw [show n - c = (n - (c + 1)) + 1 by omega]
  show drp c l 0 * prd (n - (c + 1)) (shf (drp c b)) + bhd (drp c l 0) (plc (n - (c + 1)) (shf (drp c b)) (shf (drp c l))) (prd (n - (c + 1)) (shf (drp c b))) = _
  rw [shf_drp, shf_drp]; rfl

set_option maxHeartbeats 8000000 in
set_option maxRecDepth 100000 in
theorem place_any {ao lo : Option Addr} {n ca ln lc : Nat} {z y : Nat → Int} {w : World} (hS : SlZ ao n z w) (hY : SlZ lo ln y w) (hn : n ≤ 1000000) (hln : ln ≤ 1000000) :
    Calls Try.prog 17 #[.slice ao n ca, .slice lo ln lc] w fun e w' => e = .returned (.tuple #[.int .i64 ((if pchkG n ln z y = 0 then plc n (szB z) (szB y) else 0 : Nat) : Int), .int .i64 (pchkG n ln z y)]) ∧ ∃ d, w' = w.drewN d := by
  obtain ⟨E0, hE0⟩ : ∃ E0, E0 = gchk n z := ⟨_, rfl⟩
  obtain ⟨E, hE⟩ : ∃ E, E = pchkG n ln z y := ⟨_, rfl⟩
  obtain ⟨A, hA⟩ : ∃ A : Nat, A = if E = 0 then plc n (szB z) (szB y) else 0 := ⟨_, rfl⟩
  rw [← hE, ← hA]
  have hun : E = if E0 ≠ 0 then E0 else if ln ≠ n then 6 else if plOk z y n = true then 0 else 2 := by rw [hE, hE0]; rfl
  have HC : Hid (Calls Try.prog 28 #[.slice ao n ca] w fun e w' => e = .returned (.int .i64 E0) ∧ w' = w) := by rw [hE0]; exact dcheck_any hS hn
  by_cases h0 : E0 = 0
  · have z0 : (E0 != 0) = false := by rw [h0]; rfl
    have hg := gchk_ok (hE0.symm.trans h0)
    rw [if_neg (fun x => x h0)] at hun
    by_cases hl : ln = n
    · rw [if_neg (fun x => x hl)] at hun
      have zl0 : ((n : Int) != (n : Int)) = false := by simp
      subst hl
      have HF : Hid (SlZ ao ln z w ∧ SlZ lo ln y w ∧ szOk z ln = true ∧ prd ln (szB z) ≤ 1024 ∧ E = (if plOk z y ln = true then 0 else 2) ∧ A = if E = 0 then plc ln (szB z) (szB y) else 0) := ⟨hS, hY, hg.2.2.1, hg.2.2.2, hun, hA⟩
      have hn10 : ln ≤ 10 := hg.2.1
      clear h0 hE0 hE hS hY hg hun hA
      go_enter Try.func17, Try.ntmps17
      go_wp2_with fail
      refine HC.out.mono ?_
      rintro e w' ⟨rfl, hw⟩
      have hw := hw.symm
      subst hw
      go_wp2
      go_loopw [24] (fun vi wr => ∃ (r : Nat), r ≤ ln ∧ vi = .int .i64 (r : Nat) ∧ Hid (plOk z y r = true ∧ ∃ d, wr = w.drewN d)) (fun vi _ => ln - (intOf vi).toNat)
      case atStart => exact ⟨0, by omega, rfl, rfl, 0, rfl⟩
      case round =>
        obtain ⟨r, hr, rfl, HG⟩ := hrel
        rename World => wr
        have hbr : Below w.heap.size w wr := by obtain ⟨d, h⟩ := HG.out.2; rw [h]; exact below_drewN2 (Below.refl _ _) d
        by_cases hlt : r < ln
        · have hib : (r : Int) < (ln : Int) := by omega
          have hib0 : (0 : Int) ≤ (r : Int) := by omega
          obtain ⟨ba, oa, hao, hca⟩ := (slz_below HF.out.1 hbr) r hlt
          obtain ⟨bl, ol, hlo, hcl⟩ := (slz_below HF.out.2.1 hbr) r hlt
          subst hao
          subst hlo
          obtain ⟨x, hx⟩ : ∃ x, x = z r := ⟨_, rfl⟩
          obtain ⟨v, hv⟩ : ∃ v, v = y r := ⟨_, rfl⟩
          rw [← hx] at hca
          rw [← hv] at hcl
          by_cases e0 : 0 ≤ v ∧ v < x
          · have HV : Hid (plOk z y (r + 1) = true) := plOk_yes HG.out.1 (by rw [← hx, ← hv]; exact e0)
            have e1 : ¬ v < 0 := by omega
            have e2 : ¬ x ≤ v := by omega
            clear hx hv e0 hbr
            go_wp2
            go_roundw
            case rel => exact ⟨r + 1, by omega, by go_num, HV.out, HG.out.2⟩
            case measure => simp [intOf]; omega
          · have h2 : E = 2 := by rw [HF.out.2.2.2.2.1, plOk_no (i := r) (by rw [← hx, ← hv]; exact e0) ln hlt]; rfl
            have HV : Hid (E = 2 ∧ A = 0) := ⟨h2, by rw [HF.out.2.2.2.2.2, h2]; rfl⟩
            by_cases e1 : v < 0
            · clear hx hv e0 hbr h2
              go_wp2
              go_ret2
              exact ⟨by rw [HV.out.1, HV.out.2]; rfl, HG.out.2⟩
            · have e2 : x ≤ v := by omega
              clear hx hv e0 hbr h2
              go_wp2
              go_ret2
              exact ⟨by rw [HV.out.1, HV.out.2]; rfl, HG.out.2⟩
        · have hib : ¬ (r : Int) < (ln : Int) := by omega
          have hre : ln = r := by omega
          subst hre
          have HZ : Hid (plOk z y ln = true) := HG.out.1
          have h2 : E = 0 := by rw [HF.out.2.2.2.2.1, if_pos HZ.out]
          have HV : Hid (E = 0 ∧ A = plc ln (szB z) (szB y)) := ⟨h2, by rw [HF.out.2.2.2.2.2, if_pos h2]⟩
          obtain ⟨i0, hi0⟩ : ∃ i0, i0 = preI ln := ⟨_, rfl⟩
          have hw0 : IntKind.i64.wrap ((ln : Int) - 1) = i0 := by
            rw [hi0]
            cases ln with
            | zero => rfl
            | succ c =>
              show IntKind.i64.wrap (((c + 1 : Nat) : Int) - 1) = (c : Int)
              exact wrap_to (by omega) (by omega)
          have HI0 : Hid (i0 = preI ln) := hi0
          clear hi0 h2 hbr
          go_wp2
          go_loopw [9, 10, 11] (fun vk vm vi wx => ∃ (c k m : Nat) (i : Int), c ≤ ln ∧ vk = .int .i64 (k : Nat) ∧ vm = .int .i64 (m : Nat) ∧ vi = .int .i64 i ∧ i = preI c ∧ Hid (k = plc (ln - c) (drp c (szB z)) (drp c (szB y)) ∧ m = prd (ln - c) (drp c (szB z)) ∧ ∃ d, wx = w.drewN d)) (fun _ _ vi _ => (intOf vi + 1).toNat)
          case atStart => exact ⟨ln, 0, 1, i0, by omega, rfl, rfl, rfl, HI0.out, by rw [Nat.sub_self]; rfl, by rw [Nat.sub_self]; rfl, HG.out.2⟩
          case round =>
            obtain ⟨c1, k, m, i, hc, rfl, rfl, rfl, hi, HJ⟩ := hrel
            rename World => wx
            cases c1 with
            | zero =>
              replace hi : i = -1 := hi
              subst hi
              have hF2 : Hid (k = A) := by rw [HV.out.2]; have := HJ.out.1; rw [Nat.sub_zero, drp_zero, drp_zero] at this; exact this
              go_wp2
              go_ret2
              exact ⟨by rw [HV.out.1, hF2.out]; rfl, HJ.out.2.2⟩
            | succ c =>
              replace hi : i = (c : Int) := hi
              subst hi
              have hlt : c < ln := by omega
              have hib0 : (0 : Int) ≤ (c : Int) := by omega
              have hib : (c : Int) < (ln : Int) := by omega
              have hbx : Below w.heap.size w wx := by obtain ⟨d, h⟩ := HJ.out.2.2; rw [h]; exact below_drewN2 (Below.refl _ _) d
              have hp2 := plOk_at ln HZ.out
              have hs2 := szOk_at ln HF.out.2.2.1
              have hsb := szB_at HF.out.2.2.1
              have hyb : ∀ j, j < ln → szB y j < szB z j := fun j hj => by
                have h1 := hp2 j hj
                have h2 := hs2 j hj
                unfold szB
                omega
              obtain ⟨ba, oa, hao, hca⟩ := (slz_below HF.out.1 hbx) c hlt
              obtain ⟨bl, ol, hlo, hcl⟩ := (slz_below HF.out.2.1 hbx) c hlt
              subst hao
              subst hlo
              obtain ⟨x, hx⟩ : ∃ x, x = szB z c := ⟨_, rfl⟩
              obtain ⟨a, ha⟩ : ∃ a, a = szB y c := ⟨_, rfl⟩
              have hxz : z c = (x : Int) := by have := hs2 c hlt; rw [hx]; unfold szB; omega
              have haz : y c = (a : Int) := by have := hp2 c hlt; rw [ha]; unfold szB; omega
              rw [hxz] at hca
              rw [haz] at hcl
              have hkm : k < m := by
                rw [HJ.out.1, HJ.out.2.1]
                exact plc_lt _ _ _ (fun j hj => by have := hsb (c + 1 + j) (by omega); unfold drp; omega) (fun j hj => hyb (c + 1 + j) (by omega))
              obtain ⟨kb, hkb⟩ : ∃ kb, kb = bhd a k m := ⟨_, rfl⟩
              have hkbm : kb < m := by rw [hkb]; exact bhd_lt hkm
              obtain ⟨am, ham⟩ : ∃ am, am = a * m := ⟨_, rfl⟩
              obtain ⟨m2, hm2⟩ : ∃ m2, m2 = m * x := ⟨_, rfl⟩
              obtain ⟨k2, hk2⟩ : ∃ k2, k2 = am + kb := ⟨_, rfl⟩
              have hm2e : m2 = prd (ln - c) (drp c (szB z)) := by rw [prd_drp ln (szB z) c hlt, hm2, HJ.out.2.1, hx, Nat.mul_comm]
              have hm2b : m2 ≤ 1024 := by
                have h1 := prd_split c (ln - c) (szB z)
                rw [show c + (ln - c) = ln by omega, ← hm2e] at h1
                have h2 := HF.out.2.2.2.1
                rw [h1] at h2
                have h3 := prd_pos c (szB z) fun j hj => by have := hsb j (by omega); omega
                have h4 := Nat.le_mul_of_pos_left m2 h3
                omega
              have ha2 : a < x := by rw [ha, hx]; exact hyb c hlt
              have ham2 : am + m ≤ m2 := by
                rw [ham, hm2, Nat.mul_comm m x, show a * m + m = (a + 1) * m by rw [Nat.succ_mul]]
                exact Nat.mul_le_mul_right m ha2
              have w1 : IntKind.i64.wrap ((a : Int) * (m : Int)) = (am : Int) := wrap_to (by rw [ham]; simp) (by omega)
              have w2 : IntKind.i64.wrap ((am : Int) + (kb : Int)) = (k2 : Int) := wrap_to (by omega) (by omega)
              have w3 : IntKind.i64.wrap ((m : Int) * (x : Int)) = (m2 : Int) := wrap_to (by rw [hm2]; simp) (by omega)
              obtain ⟨i2, hi2⟩ : ∃ i2, i2 = preI c := ⟨_, rfl⟩
              have w4 : IntKind.i64.wrap ((c : Int) - 1) = i2 := by
                rw [hi2]
                cases c with
                | zero => rfl
                | succ d =>
                  show IntKind.i64.wrap (((d + 1 : Nat) : Int) - 1) = (d : Int)
                  exact wrap_to (by omega) (by omega)
              have hi2b : i2 + 1 = (c : Int) := by
                rw [hi2]
                cases c with
                | zero => rfl
                | succ d => show (d : Int) + 1 = ((d + 1 : Nat) : Int); omega
              have HB : Hid (∀ wy : World, Calls Try.prog 30 #[.int .i64 (a : Nat), .int .i64 (k : Nat), .int .i64 (m : Nat)] wy fun e w' => e = .returned (.int .i64 (kb : Nat)) ∧ w' = wy) := fun wy => by rw [hkb]; exact behind_any hkm (by omega) wy
              have HN : Hid (i2 = preI c ∧ i2 + 1 = (c : Int) ∧ k2 = plc (ln - c) (drp c (szB z)) (drp c (szB y)) ∧ m2 = prd (ln - c) (drp c (szB z)) ∧ ∀ e, ∃ d, wx.drewN e = w.drewN d) := by
                refine ⟨hi2, hi2b, ?_, hm2e, fun e => ?_⟩
                · rw [plc_step ln c hlt, ← HJ.out.1, ← HJ.out.2.1, ← ha, hk2, ham, hkb]
                · obtain ⟨d, h⟩ := HJ.out.2.2
                  rw [h]
                  exact ⟨d + e, by simp [World.drewN, Nat.add_assoc]⟩
              clear hx ha hxz haz hkb ham hm2 hk2 hm2e hi2 hi2b hp2 hs2 hsb hyb hbx
              go_wp2
              go_big_quiet ((go_at_call 30; exact Calls.quiet_of_same (HB.out _)))
              go_wp2
              go_roundw
              case rel => exact ⟨c, k2, m2, i2, by omega, by first | rfl | go_num, by first | rfl | go_num, by first | rfl | go_num, HN.out.1, HN.out.2.2.1, HN.out.2.2.2.1, HN.out.2.2.2.2 _⟩
              case measure =>
                have h1 := HN.out.2.1
                simp [intOf]
                omega
    · rw [if_pos hl] at hun
      have zl0 : ((ln : Int) != (n : Int)) = true := by rw [bne_iff_ne]; omega
      have HV : Hid (E = 6 ∧ A = 0) := ⟨hun, by rw [hA, hun]; rfl⟩
      clear h0 hE0 hE hS hY hg hun hA hl
      go_enter Try.func17, Try.ntmps17
      go_wp2_with fail
      refine HC.out.mono ?_
      rintro e w' ⟨rfl, hw⟩
      have hw := hw.symm
      subst hw
      go_wp2
      go_ret2
      exact ⟨by rw [HV.out.1, HV.out.2]; rfl, 0, rfl⟩
  · have z0 : (E0 != 0) = true := bne_iff_ne.2 h0
    rw [if_pos h0] at hun
    have HV : Hid (E = E0 ∧ A = 0) := ⟨hun, by rw [hA, if_neg (by rw [hun]; exact h0)]⟩
    clear h0 hE0 hE hS hY hun hA
    go_enter Try.func17, Try.ntmps17
    go_wp2_with fail
    refine HC.out.mono ?_
    rintro e w' ⟨rfl, hw⟩
    have hw := hw.symm
    subst hw
    go_wp2
    go_ret2
    exact ⟨by rw [HV.out.1, HV.out.2]; rfl, 0, rfl⟩
end Go.Proofs.Ythkjaiihlphgfab
