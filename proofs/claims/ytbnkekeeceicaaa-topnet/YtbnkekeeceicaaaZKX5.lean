/- Texts of ours, one behind the other: KX5 KX6. -/
import Derived.Test.YtbnkekeeceicaaaZKX2
/- Nets: two rising parts merged in their place (symMerge, whole). -/
namespace Go.Proofs.Ytbnkekeeceicaaa
open Go.RowKit Go.Sort

theorem rtd_nil1 {p : Nat → Nat} {k j : Nat} : rtd p k 0 j = p := by
  funext x
  unfold rtd
  by_cases c : k - 0 ≤ x ∧ x < k - 0 + j
  · rw [if_pos c]; rfl
  · rw [if_neg c, if_neg (by omega)]
theorem rtd_nil2 {p : Nat → Nat} {k i : Nat} : rtd p k i 0 = p := by
  funext x
  unfold rtd
  rw [if_neg (by omega)]
  by_cases c : k - i + 0 ≤ x ∧ x < k + 0
  · rw [if_pos c]; rfl
  · rw [if_neg c]
/-- What symMerge leaves, of parts that are rising. -/
def SymC (g m c base bE : Nat) (F : Nat → Nat) (W : World) (N : Nat) : Prop := ∀ (a k b : Nat) (p : Nat → Nat) (w : World), b - a < N → Row g m p w → Below base W w → (∀ x, x < m → p x < m) → a < k → k < b → b ≤ m → Sdd F p a k → Sdd F p k b → Calls Try.prog 70 #[.slice (some ⟨g, 0, none⟩) m c, .int .i64 (a : Nat), .int .i64 (k : Nat), .int .i64 (b : Nat), .func (.func 36) #[] #[.pointer (some ⟨bE, 0, none⟩)]] w (SrtP g m base a b F p W)

set_option maxHeartbeats 16000000 in
set_option maxRecDepth 100000 in
theorem symG_any {g m c base bE a k b : Nat} {F p : Nat → Nat} {W w : World} (hI : SymC g m c base bE F W (b - a)) (hC : Cmp bE m base F W) (hR : Row g m p w) (hg : base ≤ g) (hB : Below base W w) (hp : ∀ x, x < m → p x < m) (hak : a + 1 < k) (hkb : k + 1 < b) (hbm : b ≤ m) (hm : m ≤ 100) (hU : Sdd F p a k) (hV : Sdd F p k b) :
    Calls Try.prog 70 #[.slice (some ⟨g, 0, none⟩) m c, .int .i64 (a : Nat), .int .i64 (k : Nat), .int .i64 (b : Nat), .func (.func 36) #[] #[.pointer (some ⟨bE, 0, none⟩)]] w (SrtP g m base a b F p W) := by
  have HS : Hid (Cmp bE m base F W ∧ Row g m p w ∧ Below base W w ∧ (∀ x, x < m → p x < m) ∧ Sdd F p a k ∧ Sdd F p k b) := ⟨hC, hR, hB, hp, hU, hV⟩
  have HIH : Hid (SymC g m c base bE F W (b - a)) := hI
  obtain ⟨e0, he0⟩ : ∃ e0, e0 = k - a := ⟨_, rfl⟩
  have hka : (k : Int) - (a : Int) = (e0 : Int) := by omega
  have hkw : IntKind.i64.wrap (e0 : Int) = (e0 : Int) := wrap_to rfl (by omega)
  have hke : (((e0 : Nat) : Int) == 1) = false := beq_eq_false_iff_ne.2 (by omega)
  obtain ⟨e1, he1⟩ : ∃ e1, e1 = b - k := ⟨_, rfl⟩
  have hkb1 : (b : Int) - (k : Int) = (e1 : Int) := by omega
  have hkbw : IntKind.i64.wrap (e1 : Int) = (e1 : Int) := wrap_to rfl (by omega)
  have hkbe : (((e1 : Nat) : Int) == 1) = false := beq_eq_false_iff_ne.2 (by omega)
  obtain ⟨s, hse⟩ : ∃ s, s = a + b := ⟨_, rfl⟩
  have hsi : (a : Int) + (b : Int) = (s : Int) := by omega
  have hsw : IntKind.i64.wrap (s : Int) = (s : Int) := wrap_to rfl (by omega)
  have hsu := wrap_u (a := s) (by omega)
  obtain ⟨md, hmd⟩ : ∃ md, md = s / 2 := ⟨_, rfl⟩
  have hmdi : (s : Int) / 2 = (md : Int) := by omega
  obtain ⟨n, hn⟩ : ∃ n, n = md + k := ⟨_, rfl⟩
  have hni : (md : Int) + (k : Int) = (n : Int) := by omega
  have hnw : IntKind.i64.wrap (n : Int) = (n : Int) := wrap_to rfl (by omega)
  obtain ⟨P1, hP1⟩ : ∃ P1, P1 = n - 1 := ⟨_, rfl⟩
  have hP1i : (n : Int) - 1 = (P1 : Int) := by omega
  have hP1w : IntKind.i64.wrap (P1 : Int) = (P1 : Int) := wrap_to rfl (by omega)
  have hmb : a < md ∧ md < b ∧ md + k ≤ 300 := by omega
  have HV : Hid (n = md + k ∧ P1 = n - 1 ∧ md = (a + b) / 2) := ⟨hn, hP1, by rw [hmd, hse]⟩
  clear hC hR hB hp hU hV hI he0 he1 hse hmd hn hP1
  go_enter Try.func70, Try.ntmps70
  go_upto_if 140 with fail
  go_cut [20, 21] from 138 to 147 (fun v20 v21 wx => ∃ s0 r0 : Nat, v20 = .int .i64 (s0 : Nat) ∧ v21 = .int .i64 (r0 : Nat) ∧ (a ≤ s0 ∧ s0 ≤ r0 ∧ r0 ≤ k ∧ r0 ≤ md) ∧ Hid (n ≤ s0 + b ∧ (s0 = a ∨ n = s0 + b) ∧ (r0 = k ∨ r0 = md)) ∧ wx = w)
  case first =>
    by_cases hkm : md < k
    · have hkmb : (md : Int) < (k : Int) := by omega
      obtain ⟨s0, hs0⟩ : ∃ s0, s0 = n - b := ⟨_, rfl⟩
      have hs0i : (n : Int) - (b : Int) = (s0 : Int) := by have := HV.out; omega
      have hs0w : IntKind.i64.wrap (s0 : Int) = (s0 : Int) := wrap_to rfl (by have := HV.out; omega)
      have HX : Hid ((a ≤ s0 ∧ s0 ≤ md ∧ md ≤ k ∧ md ≤ md) ∧ n ≤ s0 + b ∧ (s0 = a ∨ n = s0 + b) ∧ (md = k ∨ md = md)) := by
        have := HV.out
        exact ⟨⟨by omega, by omega, by omega, Nat.le_refl _⟩, by omega, Or.inr (by omega), Or.inr rfl⟩
      clear hs0
      go_wp2
      go_meet
      case rel => exact ⟨s0, md, rfl, rfl, HX.out.1, ⟨HX.out.2.1, HX.out.2.2.1, Or.inr rfl⟩, rfl⟩
    · have hkmb : ¬ (md : Int) < (k : Int) := by omega
      have HX : Hid ((a ≤ a ∧ a ≤ k ∧ k ≤ k ∧ k ≤ md) ∧ n ≤ a + b ∧ (a = a ∨ n = a + b) ∧ (k = k ∨ k = md)) := by
        have := HV.out
        exact ⟨⟨Nat.le_refl _, by omega, Nat.le_refl _, by omega⟩, by omega, Or.inl rfl, Or.inl rfl⟩
      go_wp2
      go_meet
      case rel => exact ⟨a, k, rfl, rfl, ⟨Nat.le_refl _, by omega, Nat.le_refl _, by omega⟩, ⟨HX.out.2.1, Or.inl rfl, Or.inl rfl⟩, rfl⟩
  case rest =>
  obtain ⟨s0, r0, rfl, rfl, hsr, HSR, hwx⟩ := hcut
  have hwx := hwx.symm
  subst hwx
  clear hsi hsw hsu hmdi hni hnw
  go_wp2
  go_loopw [20, 21] (fun v20 v21 wr => ∃ st r : Nat, s0 ≤ st ∧ st ≤ r ∧ r ≤ r0 ∧ v20 = .int .i64 (st : Nat) ∧ v21 = .int .i64 (r : Nat) ∧ Hid ((∀ z, s0 ≤ z → z < st → F (p z) ≤ F (p (P1 - z))) ∧ (∀ z, r ≤ z → z < r0 → F (p (P1 - z)) < F (p z)) ∧ ∃ d, wr = w.drewN d)) (fun v20 v21 _ => (RowKit.intOf v21).toNat - (RowKit.intOf v20).toNat)
  case atStart => exact ⟨s0, r0, Nat.le_refl _, hsr.2.1, Nat.le_refl _, rfl, rfl, fun x h1 h2 => absurd h2 (by omega), fun x h1 h2 => absurd h2 (by omega), 0, rfl⟩
  case round =>
    obtain ⟨i, j, hi, hij, hj, rfl, rfl, HI⟩ := hrel
    rename World => wr
    by_cases hlt : i < j
    · have hib : (i : Int) < (j : Int) := by omega
      obtain ⟨s1, hse⟩ : ∃ s1, s1 = i + j := ⟨_, rfl⟩
      have hsi : (i : Int) + (j : Int) = (s1 : Int) := by omega
      have hsw : IntKind.i64.wrap (s1 : Int) = (s1 : Int) := wrap_to rfl (by omega)
      have hsu := wrap_u (a := s1) (by omega)
      obtain ⟨h, hh⟩ : ∃ h, h = s1 / 2 := ⟨_, rfl⟩
      have hhi : (s1 : Int) / 2 = (h : Int) := by omega
      have hhb : i ≤ h ∧ h < j := by omega
      obtain ⟨q, hq⟩ : ∃ q, q = P1 - h := ⟨_, rfl⟩
      have hqb : k ≤ q ∧ q < b := by have h1 := HV.out; have h2 := HSR.out.1; omega
      have hqi : (P1 : Int) - (h : Int) = (q : Int) := by have h1 := HV.out; omega
      have hqw : IntKind.i64.wrap (q : Int) = (q : Int) := wrap_to rfl (by omega)
      obtain ⟨x, hx⟩ : ∃ x, x = p q := ⟨_, rfl⟩
      obtain ⟨y, hy⟩ : ∃ y, y = p h := ⟨_, rfl⟩
      have hxm : x < m := by rw [hx]; exact HS.out.2.2.2.1 q (by omega)
      have hym : y < m := by rw [hy]; exact HS.out.2.2.2.1 h (by omega)
      have hrow : Row g m p wr := by obtain ⟨d, hd⟩ := HI.out.2.2; rw [hd]; exact HS.out.2.1.drewN d
      have k1 := hrow.cell q (by omega)
      have k2 := hrow.cell h (by omega)
      rw [← hx] at k1
      rw [← hy] at k2
      have hhm : (h : Int) < (m : Int) := by omega
      have hhm0 : (0 : Int) ≤ (h : Int) := by omega
      have ham : (q : Int) < (m : Int) := by omega
      have ham0 : (0 : Int) ≤ (q : Int) := by omega
      have HC : Hid (∀ d, Calls Try.prog 36 #[.int .i64 (x : Nat), .int .i64 (y : Nat), .pointer (some ⟨bE, 0, none⟩)] (wr.drewN d) fun e w' => e = .returned (.int .i64 (((F x : Nat) : Int) - ((F y : Nat) : Int))) ∧ ∃ k, w' = (wr.drewN d).drewN k) := fun d => by
        obtain ⟨d0, hd0⟩ := HI.out.2.2
        rw [hd0, World.drewN_drewN]
        exact HS.out.1 _ (below_drewN2 HS.out.2.2.1 _) x y hxm hym
      have HW : Hid (∀ d, ∃ d', wr.drewN d = w.drewN d') := fun d => by
        obtain ⟨d0, hd0⟩ := HI.out.2.2
        exact ⟨_, by rw [hd0, World.drewN_drewN]⟩
      have HXY : Hid (x = p q ∧ y = p h ∧ q = P1 - h) := ⟨hx, hy, hq⟩
      clear hx hy hh hrow hse hq
      by_cases hcm : F x < F y
      · have hcb : ((F x : Nat) : Int) - ((F y : Nat) : Int) < 0 := by omega
        have hcd : decide (((F x : Nat) : Int) - ((F y : Nat) : Int) < 0) = true := decide_eq_true hcb
        have HN : Hid ((∀ z, s0 ≤ z → z < i → F (p z) ≤ F (p (P1 - z))) ∧ ∀ z, h ≤ z → z < r0 → F (p (P1 - z)) < F (p z)) := by
          refine ⟨HI.out.1, fun z h1 h2 => ?_⟩
          have q0 := HV.out
          have q9 := HXY.out.2.2
          have q1 : F (p h) ≤ F (p z) := HS.out.2.2.2.2.1 h z (by omega) h1 (by omega)
          have q2 : F (p q) < F (p h) := by rw [← HXY.out.1, ← HXY.out.2.1]; exact hcm
          have q3 : F (p (P1 - z)) ≤ F (p q) := HS.out.2.2.2.2.2 (P1 - z) q (by omega) (by omega) (by omega)
          omega
        clear hcm
        go_wp2
        go_quiet ((go_at_call 36; exact Calls.quiet_of (HC.out _)))
        go_wp2
        go_roundw
        case rel => exact ⟨i, h, by omega, by omega, by omega, rfl, by go_num, HN.out.1, HN.out.2, HW.out _⟩
        case measure => simp [RowKit.intOf]; omega
      · have hcb : ¬ ((F x : Nat) : Int) - ((F y : Nat) : Int) < 0 := by omega
        have hcd : decide (((F x : Nat) : Int) - ((F y : Nat) : Int) < 0) = false := decide_eq_false hcb
        have HN : Hid ((∀ z, s0 ≤ z → z < h + 1 → F (p z) ≤ F (p (P1 - z))) ∧ ∀ z, j ≤ z → z < r0 → F (p (P1 - z)) < F (p z)) := by
          refine ⟨fun z h1 h2 => ?_, HI.out.2.1⟩
          have q0 := HV.out
          have q9 := HXY.out.2.2
          have q8 := HSR.out.1
          have q1 : F (p z) ≤ F (p h) := HS.out.2.2.2.2.1 z h (by omega) (by omega) (by omega)
          have q2 : ¬ F (p q) < F (p h) := by rw [← HXY.out.1, ← HXY.out.2.1]; exact hcm
          have q3 : F (p q) ≤ F (p (P1 - z)) := HS.out.2.2.2.2.2 q (P1 - z) (by omega) (by omega) (by omega)
          omega
        clear hcm
        go_wp2
        go_quiet ((go_at_call 36; exact Calls.quiet_of (HC.out _)))
        go_wp2
        go_roundw
        case rel => exact ⟨h + 1, j, by omega, by omega, hj, by go_num, rfl, HN.out.1, HN.out.2, HW.out _⟩
        case measure => simp [RowKit.intOf]; omega
    · have hib : ¬ (i : Int) < (j : Int) := by omega
      have hije : i = j := by omega
      obtain ⟨en, hen⟩ : ∃ en, en = n - i := ⟨_, rfl⟩
      have heni : (n : Int) - (i : Int) = (en : Int) := by have := HV.out; omega
      have henw : IntKind.i64.wrap (en : Int) = (en : Int) := wrap_to rfl (by have := HV.out; omega)
      have heb : a ≤ i ∧ i ≤ k ∧ k ≤ en ∧ en ≤ b ∧ i ≤ md ∧ md ≤ en := by have h1 := HV.out; have h2 := HSR.out; omega
      have HP : Hid (i + en = md + k) := by have := HV.out; show _ = _; omega
      have HPa := sym_parts (K := F) (p := p) (a := a) (k := k) (b := b) (st := i) (en := en) (md := md) heb.1 heb.2.1 heb.2.2.1 heb.2.2.2.1 HP.out HS.out.2.2.2.2.1 HS.out.2.2.2.2.2 (fun h1 h2 => by
          have q0 := HV.out
          have q1 := HSR.out
          have := HI.out.1 (i - 1) (by omega) (by omega)
          rw [show P1 - (i - 1) = en by omega] at this
          exact this) (fun h1 h2 => by
          have q0 := HV.out
          have q1 := HSR.out
          have := HI.out.2.1 i (by omega) (by omega)
          rw [show P1 - i = en - 1 by omega] at this
          exact Nat.le_of_lt this)
      obtain ⟨p1, hp1⟩ : ∃ p1, p1 = rtd p k (k - i) (en - k) := ⟨_, rfl⟩
      rw [← hp1] at HPa
      have HPA : Hid (Sdd F p1 a i ∧ Sdd F p1 i md ∧ Sdd F p1 md en ∧ Sdd F p1 en b ∧ (∀ x y, a ≤ x → x < md → md ≤ y → y < b → F (p1 x) ≤ F (p1 y)) ∧ p1 = rtd p k (k - i) (en - k)) := ⟨HPa.1, HPa.2.1, HPa.2.2.1, HPa.2.2.2.1, HPa.2.2.2.2, hp1⟩
      have HRw : Hid (Row g m p wr ∧ Below base W wr) := by obtain ⟨d, hd⟩ := HI.out.2.2; rw [hd]; exact ⟨HS.out.2.1.drewN d, below_drewN2 HS.out.2.2.1 d⟩
      clear hije hen HPa hp1
      go_upto_region 39 with fail
      go_cut [185] from 178 to 186 (fun v wx => ∃ bR : Bool, v = .bool bR ∧ Hid (bR = decide (i < k ∧ k < en)) ∧ wx = wr)
      case first =>
        by_cases c1 : i < k
        · have c1b : (i : Int) < (k : Int) := by omega
          by_cases c2 : k < en
          · have c2b : (k : Int) < (en : Int) := by omega
            have HD : Hid (true = decide (i < k ∧ k < en)) := (decide_eq_true (p := i < k ∧ k < en) ⟨c1, c2⟩).symm
            go_wp2
            go_meet
            case rel => exact ⟨true, by first | rfl | (congr 1; exact decide_eq_true c2b), HD.out, rfl⟩
          · have c2b : ¬ (k : Int) < (en : Int) := by omega
            have HD : Hid (false = decide (i < k ∧ k < en)) := (decide_eq_false (p := i < k ∧ k < en) (fun q => c2 q.2)).symm
            go_wp2
            go_meet
            case rel => exact ⟨false, by first | rfl | (congr 1; exact decide_eq_false c2b), HD.out, rfl⟩
        · have c1b : ¬ (i : Int) < (k : Int) := by omega
          have HD : Hid (false = decide (i < k ∧ k < en)) := (decide_eq_false (p := i < k ∧ k < en) (fun q => c1 q.1)).symm
          go_wp2
          go_meet
          case rel => exact ⟨false, by first | rfl | (congr 1; exact decide_eq_false c1b), HD.out, rfl⟩
      case rest =>
      obtain ⟨b185, rfl, HD185, hwx⟩ := hcut
      have hwx := hwx.symm
      subst hwx
      go_upto_if 185 with fail
      go_cut [191] from 186 to 192 (fun _ wx => Hid (Row g m p1 wx ∧ Rng m a b p p1 ∧ Below base W wx))
      case first =>
        cases b185 with
        | true =>
          have hq : i < k ∧ k < en := of_decide_eq_true HD185.out.symm
          have HRo : Hid (Calls Try.prog 78 #[.slice (some ⟨g, 0, none⟩) m c, .int .i64 (i : Nat), .int .i64 (k : Nat), .int .i64 (en : Nat), .func (.func 36) #[] #[.pointer (some ⟨bE, 0, none⟩)]] wr fun e w' => RowP g m base (rtd p k (k - i) (en - k)) W e w' ∧ Rng m i en p (rtd p k (k - i) (en - k))) := rot_any HRw.out.1 hg HRw.out.2 hq.1 hq.2 (by omega) hm
          clear hq
          go_wp2_with fail
          refine HRo.out.mono ?_
          rintro e w1 ⟨⟨rfl, hr1, hb1⟩, hn1⟩
          have H1 : Hid (Row g m p1 w1 ∧ Rng m a b p p1 ∧ Below base W w1) := by rw [HPA.out.2.2.2.2.2]; exact ⟨hr1, hn1.wide (by omega) (by omega), hb1⟩
          clear hr1 hb1 hn1
          go_wp2
          go_meet
          case rel => exact H1.out
        | false =>
          have hq : ¬ (i < k ∧ k < en) := of_decide_eq_false HD185.out.symm
          have H1 : Hid (Row g m p1 wr ∧ Rng m a b p p1 ∧ Below base W wr) := by
            have e : p1 = p := by
              rw [HPA.out.2.2.2.2.2]
              by_cases c1 : i < k
              · rw [show en - k = 0 by omega]; exact rtd_nil2
              · rw [show k - i = 0 by omega]; exact rtd_nil1
            rw [e]
            exact ⟨HRw.out.1, Rng.refl _ _ _ _, HRw.out.2⟩
          clear hq
          go_wp2
          go_meet
          case rel => exact H1.out
      case rest =>
      have HQ1 : Hid (Row g m p1 wc ∧ Rng m a b p p1 ∧ Below base W wc) := hcut
      clear hcut HRw HD185
      have hp1m : Hid (∀ x, x < m → p1 x < m) := fun x hx => by
        have h := (HQ1.out.2.1.wide (Nat.zero_le a) hbm).all (Nat.le_refl m) (fun v => decide (v < m)) (fun z _ hz => decide_eq_true (HS.out.2.2.2.1 z hz)) x (Nat.zero_le _) hx
        exact of_decide_eq_true h
      go_upto_region 41 with fail
      go_cut [199] from 192 to 200 (fun v wx => ∃ bR : Bool, v = .bool bR ∧ Hid (bR = decide (a < i ∧ i < md)) ∧ wx = wc)
      case first =>
        by_cases c1 : a < i
        · have c1b : (a : Int) < (i : Int) := by omega
          by_cases c2 : i < md
          · have c2b : (i : Int) < (md : Int) := by omega
            have HD : Hid (true = decide (a < i ∧ i < md)) := (decide_eq_true (p := a < i ∧ i < md) ⟨c1, c2⟩).symm
            go_wp2
            go_meet
            case rel => exact ⟨true, by first | rfl | (congr 1; exact decide_eq_true c2b), HD.out, rfl⟩
          · have c2b : ¬ (i : Int) < (md : Int) := by omega
            have HD : Hid (false = decide (a < i ∧ i < md)) := (decide_eq_false (p := a < i ∧ i < md) (fun q => c2 q.2)).symm
            go_wp2
            go_meet
            case rel => exact ⟨false, by first | rfl | (congr 1; exact decide_eq_false c2b), HD.out, rfl⟩
        · have c1b : ¬ (a : Int) < (i : Int) := by omega
          have HD : Hid (false = decide (a < i ∧ i < md)) := (decide_eq_false (p := a < i ∧ i < md) (fun q => c1 q.1)).symm
          go_wp2
          go_meet
          case rel => exact ⟨false, by first | rfl | (congr 1; exact decide_eq_false c1b), HD.out, rfl⟩
      case rest =>
      obtain ⟨b199, rfl, HD199, hwx⟩ := hcut
      have hwx := hwx.symm
      subst hwx
      go_upto_if 199 with fail
      go_cut [205] from 200 to 206 (fun _ wx => ∃ p2 : Nat → Nat, Hid (Row g m p2 wx ∧ Rng m a md p1 p2 ∧ Sdd F p2 a md ∧ Below base W wx))
      case first =>
        cases b199 with
        | true =>
          have hq : a < i ∧ i < md := of_decide_eq_true HD199.out.symm
          have HRo : Hid (Calls Try.prog 70 #[.slice (some ⟨g, 0, none⟩) m c, .int .i64 (a : Nat), .int .i64 (i : Nat), .int .i64 (md : Nat), .func (.func 36) #[] #[.pointer (some ⟨bE, 0, none⟩)]] wc (SrtP g m base a md F p1 W)) := HIH.out _ _ _ _ _ (by omega) HQ1.out.1 HQ1.out.2.2 hp1m.out hq.1 hq.2 (by omega) HPA.out.1 HPA.out.2.1
          clear hq
          go_wp2_with fail
          refine HRo.out.mono ?_
          rintro e w1 ⟨p2, rfl, hr1, hn1, hs1, hb1⟩
          have H1 : Hid (Row g m p2 w1 ∧ Rng m a md p1 p2 ∧ Sdd F p2 a md ∧ Below base W w1) := ⟨hr1, hn1, hs1, hb1⟩
          clear hr1 hb1 hn1 hs1
          go_wp2
          go_meet
          case rel => exact ⟨p2, H1.out⟩
        | false =>
          have hq : ¬ (a < i ∧ i < md) := of_decide_eq_false HD199.out.symm
          have H1 : Hid (Row g m p1 wc ∧ Rng m a md p1 p1 ∧ Sdd F p1 a md ∧ Below base W wc) := by
            refine ⟨HQ1.out.1, Rng.refl _ _ _ _, ?_, HQ1.out.2.2⟩
            by_cases c1 : a < i
            · rw [show md = i by omega]; exact HPA.out.1
            · rw [show a = i by omega]; exact HPA.out.2.1
          clear hq
          go_wp2
          go_meet
          case rel => exact ⟨p1, H1.out⟩
      case rest =>
      obtain ⟨p2, HQ2⟩ := hcut
      rename World => w9
      have hp2m : Hid (∀ x, x < m → p2 x < m) := fun x hx => by
        have h := (HQ2.out.2.1.wide (Nat.zero_le a) (show md ≤ m by omega)).all (Nat.le_refl m) (fun v => decide (v < m)) (fun z _ hz => decide_eq_true (hp1m.out z hz)) x (Nat.zero_le _) hx
        exact of_decide_eq_true h
      have HR3 : Hid (Sdd F p2 md en ∧ Sdd F p2 en b) := ⟨HPA.out.2.2.1.cg (fun x h1 h2 => HQ2.out.2.1.1 x (by omega)), HPA.out.2.2.2.1.cg (fun x h1 h2 => HQ2.out.2.1.1 x (by omega))⟩
      have HFin : Hid (∀ p3, Rng m md b p2 p3 → Sdd F p3 md b → Rng m a b p p3 ∧ Sdd F p3 a b) := fun p3 r3 s3 => ⟨(HQ1.out.2.1.trans (HQ2.out.2.1.wide (Nat.le_refl _) (by omega))).trans (r3.wide (by omega) (Nat.le_refl _)), sym_done hbm (by omega) HPA.out.2.2.2.2.1 HQ2.out.2.1 HQ2.out.2.2.1 r3 s3⟩
      go_upto_region 43 with fail
      go_cut [213] from 206 to 214 (fun v wx => ∃ bR : Bool, v = .bool bR ∧ Hid (bR = decide (md < en ∧ en < b)) ∧ wx = w9)
      case first =>
        by_cases c1 : md < en
        · have c1b : (md : Int) < (en : Int) := by omega
          by_cases c2 : en < b
          · have c2b : (en : Int) < (b : Int) := by omega
            have HD : Hid (true = decide (md < en ∧ en < b)) := (decide_eq_true (p := md < en ∧ en < b) ⟨c1, c2⟩).symm
            go_wp2
            go_meet
            case rel => exact ⟨true, by first | rfl | (congr 1; exact decide_eq_true c2b), HD.out, rfl⟩
          · have c2b : ¬ (en : Int) < (b : Int) := by omega
            have HD : Hid (false = decide (md < en ∧ en < b)) := (decide_eq_false (p := md < en ∧ en < b) (fun q => c2 q.2)).symm
            go_wp2
            go_meet
            case rel => exact ⟨false, by first | rfl | (congr 1; exact decide_eq_false c2b), HD.out, rfl⟩
        · have c1b : ¬ (md : Int) < (en : Int) := by omega
          have HD : Hid (false = decide (md < en ∧ en < b)) := (decide_eq_false (p := md < en ∧ en < b) (fun q => c1 q.1)).symm
          go_wp2
          go_meet
          case rel => exact ⟨false, by first | rfl | (congr 1; exact decide_eq_false c1b), HD.out, rfl⟩
      case rest =>
      obtain ⟨b213, rfl, HD213, hwx⟩ := hcut
      have hwx := hwx.symm
      subst hwx
      go_upto_if 213 with fail
      cases b213 with
      | true =>
        have hq : md < en ∧ en < b := of_decide_eq_true HD213.out.symm
        have HRo : Hid (Calls Try.prog 70 #[.slice (some ⟨g, 0, none⟩) m c, .int .i64 (md : Nat), .int .i64 (en : Nat), .int .i64 (b : Nat), .func (.func 36) #[] #[.pointer (some ⟨bE, 0, none⟩)]] w9 (SrtP g m base md b F p2 W)) := HIH.out _ _ _ _ _ (by omega) HQ2.out.1 HQ2.out.2.2.2 hp2m.out hq.1 hq.2 hbm HR3.out.1 HR3.out.2
        clear hq
        go_wp2_with fail
        refine HRo.out.mono ?_
        rintro e w1 ⟨p3, rfl, hr1, hn1, hs1, hb1⟩
        have H1 : Hid (Row g m p3 w1 ∧ (Rng m a b p p3 ∧ Sdd F p3 a b) ∧ Below base W w1) := ⟨hr1, HFin.out p3 hn1 hs1, hb1⟩
        clear hr1 hb1 hn1 hs1
        go_wp2
        exact bodyPost_end (results_none rfl _ _ _) rfl ⟨p3, rfl, H1.out.1, H1.out.2.1.1, H1.out.2.1.2, H1.out.2.2⟩
      | false =>
        have hq : ¬ (md < en ∧ en < b) := of_decide_eq_false HD213.out.symm
        have H1 : Hid (Rng m a b p p2 ∧ Sdd F p2 a b) := by
          refine HFin.out p2 (Rng.refl _ _ _ _) ?_
          by_cases c1 : md < en
          · rw [show b = en by omega]; exact HR3.out.1
          · rw [show md = en by omega]; exact HR3.out.2
        clear hq
        go_wp2
        exact bodyPost_end (results_none rfl _ _ _) rfl ⟨p2, rfl, HQ2.out.1, H1.out.1, H1.out.2, HQ2.out.2.2.2⟩
/-- Two rising parts merged. -/
theorem sym_any {g m c base bE : Nat} {F : Nat → Nat} {W : World} (hC : Cmp bE m base F W) (hg : base ≤ g) (hm : m ≤ 100) : ∀ N, SymC g m c base bE F W N
  | 0 => by intro a k b p w h; exact absurd h (by omega)
  | N + 1 => by
    intro a k b p w hN hR hB hp hak hkb hbm hU hV
    by_cases c1 : k = a + 1
    · exact symA_any hC hR hg hB hp c1 hkb hbm hm hV
    · by_cases c2 : b = k + 1
      · exact symB_any hC hR hg hB hp (by omega) c2 hbm hm hU
      · exact symG_any (fun a' k' b' p' w' h => sym_any hC hg hm N a' k' b' p' w' (by omega)) hC hR hg hB hp (by omega) (by omega) hbm hm hU hV
end Go.Proofs.Ytbnkekeeceicaaa

/- Nets: a stable sort of at most 24 edges (stableCmpFunc, SortStableFunc). -/
namespace Go.Proofs.Ytbnkekeeceicaaa
open Go.RowKit Go.Sort

set_option maxHeartbeats 4000000 in
set_option maxRecDepth 100000 in
theorem stab1_any {g m c base bE : Nat} {F p : Nat → Nat} {W w : World} (hC : Cmp bE m base F W) (hR : Row g m p w) (hg : base ≤ g) (hB : Below base W w) (hp : ∀ x, x < m → p x < m) (hm : m < 20) (hF : ∀ i, i < m → F i ≤ 1000) :
    Calls Try.prog 53 #[.slice (some ⟨g, 0, none⟩) m c, .int .i64 (m : Nat), .func (.func 36) #[] #[.pointer (some ⟨bE, 0, none⟩)]] w (SrtP g m base 0 m F p W) := by
  have HIs : Hid (Calls Try.prog 69 #[.slice (some ⟨g, 0, none⟩) m c, .int .i64 0, .int .i64 (m : Nat), .func (.func 36) #[] #[.pointer (some ⟨bE, 0, none⟩)]] w (SrtP g m base 0 m F p W)) := isrtF_any (a := 0) hC hR hg hB hp (by omega) (by omega) (by omega) hF
  have hm1 : ¬ (20 : Int) ≤ (m : Int) := by omega
  have hm2 : ¬ (20 : Int) < (m : Int) := by omega
  clear hC hR hB hp hF
  go_enter Try.func53, Try.ntmps53
  go_wp2
  go_loopw [7, 8] (fun v7 v8 wr => v7 = .int .i64 0 ∧ v8 = .int .i64 20 ∧ wr = w) (fun _ _ _ => 0)
  case atStart => exact ⟨rfl, rfl, by trivial⟩
  case round =>
    obtain ⟨rfl, rfl, hwr⟩ := hrel
    rename World => wr
    have hwr := hwr.symm
    subst hwr
    go_wp2_with fail
    refine HIs.out.mono ?_
    rintro e w1 ⟨p1, rfl, hr1, hn1, hs1, hb1⟩
    have H1 : Hid (Row g m p1 w1 ∧ Rng m 0 m p p1 ∧ Sdd F p1 0 m ∧ Below base W w1) := ⟨hr1, hn1, hs1, hb1⟩
    clear hr1 hn1 hs1 hb1
    go_wp2
    go_loopw [6] (fun v6 wx => v6 = .int .i64 20 ∧ wx = w1) (fun _ _ => 0)
    case atStart => exact ⟨rfl, by trivial⟩
    case round =>
      obtain ⟨rfl, hwx⟩ := hrel
      rename World => wx
      have hwx := hwx.symm
      subst hwx
      go_wp2
      exact bodyPost_end (results_none rfl _ _ _) rfl ⟨p1, rfl, H1.out.1, H1.out.2.1, H1.out.2.2.1, H1.out.2.2.2⟩
set_option maxHeartbeats 8000000 in
set_option maxRecDepth 100000 in
theorem stab2_any {g m c base bE : Nat} {F p : Nat → Nat} {W w : World} (hC : Cmp bE m base F W) (hR : Row g m p w) (hg : base ≤ g) (hB : Below base W w) (hp : ∀ x, x < m → p x < m) (hm : 20 ≤ m) (hm24 : m < 40) (hF : ∀ i, i < m → F i ≤ 1000) :
    Calls Try.prog 53 #[.slice (some ⟨g, 0, none⟩) m c, .int .i64 (m : Nat), .func (.func 36) #[] #[.pointer (some ⟨bE, 0, none⟩)]] w (SrtP g m base 0 m F p W) := by
  have HIs : Hid (∀ (a b : Nat) (q : Nat → Nat) (wx : World), Row g m q wx → Below base W wx → (∀ x, x < m → q x < m) → a ≤ b → b ≤ m → Calls Try.prog 69 #[.slice (some ⟨g, 0, none⟩) m c, .int .i64 (a : Nat), .int .i64 (b : Nat), .func (.func 36) #[] #[.pointer (some ⟨bE, 0, none⟩)]] wx (SrtP g m base a b F q W)) := fun a b q wx h1 h2 h3 h4 h5 => isrtF_any hC h1 hg h2 h3 h4 h5 (by omega) hF
  have HSy : Hid (SymC g m c base bE F W 100) := sym_any hC hg (by omega) 100
  have HPm : Hid (∀ q, Rng m 0 m p q → ∀ x, x < m → q x < m) := fun q hq x hx => by
    have h := hq.all (Nat.le_refl m) (fun v => decide (v < m)) (fun z _ hz => decide_eq_true (hp z hz)) x (Nat.zero_le _) hx
    exact of_decide_eq_true h
  have HS : Hid (Row g m p w ∧ Below base W w ∧ ∀ x, x < m → p x < m) := ⟨hR, hB, hp⟩
  have hm1 : (20 : Int) ≤ (m : Int) := by omega
  have hm4 : ¬ (40 : Int) ≤ (m : Int) := by omega
  have hm5 : ¬ (40 : Int) < (m : Int) := by omega
  clear hC hR hB hp hF
  go_enter Try.func53, Try.ntmps53
  go_wp2
  go_loopw [7, 8] (fun v7 v8 wr => (v7 = .int .i64 0 ∧ v8 = .int .i64 20 ∧ wr = w) ∨ (v7 = .int .i64 20 ∧ v8 = .int .i64 40 ∧ ∃ p1, Hid (Row g m p1 wr ∧ Rng m 0 20 p p1 ∧ Sdd F p1 0 20 ∧ Below base W wr))) (fun _ v8 _ => 40 - (RowKit.intOf v8).toNat)
  case atStart => exact Or.inl ⟨rfl, rfl, by trivial⟩
  case round =>
    rcases hrel with ⟨rfl, rfl, hwr⟩ | ⟨rfl, rfl, p1, HI⟩
    · rename World => wr
      have hwr := hwr.symm
      subst hwr
      go_wp2_with fail
      refine (HIs.out 0 20 p w HS.out.1 HS.out.2.1 HS.out.2.2 (by omega) hm).mono ?_
      rintro e w1 ⟨p1, rfl, hr1, hn1, hs1, hb1⟩
      have H1 : Hid (Row g m p1 w1 ∧ Rng m 0 20 p p1 ∧ Sdd F p1 0 20 ∧ Below base W w1) := ⟨hr1, hn1, hs1, hb1⟩
      clear hr1 hn1 hs1 hb1
      go_wp2
      go_roundw
      case rel => exact Or.inr ⟨rfl, by go_num, p1, H1.out⟩
      case measure => simp [RowKit.intOf]
    · rename World => wr
      go_wp2_with fail
      refine (HIs.out 20 m p1 wr HI.out.1 HI.out.2.2.2 (HPm.out p1 (HI.out.2.1.wide (Nat.le_refl _) hm)) hm (Nat.le_refl _)).mono ?_
      rintro e w2 ⟨p2, rfl, hr2, hn2, hs2, hb2⟩
      have H2 : Hid (Row g m p2 w2 ∧ Rng m 0 m p p2 ∧ Sdd F p2 0 20 ∧ Sdd F p2 20 m ∧ Below base W w2) := ⟨hr2, (HI.out.2.1.wide (Nat.le_refl _) hm).trans (hn2.wide (by omega) (Nat.le_refl _)), HI.out.2.2.1.cg (fun x _ hx => hn2.1 x (by omega)), hs2, hb2⟩
      clear hr2 hn2 hs2 hb2
      go_wp2
      go_loopw [6] (fun v6 wx => (v6 = .int .i64 20 ∧ wx = w2) ∨ (v6 = .int .i64 40 ∧ ∃ p3, Hid (Row g m p3 wx ∧ Rng m 0 m p p3 ∧ Sdd F p3 0 m ∧ Below base W wx))) (fun v6 _ => 40 - (RowKit.intOf v6).toNat)
      case atStart => exact Or.inl ⟨rfl, by trivial⟩
      case round =>
        rcases hrel with ⟨rfl, hwx⟩ | ⟨rfl, p3, HJ⟩
        · rename World => wx
          have hwx := hwx.symm
          subst hwx
          by_cases h20 : 20 < m
          · have h20b : (20 : Int) < (m : Int) := by omega
            go_wp2
            go_loopw [7, 8] (fun v7 v8 wz => v7 = .int .i64 0 ∧ v8 = .int .i64 40 ∧ wz = w2) (fun _ _ _ => 0)
            case atStart => exact ⟨rfl, by go_num, by trivial⟩
            case round =>
              obtain ⟨rfl, rfl, hwz⟩ := hrel
              rename World => wz
              have hwz := hwz.symm
              subst hwz
              go_wp2_with fail
              refine (HSy.out 0 20 m p2 w2 (by omega) H2.out.1 H2.out.2.2.2.2 (HPm.out p2 H2.out.2.1) (by omega) h20 (Nat.le_refl _) H2.out.2.2.1 H2.out.2.2.2.1).mono ?_
              rintro e w3 ⟨p3, rfl, hr3, hn3, hs3, hb3⟩
              have H3 : Hid (Row g m p3 w3 ∧ Rng m 0 m p p3 ∧ Sdd F p3 0 m ∧ Below base W w3) := ⟨hr3, H2.out.2.1.trans hn3, hs3, hb3⟩
              clear hr3 hn3 hs3 hb3
              go_wp2
              go_roundw
              case rel => exact Or.inr ⟨by go_num, p3, H3.out⟩
              case measure => simp [RowKit.intOf]
          · have h20b : ¬ (20 : Int) < (m : Int) := by omega
            have hme : m = 20 := by omega
            have H3 : Hid (Sdd F p2 0 m) := by have h := H2.out.2.2.1; rw [← hme] at h; exact h
            clear hme
            go_wp2
            exact bodyPost_end (results_none rfl _ _ _) rfl ⟨p2, rfl, H2.out.1, H2.out.2.1, H3.out, H2.out.2.2.2.2⟩
        · go_wp2
          exact bodyPost_end (results_none rfl _ _ _) rfl ⟨p3, rfl, HJ.out.1, HJ.out.2.1, HJ.out.2.2.1, HJ.out.2.2.2⟩
theorem stab_any {g m c base bE : Nat} {F p : Nat → Nat} {W w : World} (hC : Cmp bE m base F W) (hR : Row g m p w) (hg : base ≤ g) (hB : Below base W w) (hp : ∀ x, x < m → p x < m) (hm24 : m < 40) (hF : ∀ i, i < m → F i ≤ 1000) :
    Calls Try.prog 53 #[.slice (some ⟨g, 0, none⟩) m c, .int .i64 (m : Nat), .func (.func 36) #[] #[.pointer (some ⟨bE, 0, none⟩)]] w (SrtP g m base 0 m F p W) := by
  by_cases h : m < 20
  · exact stab1_any hC hR hg hB hp h hF
  · exact stab2_any hC hR hg hB hp (by omega) hm24 hF
set_option maxHeartbeats 4000000 in
theorem ssf_any {g m c base bE : Nat} {F p : Nat → Nat} {W w : World} (hC : Cmp bE m base F W) (hR : Row g m p w) (hg : base ≤ g) (hB : Below base W w) (hp : ∀ x, x < m → p x < m) (hm24 : m < 40) (hF : ∀ i, i < m → F i ≤ 1000) :
    Calls Try.prog 35 #[.slice (some ⟨g, 0, none⟩) m c, .func (.func 36) #[] #[.pointer (some ⟨bE, 0, none⟩)]] w (SrtP g m base 0 m F p W) := by
  have HSt : Hid (Calls Try.prog 53 #[.slice (some ⟨g, 0, none⟩) m c, .int .i64 (m : Nat), .func (.func 36) #[] #[.pointer (some ⟨bE, 0, none⟩)]] w (SrtP g m base 0 m F p W)) := stab_any hC hR hg hB hp hm24 hF
  clear hC hR hB hp hF
  go_enter Try.func35, Try.ntmps35
  go_wp2_with fail
  refine HSt.out.mono ?_
  rintro e w1 ⟨p1, rfl, hr1, hn1, hs1, hb1⟩
  have H1 : Hid (Row g m p1 w1 ∧ Rng m 0 m p p1 ∧ Sdd F p1 0 m ∧ Below base W w1) := ⟨hr1, hn1, hs1, hb1⟩
  clear hr1 hn1 hs1 hb1
  go_wp2
  exact bodyPost_end (results_none rfl _ _ _) rfl ⟨p1, rfl, H1.out.1, H1.out.2.1, H1.out.2.2.1, H1.out.2.2.2⟩
end Go.Proofs.Ytbnkekeeceicaaa
