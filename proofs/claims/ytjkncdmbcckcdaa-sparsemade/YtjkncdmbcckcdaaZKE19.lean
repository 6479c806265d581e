/- SparseSays: seven ways through it, over what its calls tell. -/
import Derived.Test.YtjkncdmbcckcdaaZKE18
import Derived.Test.YtjkncdmbcckcdaaZO2
namespace Go.Proofs.Ytjkncdmbcckcdaa
open Go.RowKit Go.Sort

/-- What is said of a set of places. -/
def evS (e n : Int) (S : Nat → Int) (i : Nat) : Int := if e ≠ 0 then e else if allP (isp n) S i = true then 0 else 10
theorem evS_no {e n : Int} {S : Nat → Int} {i : Nat} (h : evS e n S i ≠ 0) : ∀ l, i ≤ l → evS e n S l = evS e n S i := fun l hl => by
  unfold evS at *
  by_cases h1 : e ≠ 0
  · rw [if_pos h1, if_pos h1]
  · rw [if_neg h1] at h ⊢
    by_cases h2 : allP (isp n) S i = true
    · rw [if_pos h2] at h; exact absurd rfl h
    · have h3 : ¬ allP (isp n) S l = true := by
        intro h3
        apply h2
        have key : ∀ d, allP (isp n) S (i + d) = true → allP (isp n) S i = true := fun d => by
          induction d with
          | zero => exact id
          | succ d ih =>
            intro h
            have h : (allP (isp n) S (i + d) && isp n (S (i + d))) = true := h
            rw [Bool.and_eq_true] at h
            exact ih h.1
        exact key (l - i) (by rw [show i + (l - i) = l by omega]; exact h3)
      rw [if_neg h1, if_neg h2, if_neg h3]
theorem evS_next {e n : Int} {S : Nat → Int} {i : Nat} (h : evS e n S i = 0) : evS e n S (i + 1) = if isp n (S i) = true then 0 else 10 := by
  unfold evS at *
  by_cases h1 : e ≠ 0
  · rw [if_pos h1] at h; exact absurd h h1
  · rw [if_neg h1] at h ⊢
    by_cases h2 : allP (isp n) S i = true
    · have e : allP (isp n) S (i + 1) = (allP (isp n) S i && isp n (S i)) := rfl
      rw [e, h2, Bool.true_and]
    · rw [if_neg h2] at h; cases h
/-- What Peel tells, its error with it. -/
def PlP (P : Int) (L1 L2 : List Int) (w : World) (x : Ending) (w' : World) : Prop := Below w.heap.size w w' ∧ ∃ vo vn vc uo un uc, x = .returned (.tuple #[.slice vo vn vc, .slice uo un uc, .int .i64 P]) ∧ ((P ≠ 0 ∧ vn = 0) ∨ (P = 0 ∧ SliceI (.slice vo vn vc) L1 w')) ∧ SliceI (.slice uo un uc) L2 w'
/-- What Flip tells, its error with it. -/
def FlP (P : Int) (L : List Int) (B : Bool) (R : Int) (w : World) (x : Ending) (w' : World) : Prop := Below w.heap.size w w' ∧ ∃ vo vn vc, x = .returned (.tuple #[.slice vo vn vc, .bool B, .int .i64 R, .int .i64 P]) ∧ ((P ≠ 0 ∧ vn = 0) ∨ (P = 0 ∧ SliceI (.slice vo vn vc) L w'))

set_option maxHeartbeats 16000000 in
set_option maxRecDepth 100000 in
theorem sparseSays_c1 (n most E0 EP : Int) (RB : Bool) {L3 : List Int} {ao wo so : Option Addr} {m ca l cw ls cs : Nat} {S : Nat → Int} {w : World} (hlen : l + ls ≤ 200)
    (hE0 : E0 ≠ 0)
    (hH : Calls Try.prog 20 #[.slice ao m ca] w fun x w' => x = .returned (.bool false) ∧ w' = w)
    (h1 : ∀ wx, Below w.heap.size w wx → Calls Try.prog 28 #[.int .i64 n, .slice ao m ca] wx fun x w' => x = .returned (.int .i64 E0) ∧ Below wx.heap.size wx w')
    (h2 : ∀ wx, Below w.heap.size w wx → Calls Try.prog 29 #[.int .i64 n, .slice ao m ca] wx fun x w' => x = .returned (.int .i64 E0) ∧ Below wx.heap.size wx w')
    (h5 : ∀ wx, Below w.heap.size w wx → Calls Try.prog 32 #[.int .i64 n, .slice ao m ca, .slice wo l cw] wx (PlP E0 [] [] wx))
    (h8 : ∀ wx, Below w.heap.size w wx → Calls Try.prog 35 #[.int .i64 n, .slice ao m ca, .slice wo l cw, .int .i64 most] wx (FlP E0 L3 false 0 wx))
    (hS : SlZ so ls S w)
    (h10 : ∀ wx, Below w.heap.size w wx → Calls Try.prog 36 #[.int .i64 n, .slice ao m ca, .slice so ls cs] wx fun x w' => x = .returned (.tuple #[.bool RB, .int .i64 EP]) ∧ Below wx.heap.size wx w')
    (h11 : EP = 0 → ∀ wx, Below w.heap.size w wx → Calls Try.prog 37 #[.slice ao m ca, .slice so ls cs] wx fun x w' => x = .returned (.bool RB) ∧ Below wx.heap.size wx w')
    (h12 : EP ≠ 0 → RB = false)
    (hEP : EP = evS E0 n S ls) :
    Calls Try.prog 7 #[.int .i64 n, .slice ao m ca, .slice wo l cw, .slice so ls cs, .int .i64 most] w fun x w' => x = .returned (.bool true) ∧ Below w.heap.size w w' := by
  obtain ⟨N1, hN1⟩ : ∃ N1, N1 = l + ls := ⟨_, rfl⟩
  have g1 : IntKind.i64.wrap ((l : Int) + (ls : Int)) = (N1 : Int) := wrap_to (by omega) (by omega)
  have g3 : ¬ (200 : Int) < (N1 : Int) := by omega
  have HH : Hid (Calls Try.prog 20 #[.slice ao m ca] w fun x w' => x = .returned (.bool false) ∧ w' = w) := hH
  have H1 : Hid _ := h1
  have H2 : Hid _ := h2
  have H5 : Hid _ := h5
  have H8 : Hid _ := h8
  have HS : Hid (SlZ so ls S w) := hS
  have H10 : Hid _ := h10
  have H11 : Hid _ := h11
  have H12 : Hid (EP ≠ 0 → RB = false) := h12
  have HEP : Hid (EP = evS E0 n S ls) := hEP
  have z0 : (E0 == 0) = false := beq_eq_false_iff_ne.2 hE0
  have z1 : (E0 != E0) = false := by simp
  have HE0 : Hid (E0 ≠ 0) := hE0
  have Bw : Hid (Below w.heap.size w w) := Below.refl _ _
  clear hN1 hH h1 h2 h5 h8 hS h10 h11 h12 hEP hE0
  go_enter Try.func7, Try.ntmps7
  go_wp2_with fail
  refine HH.out.mono ?_
  rintro x w0 ⟨rfl, hw0⟩
  have hw0 := hw0.symm
  subst hw0
  go_wp2_with fail
  refine (H1.out w Bw.out).mono ?_
  rintro x w1 ⟨rfl, hbw1⟩
  have Bw1 : Hid (Below w.heap.size w w1) := bel_up' Bw.out hbw1
  clear hbw1
  go_wp2_with fail
  refine (H2.out w1 Bw1.out).mono ?_
  rintro x w2 ⟨rfl, hbw2⟩
  have Bw2 : Hid (Below w.heap.size w w2) := bel_up' Bw1.out hbw2
  clear hbw2
  go_wp2_with fail
  refine (H5.out w2 Bw2.out).mono ?_
  rintro x w5 ⟨hb5, vo, vn, vc, uo, un, uc, rfl, hres, hleft⟩
  have Bw5 : Hid (Below w.heap.size w w5) := bel_up' Bw2.out hb5
  have HLi : Hid (Calls Try.prog 23 #[.slice vo vn vc, .int .i64 E0, .slice none 0 0, .int .i64 E0] w5 fun r w' => r = .returned (.bool true) ∧ ∃ n, w' = w5.drewN n) := by
    refine list_gen ?_
    rcases hres with ⟨h, h2⟩ | ⟨h, h2⟩
    · exact Or.inl ⟨h, vo, vc, by rw [h2]⟩
    · exact absurd h HE0.out
  have HSa : Hid (∀ d, Calls Try.prog 33 #[.slice uo un uc, .slice none 0 0] (w5.drewN d) fun r w' => r = .returned (.bool true) ∧ ∃ n, w' = (w5.drewN d).drewN n) := fun d => by
    refine (same_any (hleft.drewN d) (lb := []) (Or.inl ⟨rfl, none, 0, rfl⟩)).mono ?_
    rintro r w' ⟨rfl, h⟩
    exact ⟨by rw [decide_eq_true rfl], h⟩
  clear hb5 hres hleft
  go_wp2_with fail
  refine HLi.out.mono ?_
  rintro x w6 ⟨rfl, d6, rfl⟩
  go_wp2_with fail
  refine (HSa.out d6).mono ?_
  rintro x w7 ⟨rfl, d7, hw7⟩
  have Bw7 : Hid (Below w.heap.size w w7) := by rw [hw7]; exact below_drewN2 (below_drewN2 Bw5.out d6) d7
  clear hw7 HLi HSa
  go_wp2_with fail
  refine (H8.out w7 Bw7.out).mono ?_
  rintro x wF ⟨hbF, yo, yn, yc, rfl, hresF⟩
  have BwF : Hid (Below w.heap.size w wF) := bel_up' Bw7.out hbF
  have HLF : Hid (Calls Try.prog 23 #[.slice yo yn yc, .int .i64 E0, .slice none 0 0, .int .i64 E0] wF fun r w' => r = .returned (.bool true) ∧ ∃ n, w' = wF.drewN n) := by
    refine list_gen ?_
    rcases hresF with ⟨h, h2⟩ | ⟨h, h2⟩
    · exact Or.inl ⟨h, yo, yc, by rw [h2]⟩
    · exact absurd h HE0.out
  clear hbF hresF
  go_wp2_with fail
  refine HLF.out.mono ?_
  rintro x wL ⟨rfl, dL, hwL⟩
  have BwL : Hid (Below w.heap.size w wL) := by rw [hwL]; exact below_drewN2 BwF.out dL
  clear hwL HLF
  go_wp2
  go_loopw [11, 25] (fun ve vi wx => ∃ (i : Nat) (e : Int), i ≤ ls ∧ vi = .int .i64 (i : Nat) ∧ ve = .int .i64 e ∧ Hid (e = evS E0 n S i) ∧ wx = wL) (fun _ vi _ => ls - (intOf vi).toNat)
  case atStart => exact ⟨0, E0, by omega, rfl, rfl, by show _ = _; unfold evS; rw [if_pos HE0.out], rfl⟩
  case round =>
    obtain ⟨i, e, hi, rfl, rfl, HI, hwx⟩ := hrel
    have hwx := hwx.symm
    subst hwx
    by_cases hgo : i < ls ∧ e = 0
    · obtain ⟨hlt, rfl⟩ := hgo
      have hib : (i : Int) < (ls : Int) := by omega
      have hib0 : (0 : Int) ≤ (i : Int) := by omega
      obtain ⟨b, off, rfl, hci⟩ := (slz_below HS.out BwL.out) i hlt
      obtain ⟨x, hx⟩ : ∃ x, x = S i := ⟨_, rfl⟩
      rw [← hx] at hci
      have HN : Hid (evS E0 n S (i + 1) = if isp n x = true then 0 else 10) := by rw [hx]; exact evS_next HI.out.symm
      by_cases hneg : x < 0
      · have HV : Hid ((10 : Int) = evS E0 n S (i + 1)) := by
          show _ = _
          rw [HN.out, if_neg (by unfold isp; rw [decide_eq_true_eq]; omega)]
        clear hx
        go_wp2
        go_roundw
        case rel => exact ⟨i + 1, 10, by omega, by go_num, by go_num, HV.out, by first | rfl | trivial⟩
        case measure => simp [intOf]; omega
      · by_cases hge : x ≥ n
        · have hge2 : n ≤ x := by omega
          have HV : Hid ((10 : Int) = evS E0 n S (i + 1)) := by
            show _ = _
            rw [HN.out, if_neg (by unfold isp; rw [decide_eq_true_eq]; omega)]
          clear hx
          go_wp2
          go_roundw
          case rel => exact ⟨i + 1, 10, by omega, by go_num, by go_num, HV.out, by first | rfl | trivial⟩
          case measure => simp [intOf]; omega
        · have hge2 : ¬ n ≤ x := by omega
          have HV : Hid ((0 : Int) = evS E0 n S (i + 1)) := by
            show _ = _
            rw [HN.out, if_pos (by unfold isp; rw [decide_eq_true_eq]; omega)]
          clear hx
          go_wp2
          go_roundw
          case rel => exact ⟨i + 1, 0, by omega, by go_num, by go_num, HV.out, by first | rfl | trivial⟩
          case measure => simp [intOf]; omega
    · have HE : Hid (e = EP) := by
        show _ = _
        rw [HEP.out]
        by_cases hlt : i < ls
        · have he : e ≠ 0 := fun h => hgo ⟨hlt, h⟩
          rw [evS_no (by rw [← HI.out]; exact he) ls (by omega)]; exact HI.out
        · rw [show ls = i by omega]; exact HI.out
      have zEE : (EP == EP) = true := by simp
      have zRR : (RB == RB) = true := by simp
      have tail : ∀ b, ((i : Int) < (ls : Int)) = b → True := fun _ _ => trivial
      clear tail
      by_cases he0 : e = 0
      · have hib : ¬ (i : Int) < (ls : Int) := by
          intro h; exact hgo ⟨by omega, he0⟩
        have hEP0 : EP = 0 := by rw [← HE.out]; exact he0
        have HC := H11.out hEP0
        have HC : Hid _ := HC
        have HT : Hid _ := H10.out
        have HE0 : Hid (EP = 0) := hEP0
        clear hgo HE
        subst he0
        go_wp2_with fail
        refine (HT.out wL BwL.out).mono ?_
        rintro x wM ⟨rfl, hbM⟩
        rw [HE0.out]
        have BwM : Hid (Below w.heap.size w wM) := bel_up' BwL.out hbM
        clear hbM
        go_wp2_with fail
        refine (HC.out wM BwM.out).mono ?_
        rintro x wN ⟨rfl, hbN⟩
        have BwN : Hid (Below w.heap.size w wN) := bel_up' BwM.out hbN
        clear hbN
        go_wp2
        go_ret
        exact ⟨by first | rfl | simp, BwN.out⟩
      · have hz : (e == 0) = false := beq_eq_false_iff_ne.2 he0
        have hee : (e == e) = true := by simp
        have HR : Hid (RB = false) := H12.out (by rw [← HE.out]; exact he0)
        have HT : Hid (∀ wx, Below w.heap.size w wx → Calls Try.prog 36 #[.int .i64 n, .slice ao m ca, .slice so ls cs] wx fun x w' => x = .returned (.tuple #[.bool false, .int .i64 e]) ∧ Below wx.heap.size wx w') := by
          have h := H10.out
          rw [HR.out, ← HE.out] at h
          exact h
        clear hgo HE he0
        by_cases hib : (i : Int) < (ls : Int)
        · go_wp2_with fail
          refine (HT.out wL BwL.out).mono ?_
          rintro x wM ⟨rfl, hbM⟩
          have BwM : Hid (Below w.heap.size w wM) := bel_up' BwL.out hbM
          clear hbM
          go_wp2
          go_ret
          exact ⟨by first | rfl | simp, BwM.out⟩
        · go_wp2_with fail
          refine (HT.out wL BwL.out).mono ?_
          rintro x wM ⟨rfl, hbM⟩
          have BwM : Hid (Below w.heap.size w wM) := bel_up' BwL.out hbM
          clear hbM
          go_wp2
          go_ret
          exact ⟨by first | rfl | simp, BwM.out⟩
set_option maxHeartbeats 16000000 in
set_option maxRecDepth 100000 in
theorem sparseSays_c2 (n most EP : Int) (RB : Bool) {L3 : List Int} {ao wo so : Option Addr} {m ca l cw ls cs : Nat} {S : Nat → Int} {w : World} (hlen : l + ls ≤ 200)
    (hl : (l : Int) ≠ n)
    (hH : Calls Try.prog 20 #[.slice ao m ca] w fun x w' => x = .returned (.bool false) ∧ w' = w)
    (h1 : ∀ wx, Below w.heap.size w wx → Calls Try.prog 28 #[.int .i64 n, .slice ao m ca] wx fun x w' => x = .returned (.int .i64 0) ∧ Below wx.heap.size wx w')
    (h2 : ∀ wx, Below w.heap.size w wx → Calls Try.prog 29 #[.int .i64 n, .slice ao m ca] wx fun x w' => x = .returned (.int .i64 0) ∧ Below wx.heap.size wx w')
    (h5 : ∀ wx, Below w.heap.size w wx → Calls Try.prog 32 #[.int .i64 n, .slice ao m ca, .slice wo l cw] wx (PlP 6 [] [] wx))
    (h8 : ∀ wx, Below w.heap.size w wx → Calls Try.prog 35 #[.int .i64 n, .slice ao m ca, .slice wo l cw, .int .i64 most] wx (FlP 6 L3 false 0 wx))
    (hS : SlZ so ls S w)
    (h10 : ∀ wx, Below w.heap.size w wx → Calls Try.prog 36 #[.int .i64 n, .slice ao m ca, .slice so ls cs] wx fun x w' => x = .returned (.tuple #[.bool RB, .int .i64 EP]) ∧ Below wx.heap.size wx w')
    (h11 : EP = 0 → ∀ wx, Below w.heap.size w wx → Calls Try.prog 37 #[.slice ao m ca, .slice so ls cs] wx fun x w' => x = .returned (.bool RB) ∧ Below wx.heap.size wx w')
    (h12 : EP ≠ 0 → RB = false)
    (hEP : EP = evS 0 n S ls) :
    Calls Try.prog 7 #[.int .i64 n, .slice ao m ca, .slice wo l cw, .slice so ls cs, .int .i64 most] w fun x w' => x = .returned (.bool true) ∧ Below w.heap.size w w' := by
  obtain ⟨N1, hN1⟩ : ∃ N1, N1 = l + ls := ⟨_, rfl⟩
  have g1 : IntKind.i64.wrap ((l : Int) + (ls : Int)) = (N1 : Int) := wrap_to (by omega) (by omega)
  have g3 : ¬ (200 : Int) < (N1 : Int) := by omega
  have HH : Hid (Calls Try.prog 20 #[.slice ao m ca] w fun x w' => x = .returned (.bool false) ∧ w' = w) := hH
  have H1 : Hid _ := h1
  have H2 : Hid _ := h2
  have H5 : Hid _ := h5
  have H8 : Hid _ := h8
  have HS : Hid (SlZ so ls S w) := hS
  have H10 : Hid _ := h10
  have H11 : Hid _ := h11
  have H12 : Hid (EP ≠ 0 → RB = false) := h12
  have HEP : Hid (EP = evS 0 n S ls) := hEP
  have zl : ((l : Int) != n) = true := bne_iff_ne.2 hl
  have Bw : Hid (Below w.heap.size w w) := Below.refl _ _
  clear hN1 hH h1 h2 h5 h8 hS h10 h11 h12 hEP hl
  go_enter Try.func7, Try.ntmps7
  go_wp2_with fail
  refine HH.out.mono ?_
  rintro x w0 ⟨rfl, hw0⟩
  have hw0 := hw0.symm
  subst hw0
  go_wp2_with fail
  refine (H1.out w Bw.out).mono ?_
  rintro x w1 ⟨rfl, hbw1⟩
  have Bw1 : Hid (Below w.heap.size w w1) := bel_up' Bw.out hbw1
  clear hbw1
  go_wp2_with fail
  refine (H2.out w1 Bw1.out).mono ?_
  rintro x w2 ⟨rfl, hbw2⟩
  have Bw2 : Hid (Below w.heap.size w w2) := bel_up' Bw1.out hbw2
  clear hbw2
  go_wp2_with fail
  refine (H5.out w2 Bw2.out).mono ?_
  rintro x w5 ⟨hb5, vo, vn, vc, uo, un, uc, rfl, hres, hleft⟩
  have Bw5 : Hid (Below w.heap.size w w5) := bel_up' Bw2.out hb5
  have HLi : Hid (Calls Try.prog 23 #[.slice vo vn vc, .int .i64 6, .slice none 0 0, .int .i64 6] w5 fun r w' => r = .returned (.bool true) ∧ ∃ n, w' = w5.drewN n) := by
    refine list_gen ?_
    rcases hres with ⟨h, h2⟩ | ⟨h, h2⟩
    · exact Or.inl ⟨h, vo, vc, by rw [h2]⟩
    · exact absurd h (by decide)
  have HSa : Hid (∀ d, Calls Try.prog 33 #[.slice uo un uc, .slice none 0 0] (w5.drewN d) fun r w' => r = .returned (.bool true) ∧ ∃ n, w' = (w5.drewN d).drewN n) := fun d => by
    refine (same_any (hleft.drewN d) (lb := []) (Or.inl ⟨rfl, none, 0, rfl⟩)).mono ?_
    rintro r w' ⟨rfl, h⟩
    exact ⟨by rw [decide_eq_true rfl], h⟩
  clear hb5 hres hleft
  go_wp2_with fail
  refine HLi.out.mono ?_
  rintro x w6 ⟨rfl, d6, rfl⟩
  go_wp2_with fail
  refine (HSa.out d6).mono ?_
  rintro x w7 ⟨rfl, d7, hw7⟩
  have Bw7 : Hid (Below w.heap.size w w7) := by rw [hw7]; exact below_drewN2 (below_drewN2 Bw5.out d6) d7
  clear hw7 HLi HSa
  go_wp2_with fail
  refine (H8.out w7 Bw7.out).mono ?_
  rintro x wF ⟨hbF, yo, yn, yc, rfl, hresF⟩
  have BwF : Hid (Below w.heap.size w wF) := bel_up' Bw7.out hbF
  have HLF : Hid (Calls Try.prog 23 #[.slice yo yn yc, .int .i64 6, .slice none 0 0, .int .i64 6] wF fun r w' => r = .returned (.bool true) ∧ ∃ n, w' = wF.drewN n) := by
    refine list_gen ?_
    rcases hresF with ⟨h, h2⟩ | ⟨h, h2⟩
    · exact Or.inl ⟨h, yo, yc, by rw [h2]⟩
    · exact absurd h (by decide)
  clear hbF hresF
  go_wp2_with fail
  refine HLF.out.mono ?_
  rintro x wL ⟨rfl, dL, hwL⟩
  have BwL : Hid (Below w.heap.size w wL) := by rw [hwL]; exact below_drewN2 BwF.out dL
  clear hwL HLF
  go_wp2
  go_loopw [11, 25] (fun ve vi wx => ∃ (i : Nat) (e : Int), i ≤ ls ∧ vi = .int .i64 (i : Nat) ∧ ve = .int .i64 e ∧ Hid (e = evS 0 n S i) ∧ wx = wL) (fun _ vi _ => ls - (intOf vi).toNat)
  case atStart => exact ⟨0, 0, by omega, rfl, rfl, by show _ = _; unfold evS; rw [if_neg (fun h => h rfl)]; rfl, rfl⟩
  case round =>
    obtain ⟨i, e, hi, rfl, rfl, HI, hwx⟩ := hrel
    have hwx := hwx.symm
    subst hwx
    by_cases hgo : i < ls ∧ e = 0
    · obtain ⟨hlt, rfl⟩ := hgo
      have hib : (i : Int) < (ls : Int) := by omega
      have hib0 : (0 : Int) ≤ (i : Int) := by omega
      obtain ⟨b, off, rfl, hci⟩ := (slz_below HS.out BwL.out) i hlt
      obtain ⟨x, hx⟩ : ∃ x, x = S i := ⟨_, rfl⟩
      rw [← hx] at hci
      have HN : Hid (evS 0 n S (i + 1) = if isp n x = true then 0 else 10) := by rw [hx]; exact evS_next HI.out.symm
      by_cases hneg : x < 0
      · have HV : Hid ((10 : Int) = evS 0 n S (i + 1)) := by
          show _ = _
          rw [HN.out, if_neg (by unfold isp; rw [decide_eq_true_eq]; omega)]
        clear hx
        go_wp2
        go_roundw
        case rel => exact ⟨i + 1, 10, by omega, by go_num, by go_num, HV.out, by first | rfl | trivial⟩
        case measure => simp [intOf]; omega
      · by_cases hge : x ≥ n
        · have hge2 : n ≤ x := by omega
          have HV : Hid ((10 : Int) = evS 0 n S (i + 1)) := by
            show _ = _
            rw [HN.out, if_neg (by unfold isp; rw [decide_eq_true_eq]; omega)]
          clear hx
          go_wp2
          go_roundw
          case rel => exact ⟨i + 1, 10, by omega, by go_num, by go_num, HV.out, by first | rfl | trivial⟩
          case measure => simp [intOf]; omega
        · have hge2 : ¬ n ≤ x := by omega
          have HV : Hid ((0 : Int) = evS 0 n S (i + 1)) := by
            show _ = _
            rw [HN.out, if_pos (by unfold isp; rw [decide_eq_true_eq]; omega)]
          clear hx
          go_wp2
          go_roundw
          case rel => exact ⟨i + 1, 0, by omega, by go_num, by go_num, HV.out, by first | rfl | trivial⟩
          case measure => simp [intOf]; omega
    · have HE : Hid (e = EP) := by
        show _ = _
        rw [HEP.out]
        by_cases hlt : i < ls
        · have he : e ≠ 0 := fun h => hgo ⟨hlt, h⟩
          rw [evS_no (by rw [← HI.out]; exact he) ls (by omega)]; exact HI.out
        · rw [show ls = i by omega]; exact HI.out
      have zEE : (EP == EP) = true := by simp
      have zRR : (RB == RB) = true := by simp
      have tail : ∀ b, ((i : Int) < (ls : Int)) = b → True := fun _ _ => trivial
      clear tail
      by_cases he0 : e = 0
      · have hib : ¬ (i : Int) < (ls : Int) := by
          intro h; exact hgo ⟨by omega, he0⟩
        have hEP0 : EP = 0 := by rw [← HE.out]; exact he0
        have HC := H11.out hEP0
        have HC : Hid _ := HC
        have HT : Hid _ := H10.out
        have HE0 : Hid (EP = 0) := hEP0
        clear hgo HE
        subst he0
        go_wp2_with fail
        refine (HT.out wL BwL.out).mono ?_
        rintro x wM ⟨rfl, hbM⟩
        rw [HE0.out]
        have BwM : Hid (Below w.heap.size w wM) := bel_up' BwL.out hbM
        clear hbM
        go_wp2_with fail
        refine (HC.out wM BwM.out).mono ?_
        rintro x wN ⟨rfl, hbN⟩
        have BwN : Hid (Below w.heap.size w wN) := bel_up' BwM.out hbN
        clear hbN
        go_wp2
        go_ret
        exact ⟨by first | rfl | simp, BwN.out⟩
      · have hz : (e == 0) = false := beq_eq_false_iff_ne.2 he0
        have hee : (e == e) = true := by simp
        have HR : Hid (RB = false) := H12.out (by rw [← HE.out]; exact he0)
        have HT : Hid (∀ wx, Below w.heap.size w wx → Calls Try.prog 36 #[.int .i64 n, .slice ao m ca, .slice so ls cs] wx fun x w' => x = .returned (.tuple #[.bool false, .int .i64 e]) ∧ Below wx.heap.size wx w') := by
          have h := H10.out
          rw [HR.out, ← HE.out] at h
          exact h
        clear hgo HE he0
        by_cases hib : (i : Int) < (ls : Int)
        · go_wp2_with fail
          refine (HT.out wL BwL.out).mono ?_
          rintro x wM ⟨rfl, hbM⟩
          have BwM : Hid (Below w.heap.size w wM) := bel_up' BwL.out hbM
          clear hbM
          go_wp2
          go_ret
          exact ⟨by first | rfl | simp, BwM.out⟩
        · go_wp2_with fail
          refine (HT.out wL BwL.out).mono ?_
          rintro x wM ⟨rfl, hbM⟩
          have BwM : Hid (Below w.heap.size w wM) := bel_up' BwL.out hbM
          clear hbM
          go_wp2
          go_ret
          exact ⟨by first | rfl | simp, BwM.out⟩
set_option maxHeartbeats 16000000 in
set_option maxRecDepth 100000 in
theorem sparseSays_c3 (n most EP : Int) (RB : Bool) {L3 : List Int} {ao wo so : Option Addr} {m ca l cw ls cs : Nat} {S : Nat → Int} {w : World} (hlen : l + ls ≤ 200)
    (hl : (l : Int) = n)
    (hH : Calls Try.prog 20 #[.slice ao m ca] w fun x w' => x = .returned (.bool false) ∧ w' = w)
    (h1 : ∀ wx, Below w.heap.size w wx → Calls Try.prog 28 #[.int .i64 n, .slice ao m ca] wx fun x w' => x = .returned (.int .i64 0) ∧ Below wx.heap.size wx w')
    (h2 : ∀ wx, Below w.heap.size w wx → Calls Try.prog 29 #[.int .i64 n, .slice ao m ca] wx fun x w' => x = .returned (.int .i64 0) ∧ Below wx.heap.size wx w')
    (h3 : ∀ wx, Below w.heap.size w wx → Calls Try.prog 30 #[.slice wo l cw, .bool true] wx fun x w' => x = .returned (.bool false) ∧ Below wx.heap.size wx w')
    (h5 : ∀ wx, Below w.heap.size w wx → Calls Try.prog 32 #[.int .i64 n, .slice ao m ca, .slice wo l cw] wx (PlP 2 [] [] wx))
    (h6 : ∀ wx, Below w.heap.size w wx → Calls Try.prog 30 #[.slice wo l cw, .bool false] wx fun x w' => x = .returned (.bool false) ∧ Below wx.heap.size wx w')
    (h8 : ∀ wx, Below w.heap.size w wx → Calls Try.prog 35 #[.int .i64 n, .slice ao m ca, .slice wo l cw, .int .i64 most] wx (FlP 2 L3 false 0 wx))
    (hS : SlZ so ls S w)
    (h10 : ∀ wx, Below w.heap.size w wx → Calls Try.prog 36 #[.int .i64 n, .slice ao m ca, .slice so ls cs] wx fun x w' => x = .returned (.tuple #[.bool RB, .int .i64 EP]) ∧ Below wx.heap.size wx w')
    (h11 : EP = 0 → ∀ wx, Below w.heap.size w wx → Calls Try.prog 37 #[.slice ao m ca, .slice so ls cs] wx fun x w' => x = .returned (.bool RB) ∧ Below wx.heap.size wx w')
    (h12 : EP ≠ 0 → RB = false)
    (hEP : EP = evS 0 n S ls) :
    Calls Try.prog 7 #[.int .i64 n, .slice ao m ca, .slice wo l cw, .slice so ls cs, .int .i64 most] w fun x w' => x = .returned (.bool true) ∧ Below w.heap.size w w' := by
  obtain ⟨N1, hN1⟩ : ∃ N1, N1 = l + ls := ⟨_, rfl⟩
  have g1 : IntKind.i64.wrap ((l : Int) + (ls : Int)) = (N1 : Int) := wrap_to (by omega) (by omega)
  have g3 : ¬ (200 : Int) < (N1 : Int) := by omega
  have HH : Hid (Calls Try.prog 20 #[.slice ao m ca] w fun x w' => x = .returned (.bool false) ∧ w' = w) := hH
  have H1 : Hid _ := h1
  have H2 : Hid _ := h2
  have H5 : Hid _ := h5
  have H8 : Hid _ := h8
  have HS : Hid (SlZ so ls S w) := hS
  have H10 : Hid _ := h10
  have H11 : Hid _ := h11
  have H12 : Hid (EP ≠ 0 → RB = false) := h12
  have HEP : Hid (EP = evS 0 n S ls) := hEP
  have H3 : Hid _ := h3
  have H6 : Hid _ := h6
  have zl : ((l : Int) != n) = false := by rw [hl]; simp
  have Bw : Hid (Below w.heap.size w w) := Below.refl _ _
  clear hN1 hH h1 h2 h5 h8 hS h10 h11 h12 hEP h3 h6 hl
  go_enter Try.func7, Try.ntmps7
  go_wp2_with fail
  refine HH.out.mono ?_
  rintro x w0 ⟨rfl, hw0⟩
  have hw0 := hw0.symm
  subst hw0
  go_wp2_with fail
  refine (H1.out w Bw.out).mono ?_
  rintro x w1 ⟨rfl, hbw1⟩
  have Bw1 : Hid (Below w.heap.size w w1) := bel_up' Bw.out hbw1
  clear hbw1
  go_wp2_with fail
  refine (H2.out w1 Bw1.out).mono ?_
  rintro x w2 ⟨rfl, hbw2⟩
  have Bw2 : Hid (Below w.heap.size w w2) := bel_up' Bw1.out hbw2
  clear hbw2
  go_wp2_with fail
  refine (H3.out w2 Bw2.out).mono ?_
  rintro x w3 ⟨rfl, hbw3⟩
  have Bw3 : Hid (Below w.heap.size w w3) := bel_up' Bw2.out hbw3
  clear hbw3
  go_wp2_with fail
  refine (H5.out w3 Bw3.out).mono ?_
  rintro x w5 ⟨hb5, vo, vn, vc, uo, un, uc, rfl, hres, hleft⟩
  have Bw5 : Hid (Below w.heap.size w w5) := bel_up' Bw3.out hb5
  have HLi : Hid (Calls Try.prog 23 #[.slice vo vn vc, .int .i64 2, .slice none 0 0, .int .i64 2] w5 fun r w' => r = .returned (.bool true) ∧ ∃ n, w' = w5.drewN n) := by
    refine list_gen ?_
    rcases hres with ⟨h, h2⟩ | ⟨h, h2⟩
    · exact Or.inl ⟨h, vo, vc, by rw [h2]⟩
    · exact absurd h (by decide)
  have HSa : Hid (∀ d, Calls Try.prog 33 #[.slice uo un uc, .slice none 0 0] (w5.drewN d) fun r w' => r = .returned (.bool true) ∧ ∃ n, w' = (w5.drewN d).drewN n) := fun d => by
    refine (same_any (hleft.drewN d) (lb := []) (Or.inl ⟨rfl, none, 0, rfl⟩)).mono ?_
    rintro r w' ⟨rfl, h⟩
    exact ⟨by rw [decide_eq_true rfl], h⟩
  clear hb5 hres hleft
  go_wp2_with fail
  refine HLi.out.mono ?_
  rintro x w6 ⟨rfl, d6, rfl⟩
  go_wp2_with fail
  refine (HSa.out d6).mono ?_
  rintro x w7 ⟨rfl, d7, hw7⟩
  have Bw7 : Hid (Below w.heap.size w w7) := by rw [hw7]; exact below_drewN2 (below_drewN2 Bw5.out d6) d7
  clear hw7 HLi HSa
  go_wp2_with fail
  refine (H6.out w7 Bw7.out).mono ?_
  rintro x w8 ⟨rfl, hbw8⟩
  have Bw8 : Hid (Below w.heap.size w w8) := bel_up' Bw7.out hbw8
  clear hbw8
  go_wp2_with fail
  refine (H8.out w8 Bw8.out).mono ?_
  rintro x wF ⟨hbF, yo, yn, yc, rfl, hresF⟩
  have BwF : Hid (Below w.heap.size w wF) := bel_up' Bw8.out hbF
  have HLF : Hid (Calls Try.prog 23 #[.slice yo yn yc, .int .i64 2, .slice none 0 0, .int .i64 2] wF fun r w' => r = .returned (.bool true) ∧ ∃ n, w' = wF.drewN n) := by
    refine list_gen ?_
    rcases hresF with ⟨h, h2⟩ | ⟨h, h2⟩
    · exact Or.inl ⟨h, yo, yc, by rw [h2]⟩
    · exact absurd h (by decide)
  clear hbF hresF
  go_wp2_with fail
  refine HLF.out.mono ?_
  rintro x wL ⟨rfl, dL, hwL⟩
  have BwL : Hid (Below w.heap.size w wL) := by rw [hwL]; exact below_drewN2 BwF.out dL
  clear hwL HLF
  go_wp2
  go_loopw [11, 25] (fun ve vi wx => ∃ (i : Nat) (e : Int), i ≤ ls ∧ vi = .int .i64 (i : Nat) ∧ ve = .int .i64 e ∧ Hid (e = evS 0 n S i) ∧ wx = wL) (fun _ vi _ => ls - (intOf vi).toNat)
  case atStart => exact ⟨0, 0, by omega, rfl, rfl, by show _ = _; unfold evS; rw [if_neg (fun h => h rfl)]; rfl, rfl⟩
  case round =>
    obtain ⟨i, e, hi, rfl, rfl, HI, hwx⟩ := hrel
    have hwx := hwx.symm
    subst hwx
    by_cases hgo : i < ls ∧ e = 0
    · obtain ⟨hlt, rfl⟩ := hgo
      have hib : (i : Int) < (ls : Int) := by omega
      have hib0 : (0 : Int) ≤ (i : Int) := by omega
      obtain ⟨b, off, rfl, hci⟩ := (slz_below HS.out BwL.out) i hlt
      obtain ⟨x, hx⟩ : ∃ x, x = S i := ⟨_, rfl⟩
      rw [← hx] at hci
      have HN : Hid (evS 0 n S (i + 1) = if isp n x = true then 0 else 10) := by rw [hx]; exact evS_next HI.out.symm
      by_cases hneg : x < 0
      · have HV : Hid ((10 : Int) = evS 0 n S (i + 1)) := by
          show _ = _
          rw [HN.out, if_neg (by unfold isp; rw [decide_eq_true_eq]; omega)]
        clear hx
        go_wp2
        go_roundw
        case rel => exact ⟨i + 1, 10, by omega, by go_num, by go_num, HV.out, by first | rfl | trivial⟩
        case measure => simp [intOf]; omega
      · by_cases hge : x ≥ n
        · have hge2 : n ≤ x := by omega
          have HV : Hid ((10 : Int) = evS 0 n S (i + 1)) := by
            show _ = _
            rw [HN.out, if_neg (by unfold isp; rw [decide_eq_true_eq]; omega)]
          clear hx
          go_wp2
          go_roundw
          case rel => exact ⟨i + 1, 10, by omega, by go_num, by go_num, HV.out, by first | rfl | trivial⟩
          case measure => simp [intOf]; omega
        · have hge2 : ¬ n ≤ x := by omega
          have HV : Hid ((0 : Int) = evS 0 n S (i + 1)) := by
            show _ = _
            rw [HN.out, if_pos (by unfold isp; rw [decide_eq_true_eq]; omega)]
          clear hx
          go_wp2
          go_roundw
          case rel => exact ⟨i + 1, 0, by omega, by go_num, by go_num, HV.out, by first | rfl | trivial⟩
          case measure => simp [intOf]; omega
    · have HE : Hid (e = EP) := by
        show _ = _
        rw [HEP.out]
        by_cases hlt : i < ls
        · have he : e ≠ 0 := fun h => hgo ⟨hlt, h⟩
          rw [evS_no (by rw [← HI.out]; exact he) ls (by omega)]; exact HI.out
        · rw [show ls = i by omega]; exact HI.out
      have zEE : (EP == EP) = true := by simp
      have zRR : (RB == RB) = true := by simp
      have tail : ∀ b, ((i : Int) < (ls : Int)) = b → True := fun _ _ => trivial
      clear tail
      by_cases he0 : e = 0
      · have hib : ¬ (i : Int) < (ls : Int) := by
          intro h; exact hgo ⟨by omega, he0⟩
        have hEP0 : EP = 0 := by rw [← HE.out]; exact he0
        have HC := H11.out hEP0
        have HC : Hid _ := HC
        have HT : Hid _ := H10.out
        have HE0 : Hid (EP = 0) := hEP0
        clear hgo HE
        subst he0
        go_wp2_with fail
        refine (HT.out wL BwL.out).mono ?_
        rintro x wM ⟨rfl, hbM⟩
        rw [HE0.out]
        have BwM : Hid (Below w.heap.size w wM) := bel_up' BwL.out hbM
        clear hbM
        go_wp2_with fail
        refine (HC.out wM BwM.out).mono ?_
        rintro x wN ⟨rfl, hbN⟩
        have BwN : Hid (Below w.heap.size w wN) := bel_up' BwM.out hbN
        clear hbN
        go_wp2
        go_ret
        exact ⟨by first | rfl | simp, BwN.out⟩
      · have hz : (e == 0) = false := beq_eq_false_iff_ne.2 he0
        have hee : (e == e) = true := by simp
        have HR : Hid (RB = false) := H12.out (by rw [← HE.out]; exact he0)
        have HT : Hid (∀ wx, Below w.heap.size w wx → Calls Try.prog 36 #[.int .i64 n, .slice ao m ca, .slice so ls cs] wx fun x w' => x = .returned (.tuple #[.bool false, .int .i64 e]) ∧ Below wx.heap.size wx w') := by
          have h := H10.out
          rw [HR.out, ← HE.out] at h
          exact h
        clear hgo HE he0
        by_cases hib : (i : Int) < (ls : Int)
        · go_wp2_with fail
          refine (HT.out wL BwL.out).mono ?_
          rintro x wM ⟨rfl, hbM⟩
          have BwM : Hid (Below w.heap.size w wM) := bel_up' BwL.out hbM
          clear hbM
          go_wp2
          go_ret
          exact ⟨by first | rfl | simp, BwM.out⟩
        · go_wp2_with fail
          refine (HT.out wL BwL.out).mono ?_
          rintro x wM ⟨rfl, hbM⟩
          have BwM : Hid (Below w.heap.size w wM) := bel_up' BwL.out hbM
          clear hbM
          go_wp2
          go_ret
          exact ⟨by first | rfl | simp, BwM.out⟩
set_option maxHeartbeats 16000000 in
set_option maxRecDepth 100000 in
theorem sparseSays_c4 (n most EP : Int) (RB : Bool) {L1 L2 L3 : List Int} {ao wo so : Option Addr} {m ca l cw ls cs : Nat} {S : Nat → Int} {w : World} (hlen : l + ls ≤ 200)
    (hl : (l : Int) = n)
    (hH : Calls Try.prog 20 #[.slice ao m ca] w fun x w' => x = .returned (.bool false) ∧ w' = w)
    (h1 : ∀ wx, Below w.heap.size w wx → Calls Try.prog 28 #[.int .i64 n, .slice ao m ca] wx fun x w' => x = .returned (.int .i64 0) ∧ Below wx.heap.size wx w')
    (h2 : ∀ wx, Below w.heap.size w wx → Calls Try.prog 29 #[.int .i64 n, .slice ao m ca] wx fun x w' => x = .returned (.int .i64 0) ∧ Below wx.heap.size wx w')
    (h3 : ∀ wx, Below w.heap.size w wx → Calls Try.prog 30 #[.slice wo l cw, .bool true] wx fun x w' => x = .returned (.bool true) ∧ Below wx.heap.size wx w')
    (h4 : ∀ wx, Below w.heap.size w wx → Calls Try.prog 31 #[.slice ao m ca, .slice wo l cw] wx fun x w' => Below wx.heap.size wx w' ∧ ∃ vo vn vc uo un uc, x = .returned (.tuple #[.slice vo vn vc, .slice uo un uc]) ∧ KI (.slice vo vn vc) L1 w' ∧ KI (.slice uo un uc) L2 w')
    (h5 : ∀ wx, Below w.heap.size w wx → Calls Try.prog 32 #[.int .i64 n, .slice ao m ca, .slice wo l cw] wx (PlP 0 L1 L2 wx))
    (h6 : ∀ wx, Below w.heap.size w wx → Calls Try.prog 30 #[.slice wo l cw, .bool false] wx fun x w' => x = .returned (.bool false) ∧ Below wx.heap.size wx w')
    (h8 : ∀ wx, Below w.heap.size w wx → Calls Try.prog 35 #[.int .i64 n, .slice ao m ca, .slice wo l cw, .int .i64 most] wx (FlP 2 L3 false 0 wx))
    (hS : SlZ so ls S w)
    (h10 : ∀ wx, Below w.heap.size w wx → Calls Try.prog 36 #[.int .i64 n, .slice ao m ca, .slice so ls cs] wx fun x w' => x = .returned (.tuple #[.bool RB, .int .i64 EP]) ∧ Below wx.heap.size wx w')
    (h11 : EP = 0 → ∀ wx, Below w.heap.size w wx → Calls Try.prog 37 #[.slice ao m ca, .slice so ls cs] wx fun x w' => x = .returned (.bool RB) ∧ Below wx.heap.size wx w')
    (h12 : EP ≠ 0 → RB = false)
    (hEP : EP = evS 0 n S ls) :
    Calls Try.prog 7 #[.int .i64 n, .slice ao m ca, .slice wo l cw, .slice so ls cs, .int .i64 most] w fun x w' => x = .returned (.bool true) ∧ Below w.heap.size w w' := by
  obtain ⟨N1, hN1⟩ : ∃ N1, N1 = l + ls := ⟨_, rfl⟩
  have g1 : IntKind.i64.wrap ((l : Int) + (ls : Int)) = (N1 : Int) := wrap_to (by omega) (by omega)
  have g3 : ¬ (200 : Int) < (N1 : Int) := by omega
  have HH : Hid (Calls Try.prog 20 #[.slice ao m ca] w fun x w' => x = .returned (.bool false) ∧ w' = w) := hH
  have H1 : Hid _ := h1
  have H2 : Hid _ := h2
  have H5 : Hid _ := h5
  have H8 : Hid _ := h8
  have HS : Hid (SlZ so ls S w) := hS
  have H10 : Hid _ := h10
  have H11 : Hid _ := h11
  have H12 : Hid (EP ≠ 0 → RB = false) := h12
  have HEP : Hid (EP = evS 0 n S ls) := hEP
  have H3 : Hid _ := h3
  have H6 : Hid _ := h6
  have H4 : Hid _ := h4
  have zl : ((l : Int) != n) = false := by rw [hl]; simp
  have Bw : Hid (Below w.heap.size w w) := Below.refl _ _
  clear hN1 hH h1 h2 h5 h8 hS h10 h11 h12 hEP h3 h6 h4 hl
  go_enter Try.func7, Try.ntmps7
  go_wp2_with fail
  refine HH.out.mono ?_
  rintro x w0 ⟨rfl, hw0⟩
  have hw0 := hw0.symm
  subst hw0
  go_wp2_with fail
  refine (H1.out w Bw.out).mono ?_
  rintro x w1 ⟨rfl, hbw1⟩
  have Bw1 : Hid (Below w.heap.size w w1) := bel_up' Bw.out hbw1
  clear hbw1
  go_wp2_with fail
  refine (H2.out w1 Bw1.out).mono ?_
  rintro x w2 ⟨rfl, hbw2⟩
  have Bw2 : Hid (Below w.heap.size w w2) := bel_up' Bw1.out hbw2
  clear hbw2
  go_wp2_with fail
  refine (H3.out w2 Bw2.out).mono ?_
  rintro x w3 ⟨rfl, hbw3⟩
  have Bw3 : Hid (Below w.heap.size w w3) := bel_up' Bw2.out hbw3
  clear hbw3
  go_wp2_with fail
  refine (H4.out w3 Bw3.out).mono ?_
  rintro x w4 ⟨hb4, fo, fn, fc, eo, en, ec, rfl, hk1, hk2⟩
  have Bw4 : Hid (Below w.heap.size w w4) := bel_up' Bw3.out hb4
  have HK : Hid (KI (.slice fo fn fc) L1 w4 ∧ KI (.slice eo en ec) L2 w4) := ⟨hk1, hk2⟩
  clear hb4 hk1 hk2
  go_wp2_with fail
  refine (H5.out w4 Bw4.out).mono ?_
  rintro x w5 ⟨hb5, vo, vn, vc, uo, un, uc, rfl, hres, hleft⟩
  have Bw5 : Hid (Below w.heap.size w w5) := bel_up' Bw4.out hb5
  have HLi : Hid (Calls Try.prog 23 #[.slice vo vn vc, .int .i64 0, .slice fo fn fc, .int .i64 0] w5 fun r w' => r = .returned (.bool true) ∧ ∃ n, w' = w5.drewN n) := by
    refine list_gen ?_
    rcases hres with ⟨h, h2⟩ | ⟨h, h2⟩
    · exact absurd rfl h
    · exact Or.inr ⟨h, L1, h2, (HK.out.1.below hb5).1⟩
  have HSa : Hid (∀ d, Calls Try.prog 33 #[.slice uo un uc, .slice eo en ec] (w5.drewN d) fun r w' => r = .returned (.bool true) ∧ ∃ n, w' = (w5.drewN d).drewN n) := fun d => by
    refine (same_any (hleft.drewN d) ((HK.out.2.below hb5).1.drewN d)).mono ?_
    rintro r w' ⟨rfl, h⟩
    exact ⟨by rw [decide_eq_true rfl], h⟩
  clear hb5 hres hleft
  go_wp2_with fail
  refine HLi.out.mono ?_
  rintro x w6 ⟨rfl, d6, rfl⟩
  go_wp2_with fail
  refine (HSa.out d6).mono ?_
  rintro x w7 ⟨rfl, d7, hw7⟩
  have Bw7 : Hid (Below w.heap.size w w7) := by rw [hw7]; exact below_drewN2 (below_drewN2 Bw5.out d6) d7
  clear hw7 HLi HSa
  go_wp2_with fail
  refine (H6.out w7 Bw7.out).mono ?_
  rintro x w8 ⟨rfl, hbw8⟩
  have Bw8 : Hid (Below w.heap.size w w8) := bel_up' Bw7.out hbw8
  clear hbw8
  go_wp2_with fail
  refine (H8.out w8 Bw8.out).mono ?_
  rintro x wF ⟨hbF, yo, yn, yc, rfl, hresF⟩
  have BwF : Hid (Below w.heap.size w wF) := bel_up' Bw8.out hbF
  have HLF : Hid (Calls Try.prog 23 #[.slice yo yn yc, .int .i64 2, .slice none 0 0, .int .i64 2] wF fun r w' => r = .returned (.bool true) ∧ ∃ n, w' = wF.drewN n) := by
    refine list_gen ?_
    rcases hresF with ⟨h, h2⟩ | ⟨h, h2⟩
    · exact Or.inl ⟨h, yo, yc, by rw [h2]⟩
    · exact absurd h (by decide)
  clear hbF hresF
  go_wp2_with fail
  refine HLF.out.mono ?_
  rintro x wL ⟨rfl, dL, hwL⟩
  have BwL : Hid (Below w.heap.size w wL) := by rw [hwL]; exact below_drewN2 BwF.out dL
  clear hwL HLF
  go_wp2
  go_loopw [11, 25] (fun ve vi wx => ∃ (i : Nat) (e : Int), i ≤ ls ∧ vi = .int .i64 (i : Nat) ∧ ve = .int .i64 e ∧ Hid (e = evS 0 n S i) ∧ wx = wL) (fun _ vi _ => ls - (intOf vi).toNat)
  case atStart => exact ⟨0, 0, by omega, rfl, rfl, by show _ = _; unfold evS; rw [if_neg (fun h => h rfl)]; rfl, rfl⟩
  case round =>
    obtain ⟨i, e, hi, rfl, rfl, HI, hwx⟩ := hrel
    have hwx := hwx.symm
    subst hwx
    by_cases hgo : i < ls ∧ e = 0
    · obtain ⟨hlt, rfl⟩ := hgo
      have hib : (i : Int) < (ls : Int) := by omega
      have hib0 : (0 : Int) ≤ (i : Int) := by omega
      obtain ⟨b, off, rfl, hci⟩ := (slz_below HS.out BwL.out) i hlt
      obtain ⟨x, hx⟩ : ∃ x, x = S i := ⟨_, rfl⟩
      rw [← hx] at hci
      have HN : Hid (evS 0 n S (i + 1) = if isp n x = true then 0 else 10) := by rw [hx]; exact evS_next HI.out.symm
      by_cases hneg : x < 0
      · have HV : Hid ((10 : Int) = evS 0 n S (i + 1)) := by
          show _ = _
          rw [HN.out, if_neg (by unfold isp; rw [decide_eq_true_eq]; omega)]
        clear hx
        go_wp2
        go_roundw
        case rel => exact ⟨i + 1, 10, by omega, by go_num, by go_num, HV.out, by first | rfl | trivial⟩
        case measure => simp [intOf]; omega
      · by_cases hge : x ≥ n
        · have hge2 : n ≤ x := by omega
          have HV : Hid ((10 : Int) = evS 0 n S (i + 1)) := by
            show _ = _
            rw [HN.out, if_neg (by unfold isp; rw [decide_eq_true_eq]; omega)]
          clear hx
          go_wp2
          go_roundw
          case rel => exact ⟨i + 1, 10, by omega, by go_num, by go_num, HV.out, by first | rfl | trivial⟩
          case measure => simp [intOf]; omega
        · have hge2 : ¬ n ≤ x := by omega
          have HV : Hid ((0 : Int) = evS 0 n S (i + 1)) := by
            show _ = _
            rw [HN.out, if_pos (by unfold isp; rw [decide_eq_true_eq]; omega)]
          clear hx
          go_wp2
          go_roundw
          case rel => exact ⟨i + 1, 0, by omega, by go_num, by go_num, HV.out, by first | rfl | trivial⟩
          case measure => simp [intOf]; omega
    · have HE : Hid (e = EP) := by
        show _ = _
        rw [HEP.out]
        by_cases hlt : i < ls
        · have he : e ≠ 0 := fun h => hgo ⟨hlt, h⟩
          rw [evS_no (by rw [← HI.out]; exact he) ls (by omega)]; exact HI.out
        · rw [show ls = i by omega]; exact HI.out
      have zEE : (EP == EP) = true := by simp
      have zRR : (RB == RB) = true := by simp
      have tail : ∀ b, ((i : Int) < (ls : Int)) = b → True := fun _ _ => trivial
      clear tail
      by_cases he0 : e = 0
      · have hib : ¬ (i : Int) < (ls : Int) := by
          intro h; exact hgo ⟨by omega, he0⟩
        have hEP0 : EP = 0 := by rw [← HE.out]; exact he0
        have HC := H11.out hEP0
        have HC : Hid _ := HC
        have HT : Hid _ := H10.out
        have HE0 : Hid (EP = 0) := hEP0
        clear hgo HE
        subst he0
        go_wp2_with fail
        refine (HT.out wL BwL.out).mono ?_
        rintro x wM ⟨rfl, hbM⟩
        rw [HE0.out]
        have BwM : Hid (Below w.heap.size w wM) := bel_up' BwL.out hbM
        clear hbM
        go_wp2_with fail
        refine (HC.out wM BwM.out).mono ?_
        rintro x wN ⟨rfl, hbN⟩
        have BwN : Hid (Below w.heap.size w wN) := bel_up' BwM.out hbN
        clear hbN
        go_wp2
        go_ret
        exact ⟨by first | rfl | simp, BwN.out⟩
      · have hz : (e == 0) = false := beq_eq_false_iff_ne.2 he0
        have hee : (e == e) = true := by simp
        have HR : Hid (RB = false) := H12.out (by rw [← HE.out]; exact he0)
        have HT : Hid (∀ wx, Below w.heap.size w wx → Calls Try.prog 36 #[.int .i64 n, .slice ao m ca, .slice so ls cs] wx fun x w' => x = .returned (.tuple #[.bool false, .int .i64 e]) ∧ Below wx.heap.size wx w') := by
          have h := H10.out
          rw [HR.out, ← HE.out] at h
          exact h
        clear hgo HE he0
        by_cases hib : (i : Int) < (ls : Int)
        · go_wp2_with fail
          refine (HT.out wL BwL.out).mono ?_
          rintro x wM ⟨rfl, hbM⟩
          have BwM : Hid (Below w.heap.size w wM) := bel_up' BwL.out hbM
          clear hbM
          go_wp2
          go_ret
          exact ⟨by first | rfl | simp, BwM.out⟩
        · go_wp2_with fail
          refine (HT.out wL BwL.out).mono ?_
          rintro x wM ⟨rfl, hbM⟩
          have BwM : Hid (Below w.heap.size w wM) := bel_up' BwL.out hbM
          clear hbM
          go_wp2
          go_ret
          exact ⟨by first | rfl | simp, BwM.out⟩
set_option maxHeartbeats 16000000 in
set_option maxRecDepth 100000 in
theorem sparseSays_c5a (n most EP : Int) (RB : Bool) {L1 L2 L3 : List Int} {ao wo so : Option Addr} {m ca l cw ls cs : Nat} {S : Nat → Int} {w : World} (hlen : l + ls ≤ 200)
    (hl : (l : Int) = n)
    (hmost : most < 0)
    (hH : Calls Try.prog 20 #[.slice ao m ca] w fun x w' => x = .returned (.bool false) ∧ w' = w)
    (h1 : ∀ wx, Below w.heap.size w wx → Calls Try.prog 28 #[.int .i64 n, .slice ao m ca] wx fun x w' => x = .returned (.int .i64 0) ∧ Below wx.heap.size wx w')
    (h2 : ∀ wx, Below w.heap.size w wx → Calls Try.prog 29 #[.int .i64 n, .slice ao m ca] wx fun x w' => x = .returned (.int .i64 0) ∧ Below wx.heap.size wx w')
    (h3 : ∀ wx, Below w.heap.size w wx → Calls Try.prog 30 #[.slice wo l cw, .bool true] wx fun x w' => x = .returned (.bool true) ∧ Below wx.heap.size wx w')
    (h4 : ∀ wx, Below w.heap.size w wx → Calls Try.prog 31 #[.slice ao m ca, .slice wo l cw] wx fun x w' => Below wx.heap.size wx w' ∧ ∃ vo vn vc uo un uc, x = .returned (.tuple #[.slice vo vn vc, .slice uo un uc]) ∧ KI (.slice vo vn vc) L1 w' ∧ KI (.slice uo un uc) L2 w')
    (h5 : ∀ wx, Below w.heap.size w wx → Calls Try.prog 32 #[.int .i64 n, .slice ao m ca, .slice wo l cw] wx (PlP 0 L1 L2 wx))
    (h6 : ∀ wx, Below w.heap.size w wx → Calls Try.prog 30 #[.slice wo l cw, .bool false] wx fun x w' => x = .returned (.bool true) ∧ Below wx.heap.size wx w')
    (h8 : ∀ wx, Below w.heap.size w wx → Calls Try.prog 35 #[.int .i64 n, .slice ao m ca, .slice wo l cw, .int .i64 most] wx (FlP 6 L3 false 0 wx))
    (hS : SlZ so ls S w)
    (h10 : ∀ wx, Below w.heap.size w wx → Calls Try.prog 36 #[.int .i64 n, .slice ao m ca, .slice so ls cs] wx fun x w' => x = .returned (.tuple #[.bool RB, .int .i64 EP]) ∧ Below wx.heap.size wx w')
    (h11 : EP = 0 → ∀ wx, Below w.heap.size w wx → Calls Try.prog 37 #[.slice ao m ca, .slice so ls cs] wx fun x w' => x = .returned (.bool RB) ∧ Below wx.heap.size wx w')
    (h12 : EP ≠ 0 → RB = false)
    (hEP : EP = evS 0 n S ls) :
    Calls Try.prog 7 #[.int .i64 n, .slice ao m ca, .slice wo l cw, .slice so ls cs, .int .i64 most] w fun x w' => x = .returned (.bool true) ∧ Below w.heap.size w w' := by
  obtain ⟨N1, hN1⟩ : ∃ N1, N1 = l + ls := ⟨_, rfl⟩
  have g1 : IntKind.i64.wrap ((l : Int) + (ls : Int)) = (N1 : Int) := wrap_to (by omega) (by omega)
  have g3 : ¬ (200 : Int) < (N1 : Int) := by omega
  have HH : Hid (Calls Try.prog 20 #[.slice ao m ca] w fun x w' => x = .returned (.bool false) ∧ w' = w) := hH
  have H1 : Hid _ := h1
  have H2 : Hid _ := h2
  have H5 : Hid _ := h5
  have H8 : Hid _ := h8
  have HS : Hid (SlZ so ls S w) := hS
  have H10 : Hid _ := h10
  have H11 : Hid _ := h11
  have H12 : Hid (EP ≠ 0 → RB = false) := h12
  have HEP : Hid (EP = evS 0 n S ls) := hEP
  have H3 : Hid _ := h3
  have H6 : Hid _ := h6
  have H4 : Hid _ := h4
  have zl : ((l : Int) != n) = false := by rw [hl]; simp
  have hmostb : most < 0 := hmost
  have Bw : Hid (Below w.heap.size w w) := Below.refl _ _
  clear hN1 hH h1 h2 h5 h8 hS h10 h11 h12 hEP h3 h6 h4 hl
  go_enter Try.func7, Try.ntmps7
  go_wp2_with fail
  refine HH.out.mono ?_
  rintro x w0 ⟨rfl, hw0⟩
  have hw0 := hw0.symm
  subst hw0
  go_wp2_with fail
  refine (H1.out w Bw.out).mono ?_
  rintro x w1 ⟨rfl, hbw1⟩
  have Bw1 : Hid (Below w.heap.size w w1) := bel_up' Bw.out hbw1
  clear hbw1
  go_wp2_with fail
  refine (H2.out w1 Bw1.out).mono ?_
  rintro x w2 ⟨rfl, hbw2⟩
  have Bw2 : Hid (Below w.heap.size w w2) := bel_up' Bw1.out hbw2
  clear hbw2
  go_wp2_with fail
  refine (H3.out w2 Bw2.out).mono ?_
  rintro x w3 ⟨rfl, hbw3⟩
  have Bw3 : Hid (Below w.heap.size w w3) := bel_up' Bw2.out hbw3
  clear hbw3
  go_wp2_with fail
  refine (H4.out w3 Bw3.out).mono ?_
  rintro x w4 ⟨hb4, fo, fn, fc, eo, en, ec, rfl, hk1, hk2⟩
  have Bw4 : Hid (Below w.heap.size w w4) := bel_up' Bw3.out hb4
  have HK : Hid (KI (.slice fo fn fc) L1 w4 ∧ KI (.slice eo en ec) L2 w4) := ⟨hk1, hk2⟩
  clear hb4 hk1 hk2
  go_wp2_with fail
  refine (H5.out w4 Bw4.out).mono ?_
  rintro x w5 ⟨hb5, vo, vn, vc, uo, un, uc, rfl, hres, hleft⟩
  have Bw5 : Hid (Below w.heap.size w w5) := bel_up' Bw4.out hb5
  have HLi : Hid (Calls Try.prog 23 #[.slice vo vn vc, .int .i64 0, .slice fo fn fc, .int .i64 0] w5 fun r w' => r = .returned (.bool true) ∧ ∃ n, w' = w5.drewN n) := by
    refine list_gen ?_
    rcases hres with ⟨h, h2⟩ | ⟨h, h2⟩
    · exact absurd rfl h
    · exact Or.inr ⟨h, L1, h2, (HK.out.1.below hb5).1⟩
  have HSa : Hid (∀ d, Calls Try.prog 33 #[.slice uo un uc, .slice eo en ec] (w5.drewN d) fun r w' => r = .returned (.bool true) ∧ ∃ n, w' = (w5.drewN d).drewN n) := fun d => by
    refine (same_any (hleft.drewN d) ((HK.out.2.below hb5).1.drewN d)).mono ?_
    rintro r w' ⟨rfl, h⟩
    exact ⟨by rw [decide_eq_true rfl], h⟩
  clear hb5 hres hleft
  go_wp2_with fail
  refine HLi.out.mono ?_
  rintro x w6 ⟨rfl, d6, rfl⟩
  go_wp2_with fail
  refine (HSa.out d6).mono ?_
  rintro x w7 ⟨rfl, d7, hw7⟩
  have Bw7 : Hid (Below w.heap.size w w7) := by rw [hw7]; exact below_drewN2 (below_drewN2 Bw5.out d6) d7
  clear hw7 HLi HSa
  go_wp2_with fail
  refine (H6.out w7 Bw7.out).mono ?_
  rintro x w8 ⟨rfl, hbw8⟩
  have Bw8 : Hid (Below w.heap.size w w8) := bel_up' Bw7.out hbw8
  clear hbw8
  go_wp2_with fail
  refine (H8.out w8 Bw8.out).mono ?_
  rintro x wF ⟨hbF, yo, yn, yc, rfl, hresF⟩
  have BwF : Hid (Below w.heap.size w wF) := bel_up' Bw8.out hbF
  have HLF : Hid (Calls Try.prog 23 #[.slice yo yn yc, .int .i64 6, .slice none 0 0, .int .i64 6] wF fun r w' => r = .returned (.bool true) ∧ ∃ n, w' = wF.drewN n) := by
    refine list_gen ?_
    rcases hresF with ⟨h, h2⟩ | ⟨h, h2⟩
    · exact Or.inl ⟨h, yo, yc, by rw [h2]⟩
    · exact absurd h (by decide)
  clear hbF hresF
  go_wp2_with fail
  refine HLF.out.mono ?_
  rintro x wL ⟨rfl, dL, hwL⟩
  have BwL : Hid (Below w.heap.size w wL) := by rw [hwL]; exact below_drewN2 BwF.out dL
  clear hwL HLF
  go_wp2
  go_loopw [11, 25] (fun ve vi wx => ∃ (i : Nat) (e : Int), i ≤ ls ∧ vi = .int .i64 (i : Nat) ∧ ve = .int .i64 e ∧ Hid (e = evS 0 n S i) ∧ wx = wL) (fun _ vi _ => ls - (intOf vi).toNat)
  case atStart => exact ⟨0, 0, by omega, rfl, rfl, by show _ = _; unfold evS; rw [if_neg (fun h => h rfl)]; rfl, rfl⟩
  case round =>
    obtain ⟨i, e, hi, rfl, rfl, HI, hwx⟩ := hrel
    have hwx := hwx.symm
    subst hwx
    by_cases hgo : i < ls ∧ e = 0
    · obtain ⟨hlt, rfl⟩ := hgo
      have hib : (i : Int) < (ls : Int) := by omega
      have hib0 : (0 : Int) ≤ (i : Int) := by omega
      obtain ⟨b, off, rfl, hci⟩ := (slz_below HS.out BwL.out) i hlt
      obtain ⟨x, hx⟩ : ∃ x, x = S i := ⟨_, rfl⟩
      rw [← hx] at hci
      have HN : Hid (evS 0 n S (i + 1) = if isp n x = true then 0 else 10) := by rw [hx]; exact evS_next HI.out.symm
      by_cases hneg : x < 0
      · have HV : Hid ((10 : Int) = evS 0 n S (i + 1)) := by
          show _ = _
          rw [HN.out, if_neg (by unfold isp; rw [decide_eq_true_eq]; omega)]
        clear hx
        go_wp2
        go_roundw
        case rel => exact ⟨i + 1, 10, by omega, by go_num, by go_num, HV.out, by first | rfl | trivial⟩
        case measure => simp [intOf]; omega
      · by_cases hge : x ≥ n
        · have hge2 : n ≤ x := by omega
          have HV : Hid ((10 : Int) = evS 0 n S (i + 1)) := by
            show _ = _
            rw [HN.out, if_neg (by unfold isp; rw [decide_eq_true_eq]; omega)]
          clear hx
          go_wp2
          go_roundw
          case rel => exact ⟨i + 1, 10, by omega, by go_num, by go_num, HV.out, by first | rfl | trivial⟩
          case measure => simp [intOf]; omega
        · have hge2 : ¬ n ≤ x := by omega
          have HV : Hid ((0 : Int) = evS 0 n S (i + 1)) := by
            show _ = _
            rw [HN.out, if_pos (by unfold isp; rw [decide_eq_true_eq]; omega)]
          clear hx
          go_wp2
          go_roundw
          case rel => exact ⟨i + 1, 0, by omega, by go_num, by go_num, HV.out, by first | rfl | trivial⟩
          case measure => simp [intOf]; omega
    · have HE : Hid (e = EP) := by
        show _ = _
        rw [HEP.out]
        by_cases hlt : i < ls
        · have he : e ≠ 0 := fun h => hgo ⟨hlt, h⟩
          rw [evS_no (by rw [← HI.out]; exact he) ls (by omega)]; exact HI.out
        · rw [show ls = i by omega]; exact HI.out
      have zEE : (EP == EP) = true := by simp
      have zRR : (RB == RB) = true := by simp
      have tail : ∀ b, ((i : Int) < (ls : Int)) = b → True := fun _ _ => trivial
      clear tail
      by_cases he0 : e = 0
      · have hib : ¬ (i : Int) < (ls : Int) := by
          intro h; exact hgo ⟨by omega, he0⟩
        have hEP0 : EP = 0 := by rw [← HE.out]; exact he0
        have HC := H11.out hEP0
        have HC : Hid _ := HC
        have HT : Hid _ := H10.out
        have HE0 : Hid (EP = 0) := hEP0
        clear hgo HE
        subst he0
        go_wp2_with fail
        refine (HT.out wL BwL.out).mono ?_
        rintro x wM ⟨rfl, hbM⟩
        rw [HE0.out]
        have BwM : Hid (Below w.heap.size w wM) := bel_up' BwL.out hbM
        clear hbM
        go_wp2_with fail
        refine (HC.out wM BwM.out).mono ?_
        rintro x wN ⟨rfl, hbN⟩
        have BwN : Hid (Below w.heap.size w wN) := bel_up' BwM.out hbN
        clear hbN
        go_wp2
        go_ret
        exact ⟨by first | rfl | simp, BwN.out⟩
      · have hz : (e == 0) = false := beq_eq_false_iff_ne.2 he0
        have hee : (e == e) = true := by simp
        have HR : Hid (RB = false) := H12.out (by rw [← HE.out]; exact he0)
        have HT : Hid (∀ wx, Below w.heap.size w wx → Calls Try.prog 36 #[.int .i64 n, .slice ao m ca, .slice so ls cs] wx fun x w' => x = .returned (.tuple #[.bool false, .int .i64 e]) ∧ Below wx.heap.size wx w') := by
          have h := H10.out
          rw [HR.out, ← HE.out] at h
          exact h
        clear hgo HE he0
        by_cases hib : (i : Int) < (ls : Int)
        · go_wp2_with fail
          refine (HT.out wL BwL.out).mono ?_
          rintro x wM ⟨rfl, hbM⟩
          have BwM : Hid (Below w.heap.size w wM) := bel_up' BwL.out hbM
          clear hbM
          go_wp2
          go_ret
          exact ⟨by first | rfl | simp, BwM.out⟩
        · go_wp2_with fail
          refine (HT.out wL BwL.out).mono ?_
          rintro x wM ⟨rfl, hbM⟩
          have BwM : Hid (Below w.heap.size w wM) := bel_up' BwL.out hbM
          clear hbM
          go_wp2
          go_ret
          exact ⟨by first | rfl | simp, BwM.out⟩
set_option maxHeartbeats 16000000 in
set_option maxRecDepth 100000 in
theorem sparseSays_c5b (n most EP : Int) (RB : Bool) {L1 L2 L3 : List Int} {ao wo so : Option Addr} {m ca l cw ls cs : Nat} {S : Nat → Int} {w : World} (hlen : l + ls ≤ 200)
    (hl : (l : Int) = n)
    (hmost0 : ¬ most < 0) (hmost : most > 100)
    (hH : Calls Try.prog 20 #[.slice ao m ca] w fun x w' => x = .returned (.bool false) ∧ w' = w)
    (h1 : ∀ wx, Below w.heap.size w wx → Calls Try.prog 28 #[.int .i64 n, .slice ao m ca] wx fun x w' => x = .returned (.int .i64 0) ∧ Below wx.heap.size wx w')
    (h2 : ∀ wx, Below w.heap.size w wx → Calls Try.prog 29 #[.int .i64 n, .slice ao m ca] wx fun x w' => x = .returned (.int .i64 0) ∧ Below wx.heap.size wx w')
    (h3 : ∀ wx, Below w.heap.size w wx → Calls Try.prog 30 #[.slice wo l cw, .bool true] wx fun x w' => x = .returned (.bool true) ∧ Below wx.heap.size wx w')
    (h4 : ∀ wx, Below w.heap.size w wx → Calls Try.prog 31 #[.slice ao m ca, .slice wo l cw] wx fun x w' => Below wx.heap.size wx w' ∧ ∃ vo vn vc uo un uc, x = .returned (.tuple #[.slice vo vn vc, .slice uo un uc]) ∧ KI (.slice vo vn vc) L1 w' ∧ KI (.slice uo un uc) L2 w')
    (h5 : ∀ wx, Below w.heap.size w wx → Calls Try.prog 32 #[.int .i64 n, .slice ao m ca, .slice wo l cw] wx (PlP 0 L1 L2 wx))
    (h6 : ∀ wx, Below w.heap.size w wx → Calls Try.prog 30 #[.slice wo l cw, .bool false] wx fun x w' => x = .returned (.bool true) ∧ Below wx.heap.size wx w')
    (h8 : ∀ wx, Below w.heap.size w wx → Calls Try.prog 35 #[.int .i64 n, .slice ao m ca, .slice wo l cw, .int .i64 most] wx (FlP 6 L3 false 0 wx))
    (hS : SlZ so ls S w)
    (h10 : ∀ wx, Below w.heap.size w wx → Calls Try.prog 36 #[.int .i64 n, .slice ao m ca, .slice so ls cs] wx fun x w' => x = .returned (.tuple #[.bool RB, .int .i64 EP]) ∧ Below wx.heap.size wx w')
    (h11 : EP = 0 → ∀ wx, Below w.heap.size w wx → Calls Try.prog 37 #[.slice ao m ca, .slice so ls cs] wx fun x w' => x = .returned (.bool RB) ∧ Below wx.heap.size wx w')
    (h12 : EP ≠ 0 → RB = false)
    (hEP : EP = evS 0 n S ls) :
    Calls Try.prog 7 #[.int .i64 n, .slice ao m ca, .slice wo l cw, .slice so ls cs, .int .i64 most] w fun x w' => x = .returned (.bool true) ∧ Below w.heap.size w w' := by
  obtain ⟨N1, hN1⟩ : ∃ N1, N1 = l + ls := ⟨_, rfl⟩
  have g1 : IntKind.i64.wrap ((l : Int) + (ls : Int)) = (N1 : Int) := wrap_to (by omega) (by omega)
  have g3 : ¬ (200 : Int) < (N1 : Int) := by omega
  have HH : Hid (Calls Try.prog 20 #[.slice ao m ca] w fun x w' => x = .returned (.bool false) ∧ w' = w) := hH
  have H1 : Hid _ := h1
  have H2 : Hid _ := h2
  have H5 : Hid _ := h5
  have H8 : Hid _ := h8
  have HS : Hid (SlZ so ls S w) := hS
  have H10 : Hid _ := h10
  have H11 : Hid _ := h11
  have H12 : Hid (EP ≠ 0 → RB = false) := h12
  have HEP : Hid (EP = evS 0 n S ls) := hEP
  have H3 : Hid _ := h3
  have H6 : Hid _ := h6
  have H4 : Hid _ := h4
  have zl : ((l : Int) != n) = false := by rw [hl]; simp
  have hmostb : (100 : Int) < most := hmost
  have Bw : Hid (Below w.heap.size w w) := Below.refl _ _
  clear hN1 hH h1 h2 h5 h8 hS h10 h11 h12 hEP h3 h6 h4 hl
  go_enter Try.func7, Try.ntmps7
  go_wp2_with fail
  refine HH.out.mono ?_
  rintro x w0 ⟨rfl, hw0⟩
  have hw0 := hw0.symm
  subst hw0
  go_wp2_with fail
  refine (H1.out w Bw.out).mono ?_
  rintro x w1 ⟨rfl, hbw1⟩
  have Bw1 : Hid (Below w.heap.size w w1) := bel_up' Bw.out hbw1
  clear hbw1
  go_wp2_with fail
  refine (H2.out w1 Bw1.out).mono ?_
  rintro x w2 ⟨rfl, hbw2⟩
  have Bw2 : Hid (Below w.heap.size w w2) := bel_up' Bw1.out hbw2
  clear hbw2
  go_wp2_with fail
  refine (H3.out w2 Bw2.out).mono ?_
  rintro x w3 ⟨rfl, hbw3⟩
  have Bw3 : Hid (Below w.heap.size w w3) := bel_up' Bw2.out hbw3
  clear hbw3
  go_wp2_with fail
  refine (H4.out w3 Bw3.out).mono ?_
  rintro x w4 ⟨hb4, fo, fn, fc, eo, en, ec, rfl, hk1, hk2⟩
  have Bw4 : Hid (Below w.heap.size w w4) := bel_up' Bw3.out hb4
  have HK : Hid (KI (.slice fo fn fc) L1 w4 ∧ KI (.slice eo en ec) L2 w4) := ⟨hk1, hk2⟩
  clear hb4 hk1 hk2
  go_wp2_with fail
  refine (H5.out w4 Bw4.out).mono ?_
  rintro x w5 ⟨hb5, vo, vn, vc, uo, un, uc, rfl, hres, hleft⟩
  have Bw5 : Hid (Below w.heap.size w w5) := bel_up' Bw4.out hb5
  have HLi : Hid (Calls Try.prog 23 #[.slice vo vn vc, .int .i64 0, .slice fo fn fc, .int .i64 0] w5 fun r w' => r = .returned (.bool true) ∧ ∃ n, w' = w5.drewN n) := by
    refine list_gen ?_
    rcases hres with ⟨h, h2⟩ | ⟨h, h2⟩
    · exact absurd rfl h
    · exact Or.inr ⟨h, L1, h2, (HK.out.1.below hb5).1⟩
  have HSa : Hid (∀ d, Calls Try.prog 33 #[.slice uo un uc, .slice eo en ec] (w5.drewN d) fun r w' => r = .returned (.bool true) ∧ ∃ n, w' = (w5.drewN d).drewN n) := fun d => by
    refine (same_any (hleft.drewN d) ((HK.out.2.below hb5).1.drewN d)).mono ?_
    rintro r w' ⟨rfl, h⟩
    exact ⟨by rw [decide_eq_true rfl], h⟩
  clear hb5 hres hleft
  go_wp2_with fail
  refine HLi.out.mono ?_
  rintro x w6 ⟨rfl, d6, rfl⟩
  go_wp2_with fail
  refine (HSa.out d6).mono ?_
  rintro x w7 ⟨rfl, d7, hw7⟩
  have Bw7 : Hid (Below w.heap.size w w7) := by rw [hw7]; exact below_drewN2 (below_drewN2 Bw5.out d6) d7
  clear hw7 HLi HSa
  go_wp2_with fail
  refine (H6.out w7 Bw7.out).mono ?_
  rintro x w8 ⟨rfl, hbw8⟩
  have Bw8 : Hid (Below w.heap.size w w8) := bel_up' Bw7.out hbw8
  clear hbw8
  go_wp2_with fail
  refine (H8.out w8 Bw8.out).mono ?_
  rintro x wF ⟨hbF, yo, yn, yc, rfl, hresF⟩
  have BwF : Hid (Below w.heap.size w wF) := bel_up' Bw8.out hbF
  have HLF : Hid (Calls Try.prog 23 #[.slice yo yn yc, .int .i64 6, .slice none 0 0, .int .i64 6] wF fun r w' => r = .returned (.bool true) ∧ ∃ n, w' = wF.drewN n) := by
    refine list_gen ?_
    rcases hresF with ⟨h, h2⟩ | ⟨h, h2⟩
    · exact Or.inl ⟨h, yo, yc, by rw [h2]⟩
    · exact absurd h (by decide)
  clear hbF hresF
  go_wp2_with fail
  refine HLF.out.mono ?_
  rintro x wL ⟨rfl, dL, hwL⟩
  have BwL : Hid (Below w.heap.size w wL) := by rw [hwL]; exact below_drewN2 BwF.out dL
  clear hwL HLF
  go_wp2
  go_loopw [11, 25] (fun ve vi wx => ∃ (i : Nat) (e : Int), i ≤ ls ∧ vi = .int .i64 (i : Nat) ∧ ve = .int .i64 e ∧ Hid (e = evS 0 n S i) ∧ wx = wL) (fun _ vi _ => ls - (intOf vi).toNat)
  case atStart => exact ⟨0, 0, by omega, rfl, rfl, by show _ = _; unfold evS; rw [if_neg (fun h => h rfl)]; rfl, rfl⟩
  case round =>
    obtain ⟨i, e, hi, rfl, rfl, HI, hwx⟩ := hrel
    have hwx := hwx.symm
    subst hwx
    by_cases hgo : i < ls ∧ e = 0
    · obtain ⟨hlt, rfl⟩ := hgo
      have hib : (i : Int) < (ls : Int) := by omega
      have hib0 : (0 : Int) ≤ (i : Int) := by omega
      obtain ⟨b, off, rfl, hci⟩ := (slz_below HS.out BwL.out) i hlt
      obtain ⟨x, hx⟩ : ∃ x, x = S i := ⟨_, rfl⟩
      rw [← hx] at hci
      have HN : Hid (evS 0 n S (i + 1) = if isp n x = true then 0 else 10) := by rw [hx]; exact evS_next HI.out.symm
      by_cases hneg : x < 0
      · have HV : Hid ((10 : Int) = evS 0 n S (i + 1)) := by
          show _ = _
          rw [HN.out, if_neg (by unfold isp; rw [decide_eq_true_eq]; omega)]
        clear hx
        go_wp2
        go_roundw
        case rel => exact ⟨i + 1, 10, by omega, by go_num, by go_num, HV.out, by first | rfl | trivial⟩
        case measure => simp [intOf]; omega
      · by_cases hge : x ≥ n
        · have hge2 : n ≤ x := by omega
          have HV : Hid ((10 : Int) = evS 0 n S (i + 1)) := by
            show _ = _
            rw [HN.out, if_neg (by unfold isp; rw [decide_eq_true_eq]; omega)]
          clear hx
          go_wp2
          go_roundw
          case rel => exact ⟨i + 1, 10, by omega, by go_num, by go_num, HV.out, by first | rfl | trivial⟩
          case measure => simp [intOf]; omega
        · have hge2 : ¬ n ≤ x := by omega
          have HV : Hid ((0 : Int) = evS 0 n S (i + 1)) := by
            show _ = _
            rw [HN.out, if_pos (by unfold isp; rw [decide_eq_true_eq]; omega)]
          clear hx
          go_wp2
          go_roundw
          case rel => exact ⟨i + 1, 0, by omega, by go_num, by go_num, HV.out, by first | rfl | trivial⟩
          case measure => simp [intOf]; omega
    · have HE : Hid (e = EP) := by
        show _ = _
        rw [HEP.out]
        by_cases hlt : i < ls
        · have he : e ≠ 0 := fun h => hgo ⟨hlt, h⟩
          rw [evS_no (by rw [← HI.out]; exact he) ls (by omega)]; exact HI.out
        · rw [show ls = i by omega]; exact HI.out
      have zEE : (EP == EP) = true := by simp
      have zRR : (RB == RB) = true := by simp
      have tail : ∀ b, ((i : Int) < (ls : Int)) = b → True := fun _ _ => trivial
      clear tail
      by_cases he0 : e = 0
      · have hib : ¬ (i : Int) < (ls : Int) := by
          intro h; exact hgo ⟨by omega, he0⟩
        have hEP0 : EP = 0 := by rw [← HE.out]; exact he0
        have HC := H11.out hEP0
        have HC : Hid _ := HC
        have HT : Hid _ := H10.out
        have HE0 : Hid (EP = 0) := hEP0
        clear hgo HE
        subst he0
        go_wp2_with fail
        refine (HT.out wL BwL.out).mono ?_
        rintro x wM ⟨rfl, hbM⟩
        rw [HE0.out]
        have BwM : Hid (Below w.heap.size w wM) := bel_up' BwL.out hbM
        clear hbM
        go_wp2_with fail
        refine (HC.out wM BwM.out).mono ?_
        rintro x wN ⟨rfl, hbN⟩
        have BwN : Hid (Below w.heap.size w wN) := bel_up' BwM.out hbN
        clear hbN
        go_wp2
        go_ret
        exact ⟨by first | rfl | simp, BwN.out⟩
      · have hz : (e == 0) = false := beq_eq_false_iff_ne.2 he0
        have hee : (e == e) = true := by simp
        have HR : Hid (RB = false) := H12.out (by rw [← HE.out]; exact he0)
        have HT : Hid (∀ wx, Below w.heap.size w wx → Calls Try.prog 36 #[.int .i64 n, .slice ao m ca, .slice so ls cs] wx fun x w' => x = .returned (.tuple #[.bool false, .int .i64 e]) ∧ Below wx.heap.size wx w') := by
          have h := H10.out
          rw [HR.out, ← HE.out] at h
          exact h
        clear hgo HE he0
        by_cases hib : (i : Int) < (ls : Int)
        · go_wp2_with fail
          refine (HT.out wL BwL.out).mono ?_
          rintro x wM ⟨rfl, hbM⟩
          have BwM : Hid (Below w.heap.size w wM) := bel_up' BwL.out hbM
          clear hbM
          go_wp2
          go_ret
          exact ⟨by first | rfl | simp, BwM.out⟩
        · go_wp2_with fail
          refine (HT.out wL BwL.out).mono ?_
          rintro x wM ⟨rfl, hbM⟩
          have BwM : Hid (Below w.heap.size w wM) := bel_up' BwL.out hbM
          clear hbM
          go_wp2
          go_ret
          exact ⟨by first | rfl | simp, BwM.out⟩
set_option maxHeartbeats 16000000 in
set_option maxRecDepth 100000 in
theorem sparseSays_c6 (n most EP R : Int) (RB B : Bool) {L1 L2 L3 : List Int} {ao wo so : Option Addr} {m ca l cw ls cs : Nat} {S : Nat → Int} {w : World} (hlen : l + ls ≤ 200)
    (hl : (l : Int) = n)
    (hmost0 : ¬ most < 0) (hmost : ¬ most > 100)
    (hH : Calls Try.prog 20 #[.slice ao m ca] w fun x w' => x = .returned (.bool false) ∧ w' = w)
    (h1 : ∀ wx, Below w.heap.size w wx → Calls Try.prog 28 #[.int .i64 n, .slice ao m ca] wx fun x w' => x = .returned (.int .i64 0) ∧ Below wx.heap.size wx w')
    (h2 : ∀ wx, Below w.heap.size w wx → Calls Try.prog 29 #[.int .i64 n, .slice ao m ca] wx fun x w' => x = .returned (.int .i64 0) ∧ Below wx.heap.size wx w')
    (h3 : ∀ wx, Below w.heap.size w wx → Calls Try.prog 30 #[.slice wo l cw, .bool true] wx fun x w' => x = .returned (.bool true) ∧ Below wx.heap.size wx w')
    (h4 : ∀ wx, Below w.heap.size w wx → Calls Try.prog 31 #[.slice ao m ca, .slice wo l cw] wx fun x w' => Below wx.heap.size wx w' ∧ ∃ vo vn vc uo un uc, x = .returned (.tuple #[.slice vo vn vc, .slice uo un uc]) ∧ KI (.slice vo vn vc) L1 w' ∧ KI (.slice uo un uc) L2 w')
    (h5 : ∀ wx, Below w.heap.size w wx → Calls Try.prog 32 #[.int .i64 n, .slice ao m ca, .slice wo l cw] wx (PlP 0 L1 L2 wx))
    (h6 : ∀ wx, Below w.heap.size w wx → Calls Try.prog 30 #[.slice wo l cw, .bool false] wx fun x w' => x = .returned (.bool true) ∧ Below wx.heap.size wx w')
    (h7 : ∀ wx, Below w.heap.size w wx → Calls Try.prog 34 #[.slice ao m ca, .slice wo l cw, .int .i64 most] wx fun x w' => Below wx.heap.size wx w' ∧ ∃ vo vn vc, x = .returned (.tuple #[.slice vo vn vc, .bool B, .int .i64 R]) ∧ KI (.slice vo vn vc) L3 w')
    (h8 : ∀ wx, Below w.heap.size w wx → Calls Try.prog 35 #[.int .i64 n, .slice ao m ca, .slice wo l cw, .int .i64 most] wx (FlP 0 L3 B R wx))
    (hS : SlZ so ls S w)
    (h10 : ∀ wx, Below w.heap.size w wx → Calls Try.prog 36 #[.int .i64 n, .slice ao m ca, .slice so ls cs] wx fun x w' => x = .returned (.tuple #[.bool RB, .int .i64 EP]) ∧ Below wx.heap.size wx w')
    (h11 : EP = 0 → ∀ wx, Below w.heap.size w wx → Calls Try.prog 37 #[.slice ao m ca, .slice so ls cs] wx fun x w' => x = .returned (.bool RB) ∧ Below wx.heap.size wx w')
    (h12 : EP ≠ 0 → RB = false)
    (hEP : EP = evS 0 n S ls) :
    Calls Try.prog 7 #[.int .i64 n, .slice ao m ca, .slice wo l cw, .slice so ls cs, .int .i64 most] w fun x w' => x = .returned (.bool true) ∧ Below w.heap.size w w' := by
  obtain ⟨N1, hN1⟩ : ∃ N1, N1 = l + ls := ⟨_, rfl⟩
  have g1 : IntKind.i64.wrap ((l : Int) + (ls : Int)) = (N1 : Int) := wrap_to (by omega) (by omega)
  have g3 : ¬ (200 : Int) < (N1 : Int) := by omega
  have HH : Hid (Calls Try.prog 20 #[.slice ao m ca] w fun x w' => x = .returned (.bool false) ∧ w' = w) := hH
  have H1 : Hid _ := h1
  have H2 : Hid _ := h2
  have H5 : Hid _ := h5
  have H8 : Hid _ := h8
  have HS : Hid (SlZ so ls S w) := hS
  have H10 : Hid _ := h10
  have H11 : Hid _ := h11
  have H12 : Hid (EP ≠ 0 → RB = false) := h12
  have HEP : Hid (EP = evS 0 n S ls) := hEP
  have H3 : Hid _ := h3
  have H6 : Hid _ := h6
  have H4 : Hid _ := h4
  have H7 : Hid _ := h7
  have zB : (B != B) = false := by simp
  have zR : (R != R) = false := by simp
  have zl : ((l : Int) != n) = false := by rw [hl]; simp
  have hmostb : ¬ (100 : Int) < most := hmost
  have Bw : Hid (Below w.heap.size w w) := Below.refl _ _
  clear hN1 hH h1 h2 h5 h8 hS h10 h11 h12 hEP h3 h6 h4 h7 hl
  go_enter Try.func7, Try.ntmps7
  go_wp2_with fail
  refine HH.out.mono ?_
  rintro x w0 ⟨rfl, hw0⟩
  have hw0 := hw0.symm
  subst hw0
  go_wp2_with fail
  refine (H1.out w Bw.out).mono ?_
  rintro x w1 ⟨rfl, hbw1⟩
  have Bw1 : Hid (Below w.heap.size w w1) := bel_up' Bw.out hbw1
  clear hbw1
  go_wp2_with fail
  refine (H2.out w1 Bw1.out).mono ?_
  rintro x w2 ⟨rfl, hbw2⟩
  have Bw2 : Hid (Below w.heap.size w w2) := bel_up' Bw1.out hbw2
  clear hbw2
  go_wp2_with fail
  refine (H3.out w2 Bw2.out).mono ?_
  rintro x w3 ⟨rfl, hbw3⟩
  have Bw3 : Hid (Below w.heap.size w w3) := bel_up' Bw2.out hbw3
  clear hbw3
  go_wp2_with fail
  refine (H4.out w3 Bw3.out).mono ?_
  rintro x w4 ⟨hb4, fo, fn, fc, eo, en, ec, rfl, hk1, hk2⟩
  have Bw4 : Hid (Below w.heap.size w w4) := bel_up' Bw3.out hb4
  have HK : Hid (KI (.slice fo fn fc) L1 w4 ∧ KI (.slice eo en ec) L2 w4) := ⟨hk1, hk2⟩
  clear hb4 hk1 hk2
  go_wp2_with fail
  refine (H5.out w4 Bw4.out).mono ?_
  rintro x w5 ⟨hb5, vo, vn, vc, uo, un, uc, rfl, hres, hleft⟩
  have Bw5 : Hid (Below w.heap.size w w5) := bel_up' Bw4.out hb5
  have HLi : Hid (Calls Try.prog 23 #[.slice vo vn vc, .int .i64 0, .slice fo fn fc, .int .i64 0] w5 fun r w' => r = .returned (.bool true) ∧ ∃ n, w' = w5.drewN n) := by
    refine list_gen ?_
    rcases hres with ⟨h, h2⟩ | ⟨h, h2⟩
    · exact absurd rfl h
    · exact Or.inr ⟨h, L1, h2, (HK.out.1.below hb5).1⟩
  have HSa : Hid (∀ d, Calls Try.prog 33 #[.slice uo un uc, .slice eo en ec] (w5.drewN d) fun r w' => r = .returned (.bool true) ∧ ∃ n, w' = (w5.drewN d).drewN n) := fun d => by
    refine (same_any (hleft.drewN d) ((HK.out.2.below hb5).1.drewN d)).mono ?_
    rintro r w' ⟨rfl, h⟩
    exact ⟨by rw [decide_eq_true rfl], h⟩
  clear hb5 hres hleft
  go_wp2_with fail
  refine HLi.out.mono ?_
  rintro x w6 ⟨rfl, d6, rfl⟩
  go_wp2_with fail
  refine (HSa.out d6).mono ?_
  rintro x w7 ⟨rfl, d7, hw7⟩
  have Bw7 : Hid (Below w.heap.size w w7) := by rw [hw7]; exact below_drewN2 (below_drewN2 Bw5.out d6) d7
  clear hw7 HLi HSa
  go_wp2_with fail
  refine (H6.out w7 Bw7.out).mono ?_
  rintro x w8 ⟨rfl, hbw8⟩
  have Bw8 : Hid (Below w.heap.size w w8) := bel_up' Bw7.out hbw8
  clear hbw8
  go_wp2_with fail
  refine (H7.out w8 Bw8.out).mono ?_
  rintro x w9 ⟨hb9, xo, xn, xc, rfl, hk3⟩
  have Bw9 : Hid (Below w.heap.size w w9) := bel_up' Bw8.out hb9
  have HK3 : Hid (KI (.slice xo xn xc) L3 w9) := hk3
  clear hb9 hk3
  go_wp2_with fail
  refine (H8.out w9 Bw9.out).mono ?_
  rintro x wF ⟨hbF, yo, yn, yc, rfl, hresF⟩
  have BwF : Hid (Below w.heap.size w wF) := bel_up' Bw9.out hbF
  have HLF : Hid (Calls Try.prog 23 #[.slice yo yn yc, .int .i64 0, .slice xo xn xc, .int .i64 0] wF fun r w' => r = .returned (.bool true) ∧ ∃ n, w' = wF.drewN n) := by
    refine list_gen ?_
    rcases hresF with ⟨h, h2⟩ | ⟨h, h2⟩
    · exact absurd rfl h
    · exact Or.inr ⟨h, L3, h2, (HK3.out.below hbF).1⟩
  clear hbF hresF
  go_wp2_with fail
  refine HLF.out.mono ?_
  rintro x wL ⟨rfl, dL, hwL⟩
  have BwL : Hid (Below w.heap.size w wL) := by rw [hwL]; exact below_drewN2 BwF.out dL
  clear hwL HLF
  go_wp2
  go_loopw [11, 25] (fun ve vi wx => ∃ (i : Nat) (e : Int), i ≤ ls ∧ vi = .int .i64 (i : Nat) ∧ ve = .int .i64 e ∧ Hid (e = evS 0 n S i) ∧ wx = wL) (fun _ vi _ => ls - (intOf vi).toNat)
  case atStart => exact ⟨0, 0, by omega, rfl, rfl, by show _ = _; unfold evS; rw [if_neg (fun h => h rfl)]; rfl, rfl⟩
  case round =>
    obtain ⟨i, e, hi, rfl, rfl, HI, hwx⟩ := hrel
    have hwx := hwx.symm
    subst hwx
    by_cases hgo : i < ls ∧ e = 0
    · obtain ⟨hlt, rfl⟩ := hgo
      have hib : (i : Int) < (ls : Int) := by omega
      have hib0 : (0 : Int) ≤ (i : Int) := by omega
      obtain ⟨b, off, rfl, hci⟩ := (slz_below HS.out BwL.out) i hlt
      obtain ⟨x, hx⟩ : ∃ x, x = S i := ⟨_, rfl⟩
      rw [← hx] at hci
      have HN : Hid (evS 0 n S (i + 1) = if isp n x = true then 0 else 10) := by rw [hx]; exact evS_next HI.out.symm
      by_cases hneg : x < 0
      · have HV : Hid ((10 : Int) = evS 0 n S (i + 1)) := by
          show _ = _
          rw [HN.out, if_neg (by unfold isp; rw [decide_eq_true_eq]; omega)]
        clear hx
        go_wp2
        go_roundw
        case rel => exact ⟨i + 1, 10, by omega, by go_num, by go_num, HV.out, by first | rfl | trivial⟩
        case measure => simp [intOf]; omega
      · by_cases hge : x ≥ n
        · have hge2 : n ≤ x := by omega
          have HV : Hid ((10 : Int) = evS 0 n S (i + 1)) := by
            show _ = _
            rw [HN.out, if_neg (by unfold isp; rw [decide_eq_true_eq]; omega)]
          clear hx
          go_wp2
          go_roundw
          case rel => exact ⟨i + 1, 10, by omega, by go_num, by go_num, HV.out, by first | rfl | trivial⟩
          case measure => simp [intOf]; omega
        · have hge2 : ¬ n ≤ x := by omega
          have HV : Hid ((0 : Int) = evS 0 n S (i + 1)) := by
            show _ = _
            rw [HN.out, if_pos (by unfold isp; rw [decide_eq_true_eq]; omega)]
          clear hx
          go_wp2
          go_roundw
          case rel => exact ⟨i + 1, 0, by omega, by go_num, by go_num, HV.out, by first | rfl | trivial⟩
          case measure => simp [intOf]; omega
    · have HE : Hid (e = EP) := by
        show _ = _
        rw [HEP.out]
        by_cases hlt : i < ls
        · have he : e ≠ 0 := fun h => hgo ⟨hlt, h⟩
          rw [evS_no (by rw [← HI.out]; exact he) ls (by omega)]; exact HI.out
        · rw [show ls = i by omega]; exact HI.out
      have zEE : (EP == EP) = true := by simp
      have zRR : (RB == RB) = true := by simp
      have tail : ∀ b, ((i : Int) < (ls : Int)) = b → True := fun _ _ => trivial
      clear tail
      by_cases he0 : e = 0
      · have hib : ¬ (i : Int) < (ls : Int) := by
          intro h; exact hgo ⟨by omega, he0⟩
        have hEP0 : EP = 0 := by rw [← HE.out]; exact he0
        have HC := H11.out hEP0
        have HC : Hid _ := HC
        have HT : Hid _ := H10.out
        have HE0 : Hid (EP = 0) := hEP0
        clear hgo HE
        subst he0
        go_wp2_with fail
        refine (HT.out wL BwL.out).mono ?_
        rintro x wM ⟨rfl, hbM⟩
        rw [HE0.out]
        have BwM : Hid (Below w.heap.size w wM) := bel_up' BwL.out hbM
        clear hbM
        go_wp2_with fail
        refine (HC.out wM BwM.out).mono ?_
        rintro x wN ⟨rfl, hbN⟩
        have BwN : Hid (Below w.heap.size w wN) := bel_up' BwM.out hbN
        clear hbN
        go_wp2
        go_ret
        exact ⟨by first | rfl | simp, BwN.out⟩
      · have hz : (e == 0) = false := beq_eq_false_iff_ne.2 he0
        have hee : (e == e) = true := by simp
        have HR : Hid (RB = false) := H12.out (by rw [← HE.out]; exact he0)
        have HT : Hid (∀ wx, Below w.heap.size w wx → Calls Try.prog 36 #[.int .i64 n, .slice ao m ca, .slice so ls cs] wx fun x w' => x = .returned (.tuple #[.bool false, .int .i64 e]) ∧ Below wx.heap.size wx w') := by
          have h := H10.out
          rw [HR.out, ← HE.out] at h
          exact h
        clear hgo HE he0
        by_cases hib : (i : Int) < (ls : Int)
        · go_wp2_with fail
          refine (HT.out wL BwL.out).mono ?_
          rintro x wM ⟨rfl, hbM⟩
          have BwM : Hid (Below w.heap.size w wM) := bel_up' BwL.out hbM
          clear hbM
          go_wp2
          go_ret
          exact ⟨by first | rfl | simp, BwM.out⟩
        · go_wp2_with fail
          refine (HT.out wL BwL.out).mono ?_
          rintro x wM ⟨rfl, hbM⟩
          have BwM : Hid (Below w.heap.size w wM) := bel_up' BwL.out hbM
          clear hbM
          go_wp2
          go_ret
          exact ⟨by first | rfl | simp, BwM.out⟩
end Go.Proofs.Ytjkncdmbcckcdaa
