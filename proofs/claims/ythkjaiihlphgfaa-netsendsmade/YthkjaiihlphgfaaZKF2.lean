/- Nets: all elements (allOf), products (product), what is sent (Send). -/
import Derived.Test.YthkjaiihlphgfaaZW12
import Derived.Test.YthkjaiihlphgfaaZO3
import Derived.Test.YthkjaiihlphgfaaZS9
namespace Go.Proofs.Ythkjaiihlphgfaa
open Go.RowKit Go.Sort

theorem enters_allOf1 : ∀ args w, (callFunc 91 args).run Try.prog w = .ok (.enter 91 args) w :=
  enters_of Try.func91 (by kernel_rfl) rfl
set_option maxHeartbeats 1000000 in
theorem allOf1_any {D : FD} {F T B : Nat} {g : Nat → Value} {w : World} (h : FAt F T D g w) (hc : w.cell? ⟨B, 0, none⟩ = some (.pointer (some ⟨F, 0, none⟩))) (x : Int) :
    Calls Try.prog 91 #[.int .i64 x, .pointer (some ⟨B, 0, none⟩)] w fun e w' => e = .returned (.bool (!D.has x)) ∧ w' = w := by
  have HS : Hid (FAt F T D g w) := h
  clear h
  obtain ⟨y, hy⟩ : ∃ y, y = D.has x := ⟨_, rfl⟩
  have HC : Hid (Calls Try.prog 92 #[.pointer (some ⟨F, 0, none⟩), .int .i64 x] w fun e w' => e = .returned (.bool y) ∧ w' = w) := by
    show Calls _ _ _ _ _
    rw [hy]; exact has_any HS.out x
  rw [← hy]
  clear hy
  go_enter Try.func91, Try.ntmps91
  go_wp2_with (go_at_call 92; refine HC.out.mono ?_; rintro e w' ⟨rfl, hw⟩; have hw := hw.symm; subst hw)
  go_ret
  exact ⟨rfl, rfl⟩
theorem anyB_has {D : FD} {z : Nat → Int} : ∀ n, anyB (fun j => !D.has (z j)) n = !D.allHas z n
  | 0 => rfl
  | n + 1 => by
    show (anyB (fun j => !D.has (z j)) n || !D.has (z n)) = !(D.allHas z n && D.has (z n))
    rw [anyB_has n, Bool.not_and]
set_option maxHeartbeats 1000000 in
theorem allOf_any {D : FD} {F T : Nat} {g : Nat → Value} {ao : Option Addr} {n ca : Nat} {z : Nat → Int} {w : World} (h : FAt F T D g w) (hs : SlZ ao n z w) (hn : n ≤ 1000000) :
    Calls Try.prog 57 #[.pointer (some ⟨F, 0, none⟩), .slice ao n ca] w fun e w' => e = .returned (.bool (D.allHas z n)) ∧ Below w.heap.size w w' := by
  obtain ⟨wa, hwa⟩ : ∃ wa, wa = w.alloc (.cells #[.pointer (some ⟨F, 0, none⟩)] 81) := ⟨_, rfl⟩
  have hba : Below w.heap.size w wa := by rw [hwa]; exact (Below.refl _ _).alloc (Nat.le_refl _) _
  have hc : wa.cell? ⟨w.heap.size, 0, none⟩ = some (.pointer (some ⟨F, 0, none⟩)) := by rw [hwa, cell_of_row _ _ _ _ _ (0, 0) (two_new _)]; rfl
  have HC : Hid (Calls Try.prog 90 #[.slice ao n ca, .func (.func 91) #[] #[.pointer (some ⟨w.heap.size, 0, none⟩)]] wa fun e w' => e = .returned (.bool (!D.allHas z n)) ∧ w' = wa) := by
    rw [← anyB_has n]
    refine containsFn_any (p := fun j => !D.has (z j)) enters_allOf1 (slz_below hs hba) hn (fun j _ => ?_)
    have e : (#[Value.int .i64 (z j)] ++ #[Value.pointer (some ⟨w.heap.size, 0, none⟩)] : Array Value) = #[.int .i64 (z j), .pointer (some ⟨w.heap.size, 0, none⟩)] := rfl
    rw [e]
    exact allOf1_any (h.below hba h.ltF h.ltT) hc (z j)
  obtain ⟨R, hR⟩ : ∃ R, R = D.allHas z n := ⟨_, rfl⟩
  rw [← hR] at HC ⊢
  have HB : Hid (Below w.heap.size w wa) := hba
  clear h hs hc hba hR
  go_enter Try.func57, Try.ntmps57
  go_wp2_with fail
  rw [← hwa]
  clear hwa
  refine HC.out.mono ?_
  rintro e w' ⟨rfl, hw⟩
  have hw := hw.symm
  subst hw
  cases R with
  | true =>
    go_wp2
    go_ret
    exact ⟨rfl, HB.out⟩
  | false =>
    go_wp2
    go_ret
    exact ⟨rfl, HB.out⟩

set_option maxHeartbeats 2000000 in
set_option maxRecDepth 100000 in
theorem nproduct_any {D : FD} (hD : D ∈ fieldsL) {F T : Nat} {g : Nat → Value} {ao bo : Option Addr} {n ca cb : Nat} {a b : Nat → Nat} {w : World} (h : FAt F T D g w) (hA : Sl ao n a w) (hB : Sl bo n b w) (hn : n ≤ 1000) (ha : ∀ i, i < n → a i < D.q) (hb : ∀ i, i < n → b i < D.q) :
    Calls Try.prog 58 #[.pointer (some ⟨F, 0, none⟩), .slice ao n ca, .slice bo n cb] w fun e w' => e = .returned (.int .i64 (dot D a b n : Nat)) ∧ ∃ d, w' = w.drewN d := by
  have HF : Hid (FAt F T D g w ∧ D ∈ fieldsL ∧ Sl ao n a w ∧ Sl bo n b w ∧ (∀ i, i < n → a i < D.q) ∧ (∀ i, i < n → b i < D.q)) := ⟨h, hD, hA, hB, ha, hb⟩
  clear h hD hA hB ha hb
  go_enter Try.func58, Try.ntmps58
  go_wp2
  go_loopw [7, 12] (fun vs vi wx => ∃ (i : Nat), i ≤ n ∧ vi = .int .i64 (i : Nat) ∧ vs = .int .i64 (dot D a b i : Nat) ∧ ∃ d, wx = w.drewN d) (fun _ vi _ => n - (intOf vi).toNat)
  case atStart => exact ⟨0, by omega, rfl, rfl, 0, rfl⟩
  case round =>
    obtain ⟨i, hi, rfl, rfl, d, hwx⟩ := hrel
    subst hwx
    by_cases hlt : i < n
    · have hib : (i : Int) < (n : Int) := by omega
      have hib0 : (0 : Int) ≤ (i : Int) := by omega
      obtain ⟨b1, o1, rfl, h1⟩ := HF.out.2.2.1 i hlt
      obtain ⟨b2, o2, rfl, h2⟩ := HF.out.2.2.2.1 i hlt
      have hdq := dot_lt (fld HF.out.2.1) a b i
      obtain ⟨s, hs⟩ : ∃ s, s = dot D a b i := ⟨_, rfl⟩
      obtain ⟨x, hx⟩ : ∃ x, x = a i := ⟨_, rfl⟩
      obtain ⟨y, hy⟩ : ∃ y, y = b i := ⟨_, rfl⟩
      have hxq := HF.out.2.2.2.2.1 i hlt
      have hyq := HF.out.2.2.2.2.2 i hlt
      rw [← hx] at h1 hxq
      rw [← hy] at h2 hyq
      rw [← hs] at hdq ⊢
      have HV : Hid (dot D a b (i + 1) = sumD D.p D.q s (D.mul x y)) := by show _ = _; rw [hs, hx, hy]; rfl
      have HC1 : Hid (∀ k, Calls Try.prog 94 #[.pointer (some ⟨F, 0, none⟩), .int .i64 (x : Nat), .int .i64 (y : Nat)] (w.drewN k) fun e w' => e = .returned (.int .i64 (D.mul x y : Nat)) ∧ ∃ m, w' = (w.drewN k).drewN m) := fun k => mul_nat HF.out.2.1 (HF.out.1.drewN k) hxq hyq
      have HC2 : Hid (∀ k, Calls Try.prog 93 #[.pointer (some ⟨F, 0, none⟩), .int .i64 (s : Nat), .int .i64 (D.mul x y : Nat)] (w.drewN k) fun e w' => e = .returned (.int .i64 (sumD D.p D.q s (D.mul x y) : Nat)) ∧ ∃ m, w' = (w.drewN k).drewN m) := fun k => add_nat HF.out.2.1 (HF.out.1.drewN k) hdq ((fld HF.out.2.1).mul_lt _ _)
      clear hs hx hy
      go_wp2_with fail
      refine (HC1.out _).mono ?_
      rintro e w1 ⟨rfl, d1, hw1⟩
      rw [World.drewN_drewN] at hw1
      subst hw1
      go_wp2_with fail
      refine (HC2.out _).mono ?_
      rintro e w1 ⟨rfl, d2, hw1⟩
      rw [World.drewN_drewN] at hw1
      subst hw1
      go_wp2
      go_roundw
      case rel => exact ⟨i + 1, by omega, by go_num, by rw [HV.out], _, rfl⟩
      case measure => simp [intOf]; omega
    · have hib : ¬ (i : Int) < (n : Int) := by omega
      have hie : n = i := by omega
      subst hie
      go_wp2
      go_ret
      exact ⟨rfl, _, rfl⟩

/-- What is said of vectors and a message. -/
def FD.sdchk (D : FD) (m : Nat) (N : Nat → Nat) (Z : Nat → Nat → Int) (l : Nat) (y : Nat → Int) : Int := if D.mchk m N Z ≠ 0 then D.mchk m N Z else if 0 < m ∧ l ≠ N 0 then 6 else if D.allHas y l = true then 0 else 2
/-- What Send tells. -/
def SnP (E : Int) (L : List Int) (w : World) (x : Ending) (w' : World) : Prop := Below w.heap.size w w' ∧ ∃ vo vn vc, x = .returned (.tuple #[.slice vo vn vc, .int .i64 E]) ∧ ((E ≠ 0 ∧ vn = 0) ∨ (E = 0 ∧ SliceI (.slice vo vn vc) L w'))
theorem allHas_sl {D : FD} {ao : Option Addr} {n : Nat} {z : Nat → Int} {w : World} (h : D.allHas z n = true) (hS : SlZ ao n z w) : Sl ao n (zc n z) w := fun j hj => by
  obtain ⟨b, off, e, hc⟩ := hS j hj
  obtain ⟨x, hx, hxq⟩ := has_nat (allHas_iff.1 h j hj)
  refine ⟨b, off, e, ?_⟩
  rw [hc]
  unfold zc
  rw [if_pos hj, hx, Int.toNat_natCast]
theorem allHas_q {D : FD} {n : Nat} {z : Nat → Int} (h : D.allHas z n = true) (j : Nat) (hj : j < n) : zc n z j < D.q := by
  obtain ⟨x, hx, hxq⟩ := has_nat (allHas_iff.1 h j hj)
  unfold zc
  rw [if_pos hj, hx, Int.toNat_natCast]; exact hxq

set_option maxHeartbeats 1000000 in
set_option maxRecDepth 100000 in
theorem nSend_none (q : Int) (h : ∀ D ∈ fieldsL, (D.q : Int) ≠ q) {ao bo : Option Addr} {m ca l cb : Nat} {w : World} :
    Calls Try.prog 14 #[.int .i64 q, .slice ao m ca, .slice bo l cb] w (SnP 1 [] w) := by
  have HB : Hid (∀ D ∈ fieldsL, (D.q : Int) ≠ q) := h
  clear h
  go_enter Try.func14, Try.ntmps14
  go_wp2_with fail
  refine (new_none q w HB.out).mono ?_
  rintro e w' ⟨rfl, hw⟩
  have hw := hw.symm
  subst hw
  go_wp2
  go_ret2
  exact ⟨Below.refl _ _, none, 0, 0, rfl, Or.inl ⟨by decide, rfl⟩⟩

set_option maxHeartbeats 8000000 in
set_option maxRecDepth 100000 in
theorem nSend_any {D : FD} (hD : D ∈ fieldsL) {ao bo : Option Addr} {m ca l cb : Nat} {A : Nat → Option Addr} {N C : Nat → Nat} {Z : Nat → Nat → Int} {y : Nat → Int} {w : World} (hA : MatZ ao m A N C Z w) (hm : m ≤ 6000) (hy : SlZ bo l y w) (hl : l ≤ 1000) :
    Calls Try.prog 14 #[.int .i64 D.q, .slice ao m ca, .slice bo l cb] w (SnP (D.sdchk m N Z l y) (zl m fun i => ((dot D (mzc N Z i) (zc l y) l : Nat) : Int)) w) := by
  obtain ⟨E0, hE0⟩ : ∃ E0, E0 = D.mchk m N Z := ⟨_, rfl⟩
  obtain ⟨E, hE⟩ : ∃ E, E = D.sdchk m N Z l y := ⟨_, rfl⟩
  have HA : Hid (D ∈ fieldsL ∧ MatZ ao m A N C Z w ∧ SlZ bo l y w ∧ E0 = D.mchk m N Z ∧ E = D.sdchk m N Z l y) := ⟨hD, hA, hy, hE0, hE⟩
  rw [← hE]
  clear hD hA hy hE0 hE
  go_enter Try.func14, Try.ntmps14
  go_wp2_with fail
  refine (new_any HA.out.1 w).mono ?_
  rintro e w1 ⟨F, T, g, rfl, hat, hF, hT, hb1⟩
  have H1 : Hid (FAt F T D g w1 ∧ Below w.heap.size w w1) := ⟨hat, hb1⟩
  clear hat hF hT hb1
  have HM : Hid (Calls Try.prog 56 #[.int .i64 D.q, .slice ao m ca] w1 fun e w' => e = .returned (.int .i64 E0) ∧ Below w1.heap.size w1 w') := by
    rw [HA.out.2.2.2.1]; exact mcheck_any HA.out.1 (HA.out.2.1.below H1.out.2) (by omega)
  go_wp2_with fail
  refine HM.out.mono ?_
  rintro e w2 ⟨rfl, hb2⟩
  have H2 : Hid (FAt F T D g w2 ∧ Below w.heap.size w w2) := ⟨H1.out.1.below hb2 H1.out.1.ltF H1.out.1.ltT, bel_up' H1.out.2 hb2⟩
  clear hb2 H1 HM
  by_cases h0 : E0 = 0
  · have z0 : (E0 != 0) = false := by rw [h0]; rfl
    have HE : Hid (E = if 0 < m ∧ l ≠ N 0 then 6 else if D.allHas y l = true then 0 else 2) := by
      show _ = _
      rw [HA.out.2.2.2.2]; unfold FD.sdchk; rw [← HA.out.2.2.2.1, if_neg (fun x => x h0)]
    have HC0 : Hid (D.mchk m N Z = 0) := by rw [← HA.out.2.2.2.1]; exact h0
    clear h0
    have go : (0 < m → l = N 0) → ∀ (wx : World), FAt F T D g wx → Below w.heap.size w wx → True := fun _ _ _ _ => trivial
    clear go
    have HAl : Hid (Calls Try.prog 57 #[.pointer (some ⟨F, 0, none⟩), .slice bo l cb] w2 fun e w' => e = .returned (.bool (D.allHas y l)) ∧ Below w2.heap.size w2 w') := allOf_any H2.out.1 (slz_below HA.out.2.2.1 H2.out.2) (by omega)
    obtain ⟨ah, hah⟩ : ∃ ah, ah = D.allHas y l := ⟨_, rfl⟩
    rw [← hah] at HAl
    have HAh : Hid (ah = D.allHas y l) := hah
    clear hah
    by_cases hm0 : m = 0
    · subst hm0
      have HE2 : Hid (E = if ah = true then 0 else 2) := by show _ = _; rw [HE.out, if_neg (fun x => absurd x.1 (by omega)), HAh.out]
      go_wp2_with fail
      refine HAl.out.mono ?_
      rintro e w3 ⟨rfl, hb3⟩
      have H3 : Hid (Below w.heap.size w w3) := bel_up' H2.out.2 hb3
      clear hb3
      cases ah with
      | false =>
        go_wp2
        go_ret2
        exact ⟨H3.out, none, 0, 0, by rw [HE2.out]; rfl, Or.inl ⟨by rw [HE2.out]; decide, rfl⟩⟩
      | true =>
        go_wp2_with (at_make; refine make_int rfl _ _ rfl _ 0 rfl rfl rfl (by omega) ?_; intro w4 hown4 hgrow4)
        have H4 : Hid (Below w.heap.size w w4) := bel_up' H3.out (below_grown hgrow4 (Nat.le_refl _) (fun k hk => by simp at hk))
        clear hown4 hgrow4
        obtain ⟨gg, hgg⟩ : ∃ gg, gg = w3.heap.size := ⟨_, rfl⟩
        rw [← hgg]
        clear hgg
        go_loopw [49] (fun vi wx => vi = .int .i64 0 ∧ wx = w4) (fun _ _ => 0)
        case atStart => exact ⟨rfl, rfl⟩
        case round =>
          obtain ⟨rfl, hwx⟩ := hrel
          have hwx := hwx.symm
          subst hwx
          go_wp2
          go_ret2
          exact ⟨H4.out, _, 0, _, by rw [HE2.out]; rfl, Or.inr ⟨by rw [HE2.out]; rfl, Or.inl ⟨rfl, _, _, rfl⟩⟩⟩
    · have hmp : 0 < m := by omega
      have hmb : (m : Int) > 0 := by omega
      have hmb2 : (0 : Int) < (m : Int) := by omega
      obtain ⟨g1, g2, g3, g4, g5⟩ := mchk_mats (fld HA.out.1) HC0.out (HA.out.2.1.below H2.out.2) hmp
      obtain ⟨b0, o0, hao, hc0⟩ := (HA.out.2.1.below H2.out.2).cell 0 hmp
      subst hao
      obtain ⟨N0, hN0⟩ : ∃ N0, N0 = N 0 := ⟨_, rfl⟩
      rw [← hN0] at hc0 g2 g3
      have hc00 : w2.cell? ⟨b0, o0, none⟩ = some (.slice (A 0) N0 (C 0)) := hc0
      have HN : Hid (N0 = N 0 ∧ ∀ i, i < m → El D (mzc N Z i) ∧ Bd (N 0) (mzc N Z i)) := ⟨hN0, g4⟩
      clear g4 g5 hN0 hm0
      by_cases hlN : l = N0
      · have zl0 : ((l : Int) != (N0 : Int)) = false := by rw [hlN]; simp
        have HE2 : Hid (E = if ah = true then 0 else 2) := by show _ = _; rw [HE.out, if_neg (fun x => x.2 (by rw [hlN, HN.out.1])), HAh.out]
        have HlN : Hid (l = N0) := hlN
        clear hlN
        go_wp2_with fail
        refine HAl.out.mono ?_
        rintro e w3 ⟨rfl, hb3⟩
        have H3 : Hid (Below w.heap.size w w3 ∧ FAt F T D g w3) := ⟨bel_up' H2.out.2 hb3, H2.out.1.below hb3 H2.out.1.ltF H2.out.1.ltT⟩
        clear hb3
        cases ah with
        | false =>
          go_wp2
          go_ret2
          exact ⟨H3.out.1, none, 0, 0, by rw [HE2.out]; rfl, Or.inl ⟨by rw [HE2.out]; decide, rfl⟩⟩
        | true =>
          have hltF := H3.out.2.ltF
          have hltT := H3.out.2.ltT
          go_wp2_with (at_make; refine make_int rfl _ _ rfl _ m rfl rfl rfl (by omega) ?_; intro w4 hown4 hgrow4)
          have H4 : Hid (Row w3.heap.size m pnil w4 ∧ Below w3.heap.size w3 w4) := ⟨row_zeros hown4, below_grown hgrow4 (Nat.le_refl _) (fun k hk => by simp at hk)⟩
          obtain ⟨gg, hgg⟩ : ∃ gg, gg = w3.heap.size := ⟨_, rfl⟩
          rw [← hgg]
          have HGg : Hid (gg = w3.heap.size) := hgg
          clear hown4 hgrow4 hgg
          go_loopw [49] (fun vi wx => ∃ (i : Nat) (c : Nat → Nat), i ≤ m ∧ vi = .int .i64 (i : Nat) ∧ Hid (Row gg m c wx ∧ (∀ j, j < i → c j = dot D (mzc N Z j) (zc l y) l) ∧ Below w3.heap.size w3 wx)) (fun vi _ => m - (intOf vi).toNat)
          case atStart => exact ⟨0, pnil, by omega, rfl, by rw [HGg.out]; exact H4.out.1, fun j hj => absurd hj (by omega), H4.out.2⟩
          case round =>
            obtain ⟨i, c, hi, rfl, HI⟩ := hrel
            rename World => wx
            have hbx : Below w.heap.size w wx := bel_up' H3.out.1 HI.out.2.2
            by_cases hlt : i < m
            · have hib : (i : Int) < (m : Int) := by omega
              have hib0 : (0 : Int) ≤ (i : Int) := by omega
              obtain ⟨bi, oi, e, hci⟩ := (HA.out.2.1.below hbx).cell i hlt
              cases e
              obtain ⟨_, _, _, k4, k5⟩ := mchk_mats (fld HA.out.1) HC0.out (HA.out.2.1.below hbx) hmp
              have hNi : N i = l := by
                obtain ⟨b', o', e', hc'⟩ := k5.cell i hlt
                cases e'
                rw [hci] at hc'
                have := congrArg (fun o => match o with | some (Value.slice _ n _) => n | _ => 0) hc'
                rw [HlN.out, HN.out.1]; exact this
              rw [hNi] at hci
              obtain ⟨P, hP⟩ : ∃ P, P = dot D (mzc N Z i) (zc l y) l := ⟨_, rfl⟩
              have hah : D.allHas y l = true := HAh.out.symm
              have HPr : Hid (Calls Try.prog 58 #[.pointer (some ⟨F, 0, none⟩), .slice (A i) l (C i), .slice bo l cb] wx fun e w' => e = .returned (.int .i64 (P : Nat)) ∧ ∃ d, w' = wx.drewN d) := by
                rw [hP]
                refine nproduct_any HA.out.1 (H3.out.2.below HI.out.2.2 hltF hltT) ?_ (allHas_sl hah (slz_below HA.out.2.2.1 hbx)) hl (fun j _ => (k4 i hlt).1 j) (fun j hj => allHas_q hah j hj)
                have h6 := k5.sl i hlt
                rw [← HN.out.1, ← HlN.out] at h6
                exact h6
              obtain ⟨Ai, hAi⟩ : ∃ Ai, Ai = A i := ⟨_, rfl⟩
              obtain ⟨Ci, hCi⟩ : ∃ Ci, Ci = C i := ⟨_, rfl⟩
              rw [← hAi, ← hCi] at hci HPr
              have HPv : Hid (P = dot D (mzc N Z i) (zc l y) l) := hP
              clear k4 k5 hNi hP hah hAi hCi hbx
              go_wp2_with fail
              refine HPr.out.mono ?_
              rintro e w5 ⟨rfl, d5, hw5⟩
              have HR5 : Hid (Row gg m c w5 ∧ Below w3.heap.size w3 w5) := by rw [hw5]; exact ⟨HI.out.1.drewN _, below_drewN2 HI.out.2.2 _⟩
              clear hw5
              have hcc := HR5.out.1.cell i hlt
              have hff := HR5.out.1.free i
              have HX : Hid (Row gg m (fun j => if j = i then P else c j) (w5.setCell ⟨gg, i, none⟩ (.int .i64 (P : Nat))) ∧ (∀ j, j < i + 1 → (if j = i then P else c j) = dot D (mzc N Z j) (zc l y) l) ∧ Below w3.heap.size w3 (w5.setCell ⟨gg, i, none⟩ (.int .i64 (P : Nat)))) := by
                refine ⟨HR5.out.1.store i P (fun j _ => rfl), fun j hj => ?_, HR5.out.2.setCell (by show w3.heap.size ≤ gg; rw [HGg.out]; exact Nat.le_refl _) _⟩
                by_cases e : j = i
                · rw [if_pos e, e]; exact HPv.out
                · rw [if_neg e]; exact HI.out.2.1 j (by omega)
              go_wp2
              go_roundw
              case rel => exact ⟨i + 1, _, by omega, by go_num, HX.out⟩
              case measure => simp [intOf]; omega
            · have hib : ¬ (i : Int) < (m : Int) := by omega
              have hie : m = i := by omega
              subst hie
              have HB : Hid (Below w.heap.size w wx ∧ SliceI (.slice (some ⟨gg, 0, none⟩) m m) (zl m fun i => ((dot D (mzc N Z i) (zc l y) l : Nat) : Int)) wx) := by
                refine ⟨hbx, Or.inr ⟨fun e => ?_, by rw [zl_len]; omega, gg, 0, m, by rw [zl_len], fun j hj => ?_⟩⟩
                · have := congrArg List.length e
                  rw [zl_len] at this
                  exact absurd this (by show m ≠ 0; omega)
                · rw [zl_len] at hj
                  rw [Nat.zero_add, HI.out.1.cell j hj, zl_getD m _ j hj, HI.out.2.1 j hj]
              clear hbx
              go_wp2
              go_ret2
              exact ⟨HB.out.1, _, m, _, by rw [HE2.out]; rfl, Or.inr ⟨by rw [HE2.out]; rfl, HB.out.2⟩⟩
      · have zl0 : ((l : Int) != (N0 : Int)) = true := by rw [bne_iff_ne]; omega
        have HE2 : Hid (E = 6) := by show _ = _; rw [HE.out, if_pos ⟨hmp, by rw [← HN.out.1]; exact hlN⟩]
        go_wp2
        go_ret2
        exact ⟨H2.out.2, none, 0, 0, by rw [HE2.out]; rfl, Or.inl ⟨by rw [HE2.out]; decide, rfl⟩⟩
  · have z0 : (E0 != 0) = true := bne_iff_ne.2 h0
    have HE : Hid (E = E0 ∧ E0 ≠ 0) := by
      refine ⟨?_, h0⟩
      rw [HA.out.2.2.2.2]; unfold FD.sdchk; rw [← HA.out.2.2.2.1, if_pos h0]
    clear h0
    go_wp2
    go_ret2
    exact ⟨H2.out.2, none, 0, 0, by rw [HE.out.1]; rfl, Or.inl ⟨by rw [HE.out.1]; exact HE.out.2, rfl⟩⟩
end Go.Proofs.Ythkjaiihlphgfaa
