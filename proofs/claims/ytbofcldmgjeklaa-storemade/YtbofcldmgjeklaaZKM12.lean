/- Texts of ours, one behind the other: KM12 KM13 KM14 S47. -/
import Derived.Test.YtbofcldmgjeklaaZW15
import Derived.Test.YtbofcldmgjeklaaZKA3
import Derived.Test.YtbofcldmgjeklaaZI8
import Derived.Test.YtbofcldmgjeklaaZW16
import Derived.Test.YtbofcldmgjeklaaZY5
/- The polynomial through so many values: through. -/
namespace Go.Proofs.Ytbofcldmgjeklaa
open Go.RowKit Go.Sort

set_option maxHeartbeats 4000000 in
set_option maxRecDepth 100000 in
theorem sthrough_any {D : FD} (hD : D ∈ fieldsL) {B F T : Nat} {g : Nat → Value} {pn pk pd : Int} {xo yo : Option Addr} {n xc yc : Nat} {xs y : Nat → Nat} {w : World} (hP : PlA B F pn pk pd w) (hF : FAt F T D g w) (hX : Arg xo n xc (fun j => ((xs j : Nat) : Int)) w) (hY : Arg yo n yc (fun j => ((y j : Nat) : Int)) w) (hn : n ≤ 64)
    (hx : ∀ i, i < n → xs i < D.q) (hne : ∀ i j, i < n → j < n → i ≠ j → xs i ≠ xs j) (hy : ∀ i, i < n → y i < D.q) :
    Calls Try.prog 91 #[.pointer (some ⟨B, 0, none⟩), .slice xo n xc, .slice yo n yc] w fun e w' => ∃ co, e = .returned (.slice (some ⟨w.heap.size, 0, none⟩) n n) ∧ Row w.heap.size n co w' ∧ El D co ∧ Bd n co ∧ (∀ j, j < n → D.vl co (xs j) = y j) ∧ Below w.heap.size w w' := by
  have HF : Hid (D ∈ fieldsL ∧ PlA B F pn pk pd w ∧ FAt F T D g w ∧ Arg xo n xc (fun j => ((xs j : Nat) : Int)) w ∧ Arg yo n yc (fun j => ((y j : Nat) : Int)) w) := ⟨hD, hP, hF, hX, hY⟩
  have HX : Hid ((∀ i, i < n → xs i < D.q) ∧ (∀ i j, i < n → j < n → i ≠ j → xs i ≠ xs j) ∧ ∀ i, i < n → y i < D.q) := ⟨hx, hne, hy⟩
  clear hD hP hF hX hY hx hne hy
  go_enter Try.func91, Try.ntmps91
  go_wp2_with (at_make; refine make_int rfl _ _ rfl _ n rfl rfl (by omega) (by omega) ?_; intro w1 hown1 hgrow1; have hb1 : Below w.heap.size w w1 := below_grown hgrow1 (Nat.le_refl _) (fun k hk => by simp at hk); have hp1 := (HF.out.2.1.below hb1).f)
  have H1 : Hid (Row w.heap.size n pnil w1 ∧ Below w.heap.size w w1 ∧ FAt F T D g w1) := ⟨row_zeros hown1, hb1, HF.out.2.2.1.below hb1 HF.out.2.2.1.ltF HF.out.2.2.1.ltT⟩
  clear hown1 hgrow1 hb1
  refine (size_any H1.out.2.2).mono ?_
  rintro e w' ⟨rfl, hw⟩
  have hw := hw.symm
  subst hw
  have HTh : Hid (Calls Try.prog 112 #[.int .i64 D.q, .slice xo n xc, .slice yo n yc] w1 fun e w' => Below w1.heap.size w1 w' ∧ ∃ v lo co, e = .returned (.tuple #[v, .int .i64 0]) ∧ OwnP w1.heap.size v lo co w' ∧ lo ≤ n ∧ El D co ∧ Trd lo co ∧ ∀ j, j < n → D.vl co (xs j) = y j) := by
    have hcx : D.chk n (fun j => ((xs j : Nat) : Int)) = 0 := by
      unfold FD.chk
      rw [if_neg (by omega), if_pos (allHas_iff.2 (fun j hj => has_of_lt (HX.out.1 j hj)))]
    have hcy : D.chk n (fun j => ((y j : Nat) : Int)) = 0 := by
      unfold FD.chk
      rw [if_neg (by omega), if_pos (allHas_iff.2 (fun j hj => has_of_lt (HX.out.2.2 j hj)))]
    have hck : D.chk2 n (fun j => ((xs j : Nat) : Int)) n (fun j => ((y j : Nat) : Int)) = 0 := by
      unfold FD.chk2
      rw [if_pos hcx]; exact hcy
    have zx : ∀ j, j < n → zc n (fun j => ((xs j : Nat) : Int)) j = xs j := fun j hj => by unfold zc; rw [if_pos hj]; exact Int.toNat_natCast _
    have zy : ∀ j, j < n → zc n (fun j => ((y j : Nat) : Int)) j = y j := fun j hj => by unfold zc; rw [if_pos hj]; exact Int.toNat_natCast _
    refine (through_all HF.out.1 (HF.out.2.2.2.1.below H1.out.2.1) (HF.out.2.2.2.2.below H1.out.2.1)).mono ?_
    rintro e w' ⟨hb', ⟨_, _, _, v, lo, co, h1, h2, h3, h4, h5, h6⟩ | ⟨_, _, hbad, _⟩ | ⟨_, hbad, _⟩ | ⟨hbad, _⟩⟩
    · exact ⟨hb', v, lo, co, h1, h2, h3, h4, h5, fun j hj => by have := h6 j hj; rw [zx j hj, zy j hj] at this; exact this⟩
    · obtain ⟨i, j, hij, hj, e⟩ := hbad
      rw [zx i (by omega), zx j hj] at e
      exact absurd e (HX.out.2.1 i j (by omega) hj (by omega))
    · exact absurd rfl hbad
    · exact absurd hck hbad
  go_wp2_with fail
  refine HTh.out.mono ?_
  rintro e w2 ⟨hb2, v2, lo, co, rfl, ho2, hlo, hco1, hco2, hco3⟩
  obtain ⟨bo, cb, rfl, hA2⟩ := ho2.arg (by omega)
  have H2 : Hid (Row w.heap.size n pnil w2 ∧ Below w.heap.size w w2 ∧ Sl bo lo co w2 ∧ El D co ∧ Trd lo co ∧ ∀ j, j < n → D.vl co (xs j) = y j) := ⟨H1.out.1.below hb2 H1.out.1.lt, bel_up' H1.out.2.1 hb2, hA2.sl, hco1, hco2, hco3⟩
  clear hb2 ho2 hA2 hco1 hco2 hco3
  go_wp2_with (show wpList _ _ _ (Oper.mk (some 26) _ _ _ _ _ :: _) _ _; refine copy_at rfl _ _ rfl w.heap.size n 0 n n lo cb bo rfl rfl pnil co H2.out.1 H2.out.2.2.1 (by omega) (by omega) w.heap.size w H2.out.2.1 (Nat.le_refl _) ?_; intro w3 hr3 hb3)
  go_ret
  refine ⟨co, rfl, hr3.congr (fun j _ => ?_), H2.out.2.2.2.1, fun j hj => H2.out.2.2.2.2.1.1 j (by omega), H2.out.2.2.2.2.2, hb3⟩
  by_cases e : j < lo
  · rw [if_pos ⟨Nat.zero_le _, by omega⟩, Nat.sub_zero]
  · rw [if_neg (by omega)]
    exact (H2.out.2.2.2.2.1.1 j (by omega)).symm
end Go.Proofs.Ytbofcldmgjeklaa

/- What it is worth that nodes are right. -/
namespace Go.Proofs.Ytbofcldmgjeklaa
open Go.RowKit Go.Sort

theorem ndc_ok {n : Int} {z : Nat → Int} : ∀ {m : Nat}, ndc n z m = 0 → ∀ i, i < m → (0 ≤ z i ∧ z i < n) ∧ z i ∉ zl i z
  | 0, _, i, hi => absurd hi (by omega)
  | m + 1, h, i, hi => by
    have h' : (if ndc n z m ≠ 0 then ndc n z m else if ¬ (0 ≤ z m ∧ z m < n) then 10 else if z m ∈ zl m z then 7 else 0) = 0 := h
    by_cases e0 : ndc n z m = 0
    · rw [if_neg (by omega)] at h'
      by_cases e1 : 0 ≤ z m ∧ z m < n
      · rw [if_neg (fun x => x e1)] at h'
        by_cases e2 : z m ∈ zl m z
        · rw [if_pos e2] at h'; omega
        · by_cases e : i = m
          · rw [e]; exact ⟨e1, e2⟩
          · exact ndc_ok e0 i (by omega)
      · rw [if_pos e1] at h'; omega
    · rw [if_pos e0] at h'; exact absurd h' e0
theorem ndc_apart {n : Int} {z : Nat → Int} {m : Nat} (h : ndc n z m = 0) {i j : Nat} (hi : i < m) (hj : j < m) (hne : i ≠ j) : z i ≠ z j := by
  intro e
  rcases Nat.lt_or_gt_of_ne hne with c | c
  · refine (ndc_ok h j hj).2 ?_
    rw [← e]
    exact List.mem_map.2 ⟨i, List.mem_range.2 c, rfl⟩
  · refine (ndc_ok h i hi).2 ?_
    rw [e]
    exact List.mem_map.2 ⟨j, List.mem_range.2 c, rfl⟩
end Go.Proofs.Ytbofcldmgjeklaa

/- What a lost node had: Mend. -/
namespace Go.Proofs.Ytbofcldmgjeklaa
open Go.RowKit Go.Sort

/-- What is wrong with what is told to mend a node. -/
def mdc (D : FD) (m : Nat) (z : Nat → Int) (m' : Nat) (h : Nat → Int) (n d lost : Int) : Int :=
  if ¬ (0 ≤ lost ∧ lost < n) then 10 else if ndchk m z n d ≠ 0 then ndchk m z n d else if lost ∈ zl m z then 7 else D.nchk m' h (m : Nat)
theorem Arg.nat {ao : Option Addr} {n cap : Nat} {z : Nat → Int} {w : World} (h : Arg ao n cap z w) (hz : ∀ j, j < n → 0 ≤ z j) : Arg ao n cap (fun j => ((zc n z j : Nat) : Int)) w := by
  refine ⟨fun j hj => ?_, h.lt, h.few, h.nil, h.le, h.cap⟩
  obtain ⟨b, off, e, hc⟩ := h.sl j hj
  refine ⟨b, off, e, ?_⟩
  rw [hc]
  have e2 : z j = ((zc n z j : Nat) : Int) := by unfold zc; rw [if_pos hj]; have := hz j hj; omega
  rw [← e2]
/-- What Mend tells. -/
def MeP (D : FD) (m : Nat) (z : Nat → Int) (m' : Nat) (h : Nat → Int) (n d lost : Int) (w : World) (e : Ending) (w' : World) : Prop :=
  Below w.heap.size w w' ∧ ((mdc D m z m' h n d lost ≠ 0 ∧ e = .returned (.tuple #[.slice none 0 0, .int .i64 (mdc D m z m' h n d lost)])) ∨
    (mdc D m z m' h n d lost = 0 ∧ ∃ co g, e = .returned (.tuple #[.slice (some ⟨g, 0, none⟩) m m, .int .i64 0]) ∧ w.heap.size ≤ g ∧ Row g m co w' ∧ El D co ∧ Bd m co ∧ ∀ j, j < m → D.vl co (zc m z j) = zc m h j))

set_option maxHeartbeats 4000000 in
set_option maxRecDepth 100000 in
theorem smend_any {D : FD} (hD : D ∈ fieldsL) {B F T : Nat} {g : Nat → Value} {pn pk pd : Int} {ao bo : Option Addr} {m ca m' cb : Nat} {z h : Nat → Int} {w : World} (hP : PlA B F pn pk pd w) (hF : FAt F T D g w) (hA : Arg ao m ca z w) (hH : Arg bo m' cb h w) (hm : m ≤ 1000) (hm' : m' ≤ 1000) (hpd : pd ≤ 15) (hpn : pn ≤ (D.q : Int)) (lost : Int) :
    Calls Try.prog 56 #[.pointer (some ⟨B, 0, none⟩), .int .i64 lost, .slice ao m ca, .slice bo m' cb] w (MeP D m z m' h pn pd lost w) := by
  have HF : Hid (D ∈ fieldsL ∧ PlA B F pn pk pd w ∧ FAt F T D g w ∧ Arg ao m ca z w ∧ Arg bo m' cb h w) := ⟨hD, hP, hF, hA, hH⟩
  have c3 := hP.d
  obtain ⟨t, ht⟩ : ∃ t, t = decide (0 ≤ lost ∧ lost < pn) := ⟨_, rfl⟩
  have HIs : Hid (Calls Try.prog 87 #[.pointer (some ⟨B, 0, none⟩), .int .i64 lost] w fun e w' => e = .returned (.bool t) ∧ w' = w) := by rw [ht]; exact isNode_any hP lost
  obtain ⟨E1, hE1⟩ : ∃ E1, E1 = ndchk m z pn pd := ⟨_, rfl⟩
  have HC1 : Hid (Calls Try.prog 83 #[.pointer (some ⟨B, 0, none⟩), .slice ao m ca, .int .i64 pd] w fun e w' => e = .returned (.int .i64 E1) ∧ w' = w) := by rw [hE1]; exact checkNodes_any hP hA hm pd
  obtain ⟨t2, ht2⟩ : ∃ t2, t2 = decide (lost ∈ zl m z) := ⟨_, rfl⟩
  have HC2 : Hid (Calls Try.prog 90 #[.slice ao m ca, .int .i64 lost] w fun e w' => e = .returned (.bool t2) ∧ w' = w) := by rw [ht2]; exact contains_any lost hA.sl (by omega)
  obtain ⟨E2, hE2⟩ : ∃ E2, E2 = D.nchk m' h (m : Nat) := ⟨_, rfl⟩
  have HC3 : Hid (Calls Try.prog 44 #[.pointer (some ⟨B, 0, none⟩), .slice bo m' cb, .int .i64 (m : Nat)] w fun e w' => e = .returned (.int .i64 E2) ∧ Below w.heap.size w w') := by rw [hE2]; exact checkList_any hP hF hH.sl (by omega) (m : Nat)
  have HZ : Hid (mdc D m z m' h pn pd lost = if ¬ (t = true) then 10 else if E1 ≠ 0 then E1 else if t2 = true then 7 else E2) := by
    show _ = _
    unfold mdc
    rw [ht, ht2, hE1, hE2]
    simp only [decide_eq_true_eq]
  have HE : Hid (E1 = ndchk m z pn pd ∧ E2 = D.nchk m' h (m : Nat)) := ⟨hE1, hE2⟩
  clear hD hP hF hA hH ht ht2 hE1 hE2
  go_enter Try.func56, Try.ntmps56
  go_wp2_with fail
  refine HIs.out.mono ?_
  rintro e w' ⟨rfl, hw⟩
  have hw := hw.symm
  subst hw
  cases t with
  | false =>
    have HM : Hid (mdc D m z m' h pn pd lost = 10) := by have h := HZ.out; simp at h; exact h
    go_wp2
    go_ret2
    exact ⟨Below.refl _ _, Or.inl ⟨by rw [HM.out]; decide, by rw [HM.out]; rfl⟩⟩
  | true =>
    have HM : Hid (mdc D m z m' h pn pd lost = if E1 ≠ 0 then E1 else if t2 = true then 7 else E2) := by have h := HZ.out; rw [if_neg (by simp)] at h; exact h
    clear HZ
    go_wp2_with fail
    refine HC1.out.mono ?_
    rintro e w' ⟨rfl, hw⟩
    have hw := hw.symm
    subst hw
    by_cases h1 : E1 = 0
    · have HM2 : Hid (mdc D m z m' h pn pd lost = if t2 = true then 7 else E2) := by have h := HM.out; rw [if_neg (by omega)] at h; exact h
      clear HM
      subst h1
      go_wp2_with fail
      refine HC2.out.mono ?_
      rintro e w' ⟨rfl, hw⟩
      have hw := hw.symm
      subst hw
      cases t2 with
      | true =>
        have HM3 : Hid (mdc D m z m' h pn pd lost = 7) := by have h := HM2.out; simp at h; exact h
        go_wp2
        go_ret2
        exact ⟨Below.refl _ _, Or.inl ⟨by rw [HM3.out]; decide, by rw [HM3.out]; rfl⟩⟩
      | false =>
        have HM3 : Hid (mdc D m z m' h pn pd lost = E2) := by have h := HM2.out; simp at h; exact h
        clear HM2
        go_wp2_with fail
        refine HC3.out.mono ?_
        rintro e w1 ⟨rfl, hb1⟩
        have HB1 : Hid (Below w.heap.size w w1) := hb1
        clear hb1
        by_cases h2 : E2 = 0
        · have HN : Hid (m' = m ∧ D.nchk m' h (m : Nat) = 0 ∧ ndc pn z m = 0 ∧ m ≤ 15) := by
            have a := HE.out.2
            rw [h2] at a
            have b := HE.out.1
            unfold ndchk at b
            by_cases c : ((m : Nat) : Int) = pd
            · rw [if_neg (by omega)] at b
              exact ⟨by have := (nchk_ok a.symm).1; omega, a.symm, b.symm, by omega⟩
            · rw [if_pos c] at b; omega
          subst h2
          have e := HN.out.1
          subst e
          have HT : Hid (Calls Try.prog 91 #[.pointer (some ⟨B, 0, none⟩), .slice ao m' ca, .slice bo m' cb] w1 fun e w' => ∃ co, e = .returned (.slice (some ⟨w1.heap.size, 0, none⟩) m' m') ∧ Row w1.heap.size m' co w' ∧ El D co ∧ Bd m' co ∧ (∀ j, j < m' → D.vl co (zc m' z j) = zc m' h j) ∧ Below w1.heap.size w1 w') := by
            have hok := ndc_ok HN.out.2.2.1
            have hb := HB1.out
            have hzz : ∀ j, j < m' → ((zc m' z j : Nat) : Int) = z j := fun j hj => by unfold zc; rw [if_pos hj]; have := (hok j hj).1; omega
            refine sthrough_any HF.out.1 (HF.out.2.1.below hb) (HF.out.2.2.1.below hb HF.out.2.2.1.ltF HF.out.2.2.1.ltT) ((HF.out.2.2.2.1.below hb).nat (fun j hj => (hok j hj).1.1)) ((HF.out.2.2.2.2.below hb).nat (fun j hj => ?_)) (by have := HN.out.2.2.2; omega) (fun i hi => ?_) (fun i j hi hj hne e => ?_) (fun i hi => zc_lt HN.out.2.1 hi)
            · obtain ⟨s, e, _⟩ := has_nat ((nchk_ok HN.out.2.1).2 j hj)
              omega
            · have h1 := hzz i hi
              have h2 := (hok i hi).1
              omega
            · refine ndc_apart HN.out.2.2.1 hi hj hne ?_
              rw [← hzz i hi, ← hzz j hj, e]
          go_wp2_with fail
          refine HT.out.mono ?_
          rintro e w2 ⟨co, rfl, hr, he, hbd, hv, hb2⟩
          have HR : Hid (Row w1.heap.size m' co w2 ∧ El D co ∧ Bd m' co ∧ (∀ j, j < m' → D.vl co (zc m' z j) = zc m' h j) ∧ Below w.heap.size w w2) := ⟨hr, he, hbd, hv, bel_up' HB1.out hb2⟩
          clear hr he hbd hv hb2
          go_wp2
          go_ret2
          exact ⟨HR.out.2.2.2.2, Or.inr ⟨HM3.out, co, w1.heap.size, rfl, HB1.out.size, HR.out.1, HR.out.2.1, HR.out.2.2.1, HR.out.2.2.2.1⟩⟩
        · have hz : (E2 != 0) = true := by rw [bne_iff_ne]; exact h2
          have HE2 : Hid (E2 ≠ 0) := h2
          clear h2
          go_wp2
          go_ret2
          exact ⟨HB1.out, Or.inl ⟨by rw [HM3.out]; exact HE2.out, by rw [HM3.out]; rfl⟩⟩
    · have hz : (E1 != 0) = true := by rw [bne_iff_ne]; exact h1
      have HM2 : Hid (mdc D m z m' h pn pd lost = E1) := by have h := HM.out; rw [if_pos h1] at h; exact h
      have HE1 : Hid (E1 ≠ 0) := h1
      clear h1
      go_wp2
      go_ret2
      exact ⟨Below.refl _ _, Or.inl ⟨by rw [HM2.out]; exact HE1.out, by rw [HM2.out]; rfl⟩⟩
end Go.Proofs.Ytbofcldmgjeklaa

/- Plain mathematics: through values at different places goes just one short polynomial, and equations of powers are met by it alone. No Go text here. -/
namespace Go.Proofs.Ytbofcldmgjeklaa
open Go.RowKit Go.Sort

theorem thr_one {D : FD} (F : Fld D) {xs a b : Nat → Nat} {n : Nat} (hx : ∀ i, i < n → xs i < D.q) (hne : ∀ i j, i < n → j < n → i ≠ j → xs i ≠ xs j) (ha : El D a) (hb : El D b) (hba : Bd n a) (hbb : Bd n b) (h : ∀ i, i < n → D.ev a (xs i) n = D.ev b (xs i) n) : a = b := by
  by_cases e : a = b
  · exact e
  · have h1 := far_apart F hx hne ha hb hba hbb e
    rw [ct_none n (fun i hi => by simp [h i hi])] at h1
    omega
theorem ct_alltrue (n : Nat) : ct (fun _ => true) n = n := by
  have h := ct_not (fun _ => true) n
  rw [ct_none (p := fun _ => !true) n (fun _ _ => rfl)] at h
  omega
theorem thr_ex {D : FD} (hD : D ∈ fieldsL) {xs y : Nat → Nat} : ∀ n, (∀ i, i < n → xs i < D.q) → (∀ i j, i < n → j < n → i ≠ j → xs i ≠ xs j) → (∀ i, i < n → y i < D.q) → ∃ co, El D co ∧ Bd n co ∧ ∀ i, i < n → D.ev co (xs i) n = y i
  | 0, _, _, _ => ⟨pnil, el_nil (fld hD), fun _ _ => rfl, fun i hi => absurd hi (by omega)⟩
  | n + 1, hx, hne, hy => by
    have F := fld hD
    obtain ⟨co, h1, h2, h3⟩ := thr_ex hD n (fun i hi => hx i (by omega)) (fun i j hi hj => hne i j (by omega) (by omega)) (fun i hi => hy i (by omega))
    obtain ⟨E, e1, e2, e3, e4⟩ := loc_ex F (err := fun _ => true) (xs := xs) (n := n) (wr := n) (fun i hi => hx i (by omega)) (by rw [ct_alltrue]; exact Nat.le_refl _)
    have e5 : D.ev E (xs n) (n + 1) ≠ 0 := fun h0 => by
      have hE : E ≠ pnil := fun e => by rw [e] at e3; exact absurd e3 (by show ¬ (0 = 1); omega)
      have h4 := few_roots F (n := n + 1) hx hne (n + 1) e1 e2 hE
      have h5 : ct (fun i => decide (D.ev E (xs i) (n + 1) = 0)) (n + 1) = n + 1 := by
        have h6 := ct_not (fun i => decide (D.ev E (xs i) (n + 1) = 0)) (n + 1)
        rw [ct_none (p := fun i => !decide (D.ev E (xs i) (n + 1) = 0)) (n + 1) (fun i hi => by
          by_cases e : i = n
          · rw [e]; simp [h0]
          · simp [e4 i (by omega) rfl])] at h6
        omega
      omega
    obtain ⟨z, hz⟩ : ∃ z, z = D.ev E (xs n) (n + 1) := ⟨_, rfl⟩
    have hzq : z < D.q := by rw [hz]; exact ev_lt F _ _ _
    obtain ⟨c, hc⟩ : ∃ c, c = D.mul (D.sb (y n) (D.ev co (xs n) n)) (D.iv z) := ⟨_, rfl⟩
    have hce : D.mul c z = D.sb (y n) (D.ev co (xs n) n) := by
      rw [hc, F.mul_assoc, F.mul_comm (D.iv z) z, iv_is hD hzq (by rw [hz]; exact e5), mul1 F (sb_lt F (hy n (by omega)) (ev_lt F _ _ _))]
    refine ⟨padd D co (pscale D c E), el_add F h1 (el_scale F _ _), fun j hj => ?_, fun i hi => ?_⟩
    · show D.ad (co j) (D.mul c (E j)) = 0
      rw [h2 j (by omega), e2 j hj, mul0 F, ad_zero F (zero_lt' F)]
    · rw [ev_add F _ h1 (el_scale F _ _), ev_scale F, ev_to F _ h2 1]
      by_cases e : i = n
      · rw [e, ← hz, hce, ad_sb F (hy n (by omega)) (ev_lt F _ _ _)]
      · rw [e4 i (by omega) rfl, mul0 F, ad_zero F (ev_lt F _ _ _), h3 i (by omega)]

/-- Equations that are met have no row that says 0 = 1. -/
theorem met_no {D : FD} (F : Fld D) {m n k : Nat} {R M : Nat → Nat → Nat} {p b u : Nat → Nat} (h : RRE D (n + 1) k R p) (hel : ∀ i, i < m → El D (M i)) (hb : ∀ i, i < m → b i < D.q) (hs : ∀ v, Spn D (RowsOf k R) v ↔ Spn D (RowsOf m (aug n M b)) v) (hu : ∀ i, i < m → dt D (M i) u n = b i) : ∀ i, i < k → p i ≠ n := fun i hi e => by
  have h1 : Spn D (RowsOf m (aug n M b)) (R i) := (hs _).1 ⟨[(1, R i)], fun x hx => by simp at hx; rw [hx]; exact ⟨i, hi, rfl⟩, by
    show R i = padd D (pscale D 1 (R i)) pnil
    rw [pscale_one F (h.el i hi), padd_nil F (h.el i hi)]⟩
  have dtc : ∀ {a a' : Nat → Nat} (t : Nat), (∀ j, j < t → a j = a' j) → dt D a u t = dt D a' u t := fun {a a'} t => by
    induction t with
    | zero => intro _; rfl
    | succ t ih =>
      intro ht
      show D.ad (dt D a u t) (D.mul (a t) (u t)) = D.ad (dt D a' u t) (D.mul (a' t) (u t))
      rw [ih (fun j hj => ht j (by omega)), ht t (by omega)]
  have h2 : El D (R i) ∧ dt D (R i) u n = R i n := by
    refine spn_ind (Q := fun v => El D v ∧ dt D v u n = v n) ⟨el_nil F, dt_nil F u n⟩ (fun a c ha hc => ⟨el_add F ha.1 hc.1, ?_⟩) (fun s v hv => ⟨el_scale F _ _, ?_⟩) (fun v hv => ?_) h1
    · rw [dt_add F u ha.1 hc.1, ha.2, hc.2]; rfl
    · rw [dt_scale F, hv.2]; rfl
    · obtain ⟨j, hj, rfl⟩ := hv
      refine ⟨fun t => ?_, ?_⟩
      · unfold aug
        by_cases e : t = n
        · rw [if_pos e]; exact hb j hj
        · rw [if_neg e]; exact hel j hj t
      · rw [dtc n (a' := M j) (fun t ht => by unfold aug; rw [if_neg (by omega)]), hu j hj]
        unfold aug
        rw [if_pos rfl]
  have h3 : dt D (R i) u n = 0 := by
    rw [dtc n (a' := pnil) (fun t ht => h.lead i t hi (by omega)), dt_nil F]
  have h4 := h.one i hi
  rw [e] at h4
  have := h2.2
  omega

/-- The powers of a place, so many of them. -/
def pwr (D : FD) (n x : Nat) : Nat → Nat := fun j => if j < n then D.xp x j else 0
theorem pwr_el {D : FD} (F : Fld D) (n x : Nat) : El D (pwr D n x) := fun j => by
  unfold pwr; split
  · exact xp_lt F _ _
  · exact zero_lt' F
theorem pwr_bd (D : FD) (n x : Nat) : Bd n (pwr D n x) := fun j hj => by unfold pwr; rw [if_neg (by omega)]
theorem pwr_dt {D : FD} (F : Fld D) (n x : Nat) (u : Nat → Nat) : dt D (pwr D n x) u n = D.ev u x n := by
  rw [dt_dot]
  exact dot_first F x n (fun c hc => by unfold pwr; rw [if_pos hc])

/-- What solves equations of powers is the polynomial through the values. -/
theorem solve_thr {D : FD} (hD : D ∈ fieldsL) {xs y co : Nat → Nat} {n k : Nat} {R : Nat → Nat → Nat} {p : Nat → Nat} (hx : ∀ i, i < n → xs i < D.q) (hne : ∀ i j, i < n → j < n → i ≠ j → xs i ≠ xs j) (hy : ∀ i, i < n → y i < D.q) (hc1 : El D co) (hc2 : Bd n co) (hc3 : ∀ i, i < n → D.ev co (xs i) n = y i)
    (h : RRE D (n + 1) k R p) (hs : ∀ v, Spn D (RowsOf k R) v ↔ Spn D (RowsOf n (aug n (fun i => pwr D n (xs i)) y)) v) : (∀ i, i < k → p i ≠ n) ∧ ∀ j, j < n → slx R p n k j = co j := by
  have F := fld hD
  have h0 := met_no F h (fun i _ => pwr_el F n (xs i)) hy hs (u := co) (fun i hi => by rw [pwr_dt F]; exact hc3 i hi)
  refine ⟨h0, fun j hj => ?_⟩
  have h1 := fun i hi => slx_solves F h h0 (fun i _ => pwr_el F n (xs i)) hy hs i hi
  obtain ⟨a, ha⟩ : ∃ a : Nat → Nat, a = fun j => if j < n then slx R p n k j else 0 := ⟨_, rfl⟩
  have e : a = co := by
    refine thr_one F hx hne (fun j => ?_) hc1 (fun j hj => ?_) hc2 (fun i hi => ?_)
    · rw [ha]
      show (if j < n then slx R p n k j else 0) < D.q
      split
      · exact slx_el F k h.el j
      · exact zero_lt' F
    · rw [ha]; exact if_neg (by omega)
    · rw [hc3 i hi, ← h1 i hi, ← pwr_dt F]
      exact dt_same n (fun j hj => by rw [ha]; exact if_pos hj)
  rw [← e, ha]
  exact (if_pos hj).symm
end Go.Proofs.Ytbofcldmgjeklaa
