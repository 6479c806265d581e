/- Texts of ours, one behind the other: KM11 KM12 KM13 KM14 S47. -/
import Derived.Test.YtbofcldmgjeklabZKM6
import Derived.Test.YtbofcldmgjeklabZW15
import Derived.Test.YtbofcldmgjeklabZS27
import Derived.Test.YtbofcldmgjeklabZI12
import Derived.Test.YtbofcldmgjeklabZK4
/- Is a square the same turned over? -/
namespace Go.Proofs.Ytbofcldmgjeklab
open Go.RowKit Go.Sort

/-- A square that is the same turned over, in its first rows. -/
def Smt (R : Nat → Nat → Nat) (n : Nat) : Prop := ∀ i j, i < n → j < i → R i j = R j i

/-- What sameTurned tells. -/
def SmtP (R : Nat → Nat → Nat) (n : Nat) (w : World) (e : Ending) (w' : World) : Prop := ∃ b, e = .returned (.bool b) ∧ (b = true ↔ Smt R n) ∧ w' = w
set_option maxHeartbeats 4000000 in
set_option maxRecDepth 100000 in
theorem sameTurned_any {B G m n mc : Nat} {R : Nat → Nat → Nat} {h : Nat → Nat} {w : World} (hM : Mx B G m n n R h w) (hn : n ≤ 1000) :
    Calls Try.prog 62 #[.slice (some ⟨G, 0, none⟩) n mc] w (SmtP R n w) := by
  have HM : Hid (Mx B G m n n R h w) := hM
  clear hM
  go_enter Try.func62, Try.ntmps62
  go_wp2
  go_loopw [3, 4, 5, 6, 9, 18] (fun _ _ _ _ vi _ wr => ∃ r : Nat, r ≤ n ∧ vi = .int .i64 r ∧ Hid (Smt R r) ∧ wr = w) (fun _ _ _ _ vi _ _ => n - (intOf vi).toNat)
  case atStart => exact ⟨0, by omega, rfl, (show Hid (Smt R 0) from fun i j hi => absurd hi (by omega)), rfl⟩
  case round =>
    obtain ⟨r, hr, rfl, HG, hw⟩ := hrel
    have hw := hw.symm
    subst hw
    by_cases hlt : r < n
    · have hib : (r : Int) < (n : Int) := by omega
      have hrn : r ≤ n := hr
      obtain ⟨f, hf, he⟩ := HM.out.outer
      have hcr := hf.cell r (Nat.lt_of_lt_of_le hlt HM.out.le)
      rw [he r hlt] at hcr
      go_wp2
      go_loopw [5, 6, 18] (fun _ _ vj wq => ∃ j : Nat, j ≤ r ∧ vj = .int .i64 j ∧ Hid (∀ t, t < j → R r t = R t r) ∧ wq = w) (fun _ _ vj _ => r - (intOf vj).toNat)
      case atStart => exact ⟨0, by omega, rfl, (show Hid _ from fun t ht => absurd ht (by omega)), rfl⟩
      case round =>
        obtain ⟨j, hj, rfl, HJ, hw⟩ := hrel
        have hw := hw.symm
        subst hw
        by_cases hjl : j < r
        · have hjb : (j : Int) < (r : Int) := by omega
          have hjn : (j : Int) < (n : Int) := by omega
          have hcj := hf.cell j (by have := HM.out.le; omega)
          rw [he j (by omega)] at hcj
          have ha := (HM.out.row r hlt).cell j (by omega)
          have hb := (HM.out.row j (by omega)).cell r hlt
          obtain ⟨x, hx⟩ : ∃ x, x = R r j := ⟨_, rfl⟩
          obtain ⟨y, hy⟩ : ∃ y, y = R j r := ⟨_, rfl⟩
          rw [← hx] at ha
          rw [← hy] at hb
          by_cases e : x = y
          · have hz : ((x : Int) != (y : Int)) = false := by rw [e]; simp
            have HV : Hid (∀ t, t < j + 1 → R r t = R t r) := fun t ht => by
              by_cases e2 : t = j
              · rw [e2, ← hx, ← hy, e]
              · exact HJ.out t (by omega)
            clear e hx hy
            go_wp2
            go_roundw
            case rel => exact ⟨j + 1, by omega, by go_num, HV, by first | rfl | trivial⟩
            case measure => simp [intOf]; omega
          · have hz : ((x : Int) != (y : Int)) = true := by rw [bne_iff_ne]; omega
            have HV : Hid (¬ Smt R n) := fun hs => e (by rw [hx, hy]; exact hs r j hlt hjl)
            clear e hx hy
            go_wp2
            go_ret
            exact ⟨false, rfl, ⟨fun h => Bool.noConfusion h, fun h => absurd h HV.out⟩, rfl⟩
        · have hjb : ¬ (j : Int) < (r : Int) := by omega
          have hje : j = r := by omega
          subst hje
          have HV : Hid (Smt R (j + 1)) := fun i t hi ht => by
            by_cases e : i = j
            · subst e; exact HJ.out t ht
            · exact HG.out i t (by omega) ht
          go_wp2
          go_roundw
          case rel => exact ⟨j + 1, by omega, by go_num, HV, by first | rfl | trivial⟩
          case measure => simp [intOf]; omega
    · have hib : ¬ (r : Int) < (n : Int) := by omega
      have hre : n = r := by omega
      subst hre
      go_wp2
      go_ret
      exact ⟨true, rfl, ⟨fun _ => HG.out, fun _ => rfl⟩, rfl⟩
end Go.Proofs.Ytbofcldmgjeklab

/- The polynomial through so many values: through. -/
namespace Go.Proofs.Ytbofcldmgjeklab
open Go.RowKit Go.Sort

set_option maxHeartbeats 4000000 in
set_option maxRecDepth 100000 in
theorem sthrough_any {D : FD} (hD : D ∈ fieldsL) {B F T : Nat} {g : Nat → Value} {pn pk pd : Int} {xo yo : Option Addr} {n xc yc : Nat} {xs y : Nat → Nat} {w : World} (hP : PlA B F pn pk pd w) (hF : FAt F T D g w) (hX : Arg xo n xc (fun j => ((xs j : Nat) : Int)) w) (hY : Arg yo n yc (fun j => ((y j : Nat) : Int)) w) (hn : n ≤ 64)
    (hx : ∀ i, i < n → xs i < D.q) (hne : ∀ i j, i < n → j < n → i ≠ j → xs i ≠ xs j) (hy : ∀ i, i < n → y i < D.q) :
    Calls Try.prog 66 #[.pointer (some ⟨B, 0, none⟩), .slice xo n xc, .slice yo n yc] w fun e w' => ∃ co, e = .returned (.slice (some ⟨w.heap.size, 0, none⟩) n n) ∧ Row w.heap.size n co w' ∧ El D co ∧ Bd n co ∧ (∀ j, j < n → D.vl co (xs j) = y j) ∧ Below w.heap.size w w' := by
  have HF : Hid (D ∈ fieldsL ∧ PlA B F pn pk pd w ∧ FAt F T D g w ∧ Arg xo n xc (fun j => ((xs j : Nat) : Int)) w ∧ Arg yo n yc (fun j => ((y j : Nat) : Int)) w) := ⟨hD, hP, hF, hX, hY⟩
  have HX : Hid ((∀ i, i < n → xs i < D.q) ∧ (∀ i j, i < n → j < n → i ≠ j → xs i ≠ xs j) ∧ ∀ i, i < n → y i < D.q) := ⟨hx, hne, hy⟩
  clear hD hP hF hX hY hx hne hy
  go_enter Try.func66, Try.ntmps66
  go_wp2_with (at_make; refine make_int rfl _ _ rfl _ n rfl rfl (by omega) (by omega) ?_; intro w1 hown1 hgrow1; have hb1 : Below w.heap.size w w1 := below_grown hgrow1 (Nat.le_refl _) (fun k hk => by simp at hk); have hp1 := (HF.out.2.1.below hb1).f)
  have H1 : Hid (Row w.heap.size n pnil w1 ∧ Below w.heap.size w w1 ∧ FAt F T D g w1) := ⟨row_zeros hown1, hb1, HF.out.2.2.1.below hb1 HF.out.2.2.1.ltF HF.out.2.2.1.ltT⟩
  clear hown1 hgrow1 hb1
  refine (size_any H1.out.2.2).mono ?_
  rintro e w' ⟨rfl, hw⟩
  have hw := hw.symm
  subst hw
  have HTh : Hid (Calls Try.prog 107 #[.int .i64 D.q, .slice xo n xc, .slice yo n yc] w1 fun e w' => Below w1.heap.size w1 w' ∧ ∃ v lo co, e = .returned (.tuple #[v, .int .i64 0]) ∧ OwnP w1.heap.size v lo co w' ∧ lo ≤ n ∧ El D co ∧ Trd lo co ∧ ∀ j, j < n → D.vl co (xs j) = y j) := by
    have hcx : D.chk n (fun j => ((xs j : Nat) : Int)) = 0 := by
      unfold FD.chk
      rw [if_neg (by omega), if_pos (allHas_iff.2 (fun j hj => has_of_lt (HX.out.1 j hj)))]
    have hcy : D.chk n (fun j => ((y j : Nat) : Int)) = 0 := by
      unfold FD.chk
      rw [if_neg (by omega), if_pos (allHas_iff.2 (fun j hj => has_of_lt (HX.out.2.2 j hj)))]
    have hck : D.chk2 n (fun j => ((xs j : Nat) : Int)) n (fun j => ((y j : Nat) : Int)) = 0 := by
      unfold FD.chk2
      rw [if_pos hcx]; exact hcy
    have zx : ∀ j, j < n → zc n (fun j => ((xs j : Nat) : Int)) j = xs j := fun j hj => by unfold zc; rw [if_pos hj]; exact Int.toNat_natCast _
    have zy : ∀ j, j < n → zc n (fun j => ((y j : Nat) : Int)) j = y j := fun j hj => by unfold zc; rw [if_pos hj]; exact Int.toNat_natCast _
    refine (through_all HF.out.1 (HF.out.2.2.2.1.below H1.out.2.1) (HF.out.2.2.2.2.below H1.out.2.1)).mono ?_
    rintro e w' ⟨hb', ⟨_, _, _, v, lo, co, h1, h2, h3, h4, h5, h6⟩ | ⟨_, _, hbad, _⟩ | ⟨_, hbad, _⟩ | ⟨hbad, _⟩⟩
    · exact ⟨hb', v, lo, co, h1, h2, h3, h4, h5, fun j hj => by have := h6 j hj; rw [zx j hj, zy j hj] at this; exact this⟩
    · obtain ⟨i, j, hij, hj, e⟩ := hbad
      rw [zx i (by omega), zx j hj] at e
      exact absurd e (HX.out.2.1 i j (by omega) hj (by omega))
    · exact absurd rfl hbad
    · exact absurd hck hbad
  go_wp2_with fail
  refine HTh.out.mono ?_
  rintro e w2 ⟨hb2, v2, lo, co, rfl, ho2, hlo, hco1, hco2, hco3⟩
  obtain ⟨bo, cb, rfl, hA2⟩ := ho2.arg (by omega)
  have H2 : Hid (Row w.heap.size n pnil w2 ∧ Below w.heap.size w w2 ∧ Sl bo lo co w2 ∧ El D co ∧ Trd lo co ∧ ∀ j, j < n → D.vl co (xs j) = y j) := ⟨H1.out.1.below hb2 H1.out.1.lt, bel_up' H1.out.2.1 hb2, hA2.sl, hco1, hco2, hco3⟩
  clear hb2 ho2 hA2 hco1 hco2 hco3
  go_wp2_with (show wpList _ _ _ (Oper.mk (some 26) _ _ _ _ _ :: _) _ _; refine copy_at rfl _ _ rfl w.heap.size n 0 n n lo cb bo rfl rfl pnil co H2.out.1 H2.out.2.2.1 (by omega) (by omega) w.heap.size w H2.out.2.1 (Nat.le_refl _) ?_; intro w3 hr3 hb3)
  go_ret
  refine ⟨co, rfl, hr3.congr (fun j _ => ?_), H2.out.2.2.2.1, fun j hj => H2.out.2.2.2.2.1.1 j (by omega), H2.out.2.2.2.2.2, hb3⟩
  by_cases e : j < lo
  · rw [if_pos ⟨Nat.zero_le _, by omega⟩, Nat.sub_zero]
  · rw [if_neg (by omega)]
    exact (H2.out.2.2.2.2.1.1 j (by omega)).symm
end Go.Proofs.Ytbofcldmgjeklab

/- What it is worth that nodes are right. -/
namespace Go.Proofs.Ytbofcldmgjeklab
open Go.RowKit Go.Sort

theorem ndc_ok {n : Int} {z : Nat → Int} : ∀ {m : Nat}, ndc n z m = 0 → ∀ i, i < m → (0 ≤ z i ∧ z i < n) ∧ z i ∉ zl i z
  | 0, _, i, hi => absurd hi (by omega)
  | m + 1, h, i, hi => by
    have h' : (if ndc n z m ≠ 0 then ndc n z m else if ¬ (0 ≤ z m ∧ z m < n) then 10 else if z m ∈ zl m z then 7 else 0) = 0 := h
    by_cases e0 : ndc n z m = 0
    · rw [if_neg (by omega)] at h'
      by_cases e1 : 0 ≤ z m ∧ z m < n
      · rw [if_neg (fun x => x e1)] at h'
        by_cases e2 : z m ∈ zl m z
        · rw [if_pos e2] at h'; omega
        · by_cases e : i = m
          · rw [e]; exact ⟨e1, e2⟩
          · exact ndc_ok e0 i (by omega)
      · rw [if_pos e1] at h'; omega
    · rw [if_pos e0] at h'; exact absurd h' e0
theorem ndc_apart {n : Int} {z : Nat → Int} {m : Nat} (h : ndc n z m = 0) {i j : Nat} (hi : i < m) (hj : j < m) (hne : i ≠ j) : z i ≠ z j := by
  intro e
  rcases Nat.lt_or_gt_of_ne hne with c | c
  · refine (ndc_ok h j hj).2 ?_
    rw [← e]
    exact List.mem_map.2 ⟨i, List.mem_range.2 c, rfl⟩
  · refine (ndc_ok h i hi).2 ?_
    rw [e]
    exact List.mem_map.2 ⟨j, List.mem_range.2 c, rfl⟩
end Go.Proofs.Ytbofcldmgjeklab

/- What a lost node had: Mend. -/
namespace Go.Proofs.Ytbofcldmgjeklab
open Go.RowKit Go.Sort

/-- What is wrong with what is told to mend a node. -/
def mdc (D : FD) (m : Nat) (z : Nat → Int) (m' : Nat) (h : Nat → Int) (n d lost : Int) : Int :=
  if ¬ (0 ≤ lost ∧ lost < n) then 10 else if ndchk m z n d ≠ 0 then ndchk m z n d else if lost ∈ zl m z then 7 else D.nchk m' h (m : Nat)
theorem Arg.nat {ao : Option Addr} {n cap : Nat} {z : Nat → Int} {w : World} (h : Arg ao n cap z w) (hz : ∀ j, j < n → 0 ≤ z j) : Arg ao n cap (fun j => ((zc n z j : Nat) : Int)) w := by
  refine ⟨fun j hj => ?_, h.lt, h.few, h.nil, h.le, h.cap⟩
  obtain ⟨b, off, e, hc⟩ := h.sl j hj
  refine ⟨b, off, e, ?_⟩
  rw [hc]
  have e2 : z j = ((zc n z j : Nat) : Int) := by unfold zc; rw [if_pos hj]; have := hz j hj; omega
  rw [← e2]
/-- What Mend tells. -/
def MeP (D : FD) (m : Nat) (z : Nat → Int) (m' : Nat) (h : Nat → Int) (n d lost : Int) (w : World) (e : Ending) (w' : World) : Prop :=
  Below w.heap.size w w' ∧ ((mdc D m z m' h n d lost ≠ 0 ∧ e = .returned (.tuple #[.slice none 0 0, .int .i64 (mdc D m z m' h n d lost)])) ∨
    (mdc D m z m' h n d lost = 0 ∧ ∃ co g, e = .returned (.tuple #[.slice (some ⟨g, 0, none⟩) m m, .int .i64 0]) ∧ w.heap.size ≤ g ∧ Row g m co w' ∧ El D co ∧ Bd m co ∧ ∀ j, j < m → D.vl co (zc m z j) = zc m h j))

set_option maxHeartbeats 4000000 in
set_option maxRecDepth 100000 in
theorem smend_any {D : FD} (hD : D ∈ fieldsL) {B F T : Nat} {g : Nat → Value} {pn pk pd : Int} {ao bo : Option Addr} {m ca m' cb : Nat} {z h : Nat → Int} {w : World} (hP : PlA B F pn pk pd w) (hF : FAt F T D g w) (hA : Arg ao m ca z w) (hH : Arg bo m' cb h w) (hm : m ≤ 1000) (hm' : m' ≤ 1000) (hpd : pd ≤ 15) (hpn : pn ≤ (D.q : Int)) (lost : Int) :
    Calls Try.prog 23 #[.pointer (some ⟨B, 0, none⟩), .int .i64 lost, .slice ao m ca, .slice bo m' cb] w (MeP D m z m' h pn pd lost w) := by
  have HF : Hid (D ∈ fieldsL ∧ PlA B F pn pk pd w ∧ FAt F T D g w ∧ Arg ao m ca z w ∧ Arg bo m' cb h w) := ⟨hD, hP, hF, hA, hH⟩
  have c3 := hP.d
  obtain ⟨t, ht⟩ : ∃ t, t = decide (0 ≤ lost ∧ lost < pn) := ⟨_, rfl⟩
  have HIs : Hid (Calls Try.prog 64 #[.pointer (some ⟨B, 0, none⟩), .int .i64 lost] w fun e w' => e = .returned (.bool t) ∧ w' = w) := by rw [ht]; exact isNode_any hP lost
  obtain ⟨E1, hE1⟩ : ∃ E1, E1 = ndchk m z pn pd := ⟨_, rfl⟩
  have HC1 : Hid (Calls Try.prog 60 #[.pointer (some ⟨B, 0, none⟩), .slice ao m ca, .int .i64 pd] w fun e w' => e = .returned (.int .i64 E1) ∧ w' = w) := by rw [hE1]; exact checkNodes_any hP hA hm pd
  obtain ⟨t2, ht2⟩ : ∃ t2, t2 = decide (lost ∈ zl m z) := ⟨_, rfl⟩
  have HC2 : Hid (Calls Try.prog 65 #[.slice ao m ca, .int .i64 lost] w fun e w' => e = .returned (.bool t2) ∧ w' = w) := by rw [ht2]; exact contains_any lost hA.sl (by omega)
  obtain ⟨E2, hE2⟩ : ∃ E2, E2 = D.nchk m' h (m : Nat) := ⟨_, rfl⟩
  have HC3 : Hid (Calls Try.prog 57 #[.pointer (some ⟨B, 0, none⟩), .slice bo m' cb, .int .i64 (m : Nat)] w fun e w' => e = .returned (.int .i64 E2) ∧ Below w.heap.size w w') := by rw [hE2]; exact checkList_any hP hF hH.sl (by omega) (m : Nat)
  have HZ : Hid (mdc D m z m' h pn pd lost = if ¬ (t = true) then 10 else if E1 ≠ 0 then E1 else if t2 = true then 7 else E2) := by
    show _ = _
    unfold mdc
    rw [ht, ht2, hE1, hE2]
    simp only [decide_eq_true_eq]
  have HE : Hid (E1 = ndchk m z pn pd ∧ E2 = D.nchk m' h (m : Nat)) := ⟨hE1, hE2⟩
  clear hD hP hF hA hH ht ht2 hE1 hE2
  go_enter Try.func23, Try.ntmps23
  go_wp2_with fail
  refine HIs.out.mono ?_
  rintro e w' ⟨rfl, hw⟩
  have hw := hw.symm
  subst hw
  cases t with
  | false =>
    have HM : Hid (mdc D m z m' h pn pd lost = 10) := by have h := HZ.out; simp at h; exact h
    go_wp2
    go_ret2
    exact ⟨Below.refl _ _, Or.inl ⟨by rw [HM.out]; decide, by rw [HM.out]; rfl⟩⟩
  | true =>
    have HM : Hid (mdc D m z m' h pn pd lost = if E1 ≠ 0 then E1 else if t2 = true then 7 else E2) := by have h := HZ.out; rw [if_neg (by simp)] at h; exact h
    clear HZ
    go_wp2_with fail
    refine HC1.out.mono ?_
    rintro e w' ⟨rfl, hw⟩
    have hw := hw.symm
    subst hw
    by_cases h1 : E1 = 0
    · have HM2 : Hid (mdc D m z m' h pn pd lost = if t2 = true then 7 else E2) := by have h := HM.out; rw [if_neg (by omega)] at h; exact h
      clear HM
      subst h1
      go_wp2_with fail
      refine HC2.out.mono ?_
      rintro e w' ⟨rfl, hw⟩
      have hw := hw.symm
      subst hw
      cases t2 with
      | true =>
        have HM3 : Hid (mdc D m z m' h pn pd lost = 7) := by have h := HM2.out; simp at h; exact h
        go_wp2
        go_ret2
        exact ⟨Below.refl _ _, Or.inl ⟨by rw [HM3.out]; decide, by rw [HM3.out]; rfl⟩⟩
      | false =>
        have HM3 : Hid (mdc D m z m' h pn pd lost = E2) := by have h := HM2.out; simp at h; exact h
        clear HM2
        go_wp2_with fail
        refine HC3.out.mono ?_
        rintro e w1 ⟨rfl, hb1⟩
        have HB1 : Hid (Below w.heap.size w w1) := hb1
        clear hb1
        by_cases h2 : E2 = 0
        · have HN : Hid (m' = m ∧ D.nchk m' h (m : Nat) = 0 ∧ ndc pn z m = 0 ∧ m ≤ 15) := by
            have a := HE.out.2
            rw [h2] at a
            have b := HE.out.1
            unfold ndchk at b
            by_cases c : ((m : Nat) : Int) = pd
            · rw [if_neg (by omega)] at b
              exact ⟨by have := (nchk_ok a.symm).1; omega, a.symm, b.symm, by omega⟩
            · rw [if_pos c] at b; omega
          subst h2
          have e := HN.out.1
          subst e
          have HT : Hid (Calls Try.prog 66 #[.pointer (some ⟨B, 0, none⟩), .slice ao m' ca, .slice bo m' cb] w1 fun e w' => ∃ co, e = .returned (.slice (some ⟨w1.heap.size, 0, none⟩) m' m') ∧ Row w1.heap.size m' co w' ∧ El D co ∧ Bd m' co ∧ (∀ j, j < m' → D.vl co (zc m' z j) = zc m' h j) ∧ Below w1.heap.size w1 w') := by
            have hok := ndc_ok HN.out.2.2.1
            have hb := HB1.out
            have hzz : ∀ j, j < m' → ((zc m' z j : Nat) : Int) = z j := fun j hj => by unfold zc; rw [if_pos hj]; have := (hok j hj).1; omega
            refine sthrough_any HF.out.1 (HF.out.2.1.below hb) (HF.out.2.2.1.below hb HF.out.2.2.1.ltF HF.out.2.2.1.ltT) ((HF.out.2.2.2.1.below hb).nat (fun j hj => (hok j hj).1.1)) ((HF.out.2.2.2.2.below hb).nat (fun j hj => ?_)) (by have := HN.out.2.2.2; omega) (fun i hi => ?_) (fun i j hi hj hne e => ?_) (fun i hi => zc_lt HN.out.2.1 hi)
            · obtain ⟨s, e, _⟩ := has_nat ((nchk_ok HN.out.2.1).2 j hj)
              omega
            · have h1 := hzz i hi
              have h2 := (hok i hi).1
              omega
            · refine ndc_apart HN.out.2.2.1 hi hj hne ?_
              rw [← hzz i hi, ← hzz j hj, e]
          go_wp2_with fail
          refine HT.out.mono ?_
          rintro e w2 ⟨co, rfl, hr, he, hbd, hv, hb2⟩
          have HR : Hid (Row w1.heap.size m' co w2 ∧ El D co ∧ Bd m' co ∧ (∀ j, j < m' → D.vl co (zc m' z j) = zc m' h j) ∧ Below w.heap.size w w2) := ⟨hr, he, hbd, hv, bel_up' HB1.out hb2⟩
          clear hr he hbd hv hb2
          go_wp2
          go_ret2
          exact ⟨HR.out.2.2.2.2, Or.inr ⟨HM3.out, co, w1.heap.size, rfl, HB1.out.size, HR.out.1, HR.out.2.1, HR.out.2.2.1, HR.out.2.2.2.1⟩⟩
        · have hz : (E2 != 0) = true := by rw [bne_iff_ne]; exact h2
          have HE2 : Hid (E2 ≠ 0) := h2
          clear h2
          go_wp2
          go_ret2
          exact ⟨HB1.out, Or.inl ⟨by rw [HM3.out]; exact HE2.out, by rw [HM3.out]; rfl⟩⟩
    · have hz : (E1 != 0) = true := by rw [bne_iff_ne]; exact h1
      have HM2 : Hid (mdc D m z m' h pn pd lost = E1) := by have h := HM.out; rw [if_pos h1] at h; exact h
      have HE1 : Hid (E1 ≠ 0) := h1
      clear h1
      go_wp2
      go_ret2
      exact ⟨Below.refl _ _, Or.inl ⟨by rw [HM2.out]; exact HE1.out, by rw [HM2.out]; rfl⟩⟩
end Go.Proofs.Ytbofcldmgjeklab

/- Plain mathematics: through values at different places goes just one short polynomial, and equations of powers are met by it alone. No Go text here. -/
namespace Go.Proofs.Ytbofcldmgjeklab
open Go.RowKit Go.Sort

theorem thr_one {D : FD} (F : Fld D) {xs a b : Nat → Nat} {n : Nat} (hx : ∀ i, i < n → xs i < D.q) (hne : ∀ i j, i < n → j < n → i ≠ j → xs i ≠ xs j) (ha : El D a) (hb : El D b) (hba : Bd n a) (hbb : Bd n b) (h : ∀ i, i < n → D.ev a (xs i) n = D.ev b (xs i) n) : a = b := by
  by_cases e : a = b
  · exact e
  · have h1 := far_apart F hx hne ha hb hba hbb e
    rw [ct_none n (fun i hi => by simp [h i hi])] at h1
    omega
end Go.Proofs.Ytbofcldmgjeklab
