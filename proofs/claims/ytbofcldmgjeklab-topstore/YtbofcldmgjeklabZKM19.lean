/- Texts of ours, one behind the other: KM19 S51. -/
import Derived.Test.YtbofcldmgjeklabZKM18
import Derived.Test.YtbofcldmgjeklabZKM11
import Derived.Test.YtbofcldmgjeklabZKM16
import Derived.Test.YtbofcldmgjeklabZKM17
/- The file, by what k nodes have: Read. -/
namespace Go.Proofs.Ytbofcldmgjeklab
open Go.RowKit Go.Sort

/-- The first fault of the first lists that nodes have. -/
def hvc (D : FD) (N : Nat → Nat) (Z : Nat → Nat → Int) (d : Int) : Nat → Int
  | 0 => 0
  | r + 1 => if hvc D N Z d r ≠ 0 then hvc D N Z d r else D.nchk (N r) (Z r) d
theorem hvc_bad {D : FD} {N : Nat → Nat} {Z : Nat → Nat → Int} {d : Int} {r : Nat} (h : hvc D N Z d r ≠ 0) : ∀ m, r ≤ m → hvc D N Z d m = hvc D N Z d r
  | 0, hm => by rw [show r = 0 by omega]
  | m + 1, hm => by
    by_cases e : r = m + 1
    · rw [e]
    · have h1 := hvc_bad h m (by omega)
      show (if hvc D N Z d m ≠ 0 then hvc D N Z d m else _) = _
      rw [h1, if_pos h]
theorem hvc_ok {D : FD} {N : Nat → Nat} {Z : Nat → Nat → Int} {d : Int} : ∀ {m : Nat}, hvc D N Z d m = 0 → ∀ i, i < m → D.nchk (N i) (Z i) d = 0
  | 0, _, i, hi => absurd hi (by omega)
  | m + 1, h, i, hi => by
    have h' : (if hvc D N Z d m ≠ 0 then hvc D N Z d m else D.nchk (N m) (Z m) d) = 0 := h
    by_cases e0 : hvc D N Z d m = 0
    · rw [if_neg (by omega)] at h'
      by_cases e : i = m
      · rw [e]; exact h'
      · exact hvc_ok e0 i (by omega)
    · rw [if_pos e0] at h'; exact absurd h' e0
/-- What is wrong with what nodes have. -/
def hvm (D : FD) (m hm : Nat) (N : Nat → Nat) (Z : Nat → Nat → Int) (d : Int) : Int := if hm ≠ m then 6 else hvc D N Z d hm
def rdc (D : FD) (m : Nat) (z : Nat → Int) (hm : Nat) (N : Nat → Nat) (Z : Nat → Nat → Int) (n k d : Int) : Int := if ndchk m z n k ≠ 0 then ndchk m z n k else hvm D m hm N Z d
/-- What Read tells. -/
def RdStP (D : FD) (m : Nat) (z : Nat → Int) (hm : Nat) (N : Nat → Nat) (Z : Nat → Nat → Int) (n k d : Nat) (w : World) (e : Ending) (w' : World) : Prop :=
  Below w.heap.size w w' ∧ ((rdc D m z hm N Z n k d ≠ 0 ∧ e = .returned (.tuple #[.slice none 0 0, .int .i64 (rdc D m z hm N Z n k d)])) ∨
    (rdc D m z hm N Z n k d = 0 ∧ ∃ Q, Fnd D k d (zc m z) (mzc N Z) Q ∧ ((¬ Smt Q d ∧ e = .returned (.tuple #[.slice none 0 0, .int .i64 9])) ∨
      (Smt Q d ∧ ∃ v, ∃ c : Nat → Nat, e = .returned (.tuple #[v, .int .i64 0]) ∧ OwnI w.heap.size v (zl (fsz k d) fun r => ((c r : Nat) : Int)) w' ∧ ∀ i j, i < k → i ≤ j → j < d → c (plr k d i j) = Q i j))))
/-- Right nodes and lists, as both sides take them. -/
structure RdO (D : FD) (m : Nat) (z : Nat → Int) (hm : Nat) (N : Nat → Nat) (Z : Nat → Nat → Int) (n k d : Nat) : Prop where
  em : m = k
  eh : hm = k
  x : ∀ i, i < k → zc k z i < n ∧ ((zc k z i : Nat) : Int) = z i
  ne : ∀ i j, i < k → j < k → i ≠ j → zc k z i ≠ zc k z j
  eN : ∀ i, i < k → N i = d
  el : ∀ i, i < k → El D (mzc N Z i)
  bd : ∀ i, i < k → Bd d (mzc N Z i)
  has : ∀ i, i < k → ∀ j, j < N i → D.has (Z i j) = true
theorem rdc_ok {D : FD} (F : Fld D) {m : Nat} {z : Nat → Int} {hm : Nat} {N : Nat → Nat} {Z : Nat → Nat → Int} {n k d : Nat} (h : rdc D m z hm N Z n k d = 0) : RdO D m z hm N Z n k d := by
  unfold rdc at h
  by_cases h1 : ndchk m z n k = 0
  · rw [if_neg (by omega)] at h
    unfold hvm at h
    by_cases h2 : hm = m
    · rw [if_neg (by omega)] at h
      unfold ndchk at h1
      by_cases h3 : ((m : Nat) : Int) = (k : Nat)
      · rw [if_neg (by omega)] at h1
        have hmk : m = k := by omega
        subst hmk
        have hok := ndc_ok h1
        have hzz : ∀ i, i < m → zc m z i < n ∧ ((zc m z i : Nat) : Int) = z i := fun i hi => by
          have := (hok i hi).1
          unfold zc
          rw [if_pos hi]
          omega
        have hv := hvc_ok h
        refine ⟨rfl, h2, hzz, fun i j hi hj hne e => ?_, fun i hi => ?_, fun i hi => ?_, fun i hi => ?_, fun i hi j hj => ?_⟩
        · refine ndc_apart h1 hi hj hne ?_
          rw [← (hzz i hi).2, ← (hzz j hj).2, e]
        · have := (nchk_ok (hv i (by omega))).1; omega
        · exact zc_eln F (hv i (by omega))
        · have e : N i = d := by have := (nchk_ok (hv i (by omega))).1; omega
          unfold mzc; rw [e]; exact zc_bd d (Z i)
        · exact (nchk_ok (hv i (by omega))).2 j hj
      · rw [if_pos h3] at h1; omega
    · rw [if_pos h2] at h; omega
  · rw [if_pos h1] at h; exact absurd h h1
theorem RdO.mat {D : FD} {m : Nat} {z : Nat → Int} {hm : Nat} {N C : Nat → Nat} {A : Nat → Option Addr} {Z : Nat → Nat → Int} {n k d d1 : Nat} {ho : Option Addr} {w : World} (h : RdO D m z hm N Z n k d) (hd : d = d1 + 1) (hA : MatZ ho hm A N C Z w) : MatR ho k d1 (mzc N Z) w := fun i hi => by
  have hi' : i < hm := by rw [h.eh]; exact hi
  obtain ⟨b, off, e, hc⟩ := hA.cell i hi'
  have hN : N i = d1 + 1 := by rw [h.eN i hi, hd]
  refine ⟨b, off, _, e, hc, A i, C i, by rw [hN], ?_, ?_, hA.nil i hi', by have := hA.le i hi'; omega, hA.cap i hi'⟩
  · have h1 := has_sl (h.has i hi) (hA.sl i hi')
    unfold mzc
    rw [hN] at h1 ⊢
    exact h1
  · intro x hx
    obtain ⟨b', off', e', hc'⟩ := hA.sl i hi' 0 (by omega)
    rw [hx] at e'
    cases e'
    exact cell_lt hc'

set_option maxHeartbeats 8000000 in
set_option maxRecDepth 100000 in
theorem sread_any {D : FD} (hD : D ∈ fieldsL) {B F T : Nat} {g : Nat → Value} {n k d m ca hm hc : Nat} {ao ho : Option Addr} {z : Nat → Int} {A : Nat → Option Addr} {N C : Nat → Nat} {Z : Nat → Nat → Int} {w : World} (hP : PlA B F (n : Nat) (k : Nat) (d : Nat) w) (hF : FAt F T D g w) (hA : Arg ao m ca z w) (hH : MatZ ho hm A N C Z w) (hm1 : m ≤ 1000) (hhm : hm ≤ 1000000) (hk1 : 1 ≤ k) (hk : k ≤ d) (hd : d ≤ 15) (hn : n ≤ D.q) :
    Calls Try.prog 21 #[.pointer (some ⟨B, 0, none⟩), .slice ao m ca, .slice ho hm hc] w (RdStP D m z hm N Z n k d w) := by
  have HF : Hid (PlA B F (n : Nat) (k : Nat) (d : Nat) w ∧ FAt F T D g w ∧ Arg ao m ca z w ∧ MatZ ho hm A N C Z w ∧ D ∈ fieldsL) := ⟨hP, hF, hA, hH, hD⟩
  have c2 := hP.k
  obtain ⟨E1, hE1⟩ : ∃ E1, E1 = ndchk m z n k := ⟨_, rfl⟩
  have HC1 : Hid (Calls Try.prog 60 #[.pointer (some ⟨B, 0, none⟩), .slice ao m ca, .int .i64 (k : Nat)] w fun e w' => e = .returned (.int .i64 E1) ∧ w' = w) := by rw [hE1]; exact checkNodes_any hP hA hm1 k
  have HZ : Hid (rdc D m z hm N Z n k d = if E1 ≠ 0 then E1 else hvm D m hm N Z d) := by show _ = _; unfold rdc; rw [hE1]
  clear hP hF hA hH hD hE1
  go_enter Try.func21, Try.ntmps21
  go_wp2_with fail
  refine HC1.out.mono ?_
  rintro e w' ⟨rfl, hw⟩
  have hw := hw.symm
  subst hw
  clear c2
  by_cases h1 : E1 = 0
  · have HM : Hid (rdc D m z hm N Z n k d = hvm D m hm N Z d) := by have h := HZ.out; rw [if_neg (by omega)] at h; exact h
    clear HZ
    subst h1
    by_cases h2 : hm = m
    · have hz : ((hm : Int) != (m : Int)) = false := by rw [h2]; simp
      have HM2 : Hid (rdc D m z hm N Z n k d = hvc D N Z d hm) := by have h := HM.out; unfold hvm at h; rw [if_neg (by omega)] at h; exact h
      clear HM h2
      go_wp2
      go_loopw [30] (fun vi wr => ∃ r : Nat, r ≤ hm ∧ vi = .int .i64 (r : Nat) ∧ Hid (hvc D N Z d r = 0 ∧ Below w.heap.size w wr)) (fun vi _ => hm - (intOf vi).toNat)
      case atStart => exact ⟨0, by omega, rfl, rfl, Below.refl _ _⟩
      case round =>
        obtain ⟨r, hr, rfl, HG⟩ := hrel
        rename World => wr
        have hb := HG.out.2
        by_cases hlt : r < hm
        · have hib : (r : Int) < (hm : Int) := by omega
          obtain ⟨b, off, rfl, hcr⟩ := (HF.out.2.2.2.1.below hb).cell r hlt
          have cd := (HF.out.1.below hb).d
          obtain ⟨Nr, hNr⟩ : ∃ Nr, Nr = N r := ⟨_, rfl⟩
          have hfr : Nr ≤ 1000000 := by rw [hNr]; exact HF.out.2.2.2.1.few r hlt
          obtain ⟨E, hE⟩ : ∃ E, E = D.nchk (N r) (Z r) d := ⟨_, rfl⟩
          have HCl : Hid (∀ cap, Calls Try.prog 57 #[.pointer (some ⟨B, 0, none⟩), .slice (A r) Nr cap, .int .i64 (d : Nat)] wr fun e w' => e = .returned (.int .i64 E) ∧ Below wr.heap.size wr w') := fun cap => by
            rw [hE, hNr]
            exact checkList_any (HF.out.1.below hb) (HF.out.2.1.below hb HF.out.2.1.ltF HF.out.2.1.ltT) ((HF.out.2.2.2.1.below hb).sl r hlt) (HF.out.2.2.2.1.few r hlt) (d : Nat)
          have HS : Hid (hvc D N Z d (r + 1) = E) := by
            show (if hvc D N Z d r ≠ 0 then hvc D N Z d r else D.nchk (N r) (Z r) d) = E
            rw [if_neg (by rw [HG.out.1]; omega), hE]
          rw [← hNr] at hcr
          clear hNr hE hb
          go_wp2_with fail
          refine (HCl.out _).mono ?_
          rintro e w1 ⟨rfl, hb1⟩
          have HB1 : Hid (Below w.heap.size w w1) := bel_up HG.out.2 hb1
          clear hb1
          by_cases h3 : E = 0
          · subst h3
            go_wp2
            go_roundw
            case rel => exact ⟨r + 1, by omega, by go_num, HS.out, HB1.out⟩
            case measure => simp [intOf]; omega
          · have hz3 : (E != 0) = true := by rw [bne_iff_ne]; exact h3
            have HV : Hid (rdc D m z hm N Z n k d = E ∧ E ≠ 0) := ⟨by rw [HM2.out, hvc_bad (r := r + 1) (by rw [HS.out]; exact h3) hm (by omega), HS.out], h3⟩
            clear h3
            go_wp2
            go_ret2
            exact ⟨HB1.out, Or.inl ⟨by rw [HV.out.1]; exact HV.out.2, by rw [HV.out.1]; rfl⟩⟩
        · have hib : ¬ (r : Int) < (hm : Int) := by omega
          have HZ0 : Hid (rdc D m z hm N Z n k d = 0) := by
            have h := HM2.out
            rw [show hm = r by omega, HG.out.1] at h
            rw [show hm = r by omega]; exact h
          have HO : Hid (RdO D m z hm N Z n k d) := rdc_ok (fld HF.out.2.2.2.2) HZ0.out
          obtain ⟨d1, hd1⟩ : ∃ d1, d = d1 + 1 := ⟨d - 1, by omega⟩
          have HFo : Hid (Calls Try.prog 61 #[.pointer (some ⟨B, 0, none⟩), .slice ao m ca, .slice ho hm hc] wr fun e w' => ∃ G h Q, e = .returned (.slice (some ⟨G, 0, none⟩) d d) ∧ Mx wr.heap.size G d d d Q h w' ∧ Fnd D k d (zc k z) (mzc N Z) Q ∧ Below wr.heap.size wr w') := by
            have o := HO.out
            show Calls _ _ _ _ _
            have hA2 := (HF.out.2.2.1.below hb)
            rw [o.em] at hA2 ⊢
            have hmt := o.mat hd1 (HF.out.2.2.2.1.below hb)
            rw [o.eh]
            exact sfound_any HF.out.2.2.2.2 (HF.out.1.below hb) (HF.out.2.1.below hb HF.out.2.1.ltF HF.out.2.1.ltT) (hA2.nat (fun j hj => by have := (o.x j hj).2; omega)) hmt hd1 hk hd (fun i hi => by have := (o.x i hi).1; omega) o.ne o.el
          clear hb hd1
          go_wp2_with fail
          refine HFo.out.mono ?_
          rintro e w2 ⟨G, h, Q, rfl, hM, hQ, hb2⟩
          have H2 : Hid (Mx wr.heap.size G d d d Q h w2 ∧ Fnd D k d (zc m z) (mzc N Z) Q ∧ Below w.heap.size w w2) := ⟨hM, by rw [HO.out.em]; exact hQ, bel_up HG.out.2 hb2⟩
          clear hM hQ hb2
          go_wp2_with fail
          refine (sameTurned_any H2.out.1 (by omega)).mono ?_
          rintro e w3 ⟨b, rfl, hbs, hw⟩
          have hw := hw.symm
          subst hw
          have HBs : Hid (b = true ↔ Smt Q d) := hbs
          clear hbs
          cases b with
          | false =>
            have HNs : Hid (¬ Smt Q d) := fun h => absurd (HBs.out.2 h) (by decide)
            go_wp2
            go_ret2
            exact ⟨H2.out.2.2, Or.inr ⟨HZ0.out, Q, H2.out.2.1, Or.inl ⟨HNs.out, rfl⟩⟩⟩
          | true =>
            have HYs : Hid (Smt Q d) := HBs.out.1 rfl
            have HFl : Hid (Calls Try.prog 63 #[.pointer (some ⟨B, 0, none⟩), .slice (some ⟨G, 0, none⟩) d d] w2 fun e w' => ∃ v, ∃ c : Nat → Nat, e = .returned v ∧ OwnI w2.heap.size v (zl (fsz k d) fun r => ((c r : Nat) : Int)) w' ∧ (∀ i j, i < k → i ≤ j → j < d → c (plr k d i j) = Q i j) ∧ Below w2.heap.size w2 w') := sfile_any (HF.out.1.below H2.out.2.2) hk hd H2.out.1
            go_wp2_with fail
            refine HFl.out.mono ?_
            rintro e w4 ⟨v, c, rfl, hown, hpl, hb4⟩
            have H4 : Hid (OwnI w.heap.size v (zl (fsz k d) fun r => ((c r : Nat) : Int)) w4 ∧ (∀ i j, i < k → i ≤ j → j < d → c (plr k d i j) = Q i j) ∧ Below w.heap.size w w4) := ⟨hown.mono H2.out.2.2.size, hpl, bel_up' H2.out.2.2 hb4⟩
            clear hown hpl hb4
            go_wp2
            go_ret2
            exact ⟨H4.out.2.2, Or.inr ⟨HZ0.out, Q, H2.out.2.1, Or.inr ⟨HYs.out, v, c, rfl, H4.out.1, H4.out.2.1⟩⟩⟩
    · have hz : ((hm : Int) != (m : Int)) = true := by rw [bne_iff_ne]; omega
      have HM2 : Hid (rdc D m z hm N Z n k d = 6) := by have h := HM.out; unfold hvm at h; rw [if_pos h2] at h; exact h
      go_wp2
      go_ret2
      exact ⟨Below.refl _ _, Or.inl ⟨by rw [HM2.out]; decide, by rw [HM2.out]; rfl⟩⟩
  · have hz : (E1 != 0) = true := by rw [bne_iff_ne]; exact h1
    have HM2 : Hid (rdc D m z hm N Z n k d = E1) := by have h := HZ.out; rw [if_pos h1] at h; exact h
    have HE1 : Hid (E1 ≠ 0) := h1
    clear h1
    go_wp2
    go_ret2
    exact ⟨Below.refl _ _, Or.inl ⟨by rw [HM2.out]; exact HE1.out, by rw [HM2.out]; rfl⟩⟩
end Go.Proofs.Ytbofcldmgjeklab

/- Plain mathematics for TopStore: what is written tells the file, and mends what a node had. No Go text here. -/
namespace Go.Proofs.Ytbofcldmgjeklab
open Go.RowKit Go.Sort

theorem ev_swap {D : FD} (F : Fld D) {M : Nat → Nat → Nat} (hM : ∀ i, El D (M i)) (x y d : Nat) : ∀ m, D.ev (fun j => D.ev (M j) x m) y d = D.ev (fun i => D.ev (fun j => M j i) y d) x m
  | 0 => by
    show D.ev (fun _ => 0) y d = 0
    exact ev_nil F y d
  | m + 1 => by
    have h1 : (fun j => D.ev (M j) x (m + 1)) = padd D (fun j => D.ev (M j) x m) (pscale D (D.xp x m) (fun j => M j m)) := by
      funext j
      show D.ad (D.ev (M j) x m) (D.mul (M j m) (D.xp x m)) = D.ad (D.ev (M j) x m) (D.mul (D.xp x m) (M j m))
      rw [F.mul_comm (M j m)]
    rw [h1, ev_add F y (fun j => ev_lt F _ _ _) (el_scale F _ _), ev_scale F, ev_swap F hM x y d m, F.mul_comm]
    rfl
/-- What is written of a square is what it is found by. -/
theorem Fnd.written {D : FD} (F : Fld D) {k d : Nat} (xs : Nat → Nat) {c : Nat → Nat} (hk : k ≤ d) (hc : El D c) : Fnd D k d xs (fun t j => wrt D k d c (xs t) j) (sqr k d c (fsz k d)) :=
  ⟨fun j => sqr_el F k d hc _ j, fun j => sqr_bd k d c _ j, fun j h1 h2 => by
    have hb : Bd k (sqr k d c (fsz k d) j) := fun i hi => sqr_out c h1 hi
    refine ⟨hb, fun t _ => ?_⟩
    show _ = D.ev (sqr k d c (fsz k d) j) (xs t) d
    rw [ev_from F _ hb hk], fun j i _ _ _ => sqr_comm k d c _ j i, fun j t _ _ => rfl⟩
theorem smt_sqr (k d : Nat) (c : Nat → Nat) (r : Nat) : Smt (sqr k d c r) d := fun i j _ _ => sqr_comm k d c r i j
/-- The numbers by which others help are values of the polynomial of what the node had. -/
theorem helps_are {D : FD} (F : Fld D) {k d : Nat} {c : Nat → Nat} (hc : El D c) (x y : Nat) : D.ev (wrt D k d c x) y d = D.ev (wrt D k d c y) x d := by
  have h := ev_swap F (M := sqr k d c (fsz k d)) (fun i => sqr_el F k d hc _ i) x y d d
  have e : (fun i => D.ev (fun j => sqr k d c (fsz k d) j i) y d) = wrt D k d c y := by
    funext i
    show D.ev (fun j => sqr k d c (fsz k d) j i) y d = D.ev (sqr k d c (fsz k d) i) y d
    congr 1
    funext j
    exact sqr_comm k d c _ j i
  rw [e] at h
  exact h
/-- Nothing is beyond d. -/
theorem wrt_bd {D : FD} (F : Fld D) (k d : Nat) (c : Nat → Nat) (x : Nat) : Bd d (wrt D k d c x) := fun j hj => by
  show D.ev (sqr k d c (fsz k d) j) x d = 0
  have e : sqr k d c (fsz k d) j = pnil := by
    funext i
    rw [sqr_comm]
    exact sqr_bd k d c _ i j hj
  rw [e, ev_nil F]
end Go.Proofs.Ytbofcldmgjeklab
