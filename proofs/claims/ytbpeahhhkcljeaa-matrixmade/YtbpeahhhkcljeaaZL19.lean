/- Texts of ours, one behind the other: L19 K4 K5. -/
import Derived.Test.YtbpeahhhkcljeaaZL18
import Derived.Test.YtbpeahhhkcljeaaZL10
import Derived.Test.YtbpeahhhkcljeaaZS4
import Derived.Test.YtbpeahhhkcljeaaZX20
/- MatrixSays: the walk of the statement, whatever it is given: all cases. -/
namespace Go.Proofs.Ytbpeahhhkcljeaa
open Go.RowKit Go.Sort

set_option maxHeartbeats 2000000 in
set_option maxRecDepth 100000 in
theorem msays_heavy (q : Int) {ao bo yo : Option Addr} {m m' my ca cb cy : Nat} {b1 b2 : Bool} {w : World} (hHa : Calls Try.prog 9 #[.slice ao m ca] w fun r w' => r = .returned (.bool b1) ∧ w' = w) (hHb : Calls Try.prog 9 #[.slice bo m' cb] w fun r w' => r = .returned (.bool b2) ∧ w' = w) (hmy : my ≤ 17592186044416) (h : b1 = true ∨ b2 = true ∨ 100 < my) :
    Calls Try.prog 3 #[.int .i64 q, .slice ao m ca, .slice bo m' cb, .slice yo my cy] w fun r w' => r = .returned (.bool true) ∧ Below w.heap.size w w' := by
  have HHa : Hid (Calls Try.prog 9 #[.slice ao m ca] w fun r w' => r = .returned (.bool b1) ∧ w' = w) := hHa
  have HHb : Hid (Calls Try.prog 9 #[.slice bo m' cb] w fun r w' => r = .returned (.bool b2) ∧ w' = w) := hHb
  clear hHa hHb
  cases b1 with
  | true =>
    go_enter Try.func3, Try.ntmps3
    go_wp2_with fail
    refine HHa.out.mono ?_
    rintro r w' ⟨rfl, hw⟩
    have hw := hw.symm
    subst hw
    go_wp2
    go_ret
    exact ⟨rfl, Below.refl _ _⟩
  | false =>
    cases b2 with
    | true =>
      go_enter Try.func3, Try.ntmps3
      go_wp2_with fail
      refine HHa.out.mono ?_
      rintro r w' ⟨rfl, hw⟩
      have hw := hw.symm
      subst hw
      go_wp2_with fail
      refine HHb.out.mono ?_
      rintro r w' ⟨rfl, hw⟩
      have hw := hw.symm
      subst hw
      go_wp2
      go_ret
      exact ⟨rfl, Below.refl _ _⟩
    | false =>
      have hyb : (100 : Int) < (my : Int) := by
        rcases h with h | h | h
        · cases h
        · cases h
        · omega
      go_enter Try.func3, Try.ntmps3
      go_wp2_with fail
      refine HHa.out.mono ?_
      rintro r w' ⟨rfl, hw⟩
      have hw := hw.symm
      subst hw
      go_wp2_with fail
      refine HHb.out.mono ?_
      rintro r w' ⟨rfl, hw⟩
      have hw := hw.symm
      subst hw
      go_wp2
      go_ret
      exact ⟨rfl, Below.refl _ _⟩

theorem matrixSays_light (q : Int) {ao bo yo : Option Addr} {m m' my ca cb cy : Nat} {A A' : Nat → Option Addr} {N C N' C' : Nat → Nat} {Z Z' : Nat → Nat → Int} {y : Nat → Int} {w : World} (ha : MatZ ao m A N C Z w) (hb : MatZ bo m' A' N' C' Z' w) (hy : SlZ yo my y w) (hm : m ≤ 6000) (hm' : m' ≤ 6000) (hmy : my ≤ 100)
    (hHa : Calls Try.prog 9 #[.slice ao m ca] w fun r w' => r = .returned (.bool false) ∧ w' = w) (hHb : Calls Try.prog 9 #[.slice bo m' cb] w fun r w' => r = .returned (.bool false) ∧ w' = w) :
    Calls Try.prog 3 #[.int .i64 q, .slice ao m ca, .slice bo m' cb, .slice yo my cy] w fun r w' => r = .returned (.bool true) ∧ Below w.heap.size w w' := by
  by_cases h : ∃ D ∈ fieldsL, (D.q : Int) = q
  · obtain ⟨D, hD, rfl⟩ := h
    have hMa : ∀ w1, Below w.heap.size w w1 → Calls Try.prog 10 #[.int .i64 D.q, .slice ao m ca] w1 fun r w' => r = .returned (.int .i64 (D.mchk m N Z)) ∧ Below w1.heap.size w1 w' := fun w1 h1 => matrixMay_any hD (ha.below h1) (by omega)
    have hMb : ∀ w1, Below w.heap.size w w1 → Calls Try.prog 10 #[.int .i64 D.q, .slice bo m' cb] w1 fun r w' => r = .returned (.int .i64 (D.mchk m' N' Z')) ∧ Below w1.heap.size w1 w' := fun w1 h1 => matrixMay_any hD (hb.below h1) (by omega)
    have hCk : ∀ w1, Below w.heap.size w w1 → Calls Try.prog 14 #[.int .i64 D.q, .slice ao m ca] w1 fun r w' => r = .returned (.int .i64 (D.mchk m N Z)) ∧ Below w1.heap.size w1 w' := fun w1 h1 => mcheck_any hD (ha.below h1) (by omega)
    have hOn : ∀ w1, Below w.heap.size w w1 → Calls Try.prog 16 #[.int .i64 D.q, .slice ao m ca, .slice yo my cy, .int .i64 (D.mchk m N Z)] w1 fun r w' => r = .returned (.bool true) ∧ Below w1.heap.size w1 w' := fun w1 h1 => matrixOne_any D.q (ha.below h1) (by omega) (slz_below hy h1) (by omega) _ (Or.inl ⟨D, hD, rfl, rfl⟩)
    have hFi : ∀ w1, Below w.heap.size w w1 → Calls Try.prog 11 #[.int .i64 D.q] w1 fun r w' => ∃ x0 x1 x2 x3 x4 x5 x6 e0, r = .returned (.tuple #[.agg #[.int .i64 x0, .int .i64 x1, .int .i64 x2, .int .i64 x3, .slice x4 x5 x6], .int .i64 e0]) ∧ Below w1.heap.size w1 w' := fun w1 _ => by
      refine (rfield_sl hD w1).mono ?_
      rintro e w' ⟨gm, cm, rfl, _, hb⟩
      exact ⟨_, _, _, _, _, _, _, _, rfl, hb⟩
    have hTi := fun w1 (h1 : Below w.heap.size w w1) => times_any (ca := ca) (cb := cb) hD (ha.below h1) (hb.below h1) (by omega) (by omega)
    by_cases h0 : D.mchk m N Z = 0
    · rw [h0] at hMa hCk hOn
      by_cases h0' : D.mchk m' N' Z' = 0
      · rw [h0'] at hMb
        have h2 : D.mchk2 m N Z m' N' Z' = 0 := by unfold FD.mchk2; rw [if_pos h0, h0']
        by_cases hfit : 0 < m ∧ N 0 = m'
        · obtain ⟨_, l, e1, _⟩ := mchk_rows (fld hD) h0 ha hfit.1
          have hm'l : m' = l + 1 := by omega
          subst hm'l
          obtain ⟨_, n, e2, _⟩ := mchk_rows (fld hD) h0' hb (by omega)
          exact msays_yes hD ha hb h0 h0' hfit.1 e1 e2 hHa hHb hmy hOn
        · by_cases hm0 : m = 0
          · refine msays_no hD (e := 0) ha (Or.inl ⟨hm0, rfl⟩) hHa hHb hmy hMa hMb (fun w1 h1 => (hTi w1 h1).mono ?_) hCk hOn
            rintro e w' ⟨hbb, hr⟩
            rcases hr with ⟨h, _⟩ | ⟨_, _, rfl⟩ | ⟨_, h, _⟩ | ⟨_, h, _⟩
            · exact absurd h2 h
            · exact ⟨rfl, hbb⟩
            · omega
            · omega
          · refine msays_no hD (e := 3) ha (Or.inr ⟨by omega, fun e => hfit ⟨by omega, e⟩, rfl⟩) hHa hHb hmy hMa hMb (fun w1 h1 => (hTi w1 h1).mono ?_) hCk hOn
            rintro e w' ⟨hbb, hr⟩
            rcases hr with ⟨h, _⟩ | ⟨_, h, _⟩ | ⟨_, _, _, rfl⟩ | ⟨_, h, h', _⟩
            · exact absurd h2 h
            · omega
            · exact ⟨rfl, hbb⟩
            · exact absurd ⟨h, h'⟩ hfit
      · have h2 : D.mchk2 m N Z m' N' Z' = D.mchk m' N' Z' := by unfold FD.mchk2; rw [if_pos h0]
        refine msays_err D.q 0 _ h0' (Or.inl rfl) hHa hHb hmy hMa (fun _ => hMb) hFi (fun w1 h1 => (hTi w1 h1).mono ?_) hCk hOn
        rintro e w' ⟨hbb, hr⟩
        rw [h2] at hr
        rcases hr with ⟨_, rfl⟩ | ⟨h, _⟩ | ⟨h, _⟩ | ⟨h, _⟩
        · exact ⟨rfl, hbb⟩
        · exact absurd h h0'
        · exact absurd h h0'
        · exact absurd h h0'
    · have h2 : D.mchk2 m N Z m' N' Z' = D.mchk m N Z := by unfold FD.mchk2; rw [if_neg h0]
      refine msays_err D.q _ _ h0 (Or.inr rfl) hHa hHb hmy hMa (fun h => absurd h h0) hFi (fun w1 h1 => (hTi w1 h1).mono ?_) hCk hOn
      rintro e w' ⟨hbb, hr⟩
      rw [h2] at hr
      rcases hr with ⟨_, rfl⟩ | ⟨h, _⟩ | ⟨h, _⟩ | ⟨h, _⟩
      · exact ⟨rfl, hbb⟩
      · exact absurd h h0
      · exact absurd h h0
      · exact absurd h h0
  · have hn : ∀ D ∈ fieldsL, (D.q : Int) ≠ q := fun D hD e => h ⟨D, hD, e⟩
    refine msays_err q 1 1 (by omega) (Or.inr rfl) hHa hHb hmy (fun w1 _ => matrixMay_none q hn _ w1) (fun h => by omega) (fun w1 _ => ?_) (fun w1 _ => mtimes_none q hn _ _ _ _ _ _ w1) (fun w1 _ => (mcheck_none q hn _ w1).mono ?_) (fun w1 h1 => matrixOne_any q (ha.below h1) (by omega) (slz_below hy h1) (by omega) 1 (Or.inr ⟨hn, rfl⟩))
    · refine (rfield_none q w1 hn).mono ?_
      rintro e w' ⟨rfl, hb⟩
      exact ⟨0, 0, 0, 0, none, 0, 0, 1, rfl, hb⟩
    · rintro e w' ⟨rfl, rfl⟩
      exact ⟨rfl, Below.refl _ _⟩

theorem matrixSays_walk (q : Int) {ao bo yo : Option Addr} {m m' my ca cb cy : Nat} {A A' : Nat → Option Addr} {N C N' C' : Nat → Nat} {Z Z' : Nat → Nat → Int} {y : Nat → Int} {w : World} (ha : MatO ao m A N C Z w) (hb : MatO bo m' A' N' C' Z' w) (hy : SlZ yo my y w) (hm : m ≤ 17592186044416) (hm' : m' ≤ 17592186044416) (hmy : my ≤ 17592186044416) (hN : ∀ i, i < m → N i ≤ 17592186044416) (hN' : ∀ i, i < m' → N' i ≤ 17592186044416) :
    Calls Try.prog 3 #[.int .i64 q, .slice ao m ca, .slice bo m' cb, .slice yo my cy] w fun r w' => r = .returned (.bool true) ∧ Below w.heap.size w w' := by
  have hHa := heavy_any (ca := ca) ha.cell hm hN
  have hHb := heavy_any (ca := cb) hb.cell hm' hN'
  by_cases h1 : hvs N m m ≤ 6000
  · by_cases h2 : hvs N' m' m' ≤ 6000
    · by_cases h3 : my ≤ 100
      · rw [decide_eq_false (by omega)] at hHa hHb
        have f1 := hvs_few m h1
        have f2 := hvs_few m' h2
        exact matrixSays_light q (ha.matZ (fun i hi => by have := f1.2 i hi; omega)) (hb.matZ (fun i hi => by have := f2.2 i hi; omega)) hy f1.1 f2.1 h3 hHa hHb
      · exact msays_heavy q hHa hHb hmy (Or.inr (Or.inr (by omega)))
    · exact msays_heavy q hHa hHb hmy (Or.inr (Or.inl (decide_eq_true (by omega))))
  · exact msays_heavy q hHa hHb hmy (Or.inl (decide_eq_true (by omega)))
end Go.Proofs.Ytbpeahhhkcljeaa

/- Matrices out of raw numbers (MatrixOf). -/
namespace Go.Proofs.Ytbpeahhhkcljeaa
open Go.RowKit Go.Sort

def slA (v : Value) : Option Addr := match v with | .slice a _ _ => a | _ => none
def slC (v : Value) : Nat := match v with | .slice _ _ c => c | _ => 0
/-- i lists of c numbers below q, in a list of the call's own. -/
structure MkS (base q c i : Nat) (v : Value) (vs : Nat → Value) (Z : Nat → Nat → Int) (w : World) : Prop where
  own : OwnV base v (vl i vs) w
  row : ∀ j, j < i → OwnI base (vs j) (zl c (Z j)) w
  blw : ∀ j, j < i → Blw q c (Z j)
theorem MkS.below {base q c i : Nat} {v : Value} {vs : Nat → Value} {Z : Nat → Nat → Int} {w w' : World} (h : MkS base q c i v vs Z w) (hb : Below w.heap.size w w') : MkS base q c i v vs Z w' :=
  ⟨h.own.below hb (Nat.le_refl _), fun j hj => (h.row j hj).below hb (fun k hk => ((h.row j hj).lt k hk).2), h.blw⟩
theorem MkS.push {base q c i : Nat} {v v' u : Value} {vs : Nat → Value} {Z : Nat → Nat → Int} {y : Nat → Int} {w w' : World} (h : MkS base q c i v vs Z w) (hu : OwnI base u (zl c y) w) (hy : Blw q c y) (ho : OwnV base v' (vl i vs ++ [u]) w') (hg : w.grownBy w' v.ownBlock) :
    MkS base q c (i + 1) v' (fun j => if j = i then u else vs j) (fun j => if j = i then y else Z j) w' := by
  refine ⟨?_, fun j hj => ?_, fun j hj => ?_⟩
  · have e : vl (i + 1) (fun j => if j = i then u else vs j) = vl i vs ++ [u] := by
      unfold vl
      rw [List.range_succ, List.map_append]
      congr 1
      · exact List.map_congr_left (fun j hj => by rw [if_neg (by have := List.mem_range.1 hj; omega)])
      · simp
    rw [e]; exact ho
  · by_cases e : j = i
    · simp only [if_pos e]; exact hu.kept hg (hu.apart h.own)
    · simp only [if_neg e]; exact (h.row j (by omega)).kept hg ((h.row j (by omega)).apart h.own)
  · by_cases e : j = i
    · simp only [if_pos e]; exact hy
    · simp only [if_neg e]; exact h.blw j (by omega)
theorem MkS.matZ {base q c i : Nat} {v : Value} {vs : Nat → Value} {Z : Nat → Nat → Int} {w : World} (h : MkS base q c i v vs Z w) (hc : c ≤ 1000000) : ∃ mo mc, v = .slice mo i mc ∧ MatZ mo i (fun j => slA (vs j)) (fun _ => c) (fun j => slC (vs j)) Z w := by
  obtain ⟨mo, mc, hv, _, _, _, hcell⟩ := h.own.open
  rw [vl_len] at hv
  have key : ∀ j, j < i → ∃ so sc, vs j = .slice so c sc ∧ ArgL so c sc (Z j) w := fun j hj => (h.row j hj).argL
  refine ⟨mo, mc, hv, ⟨fun j hj => ?_, fun j hj => ?_, fun j hj => ?_, fun j hj => ?_, fun j hj => ?_, fun j _ => hc⟩⟩
  · obtain ⟨g, e, hc, _⟩ := hcell j (vs j) (vl_get i vs j hj)
    obtain ⟨so, sc, e2, _⟩ := key j hj
    refine ⟨g, 0, e, ?_⟩
    rw [Nat.zero_add, hc, e2]; rfl
  · obtain ⟨so, sc, e2, ha⟩ := key j hj
    simp only [e2, slA]; exact ha.sl
  · obtain ⟨so, sc, e2, ha⟩ := key j hj
    simp only [e2, slC]; exact ha.le
  · obtain ⟨so, sc, e2, ha⟩ := key j hj
    simp only [e2, slC]; exact ha.cap
  · obtain ⟨so, sc, e2, ha⟩ := key j hj
    simp only [e2, slA, slC]; exact ha.nil

set_option maxHeartbeats 4000000 in
set_option maxRecDepth 100000 in
theorem matrixOf_any {ao : Option Addr} {n ca : Nat} {z : Nat → Int} {w : World} (h : Arg ao n ca z w) (hn : n ≤ 1000) (f q r c : Nat) (hf : f ≤ 1000) (hq : 1 ≤ q) (hq2 : q ≤ 100000) (hr : r ≤ 100) (hc : c ≤ 100) :
    Calls Try.prog 19 #[.slice ao n ca, .int .i64 f, .int .i64 q, .int .i64 r, .int .i64 c] w fun e w' => ∃ v vs Z, e = .returned v ∧ MkS w.heap.size q c r v vs Z w' ∧ Below w.heap.size w w' := by
  have HA : Hid (Arg ao n ca z w) := h
  clear h
  go_enter Try.func19, Try.ntmps19
  go_wp2
  go_loopw [11, 12] (fun v vi wr => ∃ (i : Nat) (vs : Nat → Value) (Z : Nat → Nat → Int), i ≤ r ∧ vi = .int .i64 i ∧ Hid (MkS w.heap.size q c i v vs Z wr ∧ Below w.heap.size w wr)) (fun _ vi _ => r - (intOf vi).toNat)
  case atStart => exact ⟨0, fun _ => undef, fun _ _ => 0, by omega, rfl, ⟨OwnV.nil _ _, fun j hj => absurd hj (by omega), fun j hj => absurd hj (by omega)⟩, Below.refl _ _⟩
  case round =>
    obtain ⟨i, vs, Z, hi, rfl, HG⟩ := hrel
    rename World => wA
    by_cases hlt : i < r
    · have hib : (i : Int) < (r : Int) := by omega
      obtain ⟨ic, hic⟩ : ∃ ic, ic = i * c := ⟨_, rfl⟩
      have hic2 : ic ≤ 10000 := by
        rw [hic]
        have := Nat.mul_le_mul (show i ≤ 100 by omega) hc
        omega
      have hw1 : IntKind.i64.wrap ((i : Int) * (c : Int)) = (ic : Int) := wrap_to (by rw [hic]; simp) (by omega)
      obtain ⟨fi, hfi⟩ : ∃ fi, fi = f + ic := ⟨_, rfl⟩
      have hw2 : IntKind.i64.wrap ((f : Int) + (ic : Int)) = (fi : Int) := wrap_to (by omega) (by omega)
      have HN : Hid (Calls Try.prog 20 #[.slice ao n ca, .int .i64 fi, .int .i64 q, .int .i64 c] wA fun e w' => ∃ bo cb y, e = .returned (.slice bo c cb) ∧ OwnI wA.heap.size (.slice bo c cb) (zl c y) w' ∧ Blw q c y ∧ Below wA.heap.size wA w') := by
        refine (numbers_any (HA.out.below HG.out.2) hn fi q c (by omega) hq hq2 (by omega)).mono ?_
        rintro e w' ⟨v, y, rfl, ho, hbl, hb⟩
        obtain ⟨bo, cb, rfl, _⟩ := ho.argL
        exact ⟨bo, cb, y, rfl, ho, hbl, hb⟩
      clear hic hfi
      go_wp2_with fail
      refine HN.out.mono ?_
      rintro e w2 ⟨bo, cb, y, rfl, ho2, hbl2, hb2⟩
      have hs2 := hb2.size
      have hsA := HG.out.2.size
      have H2 : Hid (MkS w.heap.size q c i u11 vs Z w2 ∧ OwnI w.heap.size (.slice bo c cb) (zl c y) w2 ∧ Blw q c y ∧ Below w.heap.size w w2) := ⟨HG.out.1.below hb2, ho2.mono hsA, hbl2, bel_up' HG.out.2 hb2⟩
      have hll : (vl i vs).length ≤ 1000000 := by rw [vl_len]; omega
      clear ho2 hbl2 hb2 HN
      go_wp2_with (at_builtin; refine append_sl rfl _ _ rfl w.heap.size u11 (vl i vs) rfl (H2.out.1.own.below ((Below.refl _ _).alloc (Nat.le_refl _) _) (Nat.le_refl _)) ⟨w2.heap.size, 0, none⟩ 1 (.slice bo c cb) rfl rfl (by rw [cell_of_row _ _ _ _ _ (0, 0) (two_new _)]; rfl) hll (by simp; omega) ?_; intro v' w6 hown6 hg6)
      have hal : Below w2.heap.size w2 (w2.alloc (.cells #[.slice bo c cb] 23)) := (Below.refl _ _).alloc (Nat.le_refl _) _
      have HR : Hid (MkS w.heap.size q c (i + 1) v' (fun j => if j = i then .slice bo c cb else vs j) (fun j => if j = i then y else Z j) w6 ∧ Below w.heap.size w w6) := by
        have ho := H2.out.1.below hal
        exact ⟨ho.push (H2.out.2.1.below hal (fun k hk => (H2.out.2.1.lt k hk).2)) H2.out.2.2.1 hown6 hg6, (bel_up' H2.out.2.2.2 hal).grown hg6 (by simp; omega) (fun k hk => ho.own.open_ge k hk)⟩
      clear hown6 hg6 hal
      go_roundw
      case rel => exact ⟨i + 1, _, _, by omega, by go_num, HR.out⟩
      case measure => simp [intOf]; omega
    · have hib : ¬ (i : Int) < (r : Int) := by omega
      have hie : r = i := by omega
      subst hie
      go_wp2
      go_ret
      exact ⟨_, rfl, ⟨vs, Z, HG.out.1⟩, HG.out.2⟩
end Go.Proofs.Ytbpeahhhkcljeaa

/- MatrixMade: the walk of the statement, whatever raw numbers it is given. -/
namespace Go.Proofs.Ytbpeahhhkcljeaa
open Go.RowKit Go.Sort

theorem MatZ.matO {ao : Option Addr} {m : Nat} {A : Nat → Option Addr} {N C : Nat → Nat} {Z : Nat → Nat → Int} {w : World} (h : MatZ ao m A N C Z w) : MatO ao m A N C Z w := ⟨h.cell, h.sl, h.le, h.cap, h.nil⟩
theorem blw_mchk {D : FD} {m c : Nat} {Z : Nat → Nat → Int} (hm : m ≤ 64) (hc0 : 1 ≤ c) (hc : c ≤ 64) (h : ∀ i, i < m → Blw D.q c (Z i)) : D.mchk m (fun _ => c) Z = 0 := by
  refine mchk_of hm (fun i hi => ?_)
  unfold FD.mrow
  rw [if_neg (by omega), if_neg (by omega), if_pos]
  refine allHas_iff.2 (fun j hj => ?_)
  have := h i hi j hj
  unfold FD.has
  rw [decide_eq_true_eq]; exact this
theorem pick_nat {m : Int} {k : Nat} (hk : 0 < k) : ∃ M : Nat, pick m (k : Int) = (M : Int) ∧ M < k := by
  have h1 := pick_lo m (k : Int) (by omega)
  have h2 := pick_hi m (k : Int) (by omega)
  exact ⟨(pick m (k : Int)).toNat, by omega, by omega⟩

set_option maxHeartbeats 1000000 in
theorem matrixMade_long {ao : Option Addr} {n ca : Nat} (q m k x : Int) (w : World) (hn : ¬ n ≤ 256) (hn2 : n ≤ 17592186044416) :
    Calls Try.prog 4 #[.slice ao n ca, .int .i64 q, .int .i64 m, .int .i64 k, .int .i64 x] w fun r w' => r = .returned (.bool true) ∧ Below w.heap.size w w' := by
  have h1 : (256 : Int) < (n : Int) := by omega
  go_enter Try.func4, Try.ntmps4
  go_wp2
  go_ret
  exact ⟨rfl, Below.refl _ _⟩

set_option maxHeartbeats 8000000 in
set_option maxRecDepth 100000 in
theorem matrixMade_walk {ao : Option Addr} {n ca : Nat} {z : Nat → Int} (q m k x : Int) {w : World} (ha : Arg ao n ca z w) (hn : n ≤ 256) (hq : I64 q) (hm : I64 m) (hk : I64 k) (hx : I64 x) :
    Calls Try.prog 4 #[.slice ao n ca, .int .i64 q, .int .i64 m, .int .i64 k, .int .i64 x] w fun r w' => r = .returned (.bool true) ∧ Below w.heap.size w w' := by
  obtain ⟨D, hD, hDq⟩ := sizeOf_field q
  obtain ⟨M0, hM0, hM1⟩ := pick_nat (m := m) (k := 6) (by omega)
  obtain ⟨K0, hK0, hK1⟩ := pick_nat (m := k) (k := 6) (by omega)
  obtain ⟨X0, hX0, hX1⟩ := pick_nat (m := x) (k := 6) (by omega)
  have h64 := (fld hD).q64
  have h2q := (fld hD).q2
  have HA : Hid (Arg ao n ca z w ∧ D ∈ fieldsL) := ⟨ha, hD⟩
  have HS : Hid (∀ w : World, Calls Try.prog 17 #[.int .i64 q] w fun e w' => e = .returned (.int .i64 D.q) ∧ Below w.heap.size w w') := fun w => by rw [← hDq]; exact sizeOf_any q w hq.1 hq.2
  have HP1 : Hid (∀ w : World, Calls Try.prog 18 #[.int .i64 m, .int .i64 6] w fun e w' => e = .returned (.int .i64 M0) ∧ w' = w) := fun w => by rw [← hM0]; exact pick_any m 6 w hm.1 hm.2 (by omega) (by omega)
  have HP2 : Hid (∀ w : World, Calls Try.prog 18 #[.int .i64 k, .int .i64 6] w fun e w' => e = .returned (.int .i64 K0) ∧ w' = w) := fun w => by rw [← hK0]; exact pick_any k 6 w hk.1 hk.2 (by omega) (by omega)
  have HP3 : Hid (∀ w : World, Calls Try.prog 18 #[.int .i64 x, .int .i64 6] w fun e w' => e = .returned (.int .i64 X0) ∧ w' = w) := fun w => by rw [← hX0]; exact pick_any x 6 w hx.1 hx.2 (by omega) (by omega)
  obtain ⟨M, hMe⟩ : ∃ M, M = 1 + M0 := ⟨_, rfl⟩
  obtain ⟨K, hKe⟩ : ∃ K, K = 1 + K0 := ⟨_, rfl⟩
  obtain ⟨X, hXe⟩ : ∃ X, X = 1 + X0 := ⟨_, rfl⟩
  have hwM : IntKind.i64.wrap (1 + (M0 : Int)) = (M : Int) := wrap_to (by omega) (by omega)
  have hwK : IntKind.i64.wrap (1 + (K0 : Int)) = (K : Int) := wrap_to (by omega) (by omega)
  have hwX : IntKind.i64.wrap (1 + (X0 : Int)) = (X : Int) := wrap_to (by omega) (by omega)
  have hMb : 1 ≤ M ∧ M ≤ 6 := by omega
  have hKb : 1 ≤ K ∧ K ≤ 6 := by omega
  have hXb : 1 ≤ X ∧ X ≤ 6 := by omega
  obtain ⟨mn, hmn⟩ : ∃ mn, mn = M * K := ⟨_, rfl⟩
  have hmn2 : mn ≤ 36 := by
    rw [hmn]
    exact Nat.mul_le_mul hMb.2 hKb.2
  have hwP : IntKind.i64.wrap ((M : Int) * (K : Int)) = (mn : Int) := wrap_to (by rw [hmn]; simp) (by omega)
  have HMt : Hid (∀ w2, Below w.heap.size w w2 → ∀ f r c : Nat, f ≤ 100 → r ≤ 6 → c ≤ 6 → Calls Try.prog 19 #[.slice ao n ca, .int .i64 f, .int .i64 D.q, .int .i64 r, .int .i64 c] w2 fun e w' => ∃ mo mc A C Z, e = .returned (.slice mo r mc) ∧ MatZ mo r A (fun _ => c) C Z w' ∧ (∀ i, i < r → Blw D.q c (Z i)) ∧ Below w2.heap.size w2 w') := fun w2 hb2 f r c hf hr hc => by
    refine (matrixOf_any (HA.out.1.below hb2) (by omega) f D.q r c (by omega) (by omega) (by omega) (by omega) (by omega)).mono ?_
    rintro e w' ⟨v, vs, Z, rfl, hmk, hb⟩
    obtain ⟨mo, mc, rfl, hz⟩ := hmk.matZ (by omega)
    exact ⟨mo, mc, _, _, Z, rfl, hz, hmk.blw, hb⟩
  have HN1 : Hid (∀ w2, Below w.heap.size w w2 → ∀ f : Nat, f ≤ 100 → ∀ k : Nat, k ≤ 100 → Calls Try.prog 20 #[.slice ao n ca, .int .i64 f, .int .i64 D.q, .int .i64 k] w2 fun e w' => ∃ bo cb y, e = .returned (.slice bo k cb) ∧ ArgL bo k cb y w' ∧ Below w2.heap.size w2 w') := fun w2 hb2 f hf k hk => by
    refine (numbers_any (HA.out.1.below hb2) (by omega) f D.q k (by omega) (by omega) (by omega) (by omega)).mono ?_
    rintro e w' ⟨v, y, rfl, ho, hbl, hb⟩
    obtain ⟨bo, cb, rfl, hA⟩ := ho.argL
    exact ⟨bo, cb, y, rfl, hA, hb⟩
  clear hD hDq hM0 hK0 hX0 ha hq hm hk hx hMe hKe hXe hmn
  have hnb : ¬ (256 : Int) < (n : Int) := by omega
  go_enter Try.func4, Try.ntmps4
  go_wp2_with fail
  refine (HS.out w).mono ?_
  rintro e w1 ⟨rfl, hb1⟩
  have HB1 : Hid (Below w.heap.size w w1) := hb1
  clear hb1
  go_wp2_with fail
  refine (HP1.out w1).mono ?_
  rintro e w' ⟨rfl, hw⟩
  have hw := hw.symm
  subst hw
  go_wp2_with fail
  refine (HP2.out w1).mono ?_
  rintro e w' ⟨rfl, hw⟩
  have hw := hw.symm
  subst hw
  go_wp2_with fail
  refine (HP3.out w1).mono ?_
  rintro e w' ⟨rfl, hw⟩
  have hw := hw.symm
  subst hw
  go_wp2_with fail
  refine (HMt.out w1 HB1.out 0 M K (by omega) hMb.2 hKb.2).mono ?_
  rintro e w2 ⟨mo, mc, A, C, Z, rfl, hz2, hbl2, hb2⟩
  have HB2 : Hid (Below w.heap.size w w2 ∧ MatZ mo M A (fun _ => K) C Z w2) := ⟨bel_up' HB1.out hb2, hz2⟩
  clear hz2 hbl2 hb2
  go_wp2_with fail
  refine (HMt.out w2 HB2.out.1 7 K K (by omega) hKb.2 hKb.2).mono ?_
  rintro e w3 ⟨so, sc, SA, SC, SZ, rfl, hz3, hbl3, hb3⟩
  have HB3 : Hid (Below w.heap.size w w3 ∧ MatZ mo M A (fun _ => K) C Z w3 ∧ MatZ so K SA (fun _ => K) SC SZ w3 ∧ ∀ i, i < K → Blw D.q K (SZ i)) := ⟨bel_up' HB2.out.1 hb3, HB2.out.2.below hb3, hz3, hbl3⟩
  clear hz3 hbl3 hb3
  go_wp2_with fail
  refine (HMt.out w3 HB3.out.1 mn K X (by omega) hKb.2 hXb.2).mono ?_
  rintro e w4 ⟨bo, bc, BA, BC, BZ, rfl, hz4, hbl4, hb4⟩
  have HB4 : Hid (Below w.heap.size w w4 ∧ MatZ mo M A (fun _ => K) C Z w4 ∧ MatZ so K SA (fun _ => K) SC SZ w4 ∧ MatZ bo K BA (fun _ => X) BC BZ w4) := ⟨bel_up' HB3.out.1 hb4, HB3.out.2.1.below hb4, HB3.out.2.2.1.below hb4, hz4⟩
  clear hz4 hbl4 hb4
  go_wp2_with fail
  refine (HN1.out w4 HB4.out.1 3 (by omega) M (by omega)).mono ?_
  rintro e w5 ⟨yo, yc, y, rfl, hA5, hb5⟩
  have HB5 : Hid (Below w.heap.size w w5 ∧ MatZ so K SA (fun _ => K) SC SZ w5 ∧ Calls Try.prog 3 #[.int .i64 D.q, .slice mo M mc, .slice bo K bc, .slice yo M yc] w5 fun r w' => r = .returned (.bool true) ∧ Below w5.heap.size w5 w') :=
    ⟨bel_up' HB4.out.1 hb5, HB4.out.2.2.1.below hb5, matrixSays_walk D.q (HB4.out.2.1.below hb5).matO (HB4.out.2.2.2.below hb5).matO hA5.sl (by omega) (by omega) (by omega) (fun i _ => by omega) (fun i _ => by omega)⟩
  clear hA5 hb5
  go_wp2_with fail
  refine HB5.out.2.2.mono ?_
  rintro e w6 ⟨rfl, hb6⟩
  have HB6 : Hid (Below w.heap.size w w6 ∧ MatZ so K SA (fun _ => K) SC SZ w6) := ⟨bel_up' HB5.out.1 hb6, HB5.out.2.1.below hb6⟩
  clear hb6
  go_wp2_with fail
  refine (HN1.out w6 HB6.out.1 5 (by omega) K (by omega)).mono ?_
  rintro e w7 ⟨to', tc, t, rfl, hA7, hb7⟩
  have HB7 : Hid (Below w.heap.size w w7 ∧ Calls Try.prog 16 #[.int .i64 D.q, .slice so K sc, .slice to' K tc, .int .i64 0] w7 fun r w' => r = .returned (.bool true) ∧ Below w7.heap.size w7 w') :=
    ⟨bel_up' HB6.out.1 hb7, matrixOne_any D.q (HB6.out.2.below hb7) (by omega) hA7.sl (by omega) 0 (Or.inl ⟨D, HA.out.2, rfl, (blw_mchk (by omega) hKb.1 (by omega) HB3.out.2.2.2).symm⟩)⟩
  clear hA7 hb7
  go_wp2_with fail
  refine HB7.out.2.mono ?_
  rintro e w8 ⟨rfl, hb8⟩
  have HB8 : Hid (Below w.heap.size w w8) := bel_up' HB7.out.1 hb8
  clear hb8
  go_wp2
  go_ret
  exact ⟨by first | rfl | simp, HB8.out⟩
end Go.Proofs.Ytbpeahhhkcljeaa
