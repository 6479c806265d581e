/- Words that are 0 at a place, without it (the reference's Shortened). -/
import Derived.Test.YtbpeahhhkcljeaaZI36
import Derived.Test.YtbpeahhhkcljeaaZS17
import Derived.Test.YtbpeahhhkcljeaaZW11
import Derived.Test.YtbpeahhhkcljeaaZU1
namespace Go.Proofs.Ytbpeahhhkcljeaa
open Go.RowKit Go.Sort

theorem spn_bd {D : FD} (F : Fld D) {P : (Nat → Nat) → Prop} {n : Nat} (hP : ∀ v, P v → Bd n v) {v : Nat → Nat} (h : Spn D P v) : Bd n v := by
  refine spn_ind (Q := Bd n) (fun k _ => rfl) (fun a b ha hb k hk => ?_) (fun s a ha k hk => ?_) hP h
  · show D.ad (a k) (b k) = 0
    rw [ha k hk, hb k hk, ad_zero F (zero_lt' F)]
  · show D.mul s (a k) = 0
    rw [ha k hk, mul0 F]
/-- A list's rows, told by their numbers. -/
theorem map_rl (n2 a : Nat) (l : List (Nat → Nat)) : (l.map fun x => (n2, wo a x)) = rl l.length n2 (fun j => wo a (l.getD j pnil)) := by
  refine List.ext_getElem? (fun j => ?_)
  by_cases hj : j < l.length
  · rw [rl_get _ _ _ _ hj, List.getElem?_map, List.getElem?_eq_getElem hj]
    simp [List.getD_eq_getElem?_getD, hj]
  · rw [List.getElem?_eq_none (by simp; omega), List.getElem?_eq_none (by rw [rl_len]; omega)]
theorem inL_rows {D : FD} (l : List (Nat → Nat)) (v : Nat → Nat) : Spn D (RowsOf l.length (fun j => l.getD j pnil)) v ↔ Spn D (InL l) v := by
  constructor
  · rintro ⟨s, h1, h2⟩
    refine ⟨s, fun x hx => ?_, h2⟩
    obtain ⟨i, hi, e⟩ := h1 x hx
    show x.2 ∈ l
    rw [e]
    simp [List.getD_eq_getElem?_getD, hi]
  · rintro ⟨s, h1, h2⟩
    refine ⟨s, fun x hx => ?_, h2⟩
    obtain ⟨i, hi, e⟩ := List.mem_iff_getElem.1 (h1 x hx)
    exact ⟨i, hi, by rw [← e]; simp [List.getD_eq_getElem?_getD, hi]⟩
theorem shL_len {D : FD} {M : Nat → Nat → Nat} {a : Nat} : ∀ i, (shL D M a i).length ≤ i
  | 0 => Nat.le_refl _
  | i + 1 => by
    have := shL_len (D := D) (M := M) (a := a) i
    unfold shL
    split
    · split
      · rw [List.length_append]; simp; omega
      · omega
    · split <;> (rw [List.length_append]; simp; omega)
theorem shr_of {D : FD} (hD : D ∈ fieldsL) {M : Nat → Nat → Nat} {a m N1 k : Nat} {R : Nat → Nat → Nat} (ha : a < N1 + 1) (hM : ∀ i, i < m → El D (M i) ∧ Bd (N1 + 1) (M i)) (h : Red D N1 (shL D M a m).length (fun j => wo a ((shL D M a m).getD j pnil)) k R) : ShR D N1 a m M k R := by
  have F := fld hD
  obtain ⟨p, h1, h2⟩ := h
  refine ⟨p, h1, fun u => (h2 u).trans ?_⟩
  have hl : ∀ i, i < (shL D M a m).length → El D ((shL D M a m).getD i pnil) := fun i hi => by
    refine ((shL_ok (a := a) hD hM m (Nat.le_refl _) _ ?_).1).1
    simp [List.getD_eq_getElem?_getD, hi]
  rw [spn_wo F hl u]
  constructor
  · rintro ⟨v, hv, rfl⟩
    obtain ⟨e1, e2⟩ := (shL_spn hD hM v).1 ((inL_rows _ _).1 hv)
    refine ⟨wo_el (e1.el F), ?_, by rw [wi_wo e2]; exact e1⟩
    have hb := spn_bd F (fun x ⟨i, hi, e⟩ => by rw [e]; exact (hM i hi).2) e1
    exact wo_bd ha hb
  · rintro ⟨e1, e2, e3⟩
    refine ⟨wi a u, (inL_rows _ _).2 ((shL_spn hD hM (wi a u)).2 ⟨e3, ?_⟩), (wo_wi a u).symm⟩
    unfold wi
    rw [if_neg (by omega), if_pos rfl]
/-- The row that is not 0 there, if one was met. -/
def OneV (va : Nat → Value) (M : Nat → Nat → Nat) (a i : Nat) (v : Value) : Prop := match shF M a i with
  | none => v = .slice none 0 0
  | some f => v = va f
theorem OneV.none {va : Nat → Value} {M : Nat → Nat → Nat} {a i : Nat} {v : Value} (h : OneV va M a i v) (e : shF M a i = none) : v = .slice none 0 0 := by unfold OneV at h; rw [e] at h; exact h
theorem OneV.some {va : Nat → Value} {M : Nat → Nat → Nat} {a i f : Nat} {v : Value} (h : OneV va M a i v) (e : shF M a i = some f) : v = va f := by unfold OneV at h; rw [e] at h; exact h
theorem OneV.stay {va : Nat → Value} {M : Nat → Nat → Nat} {a i : Nat} {v : Value} (h : OneV va M a i v) (e : shF M a (i + 1) = shF M a i) : OneV va M a (i + 1) v := by unfold OneV at h ⊢; rw [e]; exact h
theorem shF_none0 {M : Nat → Nat → Nat} {a i : Nat} (e : shF M a i = none) (h : M i a = 0) : shF M a (i + 1) = none := by
  show (match shF M a i with | some f => some f | none => if M i a = 0 then none else some i) = none
  rw [e]; exact if_pos h
theorem shF_none1 {M : Nat → Nat → Nat} {a i : Nat} (e : shF M a i = none) (h : M i a ≠ 0) : shF M a (i + 1) = some i := by
  show (match shF M a i with | some f => some f | none => if M i a = 0 then none else some i) = some i
  rw [e]; exact if_neg h
theorem shF_some {M : Nat → Nat → Nat} {a i f : Nat} (e : shF M a i = some f) : shF M a (i + 1) = some f := by
  show (match shF M a i with | some f => some f | none => if M i a = 0 then none else some i) = some f
  rw [e]
theorem shL_none0 {D : FD} {M : Nat → Nat → Nat} {a i : Nat} (e : shF M a i = none) (h : M i a = 0) : shL D M a (i + 1) = shL D M a i ++ [M i] := by
  rw [shL, e]; exact if_pos h
theorem shL_none1 {D : FD} {M : Nat → Nat → Nat} {a i : Nat} (e : shF M a i = none) (h : M i a ≠ 0) : shL D M a (i + 1) = shL D M a i := by
  rw [shL, e]; exact if_neg h
theorem shL_some0 {D : FD} {M : Nat → Nat → Nat} {a i f : Nat} (e : shF M a i = some f) (h : M i a = 0) : shL D M a (i + 1) = shL D M a i ++ [M i] := by
  rw [shL, e]; exact if_pos h
theorem shL_some1 {D : FD} {M : Nat → Nat → Nat} {a i f : Nat} (e : shF M a i = some f) (h : M i a ≠ 0) : shL D M a (i + 1) = shL D M a i ++ [plss D (M i) (M f) (D.mul (M i a) (D.pw (M f a) (D.q - 2)))] := by
  rw [shL, e]; exact if_neg h

/-- What the region reads that takes a row from another. -/
def shS (b : Nat) (D : FD) (gm cm bx ox y bf o2 yf : Nat) (wx : World) : Prop := Box b D D.gen (.slice (some ⟨gm, 0, none⟩) (D.m + 1) cm) wx ∧ wx.cell? ⟨bx, ox, none⟩ = some (.int .i64 (y : Nat)) ∧ wx.cell? ⟨bf, o2, none⟩ = some (.int .i64 (yf : Nat))

set_option maxHeartbeats 16000000 in
set_option maxRecDepth 100000 in
theorem rshort_any {D : FD} (hD : D ∈ fieldsL) {ao : Option Addr} {m n n2 ca a : Nat} {M : Nat → Nat → Nat} {w : World} (hm : m ≤ 900) (hn : n ≤ 64) (hnn : n = n2 + 2) (ha : a < n) (hel : ∀ i, i < m → El D (M i) ∧ Bd n (M i)) (hA : MatR ao m (n2 + 1) M w) :
    Calls Try.prog 74 #[.agg #[.int .i64 D.q, .int .i64 (n : Nat), .slice ao m ca], .int .i64 (a : Nat)] w fun e w' => ∃ k R ro rc, e = .returned (.agg #[.int .i64 D.q, .int .i64 (n2 + 1 : Nat), .slice ro k rc]) ∧ LLs w.heap.size (.slice ro k rc) (rl k n2 R) w' ∧ ShR D (n2 + 1) a m M k R ∧ Below w.heap.size w w' := by
  obtain ⟨w0, hw0⟩ : ∃ w0, w0 = (w.alloc (.cells #[.int .i64 D.q, .int .i64 (n : Nat), .slice ao m ca] 43)).alloc (.cells #[.int .i64 0, .int .i64 0, .slice none 0 0] 43) := ⟨_, rfl⟩
  have HW : Hid (Below w.heap.size w w0 ∧ CB w.heap.size D.q n (.slice ao m ca) w0 ∧ RB (w.heap.size + 1) w0 ∧ RBt (w.heap.size + 1) w0 ∧ w0.heap.size = w.heap.size + 2) := by
    obtain ⟨h1, h2, h3, h4⟩ := two_boxes D.q n 0 0 (.slice ao m ca) (.slice none 0 0) w
    have h6 := RBt.new #[.int .i64 0, .int .i64 0, .slice none 0 0] (w.alloc (.cells #[.int .i64 D.q, .int .i64 (n : Nat), .slice ao m ca] 43))
    rw [show (w.alloc (.cells #[.int .i64 D.q, .int .i64 (n : Nat), .slice ao m ca] 43)).heap.size = w.heap.size + 1 by simp] at h6
    rw [hw0]; exact ⟨h1, h2, RB.of h3 h6, h6, h4⟩
  obtain ⟨va, hva1, hva2⟩ := hA.vals
  have HA : Hid (D ∈ fieldsL ∧ (∀ i, i < m → El D (M i) ∧ Bd n (M i)) ∧ SlV ao m va w ∧ (∀ i, i < m → Rwv (va i) (n2 + 1) (M i) w) ∧ n = n2 + 2 ∧ a < n) := ⟨hD, hel, hva1, fun i hi => (hva2 i hi).1, hnn, ha⟩
  obtain ⟨N1, hN1⟩ : ∃ N1, N1 = n2 + 1 := ⟨_, rfl⟩
  rw [← hN1]
  have HSub : Hid (((n : Nat) : Int) - 1 = ((N1 : Nat) : Int) ∧ N1 = n2 + 1) := ⟨by omega, hN1⟩
  have hn2 : n2 ≤ 62 := by omega
  have hpl0 : (0 : Int) ≤ (a : Int) := by omega
  have hpl1 : (a : Int) < (n2 : Int) + 1 + 1 := by omega
  clear hD hel hA hnn ha hN1 hva1 hva2
  obtain ⟨p0, p1, p2⟩ : CB w.heap.size D.q n (.slice ao m ca) w0 := HW.out.2.1
  have p0' := p0
  rw [hw0] at p0'
  go_enter Try.func74, Try.ntmps74
  go_wp2_with fail
  rw [← hw0]
  clear hw0 p0 p1 p2 p0'
  refine (rfield_sl HA.out.1 w0).mono ?_
  rintro e w1 ⟨gm, cm, rfl, hmod, hb1⟩
  unfold rf
  obtain ⟨wb, hwb⟩ : ∃ wb, wb = w1.alloc (.cells #[.int .i64 D.q, .int .i64 D.p, .int .i64 D.m, .int .i64 D.gen, .slice (some ⟨gm, 0, none⟩) (D.m + 1) cm] 28) := ⟨_, rfl⟩
  have hbb : Below w1.heap.size w1 wb := by rw [hwb]; exact (Below.refl _ _).alloc (Nat.le_refl _) _
  have H1 : Hid (Below w.heap.size w wb ∧ CB w.heap.size D.q n (.slice ao m ca) wb ∧ RB (w.heap.size + 1) wb ∧ RBt (w.heap.size + 1) wb ∧ ModAt D (.slice (some ⟨gm, 0, none⟩) (D.m + 1) cm) D.md wb ∧ Box w1.heap.size D D.gen (.slice (some ⟨gm, 0, none⟩) (D.m + 1) cm) wb ∧ w1.heap.size < wb.heap.size) := by
    have hb2 := bel_up' hb1 hbb
    exact ⟨bel_up' HW.out.1 hb2, HW.out.2.1.keep hb2, HW.out.2.2.1.keep hb2, HW.out.2.2.2.1.keep hb2, hmod.below hbb, by rw [hwb]; exact box_new D D.gen _ w1, by rw [hwb]; simp⟩
  clear hmod hb1 hbb HW
  go_wp2
  rw [← hwb]
  clear hwb
  go_loopw [7, 8, 9] (fun vo vl vi wr => ∃ i : Nat, i ≤ m ∧ vi = .int .i64 i ∧ OneV va M a i vo ∧ Hid (LLs wb.heap.size vl ((shL D M a i).map fun x => (n2, wo a x)) wr ∧ Below wb.heap.size wb wr)) (fun _ _ vi _ => m - (intOf vi).toNat)
  case atStart => exact ⟨0, by omega, rfl, rfl, LLs.nil _ _, Below.refl _ _⟩
  case round =>
    obtain ⟨i, hi, rfl, hone, HG⟩ := hrel
    rename World => wA
    obtain ⟨p0, p1, p2⟩ := H1.out.2.1.keep HG.out.2
    by_cases hlt : i < m
    · have hib : (i : Int) < (m : Int) := by omega
      have hib0 : (0 : Int) ≤ (i : Int) := by omega
      have hbw : Below w.heap.size w wA := bel_up' H1.out.1 HG.out.2
      obtain ⟨bR, oR, hao, hcr⟩ := (HA.out.2.2.1.below hbw) i hlt
      subst hao
      obtain ⟨xr, cx, hu, hsx, hlx, hnx, hle, hcap⟩ := (HA.out.2.2.2.1 i hlt).below hbw
      obtain ⟨bx, ox, hx, hca⟩ := hsx a (by have := HA.out.2.2.2.2; omega)
      subst hx
      rw [hu] at hcr
      obtain ⟨y, hy⟩ : ∃ y, y = M i a := ⟨_, rfl⟩
      rw [← hy] at hca
      have HX : Hid (va i = .slice (some ⟨bx, ox, none⟩) (n2 + 1 + 1) cx ∧ Sl (some ⟨bx, ox, none⟩) (n2 + 1 + 1) (M i) wA ∧ bx < wA.heap.size ∧ n2 + 1 + 1 ≤ cx ∧ cx ≤ 9223372036854775807 ∧ y = M i a ∧ Below w.heap.size w wA) := ⟨hu, hsx, hlx _ rfl, hle, hcap, hy, hbw⟩
      clear hu hsx hlx hnx hle hcap hy hbw
      have hib2 : (a : Int) < (((n2 + 1 + 1 : Nat)) : Int) := by omega
      cases hF : shF M a i with
      | none =>
        have hv := hone.none hF
        subst hv
        have HFN : Hid (shF M a i = none) := hF
        clear hF
        by_cases h0 : y = 0
        · have hz : ((y : Int) != 0) = false := by rw [h0]; rfl
          have HY : Hid (M i a = 0) := by show M i a = 0; rw [← HX.out.2.2.2.2.2.1]; exact h0
          have hone2 : OneV va M a (i + 1) (.slice none 0 0) := hone.stay ((shF_none0 HFN.out HY.out).trans HFN.out.symm)
          have HO2 : Hid (OneV va M a (i + 1) (.slice none 0 0)) := hone2
          clear h0 hone hone2
          have HT : Hid (Sl (some ⟨bx, ox, none⟩) (n2 + 1 + 1) (M i) wA ∧ bx < wA.heap.size ∧ n2 + 1 + 1 ≤ cx ∧ cx ≤ 9223372036854775807) := ⟨HX.out.2.1, HX.out.2.2.1, HX.out.2.2.2.1, HX.out.2.2.2.2.1⟩
          have HBA : Hid (Below wA.heap.size wA wA) := Below.refl _ _
          have HP : Hid (Calls Try.prog 101 #[.slice (some ⟨bx, ox, none⟩) (n2 + 1 + 1) cx, .int .i64 (a : Nat)] wA fun e w' => ∃ v, e = .returned v ∧ OwnI wA.heap.size v (zl (n2 + 1) fun j => ((wo a (M i) j : Nat) : Int)) w' ∧ Below wA.heap.size wA w') :=
            without_any (by have := HA.out.2.2.2.2; omega) (by omega) HT.out.2.2.1 HT.out.2.2.2 HT.out.1 HT.out.2.1
          go_wp2_with fail
          refine HP.out.mono ?_
          rintro e wB ⟨v1, rfl, ho1, hb1⟩
          obtain ⟨lst, hov, hels⟩ := HG.out.1.below (HBA.out) (Nat.le_refl _)
          have hll : lst.length ≤ 1000000 := by rw [hels.1, List.length_map]; have := shL_len (D := D) (M := M) (a := a) i; omega
          have hel1 := own_elm ho1
          obtain ⟨g1, cg, ev1, _⟩ := hel1
          have HV : Hid (OwnV wb.heap.size u8 lst wB ∧ Elms lst ((shL D M a i).map fun x => (n2, wo a x)) wB ∧ Elm v1 (n2, wo a (M i)) wB ∧ Below wb.heap.size wb wB) := ⟨hov.below hb1 (Nat.le_refl _), hels.below hb1 (Nat.le_refl _), own_elm ho1, bel_up' (bel_up' HG.out.2 HBA.out) hb1⟩
          have hsB := HV.out.2.2.2.size
          subst ev1
          clear hov hels ho1 hb1
          go_wp2_with (at_builtin; refine append_sl rfl _ _ rfl wb.heap.size u8 lst rfl (HV.out.1.below ((Below.refl _ _).alloc (Nat.le_refl _) _) (Nat.le_refl _)) ⟨wB.heap.size, 0, none⟩ 1 (.slice (some ⟨g1, 0, none⟩) (n2 + 1) cg) rfl rfl (by rw [cell_of_row _ _ _ _ _ (0, 0) (two_new _)]; rfl) hll (by simp; omega) ?_; intro v' w6 hown6 hg6)
          have hal : Below wB.heap.size wB (wB.alloc (.cells #[.slice (some ⟨g1, 0, none⟩) (n2 + 1) cg] 23)) := (Below.refl _ _).alloc (Nat.le_refl _) _
          have ho := HV.out.1.below hal (Nat.le_refl _)
          have HR : Hid (LLs wb.heap.size v' ((shL D M a (i + 1)).map fun x => (n2, wo a x)) w6 ∧ Below wb.heap.size wb w6) := by
            refine ⟨⟨_, hown6, ?_⟩, (bel_up' HV.out.2.2.2 hal).grown hg6 (by simp; omega) (fun k hk => ho.open_ge k hk)⟩
            have h := ((HV.out.2.1.below hal (Nat.le_refl _)).snoc (HV.out.2.2.1.below hal (Nat.le_refl _))).grown ho hg6
            rw [shL_none0 HFN.out HY.out, List.map_append]; exact h
          clear hown6 hg6 ho hal
          go_roundw
          case rel => exact ⟨i + 1, by omega, by go_num, HO2.out, HR.out⟩
          case measure => simp [intOf]; omega
        · have hz : ((y : Int) != 0) = true := by rw [bne_iff_ne]; omega
          have HY : Hid (M i a ≠ 0) := by show M i a ≠ 0; rw [← HX.out.2.2.2.2.2.1]; exact h0
          have HO2 : Hid (OneV va M a (i + 1) (.slice (some ⟨bx, ox, none⟩) (n2 + 1 + 1) cx)) := by
            show OneV _ _ _ _ _
            unfold OneV
            rw [shF_none1 HFN.out HY.out]
            exact HX.out.1.symm
          have HR : Hid (LLs wb.heap.size u8 ((shL D M a (i + 1)).map fun x => (n2, wo a x)) wA ∧ Below wb.heap.size wb wA) := by rw [shL_none1 HFN.out HY.out]; exact HG.out
          have hrn : ∀ w1 : World, Sem.run Try.prog (binOp BinOp.eql 23 (Value.slice none 0 0) (Value.slice none 0 0)) w1 = .ok (.bool true) w1 := fun w1 => Lib.run_eql_slice_nil w1 _ 3 none 0 0 0 0 Try.underlying23
          clear h0 hone
          go_wp2
          go_roundw
          case rel => exact ⟨i + 1, by omega, by go_num, HO2.out, HR.out⟩
          case measure => simp [intOf]; omega
      | some f =>
        have hv := hone.some hF
        have hfi := (shF_lt hF).1
        obtain ⟨xf, cf, hu, hsf, hlf, _, hle, hcap⟩ := (HA.out.2.2.2.1 f (by omega)).below HX.out.2.2.2.2.2.2
        obtain ⟨bf, of', hx, hcf⟩ := hsf a (by have := HA.out.2.2.2.2; omega)
        subst hx
        rw [hu] at hv
        subst hv
        obtain ⟨yf, hyf⟩ : ∃ yf, yf = M f a := ⟨_, rfl⟩
        rw [← hyf] at hcf
        have HFN : Hid (shF M a i = some f ∧ f < m ∧ yf = M f a ∧ Sl (some ⟨bf, of', none⟩) (n2 + 1 + 1) (M f) wA ∧ bf < wA.heap.size) := ⟨hF, by omega, hyf, hsf, hlf _ rfl⟩
        have HO2 : Hid (OneV va M a (i + 1) (.slice (some ⟨bf, of', none⟩) (n2 + 1 + 1) cf)) := hone.stay ((shF_some hF).trans hF.symm)
        have hrn : ∀ w1 : World, Sem.run Try.prog (binOp BinOp.eql 23 (Value.slice (some ⟨bf, of', none⟩) (n2 + 1 + 1) cf) (Value.slice none 0 0)) w1 = .ok (.bool false) w1 := fun w1 => Lib.run_eql_slice_nil w1 _ 3 (some ⟨bf, of', none⟩) (n2 + 1 + 1) cf 0 0 Try.underlying23
        clear hF hyf hsf hlf hu hfi hle hcap hone
        by_cases h0 : y = 0
        · have hz : ((y : Int) != 0) = false := by rw [h0]; rfl
          have HY : Hid (M i a = 0) := by show M i a = 0; rw [← HX.out.2.2.2.2.2.1]; exact h0
          clear h0
          have HT : Hid (Sl (some ⟨bx, ox, none⟩) (n2 + 1 + 1) (M i) wA ∧ bx < wA.heap.size ∧ n2 + 1 + 1 ≤ cx ∧ cx ≤ 9223372036854775807) := ⟨HX.out.2.1, HX.out.2.2.1, HX.out.2.2.2.1, HX.out.2.2.2.2.1⟩
          have HBA : Hid (Below wA.heap.size wA wA) := Below.refl _ _
          have HP : Hid (Calls Try.prog 101 #[.slice (some ⟨bx, ox, none⟩) (n2 + 1 + 1) cx, .int .i64 (a : Nat)] wA fun e w' => ∃ v, e = .returned v ∧ OwnI wA.heap.size v (zl (n2 + 1) fun j => ((wo a (M i) j : Nat) : Int)) w' ∧ Below wA.heap.size wA w') :=
            without_any (by have := HA.out.2.2.2.2; omega) (by omega) HT.out.2.2.1 HT.out.2.2.2 HT.out.1 HT.out.2.1
          go_wp2_with fail
          refine HP.out.mono ?_
          rintro e wB ⟨v1, rfl, ho1, hb1⟩
          obtain ⟨lst, hov, hels⟩ := HG.out.1.below (HBA.out) (Nat.le_refl _)
          have hll : lst.length ≤ 1000000 := by rw [hels.1, List.length_map]; have := shL_len (D := D) (M := M) (a := a) i; omega
          have hel1 := own_elm ho1
          obtain ⟨g1, cg, ev1, _⟩ := hel1
          have HV : Hid (OwnV wb.heap.size u8 lst wB ∧ Elms lst ((shL D M a i).map fun x => (n2, wo a x)) wB ∧ Elm v1 (n2, wo a (M i)) wB ∧ Below wb.heap.size wb wB) := ⟨hov.below hb1 (Nat.le_refl _), hels.below hb1 (Nat.le_refl _), own_elm ho1, bel_up' (bel_up' HG.out.2 HBA.out) hb1⟩
          have hsB := HV.out.2.2.2.size
          subst ev1
          clear hov hels ho1 hb1
          go_wp2_with (at_builtin; refine append_sl rfl _ _ rfl wb.heap.size u8 lst rfl (HV.out.1.below ((Below.refl _ _).alloc (Nat.le_refl _) _) (Nat.le_refl _)) ⟨wB.heap.size, 0, none⟩ 1 (.slice (some ⟨g1, 0, none⟩) (n2 + 1) cg) rfl rfl (by rw [cell_of_row _ _ _ _ _ (0, 0) (two_new _)]; rfl) hll (by simp; omega) ?_; intro v' w6 hown6 hg6)
          have hal : Below wB.heap.size wB (wB.alloc (.cells #[.slice (some ⟨g1, 0, none⟩) (n2 + 1) cg] 23)) := (Below.refl _ _).alloc (Nat.le_refl _) _
          have ho := HV.out.1.below hal (Nat.le_refl _)
          have HR : Hid (LLs wb.heap.size v' ((shL D M a (i + 1)).map fun x => (n2, wo a x)) w6 ∧ Below wb.heap.size wb w6) := by
            refine ⟨⟨_, hown6, ?_⟩, (bel_up' HV.out.2.2.2 hal).grown hg6 (by simp; omega) (fun k hk => ho.open_ge k hk)⟩
            have h := ((HV.out.2.1.below hal (Nat.le_refl _)).snoc (HV.out.2.2.1.below hal (Nat.le_refl _))).grown ho hg6
            rw [shL_some0 HFN.out.1 HY.out, List.map_append]; exact h
          clear hown6 hg6 ho hal
          go_roundw
          case rel => exact ⟨i + 1, by omega, by go_num, HO2.out, HR.out⟩
          case measure => simp [intOf]; omega
        · have hz : ((y : Int) != 0) = true := by rw [bne_iff_ne]; omega
          have HY : Hid (M i a ≠ 0) := by show M i a ≠ 0; rw [← HX.out.2.2.2.2.2.1]; exact h0
          obtain ⟨inv, hinv⟩ : ∃ inv, inv = D.pw yf (D.q - 2) := ⟨_, rfl⟩
          obtain ⟨mu, hmu⟩ : ∃ mu, mu = D.mul y inv := ⟨_, rfl⟩
          have hyq : y < D.q := by rw [HX.out.2.2.2.2.2.1]; exact (HA.out.2.1 i hlt).1 a
          have hfq : yf < D.q := by rw [HFN.out.2.2.1]; exact (HA.out.2.1 f HFN.out.2.1).1 a
          have hf0 : yf ≠ 0 := by rw [HFN.out.2.2.1]; exact (shF_lt HFN.out.1).2
          have hiq : inv < D.q := by rw [hinv]; exact iv_lt HA.out.1 _
          have hmq : mu < D.q := by rw [hmu]; exact (fld HA.out.1).mul_lt _ _
          have HI : Hid (∀ wx, Below wA.heap.size wA wx → Calls Try.prog 96 #[.agg #[.int .i64 D.q, .int .i64 D.p, .int .i64 D.m, .int .i64 D.gen, .slice (some ⟨gm, 0, none⟩) (D.m + 1) cm], .int .i64 (yf : Nat)] wx fun e w'' => e = .returned (.int .i64 (inv : Nat)) ∧ Below wx.heap.size wx w'') := fun wx hx => by
            have h := rinv_any HA.out.1 D.gen (yf : Nat) (H1.out.2.2.2.2.1.below (bel_up' HG.out.2 hx))
            rw [inv_nat HA.out.1 hfq hf0] at h
            rw [hinv]; exact h
          have HMu : Hid (∀ wx, Below wA.heap.size wA wx → Calls Try.prog 50 #[.agg #[.int .i64 D.q, .int .i64 D.p, .int .i64 D.m, .int .i64 D.gen, .slice (some ⟨gm, 0, none⟩) (D.m + 1) cm], .int .i64 (y : Nat), .int .i64 (inv : Nat)] wx fun e w'' => e = .returned (.int .i64 (mu : Nat)) ∧ Below wx.heap.size wx w'') := fun wx hx => by
            rw [hmu]
            exact rmul_nat HA.out.1 D.gen H1.out.2.2.2.2.1 y inv hyq hiq _ (bel_up' HG.out.2 hx)
          have HLe : Hid (∀ wx, Below wA.heap.size wA wx → Calls Try.prog 95 #[.agg #[.int .i64 D.q, .int .i64 D.p, .int .i64 D.m, .int .i64 D.gen, .slice (some ⟨gm, 0, none⟩) (D.m + 1) cm], .slice (some ⟨bx, ox, none⟩) (n2 + 1 + 1) cx, .slice (some ⟨bf, of', none⟩) (n2 + 1 + 1) cf, .int .i64 (mu : Nat)] wx fun e w' => ∃ v, e = .returned v ∧ Elm v (n2 + 1, plss D (M i) (M f) mu) w' ∧ (∀ k, v.ownBlock = some k → wx.heap.size ≤ k) ∧ Below wx.heap.size wx w') := fun wx hx =>
            rless2_any HA.out.1 D.gen gm cm (by omega) (HA.out.2.1 i hlt).1 (HA.out.2.1 f HFN.out.2.1).1 hmq (HX.out.2.1.below hx (fun z hz => by cases hz; exact HX.out.2.2.1)) (Nat.lt_of_lt_of_le HX.out.2.2.1 hx.size) (HFN.out.2.2.2.1.below hx (fun z hz => by cases hz; exact HFN.out.2.2.2.2)) (Nat.lt_of_lt_of_le HFN.out.2.2.2.2 hx.size) (H1.out.2.2.2.2.1.below (bel_up' HG.out.2 hx))
          have HQ : Hid (plss D (M i) (M f) mu = plss D (M i) (M f) (D.mul (M i a) (D.pw (M f a) (D.q - 2)))) := by show plss D (M i) (M f) mu = _; rw [hmu, hinv, HX.out.2.2.2.2.2.1, HFN.out.2.2.1]
          have HK5 : Hid (∀ wx, Below wA.heap.size wA wx → shS w1.heap.size D gm cm bx (ox + a) y bf (of' + a) yf wx) := by
            have hc1 := hca
            have hc2 := hcf
            exact fun wx hx => ⟨(H1.out.2.2.2.2.2.1.below HG.out.2 H1.out.2.2.2.2.2.2).below hx (Nat.lt_of_lt_of_le H1.out.2.2.2.2.2.2 HG.out.2.size), ((bcell hx).1 _ _ (cell_lt hc1)).trans hc1, ((bcell hx).1 _ _ (cell_lt hc2)).trans hc2⟩
          clear hinv hmu hyq hfq hf0 hiq hmq h0
          go_wp2
          have hS5 := HK5.out _ (Below.refl wA.heap.size wA).drew
          refine wp_region_noPanic ?_
          refine wp_region_X (S := shS w1.heap.size D gm cm bx (ox + a) y bf (of' + a) yf) 16 (by kernel_rfl) ?_
          refine wpAnyX_take (i := 0) (v := ?_) (by rw [List.getElem?_toArray]; rfl) (by kernel_rfl) (by kernel_rfl) (by kernel_rfl) (by kernel_rfl) (fun _ _ _ h => h) hS5 (Or.inl ⟨by rfl, ?_⟩) ?_
          rotate_left
          · intro wz hSz; obtain ⟨⟨z0, z1, z2, z3, z4⟩, z5, z6⟩ := hSz; go_simp; first | done | with_reducible rfl
          try simp only [Act.put, List.setIfInBounds_toArray, List.set_cons_zero, List.set_cons_succ]
          refine wpAnyX_take (i := 1) (v := ?_) (by rw [List.getElem?_toArray]; rfl) (by kernel_rfl) (by kernel_rfl) (by kernel_rfl) (by kernel_rfl) (fun _ _ _ h => h) hS5 (Or.inl ⟨by rfl, ?_⟩) ?_
          rotate_left
          · intro wz hSz; obtain ⟨⟨z0, z1, z2, z3, z4⟩, z5, z6⟩ := hSz; go_simp; first | done | with_reducible rfl
          try simp only [Act.put, List.setIfInBounds_toArray, List.set_cons_zero, List.set_cons_succ]
          refine wpAnyX_take (i := 2) (v := ?_) (by rw [List.getElem?_toArray]; rfl) (by kernel_rfl) (by kernel_rfl) (by kernel_rfl) (by kernel_rfl) (fun _ _ _ h => h) hS5 (Or.inl ⟨by rfl, ?_⟩) ?_
          rotate_left
          · intro wz hSz; obtain ⟨⟨z0, z1, z2, z3, z4⟩, z5, z6⟩ := hSz; go_simp; first | done | with_reducible rfl
          try simp only [Act.put, List.setIfInBounds_toArray, List.set_cons_zero, List.set_cons_succ]
          refine wpAnyX_take (i := 3) (v := ?_) (by rw [List.getElem?_toArray]; rfl) (by kernel_rfl) (by kernel_rfl) (by kernel_rfl) (by kernel_rfl) (fun _ _ _ h => h) hS5 (Or.inl ⟨by rfl, ?_⟩) ?_
          rotate_left
          · intro wz hSz; obtain ⟨⟨z0, z1, z2, z3, z4⟩, z5, z6⟩ := hSz; go_simp; first | done | with_reducible rfl
          try simp only [Act.put, List.setIfInBounds_toArray, List.set_cons_zero, List.set_cons_succ]
          refine wpAnyX_take (i := 4) (v := ?_) (by rw [List.getElem?_toArray]; rfl) (by kernel_rfl) (by kernel_rfl) (by kernel_rfl) (by kernel_rfl) (fun _ _ _ h => h) hS5 (Or.inl ⟨by rfl, ?_⟩) ?_
          rotate_left
          · intro wz hSz; obtain ⟨⟨z0, z1, z2, z3, z4⟩, z5, z6⟩ := hSz; go_simp; first | done | with_reducible rfl
          try simp only [Act.put, List.setIfInBounds_toArray, List.set_cons_zero, List.set_cons_succ]
          refine wpAnyX_take (i := 5) (v := ?_) (by rw [List.getElem?_toArray]; rfl) (by kernel_rfl) (by kernel_rfl) (by kernel_rfl) (by kernel_rfl) (fun _ _ _ h => h) hS5 (Or.inl ⟨by rfl, ?_⟩) ?_
          rotate_left
          · intro wz hSz; obtain ⟨⟨z0, z1, z2, z3, z4⟩, z5, z6⟩ := hSz; go_simp; first | done | with_reducible rfl
          try simp only [Act.put, List.setIfInBounds_toArray, List.set_cons_zero, List.set_cons_succ]
          refine wpAnyX_take (i := 6) (v := ?_) (by rw [List.getElem?_toArray]; rfl) (by kernel_rfl) (by kernel_rfl) (by kernel_rfl) (by kernel_rfl) (fun _ _ _ h => h) hS5 (Or.inl ⟨by rfl, ?_⟩) ?_
          rotate_left
          · intro wz hSz; obtain ⟨⟨z0, z1, z2, z3, z4⟩, z5, z6⟩ := hSz; go_simp; first | done | with_reducible rfl
          try simp only [Act.put, List.setIfInBounds_toArray, List.set_cons_zero, List.set_cons_succ]
          refine wpAnyX_take (i := 7) (v := ?_) (by rw [List.getElem?_toArray]; rfl) (by kernel_rfl) (by kernel_rfl) (by kernel_rfl) (by kernel_rfl) (fun _ _ _ h => h) hS5 (Or.inl ⟨by rfl, ?_⟩) ?_
          rotate_left
          · intro wz hSz; obtain ⟨⟨z0, z1, z2, z3, z4⟩, z5, z6⟩ := hSz; go_simp; first | done | with_reducible rfl
          try simp only [Act.put, List.setIfInBounds_toArray, List.set_cons_zero, List.set_cons_succ]
          refine wpAnyX_take (i := 8) (v := ?_) (by rw [List.getElem?_toArray]; rfl) (by kernel_rfl) (by kernel_rfl) (by kernel_rfl) (by kernel_rfl) (fun _ _ _ h => h) hS5 (Or.inl ⟨by rfl, ?_⟩) ?_
          rotate_left
          · intro wz hSz; obtain ⟨⟨z0, z1, z2, z3, z4⟩, z5, z6⟩ := hSz; go_simp; first | done | with_reducible rfl
          try simp only [Act.put, List.setIfInBounds_toArray, List.set_cons_zero, List.set_cons_succ]
          refine wpAnyX_take (i := 9) (v := ?_) (by rw [List.getElem?_toArray]; rfl) (by kernel_rfl) (by kernel_rfl) (by kernel_rfl) (by kernel_rfl) (fun _ _ _ h => h) hS5 (Or.inl ⟨by rfl, ?_⟩) ?_
          rotate_left
          · intro wz hSz; obtain ⟨⟨z0, z1, z2, z3, z4⟩, z5, z6⟩ := hSz; go_simp; first | done | with_reducible rfl
          try simp only [Act.put, List.setIfInBounds_toArray, List.set_cons_zero, List.set_cons_succ]
          refine wpAnyX_take (i := 10) (v := ?_) (by rw [List.getElem?_toArray]; rfl) (by kernel_rfl) (by kernel_rfl) (by kernel_rfl) (by kernel_rfl) (fun _ _ _ h => h) hS5 (Or.inl ⟨by rfl, ?_⟩) ?_
          rotate_left
          · intro wz hSz; obtain ⟨⟨z0, z1, z2, z3, z4⟩, z5, z6⟩ := hSz; go_simp; first | done | with_reducible rfl
          try simp only [Act.put, List.setIfInBounds_toArray, List.set_cons_zero, List.set_cons_succ]
          refine wpAnyX_take (i := 11) (v := ?_) (by rw [List.getElem?_toArray]; rfl) (by kernel_rfl) (by kernel_rfl) (by kernel_rfl) (by kernel_rfl) (fun _ _ _ h => h) hS5 (Or.inl ⟨by rfl, ?_⟩) ?_
          rotate_left
          · intro wz hSz; obtain ⟨⟨z0, z1, z2, z3, z4⟩, z5, z6⟩ := hSz; go_simp; first | done | with_reducible rfl
          try simp only [Act.put, List.setIfInBounds_toArray, List.set_cons_zero, List.set_cons_succ]
          refine wpAnyX_take (i := 12) (v := ?_) (by rw [List.getElem?_toArray]; rfl) (by kernel_rfl) (by kernel_rfl) (by kernel_rfl) (by kernel_rfl) (fun _ _ _ h => h) hS5 (Or.inl ⟨by rfl, ?_⟩) ?_
          rotate_left
          · intro wz hSz; obtain ⟨⟨z0, z1, z2, z3, z4⟩, z5, z6⟩ := hSz; go_simp; first | done | with_reducible rfl
          try simp only [Act.put, List.setIfInBounds_toArray, List.set_cons_zero, List.set_cons_succ]
          refine wpAnyX_one (i := 13) (by kernel_rfl) (by rw [List.getElem?_toArray]; rfl) (fun K hK => ?_)
          have HK : Hid _ := hK
          clear hK
          go_simp
          refine (HI.out _ (Below.refl wA.heap.size wA).drew).mono ?_
          rintro e w3 ⟨rfl, hb3⟩
          have H3 : Hid (Below wA.heap.size wA w3) := bel_up' (Below.refl wA.heap.size wA).drew hb3
          clear hb3
          refine HK.out _ _ (fun _ => HK5.out _ H3.out) ?_
          clear HK K
          try simp only [Act.put, List.setIfInBounds_toArray, List.set_cons_zero, List.set_cons_succ]
          refine wpAnyX_one (i := 14) (by kernel_rfl) (by rw [List.getElem?_toArray]; rfl) (fun K hK => ?_)
          have HK : Hid _ := hK
          clear hK
          go_simp
          refine (HMu.out _ H3.out).mono ?_
          rintro e w4 ⟨rfl, hb4⟩
          have H4 : Hid (Below wA.heap.size wA w4) := bel_up' H3.out hb4
          clear hb4
          refine HK.out _ _ (fun _ => HK5.out _ H4.out) ?_
          clear HK K
          try simp only [Act.put, List.setIfInBounds_toArray, List.set_cons_zero, List.set_cons_succ]
          refine wpAnyX_one (i := 15) (by kernel_rfl) (by rw [List.getElem?_toArray]; rfl) (fun K hK => ?_)
          have HK : Hid _ := hK
          clear hK
          go_simp
          refine (HLe.out _ H4.out).mono ?_
          rintro e w5 ⟨v5, rfl, hel5, _, hb5⟩
          have HBA : Hid (Below wA.heap.size wA w5) := bel_up' H4.out hb5
          obtain ⟨g5, c5, hv5, hc51, hc52, hrow5⟩ := hel5
          subst hv5
          have HT : Hid (Sl (some ⟨g5, 0, none⟩) (n2 + 1 + 1) (plss D (M i) (M f) mu) w5 ∧ g5 < w5.heap.size ∧ n2 + 1 + 1 ≤ c5 ∧ c5 ≤ 9223372036854775807) := ⟨hrow5.sl (Nat.le_refl _), hrow5.lt, hc51, hc52⟩
          clear hc51 hc52 hrow5 hb5
          refine HK.out _ _ (fun _ => HK5.out _ HBA.out) ?_
          clear HK K
          refine wpAnyX_one (i := 16) (by kernel_rfl) (by rw [List.getElem?_toArray]; rfl) (fun K hK => ?_)
          have HK : Hid _ := hK
          clear hK
          go_simp
          refine HK.out _ _ (fun h => absurd rfl h) ?_
          clear HK K
          refine wpAnyX_done (by kernel_rfl) (NoPanic.normal ?_)
          clear HI HMu HLe HK5 hS5 H3 H4 hca hcf p0 p1 p2 hcr
          have HP : Hid (Calls Try.prog 101 #[.slice (some ⟨g5, 0, none⟩) (n2 + 1 + 1) c5, .int .i64 (a : Nat)] w5 fun e w' => ∃ v, e = .returned v ∧ OwnI w5.heap.size v (zl (n2 + 1) fun j => ((wo a (plss D (M i) (M f) mu) j : Nat) : Int)) w' ∧ Below w5.heap.size w5 w') :=
            without_any (by have := HA.out.2.2.2.2; omega) (by omega) HT.out.2.2.1 HT.out.2.2.2 HT.out.1 HT.out.2.1
          go_wp2_with fail
          refine HP.out.mono ?_
          rintro e wB ⟨v1, rfl, ho1, hb1⟩
          obtain ⟨lst, hov, hels⟩ := HG.out.1.below (HBA.out) (Nat.le_refl _)
          have hll : lst.length ≤ 1000000 := by rw [hels.1, List.length_map]; have := shL_len (D := D) (M := M) (a := a) i; omega
          have hel1 := own_elm ho1
          obtain ⟨g1, cg, ev1, _⟩ := hel1
          have HV : Hid (OwnV wb.heap.size u8 lst wB ∧ Elms lst ((shL D M a i).map fun x => (n2, wo a x)) wB ∧ Elm v1 (n2, wo a (plss D (M i) (M f) mu)) wB ∧ Below wb.heap.size wb wB) := ⟨hov.below hb1 (Nat.le_refl _), hels.below hb1 (Nat.le_refl _), own_elm ho1, bel_up' (bel_up' HG.out.2 HBA.out) hb1⟩
          have hsB := HV.out.2.2.2.size
          subst ev1
          clear hov hels ho1 hb1
          go_wp2_with (at_builtin; refine append_sl rfl _ _ rfl wb.heap.size u8 lst rfl (HV.out.1.below ((Below.refl _ _).alloc (Nat.le_refl _) _) (Nat.le_refl _)) ⟨wB.heap.size, 0, none⟩ 1 (.slice (some ⟨g1, 0, none⟩) (n2 + 1) cg) rfl rfl (by rw [cell_of_row _ _ _ _ _ (0, 0) (two_new _)]; rfl) hll (by simp; omega) ?_; intro v' w6 hown6 hg6)
          have hal : Below wB.heap.size wB (wB.alloc (.cells #[.slice (some ⟨g1, 0, none⟩) (n2 + 1) cg] 23)) := (Below.refl _ _).alloc (Nat.le_refl _) _
          have ho := HV.out.1.below hal (Nat.le_refl _)
          have HR : Hid (LLs wb.heap.size v' ((shL D M a (i + 1)).map fun x => (n2, wo a x)) w6 ∧ Below wb.heap.size wb w6) := by
            refine ⟨⟨_, hown6, ?_⟩, (bel_up' HV.out.2.2.2 hal).grown hg6 (by simp; omega) (fun k hk => ho.open_ge k hk)⟩
            have h := ((HV.out.2.1.below hal (Nat.le_refl _)).snoc (HV.out.2.2.1.below hal (Nat.le_refl _))).grown ho hg6
            rw [shL_some1 HFN.out.1 HY.out, ← HQ.out, List.map_append]; exact h
          clear hown6 hg6 ho hal
          go_roundw
          case rel => exact ⟨i + 1, by omega, by go_num, HO2.out, HR.out⟩
          case measure => simp [intOf]; omega
    · have hib : ¬ (i : Int) < (m : Int) := by omega
      have hie : m = i := by omega
      subst hie
      have hll := HG.out.1
      rw [map_rl] at hll
      obtain ⟨K, hK⟩ : ∃ K, K = (shL D M a m).length := ⟨_, rfl⟩
      have hKm : K ≤ m := by rw [hK]; exact shL_len m
      rw [← hK] at hll
      have HLL : Hid (LLs wb.heap.size u8 (rl K n2 (fun j => wo a ((shL D M a m).getD j pnil))) wA ∧ K = (shL D M a m).length) := ⟨hll, hK⟩
      clear hll hK hone
      obtain ⟨lo, lc, hv⟩ := HLL.out.1.slc
      rw [rl_len] at hv
      subst hv
      go_wp2_with fail
      rw [HSub.out.1]
      have hrows : ∀ i, i < K → El D (wo a ((shL D M a m).getD i pnil)) ∧ Bd (n2 + 1) (wo a ((shL D M a m).getD i pnil)) := fun i hi => by
        have h := (shL_ok HA.out.1 (a := a) HA.out.2.1 m (Nat.le_refl _) ((shL D M a m).getD i pnil) (by have h := HLL.out.2; rw [h] at hi; simp [List.getD_eq_getElem?_getD, hi])).1
        have e : n - 1 = n2 + 1 := by have := HA.out.2.2.2.2.1; omega
        exact ⟨wo_el h.1, by have h2 := wo_bd HA.out.2.2.2.2.2 h.2; rw [e] at h2; exact h2⟩
      refine (made_any HA.out.1 (n1 := n2) (by omega) (by have := HSub.out.2; omega) HSub.out.2 hrows HLL.out.1.matR'.1).mono ?_
      rintro e w2 ⟨k, R, ro, rc, rfl, hl2, hr2, hb2⟩
      have H2 : Hid (LLs wA.heap.size (.slice ro k rc) (rl k n2 R) w2 ∧ ShR D N1 a m M k R ∧ Below w.heap.size w w2 ∧ RB (w.heap.size + 1) w2 ∧ RBt (w.heap.size + 1) w2 ∧ w.heap.size ≤ wA.heap.size) := by
        have hbb := bel_up' HG.out.2 hb2
        refine ⟨hl2, ?_, bel_up' H1.out.1 hbb, H1.out.2.2.1.keep hbb, H1.out.2.2.2.1.keep hbb, by have := HG.out.2.size; have := H1.out.1.size; omega⟩
        rw [HLL.out.2] at hr2
        refine shr_of HA.out.1 (by have := HA.out.2.2.2.2; have := HSub.out.2; omega) (fun i hi => ?_) hr2
        have h := HA.out.2.1 i hi
        rw [show N1 + 1 = n by have := HA.out.2.2.2.2; have := HSub.out.2; omega]
        exact h
      clear hl2 hr2 hb2 hrows p0 p1 p2
      obtain ⟨⟨x0, c0⟩, ⟨x1, c1⟩, ⟨x2, c2⟩, f0, f1, f2⟩ := H2.out.2.2.2.1
      go_wp2
      obtain ⟨w3, hw3⟩ : ∃ w3, w3 = laid w2 (w.heap.size + 1) D.q (N1 : Nat) (.slice ro k rc) := ⟨_, rfl⟩
      have H3 : Hid (CB (w.heap.size + 1) D.q (N1 : Nat) (.slice ro k rc) w3 ∧ LLs w.heap.size (.slice ro k rc) (rl k n2 R) w3 ∧ Below w.heap.size w w3) := by
        rw [hw3]; exact ⟨laid_cb H2.out.2.2.2.1 _ _ _, (H2.out.1.laid H2.out.2.2.2.2.1 _ _ _).mono H2.out.2.2.2.2.2, laid_below H2.out.2.2.1 (by omega) _ _ _⟩
      unfold laid at hw3
      rw [← hw3]
      clear hw3 c0 c1 c2 f0 f1 f2
      obtain ⟨c0, c1, c2⟩ := H3.out.1
      refine bodyPost_ret (v := .agg #[.int .i64 D.q, .int .i64 (N1 : Nat), .slice ro k rc]) (by simp [results, Try.results74, go_sem, c0, c1, c2]) rfl ?_
      exact ⟨_, R, _, _, rfl, H3.out.2.1, H2.out.2.1, H3.out.2.2⟩
end Go.Proofs.Ytbpeahhhkcljeaa
