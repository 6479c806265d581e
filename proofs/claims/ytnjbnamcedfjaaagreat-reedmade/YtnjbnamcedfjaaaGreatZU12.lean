/- Texts of ours, one behind the other: U12 U13 U14 U15 U16 U17 V1 V2 V3 W5 V4 V5. -/
import Derived.Test.YtnjbnamcedfjaaaGreatZU8
import Derived.Test.YtnjbnamcedfjaaaGreatZR9
import Derived.Test.YtnjbnamcedfjaaaGreatZU1
import Derived.Lib.QuietBelow
/- The program's polynomials: the calls that are listed: Div, At. -/
namespace Go.Proofs.YtnjbnamcedfjaaaGreat
open Go.RowKit

/-- The quotient and the rest of two polynomials of n and m coefficients. -/
def FD.quo (D : FD) (a : Nat → Nat) (n : Nat) (b : Nat → Nat) (m : Nat) : Nat → Nat := divQ D b (dgn b m - 1) (D.iv (b (dgn b m - 1))) (n - (dgn b m - 1)) a
def FD.rst (D : FD) (a : Nat → Nat) (n : Nat) (b : Nat → Nat) (m : Nat) : Nat → Nat := divR D b (dgn b m - 1) (D.iv (b (dgn b m - 1))) (n - (dgn b m - 1)) a

set_option maxHeartbeats 4000000 in
set_option maxRecDepth 100000 in
theorem pdiv_any {D : FD} (hD : D ∈ fieldsL) {ao bo : Option Addr} {n m ca cb : Nat} {z y : Nat → Int} {w : World} (ha : Arg ao n ca z w) (hb : Arg bo m cb y w) :
    Calls Tryz.prog 69 #[.int .i64 D.q, .slice ao n ca, .slice bo m cb] w fun e w' => Below w.heap.size w w' ∧
      ((D.chk2 n z m y = 0 ∧ dgn (zc m y) m ≠ 0 ∧ ∃ v u, e = .returned (.tuple #[v, u, .int .i64 0]) ∧ OwnP w.heap.size v (dgn (D.quo (zc n z) n (zc m y) m) (n - (dgn (zc m y) m - 1))) (D.quo (zc n z) n (zc m y) m) w' ∧ OwnP w.heap.size u (dgn (D.rst (zc n z) n (zc m y) m) n) (D.rst (zc n z) n (zc m y) m) w') ∨
       (D.chk2 n z m y = 0 ∧ dgn (zc m y) m = 0 ∧ e = .returned (.tuple #[.slice none 0 0, .slice none 0 0, .int .i64 5])) ∨ (D.chk2 n z m y ≠ 0 ∧ e = .returned (.tuple #[.slice none 0 0, .slice none 0 0, .int .i64 (D.chk2 n z m y)]))) := by
  have HA : Hid (Arg ao n ca z w ∧ Arg bo m cb y w ∧ D ∈ fieldsL) := ⟨ha, hb, hD⟩
  clear ha hb hD
  unfold FD.quo FD.rst
  obtain ⟨m', hm'⟩ : ∃ m', m' = dgn (zc m y) m := ⟨_, rfl⟩
  have hm1 : m' ≤ m := by rw [hm']; exact dgn_le _ _
  rw [← hm']
  have HN0 : Hid (m' = dgn (zc m y) m) := hm'
  clear hm'
  go_enter Tryz.func69, Tryz.ntmps69
  go_wp2_with fail
  refine (over2_any HA.out.2.2 HA.out.1 HA.out.2.1).mono ?_
  rintro e w1 ⟨hb1, hr⟩
  rcases hr with ⟨h0, F, T, f, rfl, hat, hF, hT⟩ | ⟨h0, rfl⟩
  · have HW : Hid (D.chk2 n z m y = 0 ∧ FAt F T D f w1 ∧ Below w.heap.size w w1 ∧ Arg ao n ca z w1 ∧ Arg bo m cb y w1) := ⟨h0, hat, hb1, HA.out.1.below hb1, HA.out.2.1.below hb1⟩
    clear h0 hat hF hT hb1
    have c0 := chk2_zero HW.out.1
    have hn128 := (chk_zero c0.1).1
    have hm128 := (chk_zero c0.2).1
    have HN : Hid (m' = dgn (zc m y) m ∧ D.chk n z = 0 ∧ D.chk m y = 0) := ⟨HN0.out, c0⟩
    clear c0
    go_wp2_with fail
    refine (trims_ok HN.out.2.2 HW.out.2.2.2.2).mono ?_
    rintro e w' ⟨rfl, k1, rfl⟩
    rw [← HN.out.1]
    by_cases hm0 : m' = 0
    · have hz : ((m' : Int) == 0) = true := by rw [hm0]; rfl
      have HZ : Hid (m' = 0) := hm0
      clear hm0
      go_wp2
      go_ret3
      exact ⟨below_drewN2 HW.out.2.2.1 _, Or.inr (Or.inl ⟨HW.out.1, HZ.out, rfl⟩)⟩
    · obtain ⟨l, rfl⟩ : ∃ l, m' = l + 1 := ⟨m' - 1, by omega⟩
      have hF := fld HA.out.2.2
      have HP := fun d => divide_any HA.out.2.2 (HW.out.2.1.drewN d) (ca := ca) (cb := cb) (show n ≤ 1000 by omega) (show l < 1000 by omega) (zc_el hF HN.out.2.1) (zc_el hF HN.out.2.2) (zc_bd _ _) (by rw [HN.out.1]; exact dgn_bd (zc_bd _ _)) (by
        have h := dgn_top (zc m y) m (by rw [← HN.out.1]; omega)
        rw [← HN.out.1] at h; exact h) (zc_sl HN.out.2.1 HW.out.2.2.2.1.sl) ((zc_sl HN.out.2.2 HW.out.2.2.2.2.sl).less hm1) HW.out.2.2.2.1.lt HW.out.2.2.2.2.lt HW.out.2.2.2.1.nil
      clear hF
      go_wp2_with fail
      refine (HP _).mono ?_
      rintro e w2 ⟨vq, vr, rfl, hq, hr, hb2⟩
      have hs := HW.out.2.2.1.size
      have HR : Hid (OwnP w.heap.size vq (dgn (divQ D (zc m y) l (D.iv (zc m y l)) (n - l) (zc n z)) (n - l)) (divQ D (zc m y) l (D.iv (zc m y l)) (n - l) (zc n z)) w2 ∧ OwnP w.heap.size vr (dgn (divR D (zc m y) l (D.iv (zc m y l)) (n - l) (zc n z)) n) (divR D (zc m y) l (D.iv (zc m y l)) (n - l) (zc n z)) w2 ∧ Below w.heap.size w w2) := ⟨hq.mono hs, hr.mono hs, bel_up (below_drewN2 HW.out.2.2.1 _) hb2⟩
      clear hq hr hb2 HP
      go_wp2
      go_ret3
      exact ⟨HR.out.2.2, Or.inl ⟨HW.out.1, by omega, vq, vr, rfl, HR.out.1, HR.out.2.1⟩⟩
  · have HW : Hid (D.chk2 n z m y ≠ 0 ∧ Below w.heap.size w w1) := ⟨h0, hb1⟩
    obtain ⟨e, he⟩ : ∃ e, e = D.chk2 n z m y := ⟨_, rfl⟩
    rw [← he] at h0 ⊢
    have hz : (e != 0) = true := by rw [bne_iff_ne]; exact h0
    have HE : Hid (e = D.chk2 n z m y) := he
    clear h0 hb1 he
    go_wp2
    go_ret3
    exact ⟨HW.out.2, Or.inr (Or.inr ⟨HW.out.1, by rw [← HE.out]; rfl⟩)⟩
end Go.Proofs.YtnjbnamcedfjaaaGreat

/- The program's polynomials: the calls that are listed: At, Roots. -/
namespace Go.Proofs.YtnjbnamcedfjaaaGreat
open Go.RowKit

end Go.Proofs.YtnjbnamcedfjaaaGreat

/- The program's polynomials: the calls that are listed: Roots. -/
namespace Go.Proofs.YtnjbnamcedfjaaaGreat
open Go.RowKit

end Go.Proofs.YtnjbnamcedfjaaaGreat

/- The program's polynomials: with 1 at the end (monic); the calls that are listed: Gcd. -/
namespace Go.Proofs.YtnjbnamcedfjaaaGreat
open Go.RowKit

/-- A polynomial's slice without noughts at the end: where it lies, its coefficients. -/
structure PA (D : FD) (ao : Option Addr) (n cap : Nat) (c : Nat → Nat) (w : World) : Prop where
  sl : Sl ao n c w
  lt : LtB ao w.heap.size
  nil : ao = none → cap = 0
  el : El D c
  trd : Trd n c
theorem PA.below {D : FD} {ao : Option Addr} {n cap : Nat} {c : Nat → Nat} {w w' : World} (h : PA D ao n cap c w) (hb : Below w.heap.size w w') : PA D ao n cap c w' :=
  ⟨h.sl.below hb h.lt, h.lt.mono hb.size, h.nil, h.el, h.trd⟩
theorem PA.drewN {D : FD} {ao : Option Addr} {n cap : Nat} {c : Nat → Nat} {w : World} (h : PA D ao n cap c w) (k : Nat) : PA D ao n cap c (w.drewN k) := ⟨h.sl, h.lt, h.nil, h.el, h.trd⟩
theorem OwnP.pa {D : FD} {base n : Nat} {v : Value} {c : Nat → Nat} {w : World} (h : OwnP base v n c w) (he : El D c) (ht : Trd n c) : ∃ ao cap, v = .slice ao n cap ∧ PA D ao n cap c w := by
  obtain ⟨ao, cap, hv, _, _, _, hl, hz, hs⟩ := h.open
  exact ⟨ao, cap, hv, hs, hl, hz, he, ht⟩

/-- A slice's length. -/
def slLen : Value → Nat
  | .slice _ n _ => n
  | _ => 0

end Go.Proofs.YtnjbnamcedfjaaaGreat

/- How many there are to try (tooMany, Tries). -/
namespace Go.Proofs.YtnjbnamcedfjaaaGreat
open Go.RowKit

end Go.Proofs.YtnjbnamcedfjaaaGreat

/- Does an element stand twice in a list (hasTwice)? -/
namespace Go.Proofs.YtnjbnamcedfjaaaGreat
open Go.RowKit

/-- Some number stands twice among the first n. -/
def Twice (c : Nat → Nat) (n : Nat) : Prop := ∃ i j, i < j ∧ j < n ∧ c i = c j

set_option maxHeartbeats 2000000 in
set_option maxRecDepth 100000 in
theorem hasTwice_any {ao : Option Addr} {n cap : Nat} {c : Nat → Nat} {w : World} (h : Sl ao n c w) (hn : n ≤ 1000) (hl : LtB ao w.heap.size) (hc : ∀ j, c j < 64) :
    Calls Tryz.prog 88 #[.slice ao n cap] w fun e w' => (∃ b, e = .returned (.bool b) ∧ (b = true ↔ Twice c n)) ∧ Below w.heap.size w w' := by
  have HS : Hid (Sl ao n c w ∧ LtB ao w.heap.size ∧ ∀ j, c j < 64) := ⟨h, hl, hc⟩
  clear h hl hc
  go_enter Tryz.func88, Tryz.ntmps88
  go_wp2
  change Code.wp _ _ _ _ (w.alloc (.cells (Array.replicate 64 (.bool false)) 108))
  obtain ⟨w1, hw1⟩ : ∃ w1 : World, w1 = w.alloc (.cells (Array.replicate 64 (.bool false)) 108) := ⟨_, rfl⟩
  have HR1 : Hid (RowF w.heap.size 64 108 (fun _ => .bool false) w1 ∧ Below w.heap.size w w1) := by
    rw [hw1]
    refine ⟨⟨_, two_new _, by simp, fun o ho => by simp [ho]⟩, (Below.refl _ _).alloc (Nat.le_refl _) _⟩
  rw [← hw1]
  clear hw1
  go_loopw [8] (fun i wr => ∃ (r : Nat) (f : Nat → Value), r ≤ n ∧ i = .int .i64 r ∧ RowF w.heap.size 64 108 f wr ∧ (∀ x, x < 64 → f x = .bool (decide (∃ i, i < r ∧ c i = x))) ∧ ¬ Twice c r ∧ Below w.heap.size w wr) (fun i _ => n - (intOf i).toNat)
  case atStart => exact ⟨0, _, by omega, rfl, HR1.out.1, fun x _ => by rw [decide_eq_false (by rintro ⟨i, hi, _⟩; omega)], by rintro ⟨i, j, h1, h2, _⟩; omega, HR1.out.2⟩
  case round =>
    obtain ⟨r, f, hr, rfl, hrow, hf, hnt, hbel⟩ := hrel
    have HG : Hid (RowF w.heap.size 64 108 f wr ∧ (∀ x, x < 64 → f x = .bool (decide (∃ i, i < r ∧ c i = x))) ∧ ¬ Twice c r ∧ Below w.heap.size w wr) := ⟨hrow, hf, hnt, hbel⟩
    clear hrow hf hnt hbel
    by_cases hlt : r < n
    · obtain ⟨b, off, rfl, hcx⟩ := (HS.out.1.below HG.out.2.2.2 HS.out.2.1) r hlt
      obtain ⟨x, hx⟩ : ∃ x, x = c r := ⟨_, rfl⟩
      have hx64 : x < 64 := by rw [hx]; exact HS.out.2.2 r
      rw [← hx] at hcx
      have hfr := HG.out.1.free x
      by_cases hseen : ∃ i, i < r ∧ c i = x
      · have hcs : wr.cell? ⟨w.heap.size, x, none⟩ = some (.bool true) := by rw [HG.out.1.cell x (by omega), HG.out.2.1 x hx64, decide_eq_true hseen]
        have HT : Hid (Twice c n) := by
          obtain ⟨i, hi, e⟩ := hseen
          exact ⟨i, r, hi, hlt, by rw [e, hx]⟩
        clear hseen hx
        go_wp2
        go_ret
        exact ⟨⟨true, rfl, fun _ => HT.out, fun _ => rfl⟩, HG.out.2.2.2⟩
      · have hcs : wr.cell? ⟨w.heap.size, x, none⟩ = some (.bool false) := by rw [HG.out.1.cell x (by omega), HG.out.2.1 x hx64, decide_eq_false hseen]
        have HN : Hid (¬ Twice c (r + 1) ∧ ∀ y, y < 64 → upd f x (.bool true) y = .bool (decide (∃ i, i < r + 1 ∧ c i = y))) := by
          refine ⟨?_, fun y hy => ?_⟩
          · rintro ⟨i, j, h1, h2, e⟩
            by_cases ej : j = r
            · exact hseen ⟨i, by omega, by rw [e, ej, hx]⟩
            · exact HG.out.2.2.1 ⟨i, j, h1, by omega, e⟩
          · by_cases ey : y = x
            · rw [ey, upd_at, decide_eq_true ⟨r, by omega, hx.symm⟩]
            · rw [upd_ne _ _ _ ey, HG.out.2.1 y hy]
              congr 1
              rw [decide_eq_decide]
              constructor
              · rintro ⟨i, hi, e⟩; exact ⟨i, by omega, e⟩
              · rintro ⟨i, hi, e⟩
                by_cases ei : i = r
                · exact absurd (by rw [← e, ei, hx]) ey
                · exact ⟨i, by omega, e⟩
        clear hseen hx
        go_wp2
        go_roundw
        case rel => exact ⟨r + 1, _, by omega, by go_num, HG.out.1.store x _, HN.out.2, HN.out.1, HG.out.2.2.2.setCell (by simp) _⟩
        case measure => simp [intOf]; omega
    · have HT : Hid (¬ Twice c n) := by have h := HG.out.2.2.1; rw [show r = n from by omega] at h; exact h
      go_wp2
      go_ret
      exact ⟨⟨false, rfl, fun e => (by cases e), fun e => absurd e HT.out⟩, HG.out.2.2.2⟩
end Go.Proofs.YtnjbnamcedfjaaaGreat

/- The reference's polynomials: without noughts at the end (Trim); which may be (PolyMay). -/
namespace Go.Proofs.YtnjbnamcedfjaaaGreat
open Go.RowKit

set_option maxHeartbeats 2000000 in
set_option maxRecDepth 100000 in
theorem rtrim_any {ao : Option Addr} {n cap : Nat} {c : Nat → Nat} {w : World} (h : Sl ao n c w) (hn : n ≤ cap) (_hcap : cap ≤ 9223372036854775807) (hnil : ao = none → cap = 0) (hl : LtB ao w.heap.size) (hn6 : n ≤ 1000000) :
    Calls Tryz.prog 52 #[.slice ao n cap] w fun e w' => ∃ v, e = .returned v ∧ OwnP w.heap.size v (dgn c n) c w' ∧ Below w.heap.size w w' := by
  have HS : Hid (Sl ao n c w ∧ (ao = none → cap = 0) ∧ LtB ao w.heap.size) := ⟨h, hnil, hl⟩
  clear h hnil hl
  have hd := dgn_le c n
  go_enter Tryz.func52, Tryz.ntmps52
  go_wp2
  go_loopw [3] (fun i wr => ∃ m : Nat, m ≤ n ∧ i = .int .i64 m ∧ Hid (dgn c n = dgn c m) ∧ ∃ d, wr = w.drewN d) (fun i _ => (intOf i).toNat)
  case atStart => exact ⟨n, Nat.le_refl _, rfl, rfl, 0, rfl⟩
  case round =>
    obtain ⟨m, hm, rfl, HD, d, rfl⟩ := hrel
    have HC : Hid (Calls Tryz.prog 73 #[.slice ao (dgn c n) cap] (w.drewN d) fun e w' => ∃ v, e = .returned v ∧ OwnP w.heap.size v (dgn c n) c w' ∧ Below w.heap.size (w.drewN d) w') :=
      copy_any (w := w.drewN d) (HS.out.1.less hd) (by omega) HS.out.2.1 HS.out.2.2
    cases m with
    | zero =>
      have HE : Hid (dgn c n = 0) := HD.out
      have HC0 : Hid (Calls Tryz.prog 73 #[.slice ao 0 cap] (w.drewN d) fun e w' => ∃ v, e = .returned v ∧ OwnP w.heap.size v (dgn c n) c w' ∧ Below w.heap.size (w.drewN d) w') := by
        have h := HC.out
        rw [HE.out] at h ⊢; exact h
      cases ao with
      | none =>
        go_wp2_with (go_at_call 73; refine HC0.out.mono ?_; rintro e w' ⟨v, rfl, hown, hb⟩)
        go_ret
        exact ⟨v, rfl, hown, below_drewN2 (Below.refl _ _) d |>.trans hb⟩
      | some x =>
        go_wp2_with (go_at_call 73; refine HC0.out.mono ?_; rintro e w' ⟨v, rfl, hown, hb⟩)
        go_ret
        exact ⟨v, rfl, hown, below_drewN2 (Below.refl _ _) d |>.trans hb⟩
    | succ m =>
      obtain ⟨b, off, rfl, hc⟩ := HS.out.1 m (by omega)
      by_cases h0 : c m = 0
      · have HE : Hid (dgn c n = dgn c m) := by show _ = _; rw [HD.out, dgn, if_pos h0]
        have hz : (((c m : Nat) : Int) == 0) = true := by rw [h0]; rfl
        clear h0
        go_wp2
        go_roundw
        case rel => exact ⟨m, by omega, by go_num, HE.out, _, rfl⟩
        case measure => simp [intOf]
      · have HE : Hid (dgn c n = m + 1) := by show _ = _; rw [HD.out, dgn, if_neg h0]
        have hz : (((c m : Nat) : Int) == 0) = false := by rw [beq_eq_false_iff_ne]; omega
        have HC1 : Hid (Calls Tryz.prog 73 #[.slice (some ⟨b, off, none⟩) (m + 1) cap] (w.drewN d) fun e w' => ∃ v, e = .returned v ∧ OwnP w.heap.size v (dgn c n) c w' ∧ Below w.heap.size (w.drewN d) w') := by
          have h := HC.out
          rw [HE.out] at h ⊢; exact h
        clear h0
        go_wp2_with (go_at_call 73; refine HC1.out.mono ?_; rintro e w' ⟨v, rfl, hown, hb⟩)
        go_ret
        exact ⟨v, rfl, hown, below_drewN2 (Below.refl _ _) d |>.trans hb⟩
end Go.Proofs.YtnjbnamcedfjaaaGreat

/- The reference's polynomials: which may be (PolyMay). -/
namespace Go.Proofs.YtnjbnamcedfjaaaGreat
open Go.RowKit

set_option maxHeartbeats 2000000 in
set_option maxRecDepth 100000 in
theorem polyMay_any {D : FD} (hD : D ∈ fieldsL) {ao : Option Addr} {n cap : Nat} {z : Nat → Int} {w : World} (h : SlZ ao n z w) (hl : LtB ao w.heap.size) (hn : n ≤ 1000000) :
    Calls Tryz.prog 21 #[.int .i64 D.q, .slice ao n cap] w fun e w' => e = .returned (.int .i64 (D.chk n z)) ∧ Below w.heap.size w w' := by
  have HS : Hid (SlZ ao n z w ∧ LtB ao w.heap.size ∧ D ∈ fieldsL) := ⟨h, hl, hD⟩
  clear h hl hD
  go_enter Tryz.func21, Tryz.ntmps21
  go_wp2_with fail
  refine (rfield_any HS.out.2.2 w).mono ?_
  rintro e w1 ⟨vm, rfl, hown, _, hb1⟩
  have hm6 := (fld HS.out.2.2).m6
  obtain ⟨gm, cm, fm, hvm, hgm⟩ := hown.row (D.m + 1) modL_len' (by omega)
  subst hvm
  have HA : Hid (Below w.heap.size w w1) := hb1
  have hs1 := hb1.size
  clear hb1 hown hgm
  unfold rf
  obtain ⟨vm, hvm⟩ : ∃ vm, vm = Value.slice (some ⟨gm, 0, none⟩) (D.m + 1) cm := ⟨_, rfl⟩
  have HB0 : Hid (Box w1.heap.size D D.gen (.slice (some ⟨gm, 0, none⟩) (D.m + 1) cm) (w1.alloc (.cells #[.int .i64 D.q, .int .i64 D.p, .int .i64 D.m, .int .i64 D.gen, .slice (some ⟨gm, 0, none⟩) (D.m + 1) cm] 28))) := box_new D D.gen _ w1
  clear hvm
  by_cases h128 : 128 < n
  · have HV : Hid (D.chk n z = 4) := by show D.chk n z = 4; rw [FD.chk, if_pos h128]
    go_wp2
    go_ret
    exact ⟨ret_int (by rw [HV.out]), by first | exact HA.out | exact HA.out.alloc HA.out.size _⟩
  · go_wp2
    go_loopw [7] (fun i wr => ∃ r : Nat, r ≤ n ∧ i = .int .i64 r ∧ Hid (D.allHas z r = true) ∧ Box w1.heap.size D D.gen (.slice (some ⟨gm, 0, none⟩) (D.m + 1) cm) wr ∧ Below w.heap.size w wr ∧ w1.heap.size < wr.heap.size) (fun i _ => n - (intOf i).toNat)
    case atStart => exact ⟨0, by omega, rfl, rfl, HB0.out, HA.out.alloc HA.out.size _, by simp⟩
    case round =>
      obtain ⟨r, hr, rfl, HH, hbox, hbel, hlt1⟩ := hrel
      obtain ⟨c0, c1, c2, c3, c4⟩ := hbox
      have HG : Hid (Box w1.heap.size D D.gen (.slice (some ⟨gm, 0, none⟩) (D.m + 1) cm) wr ∧ Below w.heap.size w wr) := ⟨⟨c0, c1, c2, c3, c4⟩, hbel⟩
      clear hbel
      by_cases hlt : r < n
      · obtain ⟨b, off, rfl, hc⟩ := (HS.out.1.below HG.out.2 HS.out.2.1) r hlt
        obtain ⟨x, hx⟩ : ∃ x, x = z r := ⟨_, rfl⟩
        rw [← hx] at hc
        have z1 : (0 : Int) ≤ (r : Int) := by omega
        have z2 : (r : Int) < (n : Int) := by omega
        have HX : Hid (x = z r) := hx
        clear hx
        obtain ⟨hb0, hhb⟩ : ∃ hb0, hb0 = D.has x := ⟨_, rfl⟩
        have HC : Hid (∀ w3 : World, Calls Tryz.prog 30 #[.agg #[.int .i64 D.q, .int .i64 D.p, .int .i64 D.m, .int .i64 D.gen, .slice (some ⟨gm, 0, none⟩) (D.m + 1) cm], .int .i64 x] w3 fun e w' => e = .returned (.bool hb0) ∧ Below w3.heap.size w3 w') := by
          intro w3; rw [hhb]; exact rhas_any D D.gen _ x w3
        have HHB : Hid (hb0 = D.has x) := hhb
        clear hhb
        have HK : Hid (∀ w3 : World, Below wr.heap.size wr w3 → w3.cell? ⟨w1.heap.size, 0, none⟩ = some (.int .i64 (D.q : Nat)) ∧ w3.cell? ⟨w1.heap.size, 1, none⟩ = some (.int .i64 (D.p : Nat)) ∧ w3.cell? ⟨w1.heap.size, 2, none⟩ = some (.int .i64 (D.m : Nat)) ∧ w3.cell? ⟨w1.heap.size, 3, none⟩ = some (.int .i64 (D.gen : Nat)) ∧ w3.cell? ⟨w1.heap.size, 4, none⟩ = some (.slice (some ⟨gm, 0, none⟩) (D.m + 1) cm) ∧ w3.cell? ⟨b, off + r, none⟩ = some (.int .i64 x)) := by
          intro w3 h3
          have hB := HG.out.1.below (B := wr.heap.size) h3 hlt1
          refine ⟨hB.c0, hB.c1, hB.c2, hB.c3, hB.c4, ?_⟩
          rw [(bcell h3).1 b (off + r) (Nat.lt_of_lt_of_le (HS.out.2.1 _ rfl) HG.out.2.size)]
          exact hc
        have hbc : Below wr.heap.size wr wr := Below.refl _ _
        go_wp2_with fail
        go_region_held3 (fun w' => w'.cell? ⟨w1.heap.size, 0, none⟩ = some (.int .i64 (D.q : Nat)) ∧ w'.cell? ⟨w1.heap.size, 1, none⟩ = some (.int .i64 (D.p : Nat)) ∧ w'.cell? ⟨w1.heap.size, 2, none⟩ = some (.int .i64 (D.m : Nat)) ∧ w'.cell? ⟨w1.heap.size, 3, none⟩ = some (.int .i64 (D.gen : Nat)) ∧ w'.cell? ⟨w1.heap.size, 4, none⟩ = some (.slice (some ⟨gm, 0, none⟩) (D.m + 1) cm) ∧ w'.cell? ⟨b, off + r, none⟩ = some (.int .i64 x))
          (first | go_keep | exact HK.out _ (by first | exact hbc | exact hbc.drew))
          (first | (go_at_call 30; refine (HC.out _).mono ?_; rintro e w' ⟨rfl, hb'⟩; replace hbc := bel_up' (by first | exact hbc | exact hbc.drew) hb'; clear hb'))
        have HR : Hid (Box w1.heap.size D D.gen (.slice (some ⟨gm, 0, none⟩) (D.m + 1) cm) w' ∧ Below w.heap.size w w' ∧ w1.heap.size < w'.heap.size) := ⟨HG.out.1.below hbc hlt1, bel_up' HG.out.2 hbc, by have := hbc.size; omega⟩
        clear c0 c1 c2 c3 c4 HC hc hbc HK
        cases hb0 with
        | true =>
          have HH2 : Hid (D.allHas z (r + 1) = true) := by show D.allHas z (r + 1) = true; rw [FD.allHas, HH.out, ← HX.out, ← HHB.out]; rfl
          go_wp2
          go_roundw
          case rel => exact ⟨r + 1, by omega, by go_num, HH2.out, HR.out⟩
          case measure => simp [intOf]; omega
        | false =>
          have HV : Hid (D.chk n z = 2) := by
            show D.chk n z = 2
            rw [FD.chk, if_neg h128, if_neg]
            intro e
            have h := allHas_iff.1 e r hlt
            rw [← HX.out, ← HHB.out] at h
            cases h
          go_wp2
          go_ret
          exact ⟨ret_int (by rw [HV.out]), HR.out.2.1⟩
      · have HV : Hid (D.chk n z = 0) := by
          show D.chk n z = 0
          have e : r = n := by omega
          rw [FD.chk, if_neg h128, if_pos (e ▸ HH.out)]
        go_wp2
        go_ret
        exact ⟨ret_int (by rw [HV.out]), HG.out.2⟩
end Go.Proofs.YtnjbnamcedfjaaaGreat

/- The reference's polynomials: sums (PAdd). -/
namespace Go.Proofs.YtnjbnamcedfjaaaGreat
open Go.RowKit

end Go.Proofs.YtnjbnamcedfjaaaGreat

/- The same where the calls lay blocks: the worlds in which nothing that was there has turned. No Go text here. -/
namespace Go.Proofs.YtnjbnamcedfjaaaGreat
open Go Go.Sort Go.RowKit

theorem quiet_tail_of {P : Program} {C : World → Prop} {id : Nat} {Q : Exit → Act → World → Prop} {a : Act} {w : World} {l : List Oper} (n : Nat) (hm : P.follows .mixedOrders = true) (hB : Region.lexTailB .any l.toArray n = true) (hC : C { w with drawn := w.drawn + 1 })
    (h : wpQuiet P l.toArray C (fun a' => ∀ w', C w' → wpList P l.toArray Q (l.drop n) a' w') (l.take n) a) : (Code.region id l.toArray true).wp P Q a w := by
  simp only [Region.lexTailB, Bool.and_eq_true, decide_eq_true_eq] at hB
  obtain ⟨⟨⟨⟨hsel, hn⟩, hs⟩, hc⟩, hlex⟩ := hB
  have hn' : n < l.length := by simpa using hn
  have htl : (l.take n).length = n := by simp; omega
  have hdl : (l.drop n).length = l.toArray.size - n := by simp
  have inv0 : HeadInv .any l.toArray n (Array.replicate l.toArray.size false) :=
    ⟨by simp, fun j oj _ hl => (by rw [getD_replicate_false] at hl; cases hl), fun t _ ht => getD_in (by simpa using ht) (getD_replicate_false _ _)⟩
  have H := head_lex (g := l.toArray.size - n) hsel hs hc hn (l.take n) 0 _ a (fun j hj => by
    have hj' : j < n := by rw [htl] at hj; exact hj
    simp [hj']) (by simpa using htl) inv0 (by rw [htl]; exact hlex) h
  refine wp_region_any hm ?_
  have R := head_any (Q := Q) (g := l.toArray.size - n) (fun s a' w' hw' hL => by
    have := wpAny_of_seq (md := .any) (Q' := Q) (l.drop n) n s a' w' (fun j => by simp [List.getElem?_drop]) (by rw [hdl]; exact hL.1) (hL.2 w' hw')
    rwa [hdl] at this) _ _ _ _ hC H
  rw [htl, show n + (l.toArray.size - n) = l.toArray.size by omega] at R
  exact R
theorem below_tail {P : Program} {id : Nat} {Q : Exit → Act → World → Prop} {a : Act} {w : World} {l : List Oper} (n : Nat) (hm : P.follows .mixedOrders = true) (hB : Region.lexTailB .any l.toArray n = true)
    (h : wpQuiet P l.toArray (fun w' => ∃ p : Regrown, w' = grow (redrawn w p.d) p.os) (fun a' => ∀ w', (∃ p : Regrown, w' = grow (redrawn w p.d) p.os) → wpList P l.toArray Q (l.drop n) a' w') (l.take n) a) : (Code.region id l.toArray true).wp P Q a w :=
  quiet_tail_of (C := fun w' => ∃ p : Regrown, w' = grow (redrawn w p.d) p.os) n hm hB ⟨⟨w.drawn + 1, #[]⟩, by rw [grow_empty]; rfl⟩ h
theorem free_regrown {w : World} {a : Addr} (ha : a.block < w.heap.size) (h : w.frozen? a = false) (d : Nat) (os : Array Obj) : (grow (redrawn w d) os).frozen? a = false := by
  rw [World.frozen?_of_block (w := w) ((below_regrown w d os).block _ ha)]; exact h
end Go.Proofs.YtnjbnamcedfjaaaGreat

/- The reference's polynomials: products (PMul). -/
namespace Go.Proofs.YtnjbnamcedfjaaaGreat
open Go.RowKit Go.Sort

end Go.Proofs.YtnjbnamcedfjaaaGreat

/- The reference's polynomials: values of a polynomial that came in (value, PAt). -/
namespace Go.Proofs.YtnjbnamcedfjaaaGreat
open Go.RowKit

set_option maxHeartbeats 4000000 in
theorem rvalueS_any {D : FD} (hD : D ∈ fieldsL) (gen : Nat) {v : Value} {ao : Option Addr} {cap n x : Nat} {c : Nat → Nat} {w : World} (hx : x < D.q) (hn : n ≤ 1000) (hc : ∀ j, c j < D.q) (hgl : LtB ao w.heap.size) (hN : Sl ao n c w) (hM : ModAt D v D.md w) :
    Calls Tryz.prog 26 #[rf D.q D.p D.m gen v, .slice ao n cap, .int .i64 x] w fun e w' => e = .returned (.int .i64 (D.val c n x n : Nat)) ∧ Below w.heap.size w w' := by
  have HM : Hid (ModAt D v D.md w ∧ D ∈ fieldsL ∧ Sl ao n c w ∧ ∀ j, c j < D.q) := ⟨hM, hD, hN, hc⟩
  clear hM hD hN hc
  have HB0 : Hid (Box w.heap.size D gen v (w.alloc (.cells #[.int .i64 D.q, .int .i64 D.p, .int .i64 D.m, .int .i64 gen, v] 28))) := box_new D gen v w
  unfold rf
  go_enter Tryz.func26, Tryz.ntmps26
  go_wp2
  go_loopw [7, 8] (fun s i wr => ∃ r : Nat, r ≤ n ∧ i = .int .i64 ((r : Int) - 1) ∧ s = .int .i64 (D.val c n x (n - r) : Nat) ∧ Box w.heap.size D gen v wr ∧ Below w.heap.size w wr ∧ w.heap.size < wr.heap.size) (fun _ i _ => (intOf i + 1).toNat)
  case atStart => exact ⟨n, by omega, rfl, by rw [Nat.sub_self]; rfl, HB0.out, (Below.refl _ _).alloc (Nat.le_refl _) _, by simp⟩
  case round =>
    obtain ⟨r, hr, hi, rfl, hbox, hbel, hlt⟩ := hrel
    obtain ⟨c0, c1, c2, c3, c4⟩ := hbox
    have HG : Hid (Box w.heap.size D gen v wr ∧ Below w.heap.size w wr) := ⟨⟨c0, c1, c2, c3, c4⟩, hbel⟩
    clear hbel
    cases r with
    | succ s =>
      have hi' : u8 = .int .i64 (s : Int) := by rw [hi]; go_num
      clear hi
      subst hi'
      obtain ⟨y, hy⟩ : ∃ y, y = D.val c n x (n - (s + 1)) := ⟨_, rfl⟩
      have hyq : y < D.q := by rw [hy]; exact val_lt HM.out.2.1 c n x HM.out.2.2.2 _
      have HY : Hid (D.val c n x (n - s) = sumD D.p D.q (D.mul y x) (c s)) := by
        show _ = _
        rw [hy, show n - s = (n - (s + 1)) + 1 from by omega, FD.val, show n - 1 - (n - (s + 1)) = s from by omega]
      rw [← hy]
      clear hy
      have HC : Hid (Calls Tryz.prog 25 #[.agg #[.int .i64 D.q, .int .i64 D.p, .int .i64 D.m, .int .i64 gen, v], .int .i64 y, .int .i64 x] wr fun e w' => e = .returned (.int .i64 (D.mul y x : Nat)) ∧ Below wr.heap.size wr w') :=
        rmul_nat HM.out.2.1 gen HM.out.1 y x hyq hx wr HG.out.2
      go_wp2_with fail
      refine HC.out.mono ?_
      rintro e w2 ⟨rfl, hb2⟩
      have HR2 : Hid (Box w.heap.size D gen v w2 ∧ Below w.heap.size w w2) := ⟨HG.out.1.below hb2 hlt, HG.out.2.trans (hb2.mono (by omega))⟩
      have hlt2 : w.heap.size < w2.heap.size := by have := hb2.size; omega
      clear hb2 c0 c1 c2 c3 c4 HC
      obtain ⟨c0, c1, c2, c3, c4⟩ := HR2.out.1
      obtain ⟨bl, off, rfl, hc0⟩ := HM.out.2.2.1 s (by omega)
      have HK : Hid (∀ w3 : World, Below w.heap.size w w3 → w3.cell? ⟨bl, off + s, none⟩ = some (.int .i64 (c s : Nat))) := fun w3 h3 => ((bcell h3).1 bl (off + s) (hgl _ rfl)).trans hc0
      have hcl : w2.cell? ⟨bl, off + s, none⟩ = some (.int .i64 (c s : Nat)) := HK.out _ HR2.out.2
      clear hc0
      have z1 : (0 : Int) ≤ (s : Int) := by omega
      have z2 : (s : Int) < (n : Int) := by omega
      have HC2 : Hid (∀ w3 : World, Calls Tryz.prog 41 #[.agg #[.int .i64 D.q, .int .i64 D.p, .int .i64 D.m, .int .i64 gen, v], .int .i64 (D.mul y x : Nat), .int .i64 (c s : Nat)] w3 fun e w' => e = .returned (.int .i64 (sumD D.p D.q (D.mul y x) (c s) : Nat)) ∧ Below w3.heap.size w3 w') :=
        fun w3 => radd_nat HM.out.2.1 gen v _ _ ((fld HM.out.2.1).mul_lt _ _) (HM.out.2.2.2 s) w3
      have hbc : Below w2.heap.size w2 w2 := Below.refl _ _
      go_wp2_with fail
      go_region_held3 (fun w' => w'.cell? ⟨w.heap.size, 0, none⟩ = some (.int .i64 (D.q : Nat)) ∧ w'.cell? ⟨w.heap.size, 1, none⟩ = some (.int .i64 (D.p : Nat)) ∧ w'.cell? ⟨w.heap.size, 2, none⟩ = some (.int .i64 (D.m : Nat)) ∧ w'.cell? ⟨w.heap.size, 3, none⟩ = some (.int .i64 (gen : Nat)) ∧ w'.cell? ⟨w.heap.size, 4, none⟩ = some v ∧ w'.cell? ⟨bl, off + s, none⟩ = some (.int .i64 (c s : Nat)))
        (first | go_keep | exact ⟨(HR2.out.1.below (B := w2.heap.size) hbc hlt2).c0, (HR2.out.1.below (B := w2.heap.size) hbc hlt2).c1, (HR2.out.1.below (B := w2.heap.size) hbc hlt2).c2, (HR2.out.1.below (B := w2.heap.size) hbc hlt2).c3, (HR2.out.1.below (B := w2.heap.size) hbc hlt2).c4, HK.out _ (bel_up' HR2.out.2 hbc)⟩)
        (first | (go_at_call 41; refine (HC2.out _).mono ?_; rintro e w' ⟨rfl, hb'⟩; replace hbc := bel_up' (by first | exact hbc | exact hbc.drew) hb'; clear hb'))
      have HR3 : Hid (Box w.heap.size D gen v w' ∧ Below w.heap.size w w' ∧ w.heap.size < w'.heap.size) := ⟨HR2.out.1.below hbc hlt2, bel_up' HR2.out.2 hbc, by have := hbc.size; omega⟩
      clear c0 c1 c2 c3 c4 HC2 hcl hbc
      go_wp2
      go_roundw
      case rel => exact ⟨s, by omega, by go_num, by rw [HY.out], HR3.out⟩
      case measure => simp [intOf]
    | zero =>
      have hi' : u8 = .int .i64 (-1) := by rw [hi]; rfl
      clear hi
      subst hi'
      go_wp2
      go_ret
      exact ⟨rfl, HG.out.2⟩

set_option maxHeartbeats 1000000 in
theorem rpat_any {D : FD} (hD : D ∈ fieldsL) (gen gm cm : Nat) {ao : Option Addr} {cap n x : Nat} {c : Nat → Nat} {w : World} (hx : x < D.q) (hn : n ≤ 1000) (hc : El D c) (hgl : LtB ao w.heap.size) (hN : Sl ao n c w) (hM : ModAt D (.slice (some ⟨gm, 0, none⟩) (D.m + 1) cm) D.md w) :
    Calls Tryz.prog 16 #[rf D.q D.p D.m gen (.slice (some ⟨gm, 0, none⟩) (D.m + 1) cm), .slice ao n cap, .int .i64 x] w fun e w' => e = .returned (.int .i64 (D.val c n x n : Nat)) ∧ Below w.heap.size w w' := by
  have hbl : Below w.heap.size w (w.alloc (.cells #[.int .i64 D.q, .int .i64 D.p, .int .i64 D.m, .int .i64 gen, .slice (some ⟨gm, 0, none⟩) (D.m + 1) cm] 28)) := (Below.refl _ _).alloc (Nat.le_refl _) _
  have HV : Hid (Calls Tryz.prog 26 #[rf D.q D.p D.m gen (.slice (some ⟨gm, 0, none⟩) (D.m + 1) cm), .slice ao n cap, .int .i64 x] (w.alloc (.cells #[.int .i64 D.q, .int .i64 D.p, .int .i64 D.m, .int .i64 gen, .slice (some ⟨gm, 0, none⟩) (D.m + 1) cm] 28)) fun e w' => e = .returned (.int .i64 (D.val c n x n : Nat)) ∧ Below w.heap.size w w') :=
    (rvalueS_any hD gen (cap := cap) hx hn hc (hgl.mono hbl.size) (hN.below hbl hgl) (hM.below hbl)).mono fun e w' ⟨h1, h2⟩ => ⟨h1, bel_up' hbl h2⟩
  clear hbl hN hM hc hgl hD
  unfold rf at *
  go_enter Tryz.func16, Tryz.ntmps16
  go_wp2_with fail
  refine HV.out.mono ?_
  rintro e w' ⟨rfl, hb⟩
  have HB : Hid (Below w.heap.size w w') := hb
  clear hb
  go_wp2
  go_ret
  exact ⟨rfl, HB.out⟩
end Go.Proofs.YtnjbnamcedfjaaaGreat
