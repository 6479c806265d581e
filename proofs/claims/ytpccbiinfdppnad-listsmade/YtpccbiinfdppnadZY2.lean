/- Texts of ours, one behind the other: Y2 Y3 S9 Y4 W10. -/
import Derived.Test.YtpccbiinfdppnadZH4
import Derived.Test.YtpccbiinfdppnadZX18
import Derived.Maps.AppendAt
import Derived.Deep.AppendLies
import Derived.Test.YtpccbiinfdppnadZS2
/- The program's rules (reed): the shortest one (shortest, Massey). -/
namespace Go.Proofs.Ytpccbiinfdppnad
open Go.RowKit Go.Sort

theorem own_single {base g : Nat} {x : Int} {w : World} (h : w.heap[g]? = some (.cells #[.int .i64 x] 3 (0, 0))) (hb : base ≤ g) : OwnI base (.slice (some ⟨g, 0, none⟩) 1 1) [x] w :=
  ⟨rfl, Or.inr ⟨g, 1, #[.int .i64 x], rfl, hb, h, Nat.le_refl _, by unfold maxLen; omega, rfl, rfl⟩⟩
theorem zl_psh {lo : Nat} {O : Nat → Nat} : ([0] : List Int) ++ zl lo (fun j => ((O j : Nat) : Int)) = zl (lo + 1) (fun j => ((psh 1 O j : Nat) : Int)) := by
  apply List.ext_getElem?
  intro k
  by_cases hk : k < lo + 1
  · rw [zl_get _ _ k hk]
    cases k with
    | zero => simp [psh]
    | succ k =>
      rw [List.getElem?_append_right (by simp), List.length_singleton, Nat.add_sub_cancel, zl_get _ _ k (by omega)]
      simp [psh]
  · rw [List.getElem?_eq_none (by rw [List.length_append, zl_len]; simp; omega), List.getElem?_eq_none (by rw [zl_len]; omega)]
theorem OwnI.argN {base : Nat} {v : Value} {n : Nat} {c : Nat → Nat} {w : World} (h : OwnI base v (zl n fun j => ((c j : Nat) : Int)) w) (hn : n ≤ 1000000) : ∃ so sc, v = .slice so n sc ∧ Arg so n sc (fun j => ((c j : Nat) : Int)) w := by
  obtain ⟨so, sc, e, ha⟩ := h.argL
  exact ⟨so, sc, e, ha.arg hn⟩
theorem row_arg {g n : Nat} {c : Nat → Nat} {w : World} (h : Row g n c w) (hn : n ≤ 1000000) : Arg (some ⟨g, 0, none⟩) n n (fun j => ((c j : Nat) : Int)) w :=
  ⟨h.sl (Nat.le_refl _), fun x hx => (by cases hx; exact h.lt), hn, fun e => (by cases e), Nat.le_refl _, by omega⟩
theorem one_arg {w : World} {g : Nat} (h : w.heap[g]? = some (.cells #[.int .i64 1] 3 (0, 0))) : Arg (some ⟨g, 0, none⟩) 1 1 (fun j => ((pone j : Nat) : Int)) w := by
  have h1 := own_single (base := 0) h (Nat.zero_le _)
  have e : ([1] : List Int) = zl 1 (fun j => ((pone j : Nat) : Int)) := rfl
  rw [e] at h1
  obtain ⟨so, sc, e2, ha⟩ := h1.argN (by omega)
  cases e2
  exact ha

theorem Arg.drewN {ao : Option Addr} {n cap : Nat} {z : Nat → Int} {w : World} (h : Arg ao n cap z w) (k : Nat) : Arg ao n cap z (w.drewN k) := ⟨h.sl, h.lt, h.few, h.nil, h.le, h.cap⟩

set_option maxHeartbeats 8000000 in
set_option maxRecDepth 100000 in
theorem shortest_any {F T : Nat} {D : FD} (hD : D ∈ fieldsL) {g : Nat → Value} {w : World} (hat : FAt F T D g w) {so : Option Addr} {n sc : Nat} {s : Nat → Nat} (hs : El D s) (hS : Sl so n s w) (hn : n ≤ 128) (hsc : n ≤ sc) (hsc2 : sc ≤ 9223372036854775807) (hlS : LtB so w.heap.size) :
    Calls Try.prog 32 #[.pointer (some ⟨F, 0, none⟩), .slice so n sc] w fun e w' => Below w.heap.size w w' ∧ ∃ ro rc C lc L O lo b, e = .returned (.tuple #[.slice ro (dgn C lc) rc, .int .i64 (L : Nat)]) ∧ BMS D s n C lc L O lo b ∧ Arg ro lc rc (fun j => ((C j : Nat) : Int)) w' := by
  have HF : Hid (D ∈ fieldsL ∧ FAt F T D g w ∧ El D s ∧ Sl so n s w ∧ LtB so w.heap.size) := ⟨hD, hat, hs, hS, hlS⟩
  clear hD hat hs hS hlS
  go_enter Try.func32, Try.ntmps32
  go_wp2
  obtain ⟨w1, hw1⟩ : ∃ w1, w1 = w.alloc (.cells #[.int .i64 1] 3) := ⟨_, rfl⟩
  obtain ⟨w2, hw2⟩ : ∃ w2, w2 = w1.alloc (.cells #[.int .i64 1] 3) := ⟨_, rfl⟩
  have hs1 : w1.heap.size = w.heap.size + 1 := by rw [hw1]; simp
  have HB0 : Hid (Below w.heap.size w w2 ∧ Arg (some ⟨w.heap.size, 0, none⟩) 1 1 (fun j => ((pone j : Nat) : Int)) w2 ∧ Arg (some ⟨w1.heap.size, 0, none⟩) 1 1 (fun j => ((pone j : Nat) : Int)) w2) := by
    have b1 : Below w.heap.size w w1 := by rw [hw1]; exact (Below.refl _ _).alloc (Nat.le_refl _) _
    have b2 : Below w1.heap.size w1 w2 := by rw [hw2]; exact (Below.refl _ _).alloc (Nat.le_refl _) _
    refine ⟨bel_up' b1 b2, (one_arg (w := w1) ?_).below b2, one_arg ?_⟩
    · rw [hw1]; exact two_new _
    · rw [hw2]; exact two_new _
  rw [← hw1, ← hw2]
  rw [hs1] at HB0
  clear hw1 hw2 hs1
  go_loopw [4, 5, 6, 7, 15] (fun vr vl vo vb vi wr => ∃ (i lc L lo b : Nat) (ro oo : Option Addr) (rc oc : Nat) (C O : Nat → Nat), i ≤ n ∧ vr = .slice ro lc rc ∧ vl = .int .i64 (L : Nat) ∧ vo = .slice oo lo oc ∧ vb = .int .i64 (b : Nat) ∧ vi = .int .i64 i ∧ Hid (BMS D s i C lc L O lo b ∧ Arg ro lc rc (fun j => ((C j : Nat) : Int)) wr ∧ Arg oo lo oc (fun j => ((O j : Nat) : Int)) wr ∧ Below w.heap.size w wr)) (fun _ _ _ _ vi _ => n - (intOf vi).toNat)
  case atStart => exact ⟨0, 1, 0, 1, 1, _, _, 1, 1, pone, pone, by omega, rfl, rfl, rfl, rfl, rfl, bms_start (fld HF.out.1) s, HB0.out.2.1, HB0.out.2.2, HB0.out.1⟩
  case round =>
    obtain ⟨i, lc, L, lo, b, ro, oo, rc, oc, C, O, hi, rfl, rfl, rfl, rfl, rfl, HG⟩ := hrel
    rename World => wr
    clear HB0
    have hLi : L ≤ i := HG.out.1.le
    have hlc : lc ≤ i + 1 := by have := HG.out.1.lcL; omega
    have hlo : lo ≤ i + 1 := by have := HG.out.1.loL; omega
    by_cases hlt : i < n
    · have hib : (i : Int) < (n : Int) := by omega
      have hw1 : IntKind.i64.wrap ((i : Int) + 1) = ((i + 1 : Nat) : Int) := wrap_to (by omega) (by omega)
      have hcp : ((i + 1 : Nat) : Int) ≤ (sc : Int) := by omega
      have hcp2 : (i : Int) + 1 ≤ (sc : Int) := by omega
      go_wp2_with (at_builtin; refine append_ints rfl _ _ rfl wr.heap.size _ [0] rfl (own_single (two_new _) (Nat.le_refl _)) oo lo oc (fun j => ((O j : Nat) : Int)) rfl (HG.out.2.2.1.sl.below ((Below.refl _ _).alloc (Nat.le_refl _) _) HG.out.2.2.1.lt) HG.out.2.2.1.nil (by simp; omega) (by simp) ?_; intro v' w' hown hgrow)
      have hb1 : Below wr.heap.size wr w' := ((Below.refl _ _).alloc (Nat.le_refl _) _).trans (below_grown hgrow (by simp) (fun k hk => by cases hk; exact Nat.le_refl _))
      rw [zl_psh] at hown
      obtain ⟨no, nc, rfl, hno⟩ := hown.argN (by omega)
      obtain ⟨x, hx⟩ : ∃ x, x = pmul D lc C s i := ⟨_, rfl⟩
      have hb1' : Below w.heap.size w w' := HG.out.2.2.2.trans (hb1.mono HG.out.2.2.2.size)
      have hat' := HF.out.2.1.below hb1' HF.out.2.1.ltF HF.out.2.1.ltT
      have hro := HG.out.2.1.below hb1
      have hSl : Sl so (i + 1) s w' := (HF.out.2.2.2.1.below hb1' HF.out.2.2.2.2).less (by omega)
      have HC1 : Hid (Calls Try.prog 67 #[.pointer (some ⟨F, 0, none⟩), .slice ro lc rc, .slice so (i + 1) sc] w' fun e w2 => e = .returned (.int .i64 (x : Nat)) ∧ ∃ k, w2 = w'.drewN k) := by
        rw [hx]
        exact missed_any HF.out.1 hat' HG.out.1.rul.el HF.out.2.2.1 (show Sl ro lc C w' from hro.sl) hSl hlc (by omega)
      have HN : Hid (Below wr.heap.size wr w' ∧ Below w.heap.size w w' ∧ Arg no (lo + 1) nc (fun j => ((psh 1 O j : Nat) : Int)) w' ∧ FAt F T D g w' ∧ Arg ro lc rc (fun j => ((C j : Nat) : Int)) w' ∧ x = pmul D lc C s i) := ⟨hb1, hb1', hno, hat', hro, hx⟩
      clear hb1 hb1' hno hat' hro hSl hown hgrow hx
      go_wp2_with fail
      refine HC1.out.mono ?_
      rintro e w2 ⟨rfl, k1, rfl⟩
      by_cases h0 : x = 0
      · have hz : (((x : Nat) : Int) == 0) = true := by rw [h0]; rfl
        have HE : Hid (x = 0) := h0
        clear h0
        go_wp2
        go_roundw
        case rel => exact ⟨i + 1, lc, L, lo + 1, b, ro, no, rc, nc, C, psh 1 O, by omega, rfl, rfl, rfl, rfl, by go_num, bms_skip (fld HF.out.1) HG.out.1 (by rw [← HN.out.2.2.2.2.2]; exact HE.out), (HN.out.2.2.2.2.1).drewN k1, (HN.out.2.2.1).drewN k1, below_drewN2 HN.out.2.1 k1⟩
        case measure => simp [intOf]; omega
      · have hz : (((x : Nat) : Int) == 0) = false := by rw [beq_eq_false_iff_ne]; omega
        have HE : Hid (x ≠ 0) := h0
        clear h0
        obtain ⟨bi, hbi⟩ : ∃ bi, bi = D.iv b := ⟨_, rfl⟩
        obtain ⟨y, hy⟩ : ∃ y, y = D.mul x bi := ⟨_, rfl⟩
        obtain ⟨lb, hlb⟩ : ∃ lb, lb = max lc (lo + 1) := ⟨_, rfl⟩
        obtain ⟨C2, hC2⟩ : ∃ C2, C2 = psub D C (pscale D y (psh 1 O)) := ⟨_, rfl⟩
        have F' := fld HF.out.1
        have hxq : x < D.q := by rw [HN.out.2.2.2.2.2]; exact el_mul F' _ _ _ _
        have hyq : y < D.q := by rw [hy]; exact F'.mul_lt _ _
        have HC2 : Hid (∀ d, Calls Try.prog 70 #[.pointer (some ⟨F, 0, none⟩), .int .i64 (b : Nat)] (w'.drewN d) fun e w2 => e = .returned (.int .i64 (bi : Nat)) ∧ ∃ k, w2 = w'.drewN k) := fun d => by
          rw [hbi]
          refine (inv_nat' HF.out.1 (HN.out.2.2.2.1.drewN d) HG.out.1.bq HG.out.1.b0).mono ?_
          rintro e w' ⟨rfl, k, rfl⟩
          exact ⟨rfl, d + k, by rw [World.drewN_drewN]⟩
        have HC3 : Hid (∀ d, Calls Try.prog 69 #[.pointer (some ⟨F, 0, none⟩), .int .i64 (x : Nat), .int .i64 (bi : Nat)] (w'.drewN d) fun e w2 => e = .returned (.int .i64 (y : Nat)) ∧ ∃ k, w2 = w'.drewN k) := fun d => by
          rw [hy]
          refine (mul_nat HF.out.1 (HN.out.2.2.2.1.drewN d) hxq (by rw [hbi]; exact iv_lt HF.out.1 _)).mono ?_
          rintro e w' ⟨rfl, k, rfl⟩
          exact ⟨rfl, d + k, by rw [World.drewN_drewN]⟩
        have HC4 : Hid (∀ d, Calls Try.prog 68 #[.pointer (some ⟨F, 0, none⟩), .slice ro lc rc, .int .i64 (y : Nat), .slice no (lo + 1) nc] (w'.drewN d) fun e w2 => ∃ bo, e = .returned (.slice bo lb lb) ∧ Hid (Arg bo lb lb (fun j => ((C2 j : Nat) : Int)) w2 ∧ Below w'.heap.size w' w2)) := fun d => by
          refine (eless_any HF.out.1 (HN.out.2.2.2.1.drewN d) (by omega) (by omega) HG.out.1.rul.el (el_sh F' 1 HG.out.1.elo) HG.out.1.bdc (sh_bd HG.out.1.bdo) (show Sl ro lc C (w'.drewN d) from HN.out.2.2.2.2.1.sl) (show Sl no (lo + 1) (psh 1 O) (w'.drewN d) from HN.out.2.2.1.sl) HN.out.2.2.2.2.1.lt HN.out.2.2.1.lt hyq).mono ?_
          rintro e w' ⟨rfl, hrow, hb⟩
          rw [← hlb] at hrow ⊢
          rw [← hC2] at hrow
          exact ⟨_, rfl, row_arg hrow (by omega), ⟨hb.os, hb.tape, hb.output, hb.size, hb.block⟩⟩
        have HS := bms_step HF.out.1 HF.out.2.2.1 HG.out.1 HN.out.2.2.2.2.2 HE.out hlb
        rw [← hbi, ← hy, ← hC2] at HS
        have HS : Hid _ := HS
        have hlb2 : lb ≤ 130 := by omega
        clear hbi hy hlb hC2 F' hxq hyq
        go_wp2_with fail
        refine (HC2.out _).mono ?_
        rintro e w2 ⟨rfl, k2, rfl⟩
        go_wp2_with fail
        refine (HC3.out _).mono ?_
        rintro e w2 ⟨rfl, k3, rfl⟩
        go_wp2_with fail
        refine (HC4.out _).mono ?_
        rintro e w3 ⟨bo, rfl, HL⟩
        by_cases h2 : 2 * L ≤ i
        · have hw2 : (2 * (L : Int) ≤ (i : Int)) := by omega
          have hw3 : IntKind.i64.wrap (2 * (L : Int)) = ((2 * L : Nat) : Int) := wrap_to (by omega) (by omega)
          obtain ⟨L2, hL2⟩ : ∃ L2, L2 = i + 1 - L := ⟨_, rfl⟩
          have hw4 : IntKind.i64.wrap (((i + 1 : Nat) : Int) - (L : Int)) = (L2 : Int) := wrap_to (by omega) (by omega)
          have hw5 : (i : Int) + 1 - (L : Int) = (L2 : Int) := by omega
          have HS2 : Hid (BMS D s (i + 1) C2 lb L2 C lc x) := by show BMS _ _ _ _ _ _ _ _ _; rw [hL2]; exact HS.out.1 h2
          have hw6 : ((2 * L : Nat) : Int) ≤ (i : Int) := by omega
          clear h2 hL2
          go_wp2
          go_roundw
          case rel => exact ⟨i + 1, lb, L2, lc, x, bo, ro, lb, rc, C2, C, by omega, rfl, by first | rfl | go_num, rfl, rfl, by go_num, HS2.out, HL.out.1, HN.out.2.2.2.2.1.below HL.out.2, bel_up' HN.out.2.1 HL.out.2⟩
          case measure => simp [intOf]; omega
        · have hw2 : ¬ (2 * (L : Int) ≤ (i : Int)) := by omega
          have hw3 : IntKind.i64.wrap (2 * (L : Int)) = ((2 * L : Nat) : Int) := wrap_to (by omega) (by omega)
          have hw6 : ¬ ((2 * L : Nat) : Int) ≤ (i : Int) := by omega
          have HS2 : Hid (BMS D s (i + 1) C2 lb L (psh 1 O) (lo + 1) b) := HS.out.2 h2
          clear h2
          go_wp2
          go_roundw
          case rel => exact ⟨i + 1, lb, L, lo + 1, b, bo, no, lb, nc, C2, psh 1 O, by omega, rfl, rfl, rfl, rfl, by go_num, HS2.out, HL.out.1, HN.out.2.2.1.below HL.out.2, bel_up' HN.out.2.1 HL.out.2⟩
          case measure => simp [intOf]; omega
    · have hib : ¬ (i : Int) < (n : Int) := by omega
      have hin : n = i := by omega
      subst hin
      have HC1 : Hid (Calls Try.prog 71 #[.slice ro lc rc] wr fun e w2 => e = .returned (.slice ro (dgn C lc) rc) ∧ w2 = wr) := etrim_any (show Sl ro lc C wr from HG.out.2.1.sl) HG.out.2.1.le HG.out.2.1.cap HG.out.2.1.few
      go_wp2_with fail
      refine HC1.out.mono ?_
      rintro e w2 ⟨rfl, rfl⟩
      go_wp2
      go_ret2
      exact ⟨HG.out.2.2.2, ro, rc, C, lc, L, O, lo, b, rfl, HG.out.1, HG.out.2.1⟩
end Go.Proofs.Ytpccbiinfdppnad

/- The program's Massey; lists that are far too long. -/
namespace Go.Proofs.Ytpccbiinfdppnad
open Go.RowKit Go.Sort

set_option maxHeartbeats 2000000 in
set_option maxRecDepth 100000 in
theorem check_far {D : FD} (hD : D ∈ fieldsL) {ao : Option Addr} {n cap : Nat} {w : World} (h1 : 128 < n) (h2 : n ≤ 17592186044416) :
    Calls Try.prog 30 #[.int .i64 D.q, .slice ao n cap] w fun e w' => e = .returned (.int .i64 4) ∧ Below w.heap.size w w' := by
  have HD : Hid (D ∈ fieldsL) := hD
  have hb : (128 : Int) < (n : Int) := by omega
  clear hD
  go_enter Try.func30, Try.ntmps30
  go_wp2_with fail
  refine (new_any HD.out w).mono ?_
  rintro e w1 ⟨F, T, g, rfl, hat, hF, hT, hb1⟩
  have HA : Hid (Below w.heap.size w w1) := hb1
  clear hat hF hT hb1
  go_wp2
  go_ret
  exact ⟨rfl, HA.out⟩
set_option maxHeartbeats 2000000 in
set_option maxRecDepth 100000 in
theorem polyMay_far {D : FD} (hD : D ∈ fieldsL) {ao : Option Addr} {n cap : Nat} {w : World} (h1 : 128 < n) (h2 : n ≤ 17592186044416) :
    Calls Try.prog 8 #[.int .i64 D.q, .slice ao n cap] w fun e w' => e = .returned (.int .i64 4) ∧ Below w.heap.size w w' := by
  have HD : Hid (D ∈ fieldsL) := hD
  have hb : (128 : Int) < (n : Int) := by omega
  clear hD
  go_enter Try.func8, Try.ntmps8
  go_wp2_with fail
  refine (rfield_any HD.out w).mono ?_
  rintro e w1 ⟨vm, rfl, hown, _, hb1⟩
  have hm6 := (fld HD.out).m6
  obtain ⟨gm, cm, fm, hvm, hgm⟩ := hown.row (D.m + 1) modL_len' (by omega)
  subst hvm
  clear hown hgm
  have HA : Hid (Below w.heap.size w w1) := hb1
  clear hb1
  unfold rf
  go_wp2
  go_ret
  exact ⟨rfl, by first | exact HA.out | exact HA.out.alloc HA.out.size _⟩
set_option maxHeartbeats 2000000 in
set_option maxRecDepth 100000 in
theorem massey_err (q e : Int) (he : e ≠ 0) {yo : Option Addr} {my cy : Nat} {w : World} (h : Calls Try.prog 30 #[.int .i64 q, .slice yo my cy] w fun x w' => x = .returned (.int .i64 e) ∧ Below w.heap.size w w') :
    Calls Try.prog 9 #[.int .i64 q, .slice yo my cy] w fun x w' => x = .returned (.tuple #[.slice none 0 0, .int .i64 0, .int .i64 e]) ∧ Below w.heap.size w w' := by
  have HC : Hid (Calls Try.prog 30 #[.int .i64 q, .slice yo my cy] w fun x w' => x = .returned (.int .i64 e) ∧ Below w.heap.size w w') := h
  have hz : (e != 0) = true := by rw [bne_iff_ne]; exact he
  clear h he
  go_enter Try.func9, Try.ntmps9
  go_wp2_with fail
  refine HC.out.mono ?_
  rintro x w1 ⟨rfl, hb1⟩
  have H1 : Hid (Below w.heap.size w w1) := hb1
  clear hb1
  go_wp2
  go_ret3
  exact ⟨rfl, H1.out⟩
set_option maxHeartbeats 2000000 in
set_option maxRecDepth 100000 in
theorem massey_any {D : FD} (hD : D ∈ fieldsL) {so : Option Addr} {n sc : Nat} {z : Nat → Int} {w : World} (hs : Arg so n sc z w) (h0 : D.chk n z = 0) :
    Calls Try.prog 9 #[.int .i64 D.q, .slice so n sc] w fun e w' => Below w.heap.size w w' ∧ ∃ ro rc C lc L O lo b, e = .returned (.tuple #[.slice ro (dgn C lc) rc, .int .i64 (L : Nat), .int .i64 0]) ∧ BMS D (zc n z) n C lc L O lo b ∧ Arg ro lc rc (fun j => ((C j : Nat) : Int)) w' := by
  obtain ⟨s, hs0⟩ : ∃ s, s = zc n z := ⟨_, rfl⟩
  rw [← hs0]
  have HH : Hid (D ∈ fieldsL ∧ Arg so n sc z w ∧ El D s ∧ Sl so n s w) := ⟨hD, hs, by rw [hs0]; exact zc_el (fld hD) h0, by rw [hs0]; exact zc_sl h0 hs.sl⟩
  have HCk : Hid (Calls Try.prog 30 #[.int .i64 D.q, .slice so n sc] w fun e w' => e = .returned (.int .i64 0) ∧ Below w.heap.size w w') := by
    show Calls _ _ _ _ _
    have h := check_any (cap := sc) hD hs.sl hs.lt hs.few
    rw [h0] at h; exact h
  have hn := (chk_zero h0).1
  have hle := hs.le
  have hcap := hs.cap
  clear hD hs h0 hs0
  go_enter Try.func9, Try.ntmps9
  go_wp2_with fail
  refine HCk.out.mono ?_
  rintro e w1 ⟨rfl, hb1⟩
  have H1 : Hid (Below w.heap.size w w1) := hb1
  clear hb1
  go_wp2_with fail
  refine (new_any HH.out.1 w1).mono ?_
  rintro e w2 ⟨F, T, g, rfl, hat, hF, hT, hb2⟩
  have H2 : Hid (Below w.heap.size w w2 ∧ FAt F T D g w2) := ⟨bel_up' H1.out hb2, hat⟩
  clear hat hF hT hb2
  go_wp2_with fail
  refine (shortest_any HH.out.1 H2.out.2 HH.out.2.2.1 (HH.out.2.2.2.below H2.out.1 HH.out.2.1.lt) hn hle hcap (HH.out.2.1.lt.mono H2.out.1.size)).mono ?_
  rintro e w3 ⟨hb3, ro, rc, C, lc, L, O, lo, b, rfl, hB, hA⟩
  have H3 : Hid (Below w.heap.size w w3 ∧ BMS D s n C lc L O lo b ∧ Arg ro lc rc (fun j => ((C j : Nat) : Int)) w3) := ⟨bel_up' H2.out.1 hb3, hB, hA⟩
  clear hb3 hB hA
  go_wp2
  go_ret3
  exact ⟨H3.out.1, ro, rc, C, lc, L, O, lo, b, rfl, H3.out.2.1, H3.out.2.2⟩
end Go.Proofs.Ytpccbiinfdppnad

/- Equations that can be met, and the rules of shorter length. -/
namespace Go.Proofs.Ytpccbiinfdppnad
open Go.RowKit Go.Sort

/-- The sum of the products, place by place. -/
def dt (D : FD) (u v : Nat → Nat) : Nat → Nat
  | 0 => 0
  | n + 1 => D.ad (dt D u v n) (D.mul (u n) (v n))
theorem dt_lt {D : FD} (F : Fld D) (u v : Nat → Nat) : ∀ n, dt D u v n < D.q
  | 0 => zero_lt' F
  | n + 1 => ad_lt F (dt_lt F u v n) (F.mul_lt _ _)
theorem dt_nil {D : FD} (F : Fld D) (v : Nat → Nat) : ∀ n, dt D pnil v n = 0
  | 0 => rfl
  | n + 1 => by
    show D.ad (dt D pnil v n) (D.mul 0 (v n)) = 0
    rw [dt_nil F v n, zmul F, ad_zero F (zero_lt' F)]
theorem dt_add {D : FD} (F : Fld D) {u u' : Nat → Nat} (v : Nat → Nat) (hu : El D u) (hu' : El D u') : ∀ n, dt D (padd D u u') v n = D.ad (dt D u v n) (dt D u' v n)
  | 0 => (ad_zero F (zero_lt' F)).symm
  | n + 1 => by
    show D.ad (dt D (padd D u u') v n) (D.mul (D.ad (u n) (u' n)) (v n)) = _
    rw [dt_add F v hu hu' n, ad_mul F (hu n) (hu' n), ad4 F (dt_lt F _ _ _) (dt_lt F _ _ _) (F.mul_lt _ _) (F.mul_lt _ _)]
    rfl
theorem dt_scale {D : FD} (F : Fld D) (s : Nat) (u v : Nat → Nat) : ∀ n, dt D (pscale D s u) v n = D.mul s (dt D u v n)
  | 0 => (mul0 F s).symm
  | n + 1 => by
    show D.ad (dt D (pscale D s u) v n) (D.mul (D.mul s (u n)) (v n)) = D.mul s (D.ad (dt D u v n) (D.mul (u n) (v n)))
    rw [dt_scale F s u v n, F.mul_assoc, mul_ad F (dt_lt F _ _ _) (F.mul_lt _ _)]
theorem dt_same {D : FD} {u v v' : Nat → Nat} : ∀ n, (∀ j, j < n → v j = v' j) → dt D u v n = dt D u v' n
  | 0, _ => rfl
  | n + 1, h => by
    show D.ad (dt D u v n) (D.mul (u n) (v n)) = D.ad (dt D u v' n) (D.mul (u n) (v' n))
    rw [dt_same n (fun j hj => h j (by omega)), h n (by omega)]
theorem dt_put {D : FD} (F : Fld D) {u v : Nat → Nat} {a c : Nat} (hv : v a = 0) : ∀ n, a < n → dt D u (fun j => if j = a then c else v j) n = D.ad (dt D u v n) (D.mul (u a) c)
  | 0, h => absurd h (by omega)
  | n + 1, h => by
    show D.ad (dt D u (fun j => if j = a then c else v j) n) (D.mul (u n) (if n = a then c else v n)) = D.ad (D.ad (dt D u v n) (D.mul (u n) (v n))) (D.mul (u a) c)
    by_cases e : n = a
    · subst e
      rw [if_pos rfl, hv, mul0 F, ad_zero F (dt_lt F _ _ _), dt_same n (v' := v) (fun j hj => if_neg (by omega))]
    · rw [if_neg e, dt_put F hv n (by omega), ad_assoc F (dt_lt F _ _ _) (F.mul_lt _ _) (F.mul_lt _ _), ad_assoc F (dt_lt F _ _ _) (F.mul_lt _ _) (F.mul_lt _ _), ad_comm F (D.mul (u a) c)]
theorem slx_none {R : Nat → Nat → Nat} {p : Nat → Nat} {n j : Nat} : ∀ r, (∀ i, i < r → p i ≠ j) → slx R p n r j = 0
  | 0, _ => rfl
  | r + 1, h => by
    show (if j = p r then R r n else slx R p n r j) = 0
    rw [if_neg (fun e => h r (by omega) e.symm), slx_none r (fun i hi => h i (by omega))]
theorem slx_el {D : FD} (F : Fld D) {R : Nat → Nat → Nat} {p : Nat → Nat} {n : Nat} : ∀ r, (∀ i, i < r → El D (R i)) → El D (slx R p n r)
  | 0, _ => fun _ => zero_lt' F
  | r + 1, h => fun j => by
    show (if j = p r then R r n else slx R p n r j) < D.q
    split
    · exact h r (by omega) n
    · exact slx_el F r (fun i hi => h i (by omega)) j
theorem dt_slx {D : FD} (F : Fld D) {n k : Nat} {R : Nat → Nat → Nat} {p : Nat → Nat} (h : RRE D (n + 1) k R p) (hp : ∀ i, i < k → p i ≠ n) (i : Nat) (hi : i < k) : ∀ r, r ≤ k → dt D (R i) (slx R p n r) n = if i < r then R i n else 0
  | 0, _ => by
    rw [if_neg (by omega)]
    have e : ∀ n, dt D (R i) (slx R p n 0) n = 0 := fun n => by
      have : ∀ m, dt D (R i) (slx R p n 0) m = 0 := fun m => by
        induction m with
        | zero => rfl
        | succ m ih =>
          show D.ad (dt D (R i) (slx R p n 0) m) (D.mul (R i m) 0) = 0
          rw [ih, mul0 F, ad_zero F (zero_lt' F)]
      exact this n
    exact e n
  | r + 1, hr => by
    have hpr : p r < n := by have := h.lt r (by omega); have := hp r (by omega); omega
    have e := dt_put F (u := R i) (v := slx R p n r) (a := p r) (c := R r n) (slx_none r (fun j hj => by have := h.mono j r hj (by omega); omega)) n hpr
    have e2 : slx R p n (r + 1) = fun j => if j = p r then R r n else slx R p n r j := rfl
    rw [e2, e, dt_slx F h hp i hi r (by omega)]
    by_cases e3 : i = r
    · subst e3
      rw [if_neg (by omega), if_pos (by omega), h.one i hi, omul F (h.el i hi n), zero_ad F (h.el i hi n)]
    · rw [h.zero i r hi (by omega) e3, zmul F]
      by_cases e4 : i < r
      · rw [if_pos e4, if_pos (by omega), ad_zero F (h.el i hi n)]
      · rw [if_neg e4, if_neg (by omega), ad_zero F (zero_lt' F)]
/-- What the reduced equations say is a solution. -/
theorem slx_solves {D : FD} (F : Fld D) {m n k : Nat} {R M : Nat → Nat → Nat} {p b : Nat → Nat} (h : RRE D (n + 1) k R p) (hp : ∀ i, i < k → p i ≠ n) (hel : ∀ i, i < m → El D (M i)) (hb : ∀ i, i < m → b i < D.q) (hs : ∀ v, Spn D (RowsOf k R) v ↔ Spn D (RowsOf m (aug n M b)) v) (i : Nat) (hi : i < m) : dt D (M i) (slx R p n k) n = b i := by
  have h1 : Spn D (RowsOf k R) (aug n M b i) := (hs _).2 (spn_mem F (aug_el (hel i hi) (hb i hi)) ⟨i, hi, rfl⟩)
  have h2 : El D (aug n M b i) ∧ dt D (aug n M b i) (slx R p n k) n = aug n M b i n := by
    refine spn_ind (Q := fun v => El D v ∧ dt D v (slx R p n k) n = v n) ⟨el_nil F, dt_nil F _ _⟩ ?_ ?_ ?_ h1
    · rintro u v ⟨a1, a2⟩ ⟨b1, b2⟩
      refine ⟨el_add F a1 b1, ?_⟩
      rw [dt_add F _ a1 b1, a2, b2]; rfl
    · rintro s v ⟨a1, a2⟩
      refine ⟨el_scale F _ _, ?_⟩
      rw [dt_scale F, a2]; rfl
    · rintro v ⟨j, hj, rfl⟩
      refine ⟨h.el j hj, ?_⟩
      rw [dt_slx F h hp j hj k (Nat.le_refl _), if_pos hj]
  have h3 := h2.2
  have e1 : ∀ r, r ≤ n → dt D (aug n M b i) (slx R p n k) r = dt D (M i) (slx R p n k) r := fun r => by
    induction r with
    | zero => intro _; rfl
    | succ r ih =>
      intro hr
      show D.ad (dt D (aug n M b i) (slx R p n k) r) (D.mul (aug n M b i r) _) = D.ad (dt D (M i) (slx R p n k) r) (D.mul (M i r) _)
      rw [ih (by omega)]
      have : aug n M b i r = M i r := if_neg (by omega)
      rw [this]
  rw [e1 n (Nat.le_refl _)] at h3
  rw [h3]
  exact if_pos rfl
/-- A rule from its numbers behind the first one. -/
def rulx (n : Nat) (x : Nat → Nat) : Nat → Nat := fun j => if j = 0 then 1 else if j ≤ n then x (j - 1) else 0
theorem rulx_rul {D : FD} (F : Fld D) (n : Nat) {x : Nat → Nat} (hx : El D x) : Rul D (rulx n x) n := by
  refine ⟨fun j => ?_, fun j hj => ?_, rfl⟩
  · unfold rulx
    split
    · exact one_lt' F
    · split
      · exact hx _
      · exact zero_lt' F
  · unfold rulx
    rw [if_neg (by omega), if_neg (by omega)]
theorem rulx_mul {D : FD} (F : Fld D) {n t : Nat} {x s : Nat → Nat} (hs : El D s) (ht : n ≤ t) : ∀ r, r ≤ n → pmul D (r + 1) (rulx n x) s t = D.ad (s t) (dt D (fun j => s (t - 1 - j)) x r)
  | 0, _ => by
    show D.ad 0 (psh 0 (pscale D 1 s) t) = D.ad (s t) 0
    unfold psh pscale
    rw [if_pos (by omega), Nat.sub_zero, omul F (hs t), zero_ad F (hs t), ad_zero F (hs t)]
  | r + 1, hr => by
    show D.ad (pmul D (r + 1) (rulx n x) s t) (psh (r + 1) (pscale D (rulx n x (r + 1)) s) t) = D.ad (s t) (D.ad (dt D (fun j => s (t - 1 - j)) x r) (D.mul (s (t - 1 - r)) (x r)))
    rw [rulx_mul F hs ht r (by omega), ad_assoc F (hs t) (dt_lt F _ _ _) (by unfold psh pscale; split; exact F.mul_lt _ _; exact zero_lt' F)]
    congr 1
    congr 1
    unfold psh pscale rulx
    rw [if_pos (by omega), if_neg (by omega), if_pos (by omega), F.mul_comm, Nat.add_sub_cancel, show t - (r + 1) = t - 1 - r from by omega]
/-- The equations of the rules of length n have no solution, if each rule is longer. -/
theorem short_no {D : FD} (F : Fld D) {N n L k : Nat} {s : Nat → Nat} {R : Nat → Nat → Nat} {p : Nat → Nat} (hs : El D s) (hmin : ∀ C' L', Rul D C' L' → Gen D s C' L' N → L ≤ L') (hn : n < L) (h : RRE D (n + 1) k R p)
    (hsp : ∀ v, Spn D (RowsOf k R) v ↔ Spn D (RowsOf (N - n) (aug n (fun i => cutN n fun j => s (n + i - 1 - j)) fun i => D.ng (s (n + i)))) v) : ¬ ∀ i, i < k → p i ≠ n := fun hp => by
  have hx : El D (slx R p n k) := slx_el F k h.el
  have h1 := hmin _ n (rulx_rul F n hx) (fun t h1 h2 => by
    rw [rulx_mul F hs h1 n (Nat.le_refl _)]
    have h3 := slx_solves F h hp (fun i _ => fun j => by unfold cutN; split; exact hs _; exact zero_lt' F) (fun i _ => ng_lt F (hs _)) hsp (t - n) (by omega)
    have h4 : ∀ r, r ≤ n → dt D (fun j => s (t - 1 - j)) (slx R p n k) r = dt D (cutN n fun j => s (n + (t - n) - 1 - j)) (slx R p n k) r := fun r => by
      induction r with
      | zero => intro _; rfl
      | succ r ih =>
        intro hr
        show D.ad (dt D (fun j => s (t - 1 - j)) (slx R p n k) r) (D.mul (s (t - 1 - r)) _) = D.ad (dt D (cutN n fun j => s (n + (t - n) - 1 - j)) (slx R p n k) r) (D.mul (cutN n (fun j => s (n + (t - n) - 1 - j)) r) _)
        rw [ih (by omega)]
        have e5 : cutN n (fun j => s (n + (t - n) - 1 - j)) r = s (t - 1 - r) := by
          unfold cutN
          rw [if_pos (by omega)]
          show s (n + (t - n) - 1 - r) = _
          rw [show n + (t - n) - 1 - r = t - 1 - r from by omega]
        rw [e5]
    rw [h4 n (Nat.le_refl _), h3, show n + (t - n) = t from by omega]
    exact ad_ng F (hs t))
  omega
/-- A rule of length 0 holds for noughts alone. -/
theorem short_zero {D : FD} (F : Fld D) {N L : Nat} {s : Nat → Nat} (hmin : ∀ C' L', Rul D C' L' → Gen D s C' L' N → L ≤ L') (hL : 0 < L) : ∃ i, i < N ∧ s i ≠ 0 := by
  by_cases h : ∃ i, i < N ∧ s i ≠ 0
  · exact h
  · have h1 := hmin pone 0 ⟨el_one F, fun k hk => by unfold pone; rw [if_neg (by omega)], rfl⟩ (fun t _ h2 => by
      have e : s t = 0 := by
        by_cases e : s t = 0
        · exact e
        · exact absurd ⟨t, h2, e⟩ h
      show D.ad 0 (psh 0 (pscale D 1 s) t) = 0
      unfold psh pscale
      rw [if_pos (by omega), Nat.sub_zero, e, mul0 F, ad_zero F (zero_lt' F)])
    omega
end Go.Proofs.Ytpccbiinfdppnad

/- The reference's Rules: does the rule hold? -/
namespace Go.Proofs.Ytpccbiinfdppnad
open Go.RowKit Go.Sort

set_option maxHeartbeats 8000000 in
set_option maxRecDepth 100000 in
theorem rrules_any {D : FD} (hD : D ∈ fieldsL) (gen gm cm : Nat) {so ro : Option Addr} {n sc lr rc L : Nat} {s C : Nat → Nat} {w : World} (hn : n ≤ 128) (hS : Sl so n s w) (hlS : LtB so w.heap.size) (hR : Sl ro lr C w) (hlR : LtB ro w.heap.size) (hs : El D s) (hC : El D C)
    (h1 : 1 ≤ lr) (hone : C 0 = 1) (hlr : lr ≤ L + 1) (hL : L ≤ n) (hlast : C (lr - 1) ≠ 0) (hgen : ∀ t, L ≤ t → t < n → pmul D lr C s t = 0) (hM : ModAt D (.slice (some ⟨gm, 0, none⟩) (D.m + 1) cm) D.md w) :
    Calls Try.prog 12 #[.agg #[.int .i64 D.q, .int .i64 D.p, .int .i64 D.m, .int .i64 gen, .slice (some ⟨gm, 0, none⟩) (D.m + 1) cm], .slice so n sc, .slice ro lr rc, .int .i64 (L : Nat)] w fun e w' => e = .returned (.bool true) ∧ Below w.heap.size w w' := by
  obtain ⟨l1, hl1⟩ : ∃ l1, lr = l1 + 1 := ⟨lr - 1, by omega⟩
  subst hl1
  obtain ⟨wa, hwa⟩ : ∃ wa, wa = w.alloc (.cells #[.int .i64 D.q, .int .i64 D.p, .int .i64 D.m, .int .i64 gen, .slice (some ⟨gm, 0, none⟩) (D.m + 1) cm] 28) := ⟨_, rfl⟩
  have hba : Below w.heap.size w wa := by rw [hwa]; exact (Below.refl _ _).alloc (Nat.le_refl _) _
  have HF : Hid (D ∈ fieldsL ∧ Sl so n s wa ∧ LtB so wa.heap.size ∧ Sl ro (l1 + 1) C wa ∧ LtB ro wa.heap.size ∧ El D s ∧ El D C ∧ (∀ t, L ≤ t → t < n → pmul D (l1 + 1) C s t = 0) ∧ ModAt D (.slice (some ⟨gm, 0, none⟩) (D.m + 1) cm) D.md wa ∧ Below w.heap.size w wa) := ⟨hD, hS.below hba hlS, hlS.mono hba.size, hR.below hba hlR, hlR.mono hba.size, hs, hC, hgen, hM.below hba, hba⟩
  have HX : Hid (Box w.heap.size D gen (.slice (some ⟨gm, 0, none⟩) (D.m + 1) cm) wa ∧ wa.heap.size = w.heap.size + 1) := ⟨by rw [hwa]; exact box_new D gen _ w, by rw [hwa]; simp⟩
  obtain ⟨bC, oC, rfl, hc0⟩ := HF.out.2.2.2.1 0 (by omega)
  obtain ⟨_, _, e2, hcl⟩ := HF.out.2.2.2.1 l1 (by omega)
  cases e2
  rw [hone] at hc0
  rw [show oC + 0 = oC from rfl] at hc0
  obtain ⟨x, hx⟩ : ∃ x, x = C l1 := ⟨_, rfl⟩
  rw [← hx] at hcl
  have hx0 : (((x : Nat) : Int) == 0) = false := by rw [beq_eq_false_iff_ne]; rw [hx]; have h : C l1 ≠ 0 := hlast; omega
  have hw1 : IntKind.i64.wrap ((L : Int) + 1) = ((L + 1 : Nat) : Int) := wrap_to (by omega) (by omega)
  have hw2 : IntKind.i64.wrap (((l1 + 1 : Nat) : Int) - 1) = (l1 : Int) := wrap_to (by omega) (by omega)
  have hw3 : ¬ ((L : Int) + 1 < ((l1 + 1 : Nat) : Int)) := by omega
  have hw4 : (((l1 + 1 : Nat) : Int) == 0) = false := by rw [beq_eq_false_iff_ne]; omega
  have hw5 : (0 : Int) < ((l1 + 1 : Nat) : Int) := by omega
  have hw6 : (l1 : Int) < ((l1 + 1 : Nat) : Int) := by omega
  have hw7 : ¬ (((L + 1 : Nat) : Int) < ((l1 + 1 : Nat) : Int)) := by omega
  obtain ⟨lr, hlr'⟩ : ∃ lr, lr = l1 + 1 := ⟨_, rfl⟩
  have HL : Hid (lr = l1 + 1) := hlr'
  rw [← hlr'] at hw2 hw3 hw4 hw5 hw6 hw7 ⊢
  clear hD hS hlS hR hlR hs hC hgen hM hba hlast hx hone hlr' h1
  subst hwa
  go_enter Try.func12, Try.ntmps12
  go_wp2_with fail
  obtain ⟨wa, hwa⟩ : ∃ wa, wa = w.alloc (.cells #[.int .i64 D.q, .int .i64 D.p, .int .i64 D.m, .int .i64 gen, .slice (some ⟨gm, 0, none⟩) (D.m + 1) cm] 28) := ⟨_, rfl⟩
  rw [← hwa] at HF HX
  rw [← hwa]
  clear hwa hc0 hcl
  go_loopw [9] (fun vi wr => ∃ i : Nat, L ≤ i ∧ i ≤ n ∧ vi = .int .i64 i ∧ Hid (Below wa.heap.size wa wr)) (fun vi _ => n - (intOf vi).toNat)
  case atStart => exact ⟨L, Nat.le_refl _, hL, rfl, Below.refl _ _⟩
  case round =>
    obtain ⟨i, hLi, hi, rfl, HB⟩ := hrel
    rename World => w1
    by_cases hlt : i < n
    · have hib : (i : Int) < (n : Int) := by omega
      go_wp2_with fail
      go_loopw [10, 11] (fun vd vk wr => ∃ (k d : Nat), k ≤ lr ∧ vd = .int .i64 (d : Nat) ∧ vk = .int .i64 k ∧ Hid (d = pmul D k C s i ∧ Below wa.heap.size wa wr)) (fun _ vk _ => lr - (intOf vk).toNat)
      case atStart => exact ⟨0, 0, by omega, rfl, rfl, rfl, HB.out⟩
      case round =>
        obtain ⟨k, d, hk, rfl, rfl, HG⟩ := hrel
        rename World => wr
        by_cases hkl : k < lr
        · have hkb : (k : Int) < (lr : Int) := by omega
          obtain ⟨ik, hik⟩ : ∃ ik, ik = i - k := ⟨_, rfl⟩
          have hl1 := HL.out
          obtain ⟨_, _, e3, hcC⟩ := (HF.out.2.2.2.1.below HG.out.2 HF.out.2.2.2.2.1) k (by omega)
          cases e3
          obtain ⟨bS, oS, rfl, hcS⟩ := (HF.out.2.1.below HG.out.2 HF.out.2.2.1) ik (by omega)
          have hw8 : IntKind.i64.wrap ((i : Int) - (k : Int)) = (ik : Int) := wrap_to (by omega) (by omega)
          have hw9 : (ik : Int) < (n : Int) := by omega
          obtain ⟨cx, hcx⟩ : ∃ cx, cx = C k := ⟨_, rfl⟩
          obtain ⟨sx, hsx⟩ : ∃ sx, sx = s ik := ⟨_, rfl⟩
          rw [← hcx] at hcC
          rw [← hsx] at hcS
          obtain ⟨y, hy⟩ : ∃ y, y = D.mul cx sx := ⟨_, rfl⟩
          obtain ⟨u, hu⟩ : ∃ u, u = D.ad d y := ⟨_, rfl⟩
          have F' := fld HF.out.1
          have hbx := HX.out.1.below (B := wa.heap.size) HG.out.2 (by have := HX.out.2; omega)
          have k0 := cell_regrown hbx.c0
          have k1 := cell_regrown hbx.c1
          have k2 := cell_regrown hbx.c2
          have k3 := cell_regrown hbx.c3
          have k4 := cell_regrown hbx.c4
          have k5 := cell_regrown hcC
          have k6 := cell_regrown hcS
          have HC1 : Hid (∀ d os, Calls Try.prog 37 #[.agg #[.int .i64 D.q, .int .i64 D.p, .int .i64 D.m, .int .i64 gen, .slice (some ⟨gm, 0, none⟩) (D.m + 1) cm], .int .i64 (cx : Nat), .int .i64 (sx : Nat)] (grow (redrawn wr d) os) fun e w'' => e = .returned (.int .i64 (y : Nat)) ∧ ∃ p : Regrown, w'' = grow (redrawn wr p.d) p.os) := by
            intro d os
            rw [hy]
            exact Calls.regrown_of (rmul_nat HF.out.1 gen HF.out.2.2.2.2.2.2.2.2.1 cx sx (by rw [hcx]; exact HF.out.2.2.2.2.2.2.1 k) (by rw [hsx]; exact HF.out.2.2.2.2.2.1 ik) _ (bel_up' HG.out.2 (below_regrown wr d os)))
          have HC2 : Hid (∀ d' os, Calls Try.prog 36 #[.agg #[.int .i64 D.q, .int .i64 D.p, .int .i64 D.m, .int .i64 gen, .slice (some ⟨gm, 0, none⟩) (D.m + 1) cm], .int .i64 (d : Nat), .int .i64 (y : Nat)] (grow (redrawn wr d') os) fun e w'' => e = .returned (.int .i64 (u : Nat)) ∧ ∃ p : Regrown, w'' = grow (redrawn wr p.d) p.os) := by
            intro d' os
            rw [hu]
            exact Calls.regrown_of (radd_nat HF.out.1 gen (.slice (some ⟨gm, 0, none⟩) (D.m + 1) cm) d y (by rw [HG.out.1]; exact el_mul F' _ _ _ _) (by rw [hy]; exact F'.mul_lt _ _) (grow (redrawn wr d') os))
          have HV : Hid (u = pmul D (k + 1) C s i) := by
            show u = D.ad (pmul D k C s i) (psh k (pscale D (C k) s) i)
            rw [hu, hy, HG.out.1, hcx, hsx, hik]
            unfold psh
            rw [if_pos (by omega)]; rfl
          have HB2 : Hid (Below wa.heap.size wa wr) := HG.out.2
          clear hik hl1 hcC hcS hcx hsx hy hu F' hbx HG
          go_wp2
          refine wp_region_quiet_below (by kernel_rfl) (by kernel_rfl) ?_
          repeat (go_big_quiet_step (first | (go_at_call 37; exact HC1.out _ _) | (go_at_call 36; exact HC2.out _ _)))
          refine wpQuiet_nil ?_
          intro _ hw'
          obtain ⟨⟨dr, osr⟩, hw''⟩ := hw'
          subst hw''
          go_wp2
          go_roundw
          case rel => exact ⟨k + 1, u, by omega, rfl, by go_num, HV.out, bel_up' HB2.out (below_regrown wr dr osr)⟩
          case measure => simp [intOf]; omega
        · have hkb : ¬ (k : Int) < (lr : Int) := by omega
          have hd0 : d = 0 := by rw [HG.out.1, show k = l1 + 1 from by have := HL.out; omega]; exact HF.out.2.2.2.2.2.2.2.1 i hLi hlt
          subst hd0
          go_wp2
          go_roundw
          case rel => exact ⟨i + 1, by omega, by omega, by go_num, HG.out.2⟩
          case measure => simp [intOf]; omega
    · have hib : ¬ (i : Int) < (n : Int) := by omega
      go_wp2
      go_ret
      exact ⟨rfl, bel_up' HF.out.2.2.2.2.2.2.2.2.2 HB.out⟩
end Go.Proofs.Ytpccbiinfdppnad

/- 'append' of one number, and where its list lies then. -/
namespace Go.Proofs.Ytpccbiinfdppnad
open Go.RowKit Go.Sort

theorem append_int_at {ops : Array Oper} {rest : List Oper} {o : Oper} {a : Act} {w : World} {Q : Exit → Act → World → Prop} (hgd : o.guard = none) (s x : Operand)
    (ho : o.op = .call { callee := .builtin .append, args := #[s, x], argTypes := #[22, 22] })
    (base : Nat) (v : Value) (l : List Int) (hs : a.eval s = v) (hown : OwnI base v l w) (ad : Addr) (c : Nat) (y : Int) (hx : a.eval x = .slice (some ad) 1 c) (hcell : w.cell? ad = some (.int .i64 y))
    (hlen : l.length ≤ 1000000) (hbase : base ≤ w.heap.size)
    (h : ∀ v' w', OwnI base v' (l ++ [y]) w' → w.grownBy w' v.ownBlock → (v'.ownBlock = v.ownBlock ∨ v'.ownBlock = some w.heap.size) → wpList Try.prog ops Q rest (a.put o.dst v') w') : wpList Try.prog ops Q (o :: rest) a w := by
  obtain ⟨i0, hi, hz0, hz1, hz2⟩ := info_parts Try.infoInt
  refine wpList_append_own_at _ hgd s x 22 ho base 3 i0 (.int .i64 0) 1 8 Try.underlying22 hi hz0 hz1 hz2 rfl (by decide) v l.length _ hs hown ad 1 c [.int .i64 y] hx rfl ?_ ?_ ?_ ?_ hbase ?_
  · intro j u hj
    match j, hj with
    | 0, hj =>
      simp at hj; subst hj
      have : ad.add 0 = ad := by cases ad with | mk b o s => cases s <;> simp [Addr.add]
      rw [this]; exact hcell
  · intro u hu; simp at hu; subst hu; rfl
  · unfold maxLen; omega
  · omega
  · intro v' w' hown' hgrow _ hat
    refine h v' w' ?_ hgrow hat
    unfold OwnI
    rw [List.map_append, List.length_append]
    exact hown'
/-- The same, at a step of a region that draws its order. -/
theorem step_append_int_at {ops : Array Oper} {o : Oper} {a : Act} {w : World} {K : Act → World → Prop} {Q : Exit → Act → World → Prop} {E : Prop} (hgd : o.guard = none) (s x : Operand)
    (ho : o.op = .call { callee := .builtin .append, args := #[s, x], argTypes := #[22, 22] })
    (base : Nat) (v : Value) (l : List Int) (hs : a.eval s = v) (hown : OwnI base v l w) (ad : Addr) (c : Nat) (y : Int) (hx : a.eval x = .slice (some ad) 1 c) (hcell : w.cell? ad = some (.int .i64 y))
    (hlen : l.length ≤ 1000000) (hbase : base ≤ w.heap.size)
    (h : ∀ g cap w', OwnI base (.slice (some ⟨g, 0, none⟩) (l.length + 1) cap) (l ++ [y]) w' → w.grownBy w' v.ownBlock → (Value.ownBlock (.slice (some ⟨g, 0, none⟩) (l.length + 1) cap) = v.ownBlock ∨ Value.ownBlock (.slice (some ⟨g, 0, none⟩) (l.length + 1) cap) = some w.heap.size) → K (a.put o.dst (.slice (some ⟨g, 0, none⟩) (l.length + 1) cap)) w') :
    if Region.wanted o (yielded ops a.tmps) = true then Oper.wp Try.prog o a w K Q else E := by
  obtain ⟨i0, hi, hz0, hz1, hz2⟩ := info_parts Try.infoInt
  refine step_append_lies w hgd s x 22 ho base 3 i0 (.int .i64 0) 1 8 Try.underlying22 hi hz0 hz1 hz2 rfl (by decide) v l.length _ hs hown ad 1 c [.int .i64 y] hx rfl ?_ ?_ (by omega) ?_ ?_ hbase _ rfl ?_
  · intro j u hj
    match j, hj with
    | 0, hj =>
      simp at hj; subst hj
      have : ad.add 0 = ad := by cases ad with | mk b o s => cases s <;> simp [Addr.add]
      rw [this]; exact hcell
  · intro u hu; simp at hu; subst hu; rfl
  · unfold maxLen; omega
  · omega
  · intro g cap w' hown' hgrow hat _
    refine h g cap w' ?_ hgrow ?_
    · unfold OwnI
      rw [List.map_append, List.length_append]
      exact hown'
    · rcases hat with e | e
      · exact Or.inl e.symm
      · exact Or.inr (by rw [e]; rfl)
end Go.Proofs.Ytpccbiinfdppnad
