/- The program's rules (reed): the shortest one (shortest, Massey). -/
import Derived.Test.YtcgmllamiaflcaaZY1
namespace Go.Proofs.Ytcgmllamiaflcaa
open Go.RowKit Go.Sort

theorem own_single {base g : Nat} {x : Int} {w : World} (h : w.heap[g]? = some (.cells #[.int .i64 x] 3 (0, 0))) (hb : base ≤ g) : OwnI base (.slice (some ⟨g, 0, none⟩) 1 1) [x] w :=
  ⟨rfl, Or.inr ⟨g, 1, #[.int .i64 x], rfl, hb, h, Nat.le_refl _, by unfold maxLen; omega, rfl, rfl⟩⟩
theorem zl_psh {lo : Nat} {O : Nat → Nat} : ([0] : List Int) ++ zl lo (fun j => ((O j : Nat) : Int)) = zl (lo + 1) (fun j => ((psh 1 O j : Nat) : Int)) := by
  apply List.ext_getElem?
  intro k
  by_cases hk : k < lo + 1
  · rw [zl_get _ _ k hk]
    cases k with
    | zero => simp [psh]
    | succ k =>
      rw [List.getElem?_append_right (by simp), List.length_singleton, Nat.add_sub_cancel, zl_get _ _ k (by omega)]
      simp [psh]
  · rw [List.getElem?_eq_none (by rw [List.length_append, zl_len]; simp; omega), List.getElem?_eq_none (by rw [zl_len]; omega)]
theorem OwnI.argN {base : Nat} {v : Value} {n : Nat} {c : Nat → Nat} {w : World} (h : OwnI base v (zl n fun j => ((c j : Nat) : Int)) w) (hn : n ≤ 1000000) : ∃ so sc, v = .slice so n sc ∧ Arg so n sc (fun j => ((c j : Nat) : Int)) w := by
  obtain ⟨so, sc, e, ha⟩ := h.argL
  exact ⟨so, sc, e, ha.arg hn⟩
theorem row_arg {g n : Nat} {c : Nat → Nat} {w : World} (h : Row g n c w) (hn : n ≤ 1000000) : Arg (some ⟨g, 0, none⟩) n n (fun j => ((c j : Nat) : Int)) w :=
  ⟨h.sl (Nat.le_refl _), fun x hx => (by cases hx; exact h.lt), hn, fun e => (by cases e), Nat.le_refl _, by omega⟩
theorem one_arg {w : World} {g : Nat} (h : w.heap[g]? = some (.cells #[.int .i64 1] 3 (0, 0))) : Arg (some ⟨g, 0, none⟩) 1 1 (fun j => ((pone j : Nat) : Int)) w := by
  have h1 := own_single (base := 0) h (Nat.zero_le _)
  have e : ([1] : List Int) = zl 1 (fun j => ((pone j : Nat) : Int)) := rfl
  rw [e] at h1
  obtain ⟨so, sc, e2, ha⟩ := h1.argN (by omega)
  cases e2
  exact ha

theorem Arg.drewN {ao : Option Addr} {n cap : Nat} {z : Nat → Int} {w : World} (h : Arg ao n cap z w) (k : Nat) : Arg ao n cap z (w.drewN k) := ⟨h.sl, h.lt, h.few, h.nil, h.le, h.cap⟩

set_option maxHeartbeats 8000000 in
set_option maxRecDepth 100000 in
theorem shortest_any {F T : Nat} {D : FD} (hD : D ∈ fieldsL) {g : Nat → Value} {w : World} (hat : FAt F T D g w) {so : Option Addr} {n sc : Nat} {s : Nat → Nat} (hs : El D s) (hS : Sl so n s w) (hn : n ≤ 128) (hsc : n ≤ sc) (hsc2 : sc ≤ 9223372036854775807) (hlS : LtB so w.heap.size) :
    Calls Try.prog 40 #[.pointer (some ⟨F, 0, none⟩), .slice so n sc] w fun e w' => Below w.heap.size w w' ∧ ∃ ro rc C lc L O lo b, e = .returned (.tuple #[.slice ro (dgn C lc) rc, .int .i64 (L : Nat)]) ∧ BMS D s n C lc L O lo b ∧ Arg ro lc rc (fun j => ((C j : Nat) : Int)) w' := by
  have HF : Hid (D ∈ fieldsL ∧ FAt F T D g w ∧ El D s ∧ Sl so n s w ∧ LtB so w.heap.size) := ⟨hD, hat, hs, hS, hlS⟩
  clear hD hat hs hS hlS
  go_enter Try.func40, Try.ntmps40
  go_wp2
  obtain ⟨w1, hw1⟩ : ∃ w1, w1 = w.alloc (.cells #[.int .i64 1] 3) := ⟨_, rfl⟩
  obtain ⟨w2, hw2⟩ : ∃ w2, w2 = w1.alloc (.cells #[.int .i64 1] 3) := ⟨_, rfl⟩
  have hs1 : w1.heap.size = w.heap.size + 1 := by rw [hw1]; simp
  have HB0 : Hid (Below w.heap.size w w2 ∧ Arg (some ⟨w.heap.size, 0, none⟩) 1 1 (fun j => ((pone j : Nat) : Int)) w2 ∧ Arg (some ⟨w1.heap.size, 0, none⟩) 1 1 (fun j => ((pone j : Nat) : Int)) w2) := by
    have b1 : Below w.heap.size w w1 := by rw [hw1]; exact (Below.refl _ _).alloc (Nat.le_refl _) _
    have b2 : Below w1.heap.size w1 w2 := by rw [hw2]; exact (Below.refl _ _).alloc (Nat.le_refl _) _
    refine ⟨bel_up' b1 b2, (one_arg (w := w1) ?_).below b2, one_arg ?_⟩
    · rw [hw1]; exact two_new _
    · rw [hw2]; exact two_new _
  rw [← hw1, ← hw2]
  rw [hs1] at HB0
  clear hw1 hw2 hs1
  go_loopw [4, 5, 6, 7, 15] (fun vr vl vo vb vi wr => ∃ (i lc L lo b : Nat) (ro oo : Option Addr) (rc oc : Nat) (C O : Nat → Nat), i ≤ n ∧ vr = .slice ro lc rc ∧ vl = .int .i64 (L : Nat) ∧ vo = .slice oo lo oc ∧ vb = .int .i64 (b : Nat) ∧ vi = .int .i64 i ∧ Hid (BMS D s i C lc L O lo b ∧ Arg ro lc rc (fun j => ((C j : Nat) : Int)) wr ∧ Arg oo lo oc (fun j => ((O j : Nat) : Int)) wr ∧ Below w.heap.size w wr)) (fun _ _ _ _ vi _ => n - (intOf vi).toNat)
  case atStart => exact ⟨0, 1, 0, 1, 1, _, _, 1, 1, pone, pone, by omega, rfl, rfl, rfl, rfl, rfl, bms_start (fld HF.out.1) s, HB0.out.2.1, HB0.out.2.2, HB0.out.1⟩
  case round =>
    obtain ⟨i, lc, L, lo, b, ro, oo, rc, oc, C, O, hi, rfl, rfl, rfl, rfl, rfl, HG⟩ := hrel
    rename World => wr
    clear HB0
    have hLi : L ≤ i := HG.out.1.le
    have hlc : lc ≤ i + 1 := by have := HG.out.1.lcL; omega
    have hlo : lo ≤ i + 1 := by have := HG.out.1.loL; omega
    by_cases hlt : i < n
    · have hib : (i : Int) < (n : Int) := by omega
      have hw1 : IntKind.i64.wrap ((i : Int) + 1) = ((i + 1 : Nat) : Int) := wrap_to (by omega) (by omega)
      have hcp : ((i + 1 : Nat) : Int) ≤ (sc : Int) := by omega
      have hcp2 : (i : Int) + 1 ≤ (sc : Int) := by omega
      go_wp2_with (at_builtin; refine append_ints rfl _ _ rfl wr.heap.size _ [0] rfl (own_single (two_new _) (Nat.le_refl _)) oo lo oc (fun j => ((O j : Nat) : Int)) rfl (HG.out.2.2.1.sl.below ((Below.refl _ _).alloc (Nat.le_refl _) _) HG.out.2.2.1.lt) HG.out.2.2.1.nil (by simp; omega) (by simp) ?_; intro v' w' hown hgrow)
      have hb1 : Below wr.heap.size wr w' := ((Below.refl _ _).alloc (Nat.le_refl _) _).trans (below_grown hgrow (by simp) (fun k hk => by cases hk; exact Nat.le_refl _))
      rw [zl_psh] at hown
      obtain ⟨no, nc, rfl, hno⟩ := hown.argN (by omega)
      obtain ⟨x, hx⟩ : ∃ x, x = pmul D lc C s i := ⟨_, rfl⟩
      have hb1' : Below w.heap.size w w' := HG.out.2.2.2.trans (hb1.mono HG.out.2.2.2.size)
      have hat' := HF.out.2.1.below hb1' HF.out.2.1.ltF HF.out.2.1.ltT
      have hro := HG.out.2.1.below hb1
      have hSl : Sl so (i + 1) s w' := (HF.out.2.2.2.1.below hb1' HF.out.2.2.2.2).less (by omega)
      have HC1 : Hid (Calls Try.prog 65 #[.pointer (some ⟨F, 0, none⟩), .slice ro lc rc, .slice so (i + 1) sc] w' fun e w2 => e = .returned (.int .i64 (x : Nat)) ∧ ∃ k, w2 = w'.drewN k) := by
        rw [hx]
        exact missed_any HF.out.1 hat' HG.out.1.rul.el HF.out.2.2.1 (show Sl ro lc C w' from hro.sl) hSl hlc (by omega)
      have HN : Hid (Below wr.heap.size wr w' ∧ Below w.heap.size w w' ∧ Arg no (lo + 1) nc (fun j => ((psh 1 O j : Nat) : Int)) w' ∧ FAt F T D g w' ∧ Arg ro lc rc (fun j => ((C j : Nat) : Int)) w' ∧ x = pmul D lc C s i) := ⟨hb1, hb1', hno, hat', hro, hx⟩
      clear hb1 hb1' hno hat' hro hSl hown hgrow hx
      go_wp2_with fail
      refine HC1.out.mono ?_
      rintro e w2 ⟨rfl, k1, rfl⟩
      by_cases h0 : x = 0
      · have hz : (((x : Nat) : Int) == 0) = true := by rw [h0]; rfl
        have HE : Hid (x = 0) := h0
        clear h0
        go_wp2
        go_roundw
        case rel => exact ⟨i + 1, lc, L, lo + 1, b, ro, no, rc, nc, C, psh 1 O, by omega, rfl, rfl, rfl, rfl, by go_num, bms_skip (fld HF.out.1) HG.out.1 (by rw [← HN.out.2.2.2.2.2]; exact HE.out), (HN.out.2.2.2.2.1).drewN k1, (HN.out.2.2.1).drewN k1, below_drewN2 HN.out.2.1 k1⟩
        case measure => simp [intOf]; omega
      · have hz : (((x : Nat) : Int) == 0) = false := by rw [beq_eq_false_iff_ne]; omega
        have HE : Hid (x ≠ 0) := h0
        clear h0
        obtain ⟨bi, hbi⟩ : ∃ bi, bi = D.iv b := ⟨_, rfl⟩
        obtain ⟨y, hy⟩ : ∃ y, y = D.mul x bi := ⟨_, rfl⟩
        obtain ⟨lb, hlb⟩ : ∃ lb, lb = max lc (lo + 1) := ⟨_, rfl⟩
        obtain ⟨C2, hC2⟩ : ∃ C2, C2 = psub D C (pscale D y (psh 1 O)) := ⟨_, rfl⟩
        have F' := fld HF.out.1
        have hxq : x < D.q := by rw [HN.out.2.2.2.2.2]; exact el_mul F' _ _ _ _
        have hyq : y < D.q := by rw [hy]; exact F'.mul_lt _ _
        have HC2 : Hid (∀ d, Calls Try.prog 66 #[.pointer (some ⟨F, 0, none⟩), .int .i64 (b : Nat)] (w'.drewN d) fun e w2 => e = .returned (.int .i64 (bi : Nat)) ∧ ∃ k, w2 = w'.drewN k) := fun d => by
          rw [hbi]
          refine (inv_nat' HF.out.1 (HN.out.2.2.2.1.drewN d) HG.out.1.bq HG.out.1.b0).mono ?_
          rintro e w' ⟨rfl, k, rfl⟩
          exact ⟨rfl, d + k, by rw [World.drewN_drewN]⟩
        have HC3 : Hid (∀ d, Calls Try.prog 20 #[.pointer (some ⟨F, 0, none⟩), .int .i64 (x : Nat), .int .i64 (bi : Nat)] (w'.drewN d) fun e w2 => e = .returned (.int .i64 (y : Nat)) ∧ ∃ k, w2 = w'.drewN k) := fun d => by
          rw [hy]
          refine (mul_nat HF.out.1 (HN.out.2.2.2.1.drewN d) hxq (by rw [hbi]; exact iv_lt HF.out.1 _)).mono ?_
          rintro e w' ⟨rfl, k, rfl⟩
          exact ⟨rfl, d + k, by rw [World.drewN_drewN]⟩
        have HC4 : Hid (∀ d, Calls Try.prog 63 #[.pointer (some ⟨F, 0, none⟩), .slice ro lc rc, .int .i64 (y : Nat), .slice no (lo + 1) nc] (w'.drewN d) fun e w2 => ∃ bo, e = .returned (.slice bo lb lb) ∧ Hid (Arg bo lb lb (fun j => ((C2 j : Nat) : Int)) w2 ∧ Below w'.heap.size w' w2)) := fun d => by
          refine (eless_any HF.out.1 (HN.out.2.2.2.1.drewN d) (by omega) (by omega) HG.out.1.rul.el (el_sh F' 1 HG.out.1.elo) HG.out.1.bdc (sh_bd HG.out.1.bdo) (show Sl ro lc C (w'.drewN d) from HN.out.2.2.2.2.1.sl) (show Sl no (lo + 1) (psh 1 O) (w'.drewN d) from HN.out.2.2.1.sl) HN.out.2.2.2.2.1.lt HN.out.2.2.1.lt hyq).mono ?_
          rintro e w' ⟨rfl, hrow, hb⟩
          rw [← hlb] at hrow ⊢
          rw [← hC2] at hrow
          exact ⟨_, rfl, row_arg hrow (by omega), ⟨hb.os, hb.tape, hb.output, hb.size, hb.block⟩⟩
        have HS := bms_step HF.out.1 HF.out.2.2.1 HG.out.1 HN.out.2.2.2.2.2 HE.out hlb
        rw [← hbi, ← hy, ← hC2] at HS
        have HS : Hid _ := HS
        have hlb2 : lb ≤ 130 := by omega
        clear hbi hy hlb hC2 F' hxq hyq
        go_wp2_with fail
        refine (HC2.out _).mono ?_
        rintro e w2 ⟨rfl, k2, rfl⟩
        go_wp2_with fail
        refine (HC3.out _).mono ?_
        rintro e w2 ⟨rfl, k3, rfl⟩
        go_wp2_with fail
        refine (HC4.out _).mono ?_
        rintro e w3 ⟨bo, rfl, HL⟩
        by_cases h2 : 2 * L ≤ i
        · have hw2 : (2 * (L : Int) ≤ (i : Int)) := by omega
          have hw3 : IntKind.i64.wrap (2 * (L : Int)) = ((2 * L : Nat) : Int) := wrap_to (by omega) (by omega)
          obtain ⟨L2, hL2⟩ : ∃ L2, L2 = i + 1 - L := ⟨_, rfl⟩
          have hw4 : IntKind.i64.wrap (((i + 1 : Nat) : Int) - (L : Int)) = (L2 : Int) := wrap_to (by omega) (by omega)
          have hw5 : (i : Int) + 1 - (L : Int) = (L2 : Int) := by omega
          have HS2 : Hid (BMS D s (i + 1) C2 lb L2 C lc x) := by show BMS _ _ _ _ _ _ _ _ _; rw [hL2]; exact HS.out.1 h2
          have hw6 : ((2 * L : Nat) : Int) ≤ (i : Int) := by omega
          clear h2 hL2
          go_wp2
          go_roundw
          case rel => exact ⟨i + 1, lb, L2, lc, x, bo, ro, lb, rc, C2, C, by omega, rfl, by first | rfl | go_num, rfl, rfl, by go_num, HS2.out, HL.out.1, HN.out.2.2.2.2.1.below HL.out.2, bel_up' HN.out.2.1 HL.out.2⟩
          case measure => simp [intOf]; omega
        · have hw2 : ¬ (2 * (L : Int) ≤ (i : Int)) := by omega
          have hw3 : IntKind.i64.wrap (2 * (L : Int)) = ((2 * L : Nat) : Int) := wrap_to (by omega) (by omega)
          have hw6 : ¬ ((2 * L : Nat) : Int) ≤ (i : Int) := by omega
          have HS2 : Hid (BMS D s (i + 1) C2 lb L (psh 1 O) (lo + 1) b) := HS.out.2 h2
          clear h2
          go_wp2
          go_roundw
          case rel => exact ⟨i + 1, lb, L, lo + 1, b, bo, no, lb, nc, C2, psh 1 O, by omega, rfl, rfl, rfl, rfl, by go_num, HS2.out, HL.out.1, HN.out.2.2.1.below HL.out.2, bel_up' HN.out.2.1 HL.out.2⟩
          case measure => simp [intOf]; omega
    · have hib : ¬ (i : Int) < (n : Int) := by omega
      have hin : n = i := by omega
      subst hin
      have HC1 : Hid (Calls Try.prog 67 #[.slice ro lc rc] wr fun e w2 => e = .returned (.slice ro (dgn C lc) rc) ∧ w2 = wr) := etrim_any (show Sl ro lc C wr from HG.out.2.1.sl) HG.out.2.1.le HG.out.2.1.cap HG.out.2.1.few
      go_wp2_with fail
      refine HC1.out.mono ?_
      rintro e w2 ⟨rfl, rfl⟩
      go_wp2
      go_ret2
      exact ⟨HG.out.2.2.2, ro, rc, C, lc, L, O, lo, b, rfl, HG.out.1, HG.out.2.1⟩
end Go.Proofs.Ytcgmllamiaflcaa
