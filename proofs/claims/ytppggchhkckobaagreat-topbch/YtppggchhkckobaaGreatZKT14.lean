/- Texts of ours, one behind the other: KT14 KT15 KT16. -/
import Derived.Test.YtppggchhkckobaaGreatZKT13
import Derived.Test.YtppggchhkckobaaGreatZKT9
import Derived.Test.YtppggchhkckobaaGreatZG2
import Derived.Test.YtppggchhkckobaaGreatZK6
/- Cyclic: the generator with all that is known of it; zeroAt. -/
namespace Go.Proofs.YtppggchhkckobaaGreat
open Go.RowKit Go.Sort

/-- What is known of a generator. -/
structure Gfl (E : FD) (n : Nat) (z : Nat → Nat) (m : Nat) (G : FD) (b : Nat) (L : List Nat) : Prop where
  gf : G ∈ fieldsL
  ov : E.p = G.p ∧ G.m % E.m = 0
  rt : Rt G b n
  tg : TgL E.q n z m L
  gn : Gnr G E b n (rsn n L)
theorem Szo.zeros {E : FD} {n : Nat} (h : Szo E n) {m zc : Nat} {zo : Option Addr} {z : Nat → Nat} {w : World} (hm : m ≤ 64) (hz : SlZ zo m (fun i => ((z i : Nat) : Int)) w) (hzl : LtB zo w.heap.size) (hzn : ∀ i, i < m → z i < n) :
    Calls Tryz.prog 35 #[.int .i64 E.q, .int .i64 (n : Nat), .slice zo m zc] w fun x w' => x = .returned (.int .i64 0) ∧ Below w.heap.size w w' := by
  have hc := czeros_any (zc := zc) (e := Go.Proofs.YtppggchhkckobaaGreat.cyc E (n : Int)) (q := E.q) (n := (n : Nat)) hz hzl (by omega) (fun w1 => cychk_any h.fld (n : Int) w1)
  have e : czs (Go.Proofs.YtppggchhkckobaaGreat.cyc E (n : Int)) (n : Int) m (fun i => ((z i : Nat) : Int)) = 0 := by
    unfold czs
    rw [h.cyc, if_neg (by omega), if_neg (by omega), if_neg]
    rw [anyB_no m (fun j hj => ?_)]
    · intro c; cases c
    · have := hzn j hj
      show (decide (((z j : Nat) : Int) < 0) || decide ((n : Int) ≤ ((z j : Nat) : Int))) = false
      rw [decide_eq_false (by omega), decide_eq_false (by omega)]; rfl
  rw [e] at hc
  exact hc
theorem gen_full {E : FD} {n : Nat} (h : Szo E n) {m zc : Nat} {zo : Option Addr} {z : Nat → Nat} {w : World} (hm : m ≤ 64) (hz : SlZ zo m (fun i => ((z i : Nat) : Int)) w) (hzl : LtB zo w.heap.size) (hzn : ∀ i, i < m → z i < n) :
    Calls Tryz.prog 10 #[.int .i64 E.q, .int .i64 (n : Nat), .slice zo m zc] w fun x w' => ∃ ao M ca G b L Q K, x = .returned (.tuple #[.slice ao M ca, .int .i64 0]) ∧ M = (rsn n L).length + 1 ∧ Arg ao M ca (fun j => ((gnr G E b (rsn n L) j : Nat) : Int)) w' ∧ Gfl E n z m G b L ∧ Dvs E n (gnr G E b (rsn n L)) Q M K ∧ Below w.heap.size w w' := by
  have hO := ord_of h.fld h.n1 h.n64 h.p
  have hC := h.zeros (zc := zc) hm hz hzl hzn
  obtain ⟨G, hW, hR⟩ := h.wr
  refine (cgen_ok h.fld hW hO h.n1 h.n64 hm hz hzl hzn hC hR).mono ?_
  rintro x w' ⟨v, L, rfl, hL, ho, hb⟩
  obtain ⟨b, hbe⟩ : ∃ b, b = G.xp G.gen ((G.q - 1) / n) := ⟨_, rfl⟩
  have hrt : Rt G b n := by
    rw [hbe, ← pw_xp hW.fld (gen_ne hW.fld).2]
    exact root_rt hW.fld hW.root
  rw [← hbe] at ho
  have hcS := rsn_cl hL.lt hL.cl
  have gS := gnr_is hW.fld h.fld hW.over hrt hO (rsn_nd n L) rsn_lt hcS
  have gT := gnr_is hW.fld h.fld hW.over hrt hO (List.nodup_range.filter _) (fun k hk => List.mem_range.1 (List.mem_filter.1 hk).1) (co_cl hO hcS)
  have hp := co_perm (rsn_nd n L) (rsn_lt (n := n) (L := L))
  have hdv := gnr_div hW.fld h.fld hW.over h.n1 hrt gS gT hp
  have hlen := hp.length_eq
  rw [List.length_append, List.length_range] at hlen
  obtain ⟨ao, ca, rfl, hA⟩ := ho.argL
  refine ⟨ao, _, ca, G, b, L, _, ((List.range n).filter fun k => !(rsn n L).contains k).length, rfl, rfl, hA.arg (by have := rsn_len (n := n) (L := L); have := h.n64; omega), ⟨hW.fld, hW.over, hrt, hL, gS⟩, ⟨by omega, gS.el, gS.bd, ?_, by omega, gT.el, gT.bd, ?_, hdv⟩, hb⟩
  · rw [Nat.add_sub_cancel, gS.top]; omega
  · rw [gT.top]; omega
/-- A code of zeros. -/
def Zat (E : FD) (n : Nat) (z : Nat → Nat) (m k : Nat) (R : Nat → Nat → Nat) : Prop := ∃ G b L K, Gfl E n z m G b L ∧ K + ((rsn n L).length + 1) = n + 1 ∧ Red E n K (fun i => psh i (gnr G E b (rsn n L))) k R
theorem slz_bel {zo : Option Addr} {m : Nat} {z : Nat → Int} {w w' : World} (h : SlZ zo m z w) (hl : LtB zo w.heap.size) (hb : Below w.heap.size w w') : SlZ zo m z w' ∧ LtB zo w'.heap.size := ⟨fun i hi => by
  obtain ⟨b, off, e, k⟩ := h i hi
  exact ⟨b, off, e, (hb.cell (p := ⟨b, off + i, none⟩) (show b < w.heap.size from hl _ e)).trans k⟩, fun x hx => Nat.lt_of_lt_of_le (hl x hx) hb.size⟩

set_option maxHeartbeats 8000000 in
set_option maxRecDepth 100000 in
theorem zat_ok {E : FD} {n : Nat} (h : Szo E n) {m zc : Nat} {zo : Option Addr} {z : Nat → Nat} {w : World} (hm : m ≤ 64) (hz : SlZ zo m (fun i => ((z i : Nat) : Int)) w) (hzl : LtB zo w.heap.size) (hzn : ∀ i, i < m → z i < n) :
    Calls Tryz.prog 63 #[.int .i64 E.q, .int .i64 (n : Nat), .slice zo m zc] w fun x w' => ∃ k R ro rc, x = .returned (.tuple #[.agg #[.int .i64 E.q, .int .i64 (n : Nat), .slice ro k rc], .int .i64 0]) ∧ MV w.heap.size (.slice ro k rc) k n R w' ∧ Zat E n z m k R ∧ Below w.heap.size w w' := by
  obtain ⟨w0, hw0⟩ : ∃ w0, w0 = w.alloc (.cells #[.int .i64 0, .int .i64 0, .slice none 0 0] 35) := ⟨_, rfl⟩
  have HW : Hid (Below w.heap.size w w0 ∧ RB w.heap.size w0 ∧ w0.heap.size = w.heap.size + 1) := by
    rw [hw0]; exact ⟨(Below.refl _ _).alloc (Nat.le_refl _) _, RB.new _ _ _ _, by simp⟩
  have HZ : Hid (Szo E n ∧ SlZ zo m (fun i => ((z i : Nat) : Int)) w0 ∧ LtB zo w0.heap.size ∧ ∀ i, i < m → z i < n) := ⟨h, (slz_bel hz hzl HW.out.1).1, (slz_bel hz hzl HW.out.1).2, hzn⟩
  clear h hz hzl hzn
  go_enter Tryz.func63, Tryz.ntmps63
  go_wp2_with fail
  rw [← hw0]
  clear hw0
  refine (gen_full HZ.out.1 hm HZ.out.2.1 HZ.out.2.2.1 HZ.out.2.2.2).mono ?_
  rintro x w1 ⟨ao, M, ca, G, b, L, Q, K, rfl, hM, hA, hgf, hdv, hb1⟩
  have H1 : Hid (Szo E n ∧ Arg ao M ca (fun j => ((gnr G E b (rsn n L) j : Nat) : Int)) w1 ∧ Gfl E n z m G b L ∧ Dvs E n (gnr G E b (rsn n L)) Q M K ∧ M = (rsn n L).length + 1 ∧ Below w.heap.size w w1 ∧ RB w.heap.size w1 ∧ w.heap.size < w1.heap.size) := ⟨HZ.out.1, hA, hgf, hdv, hM, bel_up' HW.out.1 hb1, HW.out.2.1.keep hb1, by have := hb1.size; have := HW.out.2.2; omega⟩
  clear hM hA hgf hdv hb1 HZ HW
  go_wp2_with fail
  refine (cOf_mv H1.out.1.fld H1.out.2.1 H1.out.2.2.2.1.m1 H1.out.2.2.2.1.el H1.out.2.2.2.1.bd H1.out.2.2.2.1.top H1.out.1.n1 H1.out.1.n64 H1.out.2.2.2.1.sum H1.out.2.2.2.1.elQ H1.out.2.2.2.1.bdQ H1.out.2.2.2.1.topQ H1.out.2.2.2.1.mul).mono ?_
  rintro x w11 ⟨k, R, ro, rc, rfl, hmv, hred, hb11⟩
  have H11 : Hid (MV w1.heap.size (.slice ro k rc) k n R w11 ∧ Zat E n z m k R ∧ Below w.heap.size w w11 ∧ RB w.heap.size w11 ∧ w.heap.size < w1.heap.size) :=
    ⟨hmv, ⟨G, b, L, K, H1.out.2.2.1, by have := H1.out.2.2.2.1.sum; have := H1.out.2.2.2.2.1; omega, hred⟩, bel_up' H1.out.2.2.2.2.2.1 hb11, H1.out.2.2.2.2.2.2.1.keep hb11, H1.out.2.2.2.2.2.2.2⟩
  clear hmv hred hb11 H1
  obtain ⟨⟨x0, c0⟩, ⟨x1, c1⟩, ⟨x2, c2⟩, f0, f1, f2⟩ := H11.out.2.2.2.1
  go_wp2
  obtain ⟨w12, hw12⟩ : ∃ w12, w12 = laid w11 w.heap.size E.q (n : Nat) (.slice ro k rc) := ⟨_, rfl⟩
  have H12 : Hid (CB w.heap.size E.q (n : Nat) (.slice ro k rc) w12 ∧ MV w.heap.size (.slice ro k rc) k n R w12 ∧ Below w.heap.size w w12) := by
    rw [hw12]; exact ⟨laid_cb H11.out.2.2.2.1 _ _ _, (laid_mv H11.out.1 H11.out.2.2.2.2 _ _ _).mono (Nat.le_of_lt H11.out.2.2.2.2), laid_below H11.out.2.2.1 (Nat.le_refl _) _ _ _⟩
  unfold laid at hw12
  rw [← hw12]
  clear hw12 c0 c1 c2 f0 f1 f2
  obtain ⟨c0, c1, c2⟩ := H12.out.1
  refine bodyPost_ret (v := .tuple #[.agg #[.int .i64 E.q, .int .i64 (n : Nat), .slice ro k rc], .int .i64 0]) (by simp [results, Tryz.results63, go_sem, c0, c1, c2]) rfl ?_
  exact ⟨_, R, _, _, rfl, H12.out.2.1, H11.out.2.1, H12.out.2.2⟩
end Go.Proofs.YtppggchhkckobaaGreat

/- Cyclic: BCH. -/
namespace Go.Proofs.YtppggchhkckobaaGreat
open Go.RowKit Go.Sort

/-- Zeros in a row. -/
def bzrow (n f : Nat) (i : Nat) : Nat := (f + i) % n

set_option maxHeartbeats 8000000 in
set_option maxRecDepth 100000 in
theorem bch_ok {E : FD} {n f m : Nat} (h : Szo E n) (hf : f < n) (hm : m < n) (w : World) :
    Calls Tryz.prog 18 #[.int .i64 E.q, .int .i64 (n : Nat), .int .i64 (f : Nat), .int .i64 (m : Nat)] w fun x w' => ∃ k R ro rc, x = .returned (.tuple #[.agg #[.int .i64 E.q, .int .i64 (n : Nat), .slice ro k rc], .int .i64 0]) ∧ MV w.heap.size (.slice ro k rc) k n R w' ∧ Zat E n (bzrow n f) m k R ∧ Below w.heap.size w w' := by
  obtain ⟨w0, hw0⟩ : ∃ w0, w0 = w.alloc (.cells #[.int .i64 0, .int .i64 0, .slice none 0 0] 35) := ⟨_, rfl⟩
  have HW : Hid (Below w.heap.size w w0 ∧ RB w.heap.size w0 ∧ w0.heap.size = w.heap.size + 1) := by
    rw [hw0]; exact ⟨(Below.refl _ _).alloc (Nat.le_refl _) _, RB.new _ _ _ _, by simp⟩
  have hn1 := h.n1
  have hn64 := h.n64
  have HC : Hid (Calls Tryz.prog 30 #[.int .i64 E.q, .int .i64 (n : Nat)] w0 fun x w' => x = .returned (.int .i64 0) ∧ Below w0.heap.size w0 w') := by
    have hc := cychk_any h.fld (n : Int) w0
    rw [h.cyc] at hc
    exact hc
  have HZ : Hid (Szo E n) := h
  have hf1 : ¬ (f : Int) < 0 := by omega
  have hf2 : ¬ (f : Int) ≥ (n : Int) := by omega
  have hf3 : ¬ (n : Int) ≤ (f : Int) := by omega
  have hm1 : ¬ (m : Int) < 0 := by omega
  have hm2 : ¬ (m : Int) ≥ (n : Int) := by omega
  have hm3 : ¬ (n : Int) ≤ (m : Int) := by omega
  clear h
  go_enter Tryz.func18, Tryz.ntmps18
  go_wp2_with fail
  rw [← hw0]
  clear hw0
  refine HC.out.mono ?_
  rintro x w1 ⟨rfl, hb1⟩
  have H1 : Hid (Below w.heap.size w w1 ∧ RB w.heap.size w1 ∧ w.heap.size < w1.heap.size) := ⟨bel_up' HW.out.1 hb1, HW.out.2.1.keep hb1, by have := hb1.size; have := HW.out.2.2; omega⟩
  clear hb1 HW HC
  go_wp2_with (first | (at_make; refine make_int rfl _ _ rfl _ m rfl rfl rfl (by omega) ?_; intro w3 hown3 hgrow3))
  have H3 : Hid (Row w1.heap.size m pnil w3 ∧ Below w1.heap.size w1 w3) := ⟨row_zeros hown3, below_grown hgrow3 (Nat.le_refl _) (fun k hk => by simp at hk)⟩
  clear hown3 hgrow3
  obtain ⟨g, hg⟩ : ∃ g, g = w1.heap.size := ⟨_, rfl⟩
  rw [← hg] at H3
  try rw [← hg]
  have HG : Hid (g = w1.heap.size) := hg
  clear hg
  go_loopw [43] (fun vi wr => ∃ r : Nat, ∃ c : Nat → Nat, r ≤ m ∧ vi = .int .i64 (r : Nat) ∧ Hid (Row g m c wr ∧ (∀ i, i < r → c i = bzrow n f i) ∧ Below g w1 wr)) (fun vi _ => m - (intOf vi).toNat)
  case atStart => exact ⟨0, pnil, by omega, rfl, H3.out.1, fun i hi => absurd hi (by omega), by rw [HG.out]; exact HG.out ▸ H3.out.2⟩
  case round =>
    obtain ⟨r, c, hr, rfl, HI⟩ := hrel
    rename World => wr
    by_cases hlt : r < m
    · have hib : (r : Int) < (m : Int) := by omega
      have hib0 : (0 : Int) ≤ (r : Int) := by omega
      obtain ⟨u, hu⟩ : ∃ u, u = f + r := ⟨_, rfl⟩
      have hui : (f : Int) + (r : Int) = (u : Int) := by omega
      have huw : IntKind.i64.wrap (u : Int) = (u : Int) := wrap_to rfl (by omega)
      obtain ⟨x, hx⟩ : ∃ x, x = u % n := ⟨_, rfl⟩
      have hrm : (u : Int).tmod (n : Int) = (x : Int) := by rw [Int.tmod_eq_emod_of_nonneg (by omega), hx]; omega
      have hre : (u : Int) % (n : Int) = (x : Int) := by rw [hx]; omega
      have hn0 : ¬ (n : Int) = 0 := by omega
      have hn0b : ((n : Int) == 0) = false := by rw [beq_eq_false_iff_ne]; omega
      have HX : Hid (x = bzrow n f r) := by show _ = _; rw [hx, hu]; rfl
      clear hu hx
      have c0 := HI.out.1.cell r hlt
      have f0 := HI.out.1.free r
      go_wp2
      have HN : Hid (Row g m (fun j => if j = r then x else c j) (wr.setCell ⟨g, r, none⟩ (.int .i64 (x : Nat))) ∧ (∀ i, i < r + 1 → (fun j => if j = r then x else c j) i = bzrow n f i) ∧ Below g w1 (wr.setCell ⟨g, r, none⟩ (.int .i64 (x : Nat)))) := by
        refine ⟨HI.out.1.store r x (fun j _ => rfl), fun i hi => ?_, HI.out.2.2.setCell (Nat.le_refl _) _⟩
        show (if i = r then x else c i) = bzrow n f i
        by_cases e : i = r
        · rw [if_pos e, e]; exact HX.out
        · rw [if_neg e]; exact HI.out.2.1 i (by omega)
      clear c0 f0
      go_roundw
      case rel => exact ⟨r + 1, _, by omega, by go_num, HN.out⟩
      case measure => simp [intOf]; omega
    · have hib : ¬ (r : Int) < (m : Int) := by omega
      have hre : r = m := by omega
      subst hre
      have HB : Hid (Below w1.heap.size w1 wr ∧ SlZ (some ⟨g, 0, none⟩) r (fun i => ((bzrow n f i : Nat) : Int)) wr ∧ g < wr.heap.size) := by
        refine ⟨by have h1 := HI.out.2.2; rw [HG.out] at h1; exact h1, fun i hi => ⟨g, 0, rfl, ?_⟩, HI.out.1.lt⟩
        rw [Nat.zero_add, HI.out.1.cell i hi, HI.out.2.1 i hi]
      go_wp2_with fail
      refine (zat_ok HZ.out (by omega) HB.out.2.1 (fun x hx => by cases hx; exact HB.out.2.2) (fun i _ => Nat.mod_lt _ (by omega))).mono ?_
      rintro x w11 ⟨k, R, ro, rc, rfl, hmv, hzat, hb11⟩
      have H11 : Hid (MV wr.heap.size (.slice ro k rc) k n R w11 ∧ Zat E n (bzrow n f) r k R ∧ Below w.heap.size w w11 ∧ RB w.heap.size w11 ∧ w.heap.size < wr.heap.size) := by
        have hbb := bel_up' HB.out.1 hb11
        exact ⟨hmv, hzat, bel_up' H1.out.1 hbb, H1.out.2.1.keep hbb, by have := HB.out.1.size; have := H1.out.2.2; omega⟩
      clear hmv hzat hb11
      obtain ⟨⟨x0, c0⟩, ⟨x1, c1⟩, ⟨x2, c2⟩, f0, f1, f2⟩ := H11.out.2.2.2.1
      go_wp2
      obtain ⟨w12, hw12⟩ : ∃ w12, w12 = laid w11 w.heap.size E.q (n : Nat) (.slice ro k rc) := ⟨_, rfl⟩
      have H12 : Hid (CB w.heap.size E.q (n : Nat) (.slice ro k rc) w12 ∧ MV w.heap.size (.slice ro k rc) k n R w12 ∧ Below w.heap.size w w12) := by
        rw [hw12]; exact ⟨laid_cb H11.out.2.2.2.1 _ _ _, (laid_mv H11.out.1 H11.out.2.2.2.2 _ _ _).mono (Nat.le_of_lt H11.out.2.2.2.2), laid_below H11.out.2.2.1 (Nat.le_refl _) _ _ _⟩
      unfold laid at hw12
      rw [← hw12]
      clear hw12 c0 c1 c2 f0 f1 f2
      obtain ⟨c0, c1, c2⟩ := H12.out.1
      refine bodyPost_ret (v := .tuple #[.agg #[.int .i64 E.q, .int .i64 (n : Nat), .slice ro k rc], .int .i64 0]) (by simp [results, Tryz.results18, go_sem, c0, c1, c2]) rfl ?_
      exact ⟨_, R, _, _, rfl, H12.out.2.1, H11.out.2.1, H12.out.2.2⟩
end Go.Proofs.YtppggchhkckobaaGreat

/- Cyclic: the walk of TopBCH. -/
namespace Go.Proofs.YtppggchhkckobaaGreat
open Go.RowKit Go.Sort

theorem bnr_eq {q n m : Nat} {z : Nat → Nat} {L L' : List Nat} (h : TgL q n z m L) (h' : TgL q n z m L') : bnr n L = bnr n L' := by
  have e : (fun x => L.contains x) = fun x => L'.contains x := funext fun x => by
    have hi : x ∈ L ↔ x ∈ L' := (h.mem x).trans (h'.mem x).symm
    rw [Bool.eq_iff_iff, List.contains_iff_mem, List.contains_iff_mem]
    exact hi
  unfold bnr
  rw [e]
theorem pkT_any {c : Int} (hc : I64 c) {n : Nat} (h0 : 0 < n) (hn : n ≤ 1000) : ∃ x : Nat, x < n ∧ ∀ w : World, Calls Tryz.prog 23 #[.int .i64 c, .int .i64 (n : Nat)] w fun e w' => e = .returned (.int .i64 (x : Nat)) ∧ w' = w := by
  have h1 := pick_lo c (n : Int) (by omega)
  have h2 := pick_hi c (n : Int) (by omega)
  refine ⟨(pick c (n : Int)).toNat, by omega, fun w => ?_⟩
  have h := pick_any c (n : Int) w hc.1 hc.2 (by omega) (by omega)
  rw [show (((pick c (n : Int)).toNat : Nat) : Int) = pick c (n : Int) by omega]
  exact h

set_option maxHeartbeats 16000000 in
set_option maxRecDepth 100000 in
theorem topBCH_walk {wh fr mn : Int} (hw : I64 wh) (hf : I64 fr) (hm : I64 mn) (w : World) :
    Calls Tryz.prog 6 #[.int .i64 wh, .int .i64 fr, .int .i64 mn] w fun r w' => r = .returned (.bool true) ∧ Below w.heap.size w w' := by
  have HC : Hid (I64 wh ∧ I64 fr ∧ I64 mn) := ⟨hw, hf, hm⟩
  clear hw hf hm
  go_enter Tryz.func6, Tryz.ntmps6
  go_wp2_with fail
  refine (sizeOf_top HC.out.1.1 HC.out.1.2 w).mono ?_
  rintro e w1 ⟨q, n, rfl, hst, hb1⟩
  obtain ⟨E, hq, hz⟩ := stb_of hst
  subst hq
  have hn1 := hz.n1
  have hn64 := hz.n64
  have hE64 : E.q ≤ 64 := (fld hz.fld).q64
  have h2q := (fld hz.fld).q2
  have H1 : Hid (Szo E n ∧ Below w.heap.size w w1) := ⟨hz, hb1⟩
  clear hz hb1 hst
  obtain ⟨f, hfn, hpf⟩ := pkT_any HC.out.2.1 (n := n) (by omega) (by omega)
  obtain ⟨m, hmn, hpm⟩ := pkT_any HC.out.2.2 (n := n) (by omega) (by omega)
  have HP : Hid ((∀ w : World, Calls Tryz.prog 23 #[.int .i64 fr, .int .i64 (n : Nat)] w fun e w' => e = .returned (.int .i64 (f : Nat)) ∧ w' = w) ∧ ∀ w : World, Calls Tryz.prog 23 #[.int .i64 mn, .int .i64 (n : Nat)] w fun e w' => e = .returned (.int .i64 (m : Nat)) ∧ w' = w) := ⟨hpf, hpm⟩
  clear hpf hpm HC
  go_wp2_with fail
  refine (HP.out.1 w1).mono ?_
  rintro e w1' ⟨rfl, hw1⟩
  have hw1 := hw1.symm
  subst hw1
  go_wp2_with fail
  refine (HP.out.2 w1).mono ?_
  rintro e w1' ⟨rfl, hw1⟩
  have hw1 := hw1.symm
  subst hw1
  clear HP
  go_wp2_with fail
  refine (bch_ok H1.out.1 hfn hmn w1).mono ?_
  rintro e w4 ⟨k, R, ro, rc, rfl, hmv, hzat, hb4⟩
  obtain ⟨w5, hw5⟩ : ∃ w5, w5 = w4.alloc (.cells #[.int .i64 E.q, .int .i64 (n : Nat), .slice ro k rc] 35) := ⟨_, rfl⟩
  obtain ⟨g1, g2, g3⟩ := box_at E.q (n : Nat) (.slice ro k rc) w4
  rw [← hw5] at g1 g2 g3
  obtain ⟨G, b, L0, K, hgf, hK, hred⟩ := hzat
  have hkn := hred.le
  have hcod : Cod E n ro k R w4 := hmv.cod hn1 hn64 (by omega) hred.rows.1 hred.rows.2
  obtain ⟨B, hB⟩ : ∃ B, B = w4.heap.size := ⟨_, rfl⟩
  rw [← hB] at g2
  have H5 : Hid (Szo E n ∧ (Gfl E n (bzrow n f) m G b L0 ∧ K + ((rsn n L0).length + 1) = n + 1 ∧ Red E n K (fun i => psh i (gnr G E b (rsn n L0))) k R) ∧ Cod E n ro k R w5 ∧ CB B E.q (n : Nat) (.slice ro k rc) w5 ∧ Below w.heap.size w w5) := ⟨H1.out.1, ⟨hgf, hK, hred⟩, hcod.below g1, g2, bel_up' (bel_up' H1.out.2 hb4) g1⟩
  clear hmv hgf hK hred hcod hb4 g1 g2 g3 H1
  go_wp2
  rw [← hw5, ← hB]
  clear hw5 hB
  go_loopw [11, 12] (fun vl vi wr => ∃ r : Nat, r ≤ m ∧ vi = .int .i64 (r : Nat) ∧ Hid (OwnI w5.heap.size vl (zl r fun i => ((bzrow n f i : Nat) : Int)) wr ∧ Below w5.heap.size w5 wr)) (fun _ vi _ => m - (intOf vi).toNat)
  case atStart => exact ⟨0, by omega, rfl, OwnI.nil _ _, Below.refl _ _⟩
  case round =>
    obtain ⟨r, hr, rfl, HI⟩ := hrel
    rename World => wr
    have hsz := HI.out.2.size
    by_cases hlt : r < m
    · have hib : (r : Int) < (m : Int) := by omega
      obtain ⟨u, hu⟩ : ∃ u, u = f + r := ⟨_, rfl⟩
      have hui : (f : Int) + (r : Int) = (u : Int) := by omega
      have huw : IntKind.i64.wrap (u : Int) = (u : Int) := wrap_to rfl (by omega)
      obtain ⟨x, hx⟩ : ∃ x, x = u % n := ⟨_, rfl⟩
      have hrm : (u : Int).tmod (n : Int) = (x : Int) := by rw [Int.tmod_eq_emod_of_nonneg (by omega), hx]; omega
      have hre : (u : Int) % (n : Int) = (x : Int) := by rw [hx]; omega
      have hn0 : ¬ (n : Int) = 0 := by omega
      have hn0b : ((n : Int) == 0) = false := by rw [beq_eq_false_iff_ne]; omega
      have HX : Hid (x = bzrow n f r) := by show _ = _; rw [hx, hu]; rfl
      clear hu hx
      go_wp2_with (first
        | (at_builtin; refine append_int rfl _ _ rfl w5.heap.size _ (zl r fun i => ((bzrow n f i : Nat) : Int)) rfl (HI.out.1.alloc _) ⟨_, 0, none⟩ 1 (x : Nat) rfl (by simp) (by rw [zl_len]; omega) (by simp; omega) ?_; intro v2 w3 hown3 hgrow3))
      have HN : Hid (OwnI w5.heap.size v2 (zl (r + 1) fun i => ((bzrow n f i : Nat) : Int)) w3 ∧ Below w5.heap.size w5 w3) := by
        refine ⟨?_, (HI.out.2.alloc hsz _).grown hgrow3 (by simp; omega) (fun k hk => (HI.out.1.lt k hk).1)⟩
        rw [zl_succ, ← HX.out]; exact hown3
      clear hown3 hgrow3
      go_roundw
      case rel => exact ⟨r + 1, by omega, by go_num, HN.out⟩
      case measure => simp [intOf]; omega
    · have hib : ¬ (r : Int) < (m : Int) := by omega
      have hre : r = m := by omega
      subst hre
      obtain ⟨zo, zc2, hv, hA⟩ := HI.out.1.argL
      subst hv
      have H6 : Hid (Szo E n ∧ (Gfl E n (bzrow n f) r G b L0 ∧ K + ((rsn n L0).length + 1) = n + 1 ∧ Red E n K (fun i => psh i (gnr G E b (rsn n L0))) k R) ∧ Cod E n ro k R wr ∧ CB B E.q (n : Nat) (.slice ro k rc) wr ∧ Below w.heap.size w wr ∧ ArgL zo r zc2 (fun i => ((bzrow n f i : Nat) : Int)) wr) := ⟨H5.out.1, H5.out.2.1, H5.out.2.2.1.below HI.out.2, H5.out.2.2.2.1.keep HI.out.2, bel_up' H5.out.2.2.2.2 HI.out.2, hA⟩
      clear hA HI H5
      go_wp2_with fail
      have hzlt : ∀ i, i < r → bzrow n f i < n := fun i _ => Nat.mod_lt _ (by omega)
      refine (bound_ok (z := bzrow n f) hE64 hn1 hn64 (by omega) H6.out.2.2.2.2.2.sl H6.out.2.2.2.2.2.lt hzlt (H6.out.1.zeros (by omega) H6.out.2.2.2.2.2.sl H6.out.2.2.2.2.2.lt hzlt)).mono ?_
      rintro e w7 ⟨L, rfl, htg, hb7⟩
      have hbL := bnr_eq htg H6.out.2.1.1.tg
      have hge : r ≤ bnr n L := bnr_ge hn1 hfn (by omega) (fun i hi => (htg.mem _).2 ⟨i, hi, 0, orb_zero (hzlt i hi)⟩)
      obtain ⟨bn, hbn⟩ : ∃ bn, bn = bnr n L + 1 := ⟨_, rfl⟩
      have hbn64 : bn ≤ 65 := by have := bnr_le n L; omega
      rw [← hbn]
      have hbm : ¬ (bn : Int) ≤ (r : Int) := by omega
      have H7 : Hid (Szo E n ∧ (Gfl E n (bzrow n f) r G b L0 ∧ K + ((rsn n L0).length + 1) = n + 1 ∧ Red E n K (fun i => psh i (gnr G E b (rsn n L0))) k R) ∧ Cod E n ro k R w7 ∧ CB B E.q (n : Nat) (.slice ro k rc) w7 ∧ Below w.heap.size w w7 ∧ bn = bnr n L0 + 1) := ⟨H6.out.1, H6.out.2.1, H6.out.2.2.1.below hb7, H6.out.2.2.2.1.keep hb7, bel_up' H6.out.2.2.2.2.1 hb7, by omega⟩
      clear hb7 htg H6 hbL hge hbn
      obtain ⟨qc0, qc1, qc2⟩ := H7.out.2.2.2.1
      have hlc := cell_lt qc0
      by_cases hk0 : k = 0
      · have hkb : ((k : Int) == 0) = true := by rw [beq_iff_eq]; omega
        go_wp2
        go_ret
        exact ⟨rfl, H7.out.2.2.2.2.1⟩
      · have hkb : ((k : Int) == 0) = false := by rw [beq_eq_false_iff_ne]; omega
        go_wp2_with fail
        refine (fewR_any E.q k (by omega) hE64 (by omega) w7).mono ?_
        rintro e w8 ⟨bb, rfl, hfew, hw8⟩
        have hw8 := hw8.symm
        subst hw8
        cases bb with
        | false =>
          go_wp2
          go_ret
          exact ⟨rfl, H7.out.2.2.2.2.1⟩
        | true =>
          have hfq : E.q ^ k ≤ 4096 := hfew.1 rfl
          have HQ : Hid (E.q ^ k ≤ 4096) := hfq
          clear hfew hfq
          go_wp2_with fail
          refine (H7.out.2.2.1.dist H7.out.1.fld rc).mono ?_
          rintro e w9 ⟨k', R', hred', hb9, hcs⟩
          have hkk : k' = k := (hred'.uniq (fld H7.out.1.fld) H7.out.2.1.2.2.self (fun _ => Iff.rfl)).1
          rcases hcs with ⟨_, d, hL, rfl⟩ | ⟨hno, _⟩
          · have hdb := far_bch H7.out.1.fld H7.out.2.1.1.gf H7.out.2.1.1.ov hn1 H7.out.2.1.1.rt H7.out.2.1.1.gn H7.out.2.1.2.1 H7.out.2.1.2.2 hred' hL hk0
            have hdi : (d : Int) ≥ (bn : Int) := by have := H7.out.2.2.2.2.2; omega
            have hdj : (bn : Int) ≤ (d : Int) := hdi
            have H9 : Hid (Below w.heap.size w w9) := bel_up' H7.out.2.2.2.2.1 hb9
            clear hL hb9 hred' hdb
            clear qc0 qc1 qc2 hlc
            go_wp2
            go_ret
            exact ⟨by first | rfl | simp, H9.out⟩
          · exact absurd (by rw [hkk]; exact HQ.out) hno
end Go.Proofs.YtppggchhkckobaaGreat
