/- Extend (the program's). -/
import Derived.Test.YtjkncdmbcckcdaaZI16
import Derived.Test.YtjkncdmbcckcdaaZV7
namespace Go.Proofs.Ytjkncdmbcckcdaa
open Go.RowKit Go.Sort

set_option maxHeartbeats 1000000 in
set_option maxRecDepth 100000 in
theorem cloneI_any {b off n cap : Nat} {z : Nat → Int} {w : World} (h : SlZ (some ⟨b, off, none⟩) n z w) (hn : n ≤ 1000000) (hl : b < w.heap.size) :
    Calls Try.prog 74 #[.slice (some ⟨b, off, none⟩) n cap] w fun e w' => ∃ v, e = .returned v ∧ OwnI w.heap.size v (zl n z) w' ∧ Below w.heap.size w w' := by
  have HS : Hid (SlZ (some ⟨b, off, none⟩) n z w ∧ LtB (some ⟨b, off, none⟩) w.heap.size) := ⟨h, fun x hx => by cases hx; exact hl⟩
  clear h hl
  have hrn : ∀ w1 : World, Sem.run Try.prog (binOp BinOp.eql 22 (Value.slice (some ⟨b, off, none⟩) n cap) (Value.slice none 0 0)) w1 = .ok (.bool false) w1 := fun w1 => Lib.run_eql_slice_nil w1 _ 3 (some ⟨b, off, none⟩) n cap 0 0 Try.underlying22
  go_enter Try.func74, Try.ntmps74
  go_wp2_with (at_builtin; refine append_ints rfl _ _ rfl w.heap.size _ [] rfl (own_empty (two_new _) (Nat.le_refl _)) (some ⟨b, off, none⟩) n cap z rfl (HS.out.1.below ((Below.refl _ _).alloc (Nat.le_refl _) _) HS.out.2) (fun e => by cases e) (by simpa using hn) (by simp) ?_; intro v' w' hown hgrow)
  go_ret
  exact ⟨_, rfl, hown, ((Below.refl _ _).alloc (Nat.le_refl _) _).grown hgrow (by simp) (by intro k hk; have hk : some w.heap.size = some k := hk; cases hk; exact Nat.le_refl _)⟩

set_option maxHeartbeats 16000000 in
set_option maxRecDepth 100000 in
theorem cExtend_ok {D : FD} (hD : D ∈ fieldsL) {ao : Option Addr} {m n ca : Nat} {A : Nat → Option Addr} {N C : Nat → Nat} {Z : Nat → Nat → Int} {w : World} (h : CdZ D ao m n A N C Z w) (hn : n ≤ 63)
    (hC : ∀ wx, Below w.heap.size w wx → Calls Try.prog 137 #[.agg #[.int .i64 D.q, .int .i64 (n : Nat), .slice ao m ca]] wx fun x w' => x = .returned (.int .i64 0) ∧ Below wx.heap.size wx w') :
    Calls Try.prog 109 #[.agg #[.int .i64 D.q, .int .i64 (n : Nat), .slice ao m ca]] w fun x w' => ∃ k R ro rc, x = .returned (.tuple #[.agg #[.int .i64 D.q, .int .i64 (n + 1 : Nat), .slice ro k rc], .int .i64 0]) ∧ MV w.heap.size (.slice ro k rc) k (n + 1) R w' ∧ Red D (n + 1) m (fun i => xtd D n (mzc N Z i)) k R ∧ Below w.heap.size w w' := by
  obtain ⟨w0, hw0⟩ : ∃ w0, w0 = (w.alloc (.cells #[.int .i64 D.q, .int .i64 (n : Nat), .slice ao m ca] 49)).alloc (.cells #[.int .i64 0, .int .i64 0, .slice none 0 0] 49) := ⟨_, rfl⟩
  have HW : Hid (Below w.heap.size w w0 ∧ CB w.heap.size D.q n (.slice ao m ca) w0 ∧ RB (w.heap.size + 1) w0 ∧ w0.heap.size = w.heap.size + 2) := by
    obtain ⟨h1, h2, h3, h4⟩ := two_boxes D.q n 0 0 (.slice ao m ca) (.slice none 0 0) w
    have h6 := RBt.new #[.int .i64 0, .int .i64 0, .slice none 0 0] (w.alloc (.cells #[.int .i64 D.q, .int .i64 (n : Nat), .slice ao m ca] 49))
    rw [show (w.alloc (.cells #[.int .i64 D.q, .int .i64 (n : Nat), .slice ao m ca] 49)).heap.size = w.heap.size + 1 by simp] at h6
    rw [hw0]; exact ⟨h1, h2, RB.of h3 h6, h4⟩
  have hm := (h.rows (fld hD)).1
  have hn1 := h.n1
  have HA : Hid (D ∈ fieldsL ∧ CdZ D ao m n A N C Z w) := ⟨hD, h⟩
  have HC : Hid _ := hC
  obtain ⟨N1, hN1⟩ : ∃ N1, N1 = n + 1 := ⟨_, rfl⟩
  rw [← hN1]
  have HSub : Hid (((n : Nat) : Int) + 1 = ((N1 : Nat) : Int) ∧ N1 = n + 1) := ⟨by omega, hN1⟩
  have hN1b : N1 ≤ 64 := by omega
  have hz : ((n : Int) == 64) = false := by rw [beq_eq_false_iff_ne]; omega
  clear hD h hN1 hC
  go_enter Try.func109, Try.ntmps109
  go_wp2_with fail
  rw [← hw0]
  clear hw0
  refine (HC.out _ HW.out.1).mono ?_
  rintro x w1 ⟨rfl, hb1⟩
  have H1 : Hid (Below w.heap.size w w1 ∧ CB w.heap.size D.q n (.slice ao m ca) w1 ∧ RB (w.heap.size + 1) w1 ∧ w.heap.size + 2 ≤ w1.heap.size) := ⟨bel_up' HW.out.1 hb1, HW.out.2.1.keep hb1, HW.out.2.2.1.keep hb1, by have := hb1.size; have := HW.out.2.2.2; omega⟩
  clear hb1 HW HC
  have hcb1 := H1.out.2.1
  obtain ⟨a0, a1, a2⟩ := hcb1
  go_wp2_with fail
  clear a0 a1 a2
  refine (new_any HA.out.1 w1).mono ?_
  rintro x w2 ⟨F, T, g, rfl, hat, _, _, hb2⟩
  have H2 : Hid (Below w.heap.size w w2 ∧ CB w.heap.size D.q n (.slice ao m ca) w2 ∧ RB (w.heap.size + 1) w2 ∧ w.heap.size + 2 ≤ w2.heap.size ∧ FAt F T D g w2) := ⟨bel_up' H1.out.1 hb2, H1.out.2.1.keep hb2, H1.out.2.2.1.keep hb2, by have := hb2.size; have := H1.out.2.2.2; omega, hat⟩
  clear hat hb2 H1
  have hcb1 := H2.out.2.1
  obtain ⟨a0, a1, a2⟩ := hcb1
  go_wp2_with (at_make; refine make_sls rfl _ _ rfl _ m rfl rfl rfl (by omega) ?_; intro w3 hrow3 hgrow3; have hb3 : Below w2.heap.size w2 w3 := below_grown hgrow3 (Nat.le_refl _) (fun k hk => by simp at hk); have hcb3 := H2.out.2.1.keep hb3; obtain ⟨c0', c1', c2'⟩ := hcb3)
  have H3 : Hid (RS D w2.heap.size m N1 0 (fun _ => pnil) (fun _ => none) (fun _ => 0) w3) := ⟨⟨_, hrow3, fun a ha => absurd ha (by omega)⟩, fun a ha => absurd ha (by omega), fun a ha => absurd ha (by omega), fun a ha => absurd ha (by omega), fun a ha => absurd ha (by omega), fun a ha => absurd ha (by omega), fun a ha => absurd ha (by omega), fun a ha => absurd ha (by omega)⟩
  have HB3 : Hid (Below w2.heap.size w2 w3) := hb3
  obtain ⟨G, hG⟩ : ∃ G, G = w2.heap.size := ⟨_, rfl⟩
  have hG0 : w2.heap.size ≤ G := by omega
  rw [← hG] at H3 ⊢
  clear hrow3 hgrow3 hb3 c0' c1' c2' a0 a1 a2 hG
  go_loopw [40] (fun vi wr => ∃ (i : Nat) (X : Nat → Option Addr) (Cc : Nat → Nat), i ≤ m ∧ vi = .int .i64 i ∧ Hid (RS D G m N1 i (fun i => xtd D n (mzc N Z i)) X Cc wr ∧ Below w2.heap.size w2 wr)) (fun vi _ => m - (intOf vi).toNat)
  case atStart => exact ⟨0, fun _ => none, fun _ => 0, by omega, rfl, ⟨H3.out.outer, fun a ha => absurd ha (by omega), fun a ha => absurd ha (by omega), fun a ha => absurd ha (by omega), fun a ha => absurd ha (by omega), fun a ha => absurd ha (by omega), fun a ha => absurd ha (by omega), fun a ha => absurd ha (by omega)⟩, HB3.out⟩
  case round =>
    clear H3 HB3
    obtain ⟨i, X, Cc, hi, rfl, HG⟩ := hrel
    rename World => wA
    by_cases hlt : i < m
    · have hib : (i : Int) < (m : Int) := by omega
      have hib0 : (0 : Int) ≤ (i : Int) := by omega
      have HBA : Hid (Below w.heap.size w wA) := bel_up' H2.out.1 HG.out.2
      obtain ⟨bb, ob, cx, hbo, hcr, hsl, hltB, hnil, hle, hcap⟩ := (HA.out.2.below HBA.out).row (fld HA.out.1) i hlt
      subst hbo
      obtain ⟨X0, hX0⟩ : ∃ X0, X0 = A i := ⟨_, rfl⟩
      rw [← hX0] at hcr hsl hltB hnil
      obtain ⟨bx, ox, hx, _⟩ := hsl 0 (by omega)
      subst hx
      obtain ⟨V, hV⟩ : ∃ V, V = mzc N Z i := ⟨_, rfl⟩
      rw [← hV] at hsl
      have HX : Hid (Sl (some ⟨bx, ox, none⟩) n V wA ∧ bx < wA.heap.size ∧ V = mzc N Z i ∧ El D V) := ⟨hsl, hltB _ rfl, hV, by rw [hV]; exact (HA.out.2.rows (fld HA.out.1)).2.1 i hlt⟩
      have hnc : (n : Int) ≤ (cx : Int) := by omega
      clear hX0 hsl hltB hnil hV
      go_wp2
      clear hcr
      go_loopw [10, 47] (fun vs vj wr => ∃ j s : Nat, j ≤ n ∧ vj = .int .i64 j ∧ vs = .int .i64 (s : Nat) ∧ Hid (s = xsm D V j ∧ Below wA.heap.size wA wr)) (fun _ vj _ => n - (intOf vj).toNat)
      case atStart => exact ⟨0, 0, by omega, rfl, rfl, rfl, Below.refl _ _⟩
      case round =>
        obtain ⟨j, s, hj, rfl, rfl, HS⟩ := hrel
        rename World => wr
        have HAt : Hid (FAt F T D g wr) := H2.out.2.2.2.2.below (bel_up' HG.out.2 HS.out.2) H2.out.2.2.2.2.ltF H2.out.2.2.2.2.ltT
        have hsq : s < D.q := by rw [HS.out.1]; exact xsm_lt (fld HA.out.1) HX.out.2.2.2 j
        by_cases hlj : j < n
        · have hjb : (j : Int) < (n : Int) := by omega
          have hjb0 : (0 : Int) ≤ (j : Int) := by omega
          obtain ⟨b', o', hx, hcx⟩ := (HX.out.1.below HS.out.2 (fun z hz => by cases hz; exact HX.out.2.1)) j hlj
          cases hx
          obtain ⟨y, hy⟩ : ∃ y, y = V j := ⟨_, rfl⟩
          rw [← hy] at hcx
          obtain ⟨t, ht⟩ : ∃ t, t = D.ad s y := ⟨_, rfl⟩
          have hyq : y < D.q := by rw [hy]; exact HX.out.2.2.2 j
          have HAd : Hid (∀ k, Calls Try.prog 122 #[.pointer (some ⟨F, 0, none⟩), .int .i64 (s : Nat), .int .i64 (y : Nat)] (wr.drewN k) fun e w' => e = .returned (.int .i64 (t : Nat)) ∧ ∃ n, w' = wr.drewN n) := fun k => by
            refine (add_nat HA.out.1 (HAt.out.drewN k) hsq hyq).mono ?_
            rintro e w' ⟨rfl, k2, rfl⟩
            exact ⟨by rw [ht]; rfl, k + k2, by simp [World.drewN_drewN]⟩
          have HV : Hid (t = xsm D V (j + 1) ∧ Below wA.heap.size wA wr) := ⟨by rw [ht, hy, HS.out.1]; rfl, HS.out.2⟩
          clear ht hy hyq hsq
          go_wp2_with fail
          refine (HAd.out 0).mono ?_
          rintro e w4 ⟨rfl, k4, hw4⟩
          have HB4 : Hid (Below wA.heap.size wA w4) := by rw [hw4]; exact below_drewN2 HV.out.2 k4
          clear hw4 hcx
          go_wp2
          go_roundw
          case rel => exact ⟨j + 1, t, by omega, by go_num, rfl, HV.out.1, HB4.out⟩
          case measure => simp [intOf]; omega
        · have hjb : ¬ (j : Int) < (n : Int) := by omega
          have hje : n = j := by omega
          subst hje
          obtain ⟨y, hy⟩ : ∃ y, y = D.ng s := ⟨_, rfl⟩
          have HCl : Hid (Calls Try.prog 74 #[.slice (some ⟨bx, ox, none⟩) n cx] wr fun e w' => ∃ v, e = .returned v ∧ OwnI wr.heap.size v (zl n fun j => ((V j : Nat) : Int)) w' ∧ Below wr.heap.size wr w') :=
            cloneI_any (slz_of (HX.out.1.below HS.out.2 (fun z hz => by cases hz; exact HX.out.2.1))) (by omega) (Nat.lt_of_lt_of_le HX.out.2.1 HS.out.2.size)
          have HNg : Hid (∀ wx, Below wr.heap.size wr wx → Calls Try.prog 134 #[.pointer (some ⟨F, 0, none⟩), .int .i64 (s : Nat)] wx fun e w' => e = .returned (.int .i64 (y : Nat)) ∧ ∃ k, w' = wx.drewN k) := fun wx hx => by
            rw [hy]
            exact neg_nat HA.out.1 (HAt.out.below hx HAt.out.ltF HAt.out.ltT) hsq
          have HY : Hid (y = D.ng (xsm D V n)) := by show y = _; rw [hy, HS.out.1]
          clear hy hsq
          go_wp2_with fail
          refine HCl.out.mono ?_
          rintro e w5 ⟨v5, rfl, ho5, hb5⟩
          have H5 : Hid (OwnI wr.heap.size v5 (zl n fun j => ((V j : Nat) : Int)) w5 ∧ Below wr.heap.size wr w5) := ⟨ho5, hb5⟩
          clear ho5 hb5
          go_wp2_with fail
          refine (HNg.out _ H5.out.2).mono ?_
          rintro e w6 ⟨rfl, k6, hw6⟩
          have H6 : Hid (OwnI wr.heap.size v5 (zl n fun j => ((V j : Nat) : Int)) w6 ∧ Below wr.heap.size wr w6) := by rw [hw6]; exact ⟨H5.out.1.drewN k6, below_drewN2 H5.out.2 k6⟩
          have hs6 := H6.out.2.size
          have hll : (zl n fun j => ((V j : Nat) : Int)).length ≤ 1000 := by rw [zl_len]; omega
          clear hw6 H5 HCl HNg
          obtain ⟨X5, hX5⟩ : ∃ X5, X5 = xtd D n V := ⟨_, rfl⟩
          have HX5 : Hid (X5 = xtd D n V) := hX5
          clear hX5
          have HP : Hid (∀ v' w', OwnI wr.heap.size v' ((zl n fun j => ((V j : Nat) : Int)) ++ [(y : Int)]) w' → (w6.alloc (.cells #[.int .i64 (y : Int)] 3)).grownBy w' v5.ownBlock → ∃ g5 c5, v' = .slice (some ⟨g5, 0, none⟩) N1 c5 ∧ RS D G m N1 i (fun i => xtd D n (mzc N Z i)) X Cc w' ∧ Below w2.heap.size w2 w' ∧ Row g5 N1 X5 w' ∧ g5 ≠ G ∧ N1 ≤ c5 ∧ c5 ≤ 9223372036854775807) := fun v' w' hown hgrow => by
            have hb7 : Below wr.heap.size wr w' := (H6.out.2.alloc hs6 _).grown hgrow (by simp; omega) (fun k hk => (H6.out.1.lt k hk).1)
            have e1 : (zl n fun j => ((V j : Nat) : Int)) ++ [(y : Int)] = zl (n + 1) fun j => ((X5 j : Nat) : Int) := by
              rw [zl_succ, HX5.out]
              have e1 : (zl n fun j => ((xtd D n V j : Nat) : Int)) = zl n fun j => ((V j : Nat) : Int) := by
                unfold zl
                refine List.map_congr_left (fun j hj => ?_)
                have hj := List.mem_range.1 hj
                unfold xtd
                rw [if_neg (by omega)]
              have e2 : ((xtd D n V n : Nat) : Int) = (y : Int) := by
                unfold xtd
                rw [if_pos rfl, HY.out]
              rw [e1, e2]
            rw [e1] at hown
            obtain ⟨g5, c5, hv5, hc51, hc52, hrow5⟩ := own_elm hown
            have hg5 := (hown.lt g5 (by rw [hv5]; rfl)).1
            have hbb := bel_up' HS.out.2 hb7
            have hltG := (HG.out.1.below HS.out.2).ltG
            exact ⟨g5, c5, by rw [hv5, HSub.out.2], HG.out.1.below hbb, bel_up' HG.out.2 hbb, by rw [HSub.out.2]; exact hrow5, by omega, by rw [HSub.out.2]; exact hc51, hc52⟩
          go_wp2_with (first
            | (at_builtin
               refine append_int rfl _ _ rfl wr.heap.size _ (zl n fun j => ((V j : Nat) : Int)) rfl (H6.out.1.alloc _) ⟨_, 0, none⟩ 1 (y : Int) rfl (by simp) (by omega) (by simp; omega) ?_
               intro v7 w7 hown7 hgrow7
               obtain ⟨g5, c5, hv5, hq1, hq2, hq3, hq4, hq5, hq6⟩ := HP.out v7 w7 hown7 hgrow7
               have H7 : Hid (RS D G m N1 i (fun i => xtd D n (mzc N Z i)) X Cc w7 ∧ Below w2.heap.size w2 w7 ∧ Row g5 N1 X5 w7 ∧ g5 ≠ G ∧ N1 ≤ c5 ∧ c5 ≤ 9223372036854775807) := ⟨hq1, hq2, hq3, hq4, hq5, hq6⟩
               subst hv5
               clear hown7 hgrow7 hq1 hq2 hq3 hq4 hq5 hq6
               obtain ⟨⟨u5, hcG⟩, hfG⟩ := H7.out.1.free i hlt))
          have H8 : Hid (RS D G m N1 (i + 1) (fun i => xtd D n (mzc N Z i)) (fun b => if b = i then some ⟨g5, 0, none⟩ else X b) (fun b => if b = i then c5 else Cc b) (w7.setCell ⟨G, i, none⟩ (.slice (some ⟨g5, 0, none⟩) N1 c5)) ∧ Below w2.heap.size w2 (w7.setCell ⟨G, i, none⟩ (.slice (some ⟨g5, 0, none⟩) N1 c5))) := by
            have hp := H7.out.1.put (i' := i + 1) (a0 := i) (fun b h1 h2 => by omega) (H7.out.2.2.1.sl (Nat.le_refl _)) (fun y hy => by cases hy; exact H7.out.2.2.1.lt) (fun e => by cases e) H7.out.2.2.2.2.1 H7.out.2.2.2.2.2 (fun y hy => by cases hy; exact H7.out.2.2.2.1) (by rw [HX5.out]; exact xtd_el (fld HA.out.1) HX.out.2.2.2)
            rw [show (fun b => if b = i then X5 else xtd D n (mzc N Z b)) = fun i => xtd D n (mzc N Z i) by funext b; by_cases e : b = i; rw [if_pos e, e, HX5.out, HX.out.2.2.1]; rw [if_neg e]] at hp
            exact ⟨hp, H7.out.2.1.setCell (show w2.heap.size ≤ G from hG0) _⟩
          clear hcG hfG
          go_roundw
          case rel => exact ⟨i + 1, _, _, by omega, by go_num, H8.out⟩
          case measure => simp [intOf]; omega
    · have hib : ¬ (i : Int) < (m : Int) := by omega
      have hie : m = i := by omega
      subst hie
      have HZ : Hid (CdZ D (some ⟨G, 0, none⟩) m N1 X (fun _ => N1) Cc (fun b c => ((xtd D n (mzc N Z b) c : Nat) : Int)) wA) := HG.out.1.cdz (by have := HSub.out.2; omega) (by omega) (by omega)
      obtain ⟨p0, p1, p2⟩ := H2.out.2.1.keep HG.out.2
      go_wp2_with fail
      rw [HSub.out.1]
      refine (oneForm_any HA.out.1 HZ.out).mono ?_
      rintro e w4 ⟨k, R, ro, rc, rfl, hmv, hred, hb4⟩
      have H4 : Hid (MV wA.heap.size (.slice ro k rc) k N1 R w4 ∧ Red D N1 m (fun i => xtd D n (mzc N Z i)) k R ∧ Below w.heap.size w w4 ∧ RB (w.heap.size + 1) w4 ∧ w.heap.size + 2 ≤ wA.heap.size) := by
        have hbb := bel_up' HG.out.2 hb4
        refine ⟨hmv, ?_, bel_up' H2.out.1 hbb, H2.out.2.2.1.keep hbb, by have := HG.out.2.size; have := H2.out.2.2.2.1; omega⟩
        obtain ⟨p, r1, r2⟩ := hred
        refine ⟨p, r1, fun v => (r2 v).trans (rows_congr (fun i hi => ?_) v)⟩
        refine mzc_rows (R := fun i => xtd D n (mzc N Z i)) (fun b hb => ?_) i hi
        have h2 := xtd_bd (D := D) ((HA.out.2.rows (fld HA.out.1)).2.2.1 b hb)
        rw [← HSub.out.2] at h2
        exact h2
      clear hmv hred hb4 p0 p1 p2
      obtain ⟨⟨x0, c0⟩, ⟨x1, c1⟩, ⟨x2, c2⟩, f0, f1, f2⟩ := H4.out.2.2.2.1
      go_wp2
      obtain ⟨w5, hw5⟩ : ∃ w5, w5 = laid w4 (w.heap.size + 1) D.q (N1 : Nat) (.slice ro k rc) := ⟨_, rfl⟩
      have H5 : Hid (CB (w.heap.size + 1) D.q (N1 : Nat) (.slice ro k rc) w5 ∧ MV w.heap.size (.slice ro k rc) k N1 R w5 ∧ Below w.heap.size w w5) := by
        have := H4.out.2.2.2.2
        rw [hw5]; exact ⟨laid_cb H4.out.2.2.2.1 _ _ _, (laid_mv H4.out.1 (by omega) _ _ _).mono (by omega), laid_below H4.out.2.2.1 (by omega) _ _ _⟩
      unfold laid at hw5
      rw [← hw5]
      clear hw5 c0 c1 c2 f0 f1 f2
      obtain ⟨c0, c1, c2⟩ := H5.out.1
      refine bodyPost_ret (v := .tuple #[.agg #[.int .i64 D.q, .int .i64 (N1 : Nat), .slice ro k rc], .int .i64 0]) (by simp [results, Try.results109, go_sem, c0, c1, c2]) rfl ?_
      exact ⟨_, R, _, _, rfl, H5.out.2.1, H4.out.2.1, H5.out.2.2⟩
end Go.Proofs.Ytjkncdmbcckcdaa
