/- TopTrellis: its walk. -/
import Derived.Test.YtlljaliemldjkaaZKV31
import Derived.Test.YtlljaliemldjkaaZKV22
import Derived.Test.YtlljaliemldjkaaZKI13
namespace Go.Proofs.Ytlljaliemldjkaa
open Go.RowKit Go.Sort

/-- A word of bits that WordOf makes, as its number's digits. -/
theorem wordK_any {ao : Option Addr} {n ca : Nat} {z : Nat → Int} {w : World} (h : Arg ao n ca z w) (hn : n ≤ 1000) (f k : Nat) (hf : f ≤ 1000) (hk : k ≤ 1000) :
    Calls Try.prog 18 #[.slice ao n ca, .int .i64 f, .int .i64 k, .bool false] w fun e w' => ∃ (bo : Option Addr) (cb u : Nat), e = .returned (.slice bo k cb) ∧ u < 2 ^ k ∧ BtA bo k (dgs 2 k u) w' ∧ Below w.heap.size w w' := by
  refine (wordOf_any h hn f k false hf hk).mono ?_
  rintro e w' ⟨v, y, rfl, ho, hy, hb'⟩
  have hb : allP isbt y k = true := allP_mk k (fun j hj => decide_eq_true ((hy j hj).resolve_right (fun h => by cases h.1)))
  obtain ⟨u, hu, hd⟩ := bits_dgs hb
  obtain ⟨bo, cb, rfl, hA⟩ := ho.argL
  exact ⟨bo, cb, u, rfl, hu, ⟨hA.sl.at' hd, hA.lt, fun i _ => dgs_le1 k u i⟩, hb'⟩
/-- What Encode makes of it. -/
theorem encK_any {ao bo : Option Addr} {R ca n cb u : Nat} {z : Nat → Nat} {w : World} (hX : RlA ao R z w) (hM : BtA bo n (dgs 2 n u) w) (hn : n ≤ 20) :
    Calls Try.prog 9 #[.slice ao R ca, .slice bo n cb] w fun e w' => ∃ so sc, e = .returned (.tuple #[.slice so (R * (n + mmr z R)) sc, .int .i64 0]) ∧ ArgL so (R * (n + mmr z R)) sc (fun i => ((sgn' z R (dgs 2 n u) n i : Nat) : Int)) w' ∧ Below w.heap.size w w' := by
  refine (tencode_ok hX hM hn).mono ?_
  rintro e w' ⟨v, rfl, ho, hb⟩
  obtain ⟨so, sc, rfl, hA⟩ := OwnI.argL (y := fun i => ((sgn' z R (dgs 2 n u) n i : Nat) : Int)) ho
  exact ⟨so, sc, rfl, hA, hb⟩

set_option maxHeartbeats 1000000 in
set_option maxRecDepth 100000 in
theorem ttop_long {ao eo go : Option Addr} {n ca ne ce ng cg : Nat} (m k : Int) (w : World) (h1 : n ≤ 17592186044416) (h2 : ne ≤ 17592186044416) (h3 : ng ≤ 17592186044416) (hlen : 256 < n + ne + ng) :
    Calls Try.prog 5 #[.slice ao n ca, .int .i64 m, .int .i64 k, .slice eo ne ce, .slice go ng cg] w fun e w' => e = .returned (.bool true) ∧ Below w.heap.size w w' := by
  obtain ⟨N1, hN1⟩ : ∃ N1, N1 = n + ne := ⟨_, rfl⟩
  obtain ⟨N2, hN2⟩ : ∃ N2, N2 = N1 + ng := ⟨_, rfl⟩
  have g1 : IntKind.i64.wrap ((n : Int) + (ne : Int)) = (N1 : Int) := wrap_to (by omega) (by omega)
  have g2 : IntKind.i64.wrap ((N1 : Int) + (ng : Int)) = (N2 : Int) := wrap_to (by omega) (by omega)
  have g3 : (256 : Int) < (N2 : Int) := by omega
  clear hN1 hN2 hlen
  go_enter Try.func5, Try.ntmps5
  go_wp2
  go_ret
  exact ⟨rfl, Below.refl _ _⟩

set_option maxHeartbeats 32000000 in
set_option maxRecDepth 100000 in
theorem ttop_walk {ao eo go : Option Addr} {n ca ne ce ng cg : Nat} {z0 ez gz : Nat → Int} (m k : Int) {w : World} (ha : Arg ao n ca z0 w) (he : ArgL eo ne ce ez w) (heI : ∀ i, i < ne → I64 (ez i)) (hg : Arg go ng cg gz w) (hlen : n + ne + ng ≤ 256) (hm : I64 m) (hk : I64 k) :
    Calls Try.prog 5 #[.slice ao n ca, .int .i64 m, .int .i64 k, .slice eo ne ce, .slice go ng cg] w fun e w' => e = .returned (.bool true) ∧ Below w.heap.size w w' := by
  obtain ⟨N1, hN1⟩ : ∃ N1, N1 = n + ne := ⟨_, rfl⟩
  obtain ⟨N2, hN2⟩ : ∃ N2, N2 = N1 + ng := ⟨_, rfl⟩
  have g1 : IntKind.i64.wrap ((n : Int) + (ne : Int)) = (N1 : Int) := wrap_to (by omega) (by omega)
  have g2 : IntKind.i64.wrap ((N1 : Int) + (ng : Int)) = (N2 : Int) := wrap_to (by omega) (by omega)
  have g3 : ¬ (256 : Int) < (N2 : Int) := by omega
  obtain ⟨N, hN, hpN⟩ := pkt_any hk (n := 12) (by omega) (by omega)
  obtain ⟨P, hP⟩ : ∃ P, P = 2 ^ N := ⟨_, rfl⟩
  have hPb : P ≤ 2048 := by rw [hP]; exact Nat.le_trans (Nat.pow_le_pow_right (by omega) (show N ≤ 11 by omega)) (by decide)
  have hPi : (2 : Int) ^ N = (P : Int) := by rw [hP]; simp
  have hPw : IntKind.i64.wrap (P : Int) = (P : Int) := wrap_to rfl (by omega)
  have HPN : Hid (∀ w : World, Calls Try.prog 19 #[.int .i64 k, .int .i64 12] w fun e w' => e = .returned (.int .i64 (N : Nat)) ∧ w' = w) := hpN
  have HPi : Hid (∀ (P : Nat), 0 < P → P ≤ 1000 → ∀ x, I64 x → ∃ k : Nat, k < P ∧ ∀ w : World, Calls Try.prog 19 #[.int .i64 x, .int .i64 (P : Nat)] w fun e w' => e = .returned (.int .i64 k) ∧ w' = w) := fun P h1 h2 x hx => pkt_any hx h1 h2
  have HRu : Hid (Calls Try.prog 17 #[.slice ao n ca, .int .i64 m] w fun e w' => ∃ (ro : Option Addr) (R rc : Nat) (y : Nat → Nat), e = .returned (.slice ro R rc) ∧ R ≤ 3 ∧ RlA ro R y w' ∧ ArgL ro R rc (fun i => ((y i : Nat) : Int)) w' ∧ Below w.heap.size w w') := rulesA_any ha (by omega) hm
  have HWo : Hid (∀ wx, Below w.heap.size w wx → Calls Try.prog 18 #[.slice ao n ca, .int .i64 5, .int .i64 (N : Nat), .bool false] wx fun e w' => ∃ (bo : Option Addr) (cb u : Nat), e = .returned (.slice bo N cb) ∧ u < 2 ^ N ∧ BtA bo N (dgs 2 N u) w' ∧ Below wx.heap.size wx w') := fun wx hx => wordK_any (ha.below hx) (by omega) 5 N (by omega) (by omega)
  have HWg : Hid (∀ wx, Below w.heap.size w wx → Calls Try.prog 18 #[.slice go ng cg, .int .i64 0, .int .i64 (N : Nat), .bool false] wx fun e w' => ∃ (bo : Option Addr) (cb u : Nat), e = .returned (.slice bo N cb) ∧ u < 2 ^ N ∧ BtA bo N (dgs 2 N u) w' ∧ Below wx.heap.size wx w') := fun wx hx => wordK_any (hg.below hx) (by omega) 0 N (by omega) (by omega)
  have HEr : Hid (SlZ eo ne ez w ∧ LtB eo w.heap.size ∧ ∀ i, i < ne → I64 (ez i)) := ⟨he.sl, he.lt, heI⟩
  have HPe : Hid (P = 2 ^ N) := hP
  clear ha he hg heI hm hk hpN hN1 hN2 hP
  go_enter Try.func5, Try.ntmps5
  go_wp2_with fail
  refine HRu.out.mono ?_
  rintro e w1 ⟨ro, R, rc, z, rfl, hR3, hrl, hra, hb1⟩
  have H1 : Hid (RlA ro R z w1 ∧ Below w.heap.size w w1) := ⟨hrl, hb1⟩
  clear hrl hra hb1 HRu
  go_wp2_with fail
  refine (HPN.out w1).mono ?_
  rintro e w' ⟨rfl, hw⟩
  have hw := hw.symm
  subst hw
  go_wp2_with fail
  refine (HWo.out w1 H1.out.2).mono ?_
  rintro e w2 ⟨bo, cb, k1, rfl, hk1, hbt, hb2⟩
  have H2 : Hid (RlA ro R z w2 ∧ BtA bo N (dgs 2 N k1) w2 ∧ k1 < 2 ^ N ∧ Below w.heap.size w w2) := ⟨H1.out.1.below hb2, hbt, hk1, bel_up' H1.out.2 hb2⟩
  clear hbt hk1 hb2 HWo
  go_wp2_with fail
  refine (encK_any H2.out.1 H2.out.2.1 (by omega)).mono ?_
  rintro e w3 ⟨so, sc, rfl, hsa, hb3⟩
  obtain ⟨l, hl⟩ : ∃ l, l = R * (N + mmr z R) := ⟨_, rfl⟩
  rw [← hl] at hsa ⊢
  have hlb : l ≤ 300 := by
    have h1 := mmr_le z R
    have h2 : R * (N + mmr z R) ≤ 3 * 24 := Nat.mul_le_mul hR3 (by omega)
    omega
  have HL : Hid (l = R * (N + mmr z R)) := hl
  have H3 : Hid (RlA ro R z w3 ∧ BtA bo N (dgs 2 N k1) w3 ∧ ArgL so l sc (fun i => ((sgn' z R (dgs 2 N k1) N i : Nat) : Int)) w3 ∧ Below w.heap.size w w3) := ⟨H2.out.1.below hb3, H2.out.2.1.below hb3, hsa, bel_up' H2.out.2.2.2 hb3⟩
  have HK1 : Hid (k1 < 2 ^ N) := H2.out.2.2.1
  clear hl hsa hb3 H1 H2
  go_wp2_with fail
  refine (copy_any (c := fun i => sgn' z R (dgs 2 N k1) N i) H3.out.2.2.1.sl (by omega) H3.out.2.2.1.nil H3.out.2.2.1.lt).mono ?_
  rintro e w4 ⟨v4, rfl, hp4, hb4⟩
  obtain ⟨co, cc, rfl, hcc⟩ := hp4.open
  have H4 : Hid (RlA ro R z w4 ∧ BtA bo N (dgs 2 N k1) w4 ∧ ArgL so l sc (fun i => ((sgn' z R (dgs 2 N k1) N i : Nat) : Int)) w4 ∧ Below w.heap.size w w4) := ⟨H3.out.1.below hb4, H3.out.2.1.below hb4, H3.out.2.2.1.below' hb4, bel_up' H3.out.2.2.2 hb4⟩
  have HP4 : Hid (OwnP w3.heap.size (.slice co l cc) l (fun i => sgn' z R (dgs 2 N k1) N i) w4 ∧ Below w3.heap.size w3 w4) := ⟨hp4, hb4⟩
  clear hp4 hb4 hcc
  go_upto_block 0 with fail
  go_cut [16] (fun _ wx => ∃ c : Nat → Nat, Hid (OwnP w3.heap.size (.slice co l cc) l c wx ∧ (∀ i, i < l → c i < 2) ∧ Below w3.heap.size w3 wx))
  case first =>
    go_wp2_with fail
    go_loopw [16] (fun vi wr => ∃ (i : Nat) (c : Nat → Nat), i ≤ 6 ∧ vi = .int .i64 (i : Nat) ∧ Hid (OwnP w3.heap.size (.slice co l cc) l c wr ∧ (∀ i, i < l → c i < 2) ∧ Below w3.heap.size w3 wr)) (fun vi _ => 6 - (intOf vi).toNat)
    case atStart => exact ⟨0, _, by omega, rfl, HP4.out.1, fun i _ => by have := sgb_le (z (i % R)) (snm (dgs 2 N k1) N (i / R + 1)); unfold sgn'; omega, HP4.out.2⟩
    case round =>
      obtain ⟨i, c, hi, rfl, HG⟩ := hrel
      rename World => wr
      by_cases hlt : i < ne ∧ i < 6 ∧ 0 < l
      · have hib : (i : Int) < (ne : Int) := by omega
        have hib0 : (0 : Int) ≤ (i : Int) := by omega
        have hib6 : (i : Int) < 6 := by omega
        have hl0 : (0 : Int) < (l : Int) := by omega
        obtain ⟨g, e1, hg1, hg2, hrow⟩ := HG.out.1.row hlt.2.2
        subst e1
        have hi6 : i < 6 := hlt.2.1
        obtain ⟨be, oe, e2, hce⟩ := (HEr.out.1.below (bel_up' H3.out.2.2.2 HG.out.2.2) HEr.out.2.1) i hlt.1
        subst e2
        obtain ⟨x, hx⟩ : ∃ x, x = ez i := ⟨_, rfl⟩
        rw [← hx] at hce
        have hxI : I64 x := by rw [hx]; exact HEr.out.2.2 i hlt.1
        obtain ⟨q, hq, hpq⟩ := HPi.out l hlt.2.2 (by omega) x hxI
        have HPq : Hid (∀ w : World, Calls Try.prog 19 #[.int .i64 x, .int .i64 (l : Nat)] w fun e w' => e = .returned (.int .i64 (q : Nat)) ∧ w' = w) := hpq
        have hcell := hrow.cell q hq
        have hfree := hrow.free q
        obtain ⟨b1, hb1⟩ : ∃ b1, b1 = c q := ⟨_, rfl⟩
        rw [← hb1] at hcell
        have hb2 : b1 < 2 := by rw [hb1]; exact HG.out.2.1 q hq
        have hqi : (q : Int) < (l : Int) := by omega
        have hqi0 : (0 : Int) ≤ (q : Int) := by omega
        have hsub : (1 : Int) - (b1 : Int) = ((1 - b1 : Nat) : Int) := by omega
        have HN : Hid (∀ wz, wz = wr.setCell ⟨g, q, none⟩ (.int .i64 ((1 - b1 : Nat) : Int)) → OwnP w3.heap.size (.slice (some ⟨g, 0, none⟩) l cc) l (fun j => if j = q then 1 - b1 else c j) wz ∧ (∀ i, i < l → (if i = q then 1 - b1 else c i) < 2) ∧ Below w3.heap.size w3 wz) := fun wz e => by
          rw [e]
          refine ⟨HG.out.1.store q (1 - b1) hlt.2.2 (fun j _ => rfl), fun i hi => ?_, HG.out.2.2.setCell hg1 _⟩
          split
          · omega
          · exact HG.out.2.1 i hi
        clear hb1 hx hpq hxI hlt hg1 hg2 hrow
        go_wp2_with fail
        refine (HPq.out wr).mono ?_
        rintro e w' ⟨rfl, hw⟩
        have hw := hw.symm
        subst hw
        go_wp2
        go_roundw
        case rel => exact ⟨i + 1, _, by omega, by go_num, HN.out _ rfl⟩
        case measure => simp [intOf]; omega
      · have HB : Hid (OwnP w3.heap.size (.slice co l cc) l c wr ∧ (∀ i, i < l → c i < 2) ∧ Below w3.heap.size w3 wr) := HG.out
        clear HG HP4 H4
        by_cases c1 : i < ne
        · have c1i : (i : Int) < (ne : Int) := by omega
          by_cases c2 : i < 6
          · have c2i : (i : Int) < 6 := by omega
            have c3i : ¬ (0 : Int) < (l : Int) := by omega
            clear hlt
            go_wp2
            go_meet
            case rel => exact ⟨c, HB.out⟩
          · have c2i : ¬ (i : Int) < 6 := by omega
            clear hlt
            go_wp2
            go_meet
            case rel => exact ⟨c, HB.out⟩
        · have c1i : ¬ (i : Int) < (ne : Int) := by omega
          clear hlt
          go_wp2
          go_meet
          case rel => exact ⟨c, HB.out⟩
  case rest =>
  obtain ⟨c, HB⟩ := hcut
  clear HP4 H4
  rename World => wr
  obtain ⟨y, hy⟩ : ∃ y : Nat → Int, y = fun i => ((c i : Nat) : Int) := ⟨_, rfl⟩
  have hcs : SlZ co l y wr ∧ LtB co wr.heap.size := by
    obtain ⟨so, sc, e, hA⟩ := HB.out.1.arg (by omega)
    cases e
    rw [hy]
    exact ⟨hA.sl, hA.lt⟩
  have hlg := lg_of (M := mmr z R) (y := y) H3.out.1.rz.one HL.out (by omega : N ≤ 20) (allP_mk l (fun j hj => by rw [hy]; have := HB.out.2.1 j hj; unfold isbt; simp; omega))
  have hlgs := lg_of (M := mmr z R) (y := fun i => ((sgn' z R (dgs 2 N k1) N i : Nat) : Int)) H3.out.1.rz.one HL.out (by omega : N ≤ 20) (allP_mk l (fun j hj => by have := sgb_le (z (j % R)) (snm (dgs 2 N k1) N (j / R + 1)); unfold isbt sgn'; simp; omega))
  have H5 : Hid (RlA ro R z wr ∧ BtA bo N (dgs 2 N k1) wr ∧ ArgL so l sc (fun i => ((sgn' z R (dgs 2 N k1) N i : Nat) : Int)) wr ∧ (SlZ co l y wr ∧ LtB co wr.heap.size) ∧ Below w.heap.size w wr) := ⟨H3.out.1.below HB.out.2.2, H3.out.2.1.below HB.out.2.2, H3.out.2.2.1.below' HB.out.2.2, hcs, bel_up' H3.out.2.2.2 HB.out.2.2⟩
  have HV : Hid (Calls Try.prog 22 #[.slice ro R rc, .slice co l cc] wr fun e w' => ∃ b v, Fst (apt z R y N (mmr z R)) (2 ^ N) b ∧ e = .returned (.tuple #[v, .int .i64 (apt z R y N (mmr z R) b : Nat), .int .i64 0]) ∧ OwnI wr.heap.size v (zl N fun j => ((bitN N b j : Nat) : Int)) w' ∧ Below wr.heap.size wr w') := tvit_ok H5.out.1 hcs.1 hcs.2 hlb hlg.1 hlg.2
  have HEn : Hid (∀ (xo : Option Addr) (xc u : Nat) wx, Below wr.heap.size wr wx → BtA xo N (dgs 2 N u) wx → Calls Try.prog 9 #[.slice ro R rc, .slice xo N xc] wx fun e w' => ∃ so sc, e = .returned (.tuple #[.slice so l sc, .int .i64 0]) ∧ ArgL so l sc (fun i => ((sgn' z R (dgs 2 N u) N i : Nat) : Int)) w' ∧ Below wx.heap.size wx w') := fun xo xc u wx hb hB => by
    have h := encK_any (ca := rc) (cb := xc) (H5.out.1.below hb) hB (by omega)
    rw [← HL.out] at h
    exact h
  have HAp : Hid (∀ (xo : Option Addr) (xc u : Nat) wx, Below wr.heap.size wr wx → SlZ xo l (fun i => ((sgn' z R (dgs 2 N u) N i : Nat) : Int)) wx → Calls Try.prog 23 #[.slice xo l xc, .slice co l cc] wx fun e w' => e = .returned (.int .i64 (apt z R y N (mmr z R) u : Nat)) ∧ w' = wx) := fun xo xc u wx hb hs => by
    refine (capartS_any (ca := xc) (cb := cc) hs (hcs.1.below hb hcs.2) (by omega)).mono ?_
    rintro e w' ⟨rfl, hd⟩
    refine ⟨?_, hd⟩
    unfold apt
    rw [aps_ct, ← HL.out]
  have HCh : Hid (l ≤ 24 → ∀ wx, Below wr.heap.size wr wx → Calls Try.prog 24 #[.slice ro R rc, .slice co l cc, .int .i64 1, .int .i64 2] wx fun e w' => ∃ (o1 : Option Addr) (c1 : Nat) (on : Nat → Nat), e = .returned (.tuple #[.slice o1 N c1, .int .i64 (P : Nat), .int .i64 0]) ∧ (∀ j, j < N → 2 * on j = P) ∧ SlZ o1 N (fun j => ((on j : Nat) : Int)) w' ∧ LtB o1 w'.heap.size ∧ Below wx.heap.size wx w') := fun h24 wx hb => by
    refine (tch_ok (a := 1) (b := 2) (H5.out.1.below hb) (hcs.1.below hb hcs.2) (hcs.2.mono hb.size) h24 hlg.1 hlg.2 (by omega) (by omega) (by omega) (by omega)).mono ?_
    rintro e w' ⟨v, rfl, ho, hb'⟩
    obtain ⟨o1, c1, rfl, hs, hlt⟩ := OwnI.slz ho
    refine ⟨o1, c1, _, by rw [half_all, HPe.out], fun j hj => by rw [half_one hN hj, HPe.out], hs, hlt, hb'⟩
  have HCs : Hid (l ≤ 24 → ∀ wx, Below wr.heap.size wr wx → Calls Try.prog 24 #[.slice ro R rc, .slice so l sc, .int .i64 0, .int .i64 1] wx fun e w' => ∃ (o1 : Option Addr) (c1 one : Nat) (on : Nat → Nat), e = .returned (.tuple #[.slice o1 N c1, .int .i64 ((one : Nat) : Int), .int .i64 0]) ∧ (1 ≤ one ∧ (one = 1 → ∀ j, j < N → on j = dgs 2 N k1 j)) ∧ SlZ o1 N (fun j => ((on j : Nat) : Int)) w' ∧ LtB o1 w'.heap.size ∧ Below wx.heap.size wx w') := fun h24 wx hb => by
    refine (tch_ok (a := 0) (b := 1) (H5.out.1.below hb) (H5.out.2.2.1.sl.below hb H5.out.2.2.1.lt) (H5.out.2.2.1.lt.mono hb.size) h24 hlgs.1 hlgs.2 (by omega) (by omega) (by omega) (by omega)).mono ?_
    rintro e w' ⟨v, rfl, ho, hb'⟩
    obtain ⟨o1, c1, rfl, hs, hlt⟩ := OwnI.slz ho
    exact ⟨o1, c1, _, _, rfl, ⟨sure_all HK1.out, fun h j hj => sure_bit HK1.out hj h⟩, hs, hlt, hb'⟩
  obtain ⟨f, hf⟩ : ∃ f, f = apt z R y N (mmr z R) := ⟨_, rfl⟩
  rw [← hf] at HV HAp
  clear hy hcs hlg hlgs hf HB
  go_wp2_with fail
  refine HV.out.mono ?_
  rintro e w5 ⟨b, v, hF, rfl, ho5, hb5⟩
  rw [zl_congr (y := fun j => ((dgs 2 N b j : Nat) : Int)) (fun j hj => by rw [bitN_dgs hj])] at ho5
  obtain ⟨xo, xc, rfl, hs5, hlt5⟩ := OwnI.slz ho5
  have H6 : Hid (Fst f (2 ^ N) b ∧ BtA xo N (dgs 2 N b) w5 ∧ Below wr.heap.size wr w5) := ⟨hF, ⟨hs5, hlt5, fun i _ => dgs_le1 N b i⟩, hb5⟩
  clear hF ho5 hs5 hlt5 hb5 HV
  go_wp2_with fail
  refine (HWg.out w5 (bel_up' H5.out.2.2.2.2 H6.out.2.2)).mono ?_
  rintro e w6 ⟨bg, cg2, k2, rfl, hk2, hbt2, hb6⟩
  have H7 : Hid (k2 < 2 ^ N ∧ BtA bg N (dgs 2 N k2) w6 ∧ BtA xo N (dgs 2 N b) w6 ∧ Below wr.heap.size wr w6) := ⟨hk2, hbt2, H6.out.2.1.below hb6, bel_up' H6.out.2.2 hb6⟩
  clear hk2 hbt2 hb6 HWg
  go_wp2_with fail
  refine (HEn.out bg cg2 k2 w6 H7.out.2.2.2 H7.out.2.1).mono ?_
  rintro e w7 ⟨tt, tc, rfl, hta, hb7⟩
  have H8 : Hid (ArgL tt l tc (fun i => ((sgn' z R (dgs 2 N k2) N i : Nat) : Int)) w7 ∧ BtA xo N (dgs 2 N b) w7 ∧ Below wr.heap.size wr w7) := ⟨hta, H7.out.2.2.1.below hb7, bel_up' H7.out.2.2.2 hb7⟩
  clear hta hb7
  go_wp2_with fail
  refine (HEn.out xo xc b w7 H8.out.2.2 H8.out.2.1).mono ?_
  rintro e w8 ⟨yo, yc, rfl, hya, hb8⟩
  have H9 : Hid (ArgL tt l tc (fun i => ((sgn' z R (dgs 2 N k2) N i : Nat) : Int)) w8 ∧ ArgL yo l yc (fun i => ((sgn' z R (dgs 2 N b) N i : Nat) : Int)) w8 ∧ Below wr.heap.size wr w8) := ⟨H8.out.1.below' hb8, hya, bel_up' H8.out.2.2 hb8⟩
  clear hya hb8
  have hNN : ((N : Int) != (N : Int)) = false := by simp
  have hff : (((f b : Nat) : Int) != ((f b : Nat) : Int)) = false := by simp
  have q1 : ¬ ((f k2 : Nat) : Int) < ((f b : Nat) : Int) := by rcases H6.out.1.2 k2 H7.out.1 with h | h <;> omega
  have q2 : ¬ ((f k1 : Nat) : Int) < ((f b : Nat) : Int) := by rcases H6.out.1.2 k1 HK1.out with h | h <;> omega
  go_wp2_with fail
  refine (HAp.out yo yc b w8 H9.out.2.2 H9.out.2.1.sl).mono ?_
  rintro e w' ⟨rfl, hw⟩
  have hw := hw.symm
  subst hw
  go_wp2_with fail
  refine (HAp.out tt tc k2 w8 H9.out.2.2 H9.out.1.sl).mono ?_
  rintro e w' ⟨rfl, hw⟩
  have hw := hw.symm
  subst hw
  go_wp2_with fail
  refine (HAp.out so sc k1 w8 H9.out.2.2 (H5.out.2.2.1.sl.below H9.out.2.2 H5.out.2.2.1.lt)).mono ?_
  rintro e w' ⟨rfl, hw⟩
  have hw := hw.symm
  subst hw
  have HE8 : Hid (Below w.heap.size w w8) := bel_up' H5.out.2.2.2.2 H9.out.2.2
  by_cases h24 : 24 < l
  · have h24i : (24 : Int) < (l : Int) := by omega
    go_wp2
    go_ret
    exact ⟨rfl, HE8.out⟩
  · have h24i : ¬ (24 : Int) < (l : Int) := by omega
    have h24' : l ≤ 24 := by omega
    go_wp2_with fail
    refine (HCh.out h24' w8 H9.out.2.2).mono ?_
    rintro e wA ⟨o1, c1, on, rfl, hon, hs1, hlt1, hbA⟩
    have HA1 : Hid ((∀ j, j < N → 2 * on j = P) ∧ SlZ o1 N (fun j => ((on j : Nat) : Int)) wA ∧ LtB o1 wA.heap.size ∧ Below wr.heap.size wr wA) := ⟨hon, hs1, hlt1, bel_up' H9.out.2.2 hbA⟩
    clear hon hs1 hlt1 hbA
    go_wp2_with fail
    refine (HCs.out h24' wA HA1.out.2.2.2).mono ?_
    rintro e wB ⟨o2, c2, one, sur, rfl, hsu, hs2, hlt2, hbB⟩
    have HB1 : Hid ((1 ≤ one ∧ (one = 1 → ∀ j, j < N → sur j = dgs 2 N k1 j)) ∧ SlZ o2 N (fun j => ((sur j : Nat) : Int)) wB ∧ SlZ o1 N (fun j => ((on j : Nat) : Int)) wB ∧ SlZ bo N (fun j => ((dgs 2 N k1 j : Nat) : Int)) wB ∧ Below w.heap.size w wB) := ⟨hsu, hs2, HA1.out.2.1.below hbB HA1.out.2.2.1, H5.out.2.1.sl.below (bel_up' HA1.out.2.2.2 hbB) H5.out.2.1.lt, bel_up' (bel_up' H5.out.2.2.2.2 HA1.out.2.2.2) hbB⟩
    have hone : ¬ ((one : Nat) : Int) < 1 := by have := hsu.1; omega
    have hPP : ((P : Int) != (P : Int)) = false := by simp
    clear hsu hs2 hlt2 hbB
    go_wp2
    go_loopw [28] (fun vi wx => ∃ i : Nat, vi = .int .i64 (i : Nat) ∧ i ≤ N ∧ Hid (∃ d, wx = wB.drewN d)) (fun vi _ => N - (intOf vi).toNat)
    case atStart => exact ⟨0, rfl, by omega, 0, rfl⟩
    case round =>
      obtain ⟨t, rfl, ht, HI⟩ := hrel
      rename World => wx
      by_cases hlt : t < N
      · have htb : (t : Int) < (N : Int) := by omega
        have htb0 : (0 : Int) ≤ (t : Int) := by omega
        obtain ⟨ba, oa, e1, hca⟩ := HB1.out.2.2.1 t hlt
        subst e1
        obtain ⟨bb, ob, e2, hcb⟩ := HB1.out.2.1 t hlt
        subst e2
        obtain ⟨bc, oc, e3, hcc⟩ := HB1.out.2.2.2.1 t hlt
        subst e3
        obtain ⟨x1, hx1⟩ : ∃ x, x = on t := ⟨_, rfl⟩
        obtain ⟨x2, hx2⟩ : ∃ x, x = sur t := ⟨_, rfl⟩
        obtain ⟨x3, hx3⟩ : ∃ x, x = dgs 2 N k1 t := ⟨_, rfl⟩
        replace hca : wx.cell? ⟨ba, oa + t, none⟩ = some (.int .i64 (x1 : Nat)) := by obtain ⟨d, hd⟩ := HI.out; rw [hd, hx1]; exact hca
        replace hcb : wx.cell? ⟨bb, ob + t, none⟩ = some (.int .i64 (x2 : Nat)) := by obtain ⟨d, hd⟩ := HI.out; rw [hd, hx2]; exact hcb
        replace hcc : wx.cell? ⟨bc, oc + t, none⟩ = some (.int .i64 (x3 : Nat)) := by obtain ⟨d, hd⟩ := HI.out; rw [hd, hx3]; exact hcc
        have h2x : 2 * x1 = P := by rw [hx1]; exact HA1.out.1 t hlt
        have hmw : IntKind.i64.wrap (2 * (x1 : Int)) = (P : Int) := wrap_to (by omega) (by omega)
        have hmi : 2 * (x1 : Int) = (P : Int) := by omega
        have h23 : one = 1 → x2 = x3 := fun h => by rw [hx2, hx3]; exact HB1.out.1.2 h t hlt
        have HW : Hid (∀ e, Hid (∃ e', wx.drewN e = wB.drewN e')) := fun e => by
          obtain ⟨d, hd⟩ := HI.out
          exact ⟨_, by rw [hd, World.drewN_drewN]⟩
        clear hx1 hx2 hx3 h2x
        by_cases h1 : one = 1
        · have h1b : (((one : Nat) : Int) == 1) = true := by rw [h1]; rfl
          have hne : (((x2 : Nat) : Int) != ((x3 : Nat) : Int)) = false := by rw [h23 h1]; simp
          clear h23 h1
          go_wp2
          go_quiet (fail)
          go_wp2
          go_roundw
          case rel => exact ⟨t + 1, by go_num, by omega, (HW.out _).out⟩
          case measure => simp [intOf]; omega
        · have h1b : (((one : Nat) : Int) == 1) = false := beq_eq_false_iff_ne.2 (by omega)
          clear h23 h1
          go_wp2
          go_quiet (fail)
          go_wp2
          go_roundw
          case rel => exact ⟨t + 1, by go_num, by omega, (HW.out _).out⟩
          case measure => simp [intOf]; omega
      · have htb : ¬ (t : Int) < (N : Int) := by omega
        have HE : Hid (Below w.heap.size w wx) := by obtain ⟨d, hd⟩ := HI.out; rw [hd]; exact below_drewN2 HB1.out.2.2.2.2 d
        go_wp2
        go_ret
        exact ⟨rfl, HE.out⟩
end Go.Proofs.Ytlljaliemldjkaa
