/- Texts of ours, one behind the other: KT7 KT8. -/
import Derived.Test.YtppggchhkckobaaGreatZKT5
import Derived.Test.YtppggchhkckobaaGreatZS69
/- Cyclic: Generator where it answers. -/
namespace Go.Proofs.YtppggchhkckobaaGreat
open Go.RowKit Go.Sort

set_option maxHeartbeats 8000000 in
set_option maxRecDepth 100000 in
theorem cgen_ok {E G : FD} (hE : E ∈ fieldsL) {n m zc : Nat} {zo : Option Addr} {z : Nat → Nat} {w : World} (hW : WR E n G) (hO : Ord E.q n) (hn1 : 1 ≤ n) (hn : n ≤ 64) (hm : m ≤ 64) (hz : SlZ zo m (fun i => ((z i : Nat) : Int)) w) (hzl : LtB zo w.heap.size) (hzn : ∀ i, i < m → z i < n)
    (hC : Calls Tryz.prog 35 #[.int .i64 E.q, .int .i64 (n : Nat), .slice zo m zc] w fun x w' => x = .returned (.int .i64 0) ∧ Below w.heap.size w w')
    (hR : ∀ w1, Calls Tryz.prog 36 #[.int .i64 E.q, .int .i64 (n : Nat)] w1 fun e w' => ∃ F T g, e = .returned (.tuple #[.pointer (some ⟨F, 0, none⟩), .int .i64 0]) ∧ FAt F T G g w' ∧ Below w1.heap.size w1 w') :
    Calls Tryz.prog 10 #[.int .i64 E.q, .int .i64 (n : Nat), .slice zo m zc] w fun x w' => ∃ v L, x = .returned (.tuple #[v, .int .i64 0]) ∧ TgL E.q n z m L ∧ OwnI w.heap.size v (zl ((rsn n L).length + 1) fun k => ((gnr G E (G.xp G.gen ((G.q - 1) / n)) (rsn n L) k : Nat) : Int)) w' ∧ Below w.heap.size w w' := by
  have hG := hW.fld
  have HC : Hid (Calls Tryz.prog 35 #[.int .i64 E.q, .int .i64 (n : Nat), .slice zo m zc] w fun x w' => x = .returned (.int .i64 0) ∧ Below w.heap.size w w') := hC
  have HR : Hid (∀ w1, Calls Tryz.prog 36 #[.int .i64 E.q, .int .i64 (n : Nat)] w1 fun e w' => ∃ F T g, e = .returned (.tuple #[.pointer (some ⟨F, 0, none⟩), .int .i64 0]) ∧ FAt F T G g w' ∧ Below w1.heap.size w1 w') := hR
  have HZ : Hid ((SlZ zo m (fun i => ((z i : Nat) : Int)) w ∧ LtB zo w.heap.size) ∧ (∀ i, i < m → z i < n) ∧ E ∈ fieldsL ∧ WR E n G ∧ Ord E.q n ∧ G ∈ fieldsL) := ⟨⟨hz, hzl⟩, hzn, hE, hW, hO, hG⟩
  have hqE := (good hE).q64
  have hqG := (good hG).q64
  have hqG2 := (fld hG).q2
  have hgen := gen_ne hG
  obtain ⟨b, hb⟩ : ∃ b, b = G.xp G.gen ((G.q - 1) / n) := ⟨_, rfl⟩
  rw [← hb]
  obtain ⟨Q, hQ⟩ : ∃ Q, Q = G.q := ⟨_, rfl⟩
  obtain ⟨q, hq⟩ : ∃ q, q = E.q := ⟨_, rfl⟩
  obtain ⟨s1, hs1⟩ : ∃ s1, s1 = Q - 1 := ⟨_, rfl⟩
  obtain ⟨d, hd⟩ : ∃ d, d = s1 / n := ⟨_, rfl⟩
  have HB : Hid (b = G.xp G.gen d ∧ b < Q ∧ d ≤ 64 ∧ Q = G.q ∧ q = E.q ∧ Rt G b n) := by
    have e : b = G.xp G.gen d := by rw [hb, hd, hs1, hQ]
    refine ⟨e, by rw [e, hQ]; exact xp_lt (fld hG) _ _, by rw [hd]; exact Nat.le_trans (Nat.div_le_self _ _) (by omega), hQ, hq, ?_⟩
    rw [hb, ← pw_xp hG hgen.2]
    exact root_rt hG hW.root
  have hs1i : (Q : Int) - 1 = (s1 : Int) := by omega
  have hs1w : IntKind.i64.wrap (s1 : Int) = (s1 : Int) := wrap_to rfl (by omega)
  have hdd : d ≤ 64 := HB.out.2.2.1
  have htd : (s1 : Int).tdiv (n : Int) = (d : Int) := by rw [Int.tdiv_eq_ediv_of_nonneg (by omega), hd]; omega
  have hdv : (s1 : Int) / (n : Int) = (d : Int) := by rw [hd]; omega
  have hdw : IntKind.i64.wrap (d : Int) = (d : Int) := wrap_to rfl (by omega)
  have hn0 : ¬ (n : Int) = 0 := by omega
  have hn0b : ((n : Int) == 0) = false := by rw [beq_eq_false_iff_ne]; omega
  have hg1 := hgen.1
  rw [← hQ] at hqG hg1
  rw [← hq] at hqE HC HR ⊢
  clear hC hR hz hzl hzn hW hO hG hE hgen hQ hq hs1 hd hb hqG2
  go_enter Tryz.func10, Tryz.ntmps10
  go_wp2_with fail
  refine HC.out.mono ?_
  rintro x w1 ⟨rfl, hb1⟩
  have H1 : Hid (Below w.heap.size w w1) := hb1
  clear hb1 HC
  go_wp2_with fail
  refine (HR.out w1).mono ?_
  rintro x w2 ⟨F, T, g, rfl, hF, hb2⟩
  have H2 : Hid (FAt F T G g w2 ∧ Below w.heap.size w w2) := ⟨hF, bel_up' H1.out hb2⟩
  clear hF hb2 HR
  have HGn : Hid (Calls Tryz.prog 38 #[.pointer (some ⟨F, 0, none⟩)] w2 fun e w' => e = .returned (.int .i64 G.gen) ∧ w' = w2) := gen_any H2.out.1
  have HSz : Hid (∀ wx, FAt F T G g wx → Calls Tryz.prog 39 #[.pointer (some ⟨F, 0, none⟩)] wx fun e w' => e = .returned (.int .i64 (Q : Nat)) ∧ w' = wx) := fun wx h => by rw [HB.out.2.2.2.1]; exact size_any h
  have HPw : Hid (∀ wx, FAt F T G g wx → ∀ a k : Nat, a < Q → k ≤ 1000 → Calls Tryz.prog 37 #[.pointer (some ⟨F, 0, none⟩), .int .i64 (a : Nat), .int .i64 (k : Nat)] wx fun e w' => e = .returned (.int .i64 (G.xp a k : Nat)) ∧ ∃ n, w' = wx.drewN n) := fun wx h a k ha hk => pow_nat HZ.out.2.2.2.2.2 h (by rw [← HB.out.2.2.2.1]; exact ha) k hk
  go_wp2_with fail
  refine HGn.out.mono ?_
  rintro x w' ⟨rfl, hw⟩
  have hw := hw.symm
  subst hw
  clear HGn
  go_wp2_with fail
  refine (HSz.out w2 H2.out.1).mono ?_
  rintro x w' ⟨rfl, hw⟩
  have hw := hw.symm
  subst hw
  go_wp2_with fail
  refine (HPw.out w2 H2.out.1 G.gen d hg1 (by omega)).mono ?_
  rw [← HB.out.1]
  rintro x w3 ⟨rfl, nn, hw3⟩
  have H3 : Hid (FAt F T G g w3 ∧ Below w.heap.size w w3) := by rw [hw3]; exact ⟨H2.out.1.drewN nn, below_drewN2 H2.out.2 nn⟩
  clear hw3
  obtain ⟨w4, hw4⟩ : ∃ w4, w4 = w3.alloc (.cells #[.int .i64 1] 3) := ⟨_, rfl⟩
  obtain ⟨g4, hg4⟩ : ∃ g4, g4 = w3.heap.size := ⟨_, rfl⟩
  have H4 : Hid (FAt F T G g w4 ∧ Below w.heap.size w w4 ∧ Arg (some ⟨g4, 0, none⟩) 1 1 (fun j => ((nal G (fun _ => 0) 0 j : Nat) : Int)) w4) := by
    have hb4 : Below w3.heap.size w3 w4 := by rw [hw4]; exact (Below.refl _ _).alloc (Nat.le_refl _) _
    refine ⟨H3.out.1.below hb4 H3.out.1.ltF H3.out.1.ltT, bel_up' H3.out.2 hb4, ⟨fun j hj => ⟨g4, 0, rfl, ?_⟩, fun x hx => by cases hx; rw [hw4, hg4]; simp, by omega, fun e => (by cases e), by omega, by omega⟩⟩
    have : j = 0 := by omega
    subst this
    rw [hw4, hg4]
    show (w3.alloc (.cells #[.int .i64 1] 3)).cell? ⟨w3.heap.size, 0, none⟩ = some (Value.int .i64 ((1 : Nat) : Int))
    exact two_cell w3 _
  have HTo : Hid (Calls Tryz.prog 32 #[.int .i64 (q : Nat), .int .i64 (n : Nat), .slice zo m zc] w4 fun e w' => ∃ L, e = .returned (.map (some w4.heap.size)) ∧ Tg w4.heap.size L w' ∧ TgL q n z m L ∧ Below w4.heap.size w4 w') := by
    refine cytog_any hqE hn1 hn (by omega) (fun i hi => ?_) (fun a e => ?_) HZ.out.2.1
    · obtain ⟨b', off, e, k⟩ := HZ.out.1.1 i hi
      exact ⟨b', off, e, (H4.out.2.1.cell (p := ⟨b', off + i, none⟩) (show b' < w.heap.size from HZ.out.1.2 _ e)).trans k⟩
    · have := HZ.out.1.2 a e
      have := H4.out.2.1.size
      omega
  go_wp2_with fail
  rw [← hw4]
  try rw [← hg4]
  clear hw4 hg4
  refine HTo.out.mono ?_
  rintro x w5 ⟨L, rfl, hT5, hL5, hb5⟩
  have HL : Hid (TgL q n z m L) := hL5
  have H5 : Hid (Below w4.heap.size w4 w5) := hb5
  have HRi : Hid (Calls Tryz.prog 31 #[.map (some w4.heap.size)] w5 fun e w' => ∃ lo lc, e = .returned (.slice lo (rsn n L).length lc) ∧ ArgL lo (rsn n L).length lc (fun i => (((rsn n L).getD i 0 : Nat) : Int)) w' ∧ Below w5.heap.size w5 w') := by
    refine (rising_any hT5 hL5.nd hL5.lt hn).mono ?_
    rintro e w' ⟨v, rfl, ho, hb⟩
    obtain ⟨lo, lc, rfl, hA⟩ := ho.argOf (n := (rsn n L).length) (by rw [List.length_map])
    refine ⟨lo, lc, rfl, ⟨fun i hi => ?_, hA.lt, hA.nil, hA.le, hA.cap⟩, hb⟩
    obtain ⟨b', off, e, k⟩ := hA.sl i hi
    refine ⟨b', off, e, k.trans ?_⟩
    show some (Value.int .i64 (((rsn n L).map fun j => ((j : Nat) : Int)).getD i 0)) = some (Value.int .i64 (((rsn n L).getD i 0 : Nat) : Int))
    rw [List.getD_eq_getElem?_getD, List.getD_eq_getElem?_getD, List.getElem?_map, List.getElem?_eq_getElem hi]
    rfl
  clear hT5 hL5 hb5 HTo
  go_wp2_with fail
  refine HRi.out.mono ?_
  rintro x w6 ⟨lo, lc, rfl, hA6, hb6⟩
  obtain ⟨S, hS⟩ : ∃ S, S = rsn n L := ⟨_, rfl⟩
  rw [← hS] at hA6
  rw [← hS]
  obtain ⟨N, hN⟩ : ∃ N, N = S.length := ⟨_, rfl⟩
  rw [← hN] at hA6
  rw [← hN]
  have hN64 : N ≤ 64 := by rw [hN, hS]; exact Nat.le_trans rsn_len hn
  obtain ⟨c, hc⟩ : ∃ c : Nat → Nat, c = fun i => G.xp b (S.getD i 0) := ⟨_, rfl⟩
  have hb46 : Below w4.heap.size w4 w6 := bel_up' H5.out hb6
  have H6 : Hid (ArgL lo N lc (fun i => ((S.getD i 0 : Nat) : Int)) w6 ∧ Below w.heap.size w w6 ∧ FAt F T G g w6 ∧ Arg (some ⟨g4, 0, none⟩) 1 1 (fun j => ((nal G c 0 j : Nat) : Int)) w6) := ⟨hA6, bel_up' H4.out.2.1 hb46, H4.out.1.below hb46 H4.out.1.ltF H4.out.1.ltT, H4.out.2.2.below hb46⟩
  have HS : Hid (S = rsn n L ∧ N = S.length ∧ c = (fun i => G.xp b (S.getD i 0)) ∧ (∀ i, i < N → c i < G.q) ∧ ∀ i, i < N → S.getD i 0 < n) := by
    refine ⟨hS, hN, hc, fun i _ => by rw [hc]; exact xp_lt (fld HZ.out.2.2.2.2.2) _ _, fun i hi => ?_⟩
    have hm' : S.getD i 0 ∈ S := by
      rw [List.getD_eq_getElem?_getD, List.getElem?_eq_getElem (by rw [← hN]; exact hi)]
      exact List.getElem_mem _
    rw [hS] at hm' ⊢
    exact rsn_lt _ hm'
  clear hS hN hA6 hb6 hb46 hc HRi
  go_wp2
  go_loopw [10, 12, 47] (fun ve vo vi wr => ∃ (i : Nat) (ao : Option Addr) (ca : Nat), i ≤ N ∧ ve = .int .i64 0 ∧ vo = .slice ao (i + 1 : Nat) ca ∧ vi = .int .i64 (i : Nat) ∧ Hid (Arg ao (i + 1) ca (fun j => ((nal G c i j : Nat) : Int)) wr ∧ Below w6.heap.size w6 wr)) (fun _ _ vi _ => N - (RowKit.intOf vi).toNat)
  case atStart => exact ⟨0, _, _, by omega, rfl, rfl, rfl, H6.out.2.2.2, Below.refl _ _⟩
  case round =>
    obtain ⟨i, ao, ca, hi, rfl, rfl, rfl, HI⟩ := hrel
    rename World => wr
    have hatr : Hid (FAt F T G g wr) := H6.out.2.2.1.below HI.out.2 H6.out.2.2.1.ltF H6.out.2.2.1.ltT
    by_cases hlt : i < N
    · have hib : (i : Int) < (N : Int) := by omega
      have hi0 : (0 : Int) ≤ (i : Int) := by omega
      obtain ⟨bx, ox, hxo, cx0⟩ := H6.out.1.sl i hlt
      have lx := H6.out.1.lt _ hxo
      obtain ⟨k, hk⟩ : ∃ k, k = S.getD i 0 := ⟨_, rfl⟩
      have cx : wr.cell? ⟨bx, ox + i, none⟩ = some (.int .i64 (k : Nat)) := by rw [hk]; exact (HI.out.2.cell (p := ⟨bx, ox + i, none⟩) lx).trans cx0
      obtain ⟨x, hx⟩ : ∃ x, x = G.xp b k := ⟨_, rfl⟩
      have HX : Hid (x = c i ∧ x < G.q ∧ x = G.xp b k ∧ k ≤ 1000) := by
        refine ⟨by rw [hx, hk, HS.out.2.2.1], by rw [hx]; exact xp_lt (fld HZ.out.2.2.2.2.2) _ _, hx, ?_⟩
        have := HS.out.2.2.2.2 i hlt
        rw [← hk] at this
        omega
      subst hxo
      clear hk hx lx cx0
      go_wp2_with fail
      refine (HSz.out wr hatr.out).mono ?_
      rintro e w' ⟨rfl, hw⟩
      have hw := hw.symm
      subst hw
      go_wp2_with fail
      refine (HPw.out wr hatr.out b k HB.out.2.1 HX.out.2.2.2).mono ?_
      rw [← HX.out.2.2.1]
      rintro e w7 ⟨rfl, nn, hw7⟩
      have H7 : Hid (FAt F T G g w7 ∧ Below wr.heap.size wr w7) := by rw [hw7]; exact ⟨hatr.out.drewN nn, below_drewN2 (Below.refl _ _) nn⟩
      clear hw7
      have HNg : Hid (Calls Tryz.prog 41 #[.pointer (some ⟨F, 0, none⟩), .int .i64 (x : Nat)] w7 fun e w' => e = .returned (.int .i64 (G.ng x : Nat)) ∧ ∃ n, w' = w7.drewN n) := neg_nat HZ.out.2.2.2.2.2 H7.out.1 HX.out.2.1
      go_wp2_with fail
      refine HNg.out.mono ?_
      rintro e w8 ⟨rfl, n8, hw8⟩
      have H8 : Hid (Below wr.heap.size wr w8) := by rw [hw8]; exact below_drewN2 H7.out.2 n8
      clear hw8 HNg
      obtain ⟨w9, hw9⟩ : ∃ w9, w9 = w8.alloc (.cells #[.int .i64 (G.ng x : Nat), .int .i64 1] 3) := ⟨_, rfl⟩
      obtain ⟨g8, hg8⟩ : ∃ g8, g8 = w8.heap.size := ⟨_, rfl⟩
      have H9 : Hid (Below wr.heap.size wr w9 ∧ Arg (some ⟨g8, 0, none⟩) 2 2 (fun j => ((xmr G x j : Nat) : Int)) w9) := by
        rw [hw9, hg8]
        refine ⟨H8.out.alloc H8.out.size _, fun j hj => ⟨w8.heap.size, 0, rfl, ?_⟩, fun y hy => by cases hy; simp, by omega, fun e => (by cases e), by omega, by omega⟩
        have : j = 0 ∨ j = 1 := by omega
        rcases this with rfl | rfl
        · exact (duo_cell w8 _ _).1
        · exact (duo_cell w8 _ _).2
      have HM : Hid (Calls Tryz.prog 40 #[.int .i64 (Q : Nat), .slice ao (i + 1 : Nat) ca, .slice (some ⟨g8, 0, none⟩) 2 2] w9 fun e w' => ∃ mo mc, e = .returned (.tuple #[.slice mo (i + 1 + 1 : Nat) mc, .int .i64 0]) ∧ Arg mo (i + 1 + 1) mc (fun j => ((nal G c (i + 1) j : Nat) : Int)) w' ∧ Below w9.heap.size w9 w') := by
        have hG := HZ.out.2.2.2.2.2
        have F' := fld hG
        obtain ⟨n1, n2, n3, _⟩ := nal_ok F' HS.out.2.2.2.1 i hi
        obtain ⟨m1, m2, m3, _⟩ := nal_ok F' HS.out.2.2.2.1 (i + 1) (by omega)
        have hxe := xmr_el F' HX.out.2.1
        have z1 : Go.Proofs.YtppggchhkckobaaGreat.zc (i + 1) (fun j => ((nal G c i j : Nat) : Int)) = nal G c i := zc_nat n2
        have z2 : Go.Proofs.YtppggchhkckobaaGreat.zc 2 (fun j => ((xmr G x j : Nat) : Int)) = xmr G x := zc_nat (xmr_bd x)
        have hck : G.chk2 (i + 1) (fun j => ((nal G c i j : Nat) : Int)) 2 (fun j => ((xmr G x j : Nat) : Int)) = 0 := by
          unfold FD.chk2
          rw [if_pos (chk_nat n1 (by omega))]
          exact chk_nat hxe (by omega)
        have d1 : dgn (nal G c i) (i + 1) = i + 1 := dgn_self (fun _ => by rw [Nat.add_sub_cancel, n3]; omega)
        have d2 : dgn (xmr G x) 2 = 2 := dgn_self (fun _ => by show xmr G x 1 ≠ 0; unfold xmr; simp)
        have hp : pmul G (i + 1) (nal G c i) (xmr G x) = nal G c (i + 1) := by rw [HX.out.1]; exact nal_succ F' HS.out.2.2.2.1 hlt
        rw [HB.out.2.2.2.1]
        refine (pmul_any hG (HI.out.1.below H9.out.1) H9.out.2).mono ?_
        rw [z1, z2, d1, d2, hp]
        rintro e w' ⟨hb', ⟨_, _, v, rfl, hv⟩ | ⟨_, hbad, _⟩ | ⟨hbad, _⟩⟩
        · have d3 : dgn (nal G c (i + 1)) (i + 1 + 2) = i + 1 + 1 := dgn_is (m2.mono (by omega)) m2 (fun _ => by rw [Nat.add_sub_cancel, m3]; omega)
          rw [d3] at hv
          obtain ⟨mo, mc, rfl, hA⟩ := hv.arg (by omega)
          exact ⟨mo, mc, rfl, hA, hb'⟩
        · omega
        · exact absurd hck hbad
      go_wp2_with fail
      rw [← hw9]
      try rw [← hg8]
      clear hw9 hg8
      refine HM.out.mono ?_
      rintro e y1 ⟨mo, mc, rfl, hA4, hb4⟩
      have HY : Hid (Arg mo (i + 1 + 1) mc (fun j => ((nal G c (i + 1) j : Nat) : Int)) y1 ∧ Below w6.heap.size w6 y1) := ⟨hA4, bel_up' (bel_up' HI.out.2 H9.out.1) hb4⟩
      clear hA4 hb4
      go_wp2
      go_roundw
      case rel => exact ⟨i + 1, mo, mc, by omega, rfl, rfl, by go_num, HY.out⟩
      case measure => simp [RowKit.intOf]; omega
    · have hib : ¬ (i : Int) < (N : Int) := by omega
      have hie : N = i := by omega
      subst hie
      have HTo : Hid (Calls Tryz.prog 42 #[.int .i64 (q : Nat), .int .i64 (Q : Nat), .slice ao (N + 1 : Nat) ca] wr fun e w' => ∃ v, e = .returned (.tuple #[v, .int .i64 0]) ∧ OwnI wr.heap.size v (zl (N + 1) fun k => ((gnr G E b S k : Nat) : Int)) w' ∧ Below wr.heap.size wr w') := by
        have hG := HZ.out.2.2.2.2.2
        have e1 : nal G c N = prL G (S.map (G.xp b)) := by rw [HS.out.2.1, HS.out.2.2.1]; exact nal_gen hG b S
        have hcl : Clq E.q n S := by rw [HS.out.1, ← HB.out.2.2.2.2.1]; exact rsn_cl HL.out.lt HL.out.cl
        have hnd : S.Nodup := by rw [HS.out.1]; exact rsn_nd n L
        have hlt' : ∀ k ∈ S, k < n := by rw [HS.out.1]; exact rsn_lt
        have h := toldOver_any (ca := ca) hG HZ.out.2.2.1 HZ.out.2.2.2.1.over HI.out.1.sl HI.out.1.lt (show N + 1 ≤ 100 by omega) (fun j _ => by
          rw [e1]
          exact gtl_is hG HZ.out.2.2.1 HZ.out.2.2.2.1.over (prL_el (fld hG) _ j) (prod_fix hG HZ.out.2.2.1 HZ.out.2.2.2.1.over HB.out.2.2.2.2.2 HZ.out.2.2.2.2.1 hnd hlt' hcl j))
        rw [e1, ← HB.out.2.2.2.1, ← HB.out.2.2.2.2.1] at h
        exact h
      go_wp2_with fail
      refine (HSz.out wr hatr.out).mono ?_
      rintro e w' ⟨rfl, hw⟩
      have hw := hw.symm
      subst hw
      go_wp2_with fail
      refine HTo.out.mono ?_
      rintro e y2 ⟨v, rfl, ho, hb⟩
      have HY : Hid (OwnI w.heap.size v (zl (N + 1) fun k => ((gnr G E b S k : Nat) : Int)) y2 ∧ Below w.heap.size w y2) := by
        have hbw := bel_up' H6.out.2.1 HI.out.2
        exact ⟨ho.mono hbw.size, bel_up' hbw hb⟩
      clear ho hb HTo
      go_wp2
      go_ret2
      refine ⟨v, L, rfl, HL.out, ?_, HY.out.2⟩
      rw [← HS.out.1, ← HS.out.2.1]
      exact HY.out.1
end Go.Proofs.YtppggchhkckobaaGreat

/- Cyclic: Generator of zeros, where there is a root: a divisor of x^n - 1. -/
namespace Go.Proofs.YtppggchhkckobaaGreat
open Go.RowKit Go.Sort

/-- A field and a length with a root in some field. -/
structure Szo (E : FD) (n : Nat) : Prop where
  fld : E ∈ fieldsL
  n1 : 1 ≤ n
  n64 : n ≤ 64
  p : n % E.p ≠ 0
  rt : ¬ WRn E n
theorem Szo.cyc {E : FD} {n : Nat} (h : Szo E n) : cyc E (n : Int) = 0 := by
  have h1 := h.n1
  have h2 := h.n64
  unfold Go.Proofs.YtppggchhkckobaaGreat.cyc
  rw [if_neg (by omega), Int.toNat_natCast, if_neg h.p]
theorem least_ex {P : Nat → Prop} : ∀ n, P n → ∃ i, P i ∧ ∀ j, j < i → ¬ P j := by
  intro n
  induction n using Nat.strongRecOn with
  | ind n ih =>
    intro h
    by_cases c : ∃ j, j < n ∧ P j
    · obtain ⟨j, hj, hP⟩ := c
      exact ih j hj hP
    · exact ⟨n, h, fun j hj hP => c ⟨j, hj, hP⟩⟩
theorem fd_q {D D' : FD} (h : D ∈ fieldsL) (h' : D' ∈ fieldsL) (e : D.q = D'.q) : D = D' := by
  have k : (fieldsL.all fun A => fieldsL.all fun B => !(A.q == B.q) || (A.q == B.q && A.p == B.p && A.m == B.m && A.low == B.low && A.gen == B.gen)) = true := by decide +kernel
  have k := List.all_eq_true.1 (List.all_eq_true.1 k D h) D' h'
  rw [e] at k
  simp only [beq_self_eq_true, Bool.not_true, Bool.false_or, Bool.and_eq_true, beq_iff_eq, Bool.true_and] at k
  cases D
  cases D'
  simp_all
theorem pow_small {q i : Nat} (hq : 2 ≤ q) (h : q ^ (i + 1) ≤ 64) : i < 7 := by
  refine Classical.byContradiction fun c => ?_
  have h1 : 2 ^ 7 ≤ 2 ^ (i + 1) := Nat.pow_le_pow_right (by omega) (by omega)
  have h2 : 2 ^ (i + 1) ≤ q ^ (i + 1) := Nat.pow_le_pow_left hq _
  omega
theorem Szo.wr {E : FD} {n : Nat} (h : Szo E n) : ∃ G, WR E n G ∧ ∀ w1, Calls Tryz.prog 36 #[.int .i64 E.q, .int .i64 (n : Nat)] w1 fun e w' => ∃ F T g, e = .returned (.tuple #[.pointer (some ⟨F, 0, none⟩), .int .i64 0]) ∧ FAt F T G g w' ∧ Below w1.heap.size w1 w' := by
  have hq2 := (Go.Proofs.YtppggchhkckobaaGreat.fld h.fld).q2
  obtain ⟨i0, hi0⟩ : ∃ i, E.q ^ (i + 1) ≤ 64 ∧ (E.q ^ (i + 1) - 1) % n = 0 := by
    refine Classical.byContradiction fun c => h.rt (fun i hi e => c ⟨i, hi, e⟩)
  obtain ⟨i, hi, hl⟩ := least_ex (P := fun i => E.q ^ (i + 1) ≤ 64 ∧ (E.q ^ (i + 1) - 1) % n = 0) i0 hi0
  obtain ⟨G, hG, hGq, hGo⟩ := fld_of_pow h.fld (pow_small hq2 hi.1) hi.1
  have hlst : ∀ j, j < i → (E.q ^ (j + 1) - 1) % n ≠ 0 := fun j hj e => hl j hj ⟨Nat.le_trans (Nat.pow_le_pow_right (by omega) (by omega)) hi.1, e⟩
  refine ⟨G, ⟨hG, hGo, by rw [hGq]; exact hi.2, i, hGq, hlst⟩, fun w1 => (withRoot_any h.fld h.n1 h.n64 w1).mono ?_⟩
  rintro e w' (⟨G', F, T, g, rfl, hW, hF, _, _, hb⟩ | ⟨_, hn, _⟩)
  · obtain ⟨i', e', l'⟩ := hW.least
    have hii : i' = i := by
      rcases Nat.lt_trichotomy i' i with c | c | c
      · exact absurd (by rw [← e']; exact hW.root) (hlst i' c)
      · exact c
      · exact absurd hi.2 (l' i c)
    have hGG : G' = G := fd_q hW.fld hG (by rw [e', hGq, hii])
    subst hGG
    exact ⟨F, T, g, rfl, hF, hb⟩
  · exact absurd hn h.rt
/-- What is not in a closed list is closed too. -/
theorem co_cl {q n : Nat} {S : List Nat} (ho : Ord q n) (hc : Clq q n S) : Clq q n ((List.range n).filter fun k => !S.contains k) := fun k hk => by
  obtain ⟨i, hi⟩ := ho.inv
  obtain ⟨h1, h2⟩ := List.mem_filter.1 hk
  have hkn := List.mem_range.1 h1
  refine List.mem_filter.2 ⟨List.mem_range.2 (Nat.mod_lt _ (by omega)), ?_⟩
  cases hh : S.contains (k * q % n) with
  | false => rfl
  | true =>
    have hm := List.contains_iff_mem.1 hh
    have hk2 := hc.orb hm (Nat.mod_lt _ (by omega)) i
    rw [(hi k hkn).1] at hk2
    rw [List.contains_iff_mem.2 hk2] at h2
    cases h2
theorem co_perm {n : Nat} {S : List Nat} (hd : S.Nodup) (hl : ∀ k ∈ S, k < n) : (((List.range n).filter fun k => !S.contains k) ++ S).Perm (List.range n) := by
  refine (List.perm_ext_iff_of_nodup ?_ List.nodup_range).2 (fun a => ?_)
  · rw [List.nodup_append]
    refine ⟨List.nodup_range.filter _, hd, fun a ha b hb e => ?_⟩
    rw [e] at ha
    have := (List.mem_filter.1 ha).2
    rw [List.contains_iff_mem.2 hb] at this
    cases this
  · rw [List.mem_append, List.mem_filter, List.mem_range]
    constructor
    · rintro (h | h)
      · exact h.1
      · exact hl a h
    · intro h
      cases hh : S.contains a with
      | false => exact Or.inl ⟨h, rfl⟩
      | true => exact Or.inr (List.contains_iff_mem.1 hh)

/-- A divisor of x^n - 1. -/
structure Dvs (E : FD) (n : Nat) (g Q : Nat → Nat) (M K : Nat) : Prop where
  m1 : 1 ≤ M
  el : El E g
  bd : Bd M g
  top : g (M - 1) ≠ 0
  sum : K + M = n + 1
  elQ : El E Q
  bdQ : Bd (K + 1) Q
  topQ : Q K ≠ 0
  mul : pmul E (K + 1) Q g = whl E n
end Go.Proofs.YtppggchhkckobaaGreat
