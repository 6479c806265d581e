/- Trellises: the law of the likeliest. -/
import Derived.Test.YtlljaliemldjkaaZKV14
import Derived.Test.YtlljaliemldjkaaZKH9
import Derived.Test.YtlljaliemldjkaaZS33
import Derived.Test.YtlljaliemldjkaaZKL12
namespace Go.Proofs.Ytlljaliemldjkaa
open Go.RowKit Go.Sort

set_option maxHeartbeats 4000000 in
set_option maxRecDepth 100000 in
theorem rbelow_many {ao bo : Option Addr} {m ca cb : Nat} {c d : Nat → Nat} {w : World} (hX : SlZ ao m (fun j => ((c j : Nat) : Int)) w) (hY : SlZ bo m (fun j => ((d j : Nat) : Int)) w) (hm : m ≤ 100) (hc : ∀ j, c j ≤ 1) (hd : ∀ j, d j ≤ 1) :
    Calls Try.prog 32 #[.slice ao m ca, .slice bo m cb] w fun e w' => e = .returned (.bool (decide (dnum 2 c m < dnum 2 d m))) ∧ ∃ n, w' = w.drewN n := by
  obtain ⟨R, hR⟩ : ∃ R, R = decide (dnum 2 c m < dnum 2 d m) := ⟨_, rfl⟩
  have HF : Hid (SlZ ao m (fun j => ((c j : Nat) : Int)) w ∧ SlZ bo m (fun j => ((d j : Nat) : Int)) w ∧ (∀ j, c j ≤ 1) ∧ (∀ j, d j ≤ 1) ∧ R = decide (dnum 2 c m < dnum 2 d m)) := ⟨hX, hY, hc, hd, hR⟩
  rw [← hR]
  have hmm : ¬ (m : Int) < (m : Int) := by omega
  clear hX hY hc hd hR
  go_enter Try.func32, Try.ntmps32
  go_wp2
  go_loopw [5] (fun vi wr => ∃ i : Nat, i ≤ m ∧ vi = .int .i64 (i : Nat) ∧ Hid ((∀ j, j < i → c j = d j) ∧ ∃ n, wr = w.drewN n)) (fun vi _ => m - (intOf vi).toNat)
  case atStart => exact ⟨0, by omega, rfl, fun j hj => absurd hj (by omega), 0, rfl⟩
  case round =>
    obtain ⟨i, hi, rfl, HG⟩ := hrel
    rename World => wr
    by_cases hlt : i < m
    · have hib : (i : Int) < (m : Int) := by omega
      have hib0 : (0 : Int) ≤ (i : Int) := by omega
      obtain ⟨ba, oa, hao, hca⟩ := HF.out.1 i hlt
      obtain ⟨bb, ob, hbo, hcb⟩ := HF.out.2.1 i hlt
      obtain ⟨x, hx⟩ : ∃ x, x = c i := ⟨_, rfl⟩
      obtain ⟨y, hy⟩ : ∃ y, y = d i := ⟨_, rfl⟩
      replace hca : wr.cell? ⟨ba, oa + i, none⟩ = some (.int .i64 (x : Nat)) := by obtain ⟨n, hn⟩ := HG.out.2; rw [hn, hx]; exact hca
      replace hcb : wr.cell? ⟨bb, ob + i, none⟩ = some (.int .i64 (y : Nat)) := by obtain ⟨n, hn⟩ := HG.out.2; rw [hn, hy]; exact hcb
      subst hao
      subst hbo
      have HW : Hid (∀ e, Hid (∃ e', wr.drewN e = w.drewN e')) := fun e => by
        obtain ⟨n, hn⟩ := HG.out.2
        exact ⟨_, by rw [hn, World.drewN_drewN]⟩
      by_cases hxy : x = y
      · have zxy : ((x : Int) != (y : Int)) = false := by rw [hxy]; simp
        have HN : Hid (∀ j, j < i + 1 → c j = d j) := fun j hj => by
          by_cases e : j = i
          · rw [e, ← hx, ← hy, hxy]
          · exact HG.out.1 j (by omega)
        clear hx hy hxy
        go_wp2
        go_quiet (fail)
        go_wp2
        go_roundw
        case rel => exact ⟨i + 1, by omega, by go_num, HN.out, (HW.out _).out⟩
        case measure => simp [intOf]; omega
      · have zxy : ((x : Int) != (y : Int)) = true := bne_iff_ne.2 (by omega)
        have HQ : Hid (decide (x < y) = R) := by
          have h13 : ∀ u : Nat → Nat, (∀ j, u j ≤ 1) → ∀ t, t < i + 1 + (m - (i + 1)) → u t < 2 := fun u hu t _ => by have := hu t; omega
          have em : i + 1 + (m - (i + 1)) = m := by omega
          show decide (x < y) = R
          rw [HF.out.2.2.2.2]
          rcases Nat.lt_or_ge x y with h | h
          · have h1 := dnum_lex (q := 2) HG.out.1 (show c i < d i by rw [← hx, ← hy]; exact h) (m - (i + 1)) (h13 c HF.out.2.2.1)
            rw [em] at h1
            rw [decide_eq_true h, decide_eq_true h1]
          · have h1 := dnum_lex (q := 2) (fun j hj => (HG.out.1 j hj).symm) (show d i < c i by rw [← hx, ← hy]; omega) (m - (i + 1)) (h13 d HF.out.2.2.2.1)
            rw [em] at h1
            rw [decide_eq_false (by omega), decide_eq_false (by omega)]
        clear hx hy hxy
        go_wp2
        go_quiet (fail)
        go_wp2
        go_quiet (fail)
        go_wp2
        go_ret
        exact ⟨by rw [← HQ.out]; rfl, by first | exact (HW.out _).out | (rw [World.drewN_drewN]; exact (HW.out _).out)⟩
    · have hib : ¬ (i : Int) < (m : Int) := by omega
      have HQ : Hid (R = false) := by
        show R = false
        rw [HF.out.2.2.2.2, dnum_congr (e := d) m (fun j hj => HG.out.1 j (by omega))]
        exact decide_eq_false (by omega)
      go_wp2
      go_ret
      exact ⟨by rw [HQ.out]; rfl, HG.out.2⟩

theorem bitN_dgs {n b j : Nat} (hj : j < n) : bitN n b j = dgs 2 n b j := by unfold bitN dgs; rw [if_pos hj]
/-- Bits are the digits of their number. -/
theorem bits_dgs {n : Nat} {x : Nat → Int} (h : allP isbt x n = true) : ∃ k, k < 2 ^ n ∧ ∀ j, j < n → x j = ((dgs 2 n k j : Nat) : Int) := by
  have hb : ∀ j, j < n → x j = 0 ∨ x j = 1 := fun j hj => by have := allP_iff n h j hj; unfold isbt at this; simpa using this
  have hm : ∀ j, j < n → (x j).toNat < 2 := fun j hj => by rcases hb j hj with h | h <;> rw [h] <;> decide
  have hk := dnum_lt (q := 2) (c := fun j => (x j).toNat) n hm
  refine ⟨dnum 2 (fun j => (x j).toNat) n, hk, fun j hj => ?_⟩
  have h := dnum_inj (q := 2) n hm (fun i _ => dgs_lt (by omega) i) (dnum_dgs (q := 2) (k := n) (by omega) hk).symm j hj
  rw [← h]
  have := hb j hj
  show x j = (((x j).toNat : Nat) : Int)
  omega
theorem SlZ.at' {ao : Option Addr} {n : Nat} {z y : Nat → Int} {w : World} (h : SlZ ao n z w) (e : ∀ j, j < n → z j = y j) : SlZ ao n y w := fun j hj => by
  obtain ⟨b, o, h1, h2⟩ := h j hj
  exact ⟨b, o, h1, by rw [← e j hj]; exact h2⟩

set_option maxHeartbeats 4000000 in
set_option maxRecDepth 100000 in
theorem tlik_e {E : Int} (hE : E ≠ 0) {ao mo so : Option Addr} {R ca ml mc l sc n : Nat} {w : World} (hV : Calls Try.prog 22 #[.slice ao R ca, .slice so l sc] w fun e w' => e = .returned (.tuple #[.slice none 0 0, .int .i64 0, .int .i64 E]) ∧ Below w.heap.size w w') :
    Calls Try.prog 15 #[.slice ao R ca, .slice mo ml mc, .slice so l sc, .int .i64 (n : Nat), .int .i64 E] w fun e w' => e = .returned (.bool true) ∧ Below w.heap.size w w' := by
  have HV : Hid (Calls Try.prog 22 #[.slice ao R ca, .slice so l sc] w fun e w' => e = .returned (.tuple #[.slice none 0 0, .int .i64 0, .int .i64 E]) ∧ Below w.heap.size w w') := hV
  have hz : (E != 0) = true := bne_iff_ne.2 hE
  clear hV
  go_enter Try.func15, Try.ntmps15
  go_wp2_with fail
  refine HV.out.mono ?_
  rintro e w1 ⟨rfl, hb1⟩
  have H1 : Hid (Below w.heap.size w w1) := hb1
  clear hb1
  go_wp2
  go_ret
  exact ⟨by simp, H1.out⟩
set_option maxHeartbeats 16000000 in
set_option maxRecDepth 100000 in
theorem tlik_ok {ao mo so : Option Addr} {R ca ml mc l sc N : Nat} {z : Nat → Nat} {x y : Nat → Int} {w : World} (hX : RlA ao R z w) (hM : SlZ mo ml x w) (hMl : LtB mo w.heap.size) (hml : ml ≤ 300) (hY : SlZ so l y w) (hYl : LtB so w.heap.size) (hl : l ≤ 300) (hE : lgE (mmr z R) R l y = 0) (hN : lgN (mmr z R) R l y = N) :
    Calls Try.prog 15 #[.slice ao R ca, .slice mo ml mc, .slice so l sc, .int .i64 (N : Nat), .int .i64 0] w fun e w' => e = .returned (.bool true) ∧ Below w.heap.size w w' := by
  have hlg := lgE_ok hE
  rw [hN] at hlg
  have hN20 : N ≤ 20 := hlg.2.1
  have HV : Hid (Calls Try.prog 22 #[.slice ao R ca, .slice so l sc] w fun e w' => ∃ b v, Fst (apt z R y N (mmr z R)) (2 ^ N) b ∧ e = .returned (.tuple #[v, .int .i64 (apt z R y N (mmr z R) b : Nat), .int .i64 0]) ∧ OwnI w.heap.size v (zl N fun j => ((bitN N b j : Nat) : Int)) w' ∧ Below w.heap.size w w') := tvit_ok hX hY hYl hl hE hN
  have HR : Hid (∀ wx, Below w.heap.size w wx → Calls Try.prog 30 #[.slice ao R ca, .slice so l sc, .int .i64 (N : Nat)] wx fun e w' => ∃ b v, Fst (apt z R y N (mmr z R)) (2 ^ N) b ∧ e = .returned (.tuple #[v, .int .i64 (apt z R y N (mmr z R) b : Nat)]) ∧ OwnI wx.heap.size v (zl N fun j => ((dgs 2 N b j : Nat) : Int)) w' ∧ Below wx.heap.size wx w') := fun wx hb => rlikeliest_any (hX.below hb) (hY.below hb hYl) (hYl.mono hb.size) hlg.1 hN20
  have HSg : Hid (∀ (xo : Option Addr) (xc k : Nat) (wx : World), Below w.heap.size w wx → SlZ xo N (fun j => ((dgs 2 N k j : Nat) : Int)) wx → LtB xo wx.heap.size → Calls Try.prog 8 #[.slice ao R ca, .slice xo N xc] wx fun e w' => ∃ bo cb, e = .returned (.slice bo l cb) ∧ SlZ bo l (fun i => ((sgn' z R (dgs 2 N k) N i : Nat) : Int)) w' ∧ Below wx.heap.size wx w') := fun xo xc k wx hb hs hlt => by
    refine (rsigns_any (cb := xc) (hX.below hb) (m := dgs 2 N k) ⟨hs, hlt, fun i _ => dgs_le1 N k i⟩ hN20).mono ?_
    rintro e w' ⟨v, rfl, ho, hb'⟩
    rw [← hlg.1] at ho
    obtain ⟨bo, cb, rfl, hs, _⟩ := OwnI.slz ho
    exact ⟨bo, cb, rfl, hs, hb'⟩
  have HAp : Hid (∀ (k : Nat) (bo : Option Addr) (cb : Nat) (wx : World), Below w.heap.size w wx → SlZ bo l (fun i => ((sgn' z R (dgs 2 N k) N i : Nat) : Int)) wx → Calls Try.prog 31 #[.slice bo l cb, .slice so l sc] wx fun e w' => e = .returned (.int .i64 (apt z R y N (mmr z R) k : Nat)) ∧ ∃ j, w' = wx.drewN j) := fun k bo cb wx hb hs => by
    have h := rapartS_any (ca := cb) (cb := sc) hs (hY.below hb hYl) (by omega)
    refine h.mono ?_
    rintro e w' ⟨rfl, hd⟩
    refine ⟨?_, hd⟩
    unfold apt
    rw [aps_ct, ← hlg.1]
  obtain ⟨f, hf⟩ : ∃ f, f = apt z R y N (mmr z R) := ⟨_, rfl⟩
  rw [← hf] at HV HR HAp
  have HM : Hid (SlZ mo ml x w ∧ LtB mo w.heap.size) := ⟨hM, hMl⟩
  clear hX hM hMl hY hYl hE hN hlg hf
  go_enter Try.func15, Try.ntmps15
  go_wp2_with fail
  refine HV.out.mono ?_
  rintro e w1 ⟨b, v, hF, rfl, ho1, hb1⟩
  rw [zl_congr (y := fun j => ((dgs 2 N b j : Nat) : Int)) (fun j hj => by rw [bitN_dgs hj])] at ho1
  obtain ⟨xo, xc, rfl, hs1, hlt1⟩ := OwnI.slz ho1
  have H1 : Hid (Fst f (2 ^ N) b ∧ OwnI w.heap.size (.slice xo N xc) (zl N fun j => ((dgs 2 N b j : Nat) : Int)) w1 ∧ SlZ xo N (fun j => ((dgs 2 N b j : Nat) : Int)) w1 ∧ LtB xo w1.heap.size ∧ Below w.heap.size w w1) := ⟨hF, ho1, hs1, hlt1, hb1⟩
  clear hF ho1 hs1 hlt1 hb1
  by_cases h10 : N ≤ 10
  · have h10z : (N : Int) ≤ 10 := by omega
    go_wp2_with fail
    refine (HR.out w1 H1.out.2.2.2.2).mono ?_
    rintro e w2 ⟨b2, v2, hF2, rfl, ho2, hb2⟩
    have hbb := Fst.uniq hF2 H1.out.1
    rw [hbb] at ho2 ⊢
    have HSm : Hid (Calls Try.prog 29 #[.slice xo N xc, v2] w2 fun e w' => e = .returned (.bool true) ∧ ∃ n, w' = w2.drewN n) := same_yes ((H1.out.2.1.below hb2 fun q hq => (H1.out.2.1.lt q hq).2).slice (by rw [zl_len]; omega)) (ho2.slice (by rw [zl_len]; omega))
    have H2 : Hid (Below w.heap.size w w2) := bel_up' H1.out.2.2.2.2 hb2
    clear hF2 ho2 hb2 hbb
    go_wp2_with fail
    refine HSm.out.mono ?_
    rintro e w3 ⟨rfl, d3, hw3⟩
    have H3 : Hid (Below w.heap.size w w3) := by rw [hw3]; exact below_drewN2 H2.out d3
    clear hw3
    go_wp2
    go_ret
    exact ⟨by simp, H3.out⟩
  · have h10z : ¬ (N : Int) ≤ 10 := by omega
    have hNN : ((N : Int) != (N : Int)) = false := by simp
    have HBx : Hid (Calls Try.prog 7 #[.slice xo N xc, .bool false] w1 fun e w' => e = .returned (.bool true) ∧ w' = w1) := by
      have h := rbits_any false (cap := xc) H1.out.2.2.1 (by omega)
      rw [allP_mk N (fun j _ => by have := dgs_le1 N b j; unfold isbg isbt; simp; omega)] at h
      exact h
    go_wp2_with fail
    refine HBx.out.mono ?_
    rintro e w' ⟨rfl, hw⟩
    have hw := hw.symm
    subst hw
    go_wp2_with fail
    refine (HSg.out xo xc b w1 H1.out.2.2.2.2 H1.out.2.2.1 H1.out.2.2.2.1).mono ?_
    rintro e w3 ⟨bo3, cb3, rfl, hs3, hb3⟩
    have H3 : Hid (SlZ bo3 l (fun i => ((sgn' z R (dgs 2 N b) N i : Nat) : Int)) w3 ∧ SlZ xo N (fun j => ((dgs 2 N b j : Nat) : Int)) w3 ∧ LtB xo w3.heap.size ∧ Below w.heap.size w w3) := ⟨hs3, H1.out.2.2.1.below hb3 H1.out.2.2.2.1, H1.out.2.2.2.1.mono hb3.size, bel_up' H1.out.2.2.2.2 hb3⟩
    clear hs3 hb3
    go_wp2_with fail
    refine (HAp.out b bo3 cb3 w3 H3.out.2.2.2 H3.out.1).mono ?_
    rintro e w4 ⟨rfl, d4, hw4⟩
    have H4 : Hid (SlZ xo N (fun j => ((dgs 2 N b j : Nat) : Int)) w4 ∧ LtB xo w4.heap.size ∧ Below w.heap.size w w4) := by
      rw [hw4]; exact ⟨H3.out.2.1, H3.out.2.2.1, below_drewN2 H3.out.2.2.2 d4⟩
    clear hw4
    have hff : (((f b : Nat) : Int) != ((f b : Nat) : Int)) = false := by simp
    by_cases hmn : ml = N
    · subst hmn
      have HBm : Hid (Calls Try.prog 7 #[.slice mo ml mc, .bool false] w4 fun e w' => e = .returned (.bool (allP isbt x ml)) ∧ w' = w4) := rbits_any false (HM.out.1.below H4.out.2.2 HM.out.2) (by omega)
      by_cases hab : allP isbt x ml = true
      · obtain ⟨k, hk2, hxk⟩ := bits_dgs hab
        rw [hab] at HBm
        have HK : Hid (k < 2 ^ ml ∧ ∀ wx, Below w.heap.size w wx → SlZ mo ml (fun j => ((dgs 2 ml k j : Nat) : Int)) wx) := ⟨hk2, fun wx hb => (HM.out.1.below hb HM.out.2).at' hxk⟩
        clear hab hk2 hxk
        go_wp2_with fail
        refine HBm.out.mono ?_
        rintro e w' ⟨rfl, hw⟩
        have hw := hw.symm
        subst hw
        go_wp2_with fail
        refine (HSg.out mo mc k w4 H4.out.2.2 (HK.out.2 w4 H4.out.2.2) (HM.out.2.mono H4.out.2.2.size)).mono ?_
        rintro e w5 ⟨bo5, cb5, rfl, hs5, hb5⟩
        have H5 : Hid (SlZ bo5 l (fun i => ((sgn' z R (dgs 2 ml k) ml i : Nat) : Int)) w5 ∧ SlZ xo ml (fun j => ((dgs 2 ml b j : Nat) : Int)) w5 ∧ Below w.heap.size w w5) := ⟨hs5, H4.out.1.below hb5 H4.out.2.1, bel_up' H4.out.2.2 hb5⟩
        clear hs5 hb5
        go_wp2_with fail
        refine (HAp.out k bo5 cb5 w5 H5.out.2.2 H5.out.1).mono ?_
        rintro e w6 ⟨rfl, d6, hw6⟩
        have H6 : Hid (SlZ xo ml (fun j => ((dgs 2 ml b j : Nat) : Int)) w6 ∧ Below w.heap.size w w6) := by
          rw [hw6]; exact ⟨H5.out.2.1, below_drewN2 H5.out.2.2 d6⟩
        clear hw6
        rcases H1.out.1.2 k HK.out.1 with hlt | ⟨heq, hle⟩
        · have hltz : ((f b : Nat) : Int) < ((f k : Nat) : Int) := by omega
          clear hlt
          go_wp2
          go_ret
          exact ⟨by simp, H6.out.2⟩
        · have hltz : ¬ ((f b : Nat) : Int) < ((f k : Nat) : Int) := by omega
          have heqz : (((f b : Nat) : Int) == ((f k : Nat) : Int)) = true := by rw [heq]; simp
          have HBl : Hid (Calls Try.prog 32 #[.slice mo ml mc, .slice xo ml xc] w6 fun e w' => e = .returned (.bool false) ∧ ∃ n, w' = w6.drewN n) := by
            have h := rbelow_many (ca := mc) (cb := xc) (HK.out.2 w6 H6.out.2) H6.out.1 (by omega) (fun j => dgs_le1 ml k j) (fun j => dgs_le1 ml b j)
            rw [dnum_dgs (by omega) HK.out.1, dnum_dgs (by omega) H1.out.1.1, decide_eq_false (by omega)] at h
            exact h
          clear heq hle
          go_wp2_with fail
          refine HBl.out.mono ?_
          rintro e w7 ⟨rfl, d7, hw7⟩
          have H7 : Hid (Below w.heap.size w w7) := by rw [hw7]; exact below_drewN2 H6.out.2 d7
          clear hw7
          go_wp2
          go_ret
          exact ⟨by simp, H7.out⟩
      · have hab' : allP isbt x ml = false := by simpa using hab
        rw [hab'] at HBm
        clear hab hab'
        go_wp2_with fail
        refine HBm.out.mono ?_
        rintro e w' ⟨rfl, hw⟩
        have hw := hw.symm
        subst hw
        go_wp2
        go_ret
        exact ⟨by simp, H4.out.2.2⟩
    · have hmz : ((ml : Int) != (N : Int)) = true := bne_iff_ne.2 (by omega)
      clear hmn
      go_wp2
      go_ret
      exact ⟨by simp, H4.out.2.2⟩
end Go.Proofs.Ytlljaliemldjkaa
