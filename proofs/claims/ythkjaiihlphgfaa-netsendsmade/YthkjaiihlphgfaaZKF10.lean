/- NetSends: ways through it, over what its calls tell (printed by make/kf6.py). -/
import Derived.Test.YthkjaiihlphgfaaZKF6
import Derived.Test.YthkjaiihlphgfaaZO3
import Derived.Test.YthkjaiihlphgfaaZW12
namespace Go.Proofs.Ythkjaiihlphgfaa
open Go.RowKit Go.Sort
set_option linter.unusedVariables false

set_option maxHeartbeats 16000000 in
set_option maxRecDepth 100000 in
theorem netSends_w3bS6 {D : FD} (n x : Int) {eo ao bo co : Option Addr} {m ec mv ca l cb lc cc : Nat} {A : Nat → Option Addr} {N C : Nat → Nat} {dt : Nat → Nat} {L1 L2 : List Int} {w : World} (hlen : m + l + lc ≤ 200)
    (hmv : 0 < mv) (hmv6 : mv ≤ 6000)
    (hl : l = N 0)
    (hmm : mv = m) (hcm : lc = m)
    (hV : ∀ wx, Below w.heap.size w wx → ∀ i, i < mv → ∃ b off, ao = some ⟨b, off, none⟩ ∧ wx.cell? ⟨b, off + i, none⟩ = some (.slice (A i) (N i) (C i)))
    (hH : ∀ wx, Below w.heap.size w wx → Calls Try.prog 9 #[.slice ao mv ca] wx fun e w' => e = .returned (.bool false) ∧ Below wx.heap.size wx w')
    (h1 : ∀ wx, Below w.heap.size w wx → Calls Try.prog 10 #[.int .i64 D.q, .slice ao mv ca] wx fun e w' => e = .returned (.int .i64 0) ∧ Below wx.heap.size wx w')
    (h2 : ∀ wx, Below w.heap.size w wx → Calls Try.prog 11 #[.int .i64 D.q] wx fun e w' => ∃ gm cm, e = .returned (.tuple #[.agg #[.int .i64 D.q, .int .i64 D.p, .int .i64 D.m, .int .i64 D.gen, .slice (some ⟨gm, 0, none⟩) (D.m + 1) cm], .int .i64 0]) ∧ ModAt D (.slice (some ⟨gm, 0, none⟩) (D.m + 1) cm) D.md w' ∧ Below wx.heap.size wx w')
    (h3 : ∀ wx, Below w.heap.size w wx → ∀ gm cm : Nat, Calls Try.prog 12 #[.agg #[.int .i64 D.q, .int .i64 D.p, .int .i64 D.m, .int .i64 D.gen, .slice (some ⟨gm, 0, none⟩) (D.m + 1) cm], .slice bo l cb] wx fun e w' => e = .returned (.bool false) ∧ Below wx.heap.size wx w')
    (h5 : ∀ wx, Below w.heap.size w wx → Calls Try.prog 14 #[.int .i64 D.q, .slice ao mv ca, .slice bo l cb] wx (SnP 2 L1 wx))
    (h6 : ∀ wx, Below w.heap.size w wx → Calls Try.prog 16 #[.agg #[.int .i64 n, .slice eo m ec], .int .i64 x] wx fun e w' => e = .returned (.int .i64 0) ∧ Below wx.heap.size wx w')
    (h7 : ∀ wx, Below w.heap.size w wx → ∀ gm cm : Nat, Calls Try.prog 12 #[.agg #[.int .i64 D.q, .int .i64 D.p, .int .i64 D.m, .int .i64 D.gen, .slice (some ⟨gm, 0, none⟩) (D.m + 1) cm], .slice co lc cc] wx fun e w' => e = .returned (.bool true) ∧ Below wx.heap.size wx w')
    (h8 : ∀ wx, Below w.heap.size w wx → ∀ gm cm : Nat, ModAt D (.slice (some ⟨gm, 0, none⟩) (D.m + 1) cm) D.md wx → Calls Try.prog 17 #[.agg #[.int .i64 D.q, .int .i64 D.p, .int .i64 D.m, .int .i64 D.gen, .slice (some ⟨gm, 0, none⟩) (D.m + 1) cm], .agg #[.int .i64 n, .slice eo m ec], .slice ao mv ca, .slice co lc cc, .int .i64 x] wx (HdP true L2 wx))
    (h9 : ∀ wx, Below w.heap.size w wx → Calls Try.prog 18 #[.int .i64 D.q, .agg #[.int .i64 n, .slice eo m ec], .slice ao mv ca, .slice co lc cc, .int .i64 x] wx (SnP 0 L2 wx)) :
    Calls Try.prog 3 #[.int .i64 D.q, .agg #[.int .i64 n, .slice eo m ec], .slice ao mv ca, .slice bo l cb, .slice co lc cc, .int .i64 x] w fun e w' => e = .returned (.bool true) ∧ Below w.heap.size w w' := by
  obtain ⟨wa, hwa⟩ : ∃ wa, wa = w.alloc (.cells #[.int .i64 n, .slice eo m ec] 24) := ⟨_, rfl⟩
  obtain ⟨B, hB⟩ : ∃ B, B = w.heap.size := ⟨_, rfl⟩
  have Gwa : Hid (NsN B n (.slice eo m ec) w wa) := ⟨by rw [hB, hwa]; exact NB.new _ _ _, by rw [hwa]; exact (Below.refl _ _).alloc (Nat.le_refl _) _⟩
  have hnb : ¬ (200 : Int) < (m : Int) + (l : Int) + (lc : Int) := by omega
  have H1 : Hid _ := h1
  have H2 : Hid _ := h2
  have H3 : Hid _ := h3
  have H5 : Hid _ := h5
  have H6 : Hid _ := h6
  have H7 : Hid _ := h7
  have H8 : Hid _ := h8
  have H9 : Hid _ := h9
  have HH : Hid _ := hH
  have HV : Hid _ := hV
  have hmvb : (mv : Int) > 0 := by omega
  have hmvb2 : (0 : Int) < (mv : Int) := by omega
  have zln : ((l : Int) != (N 0 : Int)) = false := by rw [hl]; simp
  have zm : ((mv : Int) != (m : Int)) = false := by rw [bne_eq_false_iff_eq]; omega
  have zc : ((lc : Int) != (m : Int)) = false := by rw [bne_eq_false_iff_eq]; omega
  clear h1 h2 h3 h5 h6 h7 h8 h9 hH hV hl hmm hcm
  have hc := Gwa.out.nb
  obtain ⟨c0, c1⟩ := hc
  rw [hwa, hB] at c0 c1
  go_enter Try.func3, Try.ntmps3
  go_wp2_with fail
  clear c0 c1
  rw [← hwa]
  refine (HH.out wa Gwa.out.bel).mono ?_
  rintro e wh ⟨rfl, hbh⟩
  rw [← hB]
  have Gwh : Hid (NsN B n (.slice eo m ec) w wh) := Gwa.out.next hbh
  clear hbh hwa hB
  have hc := Gwh.out.nb
  obtain ⟨c0, c1⟩ := hc
  go_wp2_with fail
  clear c0 c1
  refine (H1.out wh Gwh.out.bel).mono ?_
  rintro e w1 ⟨rfl, hbw1⟩
  have Gw1 : Hid (NsN B n (.slice eo m ec) w w1) := Gwh.out.next hbw1
  clear hbw1
  have hc := Gw1.out.nb
  obtain ⟨c0, c1⟩ := hc
  go_wp2_with fail
  clear c0 c1
  refine (H2.out w1 Gw1.out.bel).mono ?_
  rintro e w2 ⟨gm, cm, rfl, hmd2, hb2⟩
  obtain ⟨w3, hw3⟩ : ∃ w3, w3 = w2.alloc (.cells #[.int .i64 D.q, .int .i64 D.p, .int .i64 D.m, .int .i64 D.gen, .slice (some ⟨gm, 0, none⟩) (D.m + 1) cm] 31) := ⟨_, rfl⟩
  obtain ⟨Bf, hBf⟩ : ∃ Bf, Bf = w2.heap.size := ⟨_, rfl⟩
  have hal3 : Below w2.heap.size w2 w3 := by rw [hw3]; exact (Below.refl _ _).alloc (Nat.le_refl _) _
  have Gw3 : Hid (NsG D B Bf gm cm n (.slice eo m ec) w w3) := by
    have hn := (Gw1.out.next hb2).next hal3
    exact ⟨hn.nb, by rw [hBf, hw3]; exact box_new D D.gen _ w2, hmd2.below hal3, hn.bel⟩
  clear hb2 hmd2 hal3
  have hv0 := HV.out w3 Gw3.out.bel 0 (by omega)
  obtain ⟨bv, ov, rfl, hcv0⟩ := hv0
  have hcv : w3.cell? ⟨bv, ov, none⟩ = some (.slice (A 0) (N 0) (C 0)) := hcv0
  have hc := Gw3.out.nb
  obtain ⟨c0, c1⟩ := hc
  have hd := Gw3.out.box
  obtain ⟨d0, d1, d2, d3, d4⟩ := hd
  rw [hw3] at c0 c1 d0 d1 d2 d3 d4
  rw [hBf] at d0 d1 d2 d3 d4
  rw [hw3] at hcv
  go_wp2_with fail
  clear c0 c1 d0 d1 d2 d3 d4
  clear hcv hcv0
  rw [← hw3]
  refine (H3.out w3 Gw3.out.bel gm cm).mono ?_
  rintro e w4 ⟨rfl, hb4⟩
  rw [← hBf]
  have Gw4 : Hid (NsG D B Bf gm cm n (.slice eo m ec) w w4) := Gw3.out.next hb4
  clear hb4 hw3 hBf
  go_wp2
  go_loopw [17, 18] (fun vw vi wx => vw = .slice none 0 0 ∧ vi = .int .i64 0 ∧ wx = w4) (fun _ _ _ => 0)
  case atStart => exact ⟨rfl, rfl, rfl⟩
  case round =>
    obtain ⟨rfl, rfl, hwx⟩ := hrel
    have hwx := hwx.symm
    subst hwx
    have hc := Gw4.out.nb
    obtain ⟨c0, c1⟩ := hc
    have hd := Gw4.out.box
    obtain ⟨d0, d1, d2, d3, d4⟩ := hd
    go_wp2_with fail
    clear c0 c1
    clear d0 d1 d2 d3 d4
    refine (H5.out w4 Gw4.out.bel).mono ?_
    rintro e wS ⟨hbS, xo, xn, xc, rfl, hresS⟩
    have GwS : Hid (NsG D B Bf gm cm n (.slice eo m ec) w wS) := Gw4.out.next hbS
    have HLS : Hid (Calls Try.prog 15 #[.slice xo xn xc, .int .i64 2, .slice none 0 0, .int .i64 2] wS fun r w' => r = .returned (.bool true) ∧ ∃ n, w' = wS.drewN n) := by
      refine list_gen ?_
      rcases hresS with ⟨h, h2⟩ | ⟨h, h2⟩
      · exact Or.inl ⟨h, xo, xc, by rw [h2]⟩
      · exact absurd h (by decide)
    clear hbS hresS
    have hc := GwS.out.nb
    obtain ⟨c0, c1⟩ := hc
    have hd := GwS.out.box
    obtain ⟨d0, d1, d2, d3, d4⟩ := hd
    go_wp2_with fail
    clear c0 c1
    clear d0 d1 d2 d3 d4
    refine HLS.out.mono ?_
    rintro e wT ⟨rfl, dT, hwT⟩
    have GwT : Hid (NsG D B Bf gm cm n (.slice eo m ec) w wT) := GwS.out.next (bel_dr hwT)
    clear hwT HLS
    have hc := GwT.out.nb
    obtain ⟨c0, c1⟩ := hc
    have hd := GwT.out.box
    obtain ⟨d0, d1, d2, d3, d4⟩ := hd
    go_wp2_with fail
    clear c0 c1
    clear d0 d1 d2 d3 d4
    refine (H6.out wT GwT.out.bel).mono ?_
    rintro e wU ⟨rfl, hbU⟩
    have GwU : Hid (NsG D B Bf gm cm n (.slice eo m ec) w wU) := GwT.out.next hbU
    clear hbU
    have hc := GwU.out.nb
    obtain ⟨c0, c1⟩ := hc
    have hd := GwU.out.box
    obtain ⟨d0, d1, d2, d3, d4⟩ := hd
    go_wp2_with fail
    clear c0 c1
    clear d0 d1 d2 d3 d4
    refine (H7.out wU GwU.out.bel gm cm).mono ?_
    rintro e wX ⟨rfl, hbX⟩
    have GwX : Hid (NsG D B Bf gm cm n (.slice eo m ec) w wX) := GwU.out.next hbX
    clear hbX
    have hc := GwX.out.nb
    obtain ⟨c0, c1⟩ := hc
    have hd := GwX.out.box
    obtain ⟨d0, d1, d2, d3, d4⟩ := hd
    go_wp2_with fail
    clear c0 c1
    clear d0 d1 d2 d3 d4
    refine (H8.out wX GwX.out.bel gm cm GwX.out.md).mono ?_
    rintro e wY ⟨hbY, ho', hn', hc', rfl, hresY⟩
    have GwY : Hid (NsG D B Bf gm cm n (.slice eo m ec) w wY) := GwX.out.next hbY
    have HKy : Hid (KI (.slice ho' hn' hc') L2 wY) := by
      rcases hresY with ⟨h, _⟩ | ⟨_, h⟩
      · cases h
      · exact h
    clear hbY hresY
    have hc := GwY.out.nb
    obtain ⟨c0, c1⟩ := hc
    have hd := GwY.out.box
    obtain ⟨d0, d1, d2, d3, d4⟩ := hd
    go_wp2_with fail
    clear c0 c1
    clear d0 d1 d2 d3 d4
    refine (H9.out wY GwY.out.bel).mono ?_
    rintro e wZ ⟨hbZ, yo, yn, yc, rfl, hresZ⟩
    have GwZ : Hid (NsG D B Bf gm cm n (.slice eo m ec) w wZ) := GwY.out.next hbZ
    have HLZ : Hid (Calls Try.prog 15 #[.slice yo yn yc, .int .i64 0, .slice ho' hn' hc', .int .i64 0] wZ fun r w' => r = .returned (.bool true) ∧ ∃ n, w' = wZ.drewN n) := by
      refine list_gen ?_
      rcases hresZ with ⟨h, h2⟩ | ⟨h, h2⟩
      · exact absurd rfl h
      · exact Or.inr ⟨h, L2, h2, (HKy.out.below hbZ).1⟩
    clear hbZ hresZ
    have hc := GwZ.out.nb
    obtain ⟨c0, c1⟩ := hc
    have hd := GwZ.out.box
    obtain ⟨d0, d1, d2, d3, d4⟩ := hd
    go_wp2_with fail
    clear c0 c1
    clear d0 d1 d2 d3 d4
    refine HLZ.out.mono ?_
    rintro e wQ ⟨rfl, dQ, hwQ⟩
    have BQ : Hid (Below w.heap.size w wQ) := bel_up' GwZ.out.bel (bel_dr hwQ)
    clear hwQ HLZ
    go_wp2
    go_ret
    exact ⟨rfl, BQ.out⟩
set_option maxHeartbeats 16000000 in
set_option maxRecDepth 100000 in
theorem netSends_w3bS7 {D : FD} (n x : Int) {eo ao bo co : Option Addr} {m ec mv ca l cb lc cc : Nat} {A : Nat → Option Addr} {N C : Nat → Nat} {dt : Nat → Nat} {L1 L2 : List Int} {w : World} (hlen : m + l + lc ≤ 200)
    (hmv : 0 < mv) (hmv6 : mv ≤ 6000)
    (hl : l = N 0)
    (hmm : mv = m) (hcm : lc = m)
    (hV : ∀ wx, Below w.heap.size w wx → ∀ i, i < mv → ∃ b off, ao = some ⟨b, off, none⟩ ∧ wx.cell? ⟨b, off + i, none⟩ = some (.slice (A i) (N i) (C i)))
    (hH : ∀ wx, Below w.heap.size w wx → Calls Try.prog 9 #[.slice ao mv ca] wx fun e w' => e = .returned (.bool false) ∧ Below wx.heap.size wx w')
    (h1 : ∀ wx, Below w.heap.size w wx → Calls Try.prog 10 #[.int .i64 D.q, .slice ao mv ca] wx fun e w' => e = .returned (.int .i64 0) ∧ Below wx.heap.size wx w')
    (h2 : ∀ wx, Below w.heap.size w wx → Calls Try.prog 11 #[.int .i64 D.q] wx fun e w' => ∃ gm cm, e = .returned (.tuple #[.agg #[.int .i64 D.q, .int .i64 D.p, .int .i64 D.m, .int .i64 D.gen, .slice (some ⟨gm, 0, none⟩) (D.m + 1) cm], .int .i64 0]) ∧ ModAt D (.slice (some ⟨gm, 0, none⟩) (D.m + 1) cm) D.md w' ∧ Below wx.heap.size wx w')
    (h3 : ∀ wx, Below w.heap.size w wx → ∀ gm cm : Nat, Calls Try.prog 12 #[.agg #[.int .i64 D.q, .int .i64 D.p, .int .i64 D.m, .int .i64 D.gen, .slice (some ⟨gm, 0, none⟩) (D.m + 1) cm], .slice bo l cb] wx fun e w' => e = .returned (.bool false) ∧ Below wx.heap.size wx w')
    (h5 : ∀ wx, Below w.heap.size w wx → Calls Try.prog 14 #[.int .i64 D.q, .slice ao mv ca, .slice bo l cb] wx (SnP 2 L1 wx))
    (h6 : ∀ wx, Below w.heap.size w wx → Calls Try.prog 16 #[.agg #[.int .i64 n, .slice eo m ec], .int .i64 x] wx fun e w' => e = .returned (.int .i64 0) ∧ Below wx.heap.size wx w')
    (h7 : ∀ wx, Below w.heap.size w wx → ∀ gm cm : Nat, Calls Try.prog 12 #[.agg #[.int .i64 D.q, .int .i64 D.p, .int .i64 D.m, .int .i64 D.gen, .slice (some ⟨gm, 0, none⟩) (D.m + 1) cm], .slice co lc cc] wx fun e w' => e = .returned (.bool true) ∧ Below wx.heap.size wx w')
    (h8 : ∀ wx, Below w.heap.size w wx → ∀ gm cm : Nat, ModAt D (.slice (some ⟨gm, 0, none⟩) (D.m + 1) cm) D.md wx → Calls Try.prog 17 #[.agg #[.int .i64 D.q, .int .i64 D.p, .int .i64 D.m, .int .i64 D.gen, .slice (some ⟨gm, 0, none⟩) (D.m + 1) cm], .agg #[.int .i64 n, .slice eo m ec], .slice ao mv ca, .slice co lc cc, .int .i64 x] wx (HdP false L2 wx))
    (h9 : ∀ wx, Below w.heap.size w wx → Calls Try.prog 18 #[.int .i64 D.q, .agg #[.int .i64 n, .slice eo m ec], .slice ao mv ca, .slice co lc cc, .int .i64 x] wx (SnP 9 L2 wx)) :
    Calls Try.prog 3 #[.int .i64 D.q, .agg #[.int .i64 n, .slice eo m ec], .slice ao mv ca, .slice bo l cb, .slice co lc cc, .int .i64 x] w fun e w' => e = .returned (.bool true) ∧ Below w.heap.size w w' := by
  obtain ⟨wa, hwa⟩ : ∃ wa, wa = w.alloc (.cells #[.int .i64 n, .slice eo m ec] 24) := ⟨_, rfl⟩
  obtain ⟨B, hB⟩ : ∃ B, B = w.heap.size := ⟨_, rfl⟩
  have Gwa : Hid (NsN B n (.slice eo m ec) w wa) := ⟨by rw [hB, hwa]; exact NB.new _ _ _, by rw [hwa]; exact (Below.refl _ _).alloc (Nat.le_refl _) _⟩
  have hnb : ¬ (200 : Int) < (m : Int) + (l : Int) + (lc : Int) := by omega
  have H1 : Hid _ := h1
  have H2 : Hid _ := h2
  have H3 : Hid _ := h3
  have H5 : Hid _ := h5
  have H6 : Hid _ := h6
  have H7 : Hid _ := h7
  have H8 : Hid _ := h8
  have H9 : Hid _ := h9
  have HH : Hid _ := hH
  have HV : Hid _ := hV
  have hmvb : (mv : Int) > 0 := by omega
  have hmvb2 : (0 : Int) < (mv : Int) := by omega
  have zln : ((l : Int) != (N 0 : Int)) = false := by rw [hl]; simp
  have zm : ((mv : Int) != (m : Int)) = false := by rw [bne_eq_false_iff_eq]; omega
  have zc : ((lc : Int) != (m : Int)) = false := by rw [bne_eq_false_iff_eq]; omega
  clear h1 h2 h3 h5 h6 h7 h8 h9 hH hV hl hmm hcm
  have hc := Gwa.out.nb
  obtain ⟨c0, c1⟩ := hc
  rw [hwa, hB] at c0 c1
  go_enter Try.func3, Try.ntmps3
  go_wp2_with fail
  clear c0 c1
  rw [← hwa]
  refine (HH.out wa Gwa.out.bel).mono ?_
  rintro e wh ⟨rfl, hbh⟩
  rw [← hB]
  have Gwh : Hid (NsN B n (.slice eo m ec) w wh) := Gwa.out.next hbh
  clear hbh hwa hB
  have hc := Gwh.out.nb
  obtain ⟨c0, c1⟩ := hc
  go_wp2_with fail
  clear c0 c1
  refine (H1.out wh Gwh.out.bel).mono ?_
  rintro e w1 ⟨rfl, hbw1⟩
  have Gw1 : Hid (NsN B n (.slice eo m ec) w w1) := Gwh.out.next hbw1
  clear hbw1
  have hc := Gw1.out.nb
  obtain ⟨c0, c1⟩ := hc
  go_wp2_with fail
  clear c0 c1
  refine (H2.out w1 Gw1.out.bel).mono ?_
  rintro e w2 ⟨gm, cm, rfl, hmd2, hb2⟩
  obtain ⟨w3, hw3⟩ : ∃ w3, w3 = w2.alloc (.cells #[.int .i64 D.q, .int .i64 D.p, .int .i64 D.m, .int .i64 D.gen, .slice (some ⟨gm, 0, none⟩) (D.m + 1) cm] 31) := ⟨_, rfl⟩
  obtain ⟨Bf, hBf⟩ : ∃ Bf, Bf = w2.heap.size := ⟨_, rfl⟩
  have hal3 : Below w2.heap.size w2 w3 := by rw [hw3]; exact (Below.refl _ _).alloc (Nat.le_refl _) _
  have Gw3 : Hid (NsG D B Bf gm cm n (.slice eo m ec) w w3) := by
    have hn := (Gw1.out.next hb2).next hal3
    exact ⟨hn.nb, by rw [hBf, hw3]; exact box_new D D.gen _ w2, hmd2.below hal3, hn.bel⟩
  clear hb2 hmd2 hal3
  have hv0 := HV.out w3 Gw3.out.bel 0 (by omega)
  obtain ⟨bv, ov, rfl, hcv0⟩ := hv0
  have hcv : w3.cell? ⟨bv, ov, none⟩ = some (.slice (A 0) (N 0) (C 0)) := hcv0
  have hc := Gw3.out.nb
  obtain ⟨c0, c1⟩ := hc
  have hd := Gw3.out.box
  obtain ⟨d0, d1, d2, d3, d4⟩ := hd
  rw [hw3] at c0 c1 d0 d1 d2 d3 d4
  rw [hBf] at d0 d1 d2 d3 d4
  rw [hw3] at hcv
  go_wp2_with fail
  clear c0 c1 d0 d1 d2 d3 d4
  clear hcv hcv0
  rw [← hw3]
  refine (H3.out w3 Gw3.out.bel gm cm).mono ?_
  rintro e w4 ⟨rfl, hb4⟩
  rw [← hBf]
  have Gw4 : Hid (NsG D B Bf gm cm n (.slice eo m ec) w w4) := Gw3.out.next hb4
  clear hb4 hw3 hBf
  go_wp2
  go_loopw [17, 18] (fun vw vi wx => vw = .slice none 0 0 ∧ vi = .int .i64 0 ∧ wx = w4) (fun _ _ _ => 0)
  case atStart => exact ⟨rfl, rfl, rfl⟩
  case round =>
    obtain ⟨rfl, rfl, hwx⟩ := hrel
    have hwx := hwx.symm
    subst hwx
    have hc := Gw4.out.nb
    obtain ⟨c0, c1⟩ := hc
    have hd := Gw4.out.box
    obtain ⟨d0, d1, d2, d3, d4⟩ := hd
    go_wp2_with fail
    clear c0 c1
    clear d0 d1 d2 d3 d4
    refine (H5.out w4 Gw4.out.bel).mono ?_
    rintro e wS ⟨hbS, xo, xn, xc, rfl, hresS⟩
    have GwS : Hid (NsG D B Bf gm cm n (.slice eo m ec) w wS) := Gw4.out.next hbS
    have HLS : Hid (Calls Try.prog 15 #[.slice xo xn xc, .int .i64 2, .slice none 0 0, .int .i64 2] wS fun r w' => r = .returned (.bool true) ∧ ∃ n, w' = wS.drewN n) := by
      refine list_gen ?_
      rcases hresS with ⟨h, h2⟩ | ⟨h, h2⟩
      · exact Or.inl ⟨h, xo, xc, by rw [h2]⟩
      · exact absurd h (by decide)
    clear hbS hresS
    have hc := GwS.out.nb
    obtain ⟨c0, c1⟩ := hc
    have hd := GwS.out.box
    obtain ⟨d0, d1, d2, d3, d4⟩ := hd
    go_wp2_with fail
    clear c0 c1
    clear d0 d1 d2 d3 d4
    refine HLS.out.mono ?_
    rintro e wT ⟨rfl, dT, hwT⟩
    have GwT : Hid (NsG D B Bf gm cm n (.slice eo m ec) w wT) := GwS.out.next (bel_dr hwT)
    clear hwT HLS
    have hc := GwT.out.nb
    obtain ⟨c0, c1⟩ := hc
    have hd := GwT.out.box
    obtain ⟨d0, d1, d2, d3, d4⟩ := hd
    go_wp2_with fail
    clear c0 c1
    clear d0 d1 d2 d3 d4
    refine (H6.out wT GwT.out.bel).mono ?_
    rintro e wU ⟨rfl, hbU⟩
    have GwU : Hid (NsG D B Bf gm cm n (.slice eo m ec) w wU) := GwT.out.next hbU
    clear hbU
    have hc := GwU.out.nb
    obtain ⟨c0, c1⟩ := hc
    have hd := GwU.out.box
    obtain ⟨d0, d1, d2, d3, d4⟩ := hd
    go_wp2_with fail
    clear c0 c1
    clear d0 d1 d2 d3 d4
    refine (H7.out wU GwU.out.bel gm cm).mono ?_
    rintro e wX ⟨rfl, hbX⟩
    have GwX : Hid (NsG D B Bf gm cm n (.slice eo m ec) w wX) := GwU.out.next hbX
    clear hbX
    have hc := GwX.out.nb
    obtain ⟨c0, c1⟩ := hc
    have hd := GwX.out.box
    obtain ⟨d0, d1, d2, d3, d4⟩ := hd
    go_wp2_with fail
    clear c0 c1
    clear d0 d1 d2 d3 d4
    refine (H8.out wX GwX.out.bel gm cm GwX.out.md).mono ?_
    rintro e wY ⟨hbY, ho', hn', hc', rfl, hresY⟩
    have GwY : Hid (NsG D B Bf gm cm n (.slice eo m ec) w wY) := GwX.out.next hbY
    clear hbY hresY
    have hc := GwY.out.nb
    obtain ⟨c0, c1⟩ := hc
    have hd := GwY.out.box
    obtain ⟨d0, d1, d2, d3, d4⟩ := hd
    go_wp2_with fail
    clear c0 c1
    clear d0 d1 d2 d3 d4
    refine (H9.out wY GwY.out.bel).mono ?_
    rintro e wZ ⟨hbZ, yo, yn, yc, rfl, hresZ⟩
    have GwZ : Hid (NsG D B Bf gm cm n (.slice eo m ec) w wZ) := GwY.out.next hbZ
    have HLZ : Hid (Calls Try.prog 15 #[.slice yo yn yc, .int .i64 9, .slice ho' hn' hc', .int .i64 9] wZ fun r w' => r = .returned (.bool true) ∧ ∃ n, w' = wZ.drewN n) := by
      refine list_gen ?_
      rcases hresZ with ⟨h, h2⟩ | ⟨h, h2⟩
      · exact Or.inl ⟨h, yo, yc, by rw [h2]⟩
      · exact absurd h (by decide)
    clear hbZ hresZ
    have hc := GwZ.out.nb
    obtain ⟨c0, c1⟩ := hc
    have hd := GwZ.out.box
    obtain ⟨d0, d1, d2, d3, d4⟩ := hd
    go_wp2_with fail
    clear c0 c1
    clear d0 d1 d2 d3 d4
    refine HLZ.out.mono ?_
    rintro e wQ ⟨rfl, dQ, hwQ⟩
    have BQ : Hid (Below w.heap.size w wQ) := bel_up' GwZ.out.bel (bel_dr hwQ)
    clear hwQ HLZ
    go_wp2
    go_ret
    exact ⟨rfl, BQ.out⟩
set_option maxHeartbeats 16000000 in
set_option maxRecDepth 100000 in
theorem netSends_w4aS1 {D : FD} (n x s : Int) {eo ao bo co : Option Addr} {m ec mv ca l cb lc cc : Nat} {A : Nat → Option Addr} {N C : Nat → Nat} {dt : Nat → Nat} {L1 L2 : List Int} {w : World} (hlen : m + l + lc ≤ 200)
    (hmv : mv = 0)
    (hs : s ≠ 0)
    (hV : ∀ wx, Below w.heap.size w wx → ∀ i, i < mv → ∃ b off, ao = some ⟨b, off, none⟩ ∧ wx.cell? ⟨b, off + i, none⟩ = some (.slice (A i) (N i) (C i)))
    (hH : ∀ wx, Below w.heap.size w wx → Calls Try.prog 9 #[.slice ao mv ca] wx fun e w' => e = .returned (.bool false) ∧ Below wx.heap.size wx w')
    (h1 : ∀ wx, Below w.heap.size w wx → Calls Try.prog 10 #[.int .i64 D.q, .slice ao mv ca] wx fun e w' => e = .returned (.int .i64 0) ∧ Below wx.heap.size wx w')
    (h2 : ∀ wx, Below w.heap.size w wx → Calls Try.prog 11 #[.int .i64 D.q] wx fun e w' => ∃ gm cm, e = .returned (.tuple #[.agg #[.int .i64 D.q, .int .i64 D.p, .int .i64 D.m, .int .i64 D.gen, .slice (some ⟨gm, 0, none⟩) (D.m + 1) cm], .int .i64 0]) ∧ ModAt D (.slice (some ⟨gm, 0, none⟩) (D.m + 1) cm) D.md w' ∧ Below wx.heap.size wx w')
    (h3 : ∀ wx, Below w.heap.size w wx → ∀ gm cm : Nat, Calls Try.prog 12 #[.agg #[.int .i64 D.q, .int .i64 D.p, .int .i64 D.m, .int .i64 D.gen, .slice (some ⟨gm, 0, none⟩) (D.m + 1) cm], .slice bo l cb] wx fun e w' => e = .returned (.bool true) ∧ Below wx.heap.size wx w')
    (h5 : ∀ wx, Below w.heap.size w wx → Calls Try.prog 14 #[.int .i64 D.q, .slice ao mv ca, .slice bo l cb] wx (SnP 0 [] wx))
    (h6 : ∀ wx, Below w.heap.size w wx → Calls Try.prog 16 #[.agg #[.int .i64 n, .slice eo m ec], .int .i64 x] wx fun e w' => e = .returned (.int .i64 s) ∧ Below wx.heap.size wx w')
    (h9 : ∀ wx, Below w.heap.size w wx → Calls Try.prog 18 #[.int .i64 D.q, .agg #[.int .i64 n, .slice eo m ec], .slice ao mv ca, .slice co lc cc, .int .i64 x] wx (SnP s L2 wx)) :
    Calls Try.prog 3 #[.int .i64 D.q, .agg #[.int .i64 n, .slice eo m ec], .slice ao mv ca, .slice bo l cb, .slice co lc cc, .int .i64 x] w fun e w' => e = .returned (.bool true) ∧ Below w.heap.size w w' := by
  obtain ⟨wa, hwa⟩ : ∃ wa, wa = w.alloc (.cells #[.int .i64 n, .slice eo m ec] 24) := ⟨_, rfl⟩
  obtain ⟨B, hB⟩ : ∃ B, B = w.heap.size := ⟨_, rfl⟩
  have Gwa : Hid (NsN B n (.slice eo m ec) w wa) := ⟨by rw [hB, hwa]; exact NB.new _ _ _, by rw [hwa]; exact (Below.refl _ _).alloc (Nat.le_refl _) _⟩
  have hnb : ¬ (200 : Int) < (m : Int) + (l : Int) + (lc : Int) := by omega
  have H1 : Hid _ := h1
  have H2 : Hid _ := h2
  have H3 : Hid _ := h3
  have H5 : Hid _ := h5
  have H6 : Hid _ := h6
  have H9 : Hid _ := h9
  have HH : Hid _ := hH
  have HV : Hid _ := hV
  subst hmv
  have zs : (s == 0) = false := beq_eq_false_iff_ne.2 hs
  have Hs0 : Hid (s ≠ 0) := hs
  clear h1 h2 h3 h5 h6 h9 hH hV hs
  have hc := Gwa.out.nb
  obtain ⟨c0, c1⟩ := hc
  rw [hwa, hB] at c0 c1
  go_enter Try.func3, Try.ntmps3
  go_wp2_with fail
  clear c0 c1
  rw [← hwa]
  refine (HH.out wa Gwa.out.bel).mono ?_
  rintro e wh ⟨rfl, hbh⟩
  rw [← hB]
  have Gwh : Hid (NsN B n (.slice eo m ec) w wh) := Gwa.out.next hbh
  clear hbh hwa hB
  have hc := Gwh.out.nb
  obtain ⟨c0, c1⟩ := hc
  go_wp2_with fail
  clear c0 c1
  refine (H1.out wh Gwh.out.bel).mono ?_
  rintro e w1 ⟨rfl, hbw1⟩
  have Gw1 : Hid (NsN B n (.slice eo m ec) w w1) := Gwh.out.next hbw1
  clear hbw1
  have hc := Gw1.out.nb
  obtain ⟨c0, c1⟩ := hc
  go_wp2_with fail
  clear c0 c1
  refine (H2.out w1 Gw1.out.bel).mono ?_
  rintro e w2 ⟨gm, cm, rfl, hmd2, hb2⟩
  obtain ⟨w3, hw3⟩ : ∃ w3, w3 = w2.alloc (.cells #[.int .i64 D.q, .int .i64 D.p, .int .i64 D.m, .int .i64 D.gen, .slice (some ⟨gm, 0, none⟩) (D.m + 1) cm] 31) := ⟨_, rfl⟩
  obtain ⟨Bf, hBf⟩ : ∃ Bf, Bf = w2.heap.size := ⟨_, rfl⟩
  have hal3 : Below w2.heap.size w2 w3 := by rw [hw3]; exact (Below.refl _ _).alloc (Nat.le_refl _) _
  have Gw3 : Hid (NsG D B Bf gm cm n (.slice eo m ec) w w3) := by
    have hn := (Gw1.out.next hb2).next hal3
    exact ⟨hn.nb, by rw [hBf, hw3]; exact box_new D D.gen _ w2, hmd2.below hal3, hn.bel⟩
  clear hb2 hmd2 hal3
  have hc := Gw3.out.nb
  obtain ⟨c0, c1⟩ := hc
  have hd := Gw3.out.box
  obtain ⟨d0, d1, d2, d3, d4⟩ := hd
  rw [hw3] at c0 c1 d0 d1 d2 d3 d4
  rw [hBf] at d0 d1 d2 d3 d4
  go_wp2_with fail
  clear c0 c1 d0 d1 d2 d3 d4
  rw [← hw3]
  refine (H3.out w3 Gw3.out.bel gm cm).mono ?_
  rintro e w4 ⟨rfl, hb4⟩
  rw [← hBf]
  have Gw4 : Hid (NsG D B Bf gm cm n (.slice eo m ec) w w4) := Gw3.out.next hb4
  clear hb4 hw3 hBf
  go_wp2
  go_loopw [17, 18] (fun vw vi wx => vw = .slice none 0 0 ∧ vi = .int .i64 0 ∧ wx = w4) (fun _ _ _ => 0)
  case atStart => exact ⟨rfl, rfl, rfl⟩
  case round =>
    obtain ⟨rfl, rfl, hwx⟩ := hrel
    have hwx := hwx.symm
    subst hwx
    have hc := Gw4.out.nb
    obtain ⟨c0, c1⟩ := hc
    have hd := Gw4.out.box
    obtain ⟨d0, d1, d2, d3, d4⟩ := hd
    go_wp2_with fail
    clear c0 c1
    clear d0 d1 d2 d3 d4
    refine (H5.out w4 Gw4.out.bel).mono ?_
    rintro e wS ⟨hbS, xo, xn, xc, rfl, hresS⟩
    have GwS : Hid (NsG D B Bf gm cm n (.slice eo m ec) w wS) := Gw4.out.next hbS
    have HLS : Hid (Calls Try.prog 15 #[.slice xo xn xc, .int .i64 0, .slice none 0 0, .int .i64 0] wS fun r w' => r = .returned (.bool true) ∧ ∃ n, w' = wS.drewN n) := by
      refine list_gen ?_
      rcases hresS with ⟨h, h2⟩ | ⟨h, h2⟩
      · exact absurd rfl h
      · exact Or.inr ⟨h, [], h2, Or.inl ⟨rfl, none, 0, rfl⟩⟩
    clear hbS hresS
    have hc := GwS.out.nb
    obtain ⟨c0, c1⟩ := hc
    have hd := GwS.out.box
    obtain ⟨d0, d1, d2, d3, d4⟩ := hd
    go_wp2_with fail
    clear c0 c1
    clear d0 d1 d2 d3 d4
    refine HLS.out.mono ?_
    rintro e wT ⟨rfl, dT, hwT⟩
    have GwT : Hid (NsG D B Bf gm cm n (.slice eo m ec) w wT) := GwS.out.next (bel_dr hwT)
    clear hwT HLS
    have hc := GwT.out.nb
    obtain ⟨c0, c1⟩ := hc
    have hd := GwT.out.box
    obtain ⟨d0, d1, d2, d3, d4⟩ := hd
    go_wp2_with fail
    clear c0 c1
    clear d0 d1 d2 d3 d4
    refine (H6.out wT GwT.out.bel).mono ?_
    rintro e wU ⟨rfl, hbU⟩
    have GwU : Hid (NsG D B Bf gm cm n (.slice eo m ec) w wU) := GwT.out.next hbU
    clear hbU
    have hc := GwU.out.nb
    obtain ⟨c0, c1⟩ := hc
    have hd := GwU.out.box
    obtain ⟨d0, d1, d2, d3, d4⟩ := hd
    go_wp2_with fail
    clear c0 c1
    clear d0 d1 d2 d3 d4
    refine (H9.out wU GwU.out.bel).mono ?_
    rintro e wZ ⟨hbZ, yo, yn, yc, rfl, hresZ⟩
    have GwZ : Hid (NsG D B Bf gm cm n (.slice eo m ec) w wZ) := GwU.out.next hbZ
    have HLZ : Hid (Calls Try.prog 15 #[.slice yo yn yc, .int .i64 s, .slice none 0 0, .int .i64 s] wZ fun r w' => r = .returned (.bool true) ∧ ∃ n, w' = wZ.drewN n) := by
      refine list_gen ?_
      rcases hresZ with ⟨h, h2⟩ | ⟨h, h2⟩
      · exact Or.inl ⟨h, yo, yc, by rw [h2]⟩
      · exact absurd h Hs0.out
    clear hbZ hresZ
    have hc := GwZ.out.nb
    obtain ⟨c0, c1⟩ := hc
    have hd := GwZ.out.box
    obtain ⟨d0, d1, d2, d3, d4⟩ := hd
    go_wp2_with fail
    clear c0 c1
    clear d0 d1 d2 d3 d4
    refine HLZ.out.mono ?_
    rintro e wQ ⟨rfl, dQ, hwQ⟩
    have BQ : Hid (Below w.heap.size w wQ) := bel_up' GwZ.out.bel (bel_dr hwQ)
    clear hwQ HLZ
    go_wp2
    go_ret
    exact ⟨rfl, BQ.out⟩
set_option maxHeartbeats 16000000 in
set_option maxRecDepth 100000 in
theorem netSends_w4aS3 {D : FD} (n x : Int) {eo ao bo co : Option Addr} {m ec mv ca l cb lc cc : Nat} {A : Nat → Option Addr} {N C : Nat → Nat} {dt : Nat → Nat} {L1 L2 : List Int} {w : World} (hlen : m + l + lc ≤ 200)
    (hmv : mv = 0)
    (hmm : mv ≠ m)
    (hV : ∀ wx, Below w.heap.size w wx → ∀ i, i < mv → ∃ b off, ao = some ⟨b, off, none⟩ ∧ wx.cell? ⟨b, off + i, none⟩ = some (.slice (A i) (N i) (C i)))
    (hH : ∀ wx, Below w.heap.size w wx → Calls Try.prog 9 #[.slice ao mv ca] wx fun e w' => e = .returned (.bool false) ∧ Below wx.heap.size wx w')
    (h1 : ∀ wx, Below w.heap.size w wx → Calls Try.prog 10 #[.int .i64 D.q, .slice ao mv ca] wx fun e w' => e = .returned (.int .i64 0) ∧ Below wx.heap.size wx w')
    (h2 : ∀ wx, Below w.heap.size w wx → Calls Try.prog 11 #[.int .i64 D.q] wx fun e w' => ∃ gm cm, e = .returned (.tuple #[.agg #[.int .i64 D.q, .int .i64 D.p, .int .i64 D.m, .int .i64 D.gen, .slice (some ⟨gm, 0, none⟩) (D.m + 1) cm], .int .i64 0]) ∧ ModAt D (.slice (some ⟨gm, 0, none⟩) (D.m + 1) cm) D.md w' ∧ Below wx.heap.size wx w')
    (h3 : ∀ wx, Below w.heap.size w wx → ∀ gm cm : Nat, Calls Try.prog 12 #[.agg #[.int .i64 D.q, .int .i64 D.p, .int .i64 D.m, .int .i64 D.gen, .slice (some ⟨gm, 0, none⟩) (D.m + 1) cm], .slice bo l cb] wx fun e w' => e = .returned (.bool true) ∧ Below wx.heap.size wx w')
    (h5 : ∀ wx, Below w.heap.size w wx → Calls Try.prog 14 #[.int .i64 D.q, .slice ao mv ca, .slice bo l cb] wx (SnP 0 [] wx))
    (h6 : ∀ wx, Below w.heap.size w wx → Calls Try.prog 16 #[.agg #[.int .i64 n, .slice eo m ec], .int .i64 x] wx fun e w' => e = .returned (.int .i64 0) ∧ Below wx.heap.size wx w')
    (h9 : ∀ wx, Below w.heap.size w wx → Calls Try.prog 18 #[.int .i64 D.q, .agg #[.int .i64 n, .slice eo m ec], .slice ao mv ca, .slice co lc cc, .int .i64 x] wx (SnP 6 L2 wx)) :
    Calls Try.prog 3 #[.int .i64 D.q, .agg #[.int .i64 n, .slice eo m ec], .slice ao mv ca, .slice bo l cb, .slice co lc cc, .int .i64 x] w fun e w' => e = .returned (.bool true) ∧ Below w.heap.size w w' := by
  obtain ⟨wa, hwa⟩ : ∃ wa, wa = w.alloc (.cells #[.int .i64 n, .slice eo m ec] 24) := ⟨_, rfl⟩
  obtain ⟨B, hB⟩ : ∃ B, B = w.heap.size := ⟨_, rfl⟩
  have Gwa : Hid (NsN B n (.slice eo m ec) w wa) := ⟨by rw [hB, hwa]; exact NB.new _ _ _, by rw [hwa]; exact (Below.refl _ _).alloc (Nat.le_refl _) _⟩
  have hnb : ¬ (200 : Int) < (m : Int) + (l : Int) + (lc : Int) := by omega
  have H1 : Hid _ := h1
  have H2 : Hid _ := h2
  have H3 : Hid _ := h3
  have H5 : Hid _ := h5
  have H6 : Hid _ := h6
  have H9 : Hid _ := h9
  have HH : Hid _ := hH
  have HV : Hid _ := hV
  subst hmv
  have zm : ((0 : Int) != (m : Int)) = true := by rw [bne_iff_ne]; omega
  clear h1 h2 h3 h5 h6 h9 hH hV hmm
  have hc := Gwa.out.nb
  obtain ⟨c0, c1⟩ := hc
  rw [hwa, hB] at c0 c1
  go_enter Try.func3, Try.ntmps3
  go_wp2_with fail
  clear c0 c1
  rw [← hwa]
  refine (HH.out wa Gwa.out.bel).mono ?_
  rintro e wh ⟨rfl, hbh⟩
  rw [← hB]
  have Gwh : Hid (NsN B n (.slice eo m ec) w wh) := Gwa.out.next hbh
  clear hbh hwa hB
  have hc := Gwh.out.nb
  obtain ⟨c0, c1⟩ := hc
  go_wp2_with fail
  clear c0 c1
  refine (H1.out wh Gwh.out.bel).mono ?_
  rintro e w1 ⟨rfl, hbw1⟩
  have Gw1 : Hid (NsN B n (.slice eo m ec) w w1) := Gwh.out.next hbw1
  clear hbw1
  have hc := Gw1.out.nb
  obtain ⟨c0, c1⟩ := hc
  go_wp2_with fail
  clear c0 c1
  refine (H2.out w1 Gw1.out.bel).mono ?_
  rintro e w2 ⟨gm, cm, rfl, hmd2, hb2⟩
  obtain ⟨w3, hw3⟩ : ∃ w3, w3 = w2.alloc (.cells #[.int .i64 D.q, .int .i64 D.p, .int .i64 D.m, .int .i64 D.gen, .slice (some ⟨gm, 0, none⟩) (D.m + 1) cm] 31) := ⟨_, rfl⟩
  obtain ⟨Bf, hBf⟩ : ∃ Bf, Bf = w2.heap.size := ⟨_, rfl⟩
  have hal3 : Below w2.heap.size w2 w3 := by rw [hw3]; exact (Below.refl _ _).alloc (Nat.le_refl _) _
  have Gw3 : Hid (NsG D B Bf gm cm n (.slice eo m ec) w w3) := by
    have hn := (Gw1.out.next hb2).next hal3
    exact ⟨hn.nb, by rw [hBf, hw3]; exact box_new D D.gen _ w2, hmd2.below hal3, hn.bel⟩
  clear hb2 hmd2 hal3
  have hc := Gw3.out.nb
  obtain ⟨c0, c1⟩ := hc
  have hd := Gw3.out.box
  obtain ⟨d0, d1, d2, d3, d4⟩ := hd
  rw [hw3] at c0 c1 d0 d1 d2 d3 d4
  rw [hBf] at d0 d1 d2 d3 d4
  go_wp2_with fail
  clear c0 c1 d0 d1 d2 d3 d4
  rw [← hw3]
  refine (H3.out w3 Gw3.out.bel gm cm).mono ?_
  rintro e w4 ⟨rfl, hb4⟩
  rw [← hBf]
  have Gw4 : Hid (NsG D B Bf gm cm n (.slice eo m ec) w w4) := Gw3.out.next hb4
  clear hb4 hw3 hBf
  go_wp2
  go_loopw [17, 18] (fun vw vi wx => vw = .slice none 0 0 ∧ vi = .int .i64 0 ∧ wx = w4) (fun _ _ _ => 0)
  case atStart => exact ⟨rfl, rfl, rfl⟩
  case round =>
    obtain ⟨rfl, rfl, hwx⟩ := hrel
    have hwx := hwx.symm
    subst hwx
    have hc := Gw4.out.nb
    obtain ⟨c0, c1⟩ := hc
    have hd := Gw4.out.box
    obtain ⟨d0, d1, d2, d3, d4⟩ := hd
    go_wp2_with fail
    clear c0 c1
    clear d0 d1 d2 d3 d4
    refine (H5.out w4 Gw4.out.bel).mono ?_
    rintro e wS ⟨hbS, xo, xn, xc, rfl, hresS⟩
    have GwS : Hid (NsG D B Bf gm cm n (.slice eo m ec) w wS) := Gw4.out.next hbS
    have HLS : Hid (Calls Try.prog 15 #[.slice xo xn xc, .int .i64 0, .slice none 0 0, .int .i64 0] wS fun r w' => r = .returned (.bool true) ∧ ∃ n, w' = wS.drewN n) := by
      refine list_gen ?_
      rcases hresS with ⟨h, h2⟩ | ⟨h, h2⟩
      · exact absurd rfl h
      · exact Or.inr ⟨h, [], h2, Or.inl ⟨rfl, none, 0, rfl⟩⟩
    clear hbS hresS
    have hc := GwS.out.nb
    obtain ⟨c0, c1⟩ := hc
    have hd := GwS.out.box
    obtain ⟨d0, d1, d2, d3, d4⟩ := hd
    go_wp2_with fail
    clear c0 c1
    clear d0 d1 d2 d3 d4
    refine HLS.out.mono ?_
    rintro e wT ⟨rfl, dT, hwT⟩
    have GwT : Hid (NsG D B Bf gm cm n (.slice eo m ec) w wT) := GwS.out.next (bel_dr hwT)
    clear hwT HLS
    have hc := GwT.out.nb
    obtain ⟨c0, c1⟩ := hc
    have hd := GwT.out.box
    obtain ⟨d0, d1, d2, d3, d4⟩ := hd
    go_wp2_with fail
    clear c0 c1
    clear d0 d1 d2 d3 d4
    refine (H6.out wT GwT.out.bel).mono ?_
    rintro e wU ⟨rfl, hbU⟩
    have GwU : Hid (NsG D B Bf gm cm n (.slice eo m ec) w wU) := GwT.out.next hbU
    clear hbU
    have hc := GwU.out.nb
    obtain ⟨c0, c1⟩ := hc
    have hd := GwU.out.box
    obtain ⟨d0, d1, d2, d3, d4⟩ := hd
    go_wp2_with fail
    clear c0 c1
    clear d0 d1 d2 d3 d4
    refine (H9.out wU GwU.out.bel).mono ?_
    rintro e wZ ⟨hbZ, yo, yn, yc, rfl, hresZ⟩
    have GwZ : Hid (NsG D B Bf gm cm n (.slice eo m ec) w wZ) := GwU.out.next hbZ
    have HLZ : Hid (Calls Try.prog 15 #[.slice yo yn yc, .int .i64 6, .slice none 0 0, .int .i64 6] wZ fun r w' => r = .returned (.bool true) ∧ ∃ n, w' = wZ.drewN n) := by
      refine list_gen ?_
      rcases hresZ with ⟨h, h2⟩ | ⟨h, h2⟩
      · exact Or.inl ⟨h, yo, yc, by rw [h2]⟩
      · exact absurd h (by decide)
    clear hbZ hresZ
    have hc := GwZ.out.nb
    obtain ⟨c0, c1⟩ := hc
    have hd := GwZ.out.box
    obtain ⟨d0, d1, d2, d3, d4⟩ := hd
    go_wp2_with fail
    clear c0 c1
    clear d0 d1 d2 d3 d4
    refine HLZ.out.mono ?_
    rintro e wQ ⟨rfl, dQ, hwQ⟩
    have BQ : Hid (Below w.heap.size w wQ) := bel_up' GwZ.out.bel (bel_dr hwQ)
    clear hwQ HLZ
    go_wp2
    go_ret
    exact ⟨rfl, BQ.out⟩
set_option maxHeartbeats 16000000 in
set_option maxRecDepth 100000 in
theorem netSends_w4aS4 {D : FD} (n x : Int) {eo ao bo co : Option Addr} {m ec mv ca l cb lc cc : Nat} {A : Nat → Option Addr} {N C : Nat → Nat} {dt : Nat → Nat} {L1 L2 : List Int} {w : World} (hlen : m + l + lc ≤ 200)
    (hmv : mv = 0)
    (hmm : mv = m) (hcm : lc ≠ m)
    (hV : ∀ wx, Below w.heap.size w wx → ∀ i, i < mv → ∃ b off, ao = some ⟨b, off, none⟩ ∧ wx.cell? ⟨b, off + i, none⟩ = some (.slice (A i) (N i) (C i)))
    (hH : ∀ wx, Below w.heap.size w wx → Calls Try.prog 9 #[.slice ao mv ca] wx fun e w' => e = .returned (.bool false) ∧ Below wx.heap.size wx w')
    (h1 : ∀ wx, Below w.heap.size w wx → Calls Try.prog 10 #[.int .i64 D.q, .slice ao mv ca] wx fun e w' => e = .returned (.int .i64 0) ∧ Below wx.heap.size wx w')
    (h2 : ∀ wx, Below w.heap.size w wx → Calls Try.prog 11 #[.int .i64 D.q] wx fun e w' => ∃ gm cm, e = .returned (.tuple #[.agg #[.int .i64 D.q, .int .i64 D.p, .int .i64 D.m, .int .i64 D.gen, .slice (some ⟨gm, 0, none⟩) (D.m + 1) cm], .int .i64 0]) ∧ ModAt D (.slice (some ⟨gm, 0, none⟩) (D.m + 1) cm) D.md w' ∧ Below wx.heap.size wx w')
    (h3 : ∀ wx, Below w.heap.size w wx → ∀ gm cm : Nat, Calls Try.prog 12 #[.agg #[.int .i64 D.q, .int .i64 D.p, .int .i64 D.m, .int .i64 D.gen, .slice (some ⟨gm, 0, none⟩) (D.m + 1) cm], .slice bo l cb] wx fun e w' => e = .returned (.bool true) ∧ Below wx.heap.size wx w')
    (h5 : ∀ wx, Below w.heap.size w wx → Calls Try.prog 14 #[.int .i64 D.q, .slice ao mv ca, .slice bo l cb] wx (SnP 0 [] wx))
    (h6 : ∀ wx, Below w.heap.size w wx → Calls Try.prog 16 #[.agg #[.int .i64 n, .slice eo m ec], .int .i64 x] wx fun e w' => e = .returned (.int .i64 0) ∧ Below wx.heap.size wx w')
    (h9 : ∀ wx, Below w.heap.size w wx → Calls Try.prog 18 #[.int .i64 D.q, .agg #[.int .i64 n, .slice eo m ec], .slice ao mv ca, .slice co lc cc, .int .i64 x] wx (SnP 6 L2 wx)) :
    Calls Try.prog 3 #[.int .i64 D.q, .agg #[.int .i64 n, .slice eo m ec], .slice ao mv ca, .slice bo l cb, .slice co lc cc, .int .i64 x] w fun e w' => e = .returned (.bool true) ∧ Below w.heap.size w w' := by
  obtain ⟨wa, hwa⟩ : ∃ wa, wa = w.alloc (.cells #[.int .i64 n, .slice eo m ec] 24) := ⟨_, rfl⟩
  obtain ⟨B, hB⟩ : ∃ B, B = w.heap.size := ⟨_, rfl⟩
  have Gwa : Hid (NsN B n (.slice eo m ec) w wa) := ⟨by rw [hB, hwa]; exact NB.new _ _ _, by rw [hwa]; exact (Below.refl _ _).alloc (Nat.le_refl _) _⟩
  have hnb : ¬ (200 : Int) < (m : Int) + (l : Int) + (lc : Int) := by omega
  have H1 : Hid _ := h1
  have H2 : Hid _ := h2
  have H3 : Hid _ := h3
  have H5 : Hid _ := h5
  have H6 : Hid _ := h6
  have H9 : Hid _ := h9
  have HH : Hid _ := hH
  have HV : Hid _ := hV
  subst hmv
  have zm : ((0 : Int) != (m : Int)) = false := by rw [bne_eq_false_iff_eq]; omega
  have zc : ((lc : Int) != (m : Int)) = true := by rw [bne_iff_ne]; omega
  clear h1 h2 h3 h5 h6 h9 hH hV hmm hcm
  have hc := Gwa.out.nb
  obtain ⟨c0, c1⟩ := hc
  rw [hwa, hB] at c0 c1
  go_enter Try.func3, Try.ntmps3
  go_wp2_with fail
  clear c0 c1
  rw [← hwa]
  refine (HH.out wa Gwa.out.bel).mono ?_
  rintro e wh ⟨rfl, hbh⟩
  rw [← hB]
  have Gwh : Hid (NsN B n (.slice eo m ec) w wh) := Gwa.out.next hbh
  clear hbh hwa hB
  have hc := Gwh.out.nb
  obtain ⟨c0, c1⟩ := hc
  go_wp2_with fail
  clear c0 c1
  refine (H1.out wh Gwh.out.bel).mono ?_
  rintro e w1 ⟨rfl, hbw1⟩
  have Gw1 : Hid (NsN B n (.slice eo m ec) w w1) := Gwh.out.next hbw1
  clear hbw1
  have hc := Gw1.out.nb
  obtain ⟨c0, c1⟩ := hc
  go_wp2_with fail
  clear c0 c1
  refine (H2.out w1 Gw1.out.bel).mono ?_
  rintro e w2 ⟨gm, cm, rfl, hmd2, hb2⟩
  obtain ⟨w3, hw3⟩ : ∃ w3, w3 = w2.alloc (.cells #[.int .i64 D.q, .int .i64 D.p, .int .i64 D.m, .int .i64 D.gen, .slice (some ⟨gm, 0, none⟩) (D.m + 1) cm] 31) := ⟨_, rfl⟩
  obtain ⟨Bf, hBf⟩ : ∃ Bf, Bf = w2.heap.size := ⟨_, rfl⟩
  have hal3 : Below w2.heap.size w2 w3 := by rw [hw3]; exact (Below.refl _ _).alloc (Nat.le_refl _) _
  have Gw3 : Hid (NsG D B Bf gm cm n (.slice eo m ec) w w3) := by
    have hn := (Gw1.out.next hb2).next hal3
    exact ⟨hn.nb, by rw [hBf, hw3]; exact box_new D D.gen _ w2, hmd2.below hal3, hn.bel⟩
  clear hb2 hmd2 hal3
  have hc := Gw3.out.nb
  obtain ⟨c0, c1⟩ := hc
  have hd := Gw3.out.box
  obtain ⟨d0, d1, d2, d3, d4⟩ := hd
  rw [hw3] at c0 c1 d0 d1 d2 d3 d4
  rw [hBf] at d0 d1 d2 d3 d4
  go_wp2_with fail
  clear c0 c1 d0 d1 d2 d3 d4
  rw [← hw3]
  refine (H3.out w3 Gw3.out.bel gm cm).mono ?_
  rintro e w4 ⟨rfl, hb4⟩
  rw [← hBf]
  have Gw4 : Hid (NsG D B Bf gm cm n (.slice eo m ec) w w4) := Gw3.out.next hb4
  clear hb4 hw3 hBf
  go_wp2
  go_loopw [17, 18] (fun vw vi wx => vw = .slice none 0 0 ∧ vi = .int .i64 0 ∧ wx = w4) (fun _ _ _ => 0)
  case atStart => exact ⟨rfl, rfl, rfl⟩
  case round =>
    obtain ⟨rfl, rfl, hwx⟩ := hrel
    have hwx := hwx.symm
    subst hwx
    have hc := Gw4.out.nb
    obtain ⟨c0, c1⟩ := hc
    have hd := Gw4.out.box
    obtain ⟨d0, d1, d2, d3, d4⟩ := hd
    go_wp2_with fail
    clear c0 c1
    clear d0 d1 d2 d3 d4
    refine (H5.out w4 Gw4.out.bel).mono ?_
    rintro e wS ⟨hbS, xo, xn, xc, rfl, hresS⟩
    have GwS : Hid (NsG D B Bf gm cm n (.slice eo m ec) w wS) := Gw4.out.next hbS
    have HLS : Hid (Calls Try.prog 15 #[.slice xo xn xc, .int .i64 0, .slice none 0 0, .int .i64 0] wS fun r w' => r = .returned (.bool true) ∧ ∃ n, w' = wS.drewN n) := by
      refine list_gen ?_
      rcases hresS with ⟨h, h2⟩ | ⟨h, h2⟩
      · exact absurd rfl h
      · exact Or.inr ⟨h, [], h2, Or.inl ⟨rfl, none, 0, rfl⟩⟩
    clear hbS hresS
    have hc := GwS.out.nb
    obtain ⟨c0, c1⟩ := hc
    have hd := GwS.out.box
    obtain ⟨d0, d1, d2, d3, d4⟩ := hd
    go_wp2_with fail
    clear c0 c1
    clear d0 d1 d2 d3 d4
    refine HLS.out.mono ?_
    rintro e wT ⟨rfl, dT, hwT⟩
    have GwT : Hid (NsG D B Bf gm cm n (.slice eo m ec) w wT) := GwS.out.next (bel_dr hwT)
    clear hwT HLS
    have hc := GwT.out.nb
    obtain ⟨c0, c1⟩ := hc
    have hd := GwT.out.box
    obtain ⟨d0, d1, d2, d3, d4⟩ := hd
    go_wp2_with fail
    clear c0 c1
    clear d0 d1 d2 d3 d4
    refine (H6.out wT GwT.out.bel).mono ?_
    rintro e wU ⟨rfl, hbU⟩
    have GwU : Hid (NsG D B Bf gm cm n (.slice eo m ec) w wU) := GwT.out.next hbU
    clear hbU
    have hc := GwU.out.nb
    obtain ⟨c0, c1⟩ := hc
    have hd := GwU.out.box
    obtain ⟨d0, d1, d2, d3, d4⟩ := hd
    go_wp2_with fail
    clear c0 c1
    clear d0 d1 d2 d3 d4
    refine (H9.out wU GwU.out.bel).mono ?_
    rintro e wZ ⟨hbZ, yo, yn, yc, rfl, hresZ⟩
    have GwZ : Hid (NsG D B Bf gm cm n (.slice eo m ec) w wZ) := GwU.out.next hbZ
    have HLZ : Hid (Calls Try.prog 15 #[.slice yo yn yc, .int .i64 6, .slice none 0 0, .int .i64 6] wZ fun r w' => r = .returned (.bool true) ∧ ∃ n, w' = wZ.drewN n) := by
      refine list_gen ?_
      rcases hresZ with ⟨h, h2⟩ | ⟨h, h2⟩
      · exact Or.inl ⟨h, yo, yc, by rw [h2]⟩
      · exact absurd h (by decide)
    clear hbZ hresZ
    have hc := GwZ.out.nb
    obtain ⟨c0, c1⟩ := hc
    have hd := GwZ.out.box
    obtain ⟨d0, d1, d2, d3, d4⟩ := hd
    go_wp2_with fail
    clear c0 c1
    clear d0 d1 d2 d3 d4
    refine HLZ.out.mono ?_
    rintro e wQ ⟨rfl, dQ, hwQ⟩
    have BQ : Hid (Below w.heap.size w wQ) := bel_up' GwZ.out.bel (bel_dr hwQ)
    clear hwQ HLZ
    go_wp2
    go_ret
    exact ⟨rfl, BQ.out⟩
set_option maxHeartbeats 16000000 in
set_option maxRecDepth 100000 in
theorem netSends_w4aS5 {D : FD} (n x : Int) {eo ao bo co : Option Addr} {m ec mv ca l cb lc cc : Nat} {A : Nat → Option Addr} {N C : Nat → Nat} {dt : Nat → Nat} {L1 L2 : List Int} {w : World} (hlen : m + l + lc ≤ 200)
    (hmv : mv = 0)
    (hmm : mv = m) (hcm : lc = m)
    (hV : ∀ wx, Below w.heap.size w wx → ∀ i, i < mv → ∃ b off, ao = some ⟨b, off, none⟩ ∧ wx.cell? ⟨b, off + i, none⟩ = some (.slice (A i) (N i) (C i)))
    (hH : ∀ wx, Below w.heap.size w wx → Calls Try.prog 9 #[.slice ao mv ca] wx fun e w' => e = .returned (.bool false) ∧ Below wx.heap.size wx w')
    (h1 : ∀ wx, Below w.heap.size w wx → Calls Try.prog 10 #[.int .i64 D.q, .slice ao mv ca] wx fun e w' => e = .returned (.int .i64 0) ∧ Below wx.heap.size wx w')
    (h2 : ∀ wx, Below w.heap.size w wx → Calls Try.prog 11 #[.int .i64 D.q] wx fun e w' => ∃ gm cm, e = .returned (.tuple #[.agg #[.int .i64 D.q, .int .i64 D.p, .int .i64 D.m, .int .i64 D.gen, .slice (some ⟨gm, 0, none⟩) (D.m + 1) cm], .int .i64 0]) ∧ ModAt D (.slice (some ⟨gm, 0, none⟩) (D.m + 1) cm) D.md w' ∧ Below wx.heap.size wx w')
    (h3 : ∀ wx, Below w.heap.size w wx → ∀ gm cm : Nat, Calls Try.prog 12 #[.agg #[.int .i64 D.q, .int .i64 D.p, .int .i64 D.m, .int .i64 D.gen, .slice (some ⟨gm, 0, none⟩) (D.m + 1) cm], .slice bo l cb] wx fun e w' => e = .returned (.bool true) ∧ Below wx.heap.size wx w')
    (h5 : ∀ wx, Below w.heap.size w wx → Calls Try.prog 14 #[.int .i64 D.q, .slice ao mv ca, .slice bo l cb] wx (SnP 0 [] wx))
    (h6 : ∀ wx, Below w.heap.size w wx → Calls Try.prog 16 #[.agg #[.int .i64 n, .slice eo m ec], .int .i64 x] wx fun e w' => e = .returned (.int .i64 0) ∧ Below wx.heap.size wx w')
    (h7 : ∀ wx, Below w.heap.size w wx → ∀ gm cm : Nat, Calls Try.prog 12 #[.agg #[.int .i64 D.q, .int .i64 D.p, .int .i64 D.m, .int .i64 D.gen, .slice (some ⟨gm, 0, none⟩) (D.m + 1) cm], .slice co lc cc] wx fun e w' => e = .returned (.bool false) ∧ Below wx.heap.size wx w')
    (h9 : ∀ wx, Below w.heap.size w wx → Calls Try.prog 18 #[.int .i64 D.q, .agg #[.int .i64 n, .slice eo m ec], .slice ao mv ca, .slice co lc cc, .int .i64 x] wx (SnP 2 L2 wx)) :
    Calls Try.prog 3 #[.int .i64 D.q, .agg #[.int .i64 n, .slice eo m ec], .slice ao mv ca, .slice bo l cb, .slice co lc cc, .int .i64 x] w fun e w' => e = .returned (.bool true) ∧ Below w.heap.size w w' := by
  obtain ⟨wa, hwa⟩ : ∃ wa, wa = w.alloc (.cells #[.int .i64 n, .slice eo m ec] 24) := ⟨_, rfl⟩
  obtain ⟨B, hB⟩ : ∃ B, B = w.heap.size := ⟨_, rfl⟩
  have Gwa : Hid (NsN B n (.slice eo m ec) w wa) := ⟨by rw [hB, hwa]; exact NB.new _ _ _, by rw [hwa]; exact (Below.refl _ _).alloc (Nat.le_refl _) _⟩
  have hnb : ¬ (200 : Int) < (m : Int) + (l : Int) + (lc : Int) := by omega
  have H1 : Hid _ := h1
  have H2 : Hid _ := h2
  have H3 : Hid _ := h3
  have H5 : Hid _ := h5
  have H6 : Hid _ := h6
  have H7 : Hid _ := h7
  have H9 : Hid _ := h9
  have HH : Hid _ := hH
  have HV : Hid _ := hV
  subst hmv
  have zm : ((0 : Int) != (m : Int)) = false := by rw [bne_eq_false_iff_eq]; omega
  have zc : ((lc : Int) != (m : Int)) = false := by rw [bne_eq_false_iff_eq]; omega
  clear h1 h2 h3 h5 h6 h7 h9 hH hV hmm hcm
  have hc := Gwa.out.nb
  obtain ⟨c0, c1⟩ := hc
  rw [hwa, hB] at c0 c1
  go_enter Try.func3, Try.ntmps3
  go_wp2_with fail
  clear c0 c1
  rw [← hwa]
  refine (HH.out wa Gwa.out.bel).mono ?_
  rintro e wh ⟨rfl, hbh⟩
  rw [← hB]
  have Gwh : Hid (NsN B n (.slice eo m ec) w wh) := Gwa.out.next hbh
  clear hbh hwa hB
  have hc := Gwh.out.nb
  obtain ⟨c0, c1⟩ := hc
  go_wp2_with fail
  clear c0 c1
  refine (H1.out wh Gwh.out.bel).mono ?_
  rintro e w1 ⟨rfl, hbw1⟩
  have Gw1 : Hid (NsN B n (.slice eo m ec) w w1) := Gwh.out.next hbw1
  clear hbw1
  have hc := Gw1.out.nb
  obtain ⟨c0, c1⟩ := hc
  go_wp2_with fail
  clear c0 c1
  refine (H2.out w1 Gw1.out.bel).mono ?_
  rintro e w2 ⟨gm, cm, rfl, hmd2, hb2⟩
  obtain ⟨w3, hw3⟩ : ∃ w3, w3 = w2.alloc (.cells #[.int .i64 D.q, .int .i64 D.p, .int .i64 D.m, .int .i64 D.gen, .slice (some ⟨gm, 0, none⟩) (D.m + 1) cm] 31) := ⟨_, rfl⟩
  obtain ⟨Bf, hBf⟩ : ∃ Bf, Bf = w2.heap.size := ⟨_, rfl⟩
  have hal3 : Below w2.heap.size w2 w3 := by rw [hw3]; exact (Below.refl _ _).alloc (Nat.le_refl _) _
  have Gw3 : Hid (NsG D B Bf gm cm n (.slice eo m ec) w w3) := by
    have hn := (Gw1.out.next hb2).next hal3
    exact ⟨hn.nb, by rw [hBf, hw3]; exact box_new D D.gen _ w2, hmd2.below hal3, hn.bel⟩
  clear hb2 hmd2 hal3
  have hc := Gw3.out.nb
  obtain ⟨c0, c1⟩ := hc
  have hd := Gw3.out.box
  obtain ⟨d0, d1, d2, d3, d4⟩ := hd
  rw [hw3] at c0 c1 d0 d1 d2 d3 d4
  rw [hBf] at d0 d1 d2 d3 d4
  go_wp2_with fail
  clear c0 c1 d0 d1 d2 d3 d4
  rw [← hw3]
  refine (H3.out w3 Gw3.out.bel gm cm).mono ?_
  rintro e w4 ⟨rfl, hb4⟩
  rw [← hBf]
  have Gw4 : Hid (NsG D B Bf gm cm n (.slice eo m ec) w w4) := Gw3.out.next hb4
  clear hb4 hw3 hBf
  go_wp2
  go_loopw [17, 18] (fun vw vi wx => vw = .slice none 0 0 ∧ vi = .int .i64 0 ∧ wx = w4) (fun _ _ _ => 0)
  case atStart => exact ⟨rfl, rfl, rfl⟩
  case round =>
    obtain ⟨rfl, rfl, hwx⟩ := hrel
    have hwx := hwx.symm
    subst hwx
    have hc := Gw4.out.nb
    obtain ⟨c0, c1⟩ := hc
    have hd := Gw4.out.box
    obtain ⟨d0, d1, d2, d3, d4⟩ := hd
    go_wp2_with fail
    clear c0 c1
    clear d0 d1 d2 d3 d4
    refine (H5.out w4 Gw4.out.bel).mono ?_
    rintro e wS ⟨hbS, xo, xn, xc, rfl, hresS⟩
    have GwS : Hid (NsG D B Bf gm cm n (.slice eo m ec) w wS) := Gw4.out.next hbS
    have HLS : Hid (Calls Try.prog 15 #[.slice xo xn xc, .int .i64 0, .slice none 0 0, .int .i64 0] wS fun r w' => r = .returned (.bool true) ∧ ∃ n, w' = wS.drewN n) := by
      refine list_gen ?_
      rcases hresS with ⟨h, h2⟩ | ⟨h, h2⟩
      · exact absurd rfl h
      · exact Or.inr ⟨h, [], h2, Or.inl ⟨rfl, none, 0, rfl⟩⟩
    clear hbS hresS
    have hc := GwS.out.nb
    obtain ⟨c0, c1⟩ := hc
    have hd := GwS.out.box
    obtain ⟨d0, d1, d2, d3, d4⟩ := hd
    go_wp2_with fail
    clear c0 c1
    clear d0 d1 d2 d3 d4
    refine HLS.out.mono ?_
    rintro e wT ⟨rfl, dT, hwT⟩
    have GwT : Hid (NsG D B Bf gm cm n (.slice eo m ec) w wT) := GwS.out.next (bel_dr hwT)
    clear hwT HLS
    have hc := GwT.out.nb
    obtain ⟨c0, c1⟩ := hc
    have hd := GwT.out.box
    obtain ⟨d0, d1, d2, d3, d4⟩ := hd
    go_wp2_with fail
    clear c0 c1
    clear d0 d1 d2 d3 d4
    refine (H6.out wT GwT.out.bel).mono ?_
    rintro e wU ⟨rfl, hbU⟩
    have GwU : Hid (NsG D B Bf gm cm n (.slice eo m ec) w wU) := GwT.out.next hbU
    clear hbU
    have hc := GwU.out.nb
    obtain ⟨c0, c1⟩ := hc
    have hd := GwU.out.box
    obtain ⟨d0, d1, d2, d3, d4⟩ := hd
    go_wp2_with fail
    clear c0 c1
    clear d0 d1 d2 d3 d4
    refine (H7.out wU GwU.out.bel gm cm).mono ?_
    rintro e wX ⟨rfl, hbX⟩
    have GwX : Hid (NsG D B Bf gm cm n (.slice eo m ec) w wX) := GwU.out.next hbX
    clear hbX
    have hc := GwX.out.nb
    obtain ⟨c0, c1⟩ := hc
    have hd := GwX.out.box
    obtain ⟨d0, d1, d2, d3, d4⟩ := hd
    go_wp2_with fail
    clear c0 c1
    clear d0 d1 d2 d3 d4
    refine (H9.out wX GwX.out.bel).mono ?_
    rintro e wZ ⟨hbZ, yo, yn, yc, rfl, hresZ⟩
    have GwZ : Hid (NsG D B Bf gm cm n (.slice eo m ec) w wZ) := GwX.out.next hbZ
    have HLZ : Hid (Calls Try.prog 15 #[.slice yo yn yc, .int .i64 2, .slice none 0 0, .int .i64 2] wZ fun r w' => r = .returned (.bool true) ∧ ∃ n, w' = wZ.drewN n) := by
      refine list_gen ?_
      rcases hresZ with ⟨h, h2⟩ | ⟨h, h2⟩
      · exact Or.inl ⟨h, yo, yc, by rw [h2]⟩
      · exact absurd h (by decide)
    clear hbZ hresZ
    have hc := GwZ.out.nb
    obtain ⟨c0, c1⟩ := hc
    have hd := GwZ.out.box
    obtain ⟨d0, d1, d2, d3, d4⟩ := hd
    go_wp2_with fail
    clear c0 c1
    clear d0 d1 d2 d3 d4
    refine HLZ.out.mono ?_
    rintro e wQ ⟨rfl, dQ, hwQ⟩
    have BQ : Hid (Below w.heap.size w wQ) := bel_up' GwZ.out.bel (bel_dr hwQ)
    clear hwQ HLZ
    go_wp2
    go_ret
    exact ⟨rfl, BQ.out⟩
set_option maxHeartbeats 16000000 in
set_option maxRecDepth 100000 in
theorem netSends_w4aS6 {D : FD} (n x : Int) {eo ao bo co : Option Addr} {m ec mv ca l cb lc cc : Nat} {A : Nat → Option Addr} {N C : Nat → Nat} {dt : Nat → Nat} {L1 L2 : List Int} {w : World} (hlen : m + l + lc ≤ 200)
    (hmv : mv = 0)
    (hmm : mv = m) (hcm : lc = m)
    (hV : ∀ wx, Below w.heap.size w wx → ∀ i, i < mv → ∃ b off, ao = some ⟨b, off, none⟩ ∧ wx.cell? ⟨b, off + i, none⟩ = some (.slice (A i) (N i) (C i)))
    (hH : ∀ wx, Below w.heap.size w wx → Calls Try.prog 9 #[.slice ao mv ca] wx fun e w' => e = .returned (.bool false) ∧ Below wx.heap.size wx w')
    (h1 : ∀ wx, Below w.heap.size w wx → Calls Try.prog 10 #[.int .i64 D.q, .slice ao mv ca] wx fun e w' => e = .returned (.int .i64 0) ∧ Below wx.heap.size wx w')
    (h2 : ∀ wx, Below w.heap.size w wx → Calls Try.prog 11 #[.int .i64 D.q] wx fun e w' => ∃ gm cm, e = .returned (.tuple #[.agg #[.int .i64 D.q, .int .i64 D.p, .int .i64 D.m, .int .i64 D.gen, .slice (some ⟨gm, 0, none⟩) (D.m + 1) cm], .int .i64 0]) ∧ ModAt D (.slice (some ⟨gm, 0, none⟩) (D.m + 1) cm) D.md w' ∧ Below wx.heap.size wx w')
    (h3 : ∀ wx, Below w.heap.size w wx → ∀ gm cm : Nat, Calls Try.prog 12 #[.agg #[.int .i64 D.q, .int .i64 D.p, .int .i64 D.m, .int .i64 D.gen, .slice (some ⟨gm, 0, none⟩) (D.m + 1) cm], .slice bo l cb] wx fun e w' => e = .returned (.bool true) ∧ Below wx.heap.size wx w')
    (h5 : ∀ wx, Below w.heap.size w wx → Calls Try.prog 14 #[.int .i64 D.q, .slice ao mv ca, .slice bo l cb] wx (SnP 0 [] wx))
    (h6 : ∀ wx, Below w.heap.size w wx → Calls Try.prog 16 #[.agg #[.int .i64 n, .slice eo m ec], .int .i64 x] wx fun e w' => e = .returned (.int .i64 0) ∧ Below wx.heap.size wx w')
    (h7 : ∀ wx, Below w.heap.size w wx → ∀ gm cm : Nat, Calls Try.prog 12 #[.agg #[.int .i64 D.q, .int .i64 D.p, .int .i64 D.m, .int .i64 D.gen, .slice (some ⟨gm, 0, none⟩) (D.m + 1) cm], .slice co lc cc] wx fun e w' => e = .returned (.bool true) ∧ Below wx.heap.size wx w')
    (h8 : ∀ wx, Below w.heap.size w wx → ∀ gm cm : Nat, ModAt D (.slice (some ⟨gm, 0, none⟩) (D.m + 1) cm) D.md wx → Calls Try.prog 17 #[.agg #[.int .i64 D.q, .int .i64 D.p, .int .i64 D.m, .int .i64 D.gen, .slice (some ⟨gm, 0, none⟩) (D.m + 1) cm], .agg #[.int .i64 n, .slice eo m ec], .slice ao mv ca, .slice co lc cc, .int .i64 x] wx (HdP true L2 wx))
    (h9 : ∀ wx, Below w.heap.size w wx → Calls Try.prog 18 #[.int .i64 D.q, .agg #[.int .i64 n, .slice eo m ec], .slice ao mv ca, .slice co lc cc, .int .i64 x] wx (SnP 0 L2 wx)) :
    Calls Try.prog 3 #[.int .i64 D.q, .agg #[.int .i64 n, .slice eo m ec], .slice ao mv ca, .slice bo l cb, .slice co lc cc, .int .i64 x] w fun e w' => e = .returned (.bool true) ∧ Below w.heap.size w w' := by
  obtain ⟨wa, hwa⟩ : ∃ wa, wa = w.alloc (.cells #[.int .i64 n, .slice eo m ec] 24) := ⟨_, rfl⟩
  obtain ⟨B, hB⟩ : ∃ B, B = w.heap.size := ⟨_, rfl⟩
  have Gwa : Hid (NsN B n (.slice eo m ec) w wa) := ⟨by rw [hB, hwa]; exact NB.new _ _ _, by rw [hwa]; exact (Below.refl _ _).alloc (Nat.le_refl _) _⟩
  have hnb : ¬ (200 : Int) < (m : Int) + (l : Int) + (lc : Int) := by omega
  have H1 : Hid _ := h1
  have H2 : Hid _ := h2
  have H3 : Hid _ := h3
  have H5 : Hid _ := h5
  have H6 : Hid _ := h6
  have H7 : Hid _ := h7
  have H8 : Hid _ := h8
  have H9 : Hid _ := h9
  have HH : Hid _ := hH
  have HV : Hid _ := hV
  subst hmv
  have zm : ((0 : Int) != (m : Int)) = false := by rw [bne_eq_false_iff_eq]; omega
  have zc : ((lc : Int) != (m : Int)) = false := by rw [bne_eq_false_iff_eq]; omega
  clear h1 h2 h3 h5 h6 h7 h8 h9 hH hV hmm hcm
  have hc := Gwa.out.nb
  obtain ⟨c0, c1⟩ := hc
  rw [hwa, hB] at c0 c1
  go_enter Try.func3, Try.ntmps3
  go_wp2_with fail
  clear c0 c1
  rw [← hwa]
  refine (HH.out wa Gwa.out.bel).mono ?_
  rintro e wh ⟨rfl, hbh⟩
  rw [← hB]
  have Gwh : Hid (NsN B n (.slice eo m ec) w wh) := Gwa.out.next hbh
  clear hbh hwa hB
  have hc := Gwh.out.nb
  obtain ⟨c0, c1⟩ := hc
  go_wp2_with fail
  clear c0 c1
  refine (H1.out wh Gwh.out.bel).mono ?_
  rintro e w1 ⟨rfl, hbw1⟩
  have Gw1 : Hid (NsN B n (.slice eo m ec) w w1) := Gwh.out.next hbw1
  clear hbw1
  have hc := Gw1.out.nb
  obtain ⟨c0, c1⟩ := hc
  go_wp2_with fail
  clear c0 c1
  refine (H2.out w1 Gw1.out.bel).mono ?_
  rintro e w2 ⟨gm, cm, rfl, hmd2, hb2⟩
  obtain ⟨w3, hw3⟩ : ∃ w3, w3 = w2.alloc (.cells #[.int .i64 D.q, .int .i64 D.p, .int .i64 D.m, .int .i64 D.gen, .slice (some ⟨gm, 0, none⟩) (D.m + 1) cm] 31) := ⟨_, rfl⟩
  obtain ⟨Bf, hBf⟩ : ∃ Bf, Bf = w2.heap.size := ⟨_, rfl⟩
  have hal3 : Below w2.heap.size w2 w3 := by rw [hw3]; exact (Below.refl _ _).alloc (Nat.le_refl _) _
  have Gw3 : Hid (NsG D B Bf gm cm n (.slice eo m ec) w w3) := by
    have hn := (Gw1.out.next hb2).next hal3
    exact ⟨hn.nb, by rw [hBf, hw3]; exact box_new D D.gen _ w2, hmd2.below hal3, hn.bel⟩
  clear hb2 hmd2 hal3
  have hc := Gw3.out.nb
  obtain ⟨c0, c1⟩ := hc
  have hd := Gw3.out.box
  obtain ⟨d0, d1, d2, d3, d4⟩ := hd
  rw [hw3] at c0 c1 d0 d1 d2 d3 d4
  rw [hBf] at d0 d1 d2 d3 d4
  go_wp2_with fail
  clear c0 c1 d0 d1 d2 d3 d4
  rw [← hw3]
  refine (H3.out w3 Gw3.out.bel gm cm).mono ?_
  rintro e w4 ⟨rfl, hb4⟩
  rw [← hBf]
  have Gw4 : Hid (NsG D B Bf gm cm n (.slice eo m ec) w w4) := Gw3.out.next hb4
  clear hb4 hw3 hBf
  go_wp2
  go_loopw [17, 18] (fun vw vi wx => vw = .slice none 0 0 ∧ vi = .int .i64 0 ∧ wx = w4) (fun _ _ _ => 0)
  case atStart => exact ⟨rfl, rfl, rfl⟩
  case round =>
    obtain ⟨rfl, rfl, hwx⟩ := hrel
    have hwx := hwx.symm
    subst hwx
    have hc := Gw4.out.nb
    obtain ⟨c0, c1⟩ := hc
    have hd := Gw4.out.box
    obtain ⟨d0, d1, d2, d3, d4⟩ := hd
    go_wp2_with fail
    clear c0 c1
    clear d0 d1 d2 d3 d4
    refine (H5.out w4 Gw4.out.bel).mono ?_
    rintro e wS ⟨hbS, xo, xn, xc, rfl, hresS⟩
    have GwS : Hid (NsG D B Bf gm cm n (.slice eo m ec) w wS) := Gw4.out.next hbS
    have HLS : Hid (Calls Try.prog 15 #[.slice xo xn xc, .int .i64 0, .slice none 0 0, .int .i64 0] wS fun r w' => r = .returned (.bool true) ∧ ∃ n, w' = wS.drewN n) := by
      refine list_gen ?_
      rcases hresS with ⟨h, h2⟩ | ⟨h, h2⟩
      · exact absurd rfl h
      · exact Or.inr ⟨h, [], h2, Or.inl ⟨rfl, none, 0, rfl⟩⟩
    clear hbS hresS
    have hc := GwS.out.nb
    obtain ⟨c0, c1⟩ := hc
    have hd := GwS.out.box
    obtain ⟨d0, d1, d2, d3, d4⟩ := hd
    go_wp2_with fail
    clear c0 c1
    clear d0 d1 d2 d3 d4
    refine HLS.out.mono ?_
    rintro e wT ⟨rfl, dT, hwT⟩
    have GwT : Hid (NsG D B Bf gm cm n (.slice eo m ec) w wT) := GwS.out.next (bel_dr hwT)
    clear hwT HLS
    have hc := GwT.out.nb
    obtain ⟨c0, c1⟩ := hc
    have hd := GwT.out.box
    obtain ⟨d0, d1, d2, d3, d4⟩ := hd
    go_wp2_with fail
    clear c0 c1
    clear d0 d1 d2 d3 d4
    refine (H6.out wT GwT.out.bel).mono ?_
    rintro e wU ⟨rfl, hbU⟩
    have GwU : Hid (NsG D B Bf gm cm n (.slice eo m ec) w wU) := GwT.out.next hbU
    clear hbU
    have hc := GwU.out.nb
    obtain ⟨c0, c1⟩ := hc
    have hd := GwU.out.box
    obtain ⟨d0, d1, d2, d3, d4⟩ := hd
    go_wp2_with fail
    clear c0 c1
    clear d0 d1 d2 d3 d4
    refine (H7.out wU GwU.out.bel gm cm).mono ?_
    rintro e wX ⟨rfl, hbX⟩
    have GwX : Hid (NsG D B Bf gm cm n (.slice eo m ec) w wX) := GwU.out.next hbX
    clear hbX
    have hc := GwX.out.nb
    obtain ⟨c0, c1⟩ := hc
    have hd := GwX.out.box
    obtain ⟨d0, d1, d2, d3, d4⟩ := hd
    go_wp2_with fail
    clear c0 c1
    clear d0 d1 d2 d3 d4
    refine (H8.out wX GwX.out.bel gm cm GwX.out.md).mono ?_
    rintro e wY ⟨hbY, ho', hn', hc', rfl, hresY⟩
    have GwY : Hid (NsG D B Bf gm cm n (.slice eo m ec) w wY) := GwX.out.next hbY
    have HKy : Hid (KI (.slice ho' hn' hc') L2 wY) := by
      rcases hresY with ⟨h, _⟩ | ⟨_, h⟩
      · cases h
      · exact h
    clear hbY hresY
    have hc := GwY.out.nb
    obtain ⟨c0, c1⟩ := hc
    have hd := GwY.out.box
    obtain ⟨d0, d1, d2, d3, d4⟩ := hd
    go_wp2_with fail
    clear c0 c1
    clear d0 d1 d2 d3 d4
    refine (H9.out wY GwY.out.bel).mono ?_
    rintro e wZ ⟨hbZ, yo, yn, yc, rfl, hresZ⟩
    have GwZ : Hid (NsG D B Bf gm cm n (.slice eo m ec) w wZ) := GwY.out.next hbZ
    have HLZ : Hid (Calls Try.prog 15 #[.slice yo yn yc, .int .i64 0, .slice ho' hn' hc', .int .i64 0] wZ fun r w' => r = .returned (.bool true) ∧ ∃ n, w' = wZ.drewN n) := by
      refine list_gen ?_
      rcases hresZ with ⟨h, h2⟩ | ⟨h, h2⟩
      · exact absurd rfl h
      · exact Or.inr ⟨h, L2, h2, (HKy.out.below hbZ).1⟩
    clear hbZ hresZ
    have hc := GwZ.out.nb
    obtain ⟨c0, c1⟩ := hc
    have hd := GwZ.out.box
    obtain ⟨d0, d1, d2, d3, d4⟩ := hd
    go_wp2_with fail
    clear c0 c1
    clear d0 d1 d2 d3 d4
    refine HLZ.out.mono ?_
    rintro e wQ ⟨rfl, dQ, hwQ⟩
    have BQ : Hid (Below w.heap.size w wQ) := bel_up' GwZ.out.bel (bel_dr hwQ)
    clear hwQ HLZ
    go_wp2
    go_ret
    exact ⟨rfl, BQ.out⟩
end Go.Proofs.Ythkjaiihlphgfaa
