/- TopBounds: the walk of the statement, whatever raw numbers it is given (printed by make/kn2.py). -/
import Derived.Test.YtbofcldmgjeklabZS55
import Derived.Test.YtbofcldmgjeklabZS52
import Derived.Test.YtbofcldmgjeklabZKL7
import Derived.Test.YtbofcldmgjeklabZKA8
import Derived.Test.YtbofcldmgjeklabZL10
import Derived.Test.YtbofcldmgjeklabZR5
namespace Go.Proofs.Ytbofcldmgjeklab
open Go.RowKit Go.Sort

theorem Cod.dist {D : FD} (hD : D ∈ fieldsL) {n m : Nat} (ca : Nat) {ao : Option Addr} {M : Nat → Nat → Nat} {w : World} (h : Cod D n ao m M w) :
    Calls Try.prog 30 #[.agg #[.int .i64 D.q, .int .i64 (n : Nat), .slice ao m ca]] w (DsP D n m M w) :=
  distance_ok (h.rows (fld hD)).2.1.2 (fun _ hx => Cod.wts hD ca (h.below hx))
theorem lwt_none {D : FD} (F : Fld D) {n k : Nat} {R : Nat → Nat → Nat} {p : Nat → Nat} (h : RRE D n k R p) (hL : Lwt (wcn D R n k (D.q ^ k)) (n + 1) 0) : k = 0 := by
  rcases hL with ⟨_, h0⟩ | ⟨h0, _⟩
  · rcases Nat.lt_or_ge 0 k with c | c
    · have := far_sgl F h (far_of F h (d := n + 1) h0) c
      omega
    · omega
  · omega
theorem wcn_nought {D : FD} (F : Fld D) (R : Nat → Nat → Nat) {n d : Nat} (hd : 0 < d) : wcn D R n 0 (D.q ^ 0) d = 0 := by
  have e := wcn_wsum F R n 0 d
  have e2 : wsum D.q 0 (fun m => bi (decide (wtn (enw D R m 0) n = d))) = 0 := by
    show bi (decide (wtn pnil n = d)) = 0
    rw [wtn_pnil, decide_eq_false (by omega), bi_f]
  rw [e2] at e
  omega
/-- All that TopBounds asks of a code's numbers. -/
structure Bnd (D : FD) (n k d H S P V G : Nat) : Prop where
  k1 : 1 ≤ k
  dn : d ≤ n
  ham : D.q ^ k ≤ H
  sgl : D.q ^ k ≤ S
  plk : 0 < P → D.q ^ k ≤ P
  gri : G ≤ n
  vh : V ≤ H
  v1 : 1 ≤ V
theorem small_q {D : FD} (hD : D ∈ fieldsL) (h8 : D.q ≤ 8) : D.q ∈ [2, 3, 4, 5, 7, 8] := by
  have h : fieldsL.all (fun D => !Nat.ble D.q 8 || [2, 3, 4, 5, 7, 8].contains D.q) = true := by decide +kernel
  have h1 := List.all_eq_true.1 h D hD
  rw [Nat.ble_eq_true_of_le h8] at h1
  simpa using h1
theorem bnd_of {D : FD} (hD : D ∈ fieldsL) (h8 : D.q ≤ 8) {n k d : Nat} {R : Nat → Nat → Nat} {p : Nat → Nat} (hn : n ≤ 12) (h : RRE D n k R p) (hL : Lwt (wcn D R n k (D.q ^ k)) (n + 1) d) (hd : 0 < d) :
    Far D n k R d ∧ Bnd D n k d (D.q ^ n / bls D.q n ((d - 1) / 2 + 1)) (D.q ^ (n - d + 1)) (Go.Proofs.Ytbofcldmgjeklab.plk D.q n d) (vrs D.q n d) (gs D.q d k) := by
  have F := fld hD
  have h2 := F.q2
  rcases hL with ⟨h0, _⟩ | ⟨_, hdn, hc, hlow⟩
  · omega
  · have hf := far_of F h hlow
    have hk : 1 ≤ k := by
      rcases Nat.lt_or_ge 0 k with c | c
      · exact c
      · exfalso
        have e : k = 0 := by omega
        subst e
        rw [wcn_nought F R hd] at hc
        omega
    have hs := far_sgl F h hf hk
    exact ⟨hf, hk, by omega, ham_ge F h hf hd, Nat.pow_le_pow_right (by omega) (by omega), plk_ge hD h hf, far_gri hD h hf, vrs_ham (small_q hD h8) hn hd (by omega), vrs_pos h2 hd⟩

set_option maxHeartbeats 1000000 in
set_option maxRecDepth 100000 in
theorem topBounds_long {ao bo : Option Addr} {n ca l cb : Nat} (q m r : Int) (w : World) (hn : ¬ n + l ≤ 256) (hn2 : n ≤ 17592186044416) (hl2 : l ≤ 17592186044416) :
    Calls Try.prog 6 #[.slice ao n ca, .int .i64 q, .int .i64 m, .int .i64 r, .slice bo l cb] w fun r w' => r = .returned (.bool true) ∧ Below w.heap.size w w' := by
  have h1 : (256 : Int) < (n : Int) + (l : Int) := by omega
  go_enter Try.func6, Try.ntmps6
  go_wp2
  go_ret
  exact ⟨rfl, Below.refl _ _⟩

set_option maxHeartbeats 16000000 in
set_option maxRecDepth 100000 in
theorem topBounds_walk {ao bo : Option Addr} {n ca l cb : Nat} {z y0 : Nat → Int} (q m a : Int) {w : World} (ha : Arg ao n ca z w) (hy : Arg bo l cb y0 w) (hn : n + l ≤ 256) (hq : I64 q) (hm : I64 m) (hav : I64 a) :
    Calls Try.prog 6 #[.slice ao n ca, .int .i64 q, .int .i64 m, .int .i64 a, .slice bo l cb] w fun r w' => r = .returned (.bool true) ∧ Below w.heap.size w w' := by
  have HA : Hid (Arg ao n ca z w ∧ Arg bo l cb y0 w) := ⟨ha, hy⟩
  have HC : Hid (I64 q ∧ I64 m ∧ I64 a) := ⟨hq, hm, hav⟩
  have hnb : ¬ (256 : Int) < (n : Int) + (l : Int) := by omega
  clear ha hy hq hm hav
  go_enter Try.func6, Try.ntmps6
  go_wp2_with fail
  refine (codeOf_any q m a HA.out.1 (by omega) HC.out.1 HC.out.2.1 HC.out.2.2).mono ?_
  clear HC
  rintro e w1 ⟨D, N, r, mo, mc, A, C, Z, hD, hD8, hN, hr, hqr, rfl, hcd, hb1⟩
  obtain ⟨w2, hw2⟩ : ∃ w2, w2 = w1.alloc (.cells #[.int .i64 D.q, .int .i64 (N : Nat), .slice mo r mc] 50) := ⟨_, rfl⟩
  obtain ⟨g1, g2, g3⟩ := box_at D.q (N : Nat) (.slice mo r mc) w1
  rw [← hw2] at g1 g2 g3
  obtain ⟨M, hM⟩ : ∃ M, M = mzc (fun _ => N) Z := ⟨_, rfl⟩
  have h2q := (fld hD).q2
  have h64q := (fld hD).q64
  have hn1 := hcd.n1
  have G2 : Hid ((D ∈ fieldsL) ∧ (Cod D N mo r M w2) ∧ (CB w1.heap.size D.q (N : Nat) (.slice mo r mc) w2) ∧ (Below w.heap.size w w2) ∧ D.q ^ r ≤ 4096) := ⟨hD, ⟨_, _, _, _, hcd.below g1, fun i _ => by rw [hM]⟩, g2, bel_up' hb1 g1, hqr⟩
  clear hD hcd hb1 g1 g2 g3 hM hqr
  go_wp2_with fail
  rw [← hw2]
  clear hw2
  refine (G2.out.2.1.make G2.out.1 mc).mono ?_
  rintro e w3 ⟨k, Ro, oo, co, rfl, ⟨_, _⟩, hred0, hb⟩
  obtain ⟨w4, hw4⟩ : ∃ w4, w4 = w3.alloc (.cells #[.int .i64 D.q, .int .i64 (N : Nat), .slice oo k co] 50) := ⟨_, rfl⟩
  obtain ⟨g1, g2, g3⟩ := box_at D.q (N : Nat) (.slice oo k co) w3
  rw [← hw4] at g1 g2 g3
  have hbb := bel_up' hb g1
  have G4 : Hid ((CB w3.heap.size D.q (N : Nat) (.slice oo k co) w4) ∧ (Red D N r M k Ro) ∧ (D ∈ fieldsL) ∧ (Cod D N mo r M w4) ∧ (CB w1.heap.size D.q (N : Nat) (.slice mo r mc) w4) ∧ (Below w.heap.size w w4) ∧ D.q ^ r ≤ 4096) := ⟨g2, hred0, G2.out.1, G2.out.2.1.below hbb, G2.out.2.2.1.keep hbb, bel_up' G2.out.2.2.2.1 hbb, G2.out.2.2.2.2⟩
  have hqc := G2.out.2.2.1.keep hb
  obtain ⟨qc0, qc1, qc2⟩ := hqc
  have hlc := cell_lt qc0
  have hkN : k ≤ 12 := by have := hred0.le; omega
  clear hb g1 g2 g3 hbb hred0 G2
  go_wp2_with fail
  rw [← hw4]
  clear hw4
  clear qc0 qc1 qc2 hlc
  refine (G4.out.2.2.2.1.dist G4.out.2.2.1 mc).mono ?_
  rintro e w5 ⟨k', R, hred, hb, h | ⟨hbig, rfl⟩⟩
  rotate_left
  · exfalso
    have h1 := hred.few G4.out.2.2.1 (G4.out.2.2.2.1.rows (fld G4.out.2.2.1)).2.2
    have h2 : D.q ^ k' ≤ D.q ^ r := Nat.pow_le_pow_right (by omega) h1
    have h3 := G4.out.2.2.2.2.2.2
    omega
  obtain ⟨hfew, d, hL, rfl⟩ := h
  obtain ⟨hk', _⟩ := hred.uniq (fld G4.out.2.2.1) G4.out.2.1 (fun _ => Iff.rfl)
  subst hk'
  have HR : Hid (∃ p, RRE D N k' R p) := by
    obtain ⟨p, hp, _⟩ := hred
    exact ⟨p, hp⟩
  have HL : Hid (Lwt (wcn D R N k' (D.q ^ k')) (N + 1) d ∧ D ∈ fieldsL ∧ D.q ^ k' ≤ 4096) := ⟨hL, G4.out.2.2.1, hfew⟩
  have hdN : d ≤ 12 := by rcases hL with ⟨h, _⟩ | ⟨_, h, _⟩ <;> omega
  have HB5 : Hid (Below w.heap.size w w5) := bel_up' G4.out.2.2.2.2.2.1 hb
  have HCB : Hid (∀ wx, Below w5.heap.size w5 wx → CB w1.heap.size D.q (N : Nat) (.slice mo r mc) wx ∧ CB w3.heap.size D.q (N : Nat) (.slice oo k' co) wx) := fun wx hx => ⟨(G4.out.2.2.2.2.1.keep hb).keep hx, (G4.out.1.keep hb).keep hx⟩
  clear hred hb hL hfew G4
  obtain ⟨⟨qc0, qc1, qc2⟩, ⟨qo0, qo1, qo2⟩⟩ := HCB.out w5 (Below.refl _ _)
  have hlc := cell_lt qc0
  have hlo := cell_lt qo0
  go_wp2_with fail
  refine (rpower_any D.q (N : Nat) h2q h64q (by omega) (by omega) w5).mono ?_
  rintro e w6 ⟨v, rfl, hw, hv⟩
  have hw := hw.symm
  subst hw
  rw [Int.toNat_natCast] at hv
  by_cases hd0 : d = 0
  · subst hd0
    obtain ⟨p, hp⟩ := HR.out
    have hk0 : k' = 0 := lwt_none (fld HL.out.2.1) hp HL.out.1
    subst hk0
    clear hv
    go_wp2
    go_ret
    exact ⟨rfl, HB5.out⟩
  have hd1 : (0 : Int) < (d : Int) := by omega
  have hdz : ¬ (d : Int) = 0 := by omega
  have hdz2 : ((d : Int) == 0) = false := by rw [beq_eq_false_iff_ne]; exact hdz
  rcases hv with ⟨hpw, hv⟩ | ⟨_, hv⟩
  rotate_left
  · subst hv
    go_wp2
    go_ret
    exact ⟨rfl, HB5.out⟩
  have hv0 : ¬ v < 0 := by omega
  have hv1 : decide (v < 0) = false := decide_eq_false hv0
  clear hv
  have HP : Hid (D.q ^ N ≤ 1073741824) := hpw
  clear hpw
  go_wp2_with fail
  clear qc0 qc1 qc2 hlc qo0 qo1 qo2 hlo hv0 hv1
  have HQ : Hid (∃ H S P V G, Far D N k' R d ∧ Bnd D N k' d H S P V G ∧ (∀ wx, Calls Try.prog 80 #[.int .i64 (D.q : Nat), .int .i64 (N : Nat), .int .i64 (d : Nat)] wx fun e w' => e = .returned (.int .i64 0) ∧ Below wx.heap.size wx w') ∧
      (∀ wx, Calls Try.prog 31 #[.int .i64 (D.q : Nat), .int .i64 (N : Nat), .int .i64 (d : Nat)] wx fun e w' => e = .returned (.tuple #[.int .i64 (H : Nat), .int .i64 0]) ∧ Below wx.heap.size wx w') ∧
      (∀ wx, Calls Try.prog 32 #[.int .i64 (D.q : Nat), .int .i64 (N : Nat), .int .i64 (d : Nat)] wx fun e w' => e = .returned (.tuple #[.int .i64 (S : Nat), .int .i64 0]) ∧ Below wx.heap.size wx w') ∧
      (∀ wx, Calls Try.prog 33 #[.int .i64 (D.q : Nat), .int .i64 (N : Nat), .int .i64 (d : Nat)] wx fun e w' => e = .returned (.tuple #[.int .i64 (P : Nat), .int .i64 0]) ∧ Below wx.heap.size wx w') ∧
      (∀ wx, Calls Try.prog 34 #[.int .i64 (D.q : Nat), .int .i64 (N : Nat), .int .i64 (d : Nat)] wx fun e w' => e = .returned (.tuple #[.int .i64 (V : Nat), .int .i64 0]) ∧ Below wx.heap.size wx w') ∧
      (∀ wx, Calls Try.prog 35 #[.int .i64 (D.q : Nat), .int .i64 (k' : Nat), .int .i64 (d : Nat)] wx fun e w' => e = .returned (.tuple #[.int .i64 (G : Nat), .int .i64 0]) ∧ Below wx.heap.size wx w')) := by
    obtain ⟨p, hp⟩ := HR.out
    obtain ⟨hf, hB⟩ := bnd_of HL.out.2.1 hD8 hN hp HL.out.1 (by omega)
    have hdn := hB.dn
    have hk1 := hB.k1
    have hCD : ∀ wx, Calls Try.prog 80 #[.int .i64 (D.q : Nat), .int .i64 (N : Nat), .int .i64 (d : Nat)] wx fun e w' => e = .returned (.int .i64 0) ∧ Below wx.heap.size wx w' := fun wx => by
      have h := wcheck_any HL.out.2.1 (N : Nat) (by omega) wx
      rw [wck_is hn1, if_pos HP.out] at h
      have h2 := cdist_any D.q (N : Nat) (d : Nat) 0 h
      rw [show cdk 0 (N : Nat) (d : Nat) = 0 by unfold cdk; rw [if_neg (by simp), if_neg (by omega)]] at h2
      exact h2
    exact ⟨_, _, _, _, _, hf, hB, hCD, fun wx => wH_ok D.q N d h2q h64q HP.out (by omega) hdn (hCD wx), fun wx => wS_ok D.q N d h2q h64q HP.out (by omega) hdn (hCD wx), fun wx => wP_ok D.q N d h2q h64q HP.out (by omega) hdn (hCD wx), fun wx => wV_ok D.q N d h2q h64q HP.out (by omega) hdn (hCD wx), fun wx => gri_ok HL.out.2.1 k' d hk1 (by omega) (by omega) (by omega) wx⟩
  obtain ⟨H, S, P, V, G, hf, hB, hCD, hH, hS, hP, hV, hG⟩ := HQ.out
  have HF : Hid (Far D N k' R d ∧ ∀ wx, Calls Try.prog 80 #[.int .i64 (D.q : Nat), .int .i64 (N : Nat), .int .i64 (d : Nat)] wx fun e w' => e = .returned (.int .i64 0) ∧ Below wx.heap.size wx w') := ⟨hf, hCD⟩
  have HH : Hid _ := hH
  have HS : Hid _ := hS
  have HPl : Hid _ := hP
  have HV : Hid _ := hV
  have HG : Hid _ := hG
  have HBd : Hid (Bnd D N k' d H S P V G) := hB
  clear HQ hf hCD hH hS hP hV hG hB
  refine (rpower_any D.q (k' : Nat) h2q h64q (by omega) (by omega) w5).mono ?_
  rintro e w6 ⟨v', rfl, hw, hv'⟩
  have hw := hw.symm
  subst hw
  rw [Int.toNat_natCast] at hv'
  obtain ⟨Q, hQ⟩ : ∃ Q, Q = D.q ^ k' := ⟨_, rfl⟩
  have hvQ : v' = (Q : Int) := by have := HL.out.2.2; rw [hQ]; omega
  have HQk : Hid (Q = D.q ^ k') := hQ
  clear hv'
  subst hvQ
  clear hQ
  have H5 : Hid (Below w5.heap.size w5 w5) := Below.refl _ _
  obtain ⟨⟨qc0, qc1, qc2⟩, ⟨qo0, qo1, qo2⟩⟩ := HCB.out w5 H5.out
  have hlc := cell_lt qc0
  have hlo := cell_lt qo0
  go_wp2_with fail
  clear qc0 qc1 qc2 hlc qo0 qo1 qo2 hlo
  refine (HH.out w5).mono ?_
  rintro e w6 ⟨rfl, hb⟩
  have H6 : Hid (Below w5.heap.size w5 w6) := bel_up' H5.out hb
  clear hb
  obtain ⟨⟨qc0, qc1, qc2⟩, ⟨qo0, qo1, qo2⟩⟩ := HCB.out w6 H6.out
  have hlc := cell_lt qc0
  have hlo := cell_lt qo0
  go_wp2_with fail
  clear qc0 qc1 qc2 hlc qo0 qo1 qo2 hlo
  refine (HS.out w6).mono ?_
  rintro e w7 ⟨rfl, hb⟩
  have H7 : Hid (Below w5.heap.size w5 w7) := bel_up' H6.out hb
  clear hb
  obtain ⟨⟨qc0, qc1, qc2⟩, ⟨qo0, qo1, qo2⟩⟩ := HCB.out w7 H7.out
  have hlc := cell_lt qc0
  have hlo := cell_lt qo0
  go_wp2_with fail
  clear qc0 qc1 qc2 hlc qo0 qo1 qo2 hlo
  refine (HPl.out w7).mono ?_
  rintro e w8 ⟨rfl, hb⟩
  have H8 : Hid (Below w5.heap.size w5 w8) := bel_up' H7.out hb
  clear hb
  obtain ⟨⟨qc0, qc1, qc2⟩, ⟨qo0, qo1, qo2⟩⟩ := HCB.out w8 H8.out
  have hlc := cell_lt qc0
  have hlo := cell_lt qo0
  go_wp2_with fail
  clear qc0 qc1 qc2 hlc qo0 qo1 qo2 hlo
  refine (HV.out w8).mono ?_
  rintro e w9 ⟨rfl, hb⟩
  have H9 : Hid (Below w5.heap.size w5 w9) := bel_up' H8.out hb
  clear hb
  obtain ⟨⟨qc0, qc1, qc2⟩, ⟨qo0, qo1, qo2⟩⟩ := HCB.out w9 H9.out
  have hlc := cell_lt qc0
  have hlo := cell_lt qo0
  go_wp2_with fail
  clear qc0 qc1 qc2 hlc qo0 qo1 qo2 hlo
  refine (HG.out w9).mono ?_
  rintro e w10 ⟨rfl, hb⟩
  have H10 : Hid (Below w5.heap.size w5 w10) := bel_up' H9.out hb
  clear hb
  obtain ⟨⟨qc0, qc1, qc2⟩, _⟩ := HCB.out w10 H10.out
  have hlc := cell_lt qc0
  have b1 : ¬ (H : Int) < (Q : Int) := by have := HBd.out.ham; have := HQk.out; omega
  have b2 : ¬ (S : Int) < (Q : Int) := by have := HBd.out.sgl; have := HQk.out; omega
  have b3 : ¬ (N : Int) < (G : Int) := by have := HBd.out.gri; omega
  have b4 : ¬ (H : Int) < (V : Int) := by have := HBd.out.vh; omega
  have b5 : ¬ (V : Int) < 1 := by have := HBd.out.v1; omega
  have HNt : Hid (¬ H < Q ∧ ¬ S < Q ∧ ¬ N < G ∧ ¬ H < V ∧ ¬ (V : Int) < 1) := ⟨by omega, by omega, by omega, by omega, by omega⟩
  have HN1 : Hid (∀ wx, Below w10.heap.size w10 wx → CB w1.heap.size D.q (N : Nat) (.slice mo r mc) wx) := fun wx hx => (HCB.out wx (bel_up' H10.out hx)).1
  go_upto_region 17 with fail
  go_cut [188] (fun v wx => v = .bool false ∧ wx = w10)
  case first =>
    by_cases c : 0 < P
    · have c1 : (0 : Int) < (P : Int) := by omega
      have b6 : ¬ (P : Int) < (Q : Int) := by have := HBd.out.plk c; have := HQk.out; omega
      go_wp2
      go_meet
      case rel => exact ⟨by rw [decide_eq_false HNt.out.1, decide_eq_false HNt.out.2.1, decide_eq_false HNt.out.2.2.1, decide_eq_false HNt.out.2.2.2.1, decide_eq_false (show ¬ (V : Int) < 1 by have := HNt.out.2.2.2.2; omega)]; rfl, rfl⟩
    · have c1 : ¬ (0 : Int) < (P : Int) := by omega
      go_wp2
      go_meet
      case rel => exact ⟨by rw [decide_eq_false HNt.out.1, decide_eq_false HNt.out.2.1, decide_eq_false HNt.out.2.2.1, decide_eq_false HNt.out.2.2.2.1, decide_eq_false (show ¬ (V : Int) < 1 by have := HNt.out.2.2.2.2; omega)]; rfl, rfl⟩
  case rest =>
  obtain ⟨hv188, hwx⟩ := hcut
  have hwx := hwx.symm
  subst hv188 hwx
  clear qc0 qc1 qc2 hlc b1 b2 b3 b4 b5
  go_wp2
  go_loopw [27, 28] (fun vl i wr => ∃ (t : Nat) (y : Nat → Int), (1 ≤ t ∧ t ≤ N + 1) ∧ i = .int .i64 t ∧ Hid (OwnI w10.heap.size vl (zl t y) wr ∧ (y 0 = 1 ∧ ∀ j, j < t → 0 ≤ y j ∧ y j < 4) ∧ Below w10.heap.size w10 wr)) (fun _ i _ => N + 1 - (intOf i).toNat)
  case atStart => exact ⟨1, fun _ => 1, ⟨by omega, by omega⟩, rfl, ownI_lit w10 [1] (by simp), ⟨rfl, fun j _ => ⟨by show (0 : Int) ≤ 1; omega, by show (1 : Int) < 4; omega⟩⟩, (Below.refl _ _).alloc (Nat.le_refl _) _⟩
  case round =>
    obtain ⟨t, y, ht, rfl, HI⟩ := hrel
    have hsz := HI.out.2.2.size
    obtain ⟨qc0, qc1, qc2⟩ := HN1.out _ HI.out.2.2
    have hlc := cell_lt qc0
    by_cases hlt : t < N + 1
    · have hib : (t : Int) ≤ (N : Int) := by omega
      have HR2 : Hid (Calls Try.prog 11 #[.slice bo l cb, .int .i64 (t : Nat)] wr fun e w' => (∃ x, e = .returned (.int .i64 x) ∧ I64 x) ∧ ∃ k, w' = wr.drewN k) := raw_any (HA.out.2.below (bel_up' HB5.out (bel_up' H10.out HI.out.2.2))) (by omega) t (by omega)
      go_wp2_with fail
      clear qc0 qc1 qc2 hlc
      refine HR2.out.mono ?_
      rintro e wa ⟨⟨x, rfl, hx⟩, k1, hw1⟩
      have HG1 : Hid (OwnI w10.heap.size u27 (zl t y) wa ∧ Below w10.heap.size w10 wa) := by rw [hw1]; exact ⟨HI.out.1.drewN _, below_drewN2 HI.out.2.2 _⟩
      have hsz1 := HG1.out.2.size
      clear hw1
      have hp1 := pick_lo x (4 : Int) (by omega)
      have hp2 := pick_hi x (4 : Int) (by omega)
      obtain ⟨pk, hp⟩ : ∃ p, p = pick x (4 : Int) := ⟨_, rfl⟩
      have HPk : Hid (∀ w : World, Calls Try.prog 7 #[.int .i64 x, .int .i64 4] w fun e w' => e = .returned (.int .i64 pk) ∧ w' = w) := fun w => by rw [hp]; exact pick_any x 4 w hx.1 hx.2 (by omega) (by omega)
      rw [← hp] at hp1 hp2
      clear hp hx HR2
      go_wp2_with (first
        | (go_at_call 7; refine (HPk.out _).mono ?_; rintro e w' ⟨rfl, hw⟩; have hw := hw.symm; subst hw)
        | (at_builtin; refine append_int rfl _ _ rfl w10.heap.size _ (zl t y) rfl (HG1.out.1.alloc _) ⟨_, 0, none⟩ 1 pk rfl (by simp) (by rw [zl_len]; omega) (by simp; omega) ?_; intro v2 w3' hown3 hgrow3))
      have HX : Hid (OwnI w10.heap.size v2 (zl (t + 1) (fun j => if j = t then pk else y j)) w3' ∧ ((if 0 = t then pk else y 0) = 1 ∧ ∀ j, j < t + 1 → 0 ≤ (if j = t then pk else y j) ∧ (if j = t then pk else y j) < 4) ∧ Below w10.heap.size w10 w3') := by
        refine ⟨?_, ⟨by rw [if_neg (by omega)]; exact HI.out.2.1.1, fun j hj => ?_⟩, (HG1.out.2.alloc hsz1 _).grown hgrow3 (by simp; omega) (fun k hk => (HG1.out.1.lt k hk).1)⟩
        · rw [zl_succ, zl_congr (y := y) (fun j hj => by show (if j = t then pk else y j) = y j; rw [if_neg (by omega)])]
          show OwnI w10.heap.size v2 (zl t y ++ [if t = t then pk else y t]) w3'
          rw [if_pos rfl]; exact hown3
        · by_cases e : j = t
          · rw [if_pos e]; exact ⟨hp1, hp2⟩
          · rw [if_neg e]; exact HI.out.2.1.2 j (by omega)
      clear hown3 hgrow3
      go_roundw
      case rel => exact ⟨t + 1, _, ⟨by omega, by omega⟩, by go_num, HX.out⟩
      case measure => simp [intOf]; omega
    · have hib : ¬ (t : Int) ≤ (N : Int) := by omega
      have e : t = N + 1 := by omega
      obtain ⟨yo, cy, rfl, hA⟩ := HI.out.1.argL
      have hX : Arg yo (N + 1) cy y wr := by rw [← e]; exact hA.arg (by omega)
      have ho : outB y 1048576 (N + 1) = false := outB_in (fun j hj => by have := HI.out.2.1.2 j (by omega); omega)
      obtain ⟨bb, hbb⟩ : ∃ bb, bb = foundB (fun x => decide (0 < dsm D.q N y x)) d (N + 1 - d) := ⟨_, rfl⟩
      have HSh := shows_at h2q h64q HP.out (by omega) HBd.out.dn ho (by rw [HI.out.2.1.1]; omega) bb hbb hX HF.out.2
      rw [← e] at HSh
      have HDel : Hid (bb = false → ((Q : Nat) : Int) ≤ dsm D.q N y 0) := fun hbf => by
        obtain ⟨p, hp⟩ := HR.out
        rw [hbf] at hbb
        have hno := (foundB_no _).1 hbb.symm
        rw [HQk.out]
        exact far_del HL.out.2.1 hp HF.out.1 HI.out.2.1.1 (fun j hj => (HI.out.2.1.2 j (by omega)).1) (fun x hx hx2 => by
          have := hno (x - d) (by omega)
          rw [show d + (x - d) = x by omega] at this
          have := of_decide_eq_false this
          omega)
      have hy0 : y 0 = 1 := HI.out.2.1.1
      have HBe : Hid (Below w.heap.size w wr) := bel_up' HB5.out (bel_up' H10.out HI.out.2.2)
      cases bb
      · have hle : ((Q : Nat) : Int) ≤ dsm D.q N y 0 := HDel.out rfl
        obtain ⟨U, hU⟩ : ∃ U, U = dsm D.q N y 0 := ⟨_, rfl⟩
        rw [if_neg (by simp), ← hU, hy0] at HSh
        rw [← hU] at hle
        have HS2 : Hid (Calls Try.prog 36 #[.int .i64 (D.q : Nat), .int .i64 (N : Nat), .int .i64 (d : Nat), .slice yo t cy] wr fun e w' => e = .returned (.tuple #[.int .i64 U, .int .i64 1, .bool true, .int .i64 0]) ∧ Below wr.heap.size wr w') := HSh
        clear HSh hbb ho hX hA hU hy0 e hlt HDel
        go_wp2_with fail
        refine HS2.out.mono ?_
        rintro e wz ⟨rfl, hb⟩
        have HE : Hid (Below w.heap.size w wz) := bel_up' HBe.out hb
        clear hb
        go_wp2
        go_ret
        exact ⟨rfl, HE.out⟩
      · rw [if_pos rfl] at HSh
        have HS2 : Hid (Calls Try.prog 36 #[.int .i64 (D.q : Nat), .int .i64 (N : Nat), .int .i64 (d : Nat), .slice yo t cy] wr fun e w' => e = .returned (.tuple #[.int .i64 0, .int .i64 0, .bool false, .int .i64 0]) ∧ Below wr.heap.size wr w') := HSh
        clear HSh hbb ho hX hA hy0 e hlt HDel
        go_wp2_with fail
        refine HS2.out.mono ?_
        rintro e wz ⟨rfl, hb⟩
        have HE : Hid (Below w.heap.size w wz) := bel_up' HBe.out hb
        clear hb
        go_wp2
        go_ret
        exact ⟨rfl, HE.out⟩
end Go.Proofs.Ytbofcldmgjeklab
