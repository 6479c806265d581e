/- Muller: the reference's code (printed by make/ko13.py). -/
import Derived.Test.YtmklnjkallhphaaZKO11
import Derived.Test.YtmklnjkallhphaaZS27
import Derived.Test.YtmklnjkallhphaaZI10
namespace Go.Proofs.Ytmklnjkallhphaa
open Go.RowKit Go.Sort

set_option maxHeartbeats 16000000 in
set_option maxRecDepth 100000 in
theorem rMCode_any (r m P P1 : Nat) (h1 : 1 ≤ m) (h : m ≤ 5) (hr : r ≤ m) (hP : P = 2 ^ m) (hP1 : P = P1 + 1) (w : World) :
    Calls Try.prog 8 #[.int .i64 (r : Nat), .int .i64 (m : Nat)] w fun e w' => ∃ k R ro rc, e = .returned (.agg #[.int .i64 2, .int .i64 (P : Nat), .slice ro k rc]) ∧ LLs w.heap.size (.slice ro k rc) (rl k P1 R) w' ∧ Red FM P (mnl m (r + 1)).length (mrow (mnl m (r + 1)) P) k R ∧ Below w.heap.size w w' := by
  obtain ⟨l, hl⟩ : ∃ l, l = mnl m (r + 1) := ⟨_, rfl⟩
  obtain ⟨K0, hK0⟩ : ∃ K0, K0 = l.length := ⟨_, rfl⟩
  have hlen : K0 ≤ 1000 := by have := mnl_len h (r + 1); rw [hK0, hl]; omega
  have hpos : 0 < K0 := by rw [hK0, hl]; exact mnl_pos h1 h hr
  have hPb : P ≤ 32 := by rw [hP]; exact Nat.pow_le_pow_right (by omega) h
  have hsh : (2 : Int) ^ m = (P : Int) := by rw [hP]; simp
  obtain ⟨w0, hw0⟩ : ∃ w0, w0 = w.alloc (.cells #[.int .i64 0, .int .i64 0, .slice none 0 0] 27) := ⟨_, rfl⟩
  have H0 : Hid (Below w.heap.size w w0 ∧ RB w.heap.size w0 ∧ RBt w.heap.size w0 ∧ w0.heap.size = w.heap.size + 1) := by rw [hw0]; exact ⟨(Below.refl _ _).alloc (Nat.le_refl _) _, RB.new _ _ _ _, RBt.new _ _, by simp⟩
  have HL : Hid (l = mnl m (r + 1) ∧ P = 2 ^ m ∧ P = P1 + 1 ∧ K0 = l.length) := ⟨hl, hP, hP1, hK0⟩
  have HM : Hid (Calls Try.prog 12 #[.int .i64 (r : Nat), .int .i64 (m : Nat)] w0 fun e w' => ∃ v, e = .returned v ∧ OwnI w0.heap.size v (nli l) w' ∧ Below w0.heap.size w0 w') := by rw [hl]; exact rmonos_any r m h1 h hr w0
  rw [← hl, ← hK0]
  have hm5 := h
  clear hl hP hP1 hK0 h
  go_enter Try.func8, Try.ntmps8
  go_wp2_with fail
  rw [← hw0]
  clear hw0
  refine HM.out.mono ?_
  rintro e w1 ⟨vM, rfl, hov, hb1⟩
  obtain ⟨gM, cM, hv, _⟩ := hov.at (fun e => by have := nli_len l; rw [e] at this; simp at this; have := HL.out.2.2.2; omega)
  rw [nli_len, ← HL.out.2.2.2] at hv
  subst hv
  obtain ⟨w2, hw2⟩ : ∃ w2, w2 = w1.alloc (.cells #[.int .i64 2, .int .i64 (P : Nat), .slice none 0 0] 27) := ⟨_, rfl⟩
  obtain ⟨cb, hcb⟩ : ∃ cb, cb = w1.heap.size := ⟨_, rfl⟩
  have H2 : Hid (CB cb 2 P (.slice none 0 0) w2 ∧ RBt cb w2 ∧ RB w.heap.size w2 ∧ RBt w.heap.size w2 ∧ Below w.heap.size w w2 ∧ w.heap.size < cb ∧ w2.heap.size = cb + 1) := by
    have hb2 : Below w1.heap.size w1 w2 := by rw [hw2]; exact (Below.refl _ _).alloc (Nat.le_refl _) _
    have hb := bel_up' hb1 hb2
    have := hb1.size
    have := H0.out.2.2.2
    refine ⟨by rw [hcb, hw2]; exact CB.new _ _ _ _, by rw [hcb, hw2]; exact RBt.new _ _, H0.out.2.1.keep hb, H0.out.2.2.1.keep hb, bel_up' H0.out.1 hb, by omega, by rw [hw2, hcb]; simp⟩
  clear hov hb1 HM H0
  go_wp2
  rw [← hw2, ← hcb]
  clear hw2 hcb
  go_loopw [7] (fun vi wr => ∃ (i : Nat) (v : Value), i ≤ K0 ∧ vi = .int .i64 (i : Nat) ∧ Hid (CB cb 2 P v wr ∧ RBt cb wr ∧ RB w.heap.size wr ∧ RBt w.heap.size wr ∧ LLs w2.heap.size v (rl i P1 (mrow l P)) wr ∧ Below w.heap.size w wr ∧ w2.heap.size ≤ wr.heap.size)) (fun vi _ => K0 - (intOf vi).toNat)
  case atStart => exact ⟨0, _, by omega, rfl, H2.out.1, H2.out.2.1, H2.out.2.2.1, H2.out.2.2.2.1, LLs.nil _ _, H2.out.2.2.2.2.1, Nat.le_refl _⟩
  case round =>
    obtain ⟨i, v, hi, rfl, HG⟩ := hrel
    rename World => wr
    by_cases hlt : i < K0
    · have hib : (i : Int) < (K0 : Int) := by omega
      have hib0 : (0 : Int) ≤ (i : Int) := by omega
      go_wp2_with (at_make; refine make_int rfl _ _ rfl _ K0 rfl rfl rfl (by omega) ?_; intro wm hownm hgrowm; have hrowm := row_zeros hownm; have hcm := hrowm.cell i hlt; have hfm := hrowm.free i)
      obtain ⟨g1, hg1⟩ : ∃ g1, g1 = wr.heap.size := ⟨_, rfl⟩
      rw [← hg1] at hrowm
      try rw [← hg1]
      obtain ⟨wn, hwn⟩ : ∃ wn, wn = wm.setCell ⟨g1, i, none⟩ (.int .i64 1) := ⟨_, rfl⟩
      try rw [← hwn]
      have hbm : Below wr.heap.size wr wm := below_grown hgrowm (Nat.le_refl _) (fun k hk => by cases hk)
      have HN : Hid (Row g1 K0 (fun j => if j = i then 1 else 0) wn ∧ Below wr.heap.size wr wn) := by
        rw [hwn]
        exact ⟨hrowm.store i 1 (fun j _ => rfl), hbm.setCell (by show wr.heap.size ≤ g1; omega) _⟩
      clear hownm hgrowm hrowm hbm hwn hcm hfm
      have hG1 : g1 = wr.heap.size := hg1
      have HG1 : Hid (g1 = wr.heap.size) := hG1
      clear hg1 hG1
      have HW : Hid (∀ q, Calls Try.prog 14 #[.int .i64 (r : Nat), .int .i64 (m : Nat), .slice (some ⟨g1, 0, none⟩) K0 K0] (wn.drewN q) fun e w' => ∃ G, e = .returned (.slice (some ⟨G, 0, none⟩) P P) ∧ Row G P (mrow l P i) w' ∧ Below wn.heap.size wn w') := fun q => by
        have hrow := HN.out.1.drewN q
        have hk : K0 = (mnl m (r + 1)).length := by rw [← HL.out.1]; exact HL.out.2.2.2
        refine (rmw_any r m P h1 hm5 hr HL.out.2.1 hk (fun j _ => by show (if j = i then 1 else 0) < 2; split <;> omega) ⟨(hrow.sl (Nat.le_refl _)).z, fun x hx => (by cases hx; exact hrow.lt), by omega, fun e => (by cases e), Nat.le_refl _, by omega⟩).mono ?_
        rintro e w' ⟨G, rfl, _, hr2, hb⟩
        refine ⟨G, rfl, hr2.congr (fun x hx => ?_), ⟨hb.os, hb.tape, hb.output, hb.size, hb.block⟩⟩
        rw [mwv_unit, ← HL.out.1, if_pos (by have := HL.out.2.2.2; omega)]
        unfold mrow
        rw [if_pos hx]
      have hc2 : wn.cell? ⟨cb, 2, none⟩ = some v := (HG.out.1.keep HN.out.2).c2
      have hS0 : (fun wx : World => wx.cell? ⟨cb, 2, none⟩ = some v) wn.drew := hc2
      have HSk : Hid (∀ wx, Below wn.heap.size wn wx → wx.cell? ⟨cb, 2, none⟩ = some v) := fun wx hb => ((bcell hb).1 _ _ (cell_lt hc2)).trans hc2
      clear hc2
      go_wp2
      refine wp_region_noPanic ?_
      refine wp_region_L (S := fun wx => wx.cell? ⟨cb, 2, none⟩ = some v) [9] (by kernel_rfl) ?_
      refine wpAnyL_take (i := 0) (v := ?_) (by rw [List.getElem?_toArray]; rfl) (by decide +kernel) (by decide +kernel) (by decide +kernel) (by decide +kernel) (by decide +kernel) (fun _ _ _ h => h) hS0 (Or.inl ⟨by rfl, ?_⟩) ?_
      rotate_left
      · intro wz hSz; replace hSz : wz.cell? ⟨cb, 2, none⟩ = some v := hSz; go_simp; first | done | with_reducible rfl
      try simp only [Act.put, List.setIfInBounds_toArray, List.set_cons_zero, List.set_cons_succ]
      refine wpAnyL_take (i := 1) (v := ?_) (by rw [List.getElem?_toArray]; rfl) (by decide +kernel) (by decide +kernel) (by decide +kernel) (by decide +kernel) (by decide +kernel) (fun _ _ _ h => h) hS0 (Or.inl ⟨by rfl, ?_⟩) ?_
      rotate_left
      · intro wz hSz; replace hSz : wz.cell? ⟨cb, 2, none⟩ = some v := hSz; go_simp; first | done | with_reducible rfl
      try simp only [Act.put, List.setIfInBounds_toArray, List.set_cons_zero, List.set_cons_succ]
      refine wpAnyL_take (i := 2) (v := ?_) (by rw [List.getElem?_toArray]; rfl) (by decide +kernel) (by decide +kernel) (by decide +kernel) (by decide +kernel) (by decide +kernel) (fun _ _ _ h => h) hS0 (Or.inl ⟨by rfl, ?_⟩) ?_
      rotate_left
      · intro wz hSz; replace hSz : wz.cell? ⟨cb, 2, none⟩ = some v := hSz; go_simp; first | done | with_reducible rfl
      try simp only [Act.put, List.setIfInBounds_toArray, List.set_cons_zero, List.set_cons_succ]
      refine wpAnyL_take (i := 3) (v := ?_) (by rw [List.getElem?_toArray]; rfl) (by decide +kernel) (by decide +kernel) (by decide +kernel) (by decide +kernel) (by decide +kernel) (fun _ _ _ h => h) hS0 (Or.inl ⟨by rfl, ?_⟩) ?_
      rotate_left
      · intro wz hSz; replace hSz : wz.cell? ⟨cb, 2, none⟩ = some v := hSz; go_simp; first | done | with_reducible rfl
      try simp only [Act.put, List.setIfInBounds_toArray, List.set_cons_zero, List.set_cons_succ]
      refine wpAnyL_take (i := 4) (v := ?_) (by rw [List.getElem?_toArray]; rfl) (by decide +kernel) (by decide +kernel) (by decide +kernel) (by decide +kernel) (by decide +kernel) (fun _ _ _ h => h) hS0 (Or.inl ⟨by rfl, ?_⟩) ?_
      rotate_left
      · intro wz hSz; replace hSz : wz.cell? ⟨cb, 2, none⟩ = some v := hSz; go_simp; first | done | with_reducible rfl
      try simp only [Act.put, List.setIfInBounds_toArray, List.set_cons_zero, List.set_cons_succ]
      refine wpAnyL_one (i := 5) (by kernel_rfl) (by rw [List.getElem?_toArray]; rfl) (fun K hK => ?_)
      have HK : Hid _ := hK
      clear hK
      go_simp
      refine (HW.out 1).mono ?_
      rintro e w3 ⟨G, rfl, hrow3, hb3⟩
      have HE : Hid (Elm (.slice (some ⟨G, 0, none⟩) P P) (P1, mrow l P i) w3 ∧ Below wn.heap.size wn w3) := by
        have eP := HL.out.2.2.1
        refine ⟨⟨G, P, by rw [eP], by show P1 + 1 ≤ P; omega, by omega, ?_⟩, hb3⟩
        show Row G (P1 + 1) (mrow l P i) w3
        rw [← eP]; exact hrow3
      have hbr3 : Below wr.heap.size wr w3 := bel_up' HN.out.2 hb3
      obtain ⟨lst, hl1, hl2⟩ := HG.out.2.2.2.2.1
      have HLs : Hid (OwnV w2.heap.size v lst w3 ∧ Elms lst (rl i P1 (mrow l P)) w3) := ⟨hl1.below hbr3 (Nat.le_refl _), hl2.below hbr3 (Nat.le_refl _)⟩
      have hll : lst.length + 1 ≤ 1000000 := by rw [hl2.1, rl_len]; omega
      have hs2 := HG.out.2.2.2.2.2.2
      have hs3 := hbr3.size
      have hS2 := HSk.out w3 hb3
      clear hrow3 hb3 hl1 hl2 hbr3
      refine HK.out _ _ (fun _ => hS2) ?_
      clear HK K
      refine wpAnyL_one (i := 6) (by kernel_rfl) (by rw [List.getElem?_toArray]; rfl) (fun K hK => ?_)
      have HK : Hid _ := hK
      clear hK
      go_simp
      obtain ⟨w4, hw4⟩ : ∃ w4, w4 = w3.alloc (.cells #[.slice (some ⟨G, 0, none⟩) P P] 22) := ⟨_, rfl⟩
      have G4 : Hid (Below w3.heap.size w3 w4 ∧ w4.cell? ⟨w3.heap.size, 0, none⟩ = some (.slice (some ⟨G, 0, none⟩) P P)) := by
        rw [hw4]; exact ⟨(Below.refl _ _).alloc (Nat.le_refl _) _, by simp⟩
      have hS3 := HSk.out w4 (bel_up' HE.out.2 G4.out.1)
      first | rw [← hw4] | skip
      clear hw4
      refine HK.out _ _ (fun _ => hS3) ?_
      clear HK K
      try simp only [Act.put, List.setIfInBounds_toArray, List.set_cons_zero, List.set_cons_succ]
      refine wpAnyL_one (i := 7) (by kernel_rfl) (by rw [List.getElem?_toArray]; rfl) (fun K hK => ?_)
      have hb24 : Below w.heap.size w w4 := bel_up' (bel_up' (bel_up' HG.out.2.2.2.2.2.1 HN.out.2) HE.out.2) G4.out.1
      refine step_append_sls (by rfl) _ _ (by rfl) w2.heap.size v lst (by rfl) (HLs.out.1.below G4.out.1 (Nat.le_refl _)) (some ⟨w3.heap.size, 0, none⟩) 1 1 (fun _ => .slice (some ⟨G, 0, none⟩) P P) (by rfl) (SlV.one G4.out.2) (fun _ _ => rfl) (fun e => by cases e) hll (by have := G4.out.1.size; omega) w hb24 (by have := H2.out.2.2.2.2.2; omega) ?_
      intro v' w5 hown5 hgrow5 hb5
      have hov4 := HLs.out.1.below G4.out.1 (Nat.le_refl _)
      have hcs := H2.out.2.2.2.2.2
      have hne : some cb ≠ v.ownBlock := fun e => by have := (hov4.lt cb e.symm).1; omega
      have hnw : some w.heap.size ≠ v.ownBlock := fun e => by have := (hov4.lt _ e.symm).1; omega
      have hbr4 : Below wr.heap.size wr w4 := bel_up' (bel_up' HN.out.2 HE.out.2) G4.out.1
      have e5 : w5.heap[cb]? = w4.heap[cb]? := hgrow5.block cb (by have := G4.out.1.size; omega) hne
      have e5w : w5.heap[w.heap.size]? = w4.heap[w.heap.size]? := hgrow5.block _ (by have := G4.out.1.size; omega) hnw
      have H5 : Hid (LLs w2.heap.size v' (rl (i + 1) P1 (mrow l P)) w5 ∧ CB cb 2 P v w5 ∧ RBt cb w5 ∧ RB w.heap.size w5 ∧ RBt w.heap.size w5 ∧ Below w.heap.size w w5 ∧ w2.heap.size ≤ w5.heap.size) := by
        refine ⟨?_, (HG.out.1.keep hbr4).other e5, (HG.out.2.1.keep hbr4).other e5, (HG.out.2.2.1.keep hbr4).other e5w, (HG.out.2.2.2.1.keep hbr4).other e5w, hb24.grown hgrow5 hb24.size (fun k hk => by have := (hov4.lt k hk).1; omega), by have := G4.out.1.size; have := hgrow5.size; omega⟩
        rw [rl_succ]
        exact LLs.push hov4 (HLs.out.2.below G4.out.1 (Nat.le_refl _)) (HE.out.1.below G4.out.1 (Nat.le_refl _)) hown5 hgrow5
      obtain ⟨ao', cap', ev', _⟩ := hown5.open
      have hS5 := H5.out.2.1.c2
      refine hK _ _ (fun _ => hS5) ?_
      clear hK K
      clear hown5 hgrow5 hb5 hov4 hbr4 e5 e5w hb24 hne hnw
      subst ev'
      refine wpAnyL_one (i := 8) (by kernel_rfl) (by rw [List.getElem?_toArray]; rfl) (fun K hK => ?_)
      have HK : Hid _ := hK
      clear hK
      go_simp
      refine HK.out _ _ (fun _ => hS5) ?_
      clear HK K
      try simp only [Act.put, List.setIfInBounds_toArray, List.set_cons_zero, List.set_cons_succ]
      have hf5 := H5.out.2.2.1.free 2
      refine wpAnyL_one (i := 9) (by kernel_rfl) (by rw [List.getElem?_toArray]; rfl) (fun K hK => ?_)
      have HK : Hid _ := hK
      clear hK
      go_simp
      refine HK.out _ _ (fun h => absurd (List.mem_singleton.2 rfl) h) ?_
      clear HK K
      refine wpAnyL_done (by kernel_rfl) (NoPanic.normal ?_)
      have el : ([] : List Nat).length = 0 := rfl
      have H6 : Hid (∀ u, u = Value.slice ao' (lst ++ vl 1 (fun _ => Value.slice (some ⟨G, 0, none⟩) P P)).length cap' → CB cb 2 P u (w5.setCell ⟨cb, 2, none⟩ u) ∧ RBt cb (w5.setCell ⟨cb, 2, none⟩ u) ∧ RB w.heap.size (w5.setCell ⟨cb, 2, none⟩ u) ∧ RBt w.heap.size (w5.setCell ⟨cb, 2, none⟩ u) ∧ LLs w2.heap.size u (rl (i + 1) P1 (mrow l P)) (w5.setCell ⟨cb, 2, none⟩ u) ∧ Below w.heap.size w (w5.setCell ⟨cb, 2, none⟩ u) ∧ w2.heap.size ≤ (w5.setCell ⟨cb, 2, none⟩ u).heap.size) := fun u hu => by
        subst hu
        have hcs := H2.out.2.2.2.2.2
        have ew : (w5.setCell ⟨cb, 2, none⟩ (Value.slice ao' (lst ++ vl 1 (fun _ => Value.slice (some ⟨G, 0, none⟩) P P)).length cap')).heap[w.heap.size]? = w5.heap[w.heap.size]? := Below.heap_setCell _ _ _ _ (by show w.heap.size ≠ cb; omega)
        exact ⟨(H5.out.2.1.put H5.out.2.2.1 _).1, (H5.out.2.1.put H5.out.2.2.1 _).2, H5.out.2.2.2.1.other ew, H5.out.2.2.2.2.1.other ew, H5.out.1.putCode H5.out.2.2.1, H5.out.2.2.2.2.2.1.setCell (by show w.heap.size ≤ cb; omega) _, by simp [World.setCell]; exact H5.out.2.2.2.2.2.2⟩
      clear el hS5 hf5
      go_wp2
      go_roundw
      case rel => exact ⟨i + 1, _, by omega, by go_num, H6.out _ (by simp)⟩
      case measure => simp [intOf]; omega
    · have hib : ¬ (i : Int) < (K0 : Int) := by omega
      have hie : i = K0 := by omega
      have HR : Hid (LLs w2.heap.size v (rl K0 P1 (mrow l P)) wr ∧ RB w.heap.size wr ∧ RBt w.heap.size wr ∧ Below w.heap.size w wr ∧ w.heap.size < w2.heap.size) := by
        have hcs := H2.out.2.2.2.2.2
        rw [← hie]; exact ⟨HG.out.2.2.2.2.1, HG.out.2.2.1, HG.out.2.2.2.1, HG.out.2.2.2.2.2.1, by omega⟩
      obtain ⟨c0, c1, c2⟩ := HG.out.1
      clear hie
      obtain ⟨lo, lc, hv⟩ := HR.out.1.slc
      rw [rl_len] at hv
      subst hv
      have HMd : Hid (Calls Try.prog 31 #[.agg #[.int .i64 2, .int .i64 (P : Nat), .slice lo K0 lc]] wr fun e w' => ∃ k R ro rc, e = .returned (.agg #[.int .i64 2, .int .i64 (P : Nat), .slice ro k rc]) ∧ LLs wr.heap.size (.slice ro k rc) (rl k P1 R) w' ∧ Red FM P K0 (mrow l P) k R ∧ Below wr.heap.size wr w') :=
        made_any FM_in (n1 := P1) (by omega) (by omega) HL.out.2.2.1 (fun i _ => ⟨mrow_el _ _ _, by rw [← HL.out.2.2.1]; exact mrow_bd _ _ _⟩) HR.out.1.matR'.1
      go_wp2_with fail
      refine HMd.out.mono ?_
      rintro e w6 ⟨k, R, ro, rc, rfl, hl6, hr6, hb6⟩
      have H6 : Hid (LLs wr.heap.size (.slice ro k rc) (rl k P1 R) w6 ∧ Red FM P K0 (mrow l P) k R ∧ Below w.heap.size w w6 ∧ RB w.heap.size w6 ∧ RBt w.heap.size w6 ∧ w.heap.size ≤ wr.heap.size) := ⟨hl6, hr6, bel_up' HR.out.2.2.2.1 hb6, HR.out.2.1.keep hb6, HR.out.2.2.1.keep hb6, HR.out.2.2.2.1.size⟩
      clear hl6 hr6 hb6 c0 c1 c2 HMd
      obtain ⟨⟨x0, c0⟩, ⟨x1, c1⟩, ⟨x2, c2⟩, f0, f1, f2⟩ := H6.out.2.2.2.1
      go_wp2
      obtain ⟨w7, hw7⟩ : ∃ w7, w7 = laid w6 w.heap.size 2 P (.slice ro k rc) := ⟨_, rfl⟩
      have H7 : Hid (CB w.heap.size 2 P (.slice ro k rc) w7 ∧ LLs w.heap.size (.slice ro k rc) (rl k P1 R) w7 ∧ Below w.heap.size w w7) := by
        rw [hw7]; exact ⟨laid_cb H6.out.2.2.2.1 _ _ _, (H6.out.1.laid H6.out.2.2.2.2.1 _ _ _).mono H6.out.2.2.2.2.2, laid_below H6.out.2.2.1 (Nat.le_refl _) _ _ _⟩
      unfold laid at hw7
      rw [← hw7]
      clear hw7 c0 c1 c2 f0 f1 f2
      obtain ⟨c0, c1, c2⟩ := H7.out.1
      refine bodyPost_ret (v := .agg #[.int .i64 2, .int .i64 (P : Nat), .slice ro k rc]) (by simp [results, Try.results8, go_sem, c0, c1, c2]) rfl ?_
      exact ⟨_, R, _, _, rfl, H7.out.2.1, H6.out.2.1, H7.out.2.2⟩
end Go.Proofs.Ytmklnjkallhphaa
