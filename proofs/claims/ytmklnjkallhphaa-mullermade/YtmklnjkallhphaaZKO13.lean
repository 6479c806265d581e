/- Texts of ours, one behind the other: KO13 KO14. -/
import Derived.Test.YtmklnjkallhphaaZKO11
import Derived.Test.YtmklnjkallhphaaZKA6
import Derived.Test.YtmklnjkallhphaaZI10
import Derived.Test.YtmklnjkallhphaaZKD6
import Derived.Test.YtmklnjkallhphaaZR9
import Derived.Test.YtmklnjkallhphaaZX18
/- Muller: the reference's code (printed by make/ko13.py). -/
namespace Go.Proofs.Ytmklnjkallhphaa
open Go.RowKit Go.Sort

set_option maxHeartbeats 16000000 in
set_option maxRecDepth 100000 in
theorem rMCode_any (r m P P1 : Nat) (h1 : 1 ≤ m) (h : m ≤ 5) (hr : r ≤ m) (hP : P = 2 ^ m) (hP1 : P = P1 + 1) (w : World) :
    Calls Try.prog 8 #[.int .i64 (r : Nat), .int .i64 (m : Nat)] w fun e w' => ∃ k R ro rc, e = .returned (.agg #[.int .i64 2, .int .i64 (P : Nat), .slice ro k rc]) ∧ LLs w.heap.size (.slice ro k rc) (rl k P1 R) w' ∧ Red FM P (mnl m (r + 1)).length (mrow (mnl m (r + 1)) P) k R ∧ Below w.heap.size w w' := by
  obtain ⟨l, hl⟩ : ∃ l, l = mnl m (r + 1) := ⟨_, rfl⟩
  obtain ⟨K0, hK0⟩ : ∃ K0, K0 = l.length := ⟨_, rfl⟩
  have hlen : K0 ≤ 1000 := by have := mnl_len h (r + 1); rw [hK0, hl]; omega
  have hpos : 0 < K0 := by rw [hK0, hl]; exact mnl_pos h1 h hr
  have hPb : P ≤ 32 := by rw [hP]; exact Nat.pow_le_pow_right (by omega) h
  have hsh : (2 : Int) ^ m = (P : Int) := by rw [hP]; simp
  obtain ⟨w0, hw0⟩ : ∃ w0, w0 = w.alloc (.cells #[.int .i64 0, .int .i64 0, .slice none 0 0] 27) := ⟨_, rfl⟩
  have H0 : Hid (Below w.heap.size w w0 ∧ RB w.heap.size w0 ∧ RBt w.heap.size w0 ∧ w0.heap.size = w.heap.size + 1) := by rw [hw0]; exact ⟨(Below.refl _ _).alloc (Nat.le_refl _) _, RB.new _ _ _ _, RBt.new _ _, by simp⟩
  have HL : Hid (l = mnl m (r + 1) ∧ P = 2 ^ m ∧ P = P1 + 1 ∧ K0 = l.length) := ⟨hl, hP, hP1, hK0⟩
  have HM : Hid (Calls Try.prog 12 #[.int .i64 (r : Nat), .int .i64 (m : Nat)] w0 fun e w' => ∃ v, e = .returned v ∧ OwnI w0.heap.size v (nli l) w' ∧ Below w0.heap.size w0 w') := by rw [hl]; exact rmonos_any r m h1 h hr w0
  rw [← hl, ← hK0]
  have hm5 := h
  clear hl hP hP1 hK0 h
  go_enter Try.func8, Try.ntmps8
  go_wp2_with fail
  rw [← hw0]
  clear hw0
  refine HM.out.mono ?_
  rintro e w1 ⟨vM, rfl, hov, hb1⟩
  obtain ⟨gM, cM, hv, _⟩ := hov.at (fun e => by have := nli_len l; rw [e] at this; simp at this; have := HL.out.2.2.2; omega)
  rw [nli_len, ← HL.out.2.2.2] at hv
  subst hv
  obtain ⟨w2, hw2⟩ : ∃ w2, w2 = w1.alloc (.cells #[.int .i64 2, .int .i64 (P : Nat), .slice none 0 0] 27) := ⟨_, rfl⟩
  obtain ⟨cb, hcb⟩ : ∃ cb, cb = w1.heap.size := ⟨_, rfl⟩
  have H2 : Hid (CB cb 2 P (.slice none 0 0) w2 ∧ RBt cb w2 ∧ RB w.heap.size w2 ∧ RBt w.heap.size w2 ∧ Below w.heap.size w w2 ∧ w.heap.size < cb ∧ w2.heap.size = cb + 1) := by
    have hb2 : Below w1.heap.size w1 w2 := by rw [hw2]; exact (Below.refl _ _).alloc (Nat.le_refl _) _
    have hb := bel_up' hb1 hb2
    have := hb1.size
    have := H0.out.2.2.2
    refine ⟨by rw [hcb, hw2]; exact CB.new _ _ _ _, by rw [hcb, hw2]; exact RBt.new _ _, H0.out.2.1.keep hb, H0.out.2.2.1.keep hb, bel_up' H0.out.1 hb, by omega, by rw [hw2, hcb]; simp⟩
  clear hov hb1 HM H0
  go_wp2
  rw [← hw2, ← hcb]
  clear hw2 hcb
  go_loopw [7] (fun vi wr => ∃ (i : Nat) (v : Value), i ≤ K0 ∧ vi = .int .i64 (i : Nat) ∧ Hid (CB cb 2 P v wr ∧ RBt cb wr ∧ RB w.heap.size wr ∧ RBt w.heap.size wr ∧ LLs w2.heap.size v (rl i P1 (mrow l P)) wr ∧ Below w.heap.size w wr ∧ w2.heap.size ≤ wr.heap.size)) (fun vi _ => K0 - (intOf vi).toNat)
  case atStart => exact ⟨0, _, by omega, rfl, H2.out.1, H2.out.2.1, H2.out.2.2.1, H2.out.2.2.2.1, LLs.nil _ _, H2.out.2.2.2.2.1, Nat.le_refl _⟩
  case round =>
    obtain ⟨i, v, hi, rfl, HG⟩ := hrel
    rename World => wr
    by_cases hlt : i < K0
    · have hib : (i : Int) < (K0 : Int) := by omega
      have hib0 : (0 : Int) ≤ (i : Int) := by omega
      go_wp2_with (at_make; refine make_int rfl _ _ rfl _ K0 rfl rfl rfl (by omega) ?_; intro wm hownm hgrowm; have hrowm := row_zeros hownm; have hcm := hrowm.cell i hlt; have hfm := hrowm.free i)
      obtain ⟨g1, hg1⟩ : ∃ g1, g1 = wr.heap.size := ⟨_, rfl⟩
      rw [← hg1] at hrowm
      try rw [← hg1]
      obtain ⟨wn, hwn⟩ : ∃ wn, wn = wm.setCell ⟨g1, i, none⟩ (.int .i64 1) := ⟨_, rfl⟩
      try rw [← hwn]
      have hbm : Below wr.heap.size wr wm := below_grown hgrowm (Nat.le_refl _) (fun k hk => by cases hk)
      have HN : Hid (Row g1 K0 (fun j => if j = i then 1 else 0) wn ∧ Below wr.heap.size wr wn) := by
        rw [hwn]
        exact ⟨hrowm.store i 1 (fun j _ => rfl), hbm.setCell (by show wr.heap.size ≤ g1; omega) _⟩
      clear hownm hgrowm hrowm hbm hwn hcm hfm
      have hG1 : g1 = wr.heap.size := hg1
      have HG1 : Hid (g1 = wr.heap.size) := hG1
      clear hg1 hG1
      have HW : Hid (∀ q, Calls Try.prog 14 #[.int .i64 (r : Nat), .int .i64 (m : Nat), .slice (some ⟨g1, 0, none⟩) K0 K0] (wn.drewN q) fun e w' => ∃ G, e = .returned (.slice (some ⟨G, 0, none⟩) P P) ∧ Row G P (mrow l P i) w' ∧ Below wn.heap.size wn w') := fun q => by
        have hrow := HN.out.1.drewN q
        have hk : K0 = (mnl m (r + 1)).length := by rw [← HL.out.1]; exact HL.out.2.2.2
        refine (rmw_any r m P h1 hm5 hr HL.out.2.1 hk (fun j _ => by show (if j = i then 1 else 0) < 2; split <;> omega) ⟨(hrow.sl (Nat.le_refl _)).z, fun x hx => (by cases hx; exact hrow.lt), by omega, fun e => (by cases e), Nat.le_refl _, by omega⟩).mono ?_
        rintro e w' ⟨G, rfl, _, hr2, hb⟩
        refine ⟨G, rfl, hr2.congr (fun x hx => ?_), ⟨hb.os, hb.tape, hb.output, hb.size, hb.block⟩⟩
        rw [mwv_unit, ← HL.out.1, if_pos (by have := HL.out.2.2.2; omega)]
        unfold mrow
        rw [if_pos hx]
      have hc2 : wn.cell? ⟨cb, 2, none⟩ = some v := (HG.out.1.keep HN.out.2).c2
      have hS0 : (fun wx : World => wx.cell? ⟨cb, 2, none⟩ = some v) wn.drew := hc2
      have HSk : Hid (∀ wx, Below wn.heap.size wn wx → wx.cell? ⟨cb, 2, none⟩ = some v) := fun wx hb => ((bcell hb).1 _ _ (cell_lt hc2)).trans hc2
      clear hc2
      go_wp2
      refine wp_region_noPanic ?_
      refine wp_region_L (S := fun wx => wx.cell? ⟨cb, 2, none⟩ = some v) [9] (by kernel_rfl) ?_
      refine wpAnyL_take (i := 0) (v := ?_) (by rw [List.getElem?_toArray]; rfl) (by decide +kernel) (by decide +kernel) (by decide +kernel) (by decide +kernel) (by decide +kernel) (fun _ _ _ h => h) hS0 (Or.inl ⟨by rfl, ?_⟩) ?_
      rotate_left
      · intro wz hSz; replace hSz : wz.cell? ⟨cb, 2, none⟩ = some v := hSz; go_simp; first | done | with_reducible rfl
      try simp only [Act.put, List.setIfInBounds_toArray, List.set_cons_zero, List.set_cons_succ]
      refine wpAnyL_take (i := 1) (v := ?_) (by rw [List.getElem?_toArray]; rfl) (by decide +kernel) (by decide +kernel) (by decide +kernel) (by decide +kernel) (by decide +kernel) (fun _ _ _ h => h) hS0 (Or.inl ⟨by rfl, ?_⟩) ?_
      rotate_left
      · intro wz hSz; replace hSz : wz.cell? ⟨cb, 2, none⟩ = some v := hSz; go_simp; first | done | with_reducible rfl
      try simp only [Act.put, List.setIfInBounds_toArray, List.set_cons_zero, List.set_cons_succ]
      refine wpAnyL_take (i := 2) (v := ?_) (by rw [List.getElem?_toArray]; rfl) (by decide +kernel) (by decide +kernel) (by decide +kernel) (by decide +kernel) (by decide +kernel) (fun _ _ _ h => h) hS0 (Or.inl ⟨by rfl, ?_⟩) ?_
      rotate_left
      · intro wz hSz; replace hSz : wz.cell? ⟨cb, 2, none⟩ = some v := hSz; go_simp; first | done | with_reducible rfl
      try simp only [Act.put, List.setIfInBounds_toArray, List.set_cons_zero, List.set_cons_succ]
      refine wpAnyL_take (i := 3) (v := ?_) (by rw [List.getElem?_toArray]; rfl) (by decide +kernel) (by decide +kernel) (by decide +kernel) (by decide +kernel) (by decide +kernel) (fun _ _ _ h => h) hS0 (Or.inl ⟨by rfl, ?_⟩) ?_
      rotate_left
      · intro wz hSz; replace hSz : wz.cell? ⟨cb, 2, none⟩ = some v := hSz; go_simp; first | done | with_reducible rfl
      try simp only [Act.put, List.setIfInBounds_toArray, List.set_cons_zero, List.set_cons_succ]
      refine wpAnyL_take (i := 4) (v := ?_) (by rw [List.getElem?_toArray]; rfl) (by decide +kernel) (by decide +kernel) (by decide +kernel) (by decide +kernel) (by decide +kernel) (fun _ _ _ h => h) hS0 (Or.inl ⟨by rfl, ?_⟩) ?_
      rotate_left
      · intro wz hSz; replace hSz : wz.cell? ⟨cb, 2, none⟩ = some v := hSz; go_simp; first | done | with_reducible rfl
      try simp only [Act.put, List.setIfInBounds_toArray, List.set_cons_zero, List.set_cons_succ]
      refine wpAnyL_one (i := 5) (by kernel_rfl) (by rw [List.getElem?_toArray]; rfl) (fun K hK => ?_)
      have HK : Hid _ := hK
      clear hK
      go_simp
      refine (HW.out 1).mono ?_
      rintro e w3 ⟨G, rfl, hrow3, hb3⟩
      have HE : Hid (Elm (.slice (some ⟨G, 0, none⟩) P P) (P1, mrow l P i) w3 ∧ Below wn.heap.size wn w3) := by
        have eP := HL.out.2.2.1
        refine ⟨⟨G, P, by rw [eP], by show P1 + 1 ≤ P; omega, by omega, ?_⟩, hb3⟩
        show Row G (P1 + 1) (mrow l P i) w3
        rw [← eP]; exact hrow3
      have hbr3 : Below wr.heap.size wr w3 := bel_up' HN.out.2 hb3
      obtain ⟨lst, hl1, hl2⟩ := HG.out.2.2.2.2.1
      have HLs : Hid (OwnV w2.heap.size v lst w3 ∧ Elms lst (rl i P1 (mrow l P)) w3) := ⟨hl1.below hbr3 (Nat.le_refl _), hl2.below hbr3 (Nat.le_refl _)⟩
      have hll : lst.length + 1 ≤ 1000000 := by rw [hl2.1, rl_len]; omega
      have hs2 := HG.out.2.2.2.2.2.2
      have hs3 := hbr3.size
      have hS2 := HSk.out w3 hb3
      clear hrow3 hb3 hl1 hl2 hbr3
      refine HK.out _ _ (fun _ => hS2) ?_
      clear HK K
      refine wpAnyL_one (i := 6) (by kernel_rfl) (by rw [List.getElem?_toArray]; rfl) (fun K hK => ?_)
      have HK : Hid _ := hK
      clear hK
      go_simp
      obtain ⟨w4, hw4⟩ : ∃ w4, w4 = w3.alloc (.cells #[.slice (some ⟨G, 0, none⟩) P P] 22) := ⟨_, rfl⟩
      have G4 : Hid (Below w3.heap.size w3 w4 ∧ w4.cell? ⟨w3.heap.size, 0, none⟩ = some (.slice (some ⟨G, 0, none⟩) P P)) := by
        rw [hw4]; exact ⟨(Below.refl _ _).alloc (Nat.le_refl _) _, by simp⟩
      have hS3 := HSk.out w4 (bel_up' HE.out.2 G4.out.1)
      first | rw [← hw4] | skip
      clear hw4
      refine HK.out _ _ (fun _ => hS3) ?_
      clear HK K
      try simp only [Act.put, List.setIfInBounds_toArray, List.set_cons_zero, List.set_cons_succ]
      refine wpAnyL_one (i := 7) (by kernel_rfl) (by rw [List.getElem?_toArray]; rfl) (fun K hK => ?_)
      have hb24 : Below w.heap.size w w4 := bel_up' (bel_up' (bel_up' HG.out.2.2.2.2.2.1 HN.out.2) HE.out.2) G4.out.1
      refine step_append_sls (by rfl) _ _ (by rfl) w2.heap.size v lst (by rfl) (HLs.out.1.below G4.out.1 (Nat.le_refl _)) (some ⟨w3.heap.size, 0, none⟩) 1 1 (fun _ => .slice (some ⟨G, 0, none⟩) P P) (by rfl) (SlV.one G4.out.2) (fun _ _ => rfl) (fun e => by cases e) hll (by have := G4.out.1.size; omega) w hb24 (by have := H2.out.2.2.2.2.2; omega) ?_
      intro v' w5 hown5 hgrow5 hb5
      have hov4 := HLs.out.1.below G4.out.1 (Nat.le_refl _)
      have hcs := H2.out.2.2.2.2.2
      have hne : some cb ≠ v.ownBlock := fun e => by have := (hov4.lt cb e.symm).1; omega
      have hnw : some w.heap.size ≠ v.ownBlock := fun e => by have := (hov4.lt _ e.symm).1; omega
      have hbr4 : Below wr.heap.size wr w4 := bel_up' (bel_up' HN.out.2 HE.out.2) G4.out.1
      have e5 : w5.heap[cb]? = w4.heap[cb]? := hgrow5.block cb (by have := G4.out.1.size; omega) hne
      have e5w : w5.heap[w.heap.size]? = w4.heap[w.heap.size]? := hgrow5.block _ (by have := G4.out.1.size; omega) hnw
      have H5 : Hid (LLs w2.heap.size v' (rl (i + 1) P1 (mrow l P)) w5 ∧ CB cb 2 P v w5 ∧ RBt cb w5 ∧ RB w.heap.size w5 ∧ RBt w.heap.size w5 ∧ Below w.heap.size w w5 ∧ w2.heap.size ≤ w5.heap.size) := by
        refine ⟨?_, (HG.out.1.keep hbr4).other e5, (HG.out.2.1.keep hbr4).other e5, (HG.out.2.2.1.keep hbr4).other e5w, (HG.out.2.2.2.1.keep hbr4).other e5w, hb24.grown hgrow5 hb24.size (fun k hk => by have := (hov4.lt k hk).1; omega), by have := G4.out.1.size; have := hgrow5.size; omega⟩
        rw [rl_succ]
        exact LLs.push hov4 (HLs.out.2.below G4.out.1 (Nat.le_refl _)) (HE.out.1.below G4.out.1 (Nat.le_refl _)) hown5 hgrow5
      obtain ⟨ao', cap', ev', _⟩ := hown5.open
      have hS5 := H5.out.2.1.c2
      refine hK _ _ (fun _ => hS5) ?_
      clear hK K
      clear hown5 hgrow5 hb5 hov4 hbr4 e5 e5w hb24 hne hnw
      subst ev'
      refine wpAnyL_one (i := 8) (by kernel_rfl) (by rw [List.getElem?_toArray]; rfl) (fun K hK => ?_)
      have HK : Hid _ := hK
      clear hK
      go_simp
      refine HK.out _ _ (fun _ => hS5) ?_
      clear HK K
      try simp only [Act.put, List.setIfInBounds_toArray, List.set_cons_zero, List.set_cons_succ]
      have hf5 := H5.out.2.2.1.free 2
      refine wpAnyL_one (i := 9) (by kernel_rfl) (by rw [List.getElem?_toArray]; rfl) (fun K hK => ?_)
      have HK : Hid _ := hK
      clear hK
      go_simp
      refine HK.out _ _ (fun h => absurd (List.mem_singleton.2 rfl) h) ?_
      clear HK K
      refine wpAnyL_done (by kernel_rfl) (NoPanic.normal ?_)
      have el : ([] : List Nat).length = 0 := rfl
      have H6 : Hid (∀ u, u = Value.slice ao' (lst ++ vl 1 (fun _ => Value.slice (some ⟨G, 0, none⟩) P P)).length cap' → CB cb 2 P u (w5.setCell ⟨cb, 2, none⟩ u) ∧ RBt cb (w5.setCell ⟨cb, 2, none⟩ u) ∧ RB w.heap.size (w5.setCell ⟨cb, 2, none⟩ u) ∧ RBt w.heap.size (w5.setCell ⟨cb, 2, none⟩ u) ∧ LLs w2.heap.size u (rl (i + 1) P1 (mrow l P)) (w5.setCell ⟨cb, 2, none⟩ u) ∧ Below w.heap.size w (w5.setCell ⟨cb, 2, none⟩ u) ∧ w2.heap.size ≤ (w5.setCell ⟨cb, 2, none⟩ u).heap.size) := fun u hu => by
        subst hu
        have hcs := H2.out.2.2.2.2.2
        have ew : (w5.setCell ⟨cb, 2, none⟩ (Value.slice ao' (lst ++ vl 1 (fun _ => Value.slice (some ⟨G, 0, none⟩) P P)).length cap')).heap[w.heap.size]? = w5.heap[w.heap.size]? := Below.heap_setCell _ _ _ _ (by show w.heap.size ≠ cb; omega)
        exact ⟨(H5.out.2.1.put H5.out.2.2.1 _).1, (H5.out.2.1.put H5.out.2.2.1 _).2, H5.out.2.2.2.1.other ew, H5.out.2.2.2.2.1.other ew, H5.out.1.putCode H5.out.2.2.1, H5.out.2.2.2.2.2.1.setCell (by show w.heap.size ≤ cb; omega) _, by simp [World.setCell]; exact H5.out.2.2.2.2.2.2⟩
      clear el hS5 hf5
      go_wp2
      go_roundw
      case rel => exact ⟨i + 1, _, by omega, by go_num, H6.out _ (by simp)⟩
      case measure => simp [intOf]; omega
    · have hib : ¬ (i : Int) < (K0 : Int) := by omega
      have hie : i = K0 := by omega
      have HR : Hid (LLs w2.heap.size v (rl K0 P1 (mrow l P)) wr ∧ RB w.heap.size wr ∧ RBt w.heap.size wr ∧ Below w.heap.size w wr ∧ w.heap.size < w2.heap.size) := by
        have hcs := H2.out.2.2.2.2.2
        rw [← hie]; exact ⟨HG.out.2.2.2.2.1, HG.out.2.2.1, HG.out.2.2.2.1, HG.out.2.2.2.2.2.1, by omega⟩
      obtain ⟨c0, c1, c2⟩ := HG.out.1
      clear hie
      obtain ⟨lo, lc, hv⟩ := HR.out.1.slc
      rw [rl_len] at hv
      subst hv
      have HMd : Hid (Calls Try.prog 31 #[.agg #[.int .i64 2, .int .i64 (P : Nat), .slice lo K0 lc]] wr fun e w' => ∃ k R ro rc, e = .returned (.agg #[.int .i64 2, .int .i64 (P : Nat), .slice ro k rc]) ∧ LLs wr.heap.size (.slice ro k rc) (rl k P1 R) w' ∧ Red FM P K0 (mrow l P) k R ∧ Below wr.heap.size wr w') :=
        made_any FM_in (n1 := P1) (by omega) (by omega) HL.out.2.2.1 (fun i _ => ⟨mrow_el _ _ _, by rw [← HL.out.2.2.1]; exact mrow_bd _ _ _⟩) HR.out.1.matR'.1
      go_wp2_with fail
      refine HMd.out.mono ?_
      rintro e w6 ⟨k, R, ro, rc, rfl, hl6, hr6, hb6⟩
      have H6 : Hid (LLs wr.heap.size (.slice ro k rc) (rl k P1 R) w6 ∧ Red FM P K0 (mrow l P) k R ∧ Below w.heap.size w w6 ∧ RB w.heap.size w6 ∧ RBt w.heap.size w6 ∧ w.heap.size ≤ wr.heap.size) := ⟨hl6, hr6, bel_up' HR.out.2.2.2.1 hb6, HR.out.2.1.keep hb6, HR.out.2.2.1.keep hb6, HR.out.2.2.2.1.size⟩
      clear hl6 hr6 hb6 c0 c1 c2 HMd
      obtain ⟨⟨x0, c0⟩, ⟨x1, c1⟩, ⟨x2, c2⟩, f0, f1, f2⟩ := H6.out.2.2.2.1
      go_wp2
      obtain ⟨w7, hw7⟩ : ∃ w7, w7 = laid w6 w.heap.size 2 P (.slice ro k rc) := ⟨_, rfl⟩
      have H7 : Hid (CB w.heap.size 2 P (.slice ro k rc) w7 ∧ LLs w.heap.size (.slice ro k rc) (rl k P1 R) w7 ∧ Below w.heap.size w w7) := by
        rw [hw7]; exact ⟨laid_cb H6.out.2.2.2.1 _ _ _, (H6.out.1.laid H6.out.2.2.2.2.1 _ _ _).mono H6.out.2.2.2.2.2, laid_below H6.out.2.2.1 (Nat.le_refl _) _ _ _⟩
      unfold laid at hw7
      rw [← hw7]
      clear hw7 c0 c1 c2 f0 f1 f2
      obtain ⟨c0, c1, c2⟩ := H7.out.1
      refine bodyPost_ret (v := .agg #[.int .i64 2, .int .i64 (P : Nat), .slice ro k rc]) (by simp [results, Try.results8, go_sem, c0, c1, c2]) rfl ?_
      exact ⟨_, R, _, _, rfl, H7.out.2.1, H6.out.2.1, H7.out.2.2⟩
end Go.Proofs.Ytmklnjkallhphaa

/- MullerSays: its walk. -/
namespace Go.Proofs.Ytmklnjkallhphaa
open Go.RowKit Go.Sort

set_option maxHeartbeats 1000000 in
set_option maxRecDepth 100000 in
theorem mullerSays_long (r m : Int) {ao : Option Addr} {n ca : Nat} (w : World) (hn : ¬ n ≤ 100) (hn2 : n ≤ 17592186044416) :
    Calls Try.prog 3 #[.int .i64 r, .int .i64 m, .slice ao n ca] w fun e w' => e = .returned (.bool true) ∧ Below w.heap.size w w' := by
  have h1 : (100 : Int) < (n : Int) := by omega
  go_enter Try.func3, Try.ntmps3
  go_wp2
  go_ret
  exact ⟨rfl, Below.refl _ _⟩

set_option maxHeartbeats 16000000 in
set_option maxRecDepth 100000 in
theorem mullerSays_ok (r m : Nat) (h1 : 1 ≤ m) (h : m ≤ 5) (hr : r ≤ m) {ao : Option Addr} {n ca : Nat} {z : Nat → Int} {w : World} (ha : Arg ao n ca z w) (hn : n ≤ 100) :
    Calls Try.prog 3 #[.int .i64 (r : Nat), .int .i64 (m : Nat), .slice ao n ca] w fun e w' => e = .returned (.bool true) ∧ Below w.heap.size w w' := by
  obtain ⟨P, hP⟩ : ∃ P, P = 2 ^ m := ⟨_, rfl⟩
  have hPb : P ≤ 32 := by rw [hP]; exact Nat.pow_le_pow_right (by omega) h
  have hPp : 0 < P := by rw [hP]; exact Nat.pow_pos (by omega)
  obtain ⟨P1, hP1⟩ : ∃ P1, P = P1 + 1 := ⟨P - 1, by omega⟩
  obtain ⟨l, hl⟩ : ∃ l, l = mnl m (r + 1) := ⟨_, rfl⟩
  obtain ⟨K0, hK0⟩ : ∃ K0, K0 = l.length := ⟨_, rfl⟩
  have hlen : K0 ≤ 1000 := by have := mnl_len h (r + 1); rw [hK0, hl]; omega
  have hpos : 0 < K0 := by rw [hK0, hl]; exact mnl_pos h1 h hr
  have hnb : ¬ (100 : Int) < (n : Int) := by omega
  have HMy : Hid (∀ w : World, Calls Try.prog 7 #[.int .i64 (r : Nat), .int .i64 (m : Nat)] w fun e w' => e = .returned (.int .i64 0) ∧ w' = w) := fun w => by have := mullerMay_any (r : Int) (m : Int) w; rw [mck_fine h1 h hr] at this; exact this
  have HCk : Hid (∀ w : World, Calls Try.prog 10 #[.int .i64 (r : Nat), .int .i64 (m : Nat)] w fun e w' => e = .returned (.int .i64 0) ∧ w' = w) := fun w => by have := mullCheck_any (r : Int) (m : Int) w; rw [mck_fine h1 h hr] at this; exact this
  have HMc : Hid (∀ w : World, Calls Try.prog 8 #[.int .i64 (r : Nat), .int .i64 (m : Nat)] w fun e w' => ∃ k R ro rc, e = .returned (.agg #[.int .i64 2, .int .i64 (P : Nat), .slice ro k rc]) ∧ LLs w.heap.size (.slice ro k rc) (rl k P1 R) w' ∧ Red FM P (mnl m (r + 1)).length (mrow (mnl m (r + 1)) P) k R ∧ Below w.heap.size w w') := fun w => rMCode_any r m P P1 h1 h hr hP hP1 w
  have HCd : Hid (∀ w : World, Calls Try.prog 9 #[.int .i64 (r : Nat), .int .i64 (m : Nat)] w (McP r m P w)) := fun w => mCode_any r m P h1 h hr hP w
  have HMo : Hid (∀ w : World, Calls Try.prog 12 #[.int .i64 (r : Nat), .int .i64 (m : Nat)] w fun e w' => ∃ g c, e = .returned (.slice (some ⟨g, 0, none⟩) K0 c) ∧ Below w.heap.size w w') := fun w => by
    refine (rmonos_any r m h1 h hr w).mono ?_
    rintro e w' ⟨v, rfl, hov, hb⟩
    rw [← hl] at hov
    obtain ⟨g, c, hv, _⟩ := hov.at (fun e => by have := nli_len l; rw [e] at this; simp at this; omega)
    rw [nli_len, ← hK0] at hv
    exact ⟨g, c, by rw [hv], hb⟩
  have HEn : Hid (∀ wx, Below w.heap.size w wx → Calls Try.prog 15 #[.int .i64 (r : Nat), .int .i64 (m : Nat), .slice ao n ca] wx (EnP r m P n z wx)) := fun wx hx => mEncode_any r m P h1 h hr hP (ha.below hx).sl (by omega)
  have HBt : Hid (∀ wx, Below w.heap.size w wx → Calls Try.prog 13 #[.slice ao n ca, .bool false] wx fun e w' => e = .returned (.bool (allP isbt z n)) ∧ w' = wx) := fun wx hx => rbits_any false (ha.below hx).sl (by omega)
  have HWd : Hid (n = K0 → allP isbt z n = true → ∀ wx, Below w.heap.size w wx → Calls Try.prog 14 #[.int .i64 (r : Nat), .int .i64 (m : Nat), .slice ao n ca] wx fun e w' => ∃ G, e = .returned (.slice (some ⟨G, 0, none⟩) P P) ∧ Row G P (fun x => mwv l (fun j => (z j).toNat) x l.length) w' ∧ Below wx.heap.size wx w') := fun e hb wx hx => by
    have hz : ∀ j, j < n → z j = (((z j).toNat : Nat) : Int) ∧ (z j).toNat < 2 := fun j hj => by
      have := of_decide_eq_true (allP_iff n hb j hj)
      omega
    have hA := ha.below hx
    refine (rmw_any r m P h1 h hr hP (g := fun j => (z j).toNat) (by rw [← hl]; omega) (fun i hi => (hz i hi).2) ⟨fun j hj => ?_, hA.lt, hA.few, hA.nil, hA.le, hA.cap⟩).mono ?_
    · obtain ⟨b, off, e1, e2⟩ := hA.sl j hj
      exact ⟨b, off, e1, by rw [e2, ← (hz j hj).1]⟩
    · rintro e w' ⟨G, rfl, _, hrow, hb2⟩
      rw [← hl] at hrow
      exact ⟨G, rfl, hrow, hb2⟩
  have HSm : Hid (∀ {a b : Option Addr} {k k' ca cb : Nat} {R R' : Nat → Nat → Nat} {B B' : Nat} {wx : World}, MV B (.slice a k ca) k P R wx → LLs B' (.slice b k' cb) (rl k' P1 R') wx → Red FM P (mnl m (r + 1)).length (mrow (mnl m (r + 1)) P) k R → Red FM P (mnl m (r + 1)).length (mrow (mnl m (r + 1)) P) k' R' → Calls Try.prog 11 #[.agg #[.int .i64 2, .int .i64 (P : Nat), .slice a k ca], .int .i64 0, .agg #[.int .i64 2, .int .i64 (P : Nat), .slice b k' cb], .int .i64 0] wx fun e w' => e = .returned (.bool true) ∧ Below wx.heap.size wx w') := fun {a b k k' ca cb R R' B B' wx} hm hL h1 h2 => by
    obtain ⟨e, hR⟩ := Red.uniq (fld FM_in) h1 h2 (fun _ => Iff.rfl)
    subst e
    have hk := h1.le
    have h2' := hL.rl
    rw [← hP1] at h2'
    exact lsame_ok 2 P hm.rl (h2'.congr (fun i hi => (hR i hi).symm)) (by omega) (by omega)
  have hE0 : bchk isbt n z (K0 : Nat) = if n = K0 then (if allP isbt z n = true then 0 else 2) else 6 := by
    unfold bchk
    by_cases e : n = K0
    · rw [if_neg (by omega), if_pos e]
    · rw [if_pos (by omega), if_neg e]
  have HL : Hid (l = mnl m (r + 1) ∧ K0 = l.length ∧ bchk isbt n z (K0 : Nat) = if n = K0 then (if allP isbt z n = true then 0 else 2) else 6) := ⟨hl, hK0, hE0⟩
  clear hl hK0 hP hP1 hE0 ha
  obtain ⟨w1, hw1⟩ : ∃ w1, w1 = w.alloc (.cells #[.int .i64 0, .int .i64 0, .slice none 0 0] 27) := ⟨_, rfl⟩
  obtain ⟨hb1, hcb1, hs1⟩ := box_at 0 0 (.slice none 0 0) w
  rw [← hw1] at hb1 hcb1 hs1
  have hrb1 : RB w.heap.size w1 ∧ RBt w.heap.size w1 := by rw [hw1]; exact ⟨RB.new _ _ _ _, RBt.new _ _⟩
  have H1 : Hid (Below w.heap.size w w1 ∧ (RB w.heap.size w1 ∧ RBt w.heap.size w1) ∧ w1.heap.size = w.heap.size + 1) := ⟨hb1, hrb1, hs1⟩
  clear hb1 hcb1 hs1 hrb1
  go_enter Try.func3, Try.ntmps3
  go_wp2_with fail
  refine (HMy.out w).mono ?_
  rintro e w' ⟨rfl, hw⟩
  have hw := hw.symm
  subst hw
  go_wp2_with fail
  rw [← hw1]
  clear hw1
  refine (HMc.out w1).mono ?_
  rintro e w2 ⟨k, R, ro, rc, rfl, hll, hred, hb2⟩
  have hrb2 := H1.out.2.1.1.keep hb2
  have hrt2 := H1.out.2.1.2.keep hb2
  obtain ⟨w3, hw3⟩ : ∃ w3, w3 = laid w2 w.heap.size 2 P (.slice ro k rc) := ⟨_, rfl⟩
  have H3 : Hid (CB w.heap.size 2 P (.slice ro k rc) w3 ∧ LLs w.heap.size (.slice ro k rc) (rl k P1 R) w3 ∧ Red FM P (mnl m (r + 1)).length (mrow (mnl m (r + 1)) P) k R ∧ Below w.heap.size w w3) := by
    rw [hw3]
    exact ⟨laid_cb hrb2 _ _ _, (hll.laid hrt2 _ _ _).mono (by have := H1.out.2.2; omega), hred, laid_below (bel_up' H1.out.1 hb2) (Nat.le_refl _) _ _ _⟩
  obtain ⟨⟨x0, c0⟩, ⟨x1, c1⟩, ⟨x2, c2⟩, f0, f1, f2⟩ := hrb2
  clear hll hred hb2 hrt2
  unfold laid at hw3
  go_wp2_with fail
  rw [← hw3]
  clear hw3 c0 c1 c2 f0 f1 f2
  refine (HCd.out w3).mono ?_
  rintro e w4 ⟨k', R', ro', rc', rfl, hmv, hred', hb4⟩
  obtain ⟨w5, hw5⟩ : ∃ w5, w5 = w4.alloc (.cells #[.int .i64 2, .int .i64 (P : Nat), .slice ro' k' rc'] 27) := ⟨_, rfl⟩
  obtain ⟨hb5, hcb5, hs5⟩ := box_at 2 P (.slice ro' k' rc') w4
  rw [← hw5] at hb5 hcb5 hs5
  have hb35 := bel_up' hb4 hb5
  have H5 : Hid (Below w.heap.size w w5 ∧ MV w3.heap.size (.slice ro' k' rc') k' P R' w5 ∧ LLs w.heap.size (.slice ro k rc) (rl k P1 R) w5 ∧ Red FM P (mnl m (r + 1)).length (mrow (mnl m (r + 1)) P) k' R') := ⟨bel_up' H3.out.2.2.2 hb35, hmv.below hb5, H3.out.2.1.below hb35 (Nat.le_refl _), hred'⟩
  obtain ⟨c0, c1, c2⟩ := H3.out.1.keep hb35
  obtain ⟨d0, d1, d2⟩ := hcb5
  clear hmv hred' hb4 hb5 hb35 hs5
  go_wp2_with fail
  rw [← hw5]
  clear hw5
  refine (HCk.out w5).mono ?_
  rintro e w' ⟨rfl, hw⟩
  have hw := hw.symm
  subst hw
  go_wp2_with fail
  refine (HSm.out H5.out.2.1 H5.out.2.2.1 H5.out.2.2.2 H3.out.2.2.1).mono ?_
  rintro e w6 ⟨rfl, hb6⟩
  have H6 : Hid (Below w.heap.size w w6) := bel_up' H5.out.1 hb6
  clear hb6 c0 c1 c2 d0 d1 d2
  go_wp2_with fail
  refine (HMo.out w6).mono ?_
  rintro e w7 ⟨gM, cM, rfl, hb7⟩
  have H7 : Hid (Below w.heap.size w w7) := bel_up' H6.out hb7
  clear hb7
  by_cases hnk : n = K0
  · have hnz : ((n : Int) != (K0 : Int)) = false := by rw [hnk]; simp
    have HNK : Hid (n = K0) := hnk
    clear hnk
    go_wp2_with fail
    refine (HBt.out w7 H7.out).mono ?_
    rintro e w' ⟨rfl, hw⟩
    have hw := hw.symm
    subst hw
    obtain ⟨bb, hbb⟩ : ∃ bb, bb = allP isbt z n := ⟨_, rfl⟩
    rw [← hbb]
    cases bb with
    | true =>
      have HBB : Hid (allP isbt z n = true) := hbb.symm
      clear hbb
      go_wp2_with fail
      refine (HWd.out HNK.out HBB.out w7 H7.out).mono ?_
      rintro e w8 ⟨G, rfl, hrow8, hb8⟩
      have H8 : Hid (Below w.heap.size w w8 ∧ Row G P (fun x => mwv l (fun j => (z j).toNat) x l.length) w8) := ⟨bel_up' H7.out hb8, hrow8⟩
      clear hrow8 hb8
      go_wp2_with fail
      refine (HEn.out w8 H8.out.1).mono ?_
      rintro e w9 ⟨hb9, hx⟩
      have hbc : bchk isbt n z ((mnl m (r + 1)).length : Nat) = 0 := by rw [← HL.out.1, ← HL.out.2.1, HL.out.2.2, if_pos HNK.out, if_pos HBB.out]
      rcases hx with ⟨_, G2, rfl, hG2, hrow9⟩ | ⟨hbad, _⟩
      · have HLi : Hid (Calls Try.prog 16 #[.slice (some ⟨G2, 0, none⟩) P P, .int .i64 0, .slice (some ⟨G, 0, none⟩) P P, .int .i64 0] w9 fun r w' => r = .returned (.bool true) ∧ ∃ n, w' = w9.drewN n) := by
          rw [← HL.out.1] at hrow9
          exact list_same (sl_sliceI (hrow9.sl (Nat.le_refl _)) (by omega)) (sl_sliceI ((H8.out.2.below hb9 H8.out.2.lt).sl (Nat.le_refl _)) (by omega))
        have H9 : Hid (Below w.heap.size w w9) := bel_up' H8.out.1 hb9
        clear hb9 hG2 hrow9 hbc
        go_wp2_with fail
        refine HLi.out.mono ?_
        rintro e w' ⟨rfl, nn, hw⟩
        subst hw
        go_wp2
        go_ret
        exact ⟨rfl, below_drewN2 H9.out nn⟩
      · exact absurd hbc hbad
    | false =>
      have HBB : Hid (allP isbt z n = false) := hbb.symm
      clear hbb
      go_wp2_with fail
      refine (HEn.out w7 H7.out).mono ?_
      rintro e w9 ⟨hb9, hx⟩
      have hbc : bchk isbt n z ((mnl m (r + 1)).length : Nat) = 2 := by rw [← HL.out.1, ← HL.out.2.1, HL.out.2.2, if_pos HNK.out, HBB.out, if_neg (by intro h; cases h)]
      rcases hx with ⟨hbad, _⟩ | ⟨_, rfl⟩
      · rw [hbc] at hbad; cases hbad
      · rw [hbc]
        have H9 : Hid (Below w.heap.size w w9) := bel_up' H7.out hb9
        clear hb9 hbc
        go_wp2_with fail
        refine (list_err 2 (by omega) w9).mono ?_
        rintro e w' ⟨rfl, hw⟩
        have hw := hw.symm
        subst hw
        go_wp2
        go_ret
        exact ⟨rfl, H9.out⟩
  · have hnz : ((n : Int) != (K0 : Int)) = true := by rw [bne_iff_ne]; omega
    have HNK : Hid (¬ n = K0) := hnk
    clear hnk
    go_wp2_with fail
    refine (HEn.out w7 H7.out).mono ?_
    rintro e w9 ⟨hb9, hx⟩
    have hbc : bchk isbt n z ((mnl m (r + 1)).length : Nat) = 6 := by rw [← HL.out.1, ← HL.out.2.1, HL.out.2.2, if_neg HNK.out]
    rcases hx with ⟨hbad, _⟩ | ⟨_, rfl⟩
    · rw [hbc] at hbad; cases hbad
    · rw [hbc]
      have H9 : Hid (Below w.heap.size w w9) := bel_up' H7.out hb9
      clear hb9 hbc
      go_wp2_with fail
      refine (list_err 6 (by omega) w9).mono ?_
      rintro e w' ⟨rfl, hw⟩
      have hw := hw.symm
      subst hw
      go_wp2
      go_ret
      exact ⟨rfl, H9.out⟩
end Go.Proofs.Ytmklnjkallhphaa
