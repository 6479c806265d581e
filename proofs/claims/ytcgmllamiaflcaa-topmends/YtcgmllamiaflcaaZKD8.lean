/- Texts of ours, one behind the other: KD8 KD9. -/
import Derived.Test.YtcgmllamiaflcaaZKD7
import Derived.Test.YtcgmllamiaflcaaZQ5
import Derived.Test.YtcgmllamiaflcaaZU4
import Derived.Test.YtcgmllamiaflcaaZZ1
/- The program's reed: mend (printed by make/kd8.py). -/
namespace Go.Proofs.Ytcgmllamiaflcaa
open Go.RowKit Go.Sort

/-- A message is near what was heard. -/
def NearH (D : FD) (m k : Nat) (c y a : Nat → Nat) : Prop := El D a ∧ Bd k a ∧ k ≤ m ∧ 2 * ofs D k m c y a ≤ m - k
/-- What mend tells of a word that may have come. -/
def MendP (D : FD) (m k : Nat) (c y : Nat → Nat) (w : World) (e : Ending) (w' : World) : Prop := Below w.heap.size w w' ∧ ((∃ a, NearH D m k c y a ∧ ∃ v, e = .returned (.tuple #[v, .int .i64 (ofs D k m c y a : Nat), .bool true, .int .i64 0]) ∧ OwnP w.heap.size v k a w') ∨ ((∀ a, ¬ NearH D m k c y a) ∧ e = .returned (.tuple #[.slice none 0 0, .int .i64 0, .bool false, .int .i64 0])))

set_option maxHeartbeats 8000000 in
set_option maxRecDepth 100000 in
theorem mend_ok {D : FD} (hD : D ∈ fieldsL) {gf : Nat} (eg : ∀ args w, (callFunc gf args).run Try.prog w = .ok (.enter gf args) w) {xo wo : Option Addr} {n cx cw k m : Nat} {c c' y' : Nat → Nat} {y : Nat → Int} {w : World} (hX : Arg xo n cx (fun j => ((c j : Nat) : Int)) w) (hY : Arg wo n cw y w) (hn : n ≤ 64) (hk1 : 1 ≤ k) (hk : k ≤ n)
    (hWd : Calls Try.prog 54 #[.int .i64 D.q, .slice xo n cx, .int .i64 (k : Nat), .slice wo n cw] w fun e w' => e = .returned (.int .i64 0) ∧ Below w.heap.size w w')
    (hH : Heard D n c y m c' y')
    (hfind : ∀ (F T : Nat) (g : Nat → Value) (wx : World) (ao bo : Option Addr) (ac bc : Nat), FAt F T D g wx → Arg ao m ac (fun j => ((c' j : Nat) : Int)) wx → Arg bo m bc (fun j => ((y' j : Nat) : Int)) wx → k ≤ m → Calls Try.prog gf (#[.agg #[.pointer (some ⟨F, 0, none⟩), .int .i64 (k : Nat), .slice ao m ac, .slice bo m bc]] ++ #[]) wx (FindP D m k c' y' wx)) :
    Calls Try.prog 33 #[.int .i64 D.q, .slice xo n cx, .int .i64 (k : Nat), .slice wo n cw, .func (.func gf) #[] #[]] w (MendP D m k c' y' w) := by
  have HH : Hid (Heard D n c y m c' y') := hH
  have hmn := hH.le
  have HX : Hid (D ∈ fieldsL ∧ Arg xo n cx (fun j => ((c j : Nat) : Int)) w ∧ Arg wo n cw y w) := ⟨hD, hX, hY⟩
  have HWd : Hid (Calls Try.prog 54 #[.int .i64 D.q, .slice xo n cx, .int .i64 (k : Nat), .slice wo n cw] w fun e w' => e = .returned (.int .i64 0) ∧ Below w.heap.size w w') := hWd
  have HFi : Hid (∀ (F T : Nat) (g : Nat → Value) (wx : World) (ao bo : Option Addr) (ac bc : Nat), FAt F T D g wx → Arg ao m ac (fun j => ((c' j : Nat) : Int)) wx → Arg bo m bc (fun j => ((y' j : Nat) : Int)) wx → k ≤ m → Calls Try.prog gf (#[.agg #[.pointer (some ⟨F, 0, none⟩), .int .i64 (k : Nat), .slice ao m ac, .slice bo m bc]] ++ #[]) wx (FindP D m k c' y' wx)) := hfind
  clear hD hX hY hWd hH hfind
  go_enter Try.func33, Try.ntmps33
  go_wp2_with fail
  refine HWd.out.mono ?_
  rintro e w1 ⟨rfl, hb1⟩
  have H1 : Hid (Below w.heap.size w w1) := hb1
  clear hb1
  go_wp2_with fail
  refine (new_any HX.out.1 w1).mono ?_
  rintro e w2 ⟨F, T, g, rfl, hat, _, _, hb2⟩
  have H2 : Hid (Below w.heap.size w w2 ∧ FAt F T D g w2) := ⟨bel_up' H1.out hb2, hat⟩
  clear hat hb2
  go_wp2_with fail
  refine (hear_any (F := F) (k : Nat) (HX.out.2.1.below H2.out.1) (HX.out.2.2.below H2.out.1) hn).mono ?_
  rintro e w3 ⟨vx, vy, rfl, hox, hoy, hb3⟩
  rw [HH.out.lx] at hox
  rw [HH.out.ly] at hoy
  obtain ⟨ao, ac, rfl, hax⟩ := hox.argL
  obtain ⟨bo, bc, rfl, hay⟩ := hoy.argL
  obtain ⟨w4, hw4⟩ : ∃ w4, w4 = w3.alloc (.cells #[.pointer (some ⟨F, 0, none⟩), .int .i64 (k : Nat), .slice ao m ac, .slice bo m bc] 80) := ⟨_, rfl⟩
  have hb4 : Below w3.heap.size w3 w4 := by rw [hw4]; exact (Below.refl _ _).alloc (Nat.le_refl _) _
  have hs4 : w4.heap.size = w3.heap.size + 1 := by rw [hw4]; simp
  have r4 : RowF w3.heap.size 4 80 (hbx' #[.pointer (some ⟨F, 0, none⟩), .int .i64 (k : Nat), .slice ao m ac, .slice bo m bc]) w4 := by rw [hw4]; exact rowF_new _ _ _ _ rfl
  have H4 : Hid (Below w.heap.size w w4 ∧ FAt F T D g w4 ∧ Arg ao m ac (fun j => ((c' j : Nat) : Int)) w4 ∧ Arg bo m bc (fun j => ((y' j : Nat) : Int)) w4) := by
    have hb34 := bel_up' hb3 hb4
    exact ⟨bel_up' H2.out.1 hb34, H2.out.2.below hb34 H2.out.2.ltF H2.out.2.ltT, (hax.arg (by omega)).below hb4, (hay.arg (by omega)).below hb4⟩
  have HBx : Hid (∀ wx, Below w4.heap.size w4 wx → wx.cell? ⟨w3.heap.size, 0, none⟩ = some (.pointer (some ⟨F, 0, none⟩)) ∧ wx.cell? ⟨w3.heap.size, 1, none⟩ = some (.int .i64 (k : Nat)) ∧ wx.cell? ⟨w3.heap.size, 2, none⟩ = some (.slice ao m ac) ∧ wx.cell? ⟨w3.heap.size, 3, none⟩ = some (.slice bo m bc)) := fun wx hb => by
    have h := r4.below hb (by omega)
    exact ⟨h.cell 0 (by omega), h.cell 1 (by omega), h.cell 2 (by omega), h.cell 3 (by omega)⟩
  clear hox hoy hb3 hax hay hb4 r4
  have HSp : Hid (∀ wx, Calls Try.prog 56 #[.agg #[.pointer (some ⟨F, 0, none⟩), .int .i64 (k : Nat), .slice ao m ac, .slice bo m bc]] wx fun e w' => e = .returned (.int .i64 ((m : Int) - (k : Int))) ∧ Below wx.heap.size wx w') := fun wx => spare_any F (k : Nat) ao bo m ac m bc (by omega) (by omega) (by omega) wx
  go_wp2_with fail
  rw [← hw4]
  clear hw4
  refine (HSp.out w4).mono ?_
  rintro e w5 ⟨rfl, hb5⟩
  have H5 : Hid (Below w.heap.size w w5 ∧ Below w4.heap.size w4 w5) := ⟨bel_up' H4.out.1 hb5, hb5⟩
  clear hb5
  by_cases hkm : k ≤ m
  · have hsp : ¬ (m : Int) - (k : Int) < 0 := by omega
    obtain ⟨b0, b1, b2, b3⟩ := HBx.out w5 H5.out.2
    have hl5 : w3.heap.size < w5.heap.size := by have := H5.out.2.size; omega
    have hcall := HFi.out F T g w5 ao bo ac bc (H4.out.2.1.below H5.out.2 H4.out.2.1.ltF H4.out.2.1.ltT) (H4.out.2.2.1.below H5.out.2) (H4.out.2.2.2.below H5.out.2) hkm
    have HCl : Hid (Calls Try.prog gf (#[.agg #[.pointer (some ⟨F, 0, none⟩), .int .i64 (k : Nat), .slice ao m ac, .slice bo m bc]] ++ #[]) w5 (FindP D m k c' y' w5)) := hcall
    clear hcall
    go_wp2_with fail
    go_at_fn gf
    refine HCl.out.mono ?_
    rintro e w6 ⟨hb6, v, ok, lf, f, rfl, hov, hef, htf, hlf, hall⟩
    obtain ⟨fo, fc, rfl, hfa⟩ := hov.arg (by omega)
    have H6 : Hid (Below w.heap.size w w6 ∧ Below w4.heap.size w4 w6 ∧ Arg fo lf fc (fun j => ((f j : Nat) : Int)) w6 ∧ El D f ∧ Trd lf f ∧ ∀ a, El D a → Bd k a → 2 * ofs D k m c' y' a ≤ m - k → ok = true ∧ f = a) := ⟨bel_up' H5.out.1 hb6, bel_up' H5.out.2 hb6, hfa, hef, htf, hall⟩
    clear hb6 hov hef htf hall hfa b0 b1 b2 b3
    cases ok
    · have HNo : Hid (∀ a, ¬ NearH D m k c' y' a) := fun a ha => by
        have := (H6.out.2.2.2.2.2 a ha.1 ha.2.1 ha.2.2.2).1
        cases this
      go_wp2
      refine bodyPost_ret (results_four rfl _ _ _) rfl ?_
      exact ⟨H6.out.1, Or.inr ⟨HNo.out, rfl⟩⟩
    · by_cases hlk : k < lf
      · have hlkb : (k : Int) < (lf : Int) := by omega
        have hlkc : (lf : Int) > (k : Int) := hlkb
        have HNo : Hid (∀ a, ¬ NearH D m k c' y' a) := fun a ha => by
          have e := (H6.out.2.2.2.2.2 a ha.1 ha.2.1 ha.2.2.2).2
          have h1 := H6.out.2.2.2.2.1
          rw [e] at h1
          have := trd_le h1 ha.2.1
          omega
        go_wp2
        refine bodyPost_ret (results_four rfl _ _ _) rfl ?_
        exact ⟨H6.out.1, Or.inr ⟨HNo.out, rfl⟩⟩
      · have hlkb : ¬ (k : Int) < (lf : Int) := by omega
        have hlkc : ¬ (lf : Int) > (k : Int) := hlkb
        have hlk2 : lf ≤ k := by omega
        obtain ⟨E, hE⟩ : ∃ E, E = ofs D k m c' y' f := ⟨_, rfl⟩
        have hEb : E ≤ m := by
          rw [hE]; unfold ofs
          have := ct_not (fun i => decide (D.ev f (c' i) k = y' i)) m
          omega
        have HE : Hid (E = ofs D k m c' y' f) := hE
        clear hE
        have HSk : Hid (∀ wx, Below w4.heap.size w4 wx → wx.cell? ⟨w3.heap.size, 2, none⟩ = some (.slice ao m ac) ∧ wx.cell? ⟨w3.heap.size, 3, none⟩ = some (.slice bo m bc)) := fun wx hb => ⟨(HBx.out wx hb).2.2.1, (HBx.out wx hb).2.2.2⟩
        have HVa : Hid (Calls Try.prog 32 #[.pointer (some ⟨F, 0, none⟩), .slice fo lf fc, .slice ao m ac] w6.drew fun e w' => e = .returned (.slice (some ⟨w6.heap.size, 0, none⟩) m m) ∧ Row w6.heap.size m (fun i => D.ev f (c' i) k) w' ∧ Below w6.heap.size w6 w') := by
          have hbd : Below w6.heap.size w6 w6.drew := (Below.refl _ _).drew
          have hb46 := bel_up' H6.out.2.1 hbd
          have h := rvalues_any HX.out.1 (ca := fc) (cx := ac) (H4.out.2.1.below hb46 H4.out.2.1.ltF H4.out.2.1.ltT) (show lf ≤ 128 by omega) (show m ≤ 64 by omega) H6.out.2.2.2.1 HH.out.cq (H6.out.2.2.1.below hbd).sl (H4.out.2.2.1.below hb46).sl (H6.out.2.2.1.below hbd).lt (H4.out.2.2.1.below hb46).lt
          refine h.mono ?_
          rintro e w' ⟨rfl, hr, hb'⟩
          refine ⟨rfl, hr.congr (fun i _ => ?_), bel_up' hbd hb'⟩
          exact (ev_from (fld HX.out.1) (c' i) H6.out.2.2.2.2.1.1 hlk2).symm
        obtain ⟨b0, b1, b2, b3⟩ := HBx.out w6 H6.out.2.1
        have hl6 : w3.heap.size < w6.heap.size := by have := H6.out.2.1.size; omega
        go_wp2
        refine wp_region_noPanic ?_
        have hS0 := HSk.out w6.drew (bel_up' H6.out.2.1 (Below.refl _ _).drew)
        refine wp_region_L (S := fun wz => wz.cell? ⟨w3.heap.size, 2, none⟩ = some (.slice ao m ac) ∧ wz.cell? ⟨w3.heap.size, 3, none⟩ = some (.slice bo m bc)) [] (by kernel_rfl) ?_
        clear b0 b1 b2 b3
        refine wpAnyL_take (i := 0) (v := ?_) (by rw [List.getElem?_toArray]; rfl) (by decide +kernel) (by decide +kernel) (by decide +kernel) (by decide +kernel) (by decide +kernel) (fun _ _ _ h => h) hS0 (Or.inl ⟨by rfl, ?_⟩) ?_
        rotate_left
        · intro wz hSz; obtain ⟨z0, z1⟩ := hSz; go_simp; first | done | with_reducible rfl
        try simp only [Act.put, List.setIfInBounds_toArray, List.set_cons_zero, List.set_cons_succ]
        refine wpAnyL_take (i := 1) (v := ?_) (by rw [List.getElem?_toArray]; rfl) (by decide +kernel) (by decide +kernel) (by decide +kernel) (by decide +kernel) (by decide +kernel) (fun _ _ _ h => h) hS0 (Or.inl ⟨by rfl, ?_⟩) ?_
        rotate_left
        · intro wz hSz; obtain ⟨z0, z1⟩ := hSz; go_simp; first | done | with_reducible rfl
        try simp only [Act.put, List.setIfInBounds_toArray, List.set_cons_zero, List.set_cons_succ]
        refine wpAnyL_take (i := 2) (v := ?_) (by rw [List.getElem?_toArray]; rfl) (by decide +kernel) (by decide +kernel) (by decide +kernel) (by decide +kernel) (by decide +kernel) (fun _ _ _ h => h) hS0 (Or.inl ⟨by rfl, ?_⟩) ?_
        rotate_left
        · intro wz hSz; obtain ⟨z0, z1⟩ := hSz; go_simp; first | done | with_reducible rfl
        try simp only [Act.put, List.setIfInBounds_toArray, List.set_cons_zero, List.set_cons_succ]
        refine wpAnyL_take (i := 3) (v := ?_) (by rw [List.getElem?_toArray]; rfl) (by decide +kernel) (by decide +kernel) (by decide +kernel) (by decide +kernel) (by decide +kernel) (fun _ _ _ h => h) hS0 (Or.inl ⟨by rfl, ?_⟩) ?_
        rotate_left
        · intro wz hSz; obtain ⟨z0, z1⟩ := hSz; go_simp; first | done | with_reducible rfl
        try simp only [Act.put, List.setIfInBounds_toArray, List.set_cons_zero, List.set_cons_succ]
        refine wpAnyL_take (i := 5) (v := ?_) (by rw [List.getElem?_toArray]; rfl) (by decide +kernel) (by decide +kernel) (by decide +kernel) (by decide +kernel) (by decide +kernel) (fun _ _ _ h => h) hS0 (Or.inl ⟨by rfl, ?_⟩) ?_
        rotate_left
        · intro wz hSz; obtain ⟨z0, z1⟩ := hSz; go_simp; first | done | with_reducible rfl
        try simp only [Act.put, List.setIfInBounds_toArray, List.set_cons_zero, List.set_cons_succ]
        refine wpAnyL_take (i := 6) (v := ?_) (by rw [List.getElem?_toArray]; rfl) (by decide +kernel) (by decide +kernel) (by decide +kernel) (by decide +kernel) (by decide +kernel) (fun _ _ _ h => h) hS0 (Or.inl ⟨by rfl, ?_⟩) ?_
        rotate_left
        · intro wz hSz; obtain ⟨z0, z1⟩ := hSz; go_simp; first | done | with_reducible rfl
        try simp only [Act.put, List.setIfInBounds_toArray, List.set_cons_zero, List.set_cons_succ]
        refine wpAnyL_one (i := 4) (by kernel_rfl) (by rw [List.getElem?_toArray]; rfl) (fun K hK => ?_)
        have HK : Hid _ := hK
        clear hK
        go_simp
        refine HVa.out.mono ?_
        rintro e w7 ⟨rfl, hr7, hb7⟩
        have H7 : Hid (Below w.heap.size w w7 ∧ Below w4.heap.size w4 w7 ∧ Arg fo lf fc (fun j => ((f j : Nat) : Int)) w7) := ⟨bel_up' H6.out.1 hb7, bel_up' H6.out.2.1 hb7, H6.out.2.2.1.below hb7⟩
        have HAp : Hid (Calls Try.prog 16 #[.slice (some ⟨w6.heap.size, 0, none⟩) m m, .slice bo m bc] w7 fun e w' => e = .returned (.int .i64 (E : Nat)) ∧ w' = w7) := by
          show Calls _ _ _ _ _
          rw [HE.out]
          exact apart_any (hr7.sl (Nat.le_refl _)) (H4.out.2.2.2.below H7.out.2.1).sl (by omega)
        clear hr7 hb7
        refine HK.out _ _ (fun _ => HSk.out _ H7.out.2.1) ?_
        clear HK K
        try simp only [Act.put, List.setIfInBounds_toArray, List.set_cons_zero, List.set_cons_succ]
        refine wpAnyL_one (i := 7) (by kernel_rfl) (by rw [List.getElem?_toArray]; rfl) (fun K hK => ?_)
        have HK : Hid _ := hK
        clear hK
        go_simp
        refine HAp.out.mono ?_
        rintro e w' ⟨rfl, hw⟩
        have hw := hw.symm
        subst hw
        refine HK.out _ _ (fun _ => HSk.out _ H7.out.2.1) ?_
        clear HK K
        try simp only [Act.put, List.setIfInBounds_toArray, List.set_cons_zero, List.set_cons_succ]
        refine wpAnyL_one (i := 8) (by kernel_rfl) (by rw [List.getElem?_toArray]; rfl) (fun K hK => ?_)
        have HK : Hid _ := hK
        clear hK
        go_simp
        refine HK.out _ _ (fun _ => HSk.out _ H7.out.2.1) ?_
        clear HK K
        try simp only [Act.put, List.setIfInBounds_toArray, List.set_cons_zero, List.set_cons_succ]
        refine wpAnyL_done (by kernel_rfl) (NoPanic.normal ?_)
        clear hS0
        obtain ⟨b0, b1, b2, b3⟩ := HBx.out w7 H7.out.2.1
        have hl7 : w3.heap.size < w7.heap.size := by have := H7.out.2.1.size; omega
        have hw2 : IntKind.i64.wrap (2 * (E : Int)) = 2 * (E : Int) := wrap_ka (by omega) (by omega)
        go_wp2_with fail
        refine (HSp.out w7).mono ?_
        rintro e w8 ⟨rfl, hb8⟩
        have H8 : Hid (Below w.heap.size w w8 ∧ Arg fo lf fc (fun j => ((f j : Nat) : Int)) w8) := ⟨bel_up' H7.out.1 hb8, H7.out.2.2.below hb8⟩
        clear hb8 b0 b1 b2 b3
        by_cases hgt : (m : Int) - (k : Int) < 2 * (E : Int)
        · have hgt2 : 2 * (E : Int) > (m : Int) - (k : Int) := hgt
          have HNo : Hid (∀ a, ¬ NearH D m k c' y' a) := fun a ha => by
            have e := (H6.out.2.2.2.2.2 a ha.1 ha.2.1 ha.2.2.2).2
            have h1 := HE.out
            rw [e] at h1
            have := ha.2.2.2
            omega
          go_wp2
          refine bodyPost_ret (results_four rfl _ _ _) rfl ?_
          exact ⟨H8.out.1, Or.inr ⟨HNo.out, rfl⟩⟩
        · have hgt2 : ¬ 2 * (E : Int) > (m : Int) - (k : Int) := hgt
          have HNe : Hid (NearH D m k c' y' f) := ⟨H6.out.2.2.2.1, H6.out.2.2.2.2.1.1.mono hlk2, hkm, by rw [← HE.out]; omega⟩
          go_wp2_with (first
            | (at_make; refine make_int rfl _ _ rfl _ k rfl rfl (by omega) (by omega) ?_; intro w9 hown9 hgrow9)
            | (show wpList _ _ _ (Oper.mk (some 73) _ _ _ _ _ :: _) _ _; (refine copy_int rfl _ _ rfl w8.heap.size k k lf fc fo rfl rfl pnil f (row_zeros hown9) ((H8.out.2.below (below_grown hgrow9 (Nat.le_refl _) (fun k hk => by simp at hk))).sl) hlk2 w8.heap.size w8 (below_grown hgrow9 (Nat.le_refl _) (fun k hk => by simp at hk)) (Nat.le_refl _) ?_); intro w10 hrow10 hb10))
          have H10 : Hid (Below w.heap.size w w10 ∧ Row w8.heap.size k f w10) := ⟨bel_up' H8.out.1 hb10, hrow10.congr (fun j _ => by show (if j < lf then f j else pnil j) = f j; split; rfl; exact (H6.out.2.2.2.2.1.1 j (by omega)).symm)⟩
          clear hown9 hgrow9 hrow10 hb10
          refine bodyPost_ret (results_four rfl _ _ _) rfl ?_
          exact ⟨H10.out.1, Or.inl ⟨f, HNe.out, _, by rw [← HE.out]; rfl, OwnP.of_row H10.out.2 (Nat.le_refl _) (Nat.le_refl _) (by omega) H8.out.1.size⟩⟩
  · have hsp : (m : Int) - (k : Int) < 0 := by omega
    go_wp2
    refine bodyPost_ret (results_four rfl _ _ _) rfl ?_
    exact ⟨H5.out.1, Or.inr ⟨fun a ha => hkm ha.2.2.1, rfl⟩⟩
end Go.Proofs.Ytcgmllamiaflcaa

/- The program's reed: Euclid. -/
namespace Go.Proofs.Ytcgmllamiaflcaa
open Go.RowKit Go.Sort

theorem enters_bd : ∀ args w, (callFunc 35 args).run Try.prog w = .ok (.enter 35 args) w :=
  enters_of Try.func35 (by kernel_rfl) rfl
set_option maxHeartbeats 2000000 in
set_option maxRecDepth 100000 in
theorem euclid_ok {D : FD} (hD : D ∈ fieldsL) {xo wo : Option Addr} {n cx cw k m : Nat} {c c' y' : Nat → Nat} {y : Nat → Int} {w : World} (hX : Arg xo n cx (fun j => ((c j : Nat) : Int)) w) (hY : Arg wo n cw y w) (hn : n ≤ 64) (hk1 : 1 ≤ k) (hk : k ≤ n)
    (hWd : Calls Try.prog 54 #[.int .i64 D.q, .slice xo n cx, .int .i64 (k : Nat), .slice wo n cw] w fun e w' => e = .returned (.int .i64 0) ∧ Below w.heap.size w w')
    (hH : Heard D n c y m c' y') :
    Calls Try.prog 14 #[.int .i64 D.q, .slice xo n cx, .int .i64 (k : Nat), .slice wo n cw] w (MendP D m k c' y' w) := by
  have HM : Hid (Calls Try.prog 33 #[.int .i64 D.q, .slice xo n cx, .int .i64 (k : Nat), .slice wo n cw, .func (.func 35) #[] #[]] w (MendP D m k c' y' w)) := by
    refine mend_ok hD enters_bd hX hY hn hk1 hk hWd hH (fun F T g wx ao bo ac bc hat ha hb hkm => ?_)
    have e : (#[Value.agg #[.pointer (some ⟨F, 0, none⟩), .int .i64 (k : Nat), .slice ao m ac, .slice bo m bc]] ++ #[] : Array Value) = #[.agg #[.pointer (some ⟨F, 0, none⟩), .int .i64 (k : Nat), .slice ao m ac, .slice bo m bc]] := rfl
    rw [e]
    exact byDivisors_any hD hat ha hb (by have := hH.le; omega) hk1 hkm hH.cq hH.ne hH.yq
  clear hX hY hWd hH
  go_enter Try.func14, Try.ntmps14
  go_wp2_with fail
  refine HM.out.mono ?_
  rintro e w1 ⟨hb, ⟨a, ha, v, rfl, hv⟩ | ⟨hno, rfl⟩⟩
  · have H1 : Hid (Below w.heap.size w w1 ∧ NearH D m k c' y' a ∧ OwnP w.heap.size v k a w1) := ⟨hb, ha, hv⟩
    clear hb ha hv
    go_wp2
    refine bodyPost_ret (results_four rfl _ _ _) rfl ?_
    exact ⟨H1.out.1, Or.inl ⟨a, H1.out.2.1, v, rfl, H1.out.2.2⟩⟩
  · have H1 : Hid (Below w.heap.size w w1 ∧ ∀ a, ¬ NearH D m k c' y' a) := ⟨hb, hno⟩
    clear hb hno
    go_wp2
    refine bodyPost_ret (results_four rfl _ _ _) rfl ?_
    exact ⟨H1.out.1, Or.inr ⟨H1.out.2, rfl⟩⟩
/-- Two near messages are one. -/
theorem NearH.one {D : FD} (hD : D ∈ fieldsL) {n m k : Nat} {c c' y' a b : Nat → Nat} {y : Nat → Int} (hH : Heard D n c y m c' y') (ha : NearH D m k c' y' a) (hb : NearH D m k c' y' b) : a = b :=
  Go.Proofs.Ytcgmllamiaflcaa.near_one (fld hD) ha.2.2.1 hH.cq hH.ne ha.1 hb.1 ha.2.1 hb.2.1 ha.2.2.2 hb.2.2.2
end Go.Proofs.Ytcgmllamiaflcaa
