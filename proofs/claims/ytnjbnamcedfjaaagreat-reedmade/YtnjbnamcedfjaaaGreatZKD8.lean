/- Texts of ours, one behind the other: KD8 KD9 S29 KD10. -/
import Derived.Test.YtnjbnamcedfjaaaGreatZKD6
import Derived.Test.YtnjbnamcedfjaaaGreatZS13
import Derived.Test.YtnjbnamcedfjaaaGreatZU4
import Derived.Test.YtnjbnamcedfjaaaGreatZZ1
import Derived.Test.YtnjbnamcedfjaaaGreatZY1
import Derived.Test.YtnjbnamcedfjaaaGreatZX19
import Derived.Deep.OwnRows
/- The program's reed: mend (printed by make/kd8.py). -/
namespace Go.Proofs.YtnjbnamcedfjaaaGreat
open Go.RowKit Go.Sort

/-- A message is near what was heard. -/
def NearH (D : FD) (m k : Nat) (c y a : Nat → Nat) : Prop := El D a ∧ Bd k a ∧ k ≤ m ∧ 2 * ofs D k m c y a ≤ m - k
/-- What mend tells of a word that may have come. -/
def MendP (D : FD) (m k : Nat) (c y : Nat → Nat) (w : World) (e : Ending) (w' : World) : Prop := Below w.heap.size w w' ∧ ((∃ a, NearH D m k c y a ∧ ∃ v, e = .returned (.tuple #[v, .int .i64 (ofs D k m c y a : Nat), .bool true, .int .i64 0]) ∧ OwnP w.heap.size v k a w') ∨ ((∀ a, ¬ NearH D m k c y a) ∧ e = .returned (.tuple #[.slice none 0 0, .int .i64 0, .bool false, .int .i64 0])))

set_option maxHeartbeats 8000000 in
set_option maxRecDepth 100000 in
theorem mend_ok {D : FD} (hD : D ∈ fieldsL) {gf : Nat} (eg : ∀ args w, (callFunc gf args).run Tryz.prog w = .ok (.enter gf args) w) {xo wo : Option Addr} {n cx cw k m : Nat} {c c' y' : Nat → Nat} {y : Nat → Int} {w : World} (hX : Arg xo n cx (fun j => ((c j : Nat) : Int)) w) (hY : Arg wo n cw y w) (hn : n ≤ 64) (hk1 : 1 ≤ k) (hk : k ≤ n)
    (hWd : Calls Tryz.prog 19 #[.int .i64 D.q, .slice xo n cx, .int .i64 (k : Nat), .slice wo n cw] w fun e w' => e = .returned (.int .i64 0) ∧ Below w.heap.size w w')
    (hH : Heard D n c y m c' y')
    (hfind : ∀ (F T : Nat) (g : Nat → Value) (wx : World) (ao bo : Option Addr) (ac bc : Nat), FAt F T D g wx → Arg ao m ac (fun j => ((c' j : Nat) : Int)) wx → Arg bo m bc (fun j => ((y' j : Nat) : Int)) wx → k ≤ m → Calls Tryz.prog gf (#[.agg #[.pointer (some ⟨F, 0, none⟩), .int .i64 (k : Nat), .slice ao m ac, .slice bo m bc]] ++ #[]) wx (FindP D m k c' y' wx)) :
    Calls Tryz.prog 47 #[.int .i64 D.q, .slice xo n cx, .int .i64 (k : Nat), .slice wo n cw, .func (.func gf) #[] #[]] w (MendP D m k c' y' w) := by
  have HH : Hid (Heard D n c y m c' y') := hH
  have hmn := hH.le
  have HX : Hid (D ∈ fieldsL ∧ Arg xo n cx (fun j => ((c j : Nat) : Int)) w ∧ Arg wo n cw y w) := ⟨hD, hX, hY⟩
  have HWd : Hid (Calls Tryz.prog 19 #[.int .i64 D.q, .slice xo n cx, .int .i64 (k : Nat), .slice wo n cw] w fun e w' => e = .returned (.int .i64 0) ∧ Below w.heap.size w w') := hWd
  have HFi : Hid (∀ (F T : Nat) (g : Nat → Value) (wx : World) (ao bo : Option Addr) (ac bc : Nat), FAt F T D g wx → Arg ao m ac (fun j => ((c' j : Nat) : Int)) wx → Arg bo m bc (fun j => ((y' j : Nat) : Int)) wx → k ≤ m → Calls Tryz.prog gf (#[.agg #[.pointer (some ⟨F, 0, none⟩), .int .i64 (k : Nat), .slice ao m ac, .slice bo m bc]] ++ #[]) wx (FindP D m k c' y' wx)) := hfind
  clear hD hX hY hWd hH hfind
  go_enter Tryz.func47, Tryz.ntmps47
  go_wp2_with fail
  refine HWd.out.mono ?_
  rintro e w1 ⟨rfl, hb1⟩
  have H1 : Hid (Below w.heap.size w w1) := hb1
  clear hb1
  go_wp2_with fail
  refine (new_any HX.out.1 w1).mono ?_
  rintro e w2 ⟨F, T, g, rfl, hat, _, _, hb2⟩
  have H2 : Hid (Below w.heap.size w w2 ∧ FAt F T D g w2) := ⟨bel_up' H1.out hb2, hat⟩
  clear hat hb2
  go_wp2_with fail
  refine (hear_any (F := F) (k : Nat) (HX.out.2.1.below H2.out.1) (HX.out.2.2.below H2.out.1) hn).mono ?_
  rintro e w3 ⟨vx, vy, rfl, hox, hoy, hb3⟩
  rw [HH.out.lx] at hox
  rw [HH.out.ly] at hoy
  obtain ⟨ao, ac, rfl, hax⟩ := hox.argL
  obtain ⟨bo, bc, rfl, hay⟩ := hoy.argL
  obtain ⟨w4, hw4⟩ : ∃ w4, w4 = w3.alloc (.cells #[.pointer (some ⟨F, 0, none⟩), .int .i64 (k : Nat), .slice ao m ac, .slice bo m bc] 80) := ⟨_, rfl⟩
  have hb4 : Below w3.heap.size w3 w4 := by rw [hw4]; exact (Below.refl _ _).alloc (Nat.le_refl _) _
  have hs4 : w4.heap.size = w3.heap.size + 1 := by rw [hw4]; simp
  have r4 : RowF w3.heap.size 4 80 (hbx' #[.pointer (some ⟨F, 0, none⟩), .int .i64 (k : Nat), .slice ao m ac, .slice bo m bc]) w4 := by rw [hw4]; exact rowF_new _ _ _ _ rfl
  have H4 : Hid (Below w.heap.size w w4 ∧ FAt F T D g w4 ∧ Arg ao m ac (fun j => ((c' j : Nat) : Int)) w4 ∧ Arg bo m bc (fun j => ((y' j : Nat) : Int)) w4) := by
    have hb34 := bel_up' hb3 hb4
    exact ⟨bel_up' H2.out.1 hb34, H2.out.2.below hb34 H2.out.2.ltF H2.out.2.ltT, (hax.arg (by omega)).below hb4, (hay.arg (by omega)).below hb4⟩
  have HBx : Hid (∀ wx, Below w4.heap.size w4 wx → wx.cell? ⟨w3.heap.size, 0, none⟩ = some (.pointer (some ⟨F, 0, none⟩)) ∧ wx.cell? ⟨w3.heap.size, 1, none⟩ = some (.int .i64 (k : Nat)) ∧ wx.cell? ⟨w3.heap.size, 2, none⟩ = some (.slice ao m ac) ∧ wx.cell? ⟨w3.heap.size, 3, none⟩ = some (.slice bo m bc)) := fun wx hb => by
    have h := r4.below hb (by omega)
    exact ⟨h.cell 0 (by omega), h.cell 1 (by omega), h.cell 2 (by omega), h.cell 3 (by omega)⟩
  clear hox hoy hb3 hax hay hb4 r4
  have HSp : Hid (∀ wx, Calls Tryz.prog 61 #[.agg #[.pointer (some ⟨F, 0, none⟩), .int .i64 (k : Nat), .slice ao m ac, .slice bo m bc]] wx fun e w' => e = .returned (.int .i64 ((m : Int) - (k : Int))) ∧ Below wx.heap.size wx w') := fun wx => spare_any F (k : Nat) ao bo m ac m bc (by omega) (by omega) (by omega) wx
  go_wp2_with fail
  rw [← hw4]
  clear hw4
  refine (HSp.out w4).mono ?_
  rintro e w5 ⟨rfl, hb5⟩
  have H5 : Hid (Below w.heap.size w w5 ∧ Below w4.heap.size w4 w5) := ⟨bel_up' H4.out.1 hb5, hb5⟩
  clear hb5
  by_cases hkm : k ≤ m
  · have hsp : ¬ (m : Int) - (k : Int) < 0 := by omega
    obtain ⟨b0, b1, b2, b3⟩ := HBx.out w5 H5.out.2
    have hl5 : w3.heap.size < w5.heap.size := by have := H5.out.2.size; omega
    have hcall := HFi.out F T g w5 ao bo ac bc (H4.out.2.1.below H5.out.2 H4.out.2.1.ltF H4.out.2.1.ltT) (H4.out.2.2.1.below H5.out.2) (H4.out.2.2.2.below H5.out.2) hkm
    have HCl : Hid (Calls Tryz.prog gf (#[.agg #[.pointer (some ⟨F, 0, none⟩), .int .i64 (k : Nat), .slice ao m ac, .slice bo m bc]] ++ #[]) w5 (FindP D m k c' y' w5)) := hcall
    clear hcall
    go_wp2_with fail
    go_at_fn gf
    refine HCl.out.mono ?_
    rintro e w6 ⟨hb6, v, ok, lf, f, rfl, hov, hef, htf, hlf, hall⟩
    obtain ⟨fo, fc, rfl, hfa⟩ := hov.arg (by omega)
    have H6 : Hid (Below w.heap.size w w6 ∧ Below w4.heap.size w4 w6 ∧ Arg fo lf fc (fun j => ((f j : Nat) : Int)) w6 ∧ El D f ∧ Trd lf f ∧ ∀ a, El D a → Bd k a → 2 * ofs D k m c' y' a ≤ m - k → ok = true ∧ f = a) := ⟨bel_up' H5.out.1 hb6, bel_up' H5.out.2 hb6, hfa, hef, htf, hall⟩
    clear hb6 hov hef htf hall hfa b0 b1 b2 b3
    cases ok
    · have HNo : Hid (∀ a, ¬ NearH D m k c' y' a) := fun a ha => by
        have := (H6.out.2.2.2.2.2 a ha.1 ha.2.1 ha.2.2.2).1
        cases this
      go_wp2
      refine bodyPost_ret (results_four rfl _ _ _) rfl ?_
      exact ⟨H6.out.1, Or.inr ⟨HNo.out, rfl⟩⟩
    · by_cases hlk : k < lf
      · have hlkb : (k : Int) < (lf : Int) := by omega
        have hlkc : (lf : Int) > (k : Int) := hlkb
        have HNo : Hid (∀ a, ¬ NearH D m k c' y' a) := fun a ha => by
          have e := (H6.out.2.2.2.2.2 a ha.1 ha.2.1 ha.2.2.2).2
          have h1 := H6.out.2.2.2.2.1
          rw [e] at h1
          have := trd_le h1 ha.2.1
          omega
        go_wp2
        refine bodyPost_ret (results_four rfl _ _ _) rfl ?_
        exact ⟨H6.out.1, Or.inr ⟨HNo.out, rfl⟩⟩
      · have hlkb : ¬ (k : Int) < (lf : Int) := by omega
        have hlkc : ¬ (lf : Int) > (k : Int) := hlkb
        have hlk2 : lf ≤ k := by omega
        obtain ⟨E, hE⟩ : ∃ E, E = ofs D k m c' y' f := ⟨_, rfl⟩
        have hEb : E ≤ m := by
          rw [hE]; unfold ofs
          have := ct_not (fun i => decide (D.ev f (c' i) k = y' i)) m
          omega
        have HE : Hid (E = ofs D k m c' y' f) := hE
        clear hE
        have HSk : Hid (∀ wx, Below w4.heap.size w4 wx → wx.cell? ⟨w3.heap.size, 2, none⟩ = some (.slice ao m ac) ∧ wx.cell? ⟨w3.heap.size, 3, none⟩ = some (.slice bo m bc)) := fun wx hb => ⟨(HBx.out wx hb).2.2.1, (HBx.out wx hb).2.2.2⟩
        have HVa : Hid (Calls Tryz.prog 35 #[.pointer (some ⟨F, 0, none⟩), .slice fo lf fc, .slice ao m ac] w6.drew fun e w' => e = .returned (.slice (some ⟨w6.heap.size, 0, none⟩) m m) ∧ Row w6.heap.size m (fun i => D.ev f (c' i) k) w' ∧ Below w6.heap.size w6 w') := by
          have hbd : Below w6.heap.size w6 w6.drew := (Below.refl _ _).drew
          have hb46 := bel_up' H6.out.2.1 hbd
          have h := rvalues_any HX.out.1 (ca := fc) (cx := ac) (H4.out.2.1.below hb46 H4.out.2.1.ltF H4.out.2.1.ltT) (show lf ≤ 128 by omega) (show m ≤ 64 by omega) H6.out.2.2.2.1 HH.out.cq (H6.out.2.2.1.below hbd).sl (H4.out.2.2.1.below hb46).sl (H6.out.2.2.1.below hbd).lt (H4.out.2.2.1.below hb46).lt
          refine h.mono ?_
          rintro e w' ⟨rfl, hr, hb'⟩
          refine ⟨rfl, hr.congr (fun i _ => ?_), bel_up' hbd hb'⟩
          exact (ev_from (fld HX.out.1) (c' i) H6.out.2.2.2.2.1.1 hlk2).symm
        obtain ⟨b0, b1, b2, b3⟩ := HBx.out w6 H6.out.2.1
        have hl6 : w3.heap.size < w6.heap.size := by have := H6.out.2.1.size; omega
        go_wp2
        refine wp_region_noPanic ?_
        have hS0 := HSk.out w6.drew (bel_up' H6.out.2.1 (Below.refl _ _).drew)
        refine wp_region_L (S := fun wz => wz.cell? ⟨w3.heap.size, 2, none⟩ = some (.slice ao m ac) ∧ wz.cell? ⟨w3.heap.size, 3, none⟩ = some (.slice bo m bc)) [] (by kernel_rfl) ?_
        clear b0 b1 b2 b3
        refine wpAnyL_take (i := 0) (v := ?_) (by rw [List.getElem?_toArray]; rfl) (by decide +kernel) (by decide +kernel) (by decide +kernel) (by decide +kernel) (by decide +kernel) (fun _ _ _ h => h) hS0 (Or.inl ⟨by rfl, ?_⟩) ?_
        rotate_left
        · intro wz hSz; obtain ⟨z0, z1⟩ := hSz; go_simp; first | done | with_reducible rfl
        try simp only [Act.put, List.setIfInBounds_toArray, List.set_cons_zero, List.set_cons_succ]
        refine wpAnyL_take (i := 1) (v := ?_) (by rw [List.getElem?_toArray]; rfl) (by decide +kernel) (by decide +kernel) (by decide +kernel) (by decide +kernel) (by decide +kernel) (fun _ _ _ h => h) hS0 (Or.inl ⟨by rfl, ?_⟩) ?_
        rotate_left
        · intro wz hSz; obtain ⟨z0, z1⟩ := hSz; go_simp; first | done | with_reducible rfl
        try simp only [Act.put, List.setIfInBounds_toArray, List.set_cons_zero, List.set_cons_succ]
        refine wpAnyL_take (i := 2) (v := ?_) (by rw [List.getElem?_toArray]; rfl) (by decide +kernel) (by decide +kernel) (by decide +kernel) (by decide +kernel) (by decide +kernel) (fun _ _ _ h => h) hS0 (Or.inl ⟨by rfl, ?_⟩) ?_
        rotate_left
        · intro wz hSz; obtain ⟨z0, z1⟩ := hSz; go_simp; first | done | with_reducible rfl
        try simp only [Act.put, List.setIfInBounds_toArray, List.set_cons_zero, List.set_cons_succ]
        refine wpAnyL_take (i := 3) (v := ?_) (by rw [List.getElem?_toArray]; rfl) (by decide +kernel) (by decide +kernel) (by decide +kernel) (by decide +kernel) (by decide +kernel) (fun _ _ _ h => h) hS0 (Or.inl ⟨by rfl, ?_⟩) ?_
        rotate_left
        · intro wz hSz; obtain ⟨z0, z1⟩ := hSz; go_simp; first | done | with_reducible rfl
        try simp only [Act.put, List.setIfInBounds_toArray, List.set_cons_zero, List.set_cons_succ]
        refine wpAnyL_take (i := 5) (v := ?_) (by rw [List.getElem?_toArray]; rfl) (by decide +kernel) (by decide +kernel) (by decide +kernel) (by decide +kernel) (by decide +kernel) (fun _ _ _ h => h) hS0 (Or.inl ⟨by rfl, ?_⟩) ?_
        rotate_left
        · intro wz hSz; obtain ⟨z0, z1⟩ := hSz; go_simp; first | done | with_reducible rfl
        try simp only [Act.put, List.setIfInBounds_toArray, List.set_cons_zero, List.set_cons_succ]
        refine wpAnyL_take (i := 6) (v := ?_) (by rw [List.getElem?_toArray]; rfl) (by decide +kernel) (by decide +kernel) (by decide +kernel) (by decide +kernel) (by decide +kernel) (fun _ _ _ h => h) hS0 (Or.inl ⟨by rfl, ?_⟩) ?_
        rotate_left
        · intro wz hSz; obtain ⟨z0, z1⟩ := hSz; go_simp; first | done | with_reducible rfl
        try simp only [Act.put, List.setIfInBounds_toArray, List.set_cons_zero, List.set_cons_succ]
        refine wpAnyL_one (i := 4) (by kernel_rfl) (by rw [List.getElem?_toArray]; rfl) (fun K hK => ?_)
        have HK : Hid _ := hK
        clear hK
        go_simp
        refine HVa.out.mono ?_
        rintro e w7 ⟨rfl, hr7, hb7⟩
        have H7 : Hid (Below w.heap.size w w7 ∧ Below w4.heap.size w4 w7 ∧ Arg fo lf fc (fun j => ((f j : Nat) : Int)) w7) := ⟨bel_up' H6.out.1 hb7, bel_up' H6.out.2.1 hb7, H6.out.2.2.1.below hb7⟩
        have HAp : Hid (Calls Tryz.prog 62 #[.slice (some ⟨w6.heap.size, 0, none⟩) m m, .slice bo m bc] w7 fun e w' => e = .returned (.int .i64 (E : Nat)) ∧ w' = w7) := by
          show Calls _ _ _ _ _
          rw [HE.out]
          exact apart_any (hr7.sl (Nat.le_refl _)) (H4.out.2.2.2.below H7.out.2.1).sl (by omega)
        clear hr7 hb7
        refine HK.out _ _ (fun _ => HSk.out _ H7.out.2.1) ?_
        clear HK K
        try simp only [Act.put, List.setIfInBounds_toArray, List.set_cons_zero, List.set_cons_succ]
        refine wpAnyL_one (i := 7) (by kernel_rfl) (by rw [List.getElem?_toArray]; rfl) (fun K hK => ?_)
        have HK : Hid _ := hK
        clear hK
        go_simp
        refine HAp.out.mono ?_
        rintro e w' ⟨rfl, hw⟩
        have hw := hw.symm
        subst hw
        refine HK.out _ _ (fun _ => HSk.out _ H7.out.2.1) ?_
        clear HK K
        try simp only [Act.put, List.setIfInBounds_toArray, List.set_cons_zero, List.set_cons_succ]
        refine wpAnyL_one (i := 8) (by kernel_rfl) (by rw [List.getElem?_toArray]; rfl) (fun K hK => ?_)
        have HK : Hid _ := hK
        clear hK
        go_simp
        refine HK.out _ _ (fun _ => HSk.out _ H7.out.2.1) ?_
        clear HK K
        try simp only [Act.put, List.setIfInBounds_toArray, List.set_cons_zero, List.set_cons_succ]
        refine wpAnyL_done (by kernel_rfl) (NoPanic.normal ?_)
        clear hS0
        obtain ⟨b0, b1, b2, b3⟩ := HBx.out w7 H7.out.2.1
        have hl7 : w3.heap.size < w7.heap.size := by have := H7.out.2.1.size; omega
        have hw2 : IntKind.i64.wrap (2 * (E : Int)) = 2 * (E : Int) := wrap_ka (by omega) (by omega)
        go_wp2_with fail
        refine (HSp.out w7).mono ?_
        rintro e w8 ⟨rfl, hb8⟩
        have H8 : Hid (Below w.heap.size w w8 ∧ Arg fo lf fc (fun j => ((f j : Nat) : Int)) w8) := ⟨bel_up' H7.out.1 hb8, H7.out.2.2.below hb8⟩
        clear hb8 b0 b1 b2 b3
        by_cases hgt : (m : Int) - (k : Int) < 2 * (E : Int)
        · have hgt2 : 2 * (E : Int) > (m : Int) - (k : Int) := hgt
          have HNo : Hid (∀ a, ¬ NearH D m k c' y' a) := fun a ha => by
            have e := (H6.out.2.2.2.2.2 a ha.1 ha.2.1 ha.2.2.2).2
            have h1 := HE.out
            rw [e] at h1
            have := ha.2.2.2
            omega
          go_wp2
          refine bodyPost_ret (results_four rfl _ _ _) rfl ?_
          exact ⟨H8.out.1, Or.inr ⟨HNo.out, rfl⟩⟩
        · have hgt2 : ¬ 2 * (E : Int) > (m : Int) - (k : Int) := hgt
          have HNe : Hid (NearH D m k c' y' f) := ⟨H6.out.2.2.2.1, H6.out.2.2.2.2.1.1.mono hlk2, hkm, by rw [← HE.out]; omega⟩
          go_wp2_with (first
            | (at_make; refine make_int rfl _ _ rfl _ k rfl rfl (by omega) (by omega) ?_; intro w9 hown9 hgrow9)
            | (show wpList _ _ _ (Oper.mk (some 73) _ _ _ _ _ :: _) _ _; (refine copy_int rfl _ _ rfl w8.heap.size k k lf fc fo rfl rfl pnil f (row_zeros hown9) ((H8.out.2.below (below_grown hgrow9 (Nat.le_refl _) (fun k hk => by simp at hk))).sl) hlk2 w8.heap.size w8 (below_grown hgrow9 (Nat.le_refl _) (fun k hk => by simp at hk)) (Nat.le_refl _) ?_); intro w10 hrow10 hb10))
          have H10 : Hid (Below w.heap.size w w10 ∧ Row w8.heap.size k f w10) := ⟨bel_up' H8.out.1 hb10, hrow10.congr (fun j _ => by show (if j < lf then f j else pnil j) = f j; split; rfl; exact (H6.out.2.2.2.2.1.1 j (by omega)).symm)⟩
          clear hown9 hgrow9 hrow10 hb10
          refine bodyPost_ret (results_four rfl _ _ _) rfl ?_
          exact ⟨H10.out.1, Or.inl ⟨f, HNe.out, _, by rw [← HE.out]; rfl, OwnP.of_row H10.out.2 (Nat.le_refl _) (Nat.le_refl _) (by omega) H8.out.1.size⟩⟩
  · have hsp : (m : Int) - (k : Int) < 0 := by omega
    go_wp2
    refine bodyPost_ret (results_four rfl _ _ _) rfl ?_
    exact ⟨H5.out.1, Or.inr ⟨fun a ha => hkm ha.2.2.1, rfl⟩⟩
end Go.Proofs.YtnjbnamcedfjaaaGreat

/- The program's reed: Euclid. -/
namespace Go.Proofs.YtnjbnamcedfjaaaGreat
open Go.RowKit Go.Sort

theorem enters_bd : ∀ args w, (callFunc 49 args).run Tryz.prog w = .ok (.enter 49 args) w :=
  enters_of Tryz.func49 (by kernel_rfl) rfl
set_option maxHeartbeats 2000000 in
set_option maxRecDepth 100000 in
theorem euclid_ok {D : FD} (hD : D ∈ fieldsL) {xo wo : Option Addr} {n cx cw k m : Nat} {c c' y' : Nat → Nat} {y : Nat → Int} {w : World} (hX : Arg xo n cx (fun j => ((c j : Nat) : Int)) w) (hY : Arg wo n cw y w) (hn : n ≤ 64) (hk1 : 1 ≤ k) (hk : k ≤ n)
    (hWd : Calls Tryz.prog 19 #[.int .i64 D.q, .slice xo n cx, .int .i64 (k : Nat), .slice wo n cw] w fun e w' => e = .returned (.int .i64 0) ∧ Below w.heap.size w w')
    (hH : Heard D n c y m c' y') :
    Calls Tryz.prog 38 #[.int .i64 D.q, .slice xo n cx, .int .i64 (k : Nat), .slice wo n cw] w (MendP D m k c' y' w) := by
  have HM : Hid (Calls Tryz.prog 47 #[.int .i64 D.q, .slice xo n cx, .int .i64 (k : Nat), .slice wo n cw, .func (.func 49) #[] #[]] w (MendP D m k c' y' w)) := by
    refine mend_ok hD enters_bd hX hY hn hk1 hk hWd hH (fun F T g wx ao bo ac bc hat ha hb hkm => ?_)
    have e : (#[Value.agg #[.pointer (some ⟨F, 0, none⟩), .int .i64 (k : Nat), .slice ao m ac, .slice bo m bc]] ++ #[] : Array Value) = #[.agg #[.pointer (some ⟨F, 0, none⟩), .int .i64 (k : Nat), .slice ao m ac, .slice bo m bc]] := rfl
    rw [e]
    exact byDivisors_any hD hat ha hb (by have := hH.le; omega) hk1 hkm hH.cq hH.ne hH.yq
  clear hX hY hWd hH
  go_enter Tryz.func38, Tryz.ntmps38
  go_wp2_with fail
  refine HM.out.mono ?_
  rintro e w1 ⟨hb, ⟨a, ha, v, rfl, hv⟩ | ⟨hno, rfl⟩⟩
  · have H1 : Hid (Below w.heap.size w w1 ∧ NearH D m k c' y' a ∧ OwnP w.heap.size v k a w1) := ⟨hb, ha, hv⟩
    clear hb ha hv
    go_wp2
    refine bodyPost_ret (results_four rfl _ _ _) rfl ?_
    exact ⟨H1.out.1, Or.inl ⟨a, H1.out.2.1, v, rfl, H1.out.2.2⟩⟩
  · have H1 : Hid (Below w.heap.size w w1 ∧ ∀ a, ¬ NearH D m k c' y' a) := ⟨hb, hno⟩
    clear hb hno
    go_wp2
    refine bodyPost_ret (results_four rfl _ _ _) rfl ?_
    exact ⟨H1.out.1, Or.inr ⟨H1.out.2, rfl⟩⟩
/-- Two near messages are one. -/
theorem NearH.one {D : FD} (hD : D ∈ fieldsL) {n m k : Nat} {c c' y' a b : Nat → Nat} {y : Nat → Int} (hH : Heard D n c y m c' y') (ha : NearH D m k c' y' a) (hb : NearH D m k c' y' b) : a = b :=
  Go.Proofs.YtnjbnamcedfjaaaGreat.near_one (fld hD) ha.2.2.1 hH.cq hH.ne ha.1 hb.1 ha.2.1 hb.2.1 ha.2.2.2 hb.2.2.2
end Go.Proofs.YtnjbnamcedfjaaaGreat

/- Plain mathematics of words that are mended by equations: there is a solution where a near message is, and each solution tells it. No Go text here. -/
namespace Go.Proofs.YtnjbnamcedfjaaaGreat
open Go.RowKit Go.Sort

theorem dt_dot {D : FD} (u v : Nat → Nat) : ∀ n, dt D u v n = dot D u v n
  | 0 => rfl
  | n + 1 => by
    show D.ad (dt D u v n) (D.mul (u n) (v n)) = D.ad (dot D u v n) (D.mul (u n) (v n))
    rw [dt_dot u v n]
/-- Where equations have a solution, no row says 0 = 1. -/
theorem sol_meets {D : FD} (F : Fld D) {m n k : Nat} {R M : Nat → Nat → Nat} {p b u : Nat → Nat} (h : Rdg D m (n + 1) n k R p) (hel : ∀ i, i < m → El D (M i)) (hb : ∀ i, i < m → b i < D.q) (hs : ∀ v, Spn D (RowsOf m R) v ↔ Spn D (RowsOf m (aug n M b)) v)
    (hu : ∀ i, i < m → dot D (M i) u n = b i) : ∀ i, k ≤ i → i < m → R i n = 0 := fun i hk hi => by
  have h1 : Spn D (RowsOf m (aug n M b)) (R i) := (hs _).1 (spn_mem F (h.el i hi) ⟨i, hi, rfl⟩)
  have h2 : El D (R i) ∧ dt D (R i) u n = R i n := by
    refine spn_ind (Q := fun v => El D v ∧ dt D v u n = v n) ⟨el_nil F, dt_nil F _ _⟩ ?_ ?_ ?_ h1
    · rintro x y ⟨a1, a2⟩ ⟨b1, b2⟩
      refine ⟨el_add F a1 b1, ?_⟩
      rw [dt_add F _ a1 b1, a2, b2]; rfl
    · rintro s v ⟨a1, a2⟩
      refine ⟨el_scale F _ _, ?_⟩
      rw [dt_scale F, a2]; rfl
    · rintro v ⟨j, hj, rfl⟩
      refine ⟨aug_el (hel j hj) (hb j hj), ?_⟩
      have e : dot D (aug n M b j) u n = dot D (M j) u n := dot_congr n fun c hc => ⟨if_neg (by omega), rfl⟩
      rw [dt_dot, e, hu j hj]
      exact (if_pos rfl).symm
  have h3 : dot D (R i) u n = dot D pnil u n := dot_congr n fun c hc => ⟨h.rest i c hk hi hc, rfl⟩
  rw [← h2.2, dt_dot, h3, dot_nil F]
/-- What is told is a solution. -/
theorem sol_is {D : FD} (F : Fld D) {m n k : Nat} {R M : Nat → Nat → Nat} {p b : Nat → Nat} (h : Rdg D m (n + 1) n k R p) (h0 : ∀ i, k ≤ i → i < m → R i n = 0) (hel : ∀ i, i < m → El D (M i)) (hb : ∀ i, i < m → b i < D.q) (hs : ∀ v, Spn D (RowsOf m R) v ↔ Spn D (RowsOf m (aug n M b)) v) :
    El D (slx R p n k) ∧ ∀ i, i < m → dot D (M i) (slx R p n k) n = b i := by
  obtain ⟨h2, _, h3⟩ := rdg_end F (rdg_skip h h0)
  refine ⟨slx_el F k h2.el, fun i hi => ?_⟩
  rw [← dt_dot]
  exact slx_solves F h2 (fun i hi => by have := h.lt i hi; omega) hel hb (fun v => (h3 v).trans (hs v)) i hi
/-- The equations have a solution, where a near message is. -/
theorem eqs_have {D : FD} (F : Fld D) {xs y a : Nat → Nat} {n k wr : Nat} (hx : ∀ i, i < n → xs i < D.q) (ho : ofs D k n xs y a ≤ wr) :
    ∃ u, ∀ i, i < n → dot D (rwq D (xs i) (y i) (k + wr) wr) u (k + wr + wr) = D.mul (y i) (D.xp (xs i) wr) := by
  obtain ⟨E, h1, h2, h3, h4⟩ := loc_ex F (err := fun i => !decide (D.ev a (xs i) k = y i)) hx ho
  have hpb : Bd (k + wr) (pmul D k a E) := by
    have := pmul_bd F (a := a) h2 k
    rw [show k + (wr + 1) - 1 = k + wr by omega] at this
    exact this
  have hpe := el_mul F a E k
  obtain ⟨u, hu⟩ : ∃ u : Nat → Nat, u = fun c => if c < k + wr then pmul D k a E c else E (c - (k + wr)) := ⟨_, rfl⟩
  have hue : El D u := fun c => by
    rw [hu]
    show (if c < k + wr then pmul D k a E c else E (c - (k + wr))) < D.q
    split
    · exact hpe c
    · exact h1 _
  refine ⟨u, fun i hi => ?_⟩
  rw [rwq_dot F (xs i) (y i) (k + wr) hue wr]
  have e1 : D.ev u (xs i) (k + wr) = D.ev (pmul D k a E) (xs i) (k + wr) := ev_congr (xs i) _ fun c hc => by rw [hu]; exact if_pos hc
  have e2 : (fun c => u (k + wr + c)) = E := by
    funext c
    rw [hu]
    show (if k + wr + c < k + wr then _ else E (k + wr + c - (k + wr))) = E c
    rw [if_neg (by omega), Nat.add_sub_cancel_left]
  have e3 : D.ev (pmul D k a E) (xs i) (k + wr) = D.mul (D.ev a (xs i) k) (D.ev E (xs i) (wr + 1)) := by
    rw [← ev_from F (xs i) hpb (show k + wr ≤ k + (wr + 1) by omega), ev_mul F (xs i) h2 h1 k (k + (wr + 1)) (Nat.le_refl _)]
  have e4 : D.mul (D.ev a (xs i) k) (D.ev E (xs i) (wr + 1)) = D.mul (y i) (D.ev E (xs i) (wr + 1)) := by
    by_cases e : D.ev a (xs i) k = y i
    · rw [e]
    · rw [h4 i hi (by simp [e]), mul0 F, mul0 F]
  have e5 : D.ev E (xs i) (wr + 1) = D.ad (D.xp (xs i) wr) (D.ev E (xs i) wr) := by
    show D.ad (D.ev E (xs i) wr) (D.mul (E wr) (D.xp (xs i) wr)) = _
    rw [h3, omul F (xp_lt F _ _), ad_comm F]
  rw [e1, e2, e3, e4, e5, mul_ad F (xp_lt F _ _) (ev_lt F _ _ _), sb_ad F (F.mul_lt _ _) (F.mul_lt _ _)]
/-- The second part of a solution, with 1 behind it. -/
def eqE (wr long : Nat) (s : Nat → Nat) : Nat → Nat := fun c => if c < wr then s (long + c) else if c = wr then 1 else 0
theorem eqE_el {D : FD} (F : Fld D) {wr long : Nat} {s : Nat → Nat} (h : El D s) : El D (eqE wr long s) := fun c => by
  unfold eqE
  split
  · exact h _
  · split
    · exact one_lt' F
    · exact zero_lt' F
theorem eqE_bd (wr long : Nat) (s : Nat → Nat) : Bd (wr + 1) (eqE wr long s) := fun c hc => by
  unfold eqE
  rw [if_neg (by omega), if_neg (by omega)]
theorem eqE_top (wr long : Nat) (s : Nat → Nat) : eqE wr long s wr = 1 := by
  unfold eqE
  rw [if_neg (by omega), if_pos rfl]
/-- Each solution tells the near message. -/
theorem eqs_find {D : FD} (F : Fld D) {xs y a s : Nat → Nat} {n k wr : Nat} (hw : k + wr + wr ≤ n) (hx : ∀ i, i < n → xs i < D.q) (hne : ∀ i j, i < n → j < n → i ≠ j → xs i ≠ xs j) (hs : El D s)
    (he : ∀ i, i < n → dot D (rwq D (xs i) (y i) (k + wr) wr) s (k + wr + wr) = D.mul (y i) (D.xp (xs i) wr)) (ho : ofs D k n xs y a ≤ wr) : cutN (k + wr) s = pmul D k a (eqE wr (k + wr) s) := by
  refine key_eq F (y := y) (M := k + wr) (Nat.le_refl _) hw hx hne (fun c => by unfold cutN; split; exact hs c; exact zero_lt' F) (fun c hc => if_neg (by omega)) (eqE_el F hs) (eqE_bd _ _ _) ho (fun i hi => ?_)
  have h := he i hi
  rw [rwq_dot F (xs i) (y i) (k + wr) hs wr] at h
  have e1 : D.ev (cutN (k + wr) s) (xs i) (k + wr) = D.ev s (xs i) (k + wr) := ev_congr (xs i) _ fun c hc => if_pos hc
  have e2 : D.ev (eqE wr (k + wr) s) (xs i) wr = D.ev (fun c => s (k + wr + c)) (xs i) wr := ev_congr (xs i) _ fun c hc => if_pos hc
  have e3 : D.ev (eqE wr (k + wr) s) (xs i) (wr + 1) = D.ad (D.ev (fun c => s (k + wr + c)) (xs i) wr) (D.xp (xs i) wr) := by
    show D.ad (D.ev (eqE wr (k + wr) s) (xs i) wr) (D.mul (eqE wr (k + wr) s wr) (D.xp (xs i) wr)) = _
    rw [eqE_top, omul F (xp_lt F _ _), e2]
  rw [e1, e3, mul_ad F (ev_lt F _ _ _) (xp_lt F _ _), ← h, ad_sb F (ev_lt F _ _ _) (F.mul_lt _ _)]
end Go.Proofs.YtnjbnamcedfjaaaGreat

/- Steps of a region that draws its order: rows that are made; an append that makes a new block, since none of the old one is left. -/
namespace Go.Proofs.YtnjbnamcedfjaaaGreat
open Go.RowKit Go.Sort

theorem step_make_int {ops : Array Oper} {o : Oper} {a : Act} {w : World} {K : Act → World → Prop} {Q : Exit → Act → World → Prop} {E : Prop} (hgd : o.guard = none) (l c : Operand) (hop : o.op = Op.makeSlice 22 l c) (n : Nat) (hl : a.eval l = .int .i64 (n : Int)) (hc : a.eval c = .int .i64 (n : Int)) (hn : n ≤ 1000000)
    (h : ∀ w', Row w.heap.size n pnil w' → Below w.heap.size w w' → w'.heap.size = w.heap.size + 1 → K (a.put o.dst (.slice (some ⟨w.heap.size, 0, none⟩) n n)) w') : if Region.wanted o (yielded ops a.tmps) = true then Oper.wp Tryz.prog o a w K Q else E := by
  have hw : Region.wanted o (yielded ops a.tmps) = true := by simp [Region.wanted, hgd]
  rw [if_pos hw]
  obtain ⟨i0, hi, hz0, hz1, hz2⟩ := info_parts Tryz.infoInt
  have hrun := run_make_row (P := Tryz.prog) 22 3 i0 (.int .i64 0) Tryz.underlying22 hi hz0 hz1 rfl .i64 .i64 n (by rw [hz2]; omega) (by omega) w
  unfold Oper.wp
  simp [execOp, hop, hl, hc, hrun, Result.andThen]
  refine h _ ⟨n, fun _ => .int .i64 0, ⟨_, two_new _, ?_, fun o ho => ?_⟩, Nat.le_refl _, fun _ _ => rfl⟩ ((Below.refl _ _).alloc (Nat.le_refl _) _) (by simp)
  · simp [madeCells]
  · simp [madeCells, ho, Nat.mod_one]
theorem step_make_sls {ops : Array Oper} {o : Oper} {a : Act} {w : World} {K : Act → World → Prop} {Q : Exit → Act → World → Prop} {E : Prop} (hgd : o.guard = none) (l c : Operand) (hop : o.op = Op.makeSlice 73 l c) (n : Nat) (hl : a.eval l = .int .i64 (n : Int)) (hc : a.eval c = .int .i64 (n : Int)) (hn : n ≤ 1000000)
    (h : ∀ w', RowF w.heap.size n 22 (fun _ => .slice none 0 0) w' → Below w.heap.size w w' → w'.heap.size = w.heap.size + 1 → K (a.put o.dst (.slice (some ⟨w.heap.size, 0, none⟩) n n)) w') : if Region.wanted o (yielded ops a.tmps) = true then Oper.wp Tryz.prog o a w K Q else E := by
  have hw : Region.wanted o (yielded ops a.tmps) = true := by simp [Region.wanted, hgd]
  rw [if_pos hw]
  obtain ⟨i0, hi, hz0, hz1, hz2⟩ := info_parts Tryz.infoSl
  have hrun := run_make_row (P := Tryz.prog) 73 22 i0 (.slice none 0 0) Tryz.underlying73 hi hz0 hz1 rfl .i64 .i64 n (by rw [hz2]; omega) (by omega) w
  unfold Oper.wp
  simp [execOp, hop, hl, hc, hrun, Result.andThen]
  refine h _ ⟨_, two_new _, ?_, fun o ho => ?_⟩ ((Below.refl _ _).alloc (Nat.le_refl _) _) (by simp)
  · simp [madeCells]
  · simp [madeCells, ho, Nat.mod_one]
theorem step_append_full {ops : Array Oper} {o : Oper} {a : Act} {w : World} {K : Act → World → Prop} {Q : Exit → Act → World → Prop} {E : Prop} (hgd : o.guard = none) (s x : Operand)
    (ho : o.op = .call { callee := .builtin .append, args := #[s, x], argTypes := #[22, 22] }) (b : Addr) (m : Nat) (c : Nat → Nat) (hs : a.eval s = .slice (some b) m m) (hS : ∀ j, j < m → w.cell? (b.add j) = some (.int .i64 (c j : Nat)))
    (ad : Addr) (cc y : Nat) (hx : a.eval x = .slice (some ad) 1 cc) (hcell : w.cell? ad = some (.int .i64 (y : Nat))) (hm : m ≤ 1000)
    (h : ∀ cap w', m + 1 ≤ cap → cap ≤ 9223372036854775807 → Row w.heap.size (m + 1) (fun j => if j < m then c j else y) w' → Below w.heap.size w w' → K (a.put o.dst (.slice (some ⟨w.heap.size, 0, none⟩) (m + 1 : Nat) cap)) w') : if Region.wanted o (yielded ops a.tmps) = true then Oper.wp Tryz.prog o a w K Q else E := by
  have hw : Region.wanted o (yielded ops a.tmps) = true := by simp [Region.wanted, hgd]
  rw [if_pos hw]
  obtain ⟨i0, hi, hz0, hz1, hz2⟩ := info_parts Tryz.infoInt
  have hr := run_append_grow (P := Tryz.prog) w 22 o.type 3 i0 (.int .i64 0) Tryz.underlying22 hi hz0 b m m (vl m fun j => .int .i64 (c j : Nat)) (by rw [vl_len, hz1]; omega)
    (fun j v hj => by
      have hj' : j < m := by
        have := (List.getElem?_eq_some_iff.1 hj).1
        rwa [vl_len] at this
      rw [vl_get m _ j hj'] at hj
      cases hj
      exact hS j hj') ad 1 cc [.int .i64 (y : Nat)] (by rw [hz1]; rfl)
    (fun j v hj => by
      match j, hj with
      | 0, hj =>
        simp at hj; subst hj
        have : ad.add 0 = ad := by cases ad with | mk b o s => cases s <;> simp [Addr.add]
        rw [this]; exact hcell) (by omega) (by omega) (growslice_fits (by omega) (by rw [hz2]; omega))
  have hge := grownCap_ge w (m + 1) m 3
  have hcm := grownCap_le_maxLen w (m + 1) m 3 (by unfold maxLen; omega)
  unfold Oper.wp
  simp [execOp, ho, resolve, invoke, builtin, hs, hx, hr, Result.andThen]
  refine h _ _ hge (by unfold maxLen at hcm; omega) ?_ ((Below.refl _ _).drew.alloc (Nat.le_refl _) _)
  obtain ⟨zs, hzs⟩ : ∃ zs, zs = Builtin.zeroCells (Value.int .i64 0).cells (grownCap w (m + 1) m 3 - (m + 1)) := ⟨_, rfl⟩
  refine ⟨_, _, rowF_new w.drew _ 3 _ rfl, ?_, fun k hk => ?_⟩
  · simp [vl_len]
  · unfold hbx'
    rw [Array.getD_eq_getD_getElem?]
    have e : ((vl m fun j => Value.int .i64 (c j : Nat)).toArray ++ [Value.int .i64 (y : Nat)].toArray ++ zs)[k]? = some (.int .i64 ((if k < m then c k else y : Nat) : Int)) := by
      rw [Array.getElem?_append_left (by simp [vl_len]; omega)]
      by_cases e : k < m
      · rw [Array.getElem?_append_left (by simp [vl_len]; omega), List.getElem?_toArray, vl_get m _ k e, if_pos e]
      · rw [Array.getElem?_append_right (by simp [vl_len]; omega), if_neg e]
        have : k = m := by omega
        subst this
        simp [vl_len]
    first
      | (rw [hzs] at e; simp at e ⊢; rw [e]; rfl)
      | (rw [hzs] at e; simp at e ⊢; simp [e])
end Go.Proofs.YtnjbnamcedfjaaaGreat
