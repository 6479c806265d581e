/- The program's reed: equation (the row of one place). -/
import Derived.Test.YtcgmllamiaflcaaZKD5
namespace Go.Proofs.Ytcgmllamiaflcaa
open Go.RowKit Go.Sort

theorem pow_nat {F T : Nat} {D : FD} (hD : D ∈ fieldsL) {g : Nat → Value} {w : World} (h : FAt F T D g w) {a : Nat} (ha : a < D.q) (k : Nat) (hk : k ≤ 1000) :
    Calls Try.prog 71 #[.pointer (some ⟨F, 0, none⟩), .int .i64 (a : Nat), .int .i64 (k : Nat)] w fun e w' => e = .returned (.int .i64 (D.xp a k : Nat)) ∧ ∃ n, w' = w.drewN n := by
  have h1 := pow_any hD h (a : Nat) (k : Nat) (by omega) (by omega)
  rw [pn_eq ha, pn_xp hD ha] at h1
  exact h1
def EqI (D : FD) (x y long wr : Nat) (m : Nat) (w : World) (vr vi : Value) (wx : World) (off : Nat) : Prop := ∃ j : Nat, j ≤ m ∧ vi = .int .i64 (j : Nat) ∧ Hid (OwnI w.heap.size vr (zl (off + j) fun c => ((rwq D x y long wr c : Nat) : Int)) wx ∧ Below w.heap.size w wx)

set_option maxHeartbeats 8000000 in
set_option maxRecDepth 100000 in
theorem equation_any {F T : Nat} {D : FD} (hD : D ∈ fieldsL) {g : Nat → Value} {w : World} (hat : FAt F T D g w) {xo yo : Option Addr} {n k xc yc : Nat} {xs y : Nat → Nat} (hX : Arg xo n xc (fun j => ((xs j : Nat) : Int)) w) (hY : Arg yo n yc (fun j => ((y j : Nat) : Int)) w) (hx : ∀ i, i < n → xs i < D.q) (hy : ∀ i, i < n → y i < D.q) (i long wr : Nat) (hi : i < n) (hl : long ≤ 64) (hw : wr ≤ 64) :
    Calls Try.prog 57 #[.agg #[.pointer (some ⟨F, 0, none⟩), .int .i64 (k : Nat), .slice xo n xc, .slice yo n yc], .int .i64 (i : Nat), .int .i64 (long : Nat), .int .i64 (wr : Nat)] w fun e w' => ∃ v, e = .returned (.tuple #[v, .int .i64 (D.mul (y i) (D.xp (xs i) wr) : Nat)]) ∧ OwnI w.heap.size v (zl (long + wr) fun c => ((rwq D (xs i) (y i) long wr c : Nat) : Int)) w' ∧ Below w.heap.size w w' := by
  obtain ⟨w0, hw0⟩ : ∃ w0, w0 = w.alloc (.cells #[.pointer (some ⟨F, 0, none⟩), .int .i64 (k : Nat), .slice xo n xc, .slice yo n yc] 80) := ⟨_, rfl⟩
  have hb0 : Below w.heap.size w w0 := by rw [hw0]; exact (Below.refl _ _).alloc (Nat.le_refl _) _
  have hs0 : w0.heap.size = w.heap.size + 1 := by rw [hw0]; simp
  have r0 : RowF w.heap.size 4 80 (hbx' #[.pointer (some ⟨F, 0, none⟩), .int .i64 (k : Nat), .slice xo n xc, .slice yo n yc]) w0 := by rw [hw0]; exact rowF_new _ _ _ _ rfl
  have HBx : Hid (∀ wx, Below w0.heap.size w0 wx → wx.cell? ⟨w.heap.size, 0, none⟩ = some (.pointer (some ⟨F, 0, none⟩)) ∧ wx.cell? ⟨w.heap.size, 2, none⟩ = some (.slice xo n xc) ∧ wx.cell? ⟨w.heap.size, 3, none⟩ = some (.slice yo n yc)) := fun wx hb => by
    have h := r0.below hb (by omega)
    exact ⟨h.cell 0 (by omega), h.cell 2 (by omega), h.cell 3 (by omega)⟩
  have HFt : Hid (∀ wx, Below w0.heap.size w0 wx → FAt F T D g wx) := fun wx hb => (hat.below hb0 hat.ltF hat.ltT).below hb (hat.below hb0 hat.ltF hat.ltT).ltF (hat.below hb0 hat.ltF hat.ltT).ltT
  obtain ⟨bx, ox, hxo, cx0⟩ := (hX.below hb0).sl i hi
  obtain ⟨by', oy, hyo, cy0⟩ := (hY.below hb0).sl i hi
  subst hxo hyo
  obtain ⟨x, hxe⟩ : ∃ x, x = xs i := ⟨_, rfl⟩
  obtain ⟨yv, hye⟩ : ∃ yv, yv = y i := ⟨_, rfl⟩
  rw [← hxe, ← hye]
  have cx : w0.cell? ⟨bx, ox + i, none⟩ = some (.int .i64 (xs i : Nat)) := cx0
  have cy : w0.cell? ⟨by', oy + i, none⟩ = some (.int .i64 (y i : Nat)) := cy0
  clear cx0 cy0
  rw [← hxe] at cx
  rw [← hye] at cy
  have hxq : x < D.q := by rw [hxe]; exact hx i hi
  have hyq : yv < D.q := by rw [hye]; exact hy i hi
  have HX : Hid (D ∈ fieldsL ∧ x < D.q ∧ yv < D.q ∧ Below w.heap.size w w0) := ⟨hD, hxq, hyq, hb0⟩
  have hib : (i : Int) < (n : Int) := by omega
  have hi0 : (0 : Int) ≤ (i : Int) := by omega
  obtain ⟨b0, b2, b3⟩ := HBx.out w0 (Below.refl _ _)
  clear hD hat hX hY hb0 r0 hx hy hxe hye hxq hyq
  go_enter Try.func57, Try.ntmps57
  go_wp2
  rw [← hw0]
  clear hw0
  go_quiet (fail)
  obtain ⟨w1, hw1⟩ : ∃ w1, w1 = w0.drewN nq := ⟨_, rfl⟩
  have HB1 : Hid (Below w0.heap.size w0 w1) := by rw [hw1]; exact below_drewN2 (Below.refl _ _) nq
  rw [← hw1]
  clear hw1 b0 b2 b3 cx cy
  go_wp2
  go_loopw [8, 25] (fun vr vi wx => EqI D x yv long wr long w0 vr vi wx 0) (fun _ vi _ => long - (intOf vi).toNat)
  case atStart => exact ⟨0, by omega, rfl, OwnI.nil _ _, HB1.out⟩
  case round =>
    obtain ⟨j, hj, rfl, HI⟩ := hrel
    rename World => wr1
    clear HB1
    rw [Nat.zero_add] at HI
    obtain ⟨b0, b2, b3⟩ := HBx.out wr1 HI.out.2
    have hlr : w.heap.size < wr1.heap.size := by have := HI.out.2.size; omega
    by_cases hlt : j < long
    · have hjb : (j : Int) < (long : Int) := by omega
      have HP : Hid (Calls Try.prog 71 #[.pointer (some ⟨F, 0, none⟩), .int .i64 (x : Nat), .int .i64 (j : Nat)] wr1 fun e w' => e = .returned (.int .i64 (D.xp x j : Nat)) ∧ ∃ n, w' = wr1.drewN n) := pow_nat HX.out.1 (HFt.out wr1 HI.out.2) HX.out.2.1 j (by omega)
      go_wp2_with fail
      refine HP.out.mono ?_
      rintro e w2 ⟨rfl, d2, hw2⟩
      have H2 : Hid (OwnI w0.heap.size u8 (zl j fun c => ((rwq D x yv long wr c : Nat) : Int)) w2 ∧ Below w0.heap.size w0 w2) := by rw [hw2]; exact ⟨HI.out.1.drewN d2, below_drewN2 HI.out.2 d2⟩
      have hsr := H2.out.2.size
      clear hw2 b0 b2 b3
      go_wp2_with (at_builtin; refine append_int rfl _ _ rfl w0.heap.size _ (zl j fun c => ((rwq D x yv long wr c : Nat) : Int)) rfl (H2.out.1.alloc _) ⟨_, 0, none⟩ 1 ((D.xp x j : Nat) : Int) rfl (by simp) (by rw [zl_len]; omega) (by simp; omega) ?_; intro v5 w5 hown5 hgrow5)
      have HR : Hid (OwnI w0.heap.size v5 (zl (0 + (j + 1)) fun c => ((rwq D x yv long wr c : Nat) : Int)) w5 ∧ Below w0.heap.size w0 w5) := by
        refine ⟨?_, (H2.out.2.alloc hsr _).grown hgrow5 (by simp; omega) (fun b hb => (H2.out.1.lt b hb).1)⟩
        rw [Nat.zero_add, zl_succ, show rwq D x yv long wr j = D.xp x j from if_pos hlt]
        exact hown5
      clear hown5 hgrow5
      go_roundw
      case rel => exact ⟨j + 1, by omega, by go_num, HR.out⟩
      case measure => simp [intOf]; omega
    · have hjb : ¬ (j : Int) < (long : Int) := by omega
      have hje : j = long := by omega
      subst hje
      go_wp2
      go_loopw [8, 38] (fun vr vi wx => EqI D x yv j wr wr w0 vr vi wx j) (fun _ vi _ => wr - (intOf vi).toNat)
      case atStart => exact ⟨0, by omega, rfl, HI.out⟩
      case round =>
        obtain ⟨t, ht, rfl, HJ⟩ := hrel
        rename World => wr2
        clear b0 b2 b3
        obtain ⟨b0, b2, b3⟩ := HBx.out wr2 HJ.out.2
        have hl2 : w.heap.size < wr2.heap.size := by have := HJ.out.2.size; omega
        by_cases htl : t < wr
        · have htb : (t : Int) < (wr : Int) := by omega
          obtain ⟨p1, hp1⟩ : ∃ p1, p1 = D.xp x t := ⟨_, rfl⟩
          obtain ⟨p2, hp2⟩ : ∃ p2, p2 = D.mul yv p1 := ⟨_, rfl⟩
          obtain ⟨p3, hp3⟩ : ∃ p3, p3 = D.ng p2 := ⟨_, rfl⟩
          have F' := fld HX.out.1
          have HC1 : Hid (∀ d, Calls Try.prog 71 #[.pointer (some ⟨F, 0, none⟩), .int .i64 (x : Nat), .int .i64 (t : Nat)] (wr2.drewN d) fun e w' => e = .returned (.int .i64 (p1 : Nat)) ∧ ∃ k, w' = (wr2.drewN d).drewN k) := fun d => by
            rw [hp1]; exact pow_nat HX.out.1 ((HFt.out wr2 HJ.out.2).drewN d) HX.out.2.1 t (by omega)
          have HC2 : Hid (∀ d, Calls Try.prog 20 #[.pointer (some ⟨F, 0, none⟩), .int .i64 (yv : Nat), .int .i64 (p1 : Nat)] (wr2.drewN d) fun e w' => e = .returned (.int .i64 (p2 : Nat)) ∧ ∃ k, w' = (wr2.drewN d).drewN k) := fun d => by
            rw [hp2]; exact mul_nat HX.out.1 ((HFt.out wr2 HJ.out.2).drewN d) HX.out.2.2.1 (by rw [hp1]; exact xp_lt F' _ _)
          have HC3 : Hid (∀ d, Calls Try.prog 41 #[.pointer (some ⟨F, 0, none⟩), .int .i64 (p2 : Nat)] (wr2.drewN d) fun e w' => e = .returned (.int .i64 (p3 : Nat)) ∧ ∃ k, w' = (wr2.drewN d).drewN k) := fun d => by
            rw [hp3]; exact neg_nat HX.out.1 ((HFt.out wr2 HJ.out.2).drewN d) (by rw [hp2]; exact F'.mul_lt _ _)
          have HV : Hid (rwq D x yv j wr (j + t) = p3) := by
            show (if j + t < j then _ else if j + t < j + wr then _ else _) = _
            rw [if_neg (by omega), if_pos (by omega), Nat.add_sub_cancel_left, hp3, hp2, hp1]
          clear hp1 hp2 hp3 F'
          go_wp2
          refine wp_region_noPanic ?_
          have HSk : Hid (∀ d, (wr2.drewN d).cell? ⟨w.heap.size, 0, none⟩ = some (.pointer (some ⟨F, 0, none⟩))) := fun d => b0
          have hS0 := HSk.out 1
          refine wp_region_L (S := fun wz => wz.cell? ⟨w.heap.size, 0, none⟩ = some (.pointer (some ⟨F, 0, none⟩))) [] (by kernel_rfl) ?_
          clear b0 b2 b3
          refine wpAnyL_take (i := 0) (v := ?_) (by rw [List.getElem?_toArray]; rfl) (by decide +kernel) (by decide +kernel) (by decide +kernel) (by decide +kernel) (by decide +kernel) (fun _ _ _ h => h) hS0 (Or.inl ⟨by rfl, ?_⟩) ?_
          rotate_left
          · intro wz hSz; have z0 : wz.cell? ⟨w.heap.size, 0, none⟩ = some (.pointer (some ⟨F, 0, none⟩)) := hSz; go_simp; first | done | with_reducible rfl
          try simp only [Act.put, List.setIfInBounds_toArray, List.set_cons_zero, List.set_cons_succ]
          refine wpAnyL_take (i := 1) (v := ?_) (by rw [List.getElem?_toArray]; rfl) (by decide +kernel) (by decide +kernel) (by decide +kernel) (by decide +kernel) (by decide +kernel) (fun _ _ _ h => h) hS0 (Or.inl ⟨by rfl, ?_⟩) ?_
          rotate_left
          · intro wz hSz; have z0 : wz.cell? ⟨w.heap.size, 0, none⟩ = some (.pointer (some ⟨F, 0, none⟩)) := hSz; go_simp; first | done | with_reducible rfl
          try simp only [Act.put, List.setIfInBounds_toArray, List.set_cons_zero, List.set_cons_succ]
          refine wpAnyL_take (i := 2) (v := ?_) (by rw [List.getElem?_toArray]; rfl) (by decide +kernel) (by decide +kernel) (by decide +kernel) (by decide +kernel) (by decide +kernel) (fun _ _ _ h => h) hS0 (Or.inl ⟨by rfl, ?_⟩) ?_
          rotate_left
          · intro wz hSz; have z0 : wz.cell? ⟨w.heap.size, 0, none⟩ = some (.pointer (some ⟨F, 0, none⟩)) := hSz; go_simp; first | done | with_reducible rfl
          try simp only [Act.put, List.setIfInBounds_toArray, List.set_cons_zero, List.set_cons_succ]
          refine wpAnyL_take (i := 3) (v := ?_) (by rw [List.getElem?_toArray]; rfl) (by decide +kernel) (by decide +kernel) (by decide +kernel) (by decide +kernel) (by decide +kernel) (fun _ _ _ h => h) hS0 (Or.inl ⟨by rfl, ?_⟩) ?_
          rotate_left
          · intro wz hSz; have z0 : wz.cell? ⟨w.heap.size, 0, none⟩ = some (.pointer (some ⟨F, 0, none⟩)) := hSz; go_simp; first | done | with_reducible rfl
          try simp only [Act.put, List.setIfInBounds_toArray, List.set_cons_zero, List.set_cons_succ]
          refine wpAnyL_take (i := 4) (v := ?_) (by rw [List.getElem?_toArray]; rfl) (by decide +kernel) (by decide +kernel) (by decide +kernel) (by decide +kernel) (by decide +kernel) (fun _ _ _ h => h) hS0 (Or.inl ⟨by rfl, ?_⟩) ?_
          rotate_left
          · intro wz hSz; have z0 : wz.cell? ⟨w.heap.size, 0, none⟩ = some (.pointer (some ⟨F, 0, none⟩)) := hSz; go_simp; first | done | with_reducible rfl
          try simp only [Act.put, List.setIfInBounds_toArray, List.set_cons_zero, List.set_cons_succ]
          refine wpAnyL_take (i := 5) (v := ?_) (by rw [List.getElem?_toArray]; rfl) (by decide +kernel) (by decide +kernel) (by decide +kernel) (by decide +kernel) (by decide +kernel) (fun _ _ _ h => h) hS0 (Or.inl ⟨by rfl, ?_⟩) ?_
          rotate_left
          · intro wz hSz; have z0 : wz.cell? ⟨w.heap.size, 0, none⟩ = some (.pointer (some ⟨F, 0, none⟩)) := hSz; go_simp; first | done | with_reducible rfl
          try simp only [Act.put, List.setIfInBounds_toArray, List.set_cons_zero, List.set_cons_succ]
          refine wpAnyL_take (i := 6) (v := ?_) (by rw [List.getElem?_toArray]; rfl) (by decide +kernel) (by decide +kernel) (by decide +kernel) (by decide +kernel) (by decide +kernel) (fun _ _ _ h => h) hS0 (Or.inl ⟨by rfl, ?_⟩) ?_
          rotate_left
          · intro wz hSz; have z0 : wz.cell? ⟨w.heap.size, 0, none⟩ = some (.pointer (some ⟨F, 0, none⟩)) := hSz; go_simp; first | done | with_reducible rfl
          try simp only [Act.put, List.setIfInBounds_toArray, List.set_cons_zero, List.set_cons_succ]
          refine wpAnyL_take (i := 7) (v := ?_) (by rw [List.getElem?_toArray]; rfl) (by decide +kernel) (by decide +kernel) (by decide +kernel) (by decide +kernel) (by decide +kernel) (fun _ _ _ h => h) hS0 (Or.inl ⟨by rfl, ?_⟩) ?_
          rotate_left
          · intro wz hSz; have z0 : wz.cell? ⟨w.heap.size, 0, none⟩ = some (.pointer (some ⟨F, 0, none⟩)) := hSz; go_simp; first | done | with_reducible rfl
          try simp only [Act.put, List.setIfInBounds_toArray, List.set_cons_zero, List.set_cons_succ]
          refine wpAnyL_take (i := 8) (v := ?_) (by rw [List.getElem?_toArray]; rfl) (by decide +kernel) (by decide +kernel) (by decide +kernel) (by decide +kernel) (by decide +kernel) (fun _ _ _ h => h) hS0 (Or.inl ⟨by rfl, ?_⟩) ?_
          rotate_left
          · intro wz hSz; have z0 : wz.cell? ⟨w.heap.size, 0, none⟩ = some (.pointer (some ⟨F, 0, none⟩)) := hSz; go_simp; first | done | with_reducible rfl
          try simp only [Act.put, List.setIfInBounds_toArray, List.set_cons_zero, List.set_cons_succ]
          refine wpAnyL_take (i := 9) (v := ?_) (by rw [List.getElem?_toArray]; rfl) (by decide +kernel) (by decide +kernel) (by decide +kernel) (by decide +kernel) (by decide +kernel) (fun _ _ _ h => h) hS0 (Or.inl ⟨by rfl, ?_⟩) ?_
          rotate_left
          · intro wz hSz; have z0 : wz.cell? ⟨w.heap.size, 0, none⟩ = some (.pointer (some ⟨F, 0, none⟩)) := hSz; go_simp; first | done | with_reducible rfl
          try simp only [Act.put, List.setIfInBounds_toArray, List.set_cons_zero, List.set_cons_succ]
          refine wpAnyL_one (i := 10) (by kernel_rfl) (by rw [List.getElem?_toArray]; rfl) (fun K hK => ?_)
          have HK : Hid _ := hK
          clear hK
          go_simp
          refine (HC1.out 1).mono ?_
          rintro e w' ⟨rfl, da, hw'⟩
          rw [World.drewN_drewN] at hw'
          subst hw'
          refine HK.out _ _ (fun _ => HSk.out _) ?_
          clear HK K
          try simp only [Act.put, List.setIfInBounds_toArray, List.set_cons_zero, List.set_cons_succ]
          refine wpAnyL_one (i := 11) (by kernel_rfl) (by rw [List.getElem?_toArray]; rfl) (fun K hK => ?_)
          have HK : Hid _ := hK
          clear hK
          go_simp
          refine (HC2.out (1 + da)).mono ?_
          rintro e w' ⟨rfl, db, hw'⟩
          rw [World.drewN_drewN] at hw'
          subst hw'
          refine HK.out _ _ (fun _ => HSk.out _) ?_
          clear HK K
          try simp only [Act.put, List.setIfInBounds_toArray, List.set_cons_zero, List.set_cons_succ]
          refine wpAnyL_one (i := 12) (by kernel_rfl) (by rw [List.getElem?_toArray]; rfl) (fun K hK => ?_)
          have HK : Hid _ := hK
          clear hK
          go_simp
          refine (HC3.out ((1 + da) + db)).mono ?_
          rintro e w' ⟨rfl, dc, hw'⟩
          rw [World.drewN_drewN] at hw'
          subst hw'
          refine HK.out _ _ (fun _ => HSk.out _) ?_
          clear HK K
          try simp only [Act.put, List.setIfInBounds_toArray, List.set_cons_zero, List.set_cons_succ]
          obtain ⟨w3, hw3⟩ : ∃ w3, w3 = wr2.drewN (((1 + da) + db) + dc) := ⟨_, rfl⟩
          have H3 : Hid (OwnI w0.heap.size u8 (zl (j + t) fun c => ((rwq D x yv j wr c : Nat) : Int)) w3 ∧ Below w0.heap.size w0 w3 ∧ w3.cell? ⟨w.heap.size, 0, none⟩ = some (.pointer (some ⟨F, 0, none⟩))) := by rw [hw3]; exact ⟨HJ.out.1.drewN _, below_drewN2 HJ.out.2 _, HSk.out _⟩
          rw [← hw3]
          have hsr := H3.out.2.1.size
          clear hw3
          refine wpAnyL_one (i := 13) (by kernel_rfl) (by rw [List.getElem?_toArray]; rfl) (fun K hK => ?_)
          have HK : Hid _ := hK
          clear hK
          go_simp
          obtain ⟨w4, hw4⟩ : ∃ w4, w4 = w3.alloc (.cells #[.int .i64 (p3 : Nat)] 3) := ⟨_, rfl⟩
          have H4 : Hid (OwnI w0.heap.size u8 (zl (j + t) fun c => ((rwq D x yv j wr c : Nat) : Int)) w4 ∧ Below w0.heap.size w0 w4 ∧ w4.cell? ⟨w.heap.size, 0, none⟩ = some (.pointer (some ⟨F, 0, none⟩)) ∧ w4.cell? ⟨w3.heap.size, 0, none⟩ = some (.int .i64 (p3 : Nat))) := by
            have hb4 : Below w3.heap.size w3 w4 := by rw [hw4]; exact (Below.refl _ _).alloc (Nat.le_refl _) _
            refine ⟨by rw [hw4]; exact H3.out.1.alloc _, bel_up' H3.out.2.1 hb4, ((bcell hb4).1 w.heap.size 0 (by omega)).trans H3.out.2.2, by rw [hw4]; exact two_cell w3 _⟩
          have hs4 := H4.out.2.1.size
          first | rw [← hw4] | skip
          refine HK.out _ _ (fun _ => H4.out.2.2.1) ?_
          clear HK K
          try simp only [Act.put, List.setIfInBounds_toArray, List.set_cons_zero, List.set_cons_succ]
          clear hw4
          refine wpAnyL_one (i := 14) (by kernel_rfl) (by rw [List.getElem?_toArray]; rfl) (fun K hK => ?_)
          refine step_append_int_at (by rfl) _ _ (by rfl) w0.heap.size _ (zl (j + t) fun c => ((rwq D x yv j wr c : Nat) : Int)) (by rfl) H4.out.1 ⟨w3.heap.size, 0, none⟩ 1 (p3 : Int) (by rfl) H4.out.2.2.2 (by rw [zl_len]; omega) hs4 ?_
          intro gv cv w5 hown5 hgrow5 _
          have H5 : Hid (OwnI w0.heap.size (.slice (some ⟨gv, 0, none⟩) ((zl (j + t) fun c => ((rwq D x yv j wr c : Nat) : Int)).length + 1) cv) (zl (j + (t + 1)) fun c => ((rwq D x yv j wr c : Nat) : Int)) w5 ∧ Below w0.heap.size w0 w5) := by
            refine ⟨?_, H4.out.2.1.grown hgrow5 hs4 (fun b hb => (H4.out.1.lt b hb).1)⟩
            rw [show j + (t + 1) = j + t + 1 from rfl, zl_succ, HV.out]
            exact hown5
          have hS5 : w5.cell? ⟨w.heap.size, 0, none⟩ = some (.pointer (some ⟨F, 0, none⟩)) := (HBx.out w5 H5.out.2).1
          clear hown5 hgrow5
          refine hK _ _ (fun _ => hS5) ?_
          clear hK K
          try simp only [Act.put, List.setIfInBounds_toArray, List.set_cons_zero, List.set_cons_succ]
          refine wpAnyL_one (i := 15) (by kernel_rfl) (by rw [List.getElem?_toArray]; rfl) (fun K hK => ?_)
          have HK : Hid _ := hK
          clear hK
          go_simp
          refine HK.out _ _ (fun _ => hS5) ?_
          clear HK K
          try simp only [Act.put, List.setIfInBounds_toArray, List.set_cons_zero, List.set_cons_succ]
          refine wpAnyL_done (by kernel_rfl) (NoPanic.normal ?_)
          clear hS5 hS0
          go_wp2
          go_roundw
          case rel => exact ⟨t + 1, by omega, by go_num, H5.out⟩
          case measure => simp [intOf]; omega
        · have htb : ¬ (t : Int) < (wr : Int) := by omega
          have hte : t = wr := by omega
          subst hte
          obtain ⟨p1, hp1⟩ : ∃ p1, p1 = D.xp x t := ⟨_, rfl⟩
          obtain ⟨p2, hp2⟩ : ∃ p2, p2 = D.mul yv p1 := ⟨_, rfl⟩
          have F' := fld HX.out.1
          have HC1 : Hid (∀ d, Calls Try.prog 71 #[.pointer (some ⟨F, 0, none⟩), .int .i64 (x : Nat), .int .i64 (t : Nat)] (wr2.drewN d) fun e w' => e = .returned (.int .i64 (p1 : Nat)) ∧ ∃ k, w' = (wr2.drewN d).drewN k) := fun d => by
            rw [hp1]; exact pow_nat HX.out.1 ((HFt.out wr2 HJ.out.2).drewN d) HX.out.2.1 t (by omega)
          have HC2 : Hid (∀ d, Calls Try.prog 20 #[.pointer (some ⟨F, 0, none⟩), .int .i64 (yv : Nat), .int .i64 (p1 : Nat)] (wr2.drewN d) fun e w' => e = .returned (.int .i64 (p2 : Nat)) ∧ ∃ k, w' = (wr2.drewN d).drewN k) := fun d => by
            rw [hp2]; exact mul_nat HX.out.1 ((HFt.out wr2 HJ.out.2).drewN d) HX.out.2.2.1 (by rw [hp1]; exact xp_lt F' _ _)
          have HV : Hid (D.mul yv (D.xp x t) = p2) := by show _ = _; rw [hp2, hp1]
          clear hp1 hp2 F'
          go_wp2
          go_quiet (first | (go_at_call 71; exact Calls.quiet_of (HC1.out _)) | (go_at_call 20; exact Calls.quiet_of (HC2.out _)))
          go_wp2
          go_ret2
          exact ⟨_, by rw [HV.out]; rfl, (HJ.out.1.drewN _).mono HX.out.2.2.2.size, below_drewN2 (bel_up' HX.out.2.2.2 HJ.out.2) _⟩
end Go.Proofs.Ytcgmllamiaflcaa
