/- NetSends out of raw numbers (NetSendsMade; printed by make/kg2.py). -/
import Derived.Test.YthkjaiihlphgfaaZKG1
import Derived.Test.YthkjaiihlphgfaaZO3
import Derived.Test.YthkjaiihlphgfaaZS9
import Derived.Test.YthkjaiihlphgfaaZC1
namespace Go.Proofs.Ythkjaiihlphgfaa
open Go.RowKit Go.Sort

theorem blw_sl {ao : Option Addr} {n q : Nat} {z : Nat → Int} {w : World} (h : Blw q n z) (hs : SlZ ao n z w) : Sl ao n (fun j => (z j).toNat) w := fun j hj => by
  obtain ⟨b, off, e, hc⟩ := hs j hj
  refine ⟨b, off, e, ?_⟩
  rw [hc, Int.toNat_of_nonneg (h j hj).1]
theorem blw_lt {n q : Nat} {z : Nat → Int} (h : Blw q n z) : ∀ j, j < n → (z j).toNat < q := fun j hj => by
  have := h j hj
  omega
theorem ArgL.below {ao : Option Addr} {n ca : Nat} {z : Nat → Int} {w w' : World} (h : ArgL ao n ca z w) (hb : Below w.heap.size w w') : ArgL ao n ca z w' := ⟨slz_below h.sl hb, fun a ha => Nat.lt_of_lt_of_le (h.lt a ha) hb.size, h.nil, h.le, h.cap⟩
theorem ArgL.put0 {g n ca : Nat} {z : Nat → Int} {w : World} (h : ArgL (some ⟨g, 0, none⟩) n ca z w) (p : Int) : ArgL (some ⟨g, 0, none⟩) n ca (fun j => if j = 0 then p else z j) (w.setCell ⟨g, 0, none⟩ (.int .i64 p)) := by
  refine ⟨fun j hj => ⟨g, 0, rfl, ?_⟩, fun a ha => by simpa using h.lt a ha, h.nil, h.le, h.cap⟩
  obtain ⟨b, off, e, hc⟩ := h.sl j hj
  cases e
  by_cases e0 : j = 0
  · subst e0
    rw [if_pos rfl]
    exact World.cell?_setCell_same _ _ _ hc
  · rw [if_neg e0, World.cell?_setCell_other _ _ _ _ (fun e => by have := congrArg Addr.off e; simp at this; omega)]
    exact hc
theorem setO_below {B b o : Nat} {u w : World} (h : Below B u w) (hb : B ≤ b) (v : Value) : Below B u (w.setCell ⟨b, o, none⟩ v) := h.setCell hb _
/-- What is at hand ahead of NetSends' call. -/
structure NmG (D : FD) (B k m ec H1 mc yc : Nat) (eo mo yo : Option Addr) (A : Nat → Option Addr) (C : Nat → Nat) (F T : Nat → Int) (Z : Nat → Nat → Int) (y : Nat → Int) (w : World) : Prop where
  ed : EdZ eo m F T w
  nb : NB B (k : Nat) (.slice eo m ec) w
  mat : MatZ mo m A (fun _ => H1) C Z w
  msg : ArgL yo H1 yc y w
theorem NmG.below {D : FD} {B k m ec H1 mc yc : Nat} {eo mo yo : Option Addr} {A : Nat → Option Addr} {C : Nat → Nat} {F T : Nat → Int} {Z : Nat → Nat → Int} {y : Nat → Int} {w w' : World} (h : NmG D B k m ec H1 mc yc eo mo yo A C F T Z y w) (hb : Below w.heap.size w w') : NmG D B k m ec H1 mc yc eo mo yo A C F T Z y w' := ⟨h.ed.below hb, h.nb.keep hb, h.mat.below hb, h.msg.below hb⟩

set_option maxHeartbeats 4000000 in
set_option maxRecDepth 100000 in
theorem netSendsMade_long {ao : Option Addr} {n ca : Nat} (q nodes edges h x : Int) (turned : Bool) (w : World) (hn : ¬ n ≤ 256) :
    Calls Try.prog 4 #[.slice ao n ca, .int .i64 q, .int .i64 nodes, .int .i64 edges, .int .i64 h, .int .i64 x, .bool turned] w fun e w' => e = .returned (.bool true) ∧ Below w.heap.size w w' := by
  have hnb : (256 : Int) < (n : Int) := by omega
  go_enter Try.func4, Try.ntmps4
  go_wp2
  go_ret
  exact ⟨rfl, Below.refl _ _⟩

set_option maxHeartbeats 16000000 in
set_option maxRecDepth 100000 in
theorem netSendsMade_walk {ao : Option Addr} {n ca : Nat} {z : Nat → Int} (q nodes edges h x : Int) (turned : Bool) {w : World} (ha : Arg ao n ca z w) (hn : n ≤ 256) (hq : I64 q) (hnd : I64 nodes) (heg : I64 edges) (hh : I64 h) (hx : I64 x) :
    Calls Try.prog 4 #[.slice ao n ca, .int .i64 q, .int .i64 nodes, .int .i64 edges, .int .i64 h, .int .i64 x, .bool turned] w fun e w' => e = .returned (.bool true) ∧ Below w.heap.size w w' := by
  have HPi : ∀ (x : Int) (q : Nat), I64 x → 1 ≤ q → q ≤ 100 → ∃ M : Nat, M < q ∧ ∀ w : World, Calls Try.prog 21 #[.int .i64 x, .int .i64 (q : Nat)] w fun e w' => e = .returned (.int .i64 (M : Nat)) ∧ w' = w := fun x q hx h1 h2 => by
    have h3 := pick_lo x (q : Int) (by omega)
    have h4 := pick_hi x (q : Int) (by omega)
    exact ⟨(pick x (q : Int)).toNat, by omega, fun w => by rw [Int.toNat_of_nonneg h3]; exact pick_any x q w hx.1 hx.2 (by omega) (by omega)⟩
  obtain ⟨D, hD, hDq⟩ := sizeOf_field q
  have h64 := (fld hD).q64
  have h2q := (fld hD).q2
  obtain ⟨H0, hH0, hp1⟩ := HPi h 3 hh (by omega) (by omega)
  obtain ⟨H1, hH1⟩ : ∃ H1, H1 = 1 + H0 := ⟨_, rfl⟩
  have hwH : IntKind.i64.wrap (1 + (H0 : Int)) = (H1 : Int) := wrap_to (by omega) (by omega)
  have hHb : 1 ≤ H1 ∧ H1 ≤ 3 := by omega
  have HA : Hid (Arg ao n ca z w ∧ D ∈ fieldsL ∧ 2 ≤ D.q ∧ D.q ≤ 64) := ⟨ha, hD, h2q, h64⟩
  have HX0 : Hid (I64 x) := hx
  have HP : Hid (∀ (x : Int) (q : Nat), I64 x → 1 ≤ q → q ≤ 100 → ∃ M : Nat, M < q ∧ ∀ w : World, Calls Try.prog 21 #[.int .i64 x, .int .i64 (q : Nat)] w fun e w' => e = .returned (.int .i64 (M : Nat)) ∧ w' = w) := HPi
  have HP1 : Hid (∀ w : World, Calls Try.prog 21 #[.int .i64 h, .int .i64 3] w fun e w' => e = .returned (.int .i64 (H0 : Nat)) ∧ w' = w) := hp1
  have HS : Hid (∀ w : World, Calls Try.prog 20 #[.int .i64 q] w fun e w' => e = .returned (.int .i64 D.q) ∧ Below w.heap.size w w') := fun w => by rw [← hDq]; exact sizeOf_any q w hq.1 hq.2
  have HN : Hid (∃ (k m ec : Nat) (eo : Option Addr) (F T : Nat → Int), True) := ⟨0, 0, 0, none, fun _ => 0, fun _ => 0, trivial⟩
  have HNet : Hid (Calls Try.prog 19 #[.slice ao n ca, .int .i64 nodes, .int .i64 edges] w fun e w' => ∃ (k m ec : Nat) (eo : Option Addr) (F T : Nat → Int), e = .returned (.agg #[.int .i64 (k : Nat), .slice eo m ec]) ∧ EdZ eo m F T w' ∧ 2 ≤ k ∧ k ≤ 8 ∧ m ≤ 24 ∧ Below w.heap.size w w') := netOf_any nodes edges ha hn hnd heg
  have HMt : Hid (∀ w2, Below w.heap.size w w2 → ∀ r : Nat, r ≤ 24 → Calls Try.prog 22 #[.slice ao n ca, .int .i64 0, .int .i64 D.q, .int .i64 (r : Nat), .int .i64 (H1 : Nat)] w2 fun e w' => ∃ mo mc A C Z, e = .returned (.slice mo r mc) ∧ MatZ mo r A (fun _ => H1) C Z w' ∧ (∀ i, i < r → Blw D.q H1 (Z i)) ∧ Below w2.heap.size w2 w') := fun w2 hb2 r hr => by
    refine (matrixOf_any (ha.below hb2) (by omega) 0 D.q r H1 (by omega) (by omega) (by omega) (by omega) (by omega)).mono ?_
    rintro e w' ⟨v, vs, Z, rfl, hmk, hb⟩
    obtain ⟨mo, mc, rfl, hz⟩ := hmk.matZ (by omega)
    exact ⟨mo, mc, _, _, Z, rfl, hz, hmk.blw, hb⟩
  have HNu : Hid (∀ w2, Below w.heap.size w w2 → Calls Try.prog 23 #[.slice ao n ca, .int .i64 5, .int .i64 D.q, .int .i64 (H1 : Nat)] w2 fun e w' => ∃ bo cb y, e = .returned (.slice bo H1 cb) ∧ ArgL bo H1 cb y w' ∧ Blw D.q H1 y ∧ Below w2.heap.size w2 w') := fun w2 hb2 => by
    refine (numbers_any (ha.below hb2) (by omega) 5 D.q H1 (by omega) (by omega) (by omega) (by omega)).mono ?_
    rintro e w' ⟨v, y, rfl, ho, hbl, hb⟩
    obtain ⟨bo, cb, rfl, hA⟩ := ho.argL
    exact ⟨bo, cb, y, rfl, hA, hbl, hb⟩
  have HFi : Hid (∀ w2 : World, Calls Try.prog 11 #[.int .i64 D.q] w2 fun e w' => ∃ gm cm : Nat, e = .returned (.tuple #[.agg #[.int .i64 D.q, .int .i64 D.p, .int .i64 D.m, .int .i64 D.gen, .slice (some ⟨gm, 0, none⟩) (D.m + 1) cm], .int .i64 0]) ∧ ModAt D (.slice (some ⟨gm, 0, none⟩) (D.m + 1) cm) D.md w' ∧ Below w2.heap.size w2 w') := fun w2 => rfield_sl hD w2
  have HRw : Hid (∀ wx : World, Below w.heap.size w wx → Calls Try.prog 24 #[.slice ao n ca, .int .i64 1] wx fun e w' => (∃ x, e = .returned (.int .i64 x) ∧ I64 x) ∧ ∃ k, w' = wx.drewN k) := fun wx hx => raw_any (ha.below hx) (by omega) 1 (by omega)
  have hnb : ¬ (256 : Int) < (n : Int) := by omega
  clear ha hD hDq h64 h2q hH0 hp1 hH1 HPi hq hnd heg hh hx HN
  go_enter Try.func4, Try.ntmps4
  go_wp2_with fail
  refine HNet.out.mono ?_
  rintro e w1 ⟨k, m, ec, eo, F, T, rfl, hE1, hk1, hk2, hm, hb1⟩
  obtain ⟨B, hB⟩ : ∃ B, B = w1.heap.size := ⟨_, rfl⟩
  obtain ⟨w2, hw2⟩ : ∃ w2, w2 = w1.alloc (.cells #[.int .i64 (k : Nat), .slice eo m ec] 24) := ⟨_, rfl⟩
  have hb12 : Below w1.heap.size w1 w2 := by rw [hw2]; exact (Below.refl _ _).alloc (Nat.le_refl _) _
  have G2 : Hid (EdZ eo m F T w2 ∧ NB B (k : Nat) (.slice eo m ec) w2 ∧ Below w.heap.size w w2) := ⟨hE1.below hb12, by rw [hw2, hB]; exact NB.new _ _ _, bel_up' hb1 hb12⟩
  clear hE1 hb1 hb12 HNet
  go_wp2_with fail
  rw [← hw2, ← hB]
  clear hw2 hB
  refine (HS.out w2).mono ?_
  rintro e w3 ⟨rfl, hb3⟩
  have G3 : Hid (EdZ eo m F T w3 ∧ NB B (k : Nat) (.slice eo m ec) w3 ∧ Below w.heap.size w w3) := ⟨G2.out.1.below hb3, G2.out.2.1.keep hb3, bel_up' G2.out.2.2 hb3⟩
  clear hb3 G2 HS
  go_wp2_with fail
  refine (HP1.out w3).mono ?_
  rintro e w' ⟨rfl, hw⟩
  have hw := hw.symm
  subst hw
  have hc := G3.out.2.1
  obtain ⟨c0, c1⟩ := hc
  go_wp2_with fail
  clear c0 c1
  refine (HMt.out w3 G3.out.2.2 m hm).mono ?_
  rintro e w4 ⟨mo, mc, A, C, Z, rfl, hz4, hbl4, hb4⟩
  have G4 : Hid (EdZ eo m F T w4 ∧ NB B (k : Nat) (.slice eo m ec) w4 ∧ MatZ mo m A (fun _ => H1) C Z w4 ∧ (∀ i, i < m → Blw D.q H1 (Z i)) ∧ Below w.heap.size w w4) := ⟨G3.out.1.below hb4, G3.out.2.1.keep hb4, hz4, hbl4, bel_up' G3.out.2.2 hb4⟩
  clear hz4 hbl4 hb4 G3 HMt
  go_wp2_with fail
  refine (HNu.out w4 G4.out.2.2.2.2).mono ?_
  rintro e w5 ⟨yo, yc, y, rfl, hA5, hbl5, hb5⟩
  have G5 : Hid (NmG D B k m ec H1 mc yc eo mo yo A C F T Z y w5 ∧ (∀ i, i < m → Blw D.q H1 (Z i)) ∧ Blw D.q H1 y ∧ Below w.heap.size w w5) := ⟨⟨G4.out.1.below hb5, G4.out.2.1.keep hb5, G4.out.2.2.1.below hb5, hA5⟩, G4.out.2.2.2.1, hbl5, bel_up' G4.out.2.2.2.2 hb5⟩
  clear hA5 hbl5 hb5 G4 HNu
  go_wp2_with fail
  refine (HFi.out w5).mono ?_
  rintro e w6 ⟨gm, cm, rfl, hM6, hb6⟩
  obtain ⟨FB, hFB⟩ : ∃ FB, FB = w6.heap.size := ⟨_, rfl⟩
  obtain ⟨w7, hw7⟩ : ∃ w7, w7 = w6.alloc (.cells #[.int .i64 D.q, .int .i64 D.p, .int .i64 D.m, .int .i64 D.gen, .slice (some ⟨gm, 0, none⟩) (D.m + 1) cm] 31) := ⟨_, rfl⟩
  have hb67 : Below w6.heap.size w6 w7 := by rw [hw7]; exact (Below.refl _ _).alloc (Nat.le_refl _) _
  have G7 : Hid (NmG D B k m ec H1 mc yc eo mo yo A C F T Z y w7 ∧ (∀ i, i < m → Blw D.q H1 (Z i)) ∧ Blw D.q H1 y ∧ ModAt D (.slice (some ⟨gm, 0, none⟩) (D.m + 1) cm) D.md w7 ∧ Below w.heap.size w w7) := ⟨(G5.out.1.below hb6).below hb67, G5.out.2.1, G5.out.2.2.1, hM6.below hb67, bel_up' (bel_up' G5.out.2.2.2 hb6) hb67⟩
  have HFc : Hid (w7.cell? ⟨FB, 0, none⟩ = some (.int .i64 D.q) ∧ w7.cell? ⟨FB, 1, none⟩ = some (.int .i64 D.p) ∧ w7.cell? ⟨FB, 2, none⟩ = some (.int .i64 D.m) ∧ w7.cell? ⟨FB, 3, none⟩ = some (.int .i64 D.gen) ∧ w7.cell? ⟨FB, 4, none⟩ = some (.slice (some ⟨gm, 0, none⟩) (D.m + 1) cm)) := by
    rw [hw7, hFB]
    refine ⟨?_, ?_, ?_, ?_, ?_⟩ <;> · rw [cell_of_row _ _ _ _ _ (0, 0) (two_new _)]; rfl
  clear hM6 hb6 hb67 G5 HFi
  go_wp2
  rw [← hw7, ← hFB]
  clear hw7 hFB
  go_loopw [20, 21] (fun vc vi wr => ∃ (i : Nat) (s : Nat → Int), i ≤ m ∧ vi = .int .i64 (i : Nat) ∧ Hid (OwnI w7.heap.size vc (zl i s) wr ∧ Below w7.heap.size w7 wr)) (fun _ vi _ => m - (intOf vi).toNat)
  case atStart => exact ⟨0, fun _ => 0, by omega, rfl, OwnI.nil _ _, Below.refl _ _⟩
  case round =>
    obtain ⟨i, s, hi, rfl, HI⟩ := hrel
    rename World => wr
    have hszr := HI.out.2.size
    by_cases hlt : i < m
    · have hib : (i : Int) < (m : Int) := by omega
      have hib0 : (0 : Int) ≤ (i : Int) := by omega
      obtain ⟨bv, ov, hmo, hcv⟩ := (G7.out.1.mat.below HI.out.2).cell i hlt
      obtain ⟨Ai, hAi⟩ : ∃ Ai, Ai = A i := ⟨_, rfl⟩
      obtain ⟨Ci, hCi⟩ : ∃ Ci, Ci = C i := ⟨_, rfl⟩
      rw [← hAi, ← hCi] at hcv
      obtain ⟨dv, hdv⟩ : ∃ dv, dv = dot D (fun j => (Z i j).toNat) (fun j => (y j).toNat) H1 := ⟨_, rfl⟩
      have HDt : Hid (∀ wx, Below wr.heap.size wr wx → Calls Try.prog 13 #[.agg #[.int .i64 D.q, .int .i64 D.p, .int .i64 D.m, .int .i64 D.gen, .slice (some ⟨gm, 0, none⟩) (D.m + 1) cm], .slice Ai H1 Ci, .slice yo H1 yc] wx fun e w' => e = .returned (.int .i64 (dv : Nat)) ∧ Below wx.heap.size wx w') := fun wx hx => by
        have hbx := bel_up' HI.out.2 hx
        have h1 := blw_sl (G7.out.2.1 i hlt) ((G7.out.1.mat.below hbx).sl i hlt)
        rw [hdv, hAi]
        exact rdot_any HA.out.2.1 D.gen gm cm (by omega) (blw_lt (G7.out.2.1 i hlt)) (blw_lt G7.out.2.2.1) h1 (rl_lt h1 (by omega)) (blw_sl G7.out.2.2.1 (G7.out.1.msg.below hbx).sl) (G7.out.1.msg.below hbx).lt (G7.out.2.2.2.1.below hbx)
      have HK5 : Hid (∀ wx, Below wr.heap.size wr wx → (fun wx : World => wx.cell? ⟨FB, 0, none⟩ = some (.int .i64 D.q) ∧ wx.cell? ⟨FB, 1, none⟩ = some (.int .i64 D.p) ∧ wx.cell? ⟨FB, 2, none⟩ = some (.int .i64 D.m) ∧ wx.cell? ⟨FB, 3, none⟩ = some (.int .i64 D.gen) ∧ wx.cell? ⟨FB, 4, none⟩ = some (.slice (some ⟨gm, 0, none⟩) (D.m + 1) cm) ∧ wx.cell? ⟨bv, ov + i, none⟩ = some (.slice Ai H1 Ci)) wx) := fun wx hx => by
        have hbx := bel_up' HI.out.2 hx
        obtain ⟨f0, f1, f2, f3, f4⟩ := HFc.out
        exact ⟨((bcell hbx).1 _ _ (cell_lt f0)).trans f0, ((bcell hbx).1 _ _ (cell_lt f1)).trans f1, ((bcell hbx).1 _ _ (cell_lt f2)).trans f2, ((bcell hbx).1 _ _ (cell_lt f3)).trans f3, ((bcell hbx).1 _ _ (cell_lt f4)).trans f4, ((bcell hx).1 _ _ (cell_lt hcv)).trans hcv⟩
      have HMo : Hid (mo = some ⟨bv, ov, none⟩) := hmo
      subst hmo
      clear hcv hAi hCi hdv
      obtain ⟨wd, hwd⟩ : ∃ wd, wd = wr.drew := ⟨_, rfl⟩
      have H3 : Hid (Below wr.heap.size wr wd) := by rw [hwd]; exact (Below.refl wr.heap.size wr).drew
      have hS0 := HK5.out _ H3.out
      go_wp2
      refine wp_region_noPanic ?_
      refine wp_region_X (S := fun wx : World => wx.cell? ⟨FB, 0, none⟩ = some (.int .i64 D.q) ∧ wx.cell? ⟨FB, 1, none⟩ = some (.int .i64 D.p) ∧ wx.cell? ⟨FB, 2, none⟩ = some (.int .i64 D.m) ∧ wx.cell? ⟨FB, 3, none⟩ = some (.int .i64 D.gen) ∧ wx.cell? ⟨FB, 4, none⟩ = some (.slice (some ⟨gm, 0, none⟩) (D.m + 1) cm) ∧ wx.cell? ⟨bv, ov + i, none⟩ = some (.slice Ai H1 Ci)) 7 (by kernel_rfl) ?_
      rw [← hwd]
      clear hwd
      refine wpAnyX_take (i := 0) (v := ?_) (by rw [List.getElem?_toArray]; rfl) (by kernel_rfl) (by kernel_rfl) (by kernel_rfl) (by kernel_rfl) (fun _ _ _ h => h) hS0 (Or.inl ⟨by rfl, ?_⟩) ?_
      rotate_left
      · intro wz hSz; obtain ⟨z0, z1, z2, z3, z4, z5⟩ := hSz; go_simp; first | done | with_reducible rfl
      try simp only [Act.put, List.setIfInBounds_toArray, List.set_cons_zero, List.set_cons_succ]
      refine wpAnyX_take (i := 1) (v := ?_) (by rw [List.getElem?_toArray]; rfl) (by kernel_rfl) (by kernel_rfl) (by kernel_rfl) (by kernel_rfl) (fun _ _ _ h => h) hS0 (Or.inl ⟨by rfl, ?_⟩) ?_
      rotate_left
      · intro wz hSz; obtain ⟨z0, z1, z2, z3, z4, z5⟩ := hSz; go_simp; first | done | with_reducible rfl
      try simp only [Act.put, List.setIfInBounds_toArray, List.set_cons_zero, List.set_cons_succ]
      refine wpAnyX_take (i := 2) (v := ?_) (by rw [List.getElem?_toArray]; rfl) (by kernel_rfl) (by kernel_rfl) (by kernel_rfl) (by kernel_rfl) (fun _ _ _ h => h) hS0 (Or.inl ⟨by rfl, ?_⟩) ?_
      rotate_left
      · intro wz hSz; obtain ⟨z0, z1, z2, z3, z4, z5⟩ := hSz; go_simp; first | done | with_reducible rfl
      try simp only [Act.put, List.setIfInBounds_toArray, List.set_cons_zero, List.set_cons_succ]
      refine wpAnyX_take (i := 3) (v := ?_) (by rw [List.getElem?_toArray]; rfl) (by kernel_rfl) (by kernel_rfl) (by kernel_rfl) (by kernel_rfl) (fun _ _ _ h => h) hS0 (Or.inl ⟨by rfl, ?_⟩) ?_
      rotate_left
      · intro wz hSz; obtain ⟨z0, z1, z2, z3, z4, z5⟩ := hSz; go_simp; first | done | with_reducible rfl
      try simp only [Act.put, List.setIfInBounds_toArray, List.set_cons_zero, List.set_cons_succ]
      refine wpAnyX_take (i := 4) (v := ?_) (by rw [List.getElem?_toArray]; rfl) (by kernel_rfl) (by kernel_rfl) (by kernel_rfl) (by kernel_rfl) (fun _ _ _ h => h) hS0 (Or.inl ⟨by rfl, ?_⟩) ?_
      rotate_left
      · intro wz hSz; obtain ⟨z0, z1, z2, z3, z4, z5⟩ := hSz; go_simp; first | done | with_reducible rfl
      try simp only [Act.put, List.setIfInBounds_toArray, List.set_cons_zero, List.set_cons_succ]
      refine wpAnyX_take (i := 5) (v := ?_) (by rw [List.getElem?_toArray]; rfl) (by kernel_rfl) (by kernel_rfl) (by kernel_rfl) (by kernel_rfl) (fun _ _ _ h => h) hS0 (Or.inl ⟨by rfl, ?_⟩) ?_
      rotate_left
      · intro wz hSz; obtain ⟨z0, z1, z2, z3, z4, z5⟩ := hSz; go_simp; first | done | with_reducible rfl
      try simp only [Act.put, List.setIfInBounds_toArray, List.set_cons_zero, List.set_cons_succ]
      refine wpAnyX_one (i := 6) (by kernel_rfl) (by rw [List.getElem?_toArray]; rfl) (fun KK hK => ?_)
      have HK : Hid _ := hK
      clear hK
      go_simp
      refine (HDt.out wd H3.out).mono ?_
      rintro e w8 ⟨rfl, hb8⟩
      have H8 : Hid (Below wr.heap.size wr w8) := bel_up' H3.out hb8
      clear hb8
      refine HK.out _ _ (fun _ => HK5.out _ H8.out) ?_
      clear HK KK
      try simp only [Act.put, List.setIfInBounds_toArray, List.set_cons_zero, List.set_cons_succ]
      refine wpAnyX_one (i := 7) (by kernel_rfl) (by rw [List.getElem?_toArray]; rfl) (fun KK hK => ?_)
      have HK : Hid _ := hK
      clear hK
      go_simp
      refine HK.out _ _ (fun h => absurd rfl h) ?_
      clear HK KK
      try simp only [Act.put, List.setIfInBounds_toArray, List.set_cons_zero, List.set_cons_succ]
      refine wpAnyX_done (by kernel_rfl) (NoPanic.normal ?_)
      have HO : Hid (OwnI w7.heap.size u20 (zl i s) w8 ∧ Below w7.heap.size w7 w8) := ⟨HI.out.1.below H8.out (fun q hq => (HI.out.1.lt q hq).2), bel_up' HI.out.2 H8.out⟩
      have hsz8 := HO.out.2.size
      clear HK5 H3 hS0 HDt
      go_wp2_with (at_builtin; refine append_int rfl _ _ rfl w7.heap.size _ (zl i s) rfl (HO.out.1.alloc _) ⟨_, 0, none⟩ 1 (dv : Int) rfl (by simp) (by rw [zl_len]; omega) (by simp; omega) ?_; intro v2 w9 hown9 hgrow9)
      have HR : Hid (OwnI w7.heap.size v2 (zl (i + 1) (fun j => if j = i then (dv : Int) else s j)) w9 ∧ Below w7.heap.size w7 w9) := by
        refine ⟨?_, (HO.out.2.alloc hsz8 _).grown hgrow9 (by simp; omega) (fun k hk => (HO.out.1.lt k hk).1)⟩
        rw [zl_succ, zl_congr (y := s) (fun j hj => by show (if j = i then (dv : Int) else s j) = s j; rw [if_neg (by omega)])]
        show OwnI w7.heap.size v2 (zl i s ++ [if i = i then (dv : Int) else s i]) w9
        rw [if_pos rfl]; exact hown9
      clear hown9 hgrow9
      go_roundw
      case rel => exact ⟨i + 1, _, by omega, by go_num, HR.out⟩
      case measure => simp [intOf]; omega
    · have hib : ¬ (i : Int) < (m : Int) := by omega
      have hie : m = i := by omega
      have HG : Hid (NmG D B k i ec H1 mc yc eo mo yo A C F T Z y wr ∧ Below w.heap.size w wr) := by rw [← hie]; exact ⟨G7.out.1.below HI.out.2, bel_up' G7.out.2.2.2.2 HI.out.2⟩
      subst hie
      obtain ⟨co, cc, hvc, hAc⟩ := HI.out.1.argL
      obtain ⟨k1, hk1e⟩ : ∃ k1, k1 = k - 1 := ⟨_, rfl⟩
      have hwk : IntKind.i64.wrap ((k : Int) - 1) = (k1 : Int) := wrap_to (by omega) (by omega)
      obtain ⟨Px, hPx, hpx⟩ := HP.out x k1 HX0.out (by omega) (by omega)
      obtain ⟨P1, hP1⟩ : ∃ P1, P1 = 1 + Px := ⟨_, rfl⟩
      have hwp : IntKind.i64.wrap (1 + (Px : Int)) = (P1 : Int) := wrap_to (by omega) (by omega)
      have HPx : Hid (∀ w : World, Calls Try.prog 21 #[.int .i64 x, .int .i64 (k1 : Nat)] w fun e w' => e = .returned (.int .i64 (Px : Nat)) ∧ w' = w) := hpx
      clear hpx hP1 hk1e
      have HFin : Hid (∀ (wx : World) (so : Option Addr) (sc : Nat) (sv : Nat → Int), NmG D B k m ec H1 mc yc eo mo yo A C F T Z y wx → ArgL so m sc sv wx → Calls Try.prog 3 #[.int .i64 D.q, .agg #[.int .i64 (k : Nat), .slice eo m ec], .slice mo m mc, .slice yo H1 yc, .slice so m sc, .int .i64 (P1 : Nat)] wx fun e w' => e = .returned (.bool true) ∧ Below wx.heap.size wx w') := fun wx so sc sv hg hs => by
        refine netSends_walk (A := A) (N := fun _ => H1) (C := C) (Z := Z) (F := F) (T := T) (y := y) (c := sv) _ _ _ ⟨hg.mat.cell, hg.mat.sl, hg.mat.le, hg.mat.cap, hg.mat.nil⟩ (by omega) (fun i hi => by omega) hg.ed (by omega) hg.msg (by omega) hs (by omega)
      by_cases ht : turned = true
      · subst ht
        by_cases hm0 : m = 0
        · have hz0 : ¬ (0 : Int) < (m : Int) := by omega
          subst hvc
          clear hm0
          go_wp2
          have HK5 : Hid (∀ wx, Below wr.heap.size wr wx → (fun wx : World => wx.cell? ⟨B, 0, none⟩ = some (.int .i64 (k : Nat)) ∧ wx.cell? ⟨B, 1, none⟩ = some (.slice eo m ec)) wx) := fun wx hx => ⟨(HG.out.1.nb.keep hx).c0, (HG.out.1.nb.keep hx).c1⟩
          obtain ⟨we, hwe⟩ : ∃ we, we = wr.drew := ⟨_, rfl⟩
          have H3 : Hid (Below wr.heap.size wr we) := by rw [hwe]; exact (Below.refl wr.heap.size wr).drew
          have hS0 := HK5.out _ H3.out
          refine wp_region_noPanic ?_
          refine wp_region_X (S := fun wx : World => wx.cell? ⟨B, 0, none⟩ = some (.int .i64 (k : Nat)) ∧ wx.cell? ⟨B, 1, none⟩ = some (.slice eo m ec)) 12 (by kernel_rfl) ?_
          rw [← hwe]
          clear hwe
          refine wpAnyX_take (i := 0) (v := ?_) (by rw [List.getElem?_toArray]; rfl) (by kernel_rfl) (by kernel_rfl) (by kernel_rfl) (by kernel_rfl) (fun _ _ _ h => h) hS0 (Or.inl ⟨by rfl, ?_⟩) ?_
          rotate_left
          · intro wz hSz; obtain ⟨z0, z1⟩ := hSz; go_simp; first | done | with_reducible rfl
          try simp only [Act.put, List.setIfInBounds_toArray, List.set_cons_zero, List.set_cons_succ]
          refine wpAnyX_take (i := 1) (v := ?_) (by rw [List.getElem?_toArray]; rfl) (by kernel_rfl) (by kernel_rfl) (by kernel_rfl) (by kernel_rfl) (fun _ _ _ h => h) hS0 (Or.inl ⟨by rfl, ?_⟩) ?_
          rotate_left
          · intro wz hSz; obtain ⟨z0, z1⟩ := hSz; go_simp; first | done | with_reducible rfl
          try simp only [Act.put, List.setIfInBounds_toArray, List.set_cons_zero, List.set_cons_succ]
          refine wpAnyX_take (i := 2) (v := ?_) (by rw [List.getElem?_toArray]; rfl) (by kernel_rfl) (by kernel_rfl) (by kernel_rfl) (by kernel_rfl) (fun _ _ _ h => h) hS0 (Or.inl ⟨by rfl, ?_⟩) ?_
          rotate_left
          · intro wz hSz; obtain ⟨z0, z1⟩ := hSz; go_simp; first | done | with_reducible rfl
          try simp only [Act.put, List.setIfInBounds_toArray, List.set_cons_zero, List.set_cons_succ]
          refine wpAnyX_take (i := 3) (v := ?_) (by rw [List.getElem?_toArray]; rfl) (by kernel_rfl) (by kernel_rfl) (by kernel_rfl) (by kernel_rfl) (fun _ _ _ h => h) hS0 (Or.inl ⟨by rfl, ?_⟩) ?_
          rotate_left
          · intro wz hSz; obtain ⟨z0, z1⟩ := hSz; go_simp; first | done | with_reducible rfl
          try simp only [Act.put, List.setIfInBounds_toArray, List.set_cons_zero, List.set_cons_succ]
          refine wpAnyX_take (i := 4) (v := ?_) (by rw [List.getElem?_toArray]; rfl) (by kernel_rfl) (by kernel_rfl) (by kernel_rfl) (by kernel_rfl) (fun _ _ _ h => h) hS0 (Or.inl ⟨by rfl, ?_⟩) ?_
          rotate_left
          · intro wz hSz; obtain ⟨z0, z1⟩ := hSz; go_simp; first | done | with_reducible rfl
          try simp only [Act.put, List.setIfInBounds_toArray, List.set_cons_zero, List.set_cons_succ]
          refine wpAnyX_take (i := 5) (v := ?_) (by rw [List.getElem?_toArray]; rfl) (by kernel_rfl) (by kernel_rfl) (by kernel_rfl) (by kernel_rfl) (fun _ _ _ h => h) hS0 (Or.inl ⟨by rfl, ?_⟩) ?_
          rotate_left
          · intro wz hSz; obtain ⟨z0, z1⟩ := hSz; go_simp; first | done | with_reducible rfl
          try simp only [Act.put, List.setIfInBounds_toArray, List.set_cons_zero, List.set_cons_succ]
          refine wpAnyX_take (i := 6) (v := ?_) (by rw [List.getElem?_toArray]; rfl) (by kernel_rfl) (by kernel_rfl) (by kernel_rfl) (by kernel_rfl) (fun _ _ _ h => h) hS0 (Or.inl ⟨by rfl, ?_⟩) ?_
          rotate_left
          · intro wz hSz; obtain ⟨z0, z1⟩ := hSz; go_simp; first | done | with_reducible rfl
          try simp only [Act.put, List.setIfInBounds_toArray, List.set_cons_zero, List.set_cons_succ]
          refine wpAnyX_take (i := 7) (v := ?_) (by rw [List.getElem?_toArray]; rfl) (by kernel_rfl) (by kernel_rfl) (by kernel_rfl) (by kernel_rfl) (fun _ _ _ h => h) hS0 (Or.inl ⟨by rfl, ?_⟩) ?_
          rotate_left
          · intro wz hSz; obtain ⟨z0, z1⟩ := hSz; go_simp; first | done | with_reducible rfl
          try simp only [Act.put, List.setIfInBounds_toArray, List.set_cons_zero, List.set_cons_succ]
          refine wpAnyX_take (i := 8) (v := ?_) (by rw [List.getElem?_toArray]; rfl) (by kernel_rfl) (by kernel_rfl) (by kernel_rfl) (by kernel_rfl) (fun _ _ _ h => h) hS0 (Or.inl ⟨by rfl, ?_⟩) ?_
          rotate_left
          · intro wz hSz; obtain ⟨z0, z1⟩ := hSz; go_simp; first | done | with_reducible rfl
          try simp only [Act.put, List.setIfInBounds_toArray, List.set_cons_zero, List.set_cons_succ]
          refine wpAnyX_one (i := 9) (by kernel_rfl) (by rw [List.getElem?_toArray]; rfl) (fun KK hK => ?_)
          have HK : Hid _ := hK
          clear hK
          go_simp
          refine (HPx.out we).mono ?_
          rintro e w' ⟨rfl, hw⟩
          have hw := hw.symm
          subst hw
          refine HK.out _ _ (fun _ => HK5.out _ H3.out) ?_
          clear HK KK
          try simp only [Act.put, List.setIfInBounds_toArray, List.set_cons_zero, List.set_cons_succ]
          refine wpAnyX_one (i := 10) (by kernel_rfl) (by rw [List.getElem?_toArray]; rfl) (fun KK hK => ?_)
          have HK : Hid _ := hK
          clear hK
          go_simp
          refine HK.out _ _ (fun _ => HK5.out _ H3.out) ?_
          clear HK KK
          try simp only [Act.put, List.setIfInBounds_toArray, List.set_cons_zero, List.set_cons_succ]
          refine wpAnyX_one (i := 11) (by kernel_rfl) (by rw [List.getElem?_toArray]; rfl) (fun KK hK => ?_)
          have HK : Hid _ := hK
          clear hK
          go_simp
          refine (HFin.out we _ _ _ (HG.out.1.below H3.out) (hAc.below H3.out)).mono ?_
          rintro e wf ⟨rfl, hbf⟩
          have HE : Hid (Below wr.heap.size wr wf) := bel_up' H3.out hbf
          clear hbf
          refine HK.out _ _ (fun _ => HK5.out _ HE.out) ?_
          clear HK KK
          try simp only [Act.put, List.setIfInBounds_toArray, List.set_cons_zero, List.set_cons_succ]
          refine wpAnyX_one (i := 12) (by kernel_rfl) (by rw [List.getElem?_toArray]; rfl) (fun KK hK => ?_)
          have HK : Hid _ := hK
          clear hK
          go_simp
          refine HK.out _ _ (fun h => absurd rfl h) ?_
          clear HK KK
          try simp only [Act.put, List.setIfInBounds_toArray, List.set_cons_zero, List.set_cons_succ]
          refine wpAnyX_done (by kernel_rfl) (NoPanic.normal ?_)
          go_wp2
          go_ret
          exact ⟨rfl, bel_up' HG.out.2 HE.out⟩
        · have hz0 : (0 : Int) < (m : Int) := by omega
          have hz1 : (0 : Int) ≤ 0 := by omega
          have hl0 : zl m s ≠ [] := fun e => by have := congrArg List.length e; rw [zl_len] at this; exact hm0 this
          obtain ⟨g, cap, hv, hg1, hg2, hcells, hfz⟩ := HI.out.1.at hl0
          rw [zl_len] at hv hcells
          subst hvc
          cases hv
          have hc0 := hcells 0 (by omega)
          have hf0 := hfz 0
          obtain ⟨o0, ho0⟩ : ∃ o0, o0 = (zl m s).getD 0 0 := ⟨_, rfl⟩
          rw [← ho0] at hc0
          have HAc : Hid (ArgL (some ⟨g, 0, none⟩) m cc s wr ∧ w7.heap.size ≤ g ∧ wr.cell? ⟨g, 0, none⟩ = some (.int .i64 o0) ∧ wr.frozen? ⟨g, 0, none⟩ = false) := ⟨hAc, hg1, hc0, hf0⟩
          clear hAc hcells hfz hc0 hf0 ho0 hl0 hm0
          go_wp2_with fail
          refine (HRw.out wr HG.out.2).mono ?_
          rintro e w8 ⟨⟨x8, rfl, hx8⟩, k8, hw8⟩
          obtain ⟨pv, hpv, hpk⟩ := HP.out x8 D.q hx8 (by have := HA.out; omega) (by have := HA.out; omega)
          have HB8 : Hid (Below wr.heap.size wr w8 ∧ w8.cell? ⟨g, 0, none⟩ = some (.int .i64 o0) ∧ w8.frozen? ⟨g, 0, none⟩ = false) := by
            have hb : Below wr.heap.size wr w8 := by rw [hw8]; exact below_drewN2 (Below.refl _ _) _
            have hh := hb.block g (cell_lt HAc.out.2.2.1)
            exact ⟨hb, ((bcell hb).1 g 0 (cell_lt HAc.out.2.2.1)).trans HAc.out.2.2.1, by simpa [World.frozen?, hh] using HAc.out.2.2.2⟩
          have HPk : Hid (∀ w : World, Calls Try.prog 21 #[.int .i64 x8, .int .i64 (D.q : Nat)] w fun e w' => e = .returned (.int .i64 (pv : Nat)) ∧ w' = w) := hpk
          clear hx8 hw8 hpk hpv
          go_wp2_with fail
          refine (HPk.out w8).mono ?_
          rintro e w' ⟨rfl, hw⟩
          have hw := hw.symm
          subst hw
          obtain ⟨w9, hw9⟩ : ∃ w9, w9 = w8.setCell ⟨g, 0, none⟩ (.int .i64 (pv : Nat)) := ⟨_, rfl⟩
          have H9 : Hid (NmG D B k m ec H1 mc yc eo mo yo A C F T Z y w9 ∧ ArgL (some ⟨g, 0, none⟩) m cc (fun j => if j = 0 then ((pv : Nat) : Int) else s j) w9 ∧ Below w.heap.size w w9) := by
            have hb9 : Below w7.heap.size w7 w9 := by rw [hw9]; exact setO_below (bel_up' HI.out.2 HB8.out.1) HAc.out.2.1 _
            exact ⟨G7.out.1.below hb9, by rw [hw9]; exact (HAc.out.1.below HB8.out.1).put0 _, bel_up' G7.out.2.2.2.2 hb9⟩
          have hc := HB8.out
          obtain ⟨_, c0, f0⟩ := hc
          go_wp2
          try rw [← hw9]
          clear hw9 c0 f0
          have HK5 : Hid (∀ wx, Below w9.heap.size w9 wx → (fun wx : World => wx.cell? ⟨B, 0, none⟩ = some (.int .i64 (k : Nat)) ∧ wx.cell? ⟨B, 1, none⟩ = some (.slice eo m ec)) wx) := fun wx hx => ⟨(H9.out.1.nb.keep hx).c0, (H9.out.1.nb.keep hx).c1⟩
          obtain ⟨we, hwe⟩ : ∃ we, we = w9.drew := ⟨_, rfl⟩
          have H3 : Hid (Below w9.heap.size w9 we) := by rw [hwe]; exact (Below.refl w9.heap.size w9).drew
          have hS0 := HK5.out _ H3.out
          refine wp_region_noPanic ?_
          refine wp_region_X (S := fun wx : World => wx.cell? ⟨B, 0, none⟩ = some (.int .i64 (k : Nat)) ∧ wx.cell? ⟨B, 1, none⟩ = some (.slice eo m ec)) 12 (by kernel_rfl) ?_
          rw [← hwe]
          clear hwe
          refine wpAnyX_take (i := 0) (v := ?_) (by rw [List.getElem?_toArray]; rfl) (by kernel_rfl) (by kernel_rfl) (by kernel_rfl) (by kernel_rfl) (fun _ _ _ h => h) hS0 (Or.inl ⟨by rfl, ?_⟩) ?_
          rotate_left
          · intro wz hSz; obtain ⟨z0, z1⟩ := hSz; go_simp; first | done | with_reducible rfl
          try simp only [Act.put, List.setIfInBounds_toArray, List.set_cons_zero, List.set_cons_succ]
          refine wpAnyX_take (i := 1) (v := ?_) (by rw [List.getElem?_toArray]; rfl) (by kernel_rfl) (by kernel_rfl) (by kernel_rfl) (by kernel_rfl) (fun _ _ _ h => h) hS0 (Or.inl ⟨by rfl, ?_⟩) ?_
          rotate_left
          · intro wz hSz; obtain ⟨z0, z1⟩ := hSz; go_simp; first | done | with_reducible rfl
          try simp only [Act.put, List.setIfInBounds_toArray, List.set_cons_zero, List.set_cons_succ]
          refine wpAnyX_take (i := 2) (v := ?_) (by rw [List.getElem?_toArray]; rfl) (by kernel_rfl) (by kernel_rfl) (by kernel_rfl) (by kernel_rfl) (fun _ _ _ h => h) hS0 (Or.inl ⟨by rfl, ?_⟩) ?_
          rotate_left
          · intro wz hSz; obtain ⟨z0, z1⟩ := hSz; go_simp; first | done | with_reducible rfl
          try simp only [Act.put, List.setIfInBounds_toArray, List.set_cons_zero, List.set_cons_succ]
          refine wpAnyX_take (i := 3) (v := ?_) (by rw [List.getElem?_toArray]; rfl) (by kernel_rfl) (by kernel_rfl) (by kernel_rfl) (by kernel_rfl) (fun _ _ _ h => h) hS0 (Or.inl ⟨by rfl, ?_⟩) ?_
          rotate_left
          · intro wz hSz; obtain ⟨z0, z1⟩ := hSz; go_simp; first | done | with_reducible rfl
          try simp only [Act.put, List.setIfInBounds_toArray, List.set_cons_zero, List.set_cons_succ]
          refine wpAnyX_take (i := 4) (v := ?_) (by rw [List.getElem?_toArray]; rfl) (by kernel_rfl) (by kernel_rfl) (by kernel_rfl) (by kernel_rfl) (fun _ _ _ h => h) hS0 (Or.inl ⟨by rfl, ?_⟩) ?_
          rotate_left
          · intro wz hSz; obtain ⟨z0, z1⟩ := hSz; go_simp; first | done | with_reducible rfl
          try simp only [Act.put, List.setIfInBounds_toArray, List.set_cons_zero, List.set_cons_succ]
          refine wpAnyX_take (i := 5) (v := ?_) (by rw [List.getElem?_toArray]; rfl) (by kernel_rfl) (by kernel_rfl) (by kernel_rfl) (by kernel_rfl) (fun _ _ _ h => h) hS0 (Or.inl ⟨by rfl, ?_⟩) ?_
          rotate_left
          · intro wz hSz; obtain ⟨z0, z1⟩ := hSz; go_simp; first | done | with_reducible rfl
          try simp only [Act.put, List.setIfInBounds_toArray, List.set_cons_zero, List.set_cons_succ]
          refine wpAnyX_take (i := 6) (v := ?_) (by rw [List.getElem?_toArray]; rfl) (by kernel_rfl) (by kernel_rfl) (by kernel_rfl) (by kernel_rfl) (fun _ _ _ h => h) hS0 (Or.inl ⟨by rfl, ?_⟩) ?_
          rotate_left
          · intro wz hSz; obtain ⟨z0, z1⟩ := hSz; go_simp; first | done | with_reducible rfl
          try simp only [Act.put, List.setIfInBounds_toArray, List.set_cons_zero, List.set_cons_succ]
          refine wpAnyX_take (i := 7) (v := ?_) (by rw [List.getElem?_toArray]; rfl) (by kernel_rfl) (by kernel_rfl) (by kernel_rfl) (by kernel_rfl) (fun _ _ _ h => h) hS0 (Or.inl ⟨by rfl, ?_⟩) ?_
          rotate_left
          · intro wz hSz; obtain ⟨z0, z1⟩ := hSz; go_simp; first | done | with_reducible rfl
          try simp only [Act.put, List.setIfInBounds_toArray, List.set_cons_zero, List.set_cons_succ]
          refine wpAnyX_take (i := 8) (v := ?_) (by rw [List.getElem?_toArray]; rfl) (by kernel_rfl) (by kernel_rfl) (by kernel_rfl) (by kernel_rfl) (fun _ _ _ h => h) hS0 (Or.inl ⟨by rfl, ?_⟩) ?_
          rotate_left
          · intro wz hSz; obtain ⟨z0, z1⟩ := hSz; go_simp; first | done | with_reducible rfl
          try simp only [Act.put, List.setIfInBounds_toArray, List.set_cons_zero, List.set_cons_succ]
          refine wpAnyX_one (i := 9) (by kernel_rfl) (by rw [List.getElem?_toArray]; rfl) (fun KK hK => ?_)
          have HK : Hid _ := hK
          clear hK
          go_simp
          refine (HPx.out we).mono ?_
          rintro e w' ⟨rfl, hw⟩
          have hw := hw.symm
          subst hw
          refine HK.out _ _ (fun _ => HK5.out _ H3.out) ?_
          clear HK KK
          try simp only [Act.put, List.setIfInBounds_toArray, List.set_cons_zero, List.set_cons_succ]
          refine wpAnyX_one (i := 10) (by kernel_rfl) (by rw [List.getElem?_toArray]; rfl) (fun KK hK => ?_)
          have HK : Hid _ := hK
          clear hK
          go_simp
          refine HK.out _ _ (fun _ => HK5.out _ H3.out) ?_
          clear HK KK
          try simp only [Act.put, List.setIfInBounds_toArray, List.set_cons_zero, List.set_cons_succ]
          refine wpAnyX_one (i := 11) (by kernel_rfl) (by rw [List.getElem?_toArray]; rfl) (fun KK hK => ?_)
          have HK : Hid _ := hK
          clear hK
          go_simp
          refine (HFin.out we _ _ _ (H9.out.1.below H3.out) (H9.out.2.1.below H3.out)).mono ?_
          rintro e wf ⟨rfl, hbf⟩
          have HE : Hid (Below w9.heap.size w9 wf) := bel_up' H3.out hbf
          clear hbf
          refine HK.out _ _ (fun _ => HK5.out _ HE.out) ?_
          clear HK KK
          try simp only [Act.put, List.setIfInBounds_toArray, List.set_cons_zero, List.set_cons_succ]
          refine wpAnyX_one (i := 12) (by kernel_rfl) (by rw [List.getElem?_toArray]; rfl) (fun KK hK => ?_)
          have HK : Hid _ := hK
          clear hK
          go_simp
          refine HK.out _ _ (fun h => absurd rfl h) ?_
          clear HK KK
          try simp only [Act.put, List.setIfInBounds_toArray, List.set_cons_zero, List.set_cons_succ]
          refine wpAnyX_done (by kernel_rfl) (NoPanic.normal ?_)
          go_wp2
          go_ret
          exact ⟨rfl, bel_up' H9.out.2.2 HE.out⟩
      · have ht : turned = false := by cases turned <;> simp_all
        subst ht
        subst hvc
        go_wp2
        have HK5 : Hid (∀ wx, Below wr.heap.size wr wx → (fun wx : World => wx.cell? ⟨B, 0, none⟩ = some (.int .i64 (k : Nat)) ∧ wx.cell? ⟨B, 1, none⟩ = some (.slice eo m ec)) wx) := fun wx hx => ⟨(HG.out.1.nb.keep hx).c0, (HG.out.1.nb.keep hx).c1⟩
        obtain ⟨we, hwe⟩ : ∃ we, we = wr.drew := ⟨_, rfl⟩
        have H3 : Hid (Below wr.heap.size wr we) := by rw [hwe]; exact (Below.refl wr.heap.size wr).drew
        have hS0 := HK5.out _ H3.out
        refine wp_region_noPanic ?_
        refine wp_region_X (S := fun wx : World => wx.cell? ⟨B, 0, none⟩ = some (.int .i64 (k : Nat)) ∧ wx.cell? ⟨B, 1, none⟩ = some (.slice eo m ec)) 12 (by kernel_rfl) ?_
        rw [← hwe]
        clear hwe
        refine wpAnyX_take (i := 0) (v := ?_) (by rw [List.getElem?_toArray]; rfl) (by kernel_rfl) (by kernel_rfl) (by kernel_rfl) (by kernel_rfl) (fun _ _ _ h => h) hS0 (Or.inl ⟨by rfl, ?_⟩) ?_
        rotate_left
        · intro wz hSz; obtain ⟨z0, z1⟩ := hSz; go_simp; first | done | with_reducible rfl
        try simp only [Act.put, List.setIfInBounds_toArray, List.set_cons_zero, List.set_cons_succ]
        refine wpAnyX_take (i := 1) (v := ?_) (by rw [List.getElem?_toArray]; rfl) (by kernel_rfl) (by kernel_rfl) (by kernel_rfl) (by kernel_rfl) (fun _ _ _ h => h) hS0 (Or.inl ⟨by rfl, ?_⟩) ?_
        rotate_left
        · intro wz hSz; obtain ⟨z0, z1⟩ := hSz; go_simp; first | done | with_reducible rfl
        try simp only [Act.put, List.setIfInBounds_toArray, List.set_cons_zero, List.set_cons_succ]
        refine wpAnyX_take (i := 2) (v := ?_) (by rw [List.getElem?_toArray]; rfl) (by kernel_rfl) (by kernel_rfl) (by kernel_rfl) (by kernel_rfl) (fun _ _ _ h => h) hS0 (Or.inl ⟨by rfl, ?_⟩) ?_
        rotate_left
        · intro wz hSz; obtain ⟨z0, z1⟩ := hSz; go_simp; first | done | with_reducible rfl
        try simp only [Act.put, List.setIfInBounds_toArray, List.set_cons_zero, List.set_cons_succ]
        refine wpAnyX_take (i := 3) (v := ?_) (by rw [List.getElem?_toArray]; rfl) (by kernel_rfl) (by kernel_rfl) (by kernel_rfl) (by kernel_rfl) (fun _ _ _ h => h) hS0 (Or.inl ⟨by rfl, ?_⟩) ?_
        rotate_left
        · intro wz hSz; obtain ⟨z0, z1⟩ := hSz; go_simp; first | done | with_reducible rfl
        try simp only [Act.put, List.setIfInBounds_toArray, List.set_cons_zero, List.set_cons_succ]
        refine wpAnyX_take (i := 4) (v := ?_) (by rw [List.getElem?_toArray]; rfl) (by kernel_rfl) (by kernel_rfl) (by kernel_rfl) (by kernel_rfl) (fun _ _ _ h => h) hS0 (Or.inl ⟨by rfl, ?_⟩) ?_
        rotate_left
        · intro wz hSz; obtain ⟨z0, z1⟩ := hSz; go_simp; first | done | with_reducible rfl
        try simp only [Act.put, List.setIfInBounds_toArray, List.set_cons_zero, List.set_cons_succ]
        refine wpAnyX_take (i := 5) (v := ?_) (by rw [List.getElem?_toArray]; rfl) (by kernel_rfl) (by kernel_rfl) (by kernel_rfl) (by kernel_rfl) (fun _ _ _ h => h) hS0 (Or.inl ⟨by rfl, ?_⟩) ?_
        rotate_left
        · intro wz hSz; obtain ⟨z0, z1⟩ := hSz; go_simp; first | done | with_reducible rfl
        try simp only [Act.put, List.setIfInBounds_toArray, List.set_cons_zero, List.set_cons_succ]
        refine wpAnyX_take (i := 6) (v := ?_) (by rw [List.getElem?_toArray]; rfl) (by kernel_rfl) (by kernel_rfl) (by kernel_rfl) (by kernel_rfl) (fun _ _ _ h => h) hS0 (Or.inl ⟨by rfl, ?_⟩) ?_
        rotate_left
        · intro wz hSz; obtain ⟨z0, z1⟩ := hSz; go_simp; first | done | with_reducible rfl
        try simp only [Act.put, List.setIfInBounds_toArray, List.set_cons_zero, List.set_cons_succ]
        refine wpAnyX_take (i := 7) (v := ?_) (by rw [List.getElem?_toArray]; rfl) (by kernel_rfl) (by kernel_rfl) (by kernel_rfl) (by kernel_rfl) (fun _ _ _ h => h) hS0 (Or.inl ⟨by rfl, ?_⟩) ?_
        rotate_left
        · intro wz hSz; obtain ⟨z0, z1⟩ := hSz; go_simp; first | done | with_reducible rfl
        try simp only [Act.put, List.setIfInBounds_toArray, List.set_cons_zero, List.set_cons_succ]
        refine wpAnyX_take (i := 8) (v := ?_) (by rw [List.getElem?_toArray]; rfl) (by kernel_rfl) (by kernel_rfl) (by kernel_rfl) (by kernel_rfl) (fun _ _ _ h => h) hS0 (Or.inl ⟨by rfl, ?_⟩) ?_
        rotate_left
        · intro wz hSz; obtain ⟨z0, z1⟩ := hSz; go_simp; first | done | with_reducible rfl
        try simp only [Act.put, List.setIfInBounds_toArray, List.set_cons_zero, List.set_cons_succ]
        refine wpAnyX_one (i := 9) (by kernel_rfl) (by rw [List.getElem?_toArray]; rfl) (fun KK hK => ?_)
        have HK : Hid _ := hK
        clear hK
        go_simp
        refine (HPx.out we).mono ?_
        rintro e w' ⟨rfl, hw⟩
        have hw := hw.symm
        subst hw
        refine HK.out _ _ (fun _ => HK5.out _ H3.out) ?_
        clear HK KK
        try simp only [Act.put, List.setIfInBounds_toArray, List.set_cons_zero, List.set_cons_succ]
        refine wpAnyX_one (i := 10) (by kernel_rfl) (by rw [List.getElem?_toArray]; rfl) (fun KK hK => ?_)
        have HK : Hid _ := hK
        clear hK
        go_simp
        refine HK.out _ _ (fun _ => HK5.out _ H3.out) ?_
        clear HK KK
        try simp only [Act.put, List.setIfInBounds_toArray, List.set_cons_zero, List.set_cons_succ]
        refine wpAnyX_one (i := 11) (by kernel_rfl) (by rw [List.getElem?_toArray]; rfl) (fun KK hK => ?_)
        have HK : Hid _ := hK
        clear hK
        go_simp
        refine (HFin.out we _ _ _ (HG.out.1.below H3.out) (hAc.below H3.out)).mono ?_
        rintro e wf ⟨rfl, hbf⟩
        have HE : Hid (Below wr.heap.size wr wf) := bel_up' H3.out hbf
        clear hbf
        refine HK.out _ _ (fun _ => HK5.out _ HE.out) ?_
        clear HK KK
        try simp only [Act.put, List.setIfInBounds_toArray, List.set_cons_zero, List.set_cons_succ]
        refine wpAnyX_one (i := 12) (by kernel_rfl) (by rw [List.getElem?_toArray]; rfl) (fun KK hK => ?_)
        have HK : Hid _ := hK
        clear hK
        go_simp
        refine HK.out _ _ (fun h => absurd rfl h) ?_
        clear HK KK
        try simp only [Act.put, List.setIfInBounds_toArray, List.set_cons_zero, List.set_cons_succ]
        refine wpAnyX_done (by kernel_rfl) (NoPanic.normal ?_)
        go_wp2
        go_ret
        exact ⟨rfl, bel_up' HG.out.2 HE.out⟩
end Go.Proofs.Ythkjaiihlphgfaa
