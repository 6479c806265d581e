/- As much comes to all as comes to each (TopNet's walk). -/
import Derived.Test.YtbnkekeeceicaaaZS100
import Derived.Test.YtbnkekeeceicaaaZL10
import Derived.Test.YtbnkekeeceicaaaZI24
namespace Go.Proofs.Ytbnkekeeceicaaa
open Go.RowKit Go.Sort

/-- The least of the first, as a value. -/
def TnH (m : Nat) (ff : Nat → Nat) (i : Nat) (v : Value) : Prop := v = .int .i64 (hmn m ff i : Nat)
set_option maxHeartbeats 4000000 in
set_option maxRecDepth 100000 in
theorem topNet_long {ao mo : Option Addr} {n ca ml mc : Nat} (q nodes edges sk cut : Int) (w : World) (h1 : n ≤ 17592186044416) (h2 : ml ≤ 17592186044416) (hn : 256 < n + ml) :
    Calls Try.prog 3 #[.slice ao n ca, .int .i64 q, .int .i64 nodes, .int .i64 edges, .int .i64 sk, .slice mo ml mc, .int .i64 cut] w fun e w' => e = .returned (.bool true) ∧ Below w.heap.size w w' := by
  obtain ⟨N, hN⟩ : ∃ N, N = n + ml := ⟨_, rfl⟩
  have hw : IntKind.i64.wrap ((n : Int) + (ml : Int)) = (N : Int) := wrap_to (by omega) (by omega)
  have hnb : (256 : Int) < (N : Int) := by omega
  clear hN hn
  go_enter Try.func3, Try.ntmps3
  go_wp2
  go_ret
  exact ⟨rfl, Below.refl _ _⟩

set_option maxHeartbeats 32000000 in
set_option maxRecDepth 100000 in
theorem topNet_walk {ao mo : Option Addr} {n ca ml mc : Nat} {z y : Nat → Int} (q nodes edges sk cut : Int) {w : World} (ha : Arg ao n ca z w) (hb : Arg mo ml mc y w) (hn : n + ml ≤ 256) (hq : I64 q) (hnd : I64 nodes) (heg : I64 edges) (hsk : I64 sk) (hcu : I64 cut) :
    Calls Try.prog 3 #[.slice ao n ca, .int .i64 q, .int .i64 nodes, .int .i64 edges, .int .i64 sk, .slice mo ml mc, .int .i64 cut] w fun e w' => e = .returned (.bool true) ∧ Below w.heap.size w w' := by
  obtain ⟨N, hN⟩ : ∃ N, N = n + ml := ⟨_, rfl⟩
  have hwN : IntKind.i64.wrap ((n : Int) + (ml : Int)) = (N : Int) := wrap_to (by omega) (by omega)
  have hnb : ¬ (256 : Int) < (N : Int) := by omega
  obtain ⟨D, hD, hDq⟩ := sizeOf_field q
  have h64 := (fld hD).q64
  have h2q := (fld hD).q2
  obtain ⟨S0, hS0, hp1⟩ := pick_nt sk 4 hsk (by omega) (by omega)
  obtain ⟨M, hM, hp2⟩ := pick_nt cut 512 hcu (by omega) (by omega)
  obtain ⟨S1, hS1⟩ : ∃ S1, S1 = 1 + S0 := ⟨_, rfl⟩
  have hwS : IntKind.i64.wrap (1 + (S0 : Int)) = (S1 : Int) := wrap_to (by omega) (by omega)
  have hSb : 1 ≤ S1 ∧ S1 ≤ 4 := by omega
  have HD : Hid (D ∈ fieldsL) := hD
  have HP1 : Hid (∀ w : World, Calls Try.prog 7 #[.int .i64 sk, .int .i64 4] w fun e w' => e = .returned (.int .i64 (S0 : Nat)) ∧ w' = w) := hp1
  have HP2 : Hid (∀ w : World, Calls Try.prog 7 #[.int .i64 cut, .int .i64 512] w fun e w' => e = .returned (.int .i64 (M : Nat)) ∧ w' = w) := hp2
  have HS : Hid (∀ w : World, Calls Try.prog 5 #[.int .i64 q] w fun e w' => e = .returned (.int .i64 D.q) ∧ Below w.heap.size w w') := fun w => by rw [← hDq]; exact sizeOf_any q w hq.1 hq.2
  have HNet : Hid (Calls Try.prog 4 #[.slice ao n ca, .int .i64 nodes, .int .i64 edges] w fun e w' => ∃ (k m ec : Nat) (eo : Option Addr) (F T : Nat → Nat), e = .returned (.agg #[.int .i64 (k : Nat), .slice eo m ec]) ∧ EdZ eo m (fun i => ((F i : Nat) : Int)) (fun i => ((T i : Nat) : Int)) w' ∧ Nt k m F T ∧ nchkE (k : Nat) m (fun i => ((F i : Nat) : Int)) (fun i => ((T i : Nat) : Int)) = 0 ∧ 2 ≤ k ∧ k ≤ 8 ∧ m ≤ 24 ∧ Below w.heap.size w w') := by
    refine (netOf_may nodes edges ha (by omega) hnd heg).mono ?_
    rintro e w' ⟨k, m, ec, eo, F, T, a1, a2, a3, a4, a5, a6, a7⟩
    obtain ⟨Fn, Tn, b1, b2, b3⟩ := edz_nat a2 a3 (by omega) a5 a7
    exact ⟨k, m, ec, eo, Fn, Tn, a1, b1, b2, b3, a3, a4, a5, a6⟩
  have HPl : Hid (∀ k1 : Nat, 1 ≤ k1 → k1 ≤ 7 → ∀ wx, Below w.heap.size w wx → Calls Try.prog 6 #[.slice ao n ca, .int .i64 (k1 : Nat), .int .i64 (k1 : Nat)] wx fun e w' => ∃ g c, e = .returned (.slice (some ⟨g, 0, none⟩) k1 k1) ∧ wx.heap.size ≤ g ∧ Row g k1 c w' ∧ Perm' k1 c ∧ Below wx.heap.size wx w') := fun k1 h1 h7 wx hx => places_any (ha.below hx) (by omega) k1 k1 h1 (by omega) (Nat.le_refl _)
  have HNu : Hid (∀ (hv : Nat) wx, hv ≤ 24 → Below w.heap.size w wx → Calls Try.prog 11 #[.slice mo ml mc, .int .i64 0, .int .i64 D.q, .int .i64 (hv : Nat)] wx fun e w' => ∃ (bo : Option Addr) (cb : Nat) (x : Nat → Nat), e = .returned (.slice bo hv cb) ∧ SlZ bo hv (fun j => ((x j : Nat) : Int)) w' ∧ El D x ∧ Bd hv x ∧ Below wx.heap.size wx w') := fun hv wx hh hx => by
    refine (numbers_any (hb.below hx) (by omega) 0 D.q hv (by omega) (by omega) (by omega) (by omega)).mono ?_
    rintro e w' ⟨v, y, rfl, ho, hbl, hb⟩
    obtain ⟨bo, cb, rfl, hA⟩ := ho.argL
    refine ⟨bo, cb, fun j => if j < hv then (y j).toNat else 0, rfl, fun j hj => ?_, fun j => ?_, fun j hj => ?_, hb⟩
    · obtain ⟨b, off, e, hc⟩ := hA.sl j hj
      have := hbl j hj
      refine ⟨b, off, e, ?_⟩
      show _ = some (Value.int .i64 (((if j < hv then (y j).toNat else 0 : Nat) : Nat) : Int))
      rw [if_pos hj, Int.toNat_of_nonneg this.1]; exact hc
    · show (if j < hv then (y j).toNat else 0) < D.q
      split
      · rename_i hj; have := hbl j hj; omega
      · omega
    · show (if j < hv then (y j).toNat else 0) = 0
      rw [if_neg (by omega)]
  clear ha hb hD hDq hS0 hp1 hp2 hS1 hq hnd heg hsk hcu hN hn hM
  go_enter Try.func3, Try.ntmps3
  go_wp2_with fail
  refine HNet.out.mono ?_
  rintro e w1 ⟨k, m, ec, eo, F, T, rfl, hE1, hNt, hck, hk1, hk2, hm, hb1⟩
  obtain ⟨B, hB⟩ : ∃ B, B = w1.heap.size := ⟨_, rfl⟩
  obtain ⟨w2, hw2⟩ : ∃ w2, w2 = w1.alloc (.cells #[.int .i64 (k : Nat), .slice eo m ec] 25) := ⟨_, rfl⟩
  have hb12 : Below w1.heap.size w1 w2 := by rw [hw2]; exact (Below.refl _ _).alloc (Nat.le_refl _) _
  have G2 : Hid (EdZ eo m (fun i => ((F i : Nat) : Int)) (fun i => ((T i : Nat) : Int)) w2 ∧ NB B (k : Nat) (.slice eo m ec) w2 ∧ Below w.heap.size w w2) := ⟨hE1.below hb12, by rw [hw2, hB]; exact NB.new _ _ _, bel_up' hb1 hb12⟩
  have HNt : Hid (Nt k m F T ∧ nchkE (k : Nat) m (fun i => ((F i : Nat) : Int)) (fun i => ((T i : Nat) : Int)) = 0) := ⟨hNt, hck⟩
  clear hE1 hb1 hb12 HNet hNt hck
  go_wp2_with fail
  rw [← hw2, ← hB]
  clear hw2 hB
  refine (HS.out w2).mono ?_
  rintro e w3 ⟨rfl, hb3⟩
  have G3 : Hid (EdZ eo m (fun i => ((F i : Nat) : Int)) (fun i => ((T i : Nat) : Int)) w3 ∧ NB B (k : Nat) (.slice eo m ec) w3 ∧ Below w.heap.size w w3) := ⟨G2.out.1.below hb3, G2.out.2.1.keep hb3, bel_up' G2.out.2.2 hb3⟩
  clear hb3 G2 HS
  obtain ⟨k1, hk1e⟩ : ∃ k1, k1 = k - 1 := ⟨_, rfl⟩
  have hwk : IntKind.i64.wrap ((k : Int) - 1) = (k1 : Int) := wrap_to (by omega) (by omega)
  have hkb : 1 ≤ k1 ∧ k1 ≤ 7 := by omega
  have HKk : Hid (k = k1 + 1) := by show _ = _; omega
  clear hk1e hk1 hk2
  obtain ⟨c0, c1⟩ := G3.out.2.1
  go_wp2_with fail
  clear c0 c1
  refine (HPl.out k1 hkb.1 hkb.2 w3 G3.out.2.2).mono ?_
  rintro e w4 ⟨g, c, rfl, hg, hR4, hPe, hb4⟩
  have G4 : Hid (EdZ eo m (fun i => ((F i : Nat) : Int)) (fun i => ((T i : Nat) : Int)) w4 ∧ NB B (k : Nat) (.slice eo m ec) w4 ∧ Below w.heap.size w w4 ∧ Row g k1 c w4) := ⟨G3.out.1.below hb4, G3.out.2.1.keep hb4, bel_up' G3.out.2.2 hb4, hR4⟩
  obtain ⟨tt, htt⟩ : ∃ tt : Nat → Nat, tt = fun j => c j + 1 := ⟨_, rfl⟩
  have HT : Hid ((∀ j, tt j = c j + 1) ∧ (∀ j, j < k1 → 1 ≤ tt j ∧ tt j < k) ∧ ∀ i j, i < j → j < k1 → tt i ≠ tt j) := by
    have hk := HKk.out
    refine ⟨fun j => by rw [htt], fun j hj => ?_, fun i j hij hj => ?_⟩
    · have := hPe.1 j hj; rw [htt]; show 1 ≤ c j + 1 ∧ c j + 1 < k; omega
    · have := hPe.2 i j hij hj; rw [htt]; show c i + 1 ≠ c j + 1; omega
  obtain ⟨ff, hff⟩ : ∃ ff : Nat → Nat, ff = fun j => (cuB m F T (tt j) (2 ^ (k - 1))).1 := ⟨_, rfl⟩
  have HF : Hid (∀ j, ff j = (cuB m F T (tt j) (2 ^ (k - 1))).1) := fun j => by rw [hff]
  clear hR4 hPe hb4 G3 HPl hg htt hff
  have HFl : Hid (∀ j wx, j < k1 → Below w4.heap.size w4 wx → Calls Try.prog 8 #[.agg #[.int .i64 (k : Nat), .slice eo m ec], .int .i64 (tt j : Nat)] wx fun e w' => e = .returned (.tuple #[.int .i64 (ff j : Nat), .int .i64 0]) ∧ Below wx.heap.size wx w') := fun j wx hj hx => by
    have h9 := HT.out.2.1 j hj
    rw [HF.out j]
    refine nFlow_ok (G4.out.1.below hx) HNt.out.1 (by omega) (by have := HKk.out; omega) (by omega) h9.2 (by omega) (fun wy hy => ?_)
    have h8 := nCheckTo_any (k : Nat) (tt j : Nat) (ec := ec) ((G4.out.1.below hx).below hy) (by omega)
    rw [HNt.out.2, show skchk (k : Nat) (tt j : Nat) 0 = 0 by unfold skchk; rw [if_neg (fun c => c rfl), if_neg (by omega)]] at h8
    exact h8
  have HAc : Hid (∀ j wx, j < k1 → Below w4.heap.size w4 wx → Calls Try.prog 9 #[.agg #[.int .i64 (k : Nat), .slice eo m ec], .int .i64 (M : Nat), .int .i64 (tt j : Nat)] wx fun e w' => (∃ X : Nat, e = .returned (.int .i64 (X : Nat)) ∧ ff j ≤ X) ∧ Below wx.heap.size wx w') := fun j wx hj hx => by
    have h9 := HT.out.2.1 j hj
    refine (across_any (G4.out.1.below hx) HNt.out.1 (by have := HKk.out; omega) (by omega) (by omega)).mono ?_
    rintro e w' ⟨rfl, hb⟩
    exact ⟨⟨_, rfl, by rw [HF.out j]; exact acN_cut HNt.out.1 (by omega) h9.2 (by omega)⟩, hb⟩
  have HFm : Hid (∀ j, j < k1 → ff j ≤ m) := fun j hj => by
    have h9 := HT.out.2.1 j hj
    rw [HF.out j]; exact cuB_top HNt.out.1 (by omega) h9.2 (by omega)
  obtain ⟨m1, hm1⟩ : ∃ m1, m1 = m + 1 := ⟨_, rfl⟩
  have hwm : IntKind.i64.wrap ((m : Int) + 1) = (m1 : Int) := wrap_to (by omega) (by omega)
  have HM1 : Hid (m1 = m + 1) := hm1
  clear hm1
  obtain ⟨c0, c1⟩ := G4.out.2.1
  go_wp2
  clear c0 c1
  go_loopw [17, 18, 19] (fun vs vh vi wr => ∃ (i : Nat), i ≤ k1 ∧ i ≤ S1 ∧ i ≤ D.q ∧ vi = .int .i64 (i : Nat) ∧ Hid (TnH m ff i vh ∧ OwnI w4.heap.size vs (zl i fun j => ((tt j : Nat) : Int)) wr ∧ Below w4.heap.size w4 wr)) (fun _ _ vi _ => k1 - (RowKit.intOf vi).toNat)
  case atStart => exact ⟨0, by omega, by omega, by omega, rfl, by rw [HM1.out]; rfl, OwnI.nil _ _, Below.refl _ _⟩
  case round =>
    obtain ⟨i, hi, his, hiq, rfl, HG0⟩ := hrel
    rename World => wr
    obtain ⟨hv, hhv⟩ : ∃ hv, hv = hmn m ff i := ⟨_, rfl⟩
    have hvv := HG0.out.1
    unfold TnH at hvv
    rw [← hhv] at hvv
    subst hvv
    have HG : Hid (hv = hmn m ff i ∧ OwnI w4.heap.size u17 (zl i fun j => ((tt j : Nat) : Int)) wr ∧ Below w4.heap.size w4 wr) := ⟨hhv, HG0.out.2⟩
    clear HG0 hhv
    by_cases hlt : i < k1
    · have hib : (i : Int) < (k1 : Int) := by omega
      have hib0 : (0 : Int) ≤ (i : Int) := by omega
      have hid : decide ((i : Int) < (k1 : Int)) = true := decide_eq_true hib
      go_wp2_with fail
      refine (HP1.out wr).mono ?_
      rintro e wn ⟨rfl, hwn⟩
      replace hwn := hwn.symm
      subst hwn
      by_cases hls : i < S1
      · have hsb : (i : Int) < (S1 : Int) := by omega
        have hsd : decide ((i : Int) < (S1 : Int)) = true := decide_eq_true hsb
        by_cases hlq : i < D.q
        · have hqb : (i : Int) < (D.q : Int) := by omega
          have hqd : decide ((i : Int) < (D.q : Int)) = true := decide_eq_true hqb
          obtain ⟨x, hx⟩ : ∃ x, x = c i := ⟨_, rfl⟩
          obtain ⟨x1, hx1⟩ : ∃ x1, x1 = x + 1 := ⟨_, rfl⟩
          have hcl : wr.cell? ⟨g, i, none⟩ = some (.int .i64 ((x : Nat) : Int)) := by
            rw [hx]; exact (G4.out.2.2.2.below HG.out.2.2 G4.out.2.2.2.lt).cell i hlt
          have HX1 : Hid (tt i = x1) := by show _ = _; rw [HT.out.1 i, hx1, hx]
          have hxb : x ≤ 8 := by have := HT.out.2.1 i hlt; have := HX1.out; have := HKk.out; omega
          have hwx : IntKind.i64.wrap ((x : Int) + 1) = (x1 : Int) := wrap_to (by omega) (by omega)
          clear hx hx1
          obtain ⟨fi, hfi⟩ : ∃ fi, fi = ff i := ⟨_, rfl⟩
          have HFi : Hid (fi = ff i) := hfi
          have hfm : fi ≤ m := by rw [hfi]; exact HFm.out i hlt
          clear hfi
          have HFl1 : Hid (∀ wx, Below w4.heap.size w4 wx → Calls Try.prog 8 #[.agg #[.int .i64 (k : Nat), .slice eo m ec], .int .i64 (x1 : Nat)] wx fun e w' => e = .returned (.tuple #[.int .i64 (fi : Nat), .int .i64 0]) ∧ Below wx.heap.size wx w') := fun wx hx => by
            have h9 := HFl.out i wx hlt hx
            rw [HX1.out, ← HFi.out] at h9
            exact h9
          have HAc1 : Hid (∀ wx, Below w4.heap.size w4 wx → Calls Try.prog 9 #[.agg #[.int .i64 (k : Nat), .slice eo m ec], .int .i64 (M : Nat), .int .i64 (x1 : Nat)] wx fun e w' => (∃ X : Nat, e = .returned (.int .i64 (X : Nat)) ∧ fi ≤ X) ∧ Below wx.heap.size wx w') := fun wx hx => by
            have h9 := HAc.out i wx hlt hx
            rw [HX1.out, ← HFi.out] at h9
            exact h9
          have HK5 : Hid (∀ wy, Below wr.heap.size wr wy → (fun wx : World => NB B (k : Nat) (.slice eo m ec) wx ∧ wx.cell? ⟨g, i, none⟩ = some (.int .i64 ((x : Nat) : Int))) wy) := fun wy hy => ⟨(G4.out.2.1.keep HG.out.2.2).keep hy, ((bcell hy).1 _ _ (cell_lt hcl)).trans hcl⟩
          clear hcl
          go_wp2
          have hS0 := HK5.out _ (Below.refl wr.heap.size wr).drew
          refine wp_region_noPanic ?_
          refine wp_region_L (S := (fun wx : World => NB B (k : Nat) (.slice eo m ec) wx ∧ wx.cell? ⟨g, i, none⟩ = some (.int .i64 ((x : Nat) : Int)))) [] (by kernel_rfl) ?_
          refine wpAnyL_take (i := 0) (v := ?_) (by rw [List.getElem?_toArray]; rfl) (by decide +kernel) (by decide +kernel) (by decide +kernel) (by decide +kernel) (by decide +kernel) (fun _ _ _ h => h) hS0 (Or.inl ⟨by rfl, ?_⟩) ?_
          rotate_left
          · intro wz hSz; obtain ⟨⟨z0, z1⟩, z2⟩ := hSz; go_simp; first | done | with_reducible rfl | (simp only [hib0, hib, and_self, if_true, Int.toNat_natCast]; first | done | with_reducible rfl) | (simp [hib0, hib]; first | done | with_reducible rfl)
          try simp only [Act.put, List.setIfInBounds_toArray, List.set_cons_zero, List.set_cons_succ]
          refine wpAnyL_take (i := 1) (v := ?_) (by rw [List.getElem?_toArray]; rfl) (by decide +kernel) (by decide +kernel) (by decide +kernel) (by decide +kernel) (by decide +kernel) (fun _ _ _ h => h) hS0 (Or.inl ⟨by rfl, ?_⟩) ?_
          rotate_left
          · intro wz hSz; obtain ⟨⟨z0, z1⟩, z2⟩ := hSz; go_simp; first | done | with_reducible rfl | (simp only [hib0, hib, and_self, if_true, Int.toNat_natCast]; first | done | with_reducible rfl) | (simp [hib0, hib]; first | done | with_reducible rfl)
          try simp only [Act.put, List.setIfInBounds_toArray, List.set_cons_zero, List.set_cons_succ]
          refine wpAnyL_take (i := 2) (v := ?_) (by rw [List.getElem?_toArray]; rfl) (by decide +kernel) (by decide +kernel) (by decide +kernel) (by decide +kernel) (by decide +kernel) (fun _ _ _ h => h) hS0 (Or.inl ⟨by rfl, ?_⟩) ?_
          rotate_left
          · intro wz hSz; obtain ⟨⟨z0, z1⟩, z2⟩ := hSz; go_simp; first | done | with_reducible rfl | (simp only [hib0, hib, and_self, if_true, Int.toNat_natCast]; first | done | with_reducible rfl) | (simp [hib0, hib]; first | done | with_reducible rfl)
          try simp only [Act.put, List.setIfInBounds_toArray, List.set_cons_zero, List.set_cons_succ]
          refine wpAnyL_take (i := 3) (v := ?_) (by rw [List.getElem?_toArray]; rfl) (by decide +kernel) (by decide +kernel) (by decide +kernel) (by decide +kernel) (by decide +kernel) (fun _ _ _ h => h) hS0 (Or.inl ⟨by rfl, ?_⟩) ?_
          rotate_left
          · intro wz hSz; obtain ⟨⟨z0, z1⟩, z2⟩ := hSz; go_simp; first | done | with_reducible rfl | (simp only [hib0, hib, and_self, if_true, Int.toNat_natCast]; first | done | with_reducible rfl) | (simp [hib0, hib]; first | done | with_reducible rfl)
          try simp only [Act.put, List.setIfInBounds_toArray, List.set_cons_zero, List.set_cons_succ]
          refine wpAnyL_take (i := 4) (v := ?_) (by rw [List.getElem?_toArray]; rfl) (by decide +kernel) (by decide +kernel) (by decide +kernel) (by decide +kernel) (by decide +kernel) (fun _ _ _ h => h) hS0 (Or.inl ⟨by rfl, ?_⟩) ?_
          rotate_left
          · intro wz hSz; obtain ⟨⟨z0, z1⟩, z2⟩ := hSz; go_simp; first | done | with_reducible rfl | (simp only [hib0, hib, and_self, if_true, Int.toNat_natCast]; first | done | with_reducible rfl) | (simp [hib0, hib]; first | done | with_reducible rfl)
          try simp only [Act.put, List.setIfInBounds_toArray, List.set_cons_zero, List.set_cons_succ]
          refine wpAnyL_take (i := 5) (v := ?_) (by rw [List.getElem?_toArray]; rfl) (by decide +kernel) (by decide +kernel) (by decide +kernel) (by decide +kernel) (by decide +kernel) (fun _ _ _ h => h) hS0 (Or.inl ⟨by rfl, ?_⟩) ?_
          rotate_left
          · intro wz hSz; obtain ⟨⟨z0, z1⟩, z2⟩ := hSz; go_simp; first | done | with_reducible rfl | (simp only [hib0, hib, and_self, if_true, Int.toNat_natCast]; first | done | with_reducible rfl) | (simp [hib0, hib]; first | done | with_reducible rfl)
          try simp only [Act.put, List.setIfInBounds_toArray, List.set_cons_zero, List.set_cons_succ]
          refine wpAnyL_one (i := 6) (by kernel_rfl) (by rw [List.getElem?_toArray]; rfl) (fun KK hK => ?_)
          have HK : Hid _ := hK
          clear hK
          go_simp
          refine (HFl1.out _ (HG.out.2.2.drew)).mono ?_
          rintro e w5 ⟨rfl, hb5⟩
          have H5 : Hid (Below wr.heap.size wr w5) := bel_up' (Below.refl wr.heap.size wr).drew hb5
          have hS5 := HK5.out w5 H5.out
          clear hb5
          refine HK.out _ _ (fun _ => hS5) ?_
          clear HK KK
          try simp only [Act.put, List.setIfInBounds_toArray, List.set_cons_zero, List.set_cons_succ]
          refine wpAnyL_take (i := 7) (v := ?_) (by rw [List.getElem?_toArray]; rfl) (by decide +kernel) (by decide +kernel) (by decide +kernel) (by decide +kernel) (by decide +kernel) (fun _ _ _ h => h) hS5 (Or.inl ⟨by rfl, ?_⟩) ?_
          rotate_left
          · intro wz hSz; obtain ⟨⟨z0, z1⟩, z2⟩ := hSz; go_simp; first | done | with_reducible rfl
          try simp only [Act.put, List.setIfInBounds_toArray, List.set_cons_zero, List.set_cons_succ]
          refine wpAnyL_take (i := 8) (v := ?_) (by rw [List.getElem?_toArray]; rfl) (by decide +kernel) (by decide +kernel) (by decide +kernel) (by decide +kernel) (by decide +kernel) (fun _ _ _ h => h) hS5 (Or.inl ⟨by rfl, ?_⟩) ?_
          rotate_left
          · intro wz hSz; obtain ⟨⟨z0, z1⟩, z2⟩ := hSz; go_simp; first | done | with_reducible rfl
          try simp only [Act.put, List.setIfInBounds_toArray, List.set_cons_zero, List.set_cons_succ]
          refine wpAnyL_take (i := 9) (v := ?_) (by rw [List.getElem?_toArray]; rfl) (by decide +kernel) (by decide +kernel) (by decide +kernel) (by decide +kernel) (by decide +kernel) (fun _ _ _ h => h) hS5 (Or.inl ⟨by rfl, ?_⟩) ?_
          rotate_left
          · intro wz hSz; obtain ⟨⟨z0, z1⟩, z2⟩ := hSz; go_simp; first | done | with_reducible rfl
          try simp only [Act.put, List.setIfInBounds_toArray, List.set_cons_zero, List.set_cons_succ]
          refine wpAnyL_take (i := 10) (v := ?_) (by rw [List.getElem?_toArray]; rfl) (by decide +kernel) (by decide +kernel) (by decide +kernel) (by decide +kernel) (by decide +kernel) (fun _ _ _ h => h) hS5 (Or.inl ⟨by rfl, ?_⟩) ?_
          rotate_left
          · intro wz hSz; obtain ⟨⟨z0, z1⟩, z2⟩ := hSz; go_simp; first | done | with_reducible rfl
          try simp only [Act.put, List.setIfInBounds_toArray, List.set_cons_zero, List.set_cons_succ]
          refine wpAnyL_take (i := 11) (v := ?_) (by rw [List.getElem?_toArray]; rfl) (by decide +kernel) (by decide +kernel) (by decide +kernel) (by decide +kernel) (by decide +kernel) (fun _ _ _ h => h) hS5 (Or.inl ⟨by rfl, ?_⟩) ?_
          rotate_left
          · intro wz hSz; obtain ⟨⟨z0, z1⟩, z2⟩ := hSz; go_simp; first | done | with_reducible rfl
          try simp only [Act.put, List.setIfInBounds_toArray, List.set_cons_zero, List.set_cons_succ]
          refine wpAnyL_done (by kernel_rfl) (NoPanic.normal ?_)
          clear hS0 hS5
          have hz0 : ((0 : Int) != 0) = false := rfl
          have hf0 : ¬ ((fi : Nat) : Int) < 0 := by omega
          have hf0d : decide (((fi : Nat) : Int) < 0) = false := decide_eq_false hf0
          go_wp2
          have hS0 := HK5.out _ (H5.out.drew)
          refine wp_region_noPanic ?_
          refine wp_region_L (S := (fun wx : World => NB B (k : Nat) (.slice eo m ec) wx ∧ wx.cell? ⟨g, i, none⟩ = some (.int .i64 ((x : Nat) : Int)))) [] (by kernel_rfl) ?_
          refine wpAnyL_take (i := 0) (v := ?_) (by rw [List.getElem?_toArray]; rfl) (by decide +kernel) (by decide +kernel) (by decide +kernel) (by decide +kernel) (by decide +kernel) (fun _ _ _ h => h) hS0 (Or.inl ⟨by rfl, ?_⟩) ?_
          rotate_left
          · intro wz hSz; obtain ⟨⟨z0, z1⟩, z2⟩ := hSz; go_simp; first | done | with_reducible rfl | (simp only [hib0, hib, hf0d, and_self, if_true, Int.toNat_natCast]; first | done | with_reducible rfl) | (simp [hib0, hib, hf0d]; first | done | with_reducible rfl)
          try simp only [Act.put, List.setIfInBounds_toArray, List.set_cons_zero, List.set_cons_succ]
          refine wpAnyL_take (i := 1) (v := ?_) (by rw [List.getElem?_toArray]; rfl) (by decide +kernel) (by decide +kernel) (by decide +kernel) (by decide +kernel) (by decide +kernel) (fun _ _ _ h => h) hS0 (Or.inl ⟨by rfl, ?_⟩) ?_
          rotate_left
          · intro wz hSz; obtain ⟨⟨z0, z1⟩, z2⟩ := hSz; go_simp; first | done | with_reducible rfl | (simp only [hib0, hib, hf0d, and_self, if_true, Int.toNat_natCast]; first | done | with_reducible rfl) | (simp [hib0, hib, hf0d]; first | done | with_reducible rfl)
          try simp only [Act.put, List.setIfInBounds_toArray, List.set_cons_zero, List.set_cons_succ]
          refine wpAnyL_take (i := 2) (v := ?_) (by rw [List.getElem?_toArray]; rfl) (by decide +kernel) (by decide +kernel) (by decide +kernel) (by decide +kernel) (by decide +kernel) (fun _ _ _ h => h) hS0 (Or.inl ⟨by rfl, ?_⟩) ?_
          rotate_left
          · intro wz hSz; obtain ⟨⟨z0, z1⟩, z2⟩ := hSz; go_simp; first | done | with_reducible rfl | (simp only [hib0, hib, hf0d, and_self, if_true, Int.toNat_natCast]; first | done | with_reducible rfl) | (simp [hib0, hib, hf0d]; first | done | with_reducible rfl)
          try simp only [Act.put, List.setIfInBounds_toArray, List.set_cons_zero, List.set_cons_succ]
          refine wpAnyL_take (i := 3) (v := ?_) (by rw [List.getElem?_toArray]; rfl) (by decide +kernel) (by decide +kernel) (by decide +kernel) (by decide +kernel) (by decide +kernel) (fun _ _ _ h => h) hS0 (Or.inl ⟨by rfl, ?_⟩) ?_
          rotate_left
          · intro wz hSz; obtain ⟨⟨z0, z1⟩, z2⟩ := hSz; go_simp; first | done | with_reducible rfl | (simp only [hib0, hib, hf0d, and_self, if_true, Int.toNat_natCast]; first | done | with_reducible rfl) | (simp [hib0, hib, hf0d]; first | done | with_reducible rfl)
          try simp only [Act.put, List.setIfInBounds_toArray, List.set_cons_zero, List.set_cons_succ]
          refine wpAnyL_take (i := 4) (v := ?_) (by rw [List.getElem?_toArray]; rfl) (by decide +kernel) (by decide +kernel) (by decide +kernel) (by decide +kernel) (by decide +kernel) (fun _ _ _ h => h) hS0 (Or.inl ⟨by rfl, ?_⟩) ?_
          rotate_left
          · intro wz hSz; obtain ⟨⟨z0, z1⟩, z2⟩ := hSz; go_simp; first | done | with_reducible rfl | (simp only [hib0, hib, hf0d, and_self, if_true, Int.toNat_natCast]; first | done | with_reducible rfl) | (simp [hib0, hib, hf0d]; first | done | with_reducible rfl)
          try simp only [Act.put, List.setIfInBounds_toArray, List.set_cons_zero, List.set_cons_succ]
          refine wpAnyL_take (i := 5) (v := ?_) (by rw [List.getElem?_toArray]; rfl) (by decide +kernel) (by decide +kernel) (by decide +kernel) (by decide +kernel) (by decide +kernel) (fun _ _ _ h => h) hS0 (Or.inl ⟨by rfl, ?_⟩) ?_
          rotate_left
          · intro wz hSz; obtain ⟨⟨z0, z1⟩, z2⟩ := hSz; go_simp; first | done | with_reducible rfl | (simp only [hib0, hib, hf0d, and_self, if_true, Int.toNat_natCast]; first | done | with_reducible rfl) | (simp [hib0, hib, hf0d]; first | done | with_reducible rfl)
          try simp only [Act.put, List.setIfInBounds_toArray, List.set_cons_zero, List.set_cons_succ]
          refine wpAnyL_take (i := 6) (v := ?_) (by rw [List.getElem?_toArray]; rfl) (by decide +kernel) (by decide +kernel) (by decide +kernel) (by decide +kernel) (by decide +kernel) (fun _ _ _ h => h) hS0 (Or.inl ⟨by rfl, ?_⟩) ?_
          rotate_left
          · intro wz hSz; obtain ⟨⟨z0, z1⟩, z2⟩ := hSz; go_simp; first | done | with_reducible rfl | (simp only [hib0, hib, hf0d, and_self, if_true, Int.toNat_natCast]; first | done | with_reducible rfl) | (simp [hib0, hib, hf0d]; first | done | with_reducible rfl)
          try simp only [Act.put, List.setIfInBounds_toArray, List.set_cons_zero, List.set_cons_succ]
          refine wpAnyL_take (i := 7) (v := ?_) (by rw [List.getElem?_toArray]; rfl) (by decide +kernel) (by decide +kernel) (by decide +kernel) (by decide +kernel) (by decide +kernel) (fun _ _ _ h => h) hS0 (Or.inl ⟨by rfl, ?_⟩) ?_
          rotate_left
          · intro wz hSz; obtain ⟨⟨z0, z1⟩, z2⟩ := hSz; go_simp; first | done | with_reducible rfl | (simp only [hib0, hib, hf0d, and_self, if_true, Int.toNat_natCast]; first | done | with_reducible rfl) | (simp [hib0, hib, hf0d]; first | done | with_reducible rfl)
          try simp only [Act.put, List.setIfInBounds_toArray, List.set_cons_zero, List.set_cons_succ]
          refine wpAnyL_take (i := 8) (v := ?_) (by rw [List.getElem?_toArray]; rfl) (by decide +kernel) (by decide +kernel) (by decide +kernel) (by decide +kernel) (by decide +kernel) (fun _ _ _ h => h) hS0 (Or.inl ⟨by rfl, ?_⟩) ?_
          rotate_left
          · intro wz hSz; obtain ⟨⟨z0, z1⟩, z2⟩ := hSz; go_simp; first | done | with_reducible rfl | (simp only [hib0, hib, hf0d, and_self, if_true, Int.toNat_natCast]; first | done | with_reducible rfl) | (simp [hib0, hib, hf0d]; first | done | with_reducible rfl)
          try simp only [Act.put, List.setIfInBounds_toArray, List.set_cons_zero, List.set_cons_succ]
          refine wpAnyL_take (i := 9) (v := ?_) (by rw [List.getElem?_toArray]; rfl) (by decide +kernel) (by decide +kernel) (by decide +kernel) (by decide +kernel) (by decide +kernel) (fun _ _ _ h => h) hS0 (Or.inl ⟨by rfl, ?_⟩) ?_
          rotate_left
          · intro wz hSz; obtain ⟨⟨z0, z1⟩, z2⟩ := hSz; go_simp; first | done | with_reducible rfl | (simp only [hib0, hib, hf0d, and_self, if_true, Int.toNat_natCast]; first | done | with_reducible rfl) | (simp [hib0, hib, hf0d]; first | done | with_reducible rfl)
          try simp only [Act.put, List.setIfInBounds_toArray, List.set_cons_zero, List.set_cons_succ]
          refine wpAnyL_take (i := 11) (v := ?_) (by rw [List.getElem?_toArray]; rfl) (by decide +kernel) (by decide +kernel) (by decide +kernel) (by decide +kernel) (by decide +kernel) (fun _ _ _ h => h) hS0 (Or.inl ⟨by rfl, ?_⟩) ?_
          rotate_left
          · intro wz hSz; obtain ⟨⟨z0, z1⟩, z2⟩ := hSz; go_simp; first | done | with_reducible rfl | (simp only [hib0, hib, hf0d, and_self, if_true, Int.toNat_natCast]; first | done | with_reducible rfl) | (simp [hib0, hib, hf0d]; first | done | with_reducible rfl)
          try simp only [Act.put, List.setIfInBounds_toArray, List.set_cons_zero, List.set_cons_succ]
          refine wpAnyL_take (i := 12) (v := ?_) (by rw [List.getElem?_toArray]; rfl) (by decide +kernel) (by decide +kernel) (by decide +kernel) (by decide +kernel) (by decide +kernel) (fun _ _ _ h => h) hS0 (Or.inl ⟨by rfl, ?_⟩) ?_
          rotate_left
          · intro wz hSz; obtain ⟨⟨z0, z1⟩, z2⟩ := hSz; go_simp; first | done | with_reducible rfl | (simp only [hib0, hib, hf0d, and_self, if_true, Int.toNat_natCast]; first | done | with_reducible rfl) | (simp [hib0, hib, hf0d]; first | done | with_reducible rfl)
          try simp only [Act.put, List.setIfInBounds_toArray, List.set_cons_zero, List.set_cons_succ]
          refine wpAnyL_take (i := 13) (v := ?_) (by rw [List.getElem?_toArray]; rfl) (by decide +kernel) (by decide +kernel) (by decide +kernel) (by decide +kernel) (by decide +kernel) (fun _ _ _ h => h) hS0 (Or.inl ⟨by rfl, ?_⟩) ?_
          rotate_left
          · intro wz hSz; obtain ⟨⟨z0, z1⟩, z2⟩ := hSz; go_simp; first | done | with_reducible rfl | (simp only [hib0, hib, hf0d, and_self, if_true, Int.toNat_natCast]; first | done | with_reducible rfl) | (simp [hib0, hib, hf0d]; first | done | with_reducible rfl)
          try simp only [Act.put, List.setIfInBounds_toArray, List.set_cons_zero, List.set_cons_succ]
          refine wpAnyL_take (i := 14) (v := ?_) (by rw [List.getElem?_toArray]; rfl) (by decide +kernel) (by decide +kernel) (by decide +kernel) (by decide +kernel) (by decide +kernel) (fun _ _ _ h => h) hS0 (Or.inl ⟨by rfl, ?_⟩) ?_
          rotate_left
          · intro wz hSz; obtain ⟨⟨z0, z1⟩, z2⟩ := hSz; go_simp; first | done | with_reducible rfl | (simp only [hib0, hib, hf0d, and_self, if_true, Int.toNat_natCast]; first | done | with_reducible rfl) | (simp [hib0, hib, hf0d]; first | done | with_reducible rfl)
          try simp only [Act.put, List.setIfInBounds_toArray, List.set_cons_zero, List.set_cons_succ]
          refine wpAnyL_take (i := 15) (v := ?_) (by rw [List.getElem?_toArray]; rfl) (by decide +kernel) (by decide +kernel) (by decide +kernel) (by decide +kernel) (by decide +kernel) (fun _ _ _ h => h) hS0 (Or.inl ⟨by rfl, ?_⟩) ?_
          rotate_left
          · intro wz hSz; obtain ⟨⟨z0, z1⟩, z2⟩ := hSz; go_simp; first | done | with_reducible rfl | (simp only [hib0, hib, hf0d, and_self, if_true, Int.toNat_natCast]; first | done | with_reducible rfl) | (simp [hib0, hib, hf0d]; first | done | with_reducible rfl)
          try simp only [Act.put, List.setIfInBounds_toArray, List.set_cons_zero, List.set_cons_succ]
          refine wpAnyL_one (i := 10) (by kernel_rfl) (by rw [List.getElem?_toArray]; rfl) (fun KK hK => ?_)
          have HK : Hid _ := hK
          clear hK
          go_simp
          refine (HP2.out _).mono ?_
          rintro e wn ⟨rfl, hwn⟩
          replace hwn := hwn.symm
          subst hwn
          refine HK.out _ _ (fun _ => hS0) ?_
          clear HK KK
          try simp only [Act.put, List.setIfInBounds_toArray, List.set_cons_zero, List.set_cons_succ]
          refine wpAnyL_one (i := 16) (by kernel_rfl) (by rw [List.getElem?_toArray]; rfl) (fun KK hK => ?_)
          have HK : Hid _ := hK
          clear hK
          go_simp
          refine (HAc1.out _ (bel_up' HG.out.2.2 (H5.out.drew))).mono ?_
          rintro e w6 ⟨⟨X, rfl, hX⟩, hb6⟩
          have H6 : Hid (Below wr.heap.size wr w6) := bel_up' H5.out.drew hb6
          have hS6 := HK5.out w6 H6.out
          have hXd : ¬ ((fi : Nat) : Int) > ((X : Nat) : Int) := by omega
          have hXe : decide (((fi : Nat) : Int) > ((X : Nat) : Int)) = false := decide_eq_false hXd
          have hXf : decide (((X : Nat) : Int) < ((fi : Nat) : Int)) = false := decide_eq_false hXd
          have hXg : ¬ X < fi := by omega
          clear hb6 hX
          refine HK.out _ _ (fun _ => hS6) ?_
          clear HK KK
          try simp only [Act.put, List.setIfInBounds_toArray, List.set_cons_zero, List.set_cons_succ]
          refine wpAnyL_take (i := 17) (v := ?_) (by rw [List.getElem?_toArray]; rfl) (by decide +kernel) (by decide +kernel) (by decide +kernel) (by decide +kernel) (by decide +kernel) (fun _ _ _ h => h) hS6 (Or.inl ⟨by rfl, ?_⟩) ?_
          rotate_left
          · intro wz hSz; obtain ⟨⟨z0, z1⟩, z2⟩ := hSz; go_simp; first | done | with_reducible rfl | (simp only [hXe, hXf, hXg, and_self, if_true, Int.toNat_natCast]; first | done | with_reducible rfl) | (simp [hXe, hXf, hXg]; first | done | with_reducible rfl)
          try simp only [Act.put, List.setIfInBounds_toArray, List.set_cons_zero, List.set_cons_succ]
          refine wpAnyL_take (i := 18) (v := ?_) (by rw [List.getElem?_toArray]; rfl) (by decide +kernel) (by decide +kernel) (by decide +kernel) (by decide +kernel) (by decide +kernel) (fun _ _ _ h => h) hS6 (Or.inl ⟨by rfl, ?_⟩) ?_
          rotate_left
          · intro wz hSz; obtain ⟨⟨z0, z1⟩, z2⟩ := hSz; go_simp; first | done | with_reducible rfl | (simp only [hXe, hXf, hXg, and_self, if_true, Int.toNat_natCast]; first | done | with_reducible rfl) | (simp [hXe, hXf, hXg]; first | done | with_reducible rfl)
          try simp only [Act.put, List.setIfInBounds_toArray, List.set_cons_zero, List.set_cons_succ]
          refine wpAnyL_done (by kernel_rfl) (NoPanic.normal ?_)
          clear hS0
          have hcl6 := hS6.2
          clear hS6
          have HZ : Hid (zl (i + 1) (fun j => ((tt j : Nat) : Int)) = zl i (fun j => ((tt j : Nat) : Int)) ++ [((x1 : Nat) : Int)]) := by show _ = _; rw [zl_succ, HX1.out]
          have HB6 : Hid (Below w4.heap.size w4 w6) := bel_up' HG.out.2.2 H6.out
          have hsz := HB6.out.size
          have HO6 : Hid (OwnI w4.heap.size u17 (zl i fun j => ((tt j : Nat) : Int)) w6) := HG.out.2.1.below H6.out (fun q hq => (HG.out.2.1.lt q hq).2)
          clear HK5 H5
          try rw [show decide (((fi : Nat) : Int) > ((X : Nat) : Int)) = false from hXe]
          by_cases hlf : fi < hv
          · have hlb : ((fi : Nat) : Int) < ((hv : Nat) : Int) := by omega
            have HH : Hid (fi = hmn m ff (i + 1)) := by
              show fi = (if ff i < hmn m ff i then ff i else hmn m ff i)
              rw [← HFi.out, ← HG.out.1, if_pos hlf]
            go_wp2_with (at_builtin; refine append_int rfl _ _ rfl w4.heap.size _ (zl i fun j => ((tt j : Nat) : Int)) rfl (HO6.out.alloc _) ⟨_, 0, none⟩ 1 ((x1 : Nat) : Int) rfl (by simp) (by rw [zl_len]; omega) (by simp; omega) ?_; intro v7 w7 hown7 hgrow7)
            have H7 : Hid (OwnI w4.heap.size v7 (zl (i + 1) fun j => ((tt j : Nat) : Int)) w7 ∧ Below w4.heap.size w4 w7) := by
              have hal : Below w6.heap.size w6 (w6.alloc (.cells #[.int .i64 ((x1 : Nat) : Int)] 3)) := (Below.refl _ _).alloc (Nat.le_refl _) _
              refine ⟨by rw [HZ.out]; exact hown7, (bel_up' HB6.out hal).grown hgrow7 (by simp; omega) (fun q hq => (HO6.out.lt q hq).1)⟩
            clear hown7 hgrow7 hcl6
            go_roundw
            case rel => exact ⟨i + 1, by omega, by omega, by omega, by go_num, by show _ = _; rw [← HH.out], H7.out⟩
            case measure => simp [RowKit.intOf]; omega
          · have hlb : ¬ ((fi : Nat) : Int) < ((hv : Nat) : Int) := by omega
            have HH : Hid (hv = hmn m ff (i + 1)) := by
              show hv = (if ff i < hmn m ff i then ff i else hmn m ff i)
              rw [← HFi.out, ← HG.out.1, if_neg hlf]
            go_wp2_with (at_builtin; refine append_int rfl _ _ rfl w4.heap.size _ (zl i fun j => ((tt j : Nat) : Int)) rfl (HO6.out.alloc _) ⟨_, 0, none⟩ 1 ((x1 : Nat) : Int) rfl (by simp) (by rw [zl_len]; omega) (by simp; omega) ?_; intro v7 w7 hown7 hgrow7)
            have H7 : Hid (OwnI w4.heap.size v7 (zl (i + 1) fun j => ((tt j : Nat) : Int)) w7 ∧ Below w4.heap.size w4 w7) := by
              have hal : Below w6.heap.size w6 (w6.alloc (.cells #[.int .i64 ((x1 : Nat) : Int)] 3)) := (Below.refl _ _).alloc (Nat.le_refl _) _
              refine ⟨by rw [HZ.out]; exact hown7, (bel_up' HB6.out hal).grown hgrow7 (by simp; omega) (fun q hq => (HO6.out.lt q hq).1)⟩
            clear hown7 hgrow7 hcl6
            go_roundw
            case rel => exact ⟨i + 1, by omega, by omega, by omega, by go_num, by show _ = _; rw [← HH.out], H7.out⟩
            case measure => simp [RowKit.intOf]; omega
        · have hqb : ¬ (i : Int) < (D.q : Int) := by omega
          have hqd : decide ((i : Int) < (D.q : Int)) = false := decide_eq_false hqb
          have hi1 : 1 ≤ i := by omega
          obtain ⟨so, sc, hv5, hAs⟩ := HG.out.2.1.argL
          subst hv5
          have HB : Hid (Below w.heap.size w wr) := bel_up' G4.out.2.2.1 HG.out.2.2
          have HE : Hid (∀ wx, Below wr.heap.size wr wx → EdZ eo m (fun i => ((F i : Nat) : Int)) (fun i => ((T i : Nat) : Int)) wx ∧ ArgL so i sc (fun j => ((tt j : Nat) : Int)) wx ∧ NB B (k : Nat) (.slice eo m ec) wx) := fun wx hx => ⟨(G4.out.1.below HG.out.2.2).below hx, hAs.below hx, (G4.out.2.1.keep HG.out.2.2).keep hx⟩
          have HPn : Hid (∀ (hv' : Nat) wx, 1 ≤ hv' → hv' ≤ 24 → Below wr.heap.size wr wx → Calls Try.prog 10 #[.int .i64 D.q, .agg #[.int .i64 (k : Nat), .slice eo m ec], .slice so i sc, .int .i64 (hv' : Nat)] wx (PlnP D k m hv' i F T tt wx)) := fun hv' wx h1 h24 hx => by
            have hk := HKk.out
            obtain ⟨e1, e2, _⟩ := HE.out wx hx
            refine plan_any HD.out e1 HNt.out.1 (by omega) (by omega) hm h1 h24 hi1 (by omega) e2.sl e2.le (fun s hs => by have := HT.out.2.1 s (by omega); omega) (fun wy hy => ?_)
            have h9 := checkSinks_any D.q (k : Nat) (hv' : Nat) (ec := ec) (sc := sc) (e1.below hy) (by omega) (slz_below e2.sl hy) (by omega) e2.le
            rw [spchk_fine HNt.out.2 h1 h24 hi1 (by omega) (fun s hs => HT.out.2.1 s (by omega)) (fun a b hab hb => HT.out.2.2 a b hab (by omega))] at h9
            exact h9
          have HFx : Hid (∀ j, j < i → hv ≤ ff j) := fun j hj => by rw [HG.out.1]; exact hmn_le i j hj
          have hv24 : hv ≤ 24 := by have h9 := HFx.out 0 (by omega); have h8 := HFm.out 0 (by omega); omega
          obtain ⟨c0, c1⟩ := (HE.out wr (Below.refl _ _)).2.2
          by_cases hv0 : hv = 0
          · have hvb : (((hv : Nat) : Int) == 0) = true := beq_iff_eq.2 (by omega)
            have HPz : Hid (Calls Try.prog 10 #[.int .i64 D.q, .agg #[.int .i64 (k : Nat), .slice eo m ec], .slice so i sc, .int .i64 1] wr fun e w' => e = .returned (.tuple #[.slice none 0 0, .int .i64 9]) ∧ Below wr.heap.size wr w') := by
              refine (HPn.out 1 wr (by omega) (by omega) (Below.refl _ _)).mono ?_
              rintro e w' (⟨_, rfl, hb⟩ | ⟨hbad, _⟩)
              · exact ⟨rfl, hb⟩
              · exfalso
                rcases hmn_is (m := m) (f := ff) i with e | ⟨j, hj, e⟩
                · have := HG.out.1; omega
                · have h9 := hbad j hj
                  have h8 := HF.out j
                  have := HG.out.1
                  omega
            clear hv0
            go_wp2_with fail
            refine HPz.out.mono ?_
            rintro e w8 ⟨rfl, hb8⟩
            have H8 : Hid (Below w.heap.size w w8) := bel_up' HB.out hb8
            clear hb8 c0 c1
            go_wp2
            go_ret
            exact ⟨rfl, H8.out⟩
          · have hvb : (((hv : Nat) : Int) == 0) = false := beq_eq_false_iff_ne.2 (by omega)
            have hvn : ¬ hv = 0 := hv0
            have HPz : Hid (Calls Try.prog 10 #[.int .i64 D.q, .agg #[.int .i64 (k : Nat), .slice eo m ec], .slice so i sc, .int .i64 (hv : Nat)] wr fun e w' => ∃ (G : Nat) (vo : Nat → Nat) (V : Nat → Nat → Nat), e = .returned (.tuple #[.slice (some ⟨G, 0, none⟩) m m, .int .i64 0]) ∧ VcM G m hv vo V w' ∧ PlV D m hv i F T tt V ∧ Below wr.heap.size wr w') := by
              refine (HPn.out hv wr (by omega) hv24 (Below.refl _ _)).mono ?_
              rintro e w' (⟨⟨s, hs, hbad⟩, _, _⟩ | ⟨_, G, vo, V, rfl, _, hR, hvv, hPl, hb⟩)
              · have h9 := HFx.out s hs
                rw [HF.out s] at h9
                omega
              · exact ⟨G, vo, V, rfl, ⟨hR, hvv⟩, hPl, hb⟩
            have HV1 : Hid (1 ≤ hv) := by show 1 ≤ hv; omega
            clear hv0
            go_wp2_with fail
            refine HPz.out.mono ?_
            rintro e w8 ⟨G, vo, V, rfl, hVm, hPl, hb8⟩
            have H8 : Hid (VcM G m hv vo V w8 ∧ PlV D m hv i F T tt V ∧ Below wr.heap.size wr w8) := ⟨hVm, hPl, hb8⟩
            clear hVm hPl hb8 c0 c1 HPz HPn
            go_wp2_with fail
            refine (HNu.out hv w8 hv24 (bel_up' HB.out H8.out.2.2)).mono ?_
            rintro e w9 ⟨bo, cb, xm, rfl, hY9, hEx, hBx, hb9⟩
            have H9 : Hid (VcM G m hv vo V w9 ∧ SlZ bo hv (fun j => ((xm j : Nat) : Int)) w9 ∧ El D xm ∧ Bd hv xm ∧ Below wr.heap.size wr w9) := ⟨H8.out.1.below hb9, hY9, hEx, hBx, bel_up' H8.out.2.2 hb9⟩
            have HSd : Hid (Calls Try.prog 12 #[.int .i64 D.q, .slice (some ⟨G, 0, none⟩) m m, .slice bo hv cb] w9 fun e w' => ∃ co cc, e = .returned (.tuple #[.slice co m cc, .int .i64 0]) ∧ SlZ co m (fun i => ((dot D (V i) xm hv : Nat) : Int)) w' ∧ Below w9.heap.size w9 w') := by
              have hv1 := HV1.out
              have h8 := HFx.out 0 (by omega)
              have h7 := HFm.out 0 (by omega)
              exact send_top HD.out H9.out.1 H8.out.2.1.el (by omega) hm hv1 hv24 H9.out.2.2.1 H9.out.2.2.2.1 H9.out.2.1
            clear hY9 hEx hBx hb9
            go_wp2_with fail
            refine HSd.out.mono ?_
            rintro e w10 ⟨co, cc, rfl, hC, hb10⟩
            have H10 : Hid (VcM G m hv vo V w10 ∧ SlZ bo hv (fun j => ((xm j : Nat) : Int)) w10 ∧ SlZ co m (fun i => ((dot D (V i) xm hv : Nat) : Int)) w10 ∧ El D xm ∧ PlV D m hv i F T tt V ∧ Below wr.heap.size wr w10) := ⟨H9.out.1.below hb10, slz_below H9.out.2.1 hb10, hC, H9.out.2.2.1, H8.out.2.1, bel_up' H9.out.2.2.2.2 hb10⟩
            clear hC hb10 H8 H9 HSd
            go_wp2
            go_loopw [29] (fun vj wx => ∃ j : Nat, j ≤ i ∧ vj = .int .i64 (j : Nat) ∧ Hid (Below w10.heap.size w10 wx)) (fun vj _ => i - (RowKit.intOf vj).toNat)
            case atStart => exact ⟨0, by omega, rfl, Below.refl _ _⟩
            case round =>
              obtain ⟨j, hj, rfl, HJ⟩ := hrel
              rename World => wx
              by_cases hlj : j < i
              · have hjb : (j : Int) < (i : Int) := by omega
                have hjb0 : (0 : Int) ≤ (j : Int) := by omega
                have hEx := HE.out wx (bel_up' H10.out.2.2.2.2.2 HJ.out)
                obtain ⟨gs, os, rfl, hcx⟩ := hEx.2.1.sl j hlj
                obtain ⟨x, hx⟩ : ∃ x, x = tt j := ⟨_, rfl⟩
                have hcl : wx.cell? ⟨gs, os + j, none⟩ = some (.int .i64 ((x : Nat) : Int)) := by rw [hx]; exact hcx
                have HHe : Hid (∀ wy, Below wx.heap.size wx wy → Calls Try.prog 13 #[.int .i64 D.q, .agg #[.int .i64 (k : Nat), .slice eo m ec], .slice (some ⟨G, 0, none⟩) m m, .slice co m cc, .int .i64 (x : Nat)] wy fun e w' => ∃ v, e = .returned (.tuple #[v, .int .i64 0]) ∧ SliceI v (zl hv fun j => ((xm j : Nat) : Int)) w' ∧ Below wy.heap.size wy w') := fun wy hy => by
                  have hxy := bel_up' HJ.out hy
                  rw [hx]
                  exact hear_top HD.out (hEx.1.below hy) HNt.out.2 (H10.out.1.below hxy) H10.out.2.2.2.2.1 hm HV1.out hv24 H10.out.2.2.2.1 (slz_below H10.out.2.2.1 hxy) hlj (HT.out.2.1 j (by omega))
                have HK5 : Hid (∀ wy, Below wx.heap.size wx wy → (fun wx : World => NB B (k : Nat) (.slice eo m ec) wx ∧ wx.cell? ⟨gs, os + j, none⟩ = some (.int .i64 ((x : Nat) : Int))) wy) := fun wy hy => ⟨hEx.2.2.keep hy, ((bcell hy).1 _ _ (cell_lt hcl)).trans hcl⟩
                clear hEx hcx hx hcl
                go_wp2
                have hS0 := HK5.out _ (Below.refl wx.heap.size wx).drew
                refine wp_region_noPanic ?_
                refine wp_region_L (S := (fun wx : World => NB B (k : Nat) (.slice eo m ec) wx ∧ wx.cell? ⟨gs, os + j, none⟩ = some (.int .i64 ((x : Nat) : Int)))) [] (by kernel_rfl) ?_
                refine wpAnyL_take (i := 0) (v := ?_) (by rw [List.getElem?_toArray]; rfl) (by decide +kernel) (by decide +kernel) (by decide +kernel) (by decide +kernel) (by decide +kernel) (fun _ _ _ h => h) hS0 (Or.inl ⟨by rfl, ?_⟩) ?_
                rotate_left
                · intro wz hSz; obtain ⟨⟨z0, z1⟩, z2⟩ := hSz; go_simp; first | done | with_reducible rfl | (simp only [hjb0, hjb, and_self, if_true, Int.toNat_natCast]; first | done | with_reducible rfl) | (simp [hjb0, hjb]; first | done | with_reducible rfl)
                try simp only [Act.put, List.setIfInBounds_toArray, List.set_cons_zero, List.set_cons_succ]
                refine wpAnyL_take (i := 1) (v := ?_) (by rw [List.getElem?_toArray]; rfl) (by decide +kernel) (by decide +kernel) (by decide +kernel) (by decide +kernel) (by decide +kernel) (fun _ _ _ h => h) hS0 (Or.inl ⟨by rfl, ?_⟩) ?_
                rotate_left
                · intro wz hSz; obtain ⟨⟨z0, z1⟩, z2⟩ := hSz; go_simp; first | done | with_reducible rfl | (simp only [hjb0, hjb, and_self, if_true, Int.toNat_natCast]; first | done | with_reducible rfl) | (simp [hjb0, hjb]; first | done | with_reducible rfl)
                try simp only [Act.put, List.setIfInBounds_toArray, List.set_cons_zero, List.set_cons_succ]
                refine wpAnyL_take (i := 2) (v := ?_) (by rw [List.getElem?_toArray]; rfl) (by decide +kernel) (by decide +kernel) (by decide +kernel) (by decide +kernel) (by decide +kernel) (fun _ _ _ h => h) hS0 (Or.inl ⟨by rfl, ?_⟩) ?_
                rotate_left
                · intro wz hSz; obtain ⟨⟨z0, z1⟩, z2⟩ := hSz; go_simp; first | done | with_reducible rfl | (simp only [hjb0, hjb, and_self, if_true, Int.toNat_natCast]; first | done | with_reducible rfl) | (simp [hjb0, hjb]; first | done | with_reducible rfl)
                try simp only [Act.put, List.setIfInBounds_toArray, List.set_cons_zero, List.set_cons_succ]
                refine wpAnyL_take (i := 3) (v := ?_) (by rw [List.getElem?_toArray]; rfl) (by decide +kernel) (by decide +kernel) (by decide +kernel) (by decide +kernel) (by decide +kernel) (fun _ _ _ h => h) hS0 (Or.inl ⟨by rfl, ?_⟩) ?_
                rotate_left
                · intro wz hSz; obtain ⟨⟨z0, z1⟩, z2⟩ := hSz; go_simp; first | done | with_reducible rfl | (simp only [hjb0, hjb, and_self, if_true, Int.toNat_natCast]; first | done | with_reducible rfl) | (simp [hjb0, hjb]; first | done | with_reducible rfl)
                try simp only [Act.put, List.setIfInBounds_toArray, List.set_cons_zero, List.set_cons_succ]
                refine wpAnyL_take (i := 4) (v := ?_) (by rw [List.getElem?_toArray]; rfl) (by decide +kernel) (by decide +kernel) (by decide +kernel) (by decide +kernel) (by decide +kernel) (fun _ _ _ h => h) hS0 (Or.inl ⟨by rfl, ?_⟩) ?_
                rotate_left
                · intro wz hSz; obtain ⟨⟨z0, z1⟩, z2⟩ := hSz; go_simp; first | done | with_reducible rfl | (simp only [hjb0, hjb, and_self, if_true, Int.toNat_natCast]; first | done | with_reducible rfl) | (simp [hjb0, hjb]; first | done | with_reducible rfl)
                try simp only [Act.put, List.setIfInBounds_toArray, List.set_cons_zero, List.set_cons_succ]
                refine wpAnyL_take (i := 5) (v := ?_) (by rw [List.getElem?_toArray]; rfl) (by decide +kernel) (by decide +kernel) (by decide +kernel) (by decide +kernel) (by decide +kernel) (fun _ _ _ h => h) hS0 (Or.inl ⟨by rfl, ?_⟩) ?_
                rotate_left
                · intro wz hSz; obtain ⟨⟨z0, z1⟩, z2⟩ := hSz; go_simp; first | done | with_reducible rfl | (simp only [hjb0, hjb, and_self, if_true, Int.toNat_natCast]; first | done | with_reducible rfl) | (simp [hjb0, hjb]; first | done | with_reducible rfl)
                try simp only [Act.put, List.setIfInBounds_toArray, List.set_cons_zero, List.set_cons_succ]
                refine wpAnyL_take (i := 6) (v := ?_) (by rw [List.getElem?_toArray]; rfl) (by decide +kernel) (by decide +kernel) (by decide +kernel) (by decide +kernel) (by decide +kernel) (fun _ _ _ h => h) hS0 (Or.inl ⟨by rfl, ?_⟩) ?_
                rotate_left
                · intro wz hSz; obtain ⟨⟨z0, z1⟩, z2⟩ := hSz; go_simp; first | done | with_reducible rfl | (simp only [hjb0, hjb, and_self, if_true, Int.toNat_natCast]; first | done | with_reducible rfl) | (simp [hjb0, hjb]; first | done | with_reducible rfl)
                try simp only [Act.put, List.setIfInBounds_toArray, List.set_cons_zero, List.set_cons_succ]
                refine wpAnyL_take (i := 7) (v := ?_) (by rw [List.getElem?_toArray]; rfl) (by decide +kernel) (by decide +kernel) (by decide +kernel) (by decide +kernel) (by decide +kernel) (fun _ _ _ h => h) hS0 (Or.inl ⟨by rfl, ?_⟩) ?_
                rotate_left
                · intro wz hSz; obtain ⟨⟨z0, z1⟩, z2⟩ := hSz; go_simp; first | done | with_reducible rfl | (simp only [hjb0, hjb, and_self, if_true, Int.toNat_natCast]; first | done | with_reducible rfl) | (simp [hjb0, hjb]; first | done | with_reducible rfl)
                try simp only [Act.put, List.setIfInBounds_toArray, List.set_cons_zero, List.set_cons_succ]
                refine wpAnyL_one (i := 8) (by kernel_rfl) (by rw [List.getElem?_toArray]; rfl) (fun KK hK => ?_)
                have HK : Hid _ := hK
                clear hK
                go_simp
                refine (HHe.out _ ((Below.refl wx.heap.size wx).drew)).mono ?_
                rintro e w11 ⟨vx, rfl, hsx, hb11⟩
                have H11 : Hid (SliceI vx (zl hv fun j => ((xm j : Nat) : Int)) w11 ∧ Below wx.heap.size wx w11) := ⟨hsx, bel_up' (Below.refl wx.heap.size wx).drew hb11⟩
                have hS11 := HK5.out w11 H11.out.2
                clear hsx hb11
                refine HK.out _ _ (fun _ => hS11) ?_
                clear HK KK
                try simp only [Act.put, List.setIfInBounds_toArray, List.set_cons_zero, List.set_cons_succ]
                refine wpAnyL_take (i := 9) (v := ?_) (by rw [List.getElem?_toArray]; rfl) (by decide +kernel) (by decide +kernel) (by decide +kernel) (by decide +kernel) (by decide +kernel) (fun _ _ _ h => h) hS11 (Or.inl ⟨by rfl, ?_⟩) ?_
                rotate_left
                · intro wz hSz; obtain ⟨⟨z0, z1⟩, z2⟩ := hSz; go_simp; first | done | with_reducible rfl
                try simp only [Act.put, List.setIfInBounds_toArray, List.set_cons_zero, List.set_cons_succ]
                refine wpAnyL_take (i := 10) (v := ?_) (by rw [List.getElem?_toArray]; rfl) (by decide +kernel) (by decide +kernel) (by decide +kernel) (by decide +kernel) (by decide +kernel) (fun _ _ _ h => h) hS11 (Or.inl ⟨by rfl, ?_⟩) ?_
                rotate_left
                · intro wz hSz; obtain ⟨⟨z0, z1⟩, z2⟩ := hSz; go_simp; first | done | with_reducible rfl
                try simp only [Act.put, List.setIfInBounds_toArray, List.set_cons_zero, List.set_cons_succ]
                refine wpAnyL_take (i := 11) (v := ?_) (by rw [List.getElem?_toArray]; rfl) (by decide +kernel) (by decide +kernel) (by decide +kernel) (by decide +kernel) (by decide +kernel) (fun _ _ _ h => h) hS11 (Or.inl ⟨by rfl, ?_⟩) ?_
                rotate_left
                · intro wz hSz; obtain ⟨⟨z0, z1⟩, z2⟩ := hSz; go_simp; first | done | with_reducible rfl
                try simp only [Act.put, List.setIfInBounds_toArray, List.set_cons_zero, List.set_cons_succ]
                refine wpAnyL_take (i := 12) (v := ?_) (by rw [List.getElem?_toArray]; rfl) (by decide +kernel) (by decide +kernel) (by decide +kernel) (by decide +kernel) (by decide +kernel) (fun _ _ _ h => h) hS11 (Or.inl ⟨by rfl, ?_⟩) ?_
                rotate_left
                · intro wz hSz; obtain ⟨⟨z0, z1⟩, z2⟩ := hSz; go_simp; first | done | with_reducible rfl
                try simp only [Act.put, List.setIfInBounds_toArray, List.set_cons_zero, List.set_cons_succ]
                refine wpAnyL_take (i := 13) (v := ?_) (by rw [List.getElem?_toArray]; rfl) (by decide +kernel) (by decide +kernel) (by decide +kernel) (by decide +kernel) (by decide +kernel) (fun _ _ _ h => h) hS11 (Or.inl ⟨by rfl, ?_⟩) ?_
                rotate_left
                · intro wz hSz; obtain ⟨⟨z0, z1⟩, z2⟩ := hSz; go_simp; first | done | with_reducible rfl
                try simp only [Act.put, List.setIfInBounds_toArray, List.set_cons_zero, List.set_cons_succ]
                refine wpAnyL_done (by kernel_rfl) (NoPanic.normal ?_)
                clear hS0 hS11
                have HSm : Hid (Calls Try.prog 14 #[vx, .slice bo hv cb] w11 fun e w' => e = .returned (.bool true) ∧ ∃ n, w' = w11.drewN n) := by
                  have h9 := same_any H11.out.1 (slz_slI (cap := cb) (slz_below H10.out.2.1 (bel_up' HJ.out H11.out.2)) (by omega))
                  rw [decide_eq_true rfl] at h9
                  exact h9
                have hz9 : ((0 : Int) != 0) = false := rfl
                go_wp2_with fail
                refine HSm.out.mono ?_
                rintro e w12 ⟨rfl, d12, hd12⟩
                have H12 : Hid (Below w10.heap.size w10 w12) := by
                  rw [hd12]; exact below_drewN2 (bel_up' HJ.out H11.out.2) d12
                clear hd12 HK5 HHe
                go_wp2
                go_roundw
                case rel => exact ⟨j + 1, by omega, by go_num, H12.out⟩
                case measure => simp [RowKit.intOf]; omega
              · have e1 : j = i := by omega
                have hjb : ¬ (j : Int) < (i : Int) := by omega
                have HR : Hid (Below w.heap.size w wx) := bel_up' (bel_up' HB.out H10.out.2.2.2.2.2) HJ.out
                clear e1
                go_wp2
                go_ret
                exact ⟨rfl, HR.out⟩
      · have hsb : ¬ (i : Int) < (S1 : Int) := by omega
        have hsd : decide ((i : Int) < (S1 : Int)) = false := decide_eq_false hsb
        have hi1 : 1 ≤ i := by omega
        obtain ⟨so, sc, hv5, hAs⟩ := HG.out.2.1.argL
        subst hv5
        have HB : Hid (Below w.heap.size w wr) := bel_up' G4.out.2.2.1 HG.out.2.2
        have HE : Hid (∀ wx, Below wr.heap.size wr wx → EdZ eo m (fun i => ((F i : Nat) : Int)) (fun i => ((T i : Nat) : Int)) wx ∧ ArgL so i sc (fun j => ((tt j : Nat) : Int)) wx ∧ NB B (k : Nat) (.slice eo m ec) wx) := fun wx hx => ⟨(G4.out.1.below HG.out.2.2).below hx, hAs.below hx, (G4.out.2.1.keep HG.out.2.2).keep hx⟩
        have HPn : Hid (∀ (hv' : Nat) wx, 1 ≤ hv' → hv' ≤ 24 → Below wr.heap.size wr wx → Calls Try.prog 10 #[.int .i64 D.q, .agg #[.int .i64 (k : Nat), .slice eo m ec], .slice so i sc, .int .i64 (hv' : Nat)] wx (PlnP D k m hv' i F T tt wx)) := fun hv' wx h1 h24 hx => by
          have hk := HKk.out
          obtain ⟨e1, e2, _⟩ := HE.out wx hx
          refine plan_any HD.out e1 HNt.out.1 (by omega) (by omega) hm h1 h24 hi1 (by omega) e2.sl e2.le (fun s hs => by have := HT.out.2.1 s (by omega); omega) (fun wy hy => ?_)
          have h9 := checkSinks_any D.q (k : Nat) (hv' : Nat) (ec := ec) (sc := sc) (e1.below hy) (by omega) (slz_below e2.sl hy) (by omega) e2.le
          rw [spchk_fine HNt.out.2 h1 h24 hi1 (by omega) (fun s hs => HT.out.2.1 s (by omega)) (fun a b hab hb => HT.out.2.2 a b hab (by omega))] at h9
          exact h9
        have HFx : Hid (∀ j, j < i → hv ≤ ff j) := fun j hj => by rw [HG.out.1]; exact hmn_le i j hj
        have hv24 : hv ≤ 24 := by have h9 := HFx.out 0 (by omega); have h8 := HFm.out 0 (by omega); omega
        obtain ⟨c0, c1⟩ := (HE.out wr (Below.refl _ _)).2.2
        by_cases hv0 : hv = 0
        · have hvb : (((hv : Nat) : Int) == 0) = true := beq_iff_eq.2 (by omega)
          have HPz : Hid (Calls Try.prog 10 #[.int .i64 D.q, .agg #[.int .i64 (k : Nat), .slice eo m ec], .slice so i sc, .int .i64 1] wr fun e w' => e = .returned (.tuple #[.slice none 0 0, .int .i64 9]) ∧ Below wr.heap.size wr w') := by
            refine (HPn.out 1 wr (by omega) (by omega) (Below.refl _ _)).mono ?_
            rintro e w' (⟨_, rfl, hb⟩ | ⟨hbad, _⟩)
            · exact ⟨rfl, hb⟩
            · exfalso
              rcases hmn_is (m := m) (f := ff) i with e | ⟨j, hj, e⟩
              · have := HG.out.1; omega
              · have h9 := hbad j hj
                have h8 := HF.out j
                have := HG.out.1
                omega
          clear hv0
          go_wp2_with fail
          refine HPz.out.mono ?_
          rintro e w8 ⟨rfl, hb8⟩
          have H8 : Hid (Below w.heap.size w w8) := bel_up' HB.out hb8
          clear hb8 c0 c1
          go_wp2
          go_ret
          exact ⟨rfl, H8.out⟩
        · have hvb : (((hv : Nat) : Int) == 0) = false := beq_eq_false_iff_ne.2 (by omega)
          have hvn : ¬ hv = 0 := hv0
          have HPz : Hid (Calls Try.prog 10 #[.int .i64 D.q, .agg #[.int .i64 (k : Nat), .slice eo m ec], .slice so i sc, .int .i64 (hv : Nat)] wr fun e w' => ∃ (G : Nat) (vo : Nat → Nat) (V : Nat → Nat → Nat), e = .returned (.tuple #[.slice (some ⟨G, 0, none⟩) m m, .int .i64 0]) ∧ VcM G m hv vo V w' ∧ PlV D m hv i F T tt V ∧ Below wr.heap.size wr w') := by
            refine (HPn.out hv wr (by omega) hv24 (Below.refl _ _)).mono ?_
            rintro e w' (⟨⟨s, hs, hbad⟩, _, _⟩ | ⟨_, G, vo, V, rfl, _, hR, hvv, hPl, hb⟩)
            · have h9 := HFx.out s hs
              rw [HF.out s] at h9
              omega
            · exact ⟨G, vo, V, rfl, ⟨hR, hvv⟩, hPl, hb⟩
          have HV1 : Hid (1 ≤ hv) := by show 1 ≤ hv; omega
          clear hv0
          go_wp2_with fail
          refine HPz.out.mono ?_
          rintro e w8 ⟨G, vo, V, rfl, hVm, hPl, hb8⟩
          have H8 : Hid (VcM G m hv vo V w8 ∧ PlV D m hv i F T tt V ∧ Below wr.heap.size wr w8) := ⟨hVm, hPl, hb8⟩
          clear hVm hPl hb8 c0 c1 HPz HPn
          go_wp2_with fail
          refine (HNu.out hv w8 hv24 (bel_up' HB.out H8.out.2.2)).mono ?_
          rintro e w9 ⟨bo, cb, xm, rfl, hY9, hEx, hBx, hb9⟩
          have H9 : Hid (VcM G m hv vo V w9 ∧ SlZ bo hv (fun j => ((xm j : Nat) : Int)) w9 ∧ El D xm ∧ Bd hv xm ∧ Below wr.heap.size wr w9) := ⟨H8.out.1.below hb9, hY9, hEx, hBx, bel_up' H8.out.2.2 hb9⟩
          have HSd : Hid (Calls Try.prog 12 #[.int .i64 D.q, .slice (some ⟨G, 0, none⟩) m m, .slice bo hv cb] w9 fun e w' => ∃ co cc, e = .returned (.tuple #[.slice co m cc, .int .i64 0]) ∧ SlZ co m (fun i => ((dot D (V i) xm hv : Nat) : Int)) w' ∧ Below w9.heap.size w9 w') := by
            have hv1 := HV1.out
            have h8 := HFx.out 0 (by omega)
            have h7 := HFm.out 0 (by omega)
            exact send_top HD.out H9.out.1 H8.out.2.1.el (by omega) hm hv1 hv24 H9.out.2.2.1 H9.out.2.2.2.1 H9.out.2.1
          clear hY9 hEx hBx hb9
          go_wp2_with fail
          refine HSd.out.mono ?_
          rintro e w10 ⟨co, cc, rfl, hC, hb10⟩
          have H10 : Hid (VcM G m hv vo V w10 ∧ SlZ bo hv (fun j => ((xm j : Nat) : Int)) w10 ∧ SlZ co m (fun i => ((dot D (V i) xm hv : Nat) : Int)) w10 ∧ El D xm ∧ PlV D m hv i F T tt V ∧ Below wr.heap.size wr w10) := ⟨H9.out.1.below hb10, slz_below H9.out.2.1 hb10, hC, H9.out.2.2.1, H8.out.2.1, bel_up' H9.out.2.2.2.2 hb10⟩
          clear hC hb10 H8 H9 HSd
          go_wp2
          go_loopw [29] (fun vj wx => ∃ j : Nat, j ≤ i ∧ vj = .int .i64 (j : Nat) ∧ Hid (Below w10.heap.size w10 wx)) (fun vj _ => i - (RowKit.intOf vj).toNat)
          case atStart => exact ⟨0, by omega, rfl, Below.refl _ _⟩
          case round =>
            obtain ⟨j, hj, rfl, HJ⟩ := hrel
            rename World => wx
            by_cases hlj : j < i
            · have hjb : (j : Int) < (i : Int) := by omega
              have hjb0 : (0 : Int) ≤ (j : Int) := by omega
              have hEx := HE.out wx (bel_up' H10.out.2.2.2.2.2 HJ.out)
              obtain ⟨gs, os, rfl, hcx⟩ := hEx.2.1.sl j hlj
              obtain ⟨x, hx⟩ : ∃ x, x = tt j := ⟨_, rfl⟩
              have hcl : wx.cell? ⟨gs, os + j, none⟩ = some (.int .i64 ((x : Nat) : Int)) := by rw [hx]; exact hcx
              have HHe : Hid (∀ wy, Below wx.heap.size wx wy → Calls Try.prog 13 #[.int .i64 D.q, .agg #[.int .i64 (k : Nat), .slice eo m ec], .slice (some ⟨G, 0, none⟩) m m, .slice co m cc, .int .i64 (x : Nat)] wy fun e w' => ∃ v, e = .returned (.tuple #[v, .int .i64 0]) ∧ SliceI v (zl hv fun j => ((xm j : Nat) : Int)) w' ∧ Below wy.heap.size wy w') := fun wy hy => by
                have hxy := bel_up' HJ.out hy
                rw [hx]
                exact hear_top HD.out (hEx.1.below hy) HNt.out.2 (H10.out.1.below hxy) H10.out.2.2.2.2.1 hm HV1.out hv24 H10.out.2.2.2.1 (slz_below H10.out.2.2.1 hxy) hlj (HT.out.2.1 j (by omega))
              have HK5 : Hid (∀ wy, Below wx.heap.size wx wy → (fun wx : World => NB B (k : Nat) (.slice eo m ec) wx ∧ wx.cell? ⟨gs, os + j, none⟩ = some (.int .i64 ((x : Nat) : Int))) wy) := fun wy hy => ⟨hEx.2.2.keep hy, ((bcell hy).1 _ _ (cell_lt hcl)).trans hcl⟩
              clear hEx hcx hx hcl
              go_wp2
              have hS0 := HK5.out _ (Below.refl wx.heap.size wx).drew
              refine wp_region_noPanic ?_
              refine wp_region_L (S := (fun wx : World => NB B (k : Nat) (.slice eo m ec) wx ∧ wx.cell? ⟨gs, os + j, none⟩ = some (.int .i64 ((x : Nat) : Int)))) [] (by kernel_rfl) ?_
              refine wpAnyL_take (i := 0) (v := ?_) (by rw [List.getElem?_toArray]; rfl) (by decide +kernel) (by decide +kernel) (by decide +kernel) (by decide +kernel) (by decide +kernel) (fun _ _ _ h => h) hS0 (Or.inl ⟨by rfl, ?_⟩) ?_
              rotate_left
              · intro wz hSz; obtain ⟨⟨z0, z1⟩, z2⟩ := hSz; go_simp; first | done | with_reducible rfl | (simp only [hjb0, hjb, and_self, if_true, Int.toNat_natCast]; first | done | with_reducible rfl) | (simp [hjb0, hjb]; first | done | with_reducible rfl)
              try simp only [Act.put, List.setIfInBounds_toArray, List.set_cons_zero, List.set_cons_succ]
              refine wpAnyL_take (i := 1) (v := ?_) (by rw [List.getElem?_toArray]; rfl) (by decide +kernel) (by decide +kernel) (by decide +kernel) (by decide +kernel) (by decide +kernel) (fun _ _ _ h => h) hS0 (Or.inl ⟨by rfl, ?_⟩) ?_
              rotate_left
              · intro wz hSz; obtain ⟨⟨z0, z1⟩, z2⟩ := hSz; go_simp; first | done | with_reducible rfl | (simp only [hjb0, hjb, and_self, if_true, Int.toNat_natCast]; first | done | with_reducible rfl) | (simp [hjb0, hjb]; first | done | with_reducible rfl)
              try simp only [Act.put, List.setIfInBounds_toArray, List.set_cons_zero, List.set_cons_succ]
              refine wpAnyL_take (i := 2) (v := ?_) (by rw [List.getElem?_toArray]; rfl) (by decide +kernel) (by decide +kernel) (by decide +kernel) (by decide +kernel) (by decide +kernel) (fun _ _ _ h => h) hS0 (Or.inl ⟨by rfl, ?_⟩) ?_
              rotate_left
              · intro wz hSz; obtain ⟨⟨z0, z1⟩, z2⟩ := hSz; go_simp; first | done | with_reducible rfl | (simp only [hjb0, hjb, and_self, if_true, Int.toNat_natCast]; first | done | with_reducible rfl) | (simp [hjb0, hjb]; first | done | with_reducible rfl)
              try simp only [Act.put, List.setIfInBounds_toArray, List.set_cons_zero, List.set_cons_succ]
              refine wpAnyL_take (i := 3) (v := ?_) (by rw [List.getElem?_toArray]; rfl) (by decide +kernel) (by decide +kernel) (by decide +kernel) (by decide +kernel) (by decide +kernel) (fun _ _ _ h => h) hS0 (Or.inl ⟨by rfl, ?_⟩) ?_
              rotate_left
              · intro wz hSz; obtain ⟨⟨z0, z1⟩, z2⟩ := hSz; go_simp; first | done | with_reducible rfl | (simp only [hjb0, hjb, and_self, if_true, Int.toNat_natCast]; first | done | with_reducible rfl) | (simp [hjb0, hjb]; first | done | with_reducible rfl)
              try simp only [Act.put, List.setIfInBounds_toArray, List.set_cons_zero, List.set_cons_succ]
              refine wpAnyL_take (i := 4) (v := ?_) (by rw [List.getElem?_toArray]; rfl) (by decide +kernel) (by decide +kernel) (by decide +kernel) (by decide +kernel) (by decide +kernel) (fun _ _ _ h => h) hS0 (Or.inl ⟨by rfl, ?_⟩) ?_
              rotate_left
              · intro wz hSz; obtain ⟨⟨z0, z1⟩, z2⟩ := hSz; go_simp; first | done | with_reducible rfl | (simp only [hjb0, hjb, and_self, if_true, Int.toNat_natCast]; first | done | with_reducible rfl) | (simp [hjb0, hjb]; first | done | with_reducible rfl)
              try simp only [Act.put, List.setIfInBounds_toArray, List.set_cons_zero, List.set_cons_succ]
              refine wpAnyL_take (i := 5) (v := ?_) (by rw [List.getElem?_toArray]; rfl) (by decide +kernel) (by decide +kernel) (by decide +kernel) (by decide +kernel) (by decide +kernel) (fun _ _ _ h => h) hS0 (Or.inl ⟨by rfl, ?_⟩) ?_
              rotate_left
              · intro wz hSz; obtain ⟨⟨z0, z1⟩, z2⟩ := hSz; go_simp; first | done | with_reducible rfl | (simp only [hjb0, hjb, and_self, if_true, Int.toNat_natCast]; first | done | with_reducible rfl) | (simp [hjb0, hjb]; first | done | with_reducible rfl)
              try simp only [Act.put, List.setIfInBounds_toArray, List.set_cons_zero, List.set_cons_succ]
              refine wpAnyL_take (i := 6) (v := ?_) (by rw [List.getElem?_toArray]; rfl) (by decide +kernel) (by decide +kernel) (by decide +kernel) (by decide +kernel) (by decide +kernel) (fun _ _ _ h => h) hS0 (Or.inl ⟨by rfl, ?_⟩) ?_
              rotate_left
              · intro wz hSz; obtain ⟨⟨z0, z1⟩, z2⟩ := hSz; go_simp; first | done | with_reducible rfl | (simp only [hjb0, hjb, and_self, if_true, Int.toNat_natCast]; first | done | with_reducible rfl) | (simp [hjb0, hjb]; first | done | with_reducible rfl)
              try simp only [Act.put, List.setIfInBounds_toArray, List.set_cons_zero, List.set_cons_succ]
              refine wpAnyL_take (i := 7) (v := ?_) (by rw [List.getElem?_toArray]; rfl) (by decide +kernel) (by decide +kernel) (by decide +kernel) (by decide +kernel) (by decide +kernel) (fun _ _ _ h => h) hS0 (Or.inl ⟨by rfl, ?_⟩) ?_
              rotate_left
              · intro wz hSz; obtain ⟨⟨z0, z1⟩, z2⟩ := hSz; go_simp; first | done | with_reducible rfl | (simp only [hjb0, hjb, and_self, if_true, Int.toNat_natCast]; first | done | with_reducible rfl) | (simp [hjb0, hjb]; first | done | with_reducible rfl)
              try simp only [Act.put, List.setIfInBounds_toArray, List.set_cons_zero, List.set_cons_succ]
              refine wpAnyL_one (i := 8) (by kernel_rfl) (by rw [List.getElem?_toArray]; rfl) (fun KK hK => ?_)
              have HK : Hid _ := hK
              clear hK
              go_simp
              refine (HHe.out _ ((Below.refl wx.heap.size wx).drew)).mono ?_
              rintro e w11 ⟨vx, rfl, hsx, hb11⟩
              have H11 : Hid (SliceI vx (zl hv fun j => ((xm j : Nat) : Int)) w11 ∧ Below wx.heap.size wx w11) := ⟨hsx, bel_up' (Below.refl wx.heap.size wx).drew hb11⟩
              have hS11 := HK5.out w11 H11.out.2
              clear hsx hb11
              refine HK.out _ _ (fun _ => hS11) ?_
              clear HK KK
              try simp only [Act.put, List.setIfInBounds_toArray, List.set_cons_zero, List.set_cons_succ]
              refine wpAnyL_take (i := 9) (v := ?_) (by rw [List.getElem?_toArray]; rfl) (by decide +kernel) (by decide +kernel) (by decide +kernel) (by decide +kernel) (by decide +kernel) (fun _ _ _ h => h) hS11 (Or.inl ⟨by rfl, ?_⟩) ?_
              rotate_left
              · intro wz hSz; obtain ⟨⟨z0, z1⟩, z2⟩ := hSz; go_simp; first | done | with_reducible rfl
              try simp only [Act.put, List.setIfInBounds_toArray, List.set_cons_zero, List.set_cons_succ]
              refine wpAnyL_take (i := 10) (v := ?_) (by rw [List.getElem?_toArray]; rfl) (by decide +kernel) (by decide +kernel) (by decide +kernel) (by decide +kernel) (by decide +kernel) (fun _ _ _ h => h) hS11 (Or.inl ⟨by rfl, ?_⟩) ?_
              rotate_left
              · intro wz hSz; obtain ⟨⟨z0, z1⟩, z2⟩ := hSz; go_simp; first | done | with_reducible rfl
              try simp only [Act.put, List.setIfInBounds_toArray, List.set_cons_zero, List.set_cons_succ]
              refine wpAnyL_take (i := 11) (v := ?_) (by rw [List.getElem?_toArray]; rfl) (by decide +kernel) (by decide +kernel) (by decide +kernel) (by decide +kernel) (by decide +kernel) (fun _ _ _ h => h) hS11 (Or.inl ⟨by rfl, ?_⟩) ?_
              rotate_left
              · intro wz hSz; obtain ⟨⟨z0, z1⟩, z2⟩ := hSz; go_simp; first | done | with_reducible rfl
              try simp only [Act.put, List.setIfInBounds_toArray, List.set_cons_zero, List.set_cons_succ]
              refine wpAnyL_take (i := 12) (v := ?_) (by rw [List.getElem?_toArray]; rfl) (by decide +kernel) (by decide +kernel) (by decide +kernel) (by decide +kernel) (by decide +kernel) (fun _ _ _ h => h) hS11 (Or.inl ⟨by rfl, ?_⟩) ?_
              rotate_left
              · intro wz hSz; obtain ⟨⟨z0, z1⟩, z2⟩ := hSz; go_simp; first | done | with_reducible rfl
              try simp only [Act.put, List.setIfInBounds_toArray, List.set_cons_zero, List.set_cons_succ]
              refine wpAnyL_take (i := 13) (v := ?_) (by rw [List.getElem?_toArray]; rfl) (by decide +kernel) (by decide +kernel) (by decide +kernel) (by decide +kernel) (by decide +kernel) (fun _ _ _ h => h) hS11 (Or.inl ⟨by rfl, ?_⟩) ?_
              rotate_left
              · intro wz hSz; obtain ⟨⟨z0, z1⟩, z2⟩ := hSz; go_simp; first | done | with_reducible rfl
              try simp only [Act.put, List.setIfInBounds_toArray, List.set_cons_zero, List.set_cons_succ]
              refine wpAnyL_done (by kernel_rfl) (NoPanic.normal ?_)
              clear hS0 hS11
              have HSm : Hid (Calls Try.prog 14 #[vx, .slice bo hv cb] w11 fun e w' => e = .returned (.bool true) ∧ ∃ n, w' = w11.drewN n) := by
                have h9 := same_any H11.out.1 (slz_slI (cap := cb) (slz_below H10.out.2.1 (bel_up' HJ.out H11.out.2)) (by omega))
                rw [decide_eq_true rfl] at h9
                exact h9
              have hz9 : ((0 : Int) != 0) = false := rfl
              go_wp2_with fail
              refine HSm.out.mono ?_
              rintro e w12 ⟨rfl, d12, hd12⟩
              have H12 : Hid (Below w10.heap.size w10 w12) := by
                rw [hd12]; exact below_drewN2 (bel_up' HJ.out H11.out.2) d12
              clear hd12 HK5 HHe
              go_wp2
              go_roundw
              case rel => exact ⟨j + 1, by omega, by go_num, H12.out⟩
              case measure => simp [RowKit.intOf]; omega
            · have e1 : j = i := by omega
              have hjb : ¬ (j : Int) < (i : Int) := by omega
              have HR : Hid (Below w.heap.size w wx) := bel_up' (bel_up' HB.out H10.out.2.2.2.2.2) HJ.out
              clear e1
              go_wp2
              go_ret
              exact ⟨rfl, HR.out⟩
    · have hib : ¬ (i : Int) < (k1 : Int) := by omega
      have hid : decide ((i : Int) < (k1 : Int)) = false := decide_eq_false hib
      have hi1 : 1 ≤ i := by omega
      obtain ⟨so, sc, hv5, hAs⟩ := HG.out.2.1.argL
      subst hv5
      have HB : Hid (Below w.heap.size w wr) := bel_up' G4.out.2.2.1 HG.out.2.2
      have HE : Hid (∀ wx, Below wr.heap.size wr wx → EdZ eo m (fun i => ((F i : Nat) : Int)) (fun i => ((T i : Nat) : Int)) wx ∧ ArgL so i sc (fun j => ((tt j : Nat) : Int)) wx ∧ NB B (k : Nat) (.slice eo m ec) wx) := fun wx hx => ⟨(G4.out.1.below HG.out.2.2).below hx, hAs.below hx, (G4.out.2.1.keep HG.out.2.2).keep hx⟩
      have HPn : Hid (∀ (hv' : Nat) wx, 1 ≤ hv' → hv' ≤ 24 → Below wr.heap.size wr wx → Calls Try.prog 10 #[.int .i64 D.q, .agg #[.int .i64 (k : Nat), .slice eo m ec], .slice so i sc, .int .i64 (hv' : Nat)] wx (PlnP D k m hv' i F T tt wx)) := fun hv' wx h1 h24 hx => by
        have hk := HKk.out
        obtain ⟨e1, e2, _⟩ := HE.out wx hx
        refine plan_any HD.out e1 HNt.out.1 (by omega) (by omega) hm h1 h24 hi1 (by omega) e2.sl e2.le (fun s hs => by have := HT.out.2.1 s (by omega); omega) (fun wy hy => ?_)
        have h9 := checkSinks_any D.q (k : Nat) (hv' : Nat) (ec := ec) (sc := sc) (e1.below hy) (by omega) (slz_below e2.sl hy) (by omega) e2.le
        rw [spchk_fine HNt.out.2 h1 h24 hi1 (by omega) (fun s hs => HT.out.2.1 s (by omega)) (fun a b hab hb => HT.out.2.2 a b hab (by omega))] at h9
        exact h9
      have HFx : Hid (∀ j, j < i → hv ≤ ff j) := fun j hj => by rw [HG.out.1]; exact hmn_le i j hj
      have hv24 : hv ≤ 24 := by have h9 := HFx.out 0 (by omega); have h8 := HFm.out 0 (by omega); omega
      obtain ⟨c0, c1⟩ := (HE.out wr (Below.refl _ _)).2.2
      by_cases hv0 : hv = 0
      · have hvb : (((hv : Nat) : Int) == 0) = true := beq_iff_eq.2 (by omega)
        have HPz : Hid (Calls Try.prog 10 #[.int .i64 D.q, .agg #[.int .i64 (k : Nat), .slice eo m ec], .slice so i sc, .int .i64 1] wr fun e w' => e = .returned (.tuple #[.slice none 0 0, .int .i64 9]) ∧ Below wr.heap.size wr w') := by
          refine (HPn.out 1 wr (by omega) (by omega) (Below.refl _ _)).mono ?_
          rintro e w' (⟨_, rfl, hb⟩ | ⟨hbad, _⟩)
          · exact ⟨rfl, hb⟩
          · exfalso
            rcases hmn_is (m := m) (f := ff) i with e | ⟨j, hj, e⟩
            · have := HG.out.1; omega
            · have h9 := hbad j hj
              have h8 := HF.out j
              have := HG.out.1
              omega
        clear hv0
        go_wp2_with fail
        refine HPz.out.mono ?_
        rintro e w8 ⟨rfl, hb8⟩
        have H8 : Hid (Below w.heap.size w w8) := bel_up' HB.out hb8
        clear hb8 c0 c1
        go_wp2
        go_ret
        exact ⟨rfl, H8.out⟩
      · have hvb : (((hv : Nat) : Int) == 0) = false := beq_eq_false_iff_ne.2 (by omega)
        have hvn : ¬ hv = 0 := hv0
        have HPz : Hid (Calls Try.prog 10 #[.int .i64 D.q, .agg #[.int .i64 (k : Nat), .slice eo m ec], .slice so i sc, .int .i64 (hv : Nat)] wr fun e w' => ∃ (G : Nat) (vo : Nat → Nat) (V : Nat → Nat → Nat), e = .returned (.tuple #[.slice (some ⟨G, 0, none⟩) m m, .int .i64 0]) ∧ VcM G m hv vo V w' ∧ PlV D m hv i F T tt V ∧ Below wr.heap.size wr w') := by
          refine (HPn.out hv wr (by omega) hv24 (Below.refl _ _)).mono ?_
          rintro e w' (⟨⟨s, hs, hbad⟩, _, _⟩ | ⟨_, G, vo, V, rfl, _, hR, hvv, hPl, hb⟩)
          · have h9 := HFx.out s hs
            rw [HF.out s] at h9
            omega
          · exact ⟨G, vo, V, rfl, ⟨hR, hvv⟩, hPl, hb⟩
        have HV1 : Hid (1 ≤ hv) := by show 1 ≤ hv; omega
        clear hv0
        go_wp2_with fail
        refine HPz.out.mono ?_
        rintro e w8 ⟨G, vo, V, rfl, hVm, hPl, hb8⟩
        have H8 : Hid (VcM G m hv vo V w8 ∧ PlV D m hv i F T tt V ∧ Below wr.heap.size wr w8) := ⟨hVm, hPl, hb8⟩
        clear hVm hPl hb8 c0 c1 HPz HPn
        go_wp2_with fail
        refine (HNu.out hv w8 hv24 (bel_up' HB.out H8.out.2.2)).mono ?_
        rintro e w9 ⟨bo, cb, xm, rfl, hY9, hEx, hBx, hb9⟩
        have H9 : Hid (VcM G m hv vo V w9 ∧ SlZ bo hv (fun j => ((xm j : Nat) : Int)) w9 ∧ El D xm ∧ Bd hv xm ∧ Below wr.heap.size wr w9) := ⟨H8.out.1.below hb9, hY9, hEx, hBx, bel_up' H8.out.2.2 hb9⟩
        have HSd : Hid (Calls Try.prog 12 #[.int .i64 D.q, .slice (some ⟨G, 0, none⟩) m m, .slice bo hv cb] w9 fun e w' => ∃ co cc, e = .returned (.tuple #[.slice co m cc, .int .i64 0]) ∧ SlZ co m (fun i => ((dot D (V i) xm hv : Nat) : Int)) w' ∧ Below w9.heap.size w9 w') := by
          have hv1 := HV1.out
          have h8 := HFx.out 0 (by omega)
          have h7 := HFm.out 0 (by omega)
          exact send_top HD.out H9.out.1 H8.out.2.1.el (by omega) hm hv1 hv24 H9.out.2.2.1 H9.out.2.2.2.1 H9.out.2.1
        clear hY9 hEx hBx hb9
        go_wp2_with fail
        refine HSd.out.mono ?_
        rintro e w10 ⟨co, cc, rfl, hC, hb10⟩
        have H10 : Hid (VcM G m hv vo V w10 ∧ SlZ bo hv (fun j => ((xm j : Nat) : Int)) w10 ∧ SlZ co m (fun i => ((dot D (V i) xm hv : Nat) : Int)) w10 ∧ El D xm ∧ PlV D m hv i F T tt V ∧ Below wr.heap.size wr w10) := ⟨H9.out.1.below hb10, slz_below H9.out.2.1 hb10, hC, H9.out.2.2.1, H8.out.2.1, bel_up' H9.out.2.2.2.2 hb10⟩
        clear hC hb10 H8 H9 HSd
        go_wp2
        go_loopw [29] (fun vj wx => ∃ j : Nat, j ≤ i ∧ vj = .int .i64 (j : Nat) ∧ Hid (Below w10.heap.size w10 wx)) (fun vj _ => i - (RowKit.intOf vj).toNat)
        case atStart => exact ⟨0, by omega, rfl, Below.refl _ _⟩
        case round =>
          obtain ⟨j, hj, rfl, HJ⟩ := hrel
          rename World => wx
          by_cases hlj : j < i
          · have hjb : (j : Int) < (i : Int) := by omega
            have hjb0 : (0 : Int) ≤ (j : Int) := by omega
            have hEx := HE.out wx (bel_up' H10.out.2.2.2.2.2 HJ.out)
            obtain ⟨gs, os, rfl, hcx⟩ := hEx.2.1.sl j hlj
            obtain ⟨x, hx⟩ : ∃ x, x = tt j := ⟨_, rfl⟩
            have hcl : wx.cell? ⟨gs, os + j, none⟩ = some (.int .i64 ((x : Nat) : Int)) := by rw [hx]; exact hcx
            have HHe : Hid (∀ wy, Below wx.heap.size wx wy → Calls Try.prog 13 #[.int .i64 D.q, .agg #[.int .i64 (k : Nat), .slice eo m ec], .slice (some ⟨G, 0, none⟩) m m, .slice co m cc, .int .i64 (x : Nat)] wy fun e w' => ∃ v, e = .returned (.tuple #[v, .int .i64 0]) ∧ SliceI v (zl hv fun j => ((xm j : Nat) : Int)) w' ∧ Below wy.heap.size wy w') := fun wy hy => by
              have hxy := bel_up' HJ.out hy
              rw [hx]
              exact hear_top HD.out (hEx.1.below hy) HNt.out.2 (H10.out.1.below hxy) H10.out.2.2.2.2.1 hm HV1.out hv24 H10.out.2.2.2.1 (slz_below H10.out.2.2.1 hxy) hlj (HT.out.2.1 j (by omega))
            have HK5 : Hid (∀ wy, Below wx.heap.size wx wy → (fun wx : World => NB B (k : Nat) (.slice eo m ec) wx ∧ wx.cell? ⟨gs, os + j, none⟩ = some (.int .i64 ((x : Nat) : Int))) wy) := fun wy hy => ⟨hEx.2.2.keep hy, ((bcell hy).1 _ _ (cell_lt hcl)).trans hcl⟩
            clear hEx hcx hx hcl
            go_wp2
            have hS0 := HK5.out _ (Below.refl wx.heap.size wx).drew
            refine wp_region_noPanic ?_
            refine wp_region_L (S := (fun wx : World => NB B (k : Nat) (.slice eo m ec) wx ∧ wx.cell? ⟨gs, os + j, none⟩ = some (.int .i64 ((x : Nat) : Int)))) [] (by kernel_rfl) ?_
            refine wpAnyL_take (i := 0) (v := ?_) (by rw [List.getElem?_toArray]; rfl) (by decide +kernel) (by decide +kernel) (by decide +kernel) (by decide +kernel) (by decide +kernel) (fun _ _ _ h => h) hS0 (Or.inl ⟨by rfl, ?_⟩) ?_
            rotate_left
            · intro wz hSz; obtain ⟨⟨z0, z1⟩, z2⟩ := hSz; go_simp; first | done | with_reducible rfl | (simp only [hjb0, hjb, and_self, if_true, Int.toNat_natCast]; first | done | with_reducible rfl) | (simp [hjb0, hjb]; first | done | with_reducible rfl)
            try simp only [Act.put, List.setIfInBounds_toArray, List.set_cons_zero, List.set_cons_succ]
            refine wpAnyL_take (i := 1) (v := ?_) (by rw [List.getElem?_toArray]; rfl) (by decide +kernel) (by decide +kernel) (by decide +kernel) (by decide +kernel) (by decide +kernel) (fun _ _ _ h => h) hS0 (Or.inl ⟨by rfl, ?_⟩) ?_
            rotate_left
            · intro wz hSz; obtain ⟨⟨z0, z1⟩, z2⟩ := hSz; go_simp; first | done | with_reducible rfl | (simp only [hjb0, hjb, and_self, if_true, Int.toNat_natCast]; first | done | with_reducible rfl) | (simp [hjb0, hjb]; first | done | with_reducible rfl)
            try simp only [Act.put, List.setIfInBounds_toArray, List.set_cons_zero, List.set_cons_succ]
            refine wpAnyL_take (i := 2) (v := ?_) (by rw [List.getElem?_toArray]; rfl) (by decide +kernel) (by decide +kernel) (by decide +kernel) (by decide +kernel) (by decide +kernel) (fun _ _ _ h => h) hS0 (Or.inl ⟨by rfl, ?_⟩) ?_
            rotate_left
            · intro wz hSz; obtain ⟨⟨z0, z1⟩, z2⟩ := hSz; go_simp; first | done | with_reducible rfl | (simp only [hjb0, hjb, and_self, if_true, Int.toNat_natCast]; first | done | with_reducible rfl) | (simp [hjb0, hjb]; first | done | with_reducible rfl)
            try simp only [Act.put, List.setIfInBounds_toArray, List.set_cons_zero, List.set_cons_succ]
            refine wpAnyL_take (i := 3) (v := ?_) (by rw [List.getElem?_toArray]; rfl) (by decide +kernel) (by decide +kernel) (by decide +kernel) (by decide +kernel) (by decide +kernel) (fun _ _ _ h => h) hS0 (Or.inl ⟨by rfl, ?_⟩) ?_
            rotate_left
            · intro wz hSz; obtain ⟨⟨z0, z1⟩, z2⟩ := hSz; go_simp; first | done | with_reducible rfl | (simp only [hjb0, hjb, and_self, if_true, Int.toNat_natCast]; first | done | with_reducible rfl) | (simp [hjb0, hjb]; first | done | with_reducible rfl)
            try simp only [Act.put, List.setIfInBounds_toArray, List.set_cons_zero, List.set_cons_succ]
            refine wpAnyL_take (i := 4) (v := ?_) (by rw [List.getElem?_toArray]; rfl) (by decide +kernel) (by decide +kernel) (by decide +kernel) (by decide +kernel) (by decide +kernel) (fun _ _ _ h => h) hS0 (Or.inl ⟨by rfl, ?_⟩) ?_
            rotate_left
            · intro wz hSz; obtain ⟨⟨z0, z1⟩, z2⟩ := hSz; go_simp; first | done | with_reducible rfl | (simp only [hjb0, hjb, and_self, if_true, Int.toNat_natCast]; first | done | with_reducible rfl) | (simp [hjb0, hjb]; first | done | with_reducible rfl)
            try simp only [Act.put, List.setIfInBounds_toArray, List.set_cons_zero, List.set_cons_succ]
            refine wpAnyL_take (i := 5) (v := ?_) (by rw [List.getElem?_toArray]; rfl) (by decide +kernel) (by decide +kernel) (by decide +kernel) (by decide +kernel) (by decide +kernel) (fun _ _ _ h => h) hS0 (Or.inl ⟨by rfl, ?_⟩) ?_
            rotate_left
            · intro wz hSz; obtain ⟨⟨z0, z1⟩, z2⟩ := hSz; go_simp; first | done | with_reducible rfl | (simp only [hjb0, hjb, and_self, if_true, Int.toNat_natCast]; first | done | with_reducible rfl) | (simp [hjb0, hjb]; first | done | with_reducible rfl)
            try simp only [Act.put, List.setIfInBounds_toArray, List.set_cons_zero, List.set_cons_succ]
            refine wpAnyL_take (i := 6) (v := ?_) (by rw [List.getElem?_toArray]; rfl) (by decide +kernel) (by decide +kernel) (by decide +kernel) (by decide +kernel) (by decide +kernel) (fun _ _ _ h => h) hS0 (Or.inl ⟨by rfl, ?_⟩) ?_
            rotate_left
            · intro wz hSz; obtain ⟨⟨z0, z1⟩, z2⟩ := hSz; go_simp; first | done | with_reducible rfl | (simp only [hjb0, hjb, and_self, if_true, Int.toNat_natCast]; first | done | with_reducible rfl) | (simp [hjb0, hjb]; first | done | with_reducible rfl)
            try simp only [Act.put, List.setIfInBounds_toArray, List.set_cons_zero, List.set_cons_succ]
            refine wpAnyL_take (i := 7) (v := ?_) (by rw [List.getElem?_toArray]; rfl) (by decide +kernel) (by decide +kernel) (by decide +kernel) (by decide +kernel) (by decide +kernel) (fun _ _ _ h => h) hS0 (Or.inl ⟨by rfl, ?_⟩) ?_
            rotate_left
            · intro wz hSz; obtain ⟨⟨z0, z1⟩, z2⟩ := hSz; go_simp; first | done | with_reducible rfl | (simp only [hjb0, hjb, and_self, if_true, Int.toNat_natCast]; first | done | with_reducible rfl) | (simp [hjb0, hjb]; first | done | with_reducible rfl)
            try simp only [Act.put, List.setIfInBounds_toArray, List.set_cons_zero, List.set_cons_succ]
            refine wpAnyL_one (i := 8) (by kernel_rfl) (by rw [List.getElem?_toArray]; rfl) (fun KK hK => ?_)
            have HK : Hid _ := hK
            clear hK
            go_simp
            refine (HHe.out _ ((Below.refl wx.heap.size wx).drew)).mono ?_
            rintro e w11 ⟨vx, rfl, hsx, hb11⟩
            have H11 : Hid (SliceI vx (zl hv fun j => ((xm j : Nat) : Int)) w11 ∧ Below wx.heap.size wx w11) := ⟨hsx, bel_up' (Below.refl wx.heap.size wx).drew hb11⟩
            have hS11 := HK5.out w11 H11.out.2
            clear hsx hb11
            refine HK.out _ _ (fun _ => hS11) ?_
            clear HK KK
            try simp only [Act.put, List.setIfInBounds_toArray, List.set_cons_zero, List.set_cons_succ]
            refine wpAnyL_take (i := 9) (v := ?_) (by rw [List.getElem?_toArray]; rfl) (by decide +kernel) (by decide +kernel) (by decide +kernel) (by decide +kernel) (by decide +kernel) (fun _ _ _ h => h) hS11 (Or.inl ⟨by rfl, ?_⟩) ?_
            rotate_left
            · intro wz hSz; obtain ⟨⟨z0, z1⟩, z2⟩ := hSz; go_simp; first | done | with_reducible rfl
            try simp only [Act.put, List.setIfInBounds_toArray, List.set_cons_zero, List.set_cons_succ]
            refine wpAnyL_take (i := 10) (v := ?_) (by rw [List.getElem?_toArray]; rfl) (by decide +kernel) (by decide +kernel) (by decide +kernel) (by decide +kernel) (by decide +kernel) (fun _ _ _ h => h) hS11 (Or.inl ⟨by rfl, ?_⟩) ?_
            rotate_left
            · intro wz hSz; obtain ⟨⟨z0, z1⟩, z2⟩ := hSz; go_simp; first | done | with_reducible rfl
            try simp only [Act.put, List.setIfInBounds_toArray, List.set_cons_zero, List.set_cons_succ]
            refine wpAnyL_take (i := 11) (v := ?_) (by rw [List.getElem?_toArray]; rfl) (by decide +kernel) (by decide +kernel) (by decide +kernel) (by decide +kernel) (by decide +kernel) (fun _ _ _ h => h) hS11 (Or.inl ⟨by rfl, ?_⟩) ?_
            rotate_left
            · intro wz hSz; obtain ⟨⟨z0, z1⟩, z2⟩ := hSz; go_simp; first | done | with_reducible rfl
            try simp only [Act.put, List.setIfInBounds_toArray, List.set_cons_zero, List.set_cons_succ]
            refine wpAnyL_take (i := 12) (v := ?_) (by rw [List.getElem?_toArray]; rfl) (by decide +kernel) (by decide +kernel) (by decide +kernel) (by decide +kernel) (by decide +kernel) (fun _ _ _ h => h) hS11 (Or.inl ⟨by rfl, ?_⟩) ?_
            rotate_left
            · intro wz hSz; obtain ⟨⟨z0, z1⟩, z2⟩ := hSz; go_simp; first | done | with_reducible rfl
            try simp only [Act.put, List.setIfInBounds_toArray, List.set_cons_zero, List.set_cons_succ]
            refine wpAnyL_take (i := 13) (v := ?_) (by rw [List.getElem?_toArray]; rfl) (by decide +kernel) (by decide +kernel) (by decide +kernel) (by decide +kernel) (by decide +kernel) (fun _ _ _ h => h) hS11 (Or.inl ⟨by rfl, ?_⟩) ?_
            rotate_left
            · intro wz hSz; obtain ⟨⟨z0, z1⟩, z2⟩ := hSz; go_simp; first | done | with_reducible rfl
            try simp only [Act.put, List.setIfInBounds_toArray, List.set_cons_zero, List.set_cons_succ]
            refine wpAnyL_done (by kernel_rfl) (NoPanic.normal ?_)
            clear hS0 hS11
            have HSm : Hid (Calls Try.prog 14 #[vx, .slice bo hv cb] w11 fun e w' => e = .returned (.bool true) ∧ ∃ n, w' = w11.drewN n) := by
              have h9 := same_any H11.out.1 (slz_slI (cap := cb) (slz_below H10.out.2.1 (bel_up' HJ.out H11.out.2)) (by omega))
              rw [decide_eq_true rfl] at h9
              exact h9
            have hz9 : ((0 : Int) != 0) = false := rfl
            go_wp2_with fail
            refine HSm.out.mono ?_
            rintro e w12 ⟨rfl, d12, hd12⟩
            have H12 : Hid (Below w10.heap.size w10 w12) := by
              rw [hd12]; exact below_drewN2 (bel_up' HJ.out H11.out.2) d12
            clear hd12 HK5 HHe
            go_wp2
            go_roundw
            case rel => exact ⟨j + 1, by omega, by go_num, H12.out⟩
            case measure => simp [RowKit.intOf]; omega
          · have e1 : j = i := by omega
            have hjb : ¬ (j : Int) < (i : Int) := by omega
            have HR : Hid (Below w.heap.size w wx) := bel_up' (bel_up' HB.out H10.out.2.2.2.2.2) HJ.out
            clear e1
            go_wp2
            go_ret
            exact ⟨rfl, HR.out⟩
end Go.Proofs.Ytbnkekeeceicaaa
