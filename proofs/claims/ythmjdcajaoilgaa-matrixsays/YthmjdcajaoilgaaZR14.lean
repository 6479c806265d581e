/- Texts of ours, one behind the other: R14 B4 B5 B6. -/
import Derived.Test.YthmjdcajaoilgaaZR10
import Derived.Test.YthmjdcajaoilgaaZM3
import Derived.Deep.RegionWith
import Derived.Deep.RegionHeld3
/- The reference: the elements of a smaller field within one (Within). -/
namespace Go.Proofs.Ythmjdcajaoilgaa
open Go.RowKit

/-- Of the first k elements those that stay under Frobenius, so many times. -/
def FD.stayTo (D : FD) (m k : Nat) : List Int := ((List.range k).filter fun a => again D.frob1 (m % D.m) a == a).map Int.ofNat
theorem stayTo_yes {D : FD} {m k : Nat} (h : again D.frob1 (m % D.m) k = k) : D.stayTo m (k + 1) = D.stayTo m k ++ [(k : Int)] := by
  unfold FD.stayTo; rw [List.range_succ, List.filter_append, List.map_append]; simp [h]
theorem stayTo_no {D : FD} {m k : Nat} (h : ¬ again D.frob1 (m % D.m) k = k) : D.stayTo m (k + 1) = D.stayTo m k := by
  unfold FD.stayTo; rw [List.range_succ, List.filter_append, List.map_append]; simp [h]
theorem stayTo_len (D : FD) (m k : Nat) : (D.stayTo m k).length ≤ k := by
  unfold FD.stayTo; rw [List.length_map]; exact Nat.le_trans (List.length_filter_le _ _) (by simp)

/-- The elements of the field of so many within this one. -/
def FD.withinL (D : FD) (size : Int) : List Int := if 2 ≤ size ∧ size ≤ 64 ∧ (pp size.toNat).1 = D.p ∧ (pp size.toNat).2 ≠ 0 ∧ D.m % (pp size.toNat).2 = 0 then D.stayTo (pp size.toNat).2 D.q else []

theorem pp_bd : (allB 65 fun q => decide ((pp q).2 ≤ 6) || decide (q < 2)) = true := by decide +kernel

set_option maxHeartbeats 4000000 in
theorem rwithin_any {D : FD} (hD : D ∈ fieldsL) (gen : Nat) {v : Value} (size : Int) {w : World} (hM : ModAt D v D.md w) :
    Calls Try.prog 40 #[rf D.q D.p D.m gen v, .int .i64 size] w fun e w' => ∃ v', e = .returned v' ∧ OwnI w.heap.size v' (D.withinL size) w' ∧ Below w.heap.size w w' := by
  have F := fld hD
  have h64 := F.q64
  have h2 := F.q2
  have hp2 := F.p2
  have hm1 := F.m1
  have HM : Hid (ModAt D v D.md w ∧ D ∈ fieldsL ∧ Fld D) := ⟨hM, hD, F⟩
  clear hM hD F
  have HB0 : Hid (Box w.heap.size D gen v (w.alloc (.cells #[.int .i64 D.q, .int .i64 D.p, .int .i64 D.m, .int .i64 gen, v] 28))) := box_new D gen v w
  by_cases hs2 : size < 2
  · have HV : Hid (D.withinL size = []) := by show _ = _; rw [FD.withinL, if_neg (by omega)]
    unfold rf
    go_enter Try.func40, Try.ntmps40
    go_wp2
    go_ret
    exact ⟨_, rfl, by rw [HV.out]; exact OwnI.nil _ _, (Below.refl _ _).alloc (Nat.le_refl _) _⟩
  by_cases hs64 : 64 < size
  · have HV : Hid (D.withinL size = []) := by show _ = _; rw [FD.withinL, if_neg (by omega)]
    unfold rf
    go_enter Try.func40, Try.ntmps40
    go_wp2
    go_ret
    exact ⟨_, rfl, by rw [HV.out]; exact OwnI.nil _ _, (Below.refl _ _).alloc (Nat.le_refl _) _⟩
  obtain ⟨n, rfl⟩ := Int.eq_ofNat_of_zero_le (show 0 ≤ size from by omega)
  obtain ⟨p', hp'⟩ : ∃ p', p' = (pp n).1 := ⟨_, rfl⟩
  obtain ⟨m', hm'⟩ : ∃ m', m' = (pp n).2 := ⟨_, rfl⟩
  have hmb : m' ≤ 6 := by
    have := allB_of pp_bd n (by omega)
    simp only [Bool.or_eq_true, decide_eq_true_eq] at this
    omega
  have HP : Hid (∀ w0, Calls Try.prog 71 #[.int .i64 n] w0 fun e w' => e = .returned (.tuple #[.int .i64 p', .int .i64 m']) ∧ w' = w0) := by
    intro w0; rw [hp', hm']; exact prime_any n w0 (by omega) (by omega)
  by_cases hok : p' = D.p ∧ m' ≠ 0 ∧ D.m % m' = 0
  · obtain ⟨k1, k2, k3⟩ := hok
    have HV : Hid (D.withinL n = D.stayTo m' D.q) := by
      show _ = _
      rw [FD.withinL, Int.toNat_natCast, ← hp', ← hm', if_pos ⟨by omega, by omega, k1, k2, k3⟩]
    have t1 : ((p' : Int) != (D.p : Int)) = false := by rw [k1]; simp
    have t2 : ((m' : Int) == 0) = false := by rw [beq_eq_false_iff_ne]; omega
    have t3 : ((D.m : Int) % (m' : Int) != 0) = false := by rw [← Int.natCast_emod, k3]; rfl
    have t4 : 1 ≤ m' := by omega
    clear k1 k2 k3 hp' hm'
    unfold rf
    go_enter Try.func40, Try.ntmps40
    go_wp2_with fail
    refine (HP.out _).mono ?_
    rintro e w' ⟨rfl, rfl⟩
    go_wp2
    go_loopw [7, 8] (fun vl i wr => ∃ a : Nat, a ≤ D.q ∧ i = .int .i64 a ∧ OwnI (w.heap.size + 1) vl (D.stayTo m' a) wr ∧ Box w.heap.size D gen v wr ∧ Below w.heap.size w wr ∧ w.heap.size < wr.heap.size) (fun _ i _ => D.q - (intOf i).toNat)
    case atStart => exact ⟨0, by omega, rfl, OwnI.nil _ _, HB0.out, (Below.refl _ _).alloc (Nat.le_refl _) _, by simp⟩
    case round =>
      obtain ⟨a, ha, rfl, hown, hbox, hbel, hlt⟩ := hrel
      obtain ⟨c0, c1, c2, c3, c4⟩ := hbox
      have HG : Hid (Box w.heap.size D gen v wr ∧ Below w.heap.size w wr) := ⟨⟨c0, c1, c2, c3, c4⟩, hbel⟩
      have HO : Hid (OwnI (w.heap.size + 1) u7 (D.stayTo m' a) wr) := hown
      clear hbel hown
      have hlen := stayTo_len D m' a
      by_cases hla : a < D.q
      · obtain ⟨y, hy⟩ : ∃ y, y = again D.frob1 (m' % D.m) a := ⟨_, rfl⟩
        have HC : Hid (Calls Try.prog 34 #[.agg #[.int .i64 D.q, .int .i64 D.p, .int .i64 D.m, .int .i64 gen, v], .int .i64 a, .int .i64 m'] wr fun e w' => e = .returned (.int .i64 (y : Nat)) ∧ Below wr.heap.size wr w') := by
          have h := rfrob_any HM.out.2.1 gen a m' (HM.out.1.below HG.out.2)
          rw [FD.frobZ, if_pos (nat_has hla), ← Int.natCast_emod, Int.toNat_natCast, Int.toNat_natCast, ← hy] at h
          exact h
        by_cases he : y = a
        · have hbe : ((y : Int) == (a : Int)) = true := beq_iff_eq.2 (by rw [he])
          have HL : Hid (D.stayTo m' (a + 1) = D.stayTo m' a ++ [(a : Int)]) := stayTo_yes (by rw [← hy, he])
          clear he hy
          go_wp2_with fail
          refine HC.out.mono ?_
          rintro e w2 ⟨rfl, hb2⟩
          have HR : Hid (OwnI (w.heap.size + 1) u7 (D.stayTo m' a) w2 ∧ Box w.heap.size D gen v w2 ∧ Below w.heap.size w w2) := ⟨HO.out.below hb2 (fun k hk => (HO.out.lt k hk).2), HG.out.1.below hb2 hlt, HG.out.2.trans (hb2.mono (by omega))⟩
          have hlt2 : w.heap.size < w2.heap.size := by have := hb2.size; omega
          clear hb2 c0 c1 c2 c3 c4 HC
          go_wp2_with (at_builtin; refine append_int rfl _ _ rfl (w.heap.size + 1) _ (D.stayTo m' a) rfl (HR.out.1.alloc _) ⟨_, 0, none⟩ 1 a rfl (by simp) (by omega) (by simp; omega) ?_; intro v2 w3 hown3 hgrow3)
          have hb3 : Below (w.heap.size + 1) w2 w3 := ((Below.refl (w.heap.size + 1) w2).alloc (by omega) _).grown hgrow3 (by simp; omega) (fun k hk => (HR.out.1.lt k hk).1)
          go_roundw
          case rel => exact ⟨a + 1, by omega, by go_num, by rw [HL.out]; exact hown3, HR.out.2.1.below hb3 (by omega), HR.out.2.2.trans (hb3.mono (by omega)), by have := hb3.size; omega⟩
          case measure => simp [intOf]; omega
        · have hbe : ((y : Int) == (a : Int)) = false := beq_eq_false_iff_ne.2 (by omega)
          have HL : Hid (D.stayTo m' (a + 1) = D.stayTo m' a) := stayTo_no (by rw [← hy]; exact he)
          clear he hy
          go_wp2_with fail
          refine HC.out.mono ?_
          rintro e w2 ⟨rfl, hb2⟩
          have HR : Hid (OwnI (w.heap.size + 1) u7 (D.stayTo m' a) w2 ∧ Box w.heap.size D gen v w2 ∧ Below w.heap.size w w2 ∧ w.heap.size < w2.heap.size) := ⟨HO.out.below hb2 (fun k hk => (HO.out.lt k hk).2), HG.out.1.below hb2 hlt, HG.out.2.trans (hb2.mono (by omega)), by have := hb2.size; omega⟩
          clear hb2 c0 c1 c2 c3 c4 HC
          go_wp2
          go_roundw
          case rel => exact ⟨a + 1, by omega, by go_num, by rw [HL.out]; exact HR.out.1, HR.out.2⟩
          case measure => simp [intOf]; omega
      · have HE : Hid (D.withinL n = D.stayTo m' a) := by show _ = _; rw [HV.out, show a = D.q from by omega]
        go_wp2
        go_ret
        exact ⟨_, rfl, by rw [HE.out]; exact HO.out.mono (by omega), HG.out.2⟩
  · have HV : Hid (D.withinL n = []) := by
      show _ = _
      rw [FD.withinL, Int.toNat_natCast, ← hp', ← hm', if_neg (fun h => hok h.2.2)]
    by_cases k1 : p' = D.p
    · have t1 : ((p' : Int) != (D.p : Int)) = false := by rw [k1]; simp
      by_cases k2 : m' = 0
      · have t2 : ((m' : Int) == 0) = true := by rw [k2]; rfl
        clear k1 k2 hp' hm' hok
        unfold rf
        go_enter Try.func40, Try.ntmps40
        go_wp2_with fail
        refine (HP.out _).mono ?_
        rintro e w' ⟨rfl, rfl⟩
        go_wp2
        go_ret
        exact ⟨_, rfl, by rw [HV.out]; exact OwnI.nil _ _, (Below.refl _ _).alloc (Nat.le_refl _) _⟩
      · have t2 : ((m' : Int) == 0) = false := by rw [beq_eq_false_iff_ne]; omega
        have t3 : ((D.m : Int) % (m' : Int) != 0) = true := by
          rw [← Int.natCast_emod, bne_iff_ne]
          intro h; exact hok ⟨k1, k2, by exact_mod_cast h⟩
        have t4 : 1 ≤ m' := by omega
        clear k1 k2 hp' hm' hok
        unfold rf
        go_enter Try.func40, Try.ntmps40
        go_wp2_with fail
        refine (HP.out _).mono ?_
        rintro e w' ⟨rfl, rfl⟩
        go_wp2
        go_ret
        exact ⟨_, rfl, by rw [HV.out]; exact OwnI.nil _ _, (Below.refl _ _).alloc (Nat.le_refl _) _⟩
    · have t1 : ((p' : Int) != (D.p : Int)) = true := by rw [bne_iff_ne]; exact_mod_cast k1
      clear k1 hp' hm' hok
      unfold rf
      go_enter Try.func40, Try.ntmps40
      go_wp2_with fail
      refine (HP.out _).mono ?_
      rintro e w' ⟨rfl, rfl⟩
      go_wp2
      go_ret
      exact ⟨_, rfl, by rw [HV.out]; exact OwnI.nil _ _, (Below.refl _ _).alloc (Nat.le_refl _) _⟩
end Go.Proofs.Ythmjdcajaoilgaa

/- A field's calls, gone on: Frobenius, traces, norms. -/
namespace Go.Proofs.Ythmjdcajaoilgaa
open Go.RowKit

theorem powZ_frob {D : FD} (hD : D ∈ fieldsL) {z : Nat} (hz : z < D.q) : D.powZ z D.p = (D.frob1 z : Nat) := by
  have F := fld hD
  have hp := F.p2
  rw [FD.powZ, if_neg (by simp [nat_has hz]), if_neg (by omega)]
  unfold FD.frob1
  by_cases h0 : z = 0
  · rw [if_pos (by omega), if_neg (by omega), if_pos h0]; rfl
  · rw [if_neg (by omega), if_neg h0, ← Int.natCast_emod, Int.toNat_natCast, Int.toNat_natCast]
    unfold FD.pw
    rw [Nat.mul_mod, Nat.mod_mod, ← Nat.mul_mod]

set_option maxHeartbeats 2000000 in
theorem frob_any {F T : Nat} {D : FD} (hD : D ∈ fieldsL) {g : Nat → Value} {w : World} (h : FAt F T D g w) (a k : Int) (hk1 : -9223372036854775808 ≤ k) (hk2 : k ≤ 9223372036854775807) :
    Calls Try.prog 33 #[.pointer (some ⟨F, 0, none⟩), .int .i64 a, .int .i64 k] w fun e w' => e = .returned (.int .i64 (D.frobZ a k)) ∧ ∃ n, w' = w.drewN n := by
  have hp := h.ptr
  have hc2 : w.cell? ⟨T, 2, none⟩ = some (.int .i64 D.m) := by rw [h.row.cell 2 (by omega), h.tab.c2]
  have hc1 : w.cell? ⟨T, 1, none⟩ = some (.int .i64 D.p) := by rw [h.row.cell 1 (by omega), h.tab.sum.c1]
  have hm1 := (fld hD).m1
  have hm6 := (fld hD).m6
  have hp64 := (fld hD).p64
  have HF : Hid (FAt F T D g w ∧ D ∈ fieldsL) := ⟨h, hD⟩
  clear h hD
  by_cases ha : D.has a = true
  · obtain ⟨x, rfl, hx⟩ := has_nat ha
    obtain ⟨r, hr, hrq⟩ : ∃ r : Nat, k % (D.m : Int) = r ∧ r < D.m := by
      have h1 := Int.emod_nonneg k (show (D.m : Int) ≠ 0 from by omega)
      have h2 := Int.emod_lt_of_pos k (show 0 < (D.m : Int) from by omega)
      exact ⟨(k % (D.m : Int)).toNat, by omega, by omega⟩
    have HV : Hid (D.frobZ x k = (again D.frob1 r x : Nat)) := by
      show D.frobZ x k = _
      rw [FD.frobZ, if_pos ha, hr]; rfl
    have HR : Hid (∀ w1, Calls Try.prog 79 #[.int .i64 k, .int .i64 (D.m : Int)] w1 fun e w' => e = .returned (.int .i64 (r : Int)) ∧ w' = w1) := by
      intro w1; rw [← hr]; exact remainder_any _ _ _ (by omega) (by omega) hk1 hk2
    clear hr
    go_enter Try.func33, Try.ntmps33
    go_wp2_with (first | (go_at_call 17; refine (has_any HF.out.1 _).mono ?_; rintro e w' ⟨rfl, hw⟩; have hw := hw.symm; subst hw) | (go_at_call 79; refine (HR.out _).mono ?_; rintro e w' ⟨rfl, hw⟩; have hw := hw.symm; subst hw))
    go_loopw [1, 20] (fun y i wr => ∃ j z : Nat, j ≤ r ∧ z < D.q ∧ i = .int .i64 j ∧ y = .int .i64 z ∧ Hid (z = again D.frob1 j x) ∧ ∃ d, wr = w.drewN d) (fun _ i _ => r - (intOf i).toNat)
    case atStart => exact ⟨0, x, by omega, hx, rfl, rfl, rfl, 0, rfl⟩
    case round =>
      obtain ⟨j, z, hj, hz, rfl, rfl, HZ, d, rfl⟩ := hrel
      by_cases hjr : j < r
      · have HC : Hid (Calls Try.prog 29 #[.pointer (some ⟨F, 0, none⟩), .int .i64 z, .int .i64 D.p] (w.drewN d) fun e w' => e = .returned (.int .i64 (D.frob1 z : Nat)) ∧ ∃ n, w' = (w.drewN d).drewN n) := by
          have h := pow_any HF.out.2 (HF.out.1.drewN d) z D.p (by omega) (by omega)
          rw [powZ_frob HF.out.2 hz] at h; exact h
        have hfl := frob1_lt HF.out.2 z
        go_wp2_with fail
        refine HC.out.mono ?_
        rintro e w' ⟨rfl, n, rfl⟩
        go_wp2
        go_roundw
        case rel => exact ⟨j + 1, D.frob1 z, by omega, hfl, by go_num, rfl, by rw [HZ.out]; rfl, _, by first | rfl | rw [World.drewN_drewN]⟩
        case measure => simp [intOf]; omega
      · have HE : Hid (z = again D.frob1 r x) := by show _ = _; rw [HZ.out, show j = r from by omega]
        go_wp2
        go_ret
        exact ⟨ret_int (by rw [HV.out, HE.out]), _, rfl⟩
  · have ha' : D.has a = false := by simpa using ha
    have HV : Hid (D.frobZ a k = -1) := by show _ = _; rw [FD.frobZ, if_neg (by simp [ha'])]
    clear ha
    go_enter Try.func33, Try.ntmps33
    go_wp2_with (go_at_call 17; refine (has_any HF.out.1 _).mono ?_; rintro e w' ⟨rfl, rfl⟩)
    go_ret
    exact ⟨ret_int (by rw [HV.out]), 0, rfl⟩

set_option maxHeartbeats 2000000 in
theorem trace_any {F T : Nat} {D : FD} (hD : D ∈ fieldsL) {g : Nat → Value} {w : World} (h : FAt F T D g w) (a : Int) :
    Calls Try.prog 35 #[.pointer (some ⟨F, 0, none⟩), .int .i64 a] w fun e w' => e = .returned (.int .i64 (D.traceZ a)) ∧ ∃ n, w' = w.drewN n := by
  have hp := h.ptr
  have hc2 : w.cell? ⟨T, 2, none⟩ = some (.int .i64 D.m) := by rw [h.row.cell 2 (by omega), h.tab.c2]
  have hm1 := (fld hD).m1
  have hm6 := (fld hD).m6
  have HF : Hid (FAt F T D g w ∧ D ∈ fieldsL) := ⟨h, hD⟩
  clear h hD
  obtain ⟨t, ht⟩ : ∃ t : Nat → Int, t = fun j => if D.has a = true then ((D.traceTo a.toNat j : Nat) : Int) else if j = 0 then 0 else -1 := ⟨_, rfl⟩
  have HT : Hid (t 0 = 0 ∧ D.traceZ a = t D.m ∧ ∀ j : Nat, j < D.m → D.addZ (t j) (D.frobZ a j) = t (j + 1)) := by
    rw [ht]
    refine ⟨?_, ?_, ?_⟩
    · show (if D.has a = true then ((D.traceTo a.toNat 0 : Nat) : Int) else if 0 = 0 then 0 else -1) = 0
      split <;> rfl
    · show D.traceZ a = if D.has a = true then ((D.traceTo a.toNat D.m : Nat) : Int) else if D.m = 0 then 0 else -1
      rw [FD.traceZ]; split
      · rfl
      · rw [if_neg (by omega)]
    · intro j hj
      show D.addZ (if D.has a = true then ((D.traceTo a.toNat j : Nat) : Int) else if j = 0 then 0 else -1) (D.frobZ a j) = if D.has a = true then ((D.traceTo a.toNat (j + 1) : Nat) : Int) else if j + 1 = 0 then 0 else -1
      by_cases ha : D.has a = true
      · obtain ⟨x, rfl, hx⟩ := has_nat ha
        rw [if_pos ha, if_pos ha, frobZ_nat ha hj, Int.toNat_natCast, addZ_nat (fld HF.out.2) (traceTo_lt HF.out.2 x hx j) (frob_lt HF.out.2 x hx j)]; rfl
      · have : D.frobZ a j = -1 := by rw [FD.frobZ, if_neg ha]
        have hm : D.has (-1) = false := by simp [FD.has]
        rw [if_neg ha, if_neg ha, this, FD.addZ, if_neg (by rw [hm]; simp), if_neg (by omega)]
  clear ht
  go_enter Try.func35, Try.ntmps35
  go_wp2
  go_loopw [5, 14] (fun s i wr => ∃ j : Nat, j ≤ D.m ∧ i = .int .i64 j ∧ s = .int .i64 (t j) ∧ ∃ d, wr = w.drewN d) (fun _ i _ => D.m - (intOf i).toNat)
  case atStart => exact ⟨0, by omega, rfl, by rw [HT.out.1], 0, rfl⟩
  case round =>
    obtain ⟨j, hj, rfl, rfl, d, rfl⟩ := hrel
    by_cases hjm : j < D.m
    · have HE : Hid (D.addZ (t j) (D.frobZ a j) = t (j + 1)) := HT.out.2.2 j hjm
      go_wp2_with fail
      refine (frob_any HF.out.2 (HF.out.1.drewN d) a j (by omega) (by omega)).mono ?_
      rintro e w' ⟨rfl, n, rfl⟩
      go_wp2_with fail
      refine (add_any HF.out.2 (by first | exact HF.out.1.drewN _ | exact (HF.out.1.drewN d).drewN n) _ _).mono ?_
      rintro e w' ⟨rfl, n2, rfl⟩
      go_wp2
      go_roundw
      case rel => exact ⟨j + 1, by omega, by go_num, by rw [HE.out], _, by first | rfl | rw [World.drewN_drewN] | rw [World.drewN_drewN, World.drewN_drewN]⟩
      case measure => simp [intOf]; omega
    · have HE : Hid (j = D.m) := by show j = D.m; omega
      go_wp2
      go_ret
      exact ⟨ret_int (by rw [HT.out.2.1, HE.out]), _, rfl⟩

set_option maxHeartbeats 2000000 in
theorem norm_any {F T : Nat} {D : FD} (hD : D ∈ fieldsL) {g : Nat → Value} {w : World} (h : FAt F T D g w) (a : Int) :
    Calls Try.prog 37 #[.pointer (some ⟨F, 0, none⟩), .int .i64 a] w fun e w' => e = .returned (.int .i64 (D.normZ a)) ∧ ∃ n, w' = w.drewN n := by
  have hp := h.ptr
  have hc2 : w.cell? ⟨T, 2, none⟩ = some (.int .i64 D.m) := by rw [h.row.cell 2 (by omega), h.tab.c2]
  have hm1 := (fld hD).m1
  have hm6 := (fld hD).m6
  have HF : Hid (FAt F T D g w ∧ D ∈ fieldsL) := ⟨h, hD⟩
  clear h hD
  obtain ⟨t, ht⟩ : ∃ t : Nat → Int, t = fun j => if D.has a = true then ((D.normTo a.toNat j : Nat) : Int) else if j = 0 then 1 else -1 := ⟨_, rfl⟩
  have HT : Hid (t 0 = 1 ∧ D.normZ a = t D.m ∧ ∀ j : Nat, j < D.m → D.mulZ (t j) (D.frobZ a j) = t (j + 1)) := by
    rw [ht]
    refine ⟨?_, ?_, ?_⟩
    · show (if D.has a = true then ((D.normTo a.toNat 0 : Nat) : Int) else if 0 = 0 then 1 else -1) = 1
      split <;> rfl
    · show D.normZ a = if D.has a = true then ((D.normTo a.toNat D.m : Nat) : Int) else if D.m = 0 then 1 else -1
      rw [FD.normZ]; split
      · rfl
      · rw [if_neg (by omega)]
    · intro j hj
      show D.mulZ (if D.has a = true then ((D.normTo a.toNat j : Nat) : Int) else if j = 0 then 1 else -1) (D.frobZ a j) = if D.has a = true then ((D.normTo a.toNat (j + 1) : Nat) : Int) else if j + 1 = 0 then 1 else -1
      by_cases ha : D.has a = true
      · obtain ⟨x, rfl, hx⟩ := has_nat ha
        rw [if_pos ha, if_pos ha, frobZ_nat ha hj, Int.toNat_natCast, mulZ_nat (fld HF.out.2) (normTo_lt HF.out.2 x j) (frob_lt HF.out.2 x hx j)]; rfl
      · have : D.frobZ a j = -1 := by rw [FD.frobZ, if_neg ha]
        have hm : D.has (-1) = false := by simp [FD.has]
        rw [if_neg ha, if_neg ha, this, FD.mulZ, if_neg (by rw [hm]; simp), if_neg (by omega)]
  clear ht
  go_enter Try.func37, Try.ntmps37
  go_wp2
  go_loopw [5, 14] (fun s i wr => ∃ j : Nat, j ≤ D.m ∧ i = .int .i64 j ∧ s = .int .i64 (t j) ∧ ∃ d, wr = w.drewN d) (fun _ i _ => D.m - (intOf i).toNat)
  case atStart => exact ⟨0, by omega, rfl, by rw [HT.out.1], 0, rfl⟩
  case round =>
    obtain ⟨j, hj, rfl, rfl, d, rfl⟩ := hrel
    by_cases hjm : j < D.m
    · have HE : Hid (D.mulZ (t j) (D.frobZ a j) = t (j + 1)) := HT.out.2.2 j hjm
      go_wp2_with fail
      refine (frob_any HF.out.2 (HF.out.1.drewN d) a j (by omega) (by omega)).mono ?_
      rintro e w' ⟨rfl, n, rfl⟩
      go_wp2_with fail
      refine (mul_any HF.out.2 (by first | exact HF.out.1.drewN _ | exact (HF.out.1.drewN d).drewN n) _ _).mono ?_
      rintro e w' ⟨rfl, n2, rfl⟩
      go_wp2
      go_roundw
      case rel => exact ⟨j + 1, by omega, by go_num, by rw [HE.out], _, by first | rfl | rw [World.drewN_drewN] | rw [World.drewN_drewN, World.drewN_drewN]⟩
      case measure => simp [intOf]; omega
    · have HE : Hid (j = D.m) := by show j = D.m; omega
      go_wp2
      go_ret
      exact ⟨ret_int (by rw [HT.out.2.1, HE.out]), _, rfl⟩
end Go.Proofs.Ythmjdcajaoilgaa

/- A field's calls, gone on: its modulus, the elements of a smaller field. -/
namespace Go.Proofs.Ythmjdcajaoilgaa
open Go.RowKit

theorem RowF.own {g n base : Nat} {f : Nat → Value} {l : List Int} {w : World} (h : RowF g n 3 f w) (hl : l.length = n) (hf : ∀ j, j < n → f j = .int .i64 (l.getD j 0)) (hb : base ≤ g) (hn : n ≤ 1000000) : OwnI base (.slice (some ⟨g, 0, none⟩) n n) l w := by
  obtain ⟨cs, h1, h2, h3⟩ := h
  refine ⟨by simp, Or.inr ⟨g, n, cs, by rw [hl], hb, h1, by omega, by unfold maxLen; omega, by omega, ?_⟩⟩
  rw [hl, Nat.mul_one, List.take_of_length_le (by simp; omega)]
  apply List.ext_getElem?
  intro i
  by_cases hi : i < n
  · rw [Array.getElem?_toList, h3 i hi, hf i hi, List.getElem?_map, List.getD_eq_getElem?_getD, List.getElem?_eq_getElem (by omega)]; rfl
  · rw [List.getElem?_eq_none (by simp; omega), List.getElem?_eq_none (by simp; omega)]

set_option maxHeartbeats 2000000 in
theorem tdigits_any {F T : Nat} {D : FD} (hD : D ∈ fieldsL) {g : Nat → Value} {w : World} (h : FAt F T D g w) (a : Nat) (ha : a < 64) :
    Calls Try.prog 74 #[.pointer (some ⟨T, 0, none⟩), .int .i64 a] w fun e w' => ∃ v, e = .returned v ∧ OwnI w.heap.size v (digL D.p a D.m) w' ∧ Below w.heap.size w w' := by
  have hc2 : w.cell? ⟨T, 2, none⟩ = some (.int .i64 D.m) := by rw [h.row.cell 2 (by omega), h.tab.c2]
  have hT := h.ltT
  have hm1 := (fld hD).m1
  have hm6 := (fld hD).m6
  have hp2 := (fld hD).p2
  have hp64 := (fld hD).p64
  have HF : Hid (FAt F T D g w ∧ D ∈ fieldsL) := ⟨h, hD⟩
  clear h hD
  go_enter Try.func74, Try.ntmps74
  go_wp2_with (at_make; refine make_int rfl _ _ rfl _ D.m rfl rfl rfl (by omega) ?_; intro w1 hown1 hgrow1)
  have hb1 : Below w.heap.size w w1 := below_grown hgrow1 (Nat.le_refl _) (fun k hk => by simp at hk)
  obtain ⟨gl, cl, fl, hvl, hgl, hgl', hll, hcl, hrl, hfl⟩ := hown1.row D.m (by simp) (by omega)
  simp only [Value.slice.injEq, Option.some.injEq, Addr.mk.injEq, and_true, true_and] at hvl
  obtain ⟨rfl, rfl⟩ := hvl
  have HS : Hid (RowF w.heap.size D.m 3 fl w1 ∧ Below w.heap.size w w1) := ⟨hrl, hb1⟩
  clear hown1 hgrow1 hrl hfl hb1 hgl hll hcl
  go_loopw [1, 14] (fun x i wr => ∃ (j y : Nat) (f : Nat → Value), j ≤ D.m ∧ y ≤ a ∧ x = .int .i64 y ∧ i = .int .i64 j ∧ Hid (y = a / D.p ^ j) ∧ RowF w.heap.size D.m 3 f wr ∧ (∀ t, t < j → f t = .int .i64 (dg D.p a t : Nat)) ∧ Below w.heap.size w wr) (fun _ i _ => D.m - (intOf i).toNat)
  case atStart => exact ⟨0, a, fl, by omega, by omega, rfl, rfl, by simp [Hid], HS.out.1, fun t ht => by omega, HS.out.2⟩
  case round =>
    obtain ⟨j, y, f, hj, hy, rfl, rfl, HY, hrow, hf, hbel⟩ := hrel
    have hc1 : wr.cell? ⟨T, 1, none⟩ = some (.int .i64 D.p) := by rw [(bcell hbel).1 T 1 hT, HF.out.1.row.cell 1 (by omega), HF.out.1.tab.sum.c1]
    have HG : Hid (RowF w.heap.size D.m 3 f wr ∧ (∀ t, t < j → f t = .int .i64 (dg D.p a t : Nat)) ∧ Below w.heap.size w wr) := ⟨hrow, hf, hbel⟩
    clear hrow hf hbel
    by_cases hlt : j < D.m
    · have hcs := HG.out.1.cell j hlt
      have hfs := HG.out.1.free j
      have hne : ¬ T = w.heap.size := by omega
      have HN : Hid (y / D.p = a / D.p ^ (j + 1)) := by show _ = _; rw [HY.out, Nat.div_div_eq_div_mul, Nat.pow_succ]
      have HD2 : Hid (y % D.p = dg D.p a j) := by show _ = _; rw [HY.out]; rfl
      have hq1 : y / D.p ≤ y := Nat.div_le_self _ _
      go_wp2
      go_roundw
      case rel => exact ⟨j + 1, y / D.p, _, by omega, by omega, by rw [w_quo y D.p (by omega)], by go_num, HN.out, HG.out.1.store _ _, fun t ht => if e : t = j then by rw [e, upd_at, ← HD2.out]; rfl else (upd_ne _ _ _ e).trans (HG.out.2.1 t (by omega)), HG.out.2.2.setCell (by simp) _⟩
      case measure => simp [intOf]; omega
    · have HV : Hid (OwnI w.heap.size (.slice (some ⟨w.heap.size, 0, none⟩) D.m D.m) (digL D.p a D.m) wr) :=
        HG.out.1.own (digL_len _ _ _) (fun t ht => by rw [HG.out.2.1 t (by omega), digL_get _ _ _ _ ht]) (Nat.le_refl _) (by omega)
      go_wp2
      go_ret
      exact ⟨_, rfl, HV.out, HG.out.2.2⟩

theorem low_lt {D : FD} (hD : D ∈ fieldsL) : D.low < D.q := by
  have F := fld hD
  by_cases hm : D.m = 1
  · have := (F.least1 hm).2.2.2.1; have := F.q2; omega
  · exact (F.least2 hm).2.1

/-- 'append(l, y)', l the call's own, at a step of a region that draws its order. -/
theorem step_append_int {ops : Array Oper} {o : Oper} {a : Act} {w : World} {K : Act → World → Prop} {Q : Exit → Act → World → Prop} {E : Prop} (hgd : o.guard = none) (s x : Operand)
    (ho : o.op = .call { callee := .builtin .append, args := #[s, x], argTypes := #[26, 26] })
    (base : Nat) (v : Value) (l : List Int) (hs : a.eval s = v) (hown : OwnI base v l w) (ad : Addr) (c : Nat) (y : Int) (hx : a.eval x = .slice (some ad) 1 c) (hcell : w.cell? ad = some (.int .i64 y))
    (hlen : l.length ≤ 1000000) (hbase : base ≤ w.heap.size)
    (h : ∀ v' w', OwnI base v' (l ++ [y]) w' → w.grownBy w' v.ownBlock → K (a.put o.dst v') w') : if Region.wanted o (yielded ops a.tmps) = true then Oper.wp Try.prog o a w K Q else E := by
  have hw : Region.wanted o (yielded ops a.tmps) = true := by simp [Region.wanted, hgd]
  rw [if_pos hw]
  obtain ⟨i0, hi, hz0, hz1, hz2⟩ := info_parts Try.infoInt
  refine wp_append_own w s x 26 ho base 3 i0 (.int .i64 0) 1 8 Try.underlying26 hi hz0 hz1 hz2 rfl (by decide) v l.length _ hs hown ad 1 c [.int .i64 y] hx rfl ?_ ?_ ?_ ?_ hbase ?_
  · intro j u hj
    match j, hj with
    | 0, hj =>
      simp at hj; subst hj
      have : ad.add 0 = ad := by cases ad with | mk b o s => cases s <;> simp [Addr.add]
      rw [this]; exact hcell
  · intro u hu; simp at hu; subst hu; rfl
  · unfold maxLen; omega
  · omega
  · intro v' w' hown' hgrow _
    refine h v' w' ?_ hgrow
    unfold OwnI
    rw [List.map_append, List.length_append]
    exact hown'

theorem bel_up {B : Nat} {w W w1 : World} (h0 : Below B w W) (h : Below W.heap.size W w1) (hB : B ≤ w.heap.size := by exact Nat.le_refl _) : Below B w w1 := h0.trans (h.mono (Nat.le_trans hB h0.size))

set_option maxHeartbeats 4000000 in
set_option maxRecDepth 100000 in
theorem poly_any {F T : Nat} {D : FD} (hD : D ∈ fieldsL) {g : Nat → Value} {w : World} (h : FAt F T D g w) :
    Calls Try.prog 16 #[.pointer (some ⟨F, 0, none⟩)] w fun e w' => ∃ v, e = .returned v ∧ OwnI w.heap.size v D.modL w' ∧ Below w.heap.size w w' := by
  have hp := h.ptr
  have hc3 : w.cell? ⟨T, 3, none⟩ = some (.int .i64 D.low) := by rw [h.row.cell 3 (by omega), h.tab.c3]
  have hF := h.ltF
  have hT := h.ltT
  have hm6 := (fld hD).m6
  have hll := low_lt hD
  have h64 := (fld hD).q64
  have HF : Hid (FAt F T D g w ∧ D ∈ fieldsL) := ⟨h, hD⟩
  have hlen := digL_len D.p D.low D.m
  have nF := World.new_ne w _ hp
  have nT := World.new_ne w _ hc3
  clear h hD
  go_enter Try.func16, Try.ntmps16
  go_wp2
  go_region_held3 (fun w' => w'.cell? ⟨F, 0, none⟩ = some (.pointer (some ⟨T, 0, none⟩)) ∧ w'.cell? ⟨T, 3, none⟩ = some (.int .i64 (D.low : Nat)))
    (first | go_keep | exact ⟨(hB2.cell (p := ⟨F, 0, none⟩) hF).trans hp, (hB2.cell (p := ⟨T, 3, none⟩) hT).trans hc3⟩ | exact ⟨(hB1.cell (p := ⟨F, 0, none⟩) hF).trans hp, (hB1.cell (p := ⟨T, 3, none⟩) hT).trans hc3⟩)
    (first
      | (go_at_call 74; refine (tdigits_any HF.out.2 (HF.out.1.below (B := w.heap.size) (by first | exact (Below.refl _ _).drew | exact ((Below.refl _ _).alloc (Nat.le_refl _) _).drew) hF hT) D.low (by omega)).mono ?_; rintro e w1 ⟨v1, rfl, hown1, hb1⟩; have hB1 : Below w.heap.size w w1 := bel_up (by first | exact (Below.refl _ _).drew | exact ((Below.refl _ _).alloc (Nat.le_refl _) _).drew) hb1)
      | (refine step_append_int (by rfl) _ _ (by rfl) w.heap.size _ (digL D.p D.low D.m) (by rfl) (hown1.mono (by simp)) ⟨w.heap.size, 0, none⟩ 1 1 (by rfl) ((hb1.cell (p := ⟨w.heap.size, 0, none⟩) (by simp)).trans (by simp)) (by omega) (by have := hb1.size; simp at this; omega) ?_; intro v2 w2 hown2 hgrow2; have hB2 : Below w.heap.size w w2 := hB1.grown hgrow2 hB1.size (fun k hk => by have := (hown1.lt k hk).1; simp at this; omega))
      | (refine step_append_int (by rfl) _ _ (by rfl) w.heap.size _ (digL D.p D.low D.m) (by rfl) ((hown1.mono (by simp)).alloc _) ⟨w1.heap.size, 0, none⟩ 1 1 (by rfl) (by simp) (by omega) (by have := hb1.size; simp at this ⊢; omega) ?_; intro v2 w2 hown2 hgrow2; have hB2 : Below w.heap.size w w2 := (hB1.alloc hB1.size _).grown hgrow2 (by have := hB1.size; simp; omega) (fun k hk => by have := (hown1.lt k hk).1; simp at this; omega)))
  all_goals
    go_wp2
    go_ret
    exact ⟨_, rfl, hown2, hB2⟩
end Go.Proofs.Ythmjdcajaoilgaa

/- A field's calls, gone on: a field within another (holds, Within). -/
namespace Go.Proofs.Ythmjdcajaoilgaa
open Go.RowKit

/-! ### Plain mathematics -/
theorem pw_pw {D : FD} (hD : D ∈ fieldsL) (a x y : Nat) : D.pw (D.pw a x) y = D.pw a (x * y) := by
  have h := pw_ne hD a x
  unfold FD.pw at *
  rw [h.2, Nat.mul_mod, Nat.mod_mod, ← Nat.mul_mod, Nat.mul_assoc]
theorem pw_one {D : FD} (hD : D ∈ fieldsL) (a : Nat) (ha : a < D.q) (h0 : a ≠ 0) : D.pw a 1 = a := by
  have h := (fld hD).lg_is a ha h0
  unfold FD.pw
  rw [Nat.mul_one, Nat.mod_eq_of_lt h.1, h.2]
theorem pw_q {D : FD} (hD : D ∈ fieldsL) (a : Nat) (ha : a < D.q) (h0 : a ≠ 0) : D.pw a D.q = a := by
  have h := (fld hD).lg_is a ha h0
  have h2 := (fld hD).q2
  unfold FD.pw
  rw [show D.q = (D.q - 1) + 1 from by omega, Nat.mul_add, Nat.mul_one, show D.q - 1 + 1 - 1 = D.q - 1 from by omega, Nat.add_comm, Nat.add_mul_mod_self_right, Nat.mod_eq_of_lt h.1, h.2]
theorem frob_pw {D : FD} (hD : D ∈ fieldsL) (a : Nat) (ha : a < D.q) (h0 : a ≠ 0) : ∀ k, again D.frob1 k a = D.pw a (D.p ^ k)
  | 0 => by rw [Nat.pow_zero, pw_one hD a ha h0]; rfl
  | k + 1 => by
    show D.frob1 (again D.frob1 k a) = _
    rw [frob_pw hD a ha h0 k, FD.frob1, if_neg (pw_ne hD a _).1, pw_pw hD, Nat.pow_succ]
theorem frob_zero {D : FD} : ∀ k, again D.frob1 k 0 = 0
  | 0 => rfl
  | k + 1 => by show D.frob1 (again D.frob1 k 0) = 0; rw [frob_zero k, FD.frob1, if_pos rfl]
theorem powZ_size {D E : FD} (hD : D ∈ fieldsL) (hE : E ∈ fieldsL) (hp : E.p = D.p) (hm : D.m % E.m = 0) {a : Nat} (ha : a < D.q) : D.powZ a E.q = (again D.frob1 (E.m % D.m) a : Nat) := by
  have hq := (fld hE).q2
  have h1 := (fld hD).m1
  have h2 := (fld hE).m1
  rw [FD.powZ, if_neg (by simp [nat_has ha]), if_neg (by omega)]
  by_cases h0 : a = 0
  · rw [if_pos (by omega), if_neg (by omega), h0, frob_zero]; rfl
  · rw [if_neg (by omega), ← Int.natCast_emod, Int.toNat_natCast, Int.toNat_natCast]
    have e : D.pw a (E.q % (D.q - 1)) = D.pw a E.q := by unfold FD.pw; rw [Nat.mul_mod, Nat.mod_mod, ← Nat.mul_mod]
    rw [e, frob_pw hD a ha h0]
    have hle : E.m ≤ D.m := Nat.le_of_dvd (by omega) (Nat.dvd_of_mod_eq_zero hm)
    by_cases hmm : E.m = D.m
    · rw [hmm, Nat.mod_self, Nat.pow_zero, pw_one hD a ha h0, (fld hE).qp, hp, hmm, ← (fld hD).qp, pw_q hD a ha h0]
    · rw [Nat.mod_eq_of_lt (by omega), (fld hE).qp, hp]
theorem within_field {D E : FD} (hE : E ∈ fieldsL) : D.withinL E.q = if E.p = D.p ∧ D.m % E.m = 0 then D.stayTo E.m D.q else [] := by
  have hpp : pp E.q = (E.p, E.m) := beq_iff_eq.1 (List.all_eq_true.1 pp_fields E hE)
  have h2 := (fld hE).q2
  have h3 := (fld hE).q64
  have h4 := (fld hE).m1
  rw [FD.withinL, Int.toNat_natCast, hpp]
  by_cases h : E.p = D.p ∧ D.m % E.m = 0
  · rw [if_pos h, if_pos ⟨by omega, by omega, h.1, by show E.m ≠ 0; omega, h.2⟩]
  · rw [if_neg h, if_neg (fun k => h ⟨k.2.2.1, k.2.2.2.2⟩)]
theorem within_none {D : FD} {size : Int} (h : ∀ E ∈ fieldsL, (E.q : Int) ≠ size) : D.withinL size = [] := by
  rw [FD.withinL, if_neg]
  rintro ⟨h1, h2, _, h4, _⟩
  have h3 := no_field (q := size.toNat) (by omega) (fun E hE e => h E hE (by omega))
  rcases h3 with h3 | h3
  · omega
  · exact h4 h3

/-! ### Calls -/
set_option maxHeartbeats 2000000 in
theorem holds_any {F T F2 T2 : Nat} {D E : FD} (hE : E ∈ fieldsL) {g g2 : Nat → Value} {w : World} (h : FAt F T D g w) (k : FAt F2 T2 E g2 w) :
    Calls Try.prog 80 #[.pointer (some ⟨F, 0, none⟩), .pointer (some ⟨F2, 0, none⟩)] w fun e w' => e = .returned (.bool (decide (E.p = D.p ∧ D.m % E.m = 0))) ∧ ∃ n, w' = w.drewN n := by
  have hp := h.ptr
  have hp2 := k.ptr
  have a1 : w.cell? ⟨T, 1, none⟩ = some (.int .i64 D.p) := by rw [h.row.cell 1 (by omega), h.tab.sum.c1]
  have a2 : w.cell? ⟨T, 2, none⟩ = some (.int .i64 D.m) := by rw [h.row.cell 2 (by omega), h.tab.c2]
  have b1 : w.cell? ⟨T2, 1, none⟩ = some (.int .i64 E.p) := by rw [k.row.cell 1 (by omega), k.tab.sum.c1]
  have b2 : w.cell? ⟨T2, 2, none⟩ = some (.int .i64 E.m) := by rw [k.row.cell 2 (by omega), k.tab.c2]
  have m1 := (fld hE).m1
  clear h k hE
  by_cases hpp : E.p = D.p
  · have t1 : ((E.p : Int) == (D.p : Int)) = true := by rw [hpp]; simp
    have HV : Hid (decide (E.p = D.p ∧ D.m % E.m = 0) = ((D.m : Int) % (E.m : Int) == 0)) := by
      show _ = _
      rw [← Int.natCast_emod, Bool.eq_iff_iff, decide_eq_true_eq, beq_iff_eq]
      exact ⟨fun h => by rw [h.2]; rfl, fun h => ⟨hpp, by exact_mod_cast h⟩⟩
    clear hpp
    go_enter Try.func80, Try.ntmps80
    go_wp2
    go_quiet (fail)
    go_wp2
    go_ret
    exact ⟨ret_bool (by rw [HV.out]), _, rfl⟩
  · have t1 : ((E.p : Int) == (D.p : Int)) = false := by rw [beq_eq_false_iff_ne]; exact_mod_cast hpp
    have HV : Hid (decide (E.p = D.p ∧ D.m % E.m = 0) = false) := by
      show _ = _
      rw [decide_eq_false_iff_not]; exact fun h => hpp h.1
    clear hpp
    go_enter Try.func80, Try.ntmps80
    go_wp2
    go_quiet (fail)
    go_wp2
    go_ret
    exact ⟨ret_bool (by rw [HV.out]), _, rfl⟩

set_option maxHeartbeats 4000000 in
set_option maxRecDepth 100000 in
theorem within_any {F T : Nat} {D : FD} (hD : D ∈ fieldsL) {g : Nat → Value} {w : World} (h : FAt F T D g w) (size : Int) :
    Calls Try.prog 39 #[.pointer (some ⟨F, 0, none⟩), .int .i64 size] w fun e w' => ∃ v, e = .returned v ∧ OwnI w.heap.size v (D.withinL size) w' ∧ Below w.heap.size w w' := by
  have HF : Hid (FAt F T D g w ∧ D ∈ fieldsL) := ⟨h, hD⟩
  have hF := h.ltF
  have hT := h.ltT
  have h64 := (fld hD).q64
  clear h hD
  by_cases hex : ∃ E ∈ fieldsL, (E.q : Int) = size
  · obtain ⟨E, hE, rfl⟩ := hex
    have hq64 := (fld hE).q64
    have HE : Hid (E ∈ fieldsL) := hE
    clear hE
    go_enter Try.func39, Try.ntmps39
    go_wp2_with fail
    refine (new_any HE.out w).mono ?_
    rintro e w1 ⟨F2, T2, g2, rfl, hat, hF2, hT2, hb1⟩
    have HA : Hid (FAt F2 T2 E g2 w1 ∧ FAt F T D g w1 ∧ Below w.heap.size w w1) := ⟨hat, HF.out.1.below hb1 hF hT, hb1⟩
    have hsz := hb1.size
    clear hat hb1
    by_cases hok : E.p = D.p ∧ D.m % E.m = 0
    · have HV : Hid (D.withinL E.q = D.stayTo E.m D.q) := by show _ = _; rw [within_field HE.out, if_pos hok]
      have HP : Hid (E.p = D.p ∧ D.m % E.m = 0) := hok
      have hd : decide (E.p = D.p ∧ D.m % E.m = 0) = true := decide_eq_true hok
      clear hok
      go_wp2_with fail
      refine (holds_any HE.out HA.out.2.1 HA.out.1).mono ?_
      rintro e w' ⟨rfl, n, rfl⟩
      rw [hd]
      have hp := HA.out.2.1.ptr
      have hc0 : w1.cell? ⟨T, 0, none⟩ = some (.int .i64 D.q) := by rw [HA.out.2.1.row.cell 0 (by omega), HA.out.2.1.tab.sum.c0]
      go_wp2
      go_loopw [7, 29] (fun vl i wr => ∃ a : Nat, a ≤ D.q ∧ i = .int .i64 a ∧ OwnI w1.heap.size vl (D.stayTo E.m a) wr ∧ Below w1.heap.size w1 wr) (fun _ i _ => D.q - (intOf i).toNat)
      case atStart => exact ⟨0, by omega, rfl, OwnI.nil _ _, below_drewN2 (Below.refl _ _) _⟩
      case round =>
        clear hp hc0
        obtain ⟨a, ha, rfl, hown, hbel⟩ := hrel
        have HG : Hid (OwnI w1.heap.size u7 (D.stayTo E.m a) wr ∧ Below w1.heap.size w1 wr) := ⟨hown, hbel⟩
        have hsz1 := hbel.size
        clear hown hbel
        have hlen := stayTo_len D E.m a
        by_cases hla : a < D.q
        · obtain ⟨y, hy⟩ : ∃ y, y = again D.frob1 (E.m % D.m) a := ⟨_, rfl⟩
          have HC : Hid (Calls Try.prog 29 #[.pointer (some ⟨F, 0, none⟩), .int .i64 a, .int .i64 E.q] wr fun e w' => e = .returned (.int .i64 (y : Nat)) ∧ ∃ n, w' = wr.drewN n) := by
            have h := pow_any HF.out.2 (HA.out.2.1.below HG.out.2 HA.out.2.1.ltF HA.out.2.1.ltT) a E.q (by omega) (by omega)
            rw [powZ_size HF.out.2 HE.out HP.out.1 HP.out.2 hla, ← hy] at h
            exact h
          by_cases he : y = a
          · have hbe : ((y : Int) == (a : Int)) = true := beq_iff_eq.2 (by rw [he])
            have HL : Hid (D.stayTo E.m (a + 1) = D.stayTo E.m a ++ [(a : Int)]) := stayTo_yes (by rw [← hy, he])
            clear he hy
            go_wp2_with fail
            refine HC.out.mono ?_
            rintro e w2 ⟨rfl, n2, hw2⟩
            have HG2 : Hid (OwnI w1.heap.size u7 (D.stayTo E.m a) w2 ∧ Below w1.heap.size w1 w2 ∧ w1.heap.size ≤ w2.heap.size) := by
              rw [hw2]; exact ⟨HG.out.1.drewN _, below_drewN2 HG.out.2 _, hsz1⟩
            clear HC hw2
            go_wp2_with (at_builtin; refine append_int rfl _ _ rfl w1.heap.size _ (D.stayTo E.m a) rfl (HG2.out.1.alloc _) ⟨_, 0, none⟩ 1 a rfl (by simp) (by omega) (by have := HG2.out.2.2; simp; omega) ?_; intro v2 w3 hown3 hgrow3)
            have hb3 : Below w1.heap.size w1 w3 := (HG2.out.2.1.alloc HG2.out.2.2 _).grown hgrow3 (by have := HG2.out.2.2; simp; omega) (fun k hk => (HG2.out.1.lt k hk).1)
            go_roundw
            case rel => exact ⟨a + 1, by omega, by go_num, by rw [HL.out]; exact hown3, hb3⟩
            case measure => simp [intOf]; omega
          · have hbe : ((y : Int) == (a : Int)) = false := beq_eq_false_iff_ne.2 (by omega)
            have HL : Hid (D.stayTo E.m (a + 1) = D.stayTo E.m a) := stayTo_no (by rw [← hy]; exact he)
            clear he hy
            go_wp2_with fail
            refine HC.out.mono ?_
            rintro e w' ⟨rfl, n2, rfl⟩
            clear HC
            go_wp2
            go_roundw
            case rel => exact ⟨a + 1, by omega, by go_num, by rw [HL.out]; exact HG.out.1.drewN _, below_drewN2 HG.out.2 _⟩
            case measure => simp [intOf]; omega
        · have HZ : Hid (D.withinL E.q = D.stayTo E.m a) := by show _ = _; rw [HV.out, show a = D.q from by omega]
          go_wp2
          go_ret
          exact ⟨_, rfl, by rw [HZ.out]; exact HG.out.1.mono hsz, HA.out.2.2.trans (HG.out.2.mono hsz)⟩
    · have HV : Hid (D.withinL E.q = []) := by show _ = _; rw [within_field HE.out, if_neg hok]
      have hd : decide (E.p = D.p ∧ D.m % E.m = 0) = false := decide_eq_false hok
      clear hok
      go_wp2_with fail
      refine (holds_any HE.out HA.out.2.1 HA.out.1).mono ?_
      rintro e w' ⟨rfl, n, rfl⟩
      rw [hd]
      go_wp2
      go_ret
      exact ⟨_, rfl, by rw [HV.out]; exact OwnI.nil _ _, below_drewN2 HA.out.2.2 _⟩
  · have HN : Hid (∀ E ∈ fieldsL, (E.q : Int) ≠ size) := fun E hE e => hex ⟨E, hE, e⟩
    have HV : Hid (D.withinL size = []) := within_none HN.out
    clear hex
    go_enter Try.func39, Try.ntmps39
    go_wp2_with fail
    refine (new_none size w HN.out).mono ?_
    rintro e w' ⟨rfl, hw⟩
    have hw := hw.symm
    subst hw
    go_wp2
    go_ret
    exact ⟨_, rfl, by rw [HV.out]; exact OwnI.nil _ _, Below.refl _ _⟩
end Go.Proofs.Ythmjdcajaoilgaa
