/- The reference: the elements of a smaller field within one (Within). -/
import Derived.Test.YtmnkablobhdbjaaZR13
namespace Go.Proofs.Ytmnkablobhdbjaa
open Go.RowKit

/-- Of the first k elements those that stay under Frobenius, so many times. -/
def FD.stayTo (D : FD) (m k : Nat) : List Int := ((List.range k).filter fun a => again D.frob1 (m % D.m) a == a).map Int.ofNat
theorem stayTo_yes {D : FD} {m k : Nat} (h : again D.frob1 (m % D.m) k = k) : D.stayTo m (k + 1) = D.stayTo m k ++ [(k : Int)] := by
  unfold FD.stayTo; rw [List.range_succ, List.filter_append, List.map_append]; simp [h]
theorem stayTo_no {D : FD} {m k : Nat} (h : ¬ again D.frob1 (m % D.m) k = k) : D.stayTo m (k + 1) = D.stayTo m k := by
  unfold FD.stayTo; rw [List.range_succ, List.filter_append, List.map_append]; simp [h]
theorem stayTo_len (D : FD) (m k : Nat) : (D.stayTo m k).length ≤ k := by
  unfold FD.stayTo; rw [List.length_map]; exact Nat.le_trans (List.length_filter_le _ _) (by simp)

/-- The elements of the field of so many within this one. -/
def FD.withinL (D : FD) (size : Int) : List Int := if 2 ≤ size ∧ size ≤ 64 ∧ (pp size.toNat).1 = D.p ∧ (pp size.toNat).2 ≠ 0 ∧ D.m % (pp size.toNat).2 = 0 then D.stayTo (pp size.toNat).2 D.q else []

theorem pp_bd : (allB 65 fun q => decide ((pp q).2 ≤ 6) || decide (q < 2)) = true := by decide +kernel

set_option maxHeartbeats 4000000 in
theorem rwithin_any {D : FD} (hD : D ∈ fieldsL) (gen : Nat) {v : Value} (size : Int) {w : World} (hM : ModAt D v D.md w) :
    Calls Try.prog 40 #[rf D.q D.p D.m gen v, .int .i64 size] w fun e w' => ∃ v', e = .returned v' ∧ OwnI w.heap.size v' (D.withinL size) w' ∧ Below w.heap.size w w' := by
  have F := fld hD
  have h64 := F.q64
  have h2 := F.q2
  have hp2 := F.p2
  have hm1 := F.m1
  have HM : Hid (ModAt D v D.md w ∧ D ∈ fieldsL ∧ Fld D) := ⟨hM, hD, F⟩
  clear hM hD F
  have HB0 : Hid (Box w.heap.size D gen v (w.alloc (.cells #[.int .i64 D.q, .int .i64 D.p, .int .i64 D.m, .int .i64 gen, v] 28))) := box_new D gen v w
  by_cases hs2 : size < 2
  · have HV : Hid (D.withinL size = []) := by show _ = _; rw [FD.withinL, if_neg (by omega)]
    unfold rf
    go_enter Try.func40, Try.ntmps40
    go_wp2
    go_ret
    exact ⟨_, rfl, by rw [HV.out]; exact OwnI.nil _ _, (Below.refl _ _).alloc (Nat.le_refl _) _⟩
  by_cases hs64 : 64 < size
  · have HV : Hid (D.withinL size = []) := by show _ = _; rw [FD.withinL, if_neg (by omega)]
    unfold rf
    go_enter Try.func40, Try.ntmps40
    go_wp2
    go_ret
    exact ⟨_, rfl, by rw [HV.out]; exact OwnI.nil _ _, (Below.refl _ _).alloc (Nat.le_refl _) _⟩
  obtain ⟨n, rfl⟩ := Int.eq_ofNat_of_zero_le (show 0 ≤ size from by omega)
  obtain ⟨p', hp'⟩ : ∃ p', p' = (pp n).1 := ⟨_, rfl⟩
  obtain ⟨m', hm'⟩ : ∃ m', m' = (pp n).2 := ⟨_, rfl⟩
  have hmb : m' ≤ 6 := by
    have := allB_of pp_bd n (by omega)
    simp only [Bool.or_eq_true, decide_eq_true_eq] at this
    omega
  have HP : Hid (∀ w0, Calls Try.prog 65 #[.int .i64 n] w0 fun e w' => e = .returned (.tuple #[.int .i64 p', .int .i64 m']) ∧ w' = w0) := by
    intro w0; rw [hp', hm']; exact prime_any n w0 (by omega) (by omega)
  by_cases hok : p' = D.p ∧ m' ≠ 0 ∧ D.m % m' = 0
  · obtain ⟨k1, k2, k3⟩ := hok
    have HV : Hid (D.withinL n = D.stayTo m' D.q) := by
      show _ = _
      rw [FD.withinL, Int.toNat_natCast, ← hp', ← hm', if_pos ⟨by omega, by omega, k1, k2, k3⟩]
    have t1 : ((p' : Int) != (D.p : Int)) = false := by rw [k1]; simp
    have t2 : ((m' : Int) == 0) = false := by rw [beq_eq_false_iff_ne]; omega
    have t3 : ((D.m : Int) % (m' : Int) != 0) = false := by rw [← Int.natCast_emod, k3]; rfl
    have t4 : 1 ≤ m' := by omega
    clear k1 k2 k3 hp' hm'
    unfold rf
    go_enter Try.func40, Try.ntmps40
    go_wp2_with fail
    refine (HP.out _).mono ?_
    rintro e w' ⟨rfl, rfl⟩
    go_wp2
    go_loopw [7, 8] (fun vl i wr => ∃ a : Nat, a ≤ D.q ∧ i = .int .i64 a ∧ OwnI (w.heap.size + 1) vl (D.stayTo m' a) wr ∧ Box w.heap.size D gen v wr ∧ Below w.heap.size w wr ∧ w.heap.size < wr.heap.size) (fun _ i _ => D.q - (intOf i).toNat)
    case atStart => exact ⟨0, by omega, rfl, OwnI.nil _ _, HB0.out, (Below.refl _ _).alloc (Nat.le_refl _) _, by simp⟩
    case round =>
      obtain ⟨a, ha, rfl, hown, hbox, hbel, hlt⟩ := hrel
      obtain ⟨c0, c1, c2, c3, c4⟩ := hbox
      have HG : Hid (Box w.heap.size D gen v wr ∧ Below w.heap.size w wr) := ⟨⟨c0, c1, c2, c3, c4⟩, hbel⟩
      have HO : Hid (OwnI (w.heap.size + 1) u7 (D.stayTo m' a) wr) := hown
      clear hbel hown
      have hlen := stayTo_len D m' a
      by_cases hla : a < D.q
      · obtain ⟨y, hy⟩ : ∃ y, y = again D.frob1 (m' % D.m) a := ⟨_, rfl⟩
        have HC : Hid (Calls Try.prog 34 #[.agg #[.int .i64 D.q, .int .i64 D.p, .int .i64 D.m, .int .i64 gen, v], .int .i64 a, .int .i64 m'] wr fun e w' => e = .returned (.int .i64 (y : Nat)) ∧ Below wr.heap.size wr w') := by
          have h := rfrob_any HM.out.2.1 gen a m' (HM.out.1.below HG.out.2)
          rw [FD.frobZ, if_pos (nat_has hla), ← Int.natCast_emod, Int.toNat_natCast, Int.toNat_natCast, ← hy] at h
          exact h
        by_cases he : y = a
        · have hbe : ((y : Int) == (a : Int)) = true := beq_iff_eq.2 (by rw [he])
          have HL : Hid (D.stayTo m' (a + 1) = D.stayTo m' a ++ [(a : Int)]) := stayTo_yes (by rw [← hy, he])
          clear he hy
          go_wp2_with fail
          refine HC.out.mono ?_
          rintro e w2 ⟨rfl, hb2⟩
          have HR : Hid (OwnI (w.heap.size + 1) u7 (D.stayTo m' a) w2 ∧ Box w.heap.size D gen v w2 ∧ Below w.heap.size w w2) := ⟨HO.out.below hb2 (fun k hk => (HO.out.lt k hk).2), HG.out.1.below hb2 hlt, HG.out.2.trans (hb2.mono (by omega))⟩
          have hlt2 : w.heap.size < w2.heap.size := by have := hb2.size; omega
          clear hb2 c0 c1 c2 c3 c4 HC
          go_wp2_with (at_builtin; refine append_int rfl _ _ rfl (w.heap.size + 1) _ (D.stayTo m' a) rfl (HR.out.1.alloc _) ⟨_, 0, none⟩ 1 a rfl (by simp) (by omega) (by simp; omega) ?_; intro v2 w3 hown3 hgrow3)
          have hb3 : Below (w.heap.size + 1) w2 w3 := ((Below.refl (w.heap.size + 1) w2).alloc (by omega) _).grown hgrow3 (by simp; omega) (fun k hk => (HR.out.1.lt k hk).1)
          go_roundw
          case rel => exact ⟨a + 1, by omega, by go_num, by rw [HL.out]; exact hown3, HR.out.2.1.below hb3 (by omega), HR.out.2.2.trans (hb3.mono (by omega)), by have := hb3.size; omega⟩
          case measure => simp [intOf]; omega
        · have hbe : ((y : Int) == (a : Int)) = false := beq_eq_false_iff_ne.2 (by omega)
          have HL : Hid (D.stayTo m' (a + 1) = D.stayTo m' a) := stayTo_no (by rw [← hy]; exact he)
          clear he hy
          go_wp2_with fail
          refine HC.out.mono ?_
          rintro e w2 ⟨rfl, hb2⟩
          have HR : Hid (OwnI (w.heap.size + 1) u7 (D.stayTo m' a) w2 ∧ Box w.heap.size D gen v w2 ∧ Below w.heap.size w w2 ∧ w.heap.size < w2.heap.size) := ⟨HO.out.below hb2 (fun k hk => (HO.out.lt k hk).2), HG.out.1.below hb2 hlt, HG.out.2.trans (hb2.mono (by omega)), by have := hb2.size; omega⟩
          clear hb2 c0 c1 c2 c3 c4 HC
          go_wp2
          go_roundw
          case rel => exact ⟨a + 1, by omega, by go_num, by rw [HL.out]; exact HR.out.1, HR.out.2⟩
          case measure => simp [intOf]; omega
      · have HE : Hid (D.withinL n = D.stayTo m' a) := by show _ = _; rw [HV.out, show a = D.q from by omega]
        go_wp2
        go_ret
        exact ⟨_, rfl, by rw [HE.out]; exact HO.out.mono (by omega), HG.out.2⟩
  · have HV : Hid (D.withinL n = []) := by
      show _ = _
      rw [FD.withinL, Int.toNat_natCast, ← hp', ← hm', if_neg (fun h => hok h.2.2)]
    by_cases k1 : p' = D.p
    · have t1 : ((p' : Int) != (D.p : Int)) = false := by rw [k1]; simp
      by_cases k2 : m' = 0
      · have t2 : ((m' : Int) == 0) = true := by rw [k2]; rfl
        clear k1 k2 hp' hm' hok
        unfold rf
        go_enter Try.func40, Try.ntmps40
        go_wp2_with fail
        refine (HP.out _).mono ?_
        rintro e w' ⟨rfl, rfl⟩
        go_wp2
        go_ret
        exact ⟨_, rfl, by rw [HV.out]; exact OwnI.nil _ _, (Below.refl _ _).alloc (Nat.le_refl _) _⟩
      · have t2 : ((m' : Int) == 0) = false := by rw [beq_eq_false_iff_ne]; omega
        have t3 : ((D.m : Int) % (m' : Int) != 0) = true := by
          rw [← Int.natCast_emod, bne_iff_ne]
          intro h; exact hok ⟨k1, k2, by exact_mod_cast h⟩
        have t4 : 1 ≤ m' := by omega
        clear k1 k2 hp' hm' hok
        unfold rf
        go_enter Try.func40, Try.ntmps40
        go_wp2_with fail
        refine (HP.out _).mono ?_
        rintro e w' ⟨rfl, rfl⟩
        go_wp2
        go_ret
        exact ⟨_, rfl, by rw [HV.out]; exact OwnI.nil _ _, (Below.refl _ _).alloc (Nat.le_refl _) _⟩
    · have t1 : ((p' : Int) != (D.p : Int)) = true := by rw [bne_iff_ne]; exact_mod_cast k1
      clear k1 hp' hm' hok
      unfold rf
      go_enter Try.func40, Try.ntmps40
      go_wp2_with fail
      refine (HP.out _).mono ?_
      rintro e w' ⟨rfl, rfl⟩
      go_wp2
      go_ret
      exact ⟨_, rfl, by rw [HV.out]; exact OwnI.nil _ _, (Below.refl _ _).alloc (Nat.le_refl _) _⟩
end Go.Proofs.Ytmnkablobhdbjaa
