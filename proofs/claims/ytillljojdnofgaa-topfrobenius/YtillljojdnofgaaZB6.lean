/- A field's calls, gone on: a field within another (holds, Within). -/
import Derived.Test.YtillljojdnofgaaZB5
namespace Go.Proofs.Ytillljojdnofgaa
open Go.RowKit

/-! ### Plain mathematics -/
theorem pw_pw {D : FD} (hD : D ∈ fieldsL) (a x y : Nat) : D.pw (D.pw a x) y = D.pw a (x * y) := by
  have h := pw_ne hD a x
  unfold FD.pw at *
  rw [h.2, Nat.mul_mod, Nat.mod_mod, ← Nat.mul_mod, Nat.mul_assoc]
theorem pw_one {D : FD} (hD : D ∈ fieldsL) (a : Nat) (ha : a < D.q) (h0 : a ≠ 0) : D.pw a 1 = a := by
  have h := (fld hD).lg_is a ha h0
  unfold FD.pw
  rw [Nat.mul_one, Nat.mod_eq_of_lt h.1, h.2]
theorem pw_q {D : FD} (hD : D ∈ fieldsL) (a : Nat) (ha : a < D.q) (h0 : a ≠ 0) : D.pw a D.q = a := by
  have h := (fld hD).lg_is a ha h0
  have h2 := (fld hD).q2
  unfold FD.pw
  rw [show D.q = (D.q - 1) + 1 from by omega, Nat.mul_add, Nat.mul_one, show D.q - 1 + 1 - 1 = D.q - 1 from by omega, Nat.add_comm, Nat.add_mul_mod_self_right, Nat.mod_eq_of_lt h.1, h.2]
theorem frob_pw {D : FD} (hD : D ∈ fieldsL) (a : Nat) (ha : a < D.q) (h0 : a ≠ 0) : ∀ k, again D.frob1 k a = D.pw a (D.p ^ k)
  | 0 => by rw [Nat.pow_zero, pw_one hD a ha h0]; rfl
  | k + 1 => by
    show D.frob1 (again D.frob1 k a) = _
    rw [frob_pw hD a ha h0 k, FD.frob1, if_neg (pw_ne hD a _).1, pw_pw hD, Nat.pow_succ]
theorem frob_zero {D : FD} : ∀ k, again D.frob1 k 0 = 0
  | 0 => rfl
  | k + 1 => by show D.frob1 (again D.frob1 k 0) = 0; rw [frob_zero k, FD.frob1, if_pos rfl]
theorem powZ_size {D E : FD} (hD : D ∈ fieldsL) (hE : E ∈ fieldsL) (hp : E.p = D.p) (hm : D.m % E.m = 0) {a : Nat} (ha : a < D.q) : D.powZ a E.q = (again D.frob1 (E.m % D.m) a : Nat) := by
  have hq := (fld hE).q2
  have h1 := (fld hD).m1
  have h2 := (fld hE).m1
  rw [FD.powZ, if_neg (by simp [nat_has ha]), if_neg (by omega)]
  by_cases h0 : a = 0
  · rw [if_pos (by omega), if_neg (by omega), h0, frob_zero]; rfl
  · rw [if_neg (by omega), ← Int.natCast_emod, Int.toNat_natCast, Int.toNat_natCast]
    have e : D.pw a (E.q % (D.q - 1)) = D.pw a E.q := by unfold FD.pw; rw [Nat.mul_mod, Nat.mod_mod, ← Nat.mul_mod]
    rw [e, frob_pw hD a ha h0]
    have hle : E.m ≤ D.m := Nat.le_of_dvd (by omega) (Nat.dvd_of_mod_eq_zero hm)
    by_cases hmm : E.m = D.m
    · rw [hmm, Nat.mod_self, Nat.pow_zero, pw_one hD a ha h0, (fld hE).qp, hp, hmm, ← (fld hD).qp, pw_q hD a ha h0]
    · rw [Nat.mod_eq_of_lt (by omega), (fld hE).qp, hp]
theorem within_field {D E : FD} (hE : E ∈ fieldsL) : D.withinL E.q = if E.p = D.p ∧ D.m % E.m = 0 then D.stayTo E.m D.q else [] := by
  have hpp : pp E.q = (E.p, E.m) := beq_iff_eq.1 (List.all_eq_true.1 pp_fields E hE)
  have h2 := (fld hE).q2
  have h3 := (fld hE).q64
  have h4 := (fld hE).m1
  rw [FD.withinL, Int.toNat_natCast, hpp]
  by_cases h : E.p = D.p ∧ D.m % E.m = 0
  · rw [if_pos h, if_pos ⟨by omega, by omega, h.1, by show E.m ≠ 0; omega, h.2⟩]
  · rw [if_neg h, if_neg (fun k => h ⟨k.2.2.1, k.2.2.2.2⟩)]
theorem within_none {D : FD} {size : Int} (h : ∀ E ∈ fieldsL, (E.q : Int) ≠ size) : D.withinL size = [] := by
  rw [FD.withinL, if_neg]
  rintro ⟨h1, h2, _, h4, _⟩
  have h3 := no_field (q := size.toNat) (by omega) (fun E hE e => h E hE (by omega))
  rcases h3 with h3 | h3
  · omega
  · exact h4 h3

/-! ### Calls -/
set_option maxHeartbeats 2000000 in
theorem holds_any {F T F2 T2 : Nat} {D E : FD} (hE : E ∈ fieldsL) {g g2 : Nat → Value} {w : World} (h : FAt F T D g w) (k : FAt F2 T2 E g2 w) :
    Calls Try.prog 66 #[.pointer (some ⟨F, 0, none⟩), .pointer (some ⟨F2, 0, none⟩)] w fun e w' => e = .returned (.bool (decide (E.p = D.p ∧ D.m % E.m = 0))) ∧ ∃ n, w' = w.drewN n := by
  have hp := h.ptr
  have hp2 := k.ptr
  have a1 : w.cell? ⟨T, 1, none⟩ = some (.int .i64 D.p) := by rw [h.row.cell 1 (by omega), h.tab.sum.c1]
  have a2 : w.cell? ⟨T, 2, none⟩ = some (.int .i64 D.m) := by rw [h.row.cell 2 (by omega), h.tab.c2]
  have b1 : w.cell? ⟨T2, 1, none⟩ = some (.int .i64 E.p) := by rw [k.row.cell 1 (by omega), k.tab.sum.c1]
  have b2 : w.cell? ⟨T2, 2, none⟩ = some (.int .i64 E.m) := by rw [k.row.cell 2 (by omega), k.tab.c2]
  have m1 := (fld hE).m1
  clear h k hE
  by_cases hpp : E.p = D.p
  · have t1 : ((E.p : Int) == (D.p : Int)) = true := by rw [hpp]; simp
    have HV : Hid (decide (E.p = D.p ∧ D.m % E.m = 0) = ((D.m : Int) % (E.m : Int) == 0)) := by
      show _ = _
      rw [← Int.natCast_emod, Bool.eq_iff_iff, decide_eq_true_eq, beq_iff_eq]
      exact ⟨fun h => by rw [h.2]; rfl, fun h => ⟨hpp, by exact_mod_cast h⟩⟩
    clear hpp
    go_enter Try.func66, Try.ntmps66
    go_wp2
    go_quiet (fail)
    go_wp2
    go_ret
    exact ⟨ret_bool (by rw [HV.out]), _, rfl⟩
  · have t1 : ((E.p : Int) == (D.p : Int)) = false := by rw [beq_eq_false_iff_ne]; exact_mod_cast hpp
    have HV : Hid (decide (E.p = D.p ∧ D.m % E.m = 0) = false) := by
      show _ = _
      rw [decide_eq_false_iff_not]; exact fun h => hpp h.1
    clear hpp
    go_enter Try.func66, Try.ntmps66
    go_wp2
    go_quiet (fail)
    go_wp2
    go_ret
    exact ⟨ret_bool (by rw [HV.out]), _, rfl⟩

set_option maxHeartbeats 4000000 in
set_option maxRecDepth 100000 in
theorem within_any {F T : Nat} {D : FD} (hD : D ∈ fieldsL) {g : Nat → Value} {w : World} (h : FAt F T D g w) (size : Int) :
    Calls Try.prog 35 #[.pointer (some ⟨F, 0, none⟩), .int .i64 size] w fun e w' => ∃ v, e = .returned v ∧ OwnI w.heap.size v (D.withinL size) w' ∧ Below w.heap.size w w' := by
  have HF : Hid (FAt F T D g w ∧ D ∈ fieldsL) := ⟨h, hD⟩
  have hF := h.ltF
  have hT := h.ltT
  have h64 := (fld hD).q64
  clear h hD
  by_cases hex : ∃ E ∈ fieldsL, (E.q : Int) = size
  · obtain ⟨E, hE, rfl⟩ := hex
    have hq64 := (fld hE).q64
    have HE : Hid (E ∈ fieldsL) := hE
    clear hE
    go_enter Try.func35, Try.ntmps35
    go_wp2_with fail
    refine (new_any HE.out w).mono ?_
    rintro e w1 ⟨F2, T2, g2, rfl, hat, hF2, hT2, hb1⟩
    have HA : Hid (FAt F2 T2 E g2 w1 ∧ FAt F T D g w1 ∧ Below w.heap.size w w1) := ⟨hat, HF.out.1.below hb1 hF hT, hb1⟩
    have hsz := hb1.size
    clear hat hb1
    by_cases hok : E.p = D.p ∧ D.m % E.m = 0
    · have HV : Hid (D.withinL E.q = D.stayTo E.m D.q) := by show _ = _; rw [within_field HE.out, if_pos hok]
      have HP : Hid (E.p = D.p ∧ D.m % E.m = 0) := hok
      have hd : decide (E.p = D.p ∧ D.m % E.m = 0) = true := decide_eq_true hok
      clear hok
      go_wp2_with fail
      refine (holds_any HE.out HA.out.2.1 HA.out.1).mono ?_
      rintro e w' ⟨rfl, n, rfl⟩
      rw [hd]
      have hp := HA.out.2.1.ptr
      have hc0 : w1.cell? ⟨T, 0, none⟩ = some (.int .i64 D.q) := by rw [HA.out.2.1.row.cell 0 (by omega), HA.out.2.1.tab.sum.c0]
      go_wp2
      go_loopw [7, 29] (fun vl i wr => ∃ a : Nat, a ≤ D.q ∧ i = .int .i64 a ∧ OwnI w1.heap.size vl (D.stayTo E.m a) wr ∧ Below w1.heap.size w1 wr) (fun _ i _ => D.q - (intOf i).toNat)
      case atStart => exact ⟨0, by omega, rfl, OwnI.nil _ _, below_drewN2 (Below.refl _ _) _⟩
      case round =>
        clear hp hc0
        obtain ⟨a, ha, rfl, hown, hbel⟩ := hrel
        have HG : Hid (OwnI w1.heap.size u7 (D.stayTo E.m a) wr ∧ Below w1.heap.size w1 wr) := ⟨hown, hbel⟩
        have hsz1 := hbel.size
        clear hown hbel
        have hlen := stayTo_len D E.m a
        by_cases hla : a < D.q
        · obtain ⟨y, hy⟩ : ∃ y, y = again D.frob1 (E.m % D.m) a := ⟨_, rfl⟩
          have HC : Hid (Calls Try.prog 28 #[.pointer (some ⟨F, 0, none⟩), .int .i64 a, .int .i64 E.q] wr fun e w' => e = .returned (.int .i64 (y : Nat)) ∧ ∃ n, w' = wr.drewN n) := by
            have h := pow_any HF.out.2 (HA.out.2.1.below HG.out.2 HA.out.2.1.ltF HA.out.2.1.ltT) a E.q (by omega) (by omega)
            rw [powZ_size HF.out.2 HE.out HP.out.1 HP.out.2 hla, ← hy] at h
            exact h
          by_cases he : y = a
          · have hbe : ((y : Int) == (a : Int)) = true := beq_iff_eq.2 (by rw [he])
            have HL : Hid (D.stayTo E.m (a + 1) = D.stayTo E.m a ++ [(a : Int)]) := stayTo_yes (by rw [← hy, he])
            clear he hy
            go_wp2_with fail
            refine HC.out.mono ?_
            rintro e w2 ⟨rfl, n2, hw2⟩
            have HG2 : Hid (OwnI w1.heap.size u7 (D.stayTo E.m a) w2 ∧ Below w1.heap.size w1 w2 ∧ w1.heap.size ≤ w2.heap.size) := by
              rw [hw2]; exact ⟨HG.out.1.drewN _, below_drewN2 HG.out.2 _, hsz1⟩
            clear HC hw2
            go_wp2_with (at_builtin; refine append_int rfl _ _ rfl w1.heap.size _ (D.stayTo E.m a) rfl (HG2.out.1.alloc _) ⟨_, 0, none⟩ 1 a rfl (by simp) (by omega) (by have := HG2.out.2.2; simp; omega) ?_; intro v2 w3 hown3 hgrow3)
            have hb3 : Below w1.heap.size w1 w3 := (HG2.out.2.1.alloc HG2.out.2.2 _).grown hgrow3 (by have := HG2.out.2.2; simp; omega) (fun k hk => (HG2.out.1.lt k hk).1)
            go_roundw
            case rel => exact ⟨a + 1, by omega, by go_num, by rw [HL.out]; exact hown3, hb3⟩
            case measure => simp [intOf]; omega
          · have hbe : ((y : Int) == (a : Int)) = false := beq_eq_false_iff_ne.2 (by omega)
            have HL : Hid (D.stayTo E.m (a + 1) = D.stayTo E.m a) := stayTo_no (by rw [← hy]; exact he)
            clear he hy
            go_wp2_with fail
            refine HC.out.mono ?_
            rintro e w' ⟨rfl, n2, rfl⟩
            clear HC
            go_wp2
            go_roundw
            case rel => exact ⟨a + 1, by omega, by go_num, by rw [HL.out]; exact HG.out.1.drewN _, below_drewN2 HG.out.2 _⟩
            case measure => simp [intOf]; omega
        · have HZ : Hid (D.withinL E.q = D.stayTo E.m a) := by show _ = _; rw [HV.out, show a = D.q from by omega]
          go_wp2
          go_ret
          exact ⟨_, rfl, by rw [HZ.out]; exact HG.out.1.mono hsz, HA.out.2.2.trans (HG.out.2.mono hsz)⟩
    · have HV : Hid (D.withinL E.q = []) := by show _ = _; rw [within_field HE.out, if_neg hok]
      have hd : decide (E.p = D.p ∧ D.m % E.m = 0) = false := decide_eq_false hok
      clear hok
      go_wp2_with fail
      refine (holds_any HE.out HA.out.2.1 HA.out.1).mono ?_
      rintro e w' ⟨rfl, n, rfl⟩
      rw [hd]
      go_wp2
      go_ret
      exact ⟨_, rfl, by rw [HV.out]; exact OwnI.nil _ _, below_drewN2 HA.out.2.2 _⟩
  · have HN : Hid (∀ E ∈ fieldsL, (E.q : Int) ≠ size) := fun E hE e => hex ⟨E, hE, e⟩
    have HV : Hid (D.withinL size = []) := within_none HN.out
    clear hex
    go_enter Try.func35, Try.ntmps35
    go_wp2_with fail
    refine (new_none size w HN.out).mono ?_
    rintro e w' ⟨rfl, hw⟩
    have hw := hw.symm
    subst hw
    go_wp2
    go_ret
    exact ⟨_, rfl, by rw [HV.out]; exact OwnI.nil _ _, Below.refl _ _⟩
end Go.Proofs.Ytillljojdnofgaa
