/- Texts of ours, one behind the other: B6 R15 M7 R16 R17. -/
import Derived.Test.YthmjdcajaoilgaiZB4
import Derived.Test.YthmjdcajaoilgaiZR5
import Derived.Deep.RegionHeld3
/- A field's calls, gone on: a field within another (holds, Within). -/
namespace Go.Proofs.Ythmjdcajaoilgai
open Go.RowKit

/-! ### Plain mathematics -/
theorem pw_pw {D : FD} (hD : D ∈ fieldsL) (a x y : Nat) : D.pw (D.pw a x) y = D.pw a (x * y) := by
  have h := pw_ne hD a x
  unfold FD.pw at *
  rw [h.2, Nat.mul_mod, Nat.mod_mod, ← Nat.mul_mod, Nat.mul_assoc]
theorem pw_one {D : FD} (hD : D ∈ fieldsL) (a : Nat) (ha : a < D.q) (h0 : a ≠ 0) : D.pw a 1 = a := by
  have h := (fld hD).lg_is a ha h0
  unfold FD.pw
  rw [Nat.mul_one, Nat.mod_eq_of_lt h.1, h.2]
theorem pw_q {D : FD} (hD : D ∈ fieldsL) (a : Nat) (ha : a < D.q) (h0 : a ≠ 0) : D.pw a D.q = a := by
  have h := (fld hD).lg_is a ha h0
  have h2 := (fld hD).q2
  unfold FD.pw
  rw [show D.q = (D.q - 1) + 1 from by omega, Nat.mul_add, Nat.mul_one, show D.q - 1 + 1 - 1 = D.q - 1 from by omega, Nat.add_comm, Nat.add_mul_mod_self_right, Nat.mod_eq_of_lt h.1, h.2]
theorem frob_pw {D : FD} (hD : D ∈ fieldsL) (a : Nat) (ha : a < D.q) (h0 : a ≠ 0) : ∀ k, again D.frob1 k a = D.pw a (D.p ^ k)
  | 0 => by rw [Nat.pow_zero, pw_one hD a ha h0]; rfl
  | k + 1 => by
    show D.frob1 (again D.frob1 k a) = _
    rw [frob_pw hD a ha h0 k, FD.frob1, if_neg (pw_ne hD a _).1, pw_pw hD, Nat.pow_succ]
theorem frob_zero {D : FD} : ∀ k, again D.frob1 k 0 = 0
  | 0 => rfl
  | k + 1 => by show D.frob1 (again D.frob1 k 0) = 0; rw [frob_zero k, FD.frob1, if_pos rfl]
theorem powZ_size {D E : FD} (hD : D ∈ fieldsL) (hE : E ∈ fieldsL) (hp : E.p = D.p) (hm : D.m % E.m = 0) {a : Nat} (ha : a < D.q) : D.powZ a E.q = (again D.frob1 (E.m % D.m) a : Nat) := by
  have hq := (fld hE).q2
  have h1 := (fld hD).m1
  have h2 := (fld hE).m1
  rw [FD.powZ, if_neg (by simp [nat_has ha]), if_neg (by omega)]
  by_cases h0 : a = 0
  · rw [if_pos (by omega), if_neg (by omega), h0, frob_zero]; rfl
  · rw [if_neg (by omega), ← Int.natCast_emod, Int.toNat_natCast, Int.toNat_natCast]
    have e : D.pw a (E.q % (D.q - 1)) = D.pw a E.q := by unfold FD.pw; rw [Nat.mul_mod, Nat.mod_mod, ← Nat.mul_mod]
    rw [e, frob_pw hD a ha h0]
    have hle : E.m ≤ D.m := Nat.le_of_dvd (by omega) (Nat.dvd_of_mod_eq_zero hm)
    by_cases hmm : E.m = D.m
    · rw [hmm, Nat.mod_self, Nat.pow_zero, pw_one hD a ha h0, (fld hE).qp, hp, hmm, ← (fld hD).qp, pw_q hD a ha h0]
    · rw [Nat.mod_eq_of_lt (by omega), (fld hE).qp, hp]
theorem within_field {D E : FD} (hE : E ∈ fieldsL) : D.withinL E.q = if E.p = D.p ∧ D.m % E.m = 0 then D.stayTo E.m D.q else [] := by
  have hpp : pp E.q = (E.p, E.m) := beq_iff_eq.1 (List.all_eq_true.1 pp_fields E hE)
  have h2 := (fld hE).q2
  have h3 := (fld hE).q64
  have h4 := (fld hE).m1
  rw [FD.withinL, Int.toNat_natCast, hpp]
  by_cases h : E.p = D.p ∧ D.m % E.m = 0
  · rw [if_pos h, if_pos ⟨by omega, by omega, h.1, by show E.m ≠ 0; omega, h.2⟩]
  · rw [if_neg h, if_neg (fun k => h ⟨k.2.2.1, k.2.2.2.2⟩)]
theorem within_none {D : FD} {size : Int} (h : ∀ E ∈ fieldsL, (E.q : Int) ≠ size) : D.withinL size = [] := by
  rw [FD.withinL, if_neg]
  rintro ⟨h1, h2, _, h4, _⟩
  have h3 := no_field (q := size.toNat) (by omega) (fun E hE e => h E hE (by omega))
  rcases h3 with h3 | h3
  · omega
  · exact h4 h3

/-! ### Calls -/
set_option maxHeartbeats 2000000 in
theorem holds_any {F T F2 T2 : Nat} {D E : FD} (hE : E ∈ fieldsL) {g g2 : Nat → Value} {w : World} (h : FAt F T D g w) (k : FAt F2 T2 E g2 w) :
    Calls Try.prog 42 #[.pointer (some ⟨F, 0, none⟩), .pointer (some ⟨F2, 0, none⟩)] w fun e w' => e = .returned (.bool (decide (E.p = D.p ∧ D.m % E.m = 0))) ∧ ∃ n, w' = w.drewN n := by
  have hp := h.ptr
  have hp2 := k.ptr
  have a1 : w.cell? ⟨T, 1, none⟩ = some (.int .i64 D.p) := by rw [h.row.cell 1 (by omega), h.tab.sum.c1]
  have a2 : w.cell? ⟨T, 2, none⟩ = some (.int .i64 D.m) := by rw [h.row.cell 2 (by omega), h.tab.c2]
  have b1 : w.cell? ⟨T2, 1, none⟩ = some (.int .i64 E.p) := by rw [k.row.cell 1 (by omega), k.tab.sum.c1]
  have b2 : w.cell? ⟨T2, 2, none⟩ = some (.int .i64 E.m) := by rw [k.row.cell 2 (by omega), k.tab.c2]
  have m1 := (fld hE).m1
  clear h k hE
  by_cases hpp : E.p = D.p
  · have t1 : ((E.p : Int) == (D.p : Int)) = true := by rw [hpp]; simp
    have HV : Hid (decide (E.p = D.p ∧ D.m % E.m = 0) = ((D.m : Int) % (E.m : Int) == 0)) := by
      show _ = _
      rw [← Int.natCast_emod, Bool.eq_iff_iff, decide_eq_true_eq, beq_iff_eq]
      exact ⟨fun h => by rw [h.2]; rfl, fun h => ⟨hpp, by exact_mod_cast h⟩⟩
    clear hpp
    go_enter Try.func42, Try.ntmps42
    go_wp2
    go_quiet (fail)
    go_wp2
    go_ret
    exact ⟨ret_bool (by rw [HV.out]), _, rfl⟩
  · have t1 : ((E.p : Int) == (D.p : Int)) = false := by rw [beq_eq_false_iff_ne]; exact_mod_cast hpp
    have HV : Hid (decide (E.p = D.p ∧ D.m % E.m = 0) = false) := by
      show _ = _
      rw [decide_eq_false_iff_not]; exact fun h => hpp h.1
    clear hpp
    go_enter Try.func42, Try.ntmps42
    go_wp2
    go_quiet (fail)
    go_wp2
    go_ret
    exact ⟨ret_bool (by rw [HV.out]), _, rfl⟩

set_option maxHeartbeats 4000000 in
set_option maxRecDepth 100000 in
theorem within_any {F T : Nat} {D : FD} (hD : D ∈ fieldsL) {g : Nat → Value} {w : World} (h : FAt F T D g w) (size : Int) :
    Calls Try.prog 23 #[.pointer (some ⟨F, 0, none⟩), .int .i64 size] w fun e w' => ∃ v, e = .returned v ∧ OwnI w.heap.size v (D.withinL size) w' ∧ Below w.heap.size w w' := by
  have HF : Hid (FAt F T D g w ∧ D ∈ fieldsL) := ⟨h, hD⟩
  have hF := h.ltF
  have hT := h.ltT
  have h64 := (fld hD).q64
  clear h hD
  by_cases hex : ∃ E ∈ fieldsL, (E.q : Int) = size
  · obtain ⟨E, hE, rfl⟩ := hex
    have hq64 := (fld hE).q64
    have HE : Hid (E ∈ fieldsL) := hE
    clear hE
    go_enter Try.func23, Try.ntmps23
    go_wp2_with fail
    refine (new_any HE.out w).mono ?_
    rintro e w1 ⟨F2, T2, g2, rfl, hat, hF2, hT2, hb1⟩
    have HA : Hid (FAt F2 T2 E g2 w1 ∧ FAt F T D g w1 ∧ Below w.heap.size w w1) := ⟨hat, HF.out.1.below hb1 hF hT, hb1⟩
    have hsz := hb1.size
    clear hat hb1
    by_cases hok : E.p = D.p ∧ D.m % E.m = 0
    · have HV : Hid (D.withinL E.q = D.stayTo E.m D.q) := by show _ = _; rw [within_field HE.out, if_pos hok]
      have HP : Hid (E.p = D.p ∧ D.m % E.m = 0) := hok
      have hd : decide (E.p = D.p ∧ D.m % E.m = 0) = true := decide_eq_true hok
      clear hok
      go_wp2_with fail
      refine (holds_any HE.out HA.out.2.1 HA.out.1).mono ?_
      rintro e w' ⟨rfl, n, rfl⟩
      rw [hd]
      have hp := HA.out.2.1.ptr
      have hc0 : w1.cell? ⟨T, 0, none⟩ = some (.int .i64 D.q) := by rw [HA.out.2.1.row.cell 0 (by omega), HA.out.2.1.tab.sum.c0]
      go_wp2
      go_loopw [7, 29] (fun vl i wr => ∃ a : Nat, a ≤ D.q ∧ i = .int .i64 a ∧ OwnI w1.heap.size vl (D.stayTo E.m a) wr ∧ Below w1.heap.size w1 wr) (fun _ i _ => D.q - (intOf i).toNat)
      case atStart => exact ⟨0, by omega, rfl, OwnI.nil _ _, below_drewN2 (Below.refl _ _) _⟩
      case round =>
        clear hp hc0
        obtain ⟨a, ha, rfl, hown, hbel⟩ := hrel
        have HG : Hid (OwnI w1.heap.size u7 (D.stayTo E.m a) wr ∧ Below w1.heap.size w1 wr) := ⟨hown, hbel⟩
        have hsz1 := hbel.size
        clear hown hbel
        have hlen := stayTo_len D E.m a
        by_cases hla : a < D.q
        · obtain ⟨y, hy⟩ : ∃ y, y = again D.frob1 (E.m % D.m) a := ⟨_, rfl⟩
          have HC : Hid (Calls Try.prog 15 #[.pointer (some ⟨F, 0, none⟩), .int .i64 a, .int .i64 E.q] wr fun e w' => e = .returned (.int .i64 (y : Nat)) ∧ ∃ n, w' = wr.drewN n) := by
            have h := pow_any HF.out.2 (HA.out.2.1.below HG.out.2 HA.out.2.1.ltF HA.out.2.1.ltT) a E.q (by omega) (by omega)
            rw [powZ_size HF.out.2 HE.out HP.out.1 HP.out.2 hla, ← hy] at h
            exact h
          by_cases he : y = a
          · have hbe : ((y : Int) == (a : Int)) = true := beq_iff_eq.2 (by rw [he])
            have HL : Hid (D.stayTo E.m (a + 1) = D.stayTo E.m a ++ [(a : Int)]) := stayTo_yes (by rw [← hy, he])
            clear he hy
            go_wp2_with fail
            refine HC.out.mono ?_
            rintro e w2 ⟨rfl, n2, hw2⟩
            have HG2 : Hid (OwnI w1.heap.size u7 (D.stayTo E.m a) w2 ∧ Below w1.heap.size w1 w2 ∧ w1.heap.size ≤ w2.heap.size) := by
              rw [hw2]; exact ⟨HG.out.1.drewN _, below_drewN2 HG.out.2 _, hsz1⟩
            clear HC hw2
            go_wp2_with (at_builtin; refine append_int rfl _ _ rfl w1.heap.size _ (D.stayTo E.m a) rfl (HG2.out.1.alloc _) ⟨_, 0, none⟩ 1 a rfl (by simp) (by omega) (by have := HG2.out.2.2; simp; omega) ?_; intro v2 w3 hown3 hgrow3)
            have hb3 : Below w1.heap.size w1 w3 := (HG2.out.2.1.alloc HG2.out.2.2 _).grown hgrow3 (by have := HG2.out.2.2; simp; omega) (fun k hk => (HG2.out.1.lt k hk).1)
            go_roundw
            case rel => exact ⟨a + 1, by omega, by go_num, by rw [HL.out]; exact hown3, hb3⟩
            case measure => simp [intOf]; omega
          · have hbe : ((y : Int) == (a : Int)) = false := beq_eq_false_iff_ne.2 (by omega)
            have HL : Hid (D.stayTo E.m (a + 1) = D.stayTo E.m a) := stayTo_no (by rw [← hy]; exact he)
            clear he hy
            go_wp2_with fail
            refine HC.out.mono ?_
            rintro e w' ⟨rfl, n2, rfl⟩
            clear HC
            go_wp2
            go_roundw
            case rel => exact ⟨a + 1, by omega, by go_num, by rw [HL.out]; exact HG.out.1.drewN _, below_drewN2 HG.out.2 _⟩
            case measure => simp [intOf]; omega
        · have HZ : Hid (D.withinL E.q = D.stayTo E.m a) := by show _ = _; rw [HV.out, show a = D.q from by omega]
          go_wp2
          go_ret
          exact ⟨_, rfl, by rw [HZ.out]; exact HG.out.1.mono hsz, HA.out.2.2.trans (HG.out.2.mono hsz)⟩
    · have HV : Hid (D.withinL E.q = []) := by show _ = _; rw [within_field HE.out, if_neg hok]
      have hd : decide (E.p = D.p ∧ D.m % E.m = 0) = false := decide_eq_false hok
      clear hok
      go_wp2_with fail
      refine (holds_any HE.out HA.out.2.1 HA.out.1).mono ?_
      rintro e w' ⟨rfl, n, rfl⟩
      rw [hd]
      go_wp2
      go_ret
      exact ⟨_, rfl, by rw [HV.out]; exact OwnI.nil _ _, below_drewN2 HA.out.2.2 _⟩
  · have HN : Hid (∀ E ∈ fieldsL, (E.q : Int) ≠ size) := fun E hE e => hex ⟨E, hE, e⟩
    have HV : Hid (D.withinL size = []) := within_none HN.out
    clear hex
    go_enter Try.func23, Try.ntmps23
    go_wp2_with fail
    refine (new_none size w HN.out).mono ?_
    rintro e w' ⟨rfl, hw⟩
    have hw := hw.symm
    subst hw
    go_wp2
    go_ret
    exact ⟨_, rfl, by rw [HV.out]; exact OwnI.nil _ _, Below.refl _ _⟩
end Go.Proofs.Ythmjdcajaoilgai

/- The reference: a polynomial's value at an element (value). -/
namespace Go.Proofs.Ythmjdcajaoilgai
open Go.RowKit

/-- The value of n coefficients at x, from the highest one down, k of them. -/
def FD.val (D : FD) (c : Nat → Nat) (n x : Nat) : Nat → Nat
  | 0 => 0
  | k + 1 => sumD D.p D.q (D.mul (D.val c n x k) x) (c (n - 1 - k))
theorem val_lt {D : FD} (hD : D ∈ fieldsL) (c : Nat → Nat) (n x : Nat) (hc : ∀ j, c j < D.q) : ∀ k, D.val c n x k < D.q
  | 0 => by have := (fld hD).q2; show 0 < D.q; omega
  | k + 1 => (fld hD).sum_lt _ _ ((fld hD).mul_lt _ _) (hc _)

theorem bel_up' {B : Nat} {w W w1 : World} (h0 : Below B w W) (h : Below W.heap.size W w1) (hB : B ≤ w.heap.size := by exact Nat.le_refl _) : Below B w w1 := h0.trans (h.mono (Nat.le_trans hB h0.size))

end Go.Proofs.Ythmjdcajaoilgai

/- Plain mathematics of a field within another: what the smaller one's x becomes. -/
namespace Go.Proofs.Ythmjdcajaoilgai

/-- The smaller field's modulus, coefficient by coefficient. -/
def FD.modN (E : FD) (j : Nat) : Nat := if j = E.m then 1 else dgt E.p E.low j
/-- The k-th element that is tried. -/
def FD.xk (D E : FD) (k : Nat) : Nat := again D.st (k * ((D.q - 1) / (E.q - 1)) % (D.q - 1)) 1
def FD.isRoot (D E : FD) (k : Nat) : Bool := D.val E.modN (E.m + 1) (D.xk E k) (E.m + 1) == 0
/-- The first number from k on, among n, that meets p. -/
def firstFrom (p : Nat → Bool) : Nat → Nat → Nat
  | 0, k => k
  | n + 1, k => if p k = true then k else firstFrom p n (k + 1)
theorem firstFrom_is (p : Nat → Bool) : ∀ n k, (∃ j, k ≤ j ∧ j < k + n ∧ p j = true) → k ≤ firstFrom p n k ∧ firstFrom p n k < k + n ∧ p (firstFrom p n k) = true ∧ ∀ i, k ≤ i → i < firstFrom p n k → p i = false
  | 0, k, ⟨j, h1, h2, _⟩ => by omega
  | n + 1, k, ⟨j, h1, h2, h3⟩ => by
    rw [firstFrom]
    by_cases hp : p k = true
    · rw [if_pos hp]; exact ⟨by omega, by omega, hp, fun i h4 h5 => by omega⟩
    · rw [if_neg hp]
      have hjk : j ≠ k := fun e => hp (e ▸ h3)
      obtain ⟨a1, a2, a3, a4⟩ := firstFrom_is p n (k + 1) ⟨j, by omega, by omega, h3⟩
      refine ⟨by omega, by omega, a3, fun i h4 h5 => ?_⟩
      by_cases e : i = k
      · subst e; simpa using hp
      · exact a4 i (by omega) h5
def FD.rootK (D E : FD) : Nat := firstFrom (D.isRoot E) (E.q - 1) 1
def FD.root (D E : FD) : Nat := if E.m = 1 then 0 else D.xk E (D.rootK E)
def FD.holdsB (D E : FD) : Bool := E.p == D.p && D.m % E.m == 0
def FD.embL (D E : FD) : List Int := (List.range E.q).map fun a => ((D.val (fun j => dg E.p a j) E.m (D.root E) E.m : Nat) : Int)

theorem roots_all : (fieldsL.all fun D => fieldsL.all fun E => !(D.holdsB E) || E.m == 1 || (List.range E.q).any fun k => decide (1 ≤ k) && D.isRoot E k) = true := by decide +kernel

theorem rootK_is {D E : FD} (hD : D ∈ fieldsL) (hE : E ∈ fieldsL) (h : E.p = D.p ∧ D.m % E.m = 0) (hm : E.m ≠ 1) :
    1 ≤ D.rootK E ∧ D.rootK E < E.q ∧ D.isRoot E (D.rootK E) = true ∧ ∀ k, 1 ≤ k → k < D.rootK E → D.isRoot E k = false := by
  have h1 := List.all_eq_true.1 (List.all_eq_true.1 roots_all D hD) E hE
  have hb : D.holdsB E = true := by simp [FD.holdsB, h.1, h.2]
  have hme : (E.m == 1) = false := beq_eq_false_iff_ne.2 hm
  rw [hb, hme] at h1
  simp only [Bool.not_true, Bool.false_or] at h1
  obtain ⟨k, hk, hp⟩ := List.any_eq_true.1 h1
  rw [Bool.and_eq_true, decide_eq_true_eq] at hp
  have hk' := List.mem_range.1 hk
  obtain ⟨a1, a2, a3, a4⟩ := firstFrom_is (D.isRoot E) (E.q - 1) 1 ⟨k, hp.1, by omega, hp.2⟩
  exact ⟨a1, by have : firstFrom (D.isRoot E) (E.q - 1) 1 < E.q := by omega
                exact this, a3, a4⟩
theorem xk_lt {D E : FD} (hD : D ∈ fieldsL) (k : Nat) : D.xk E k < D.q ∧ D.xk E k ≠ 0 := by
  have F := fld hD
  have hn : k * ((D.q - 1) / (E.q - 1)) % (D.q - 1) < D.q - 1 := Nat.mod_lt _ (by have := F.q2; omega)
  exact ⟨F.pow_lt _ hn, (F.full _ hn).1⟩
theorem root_lt {D E : FD} (hD : D ∈ fieldsL) : D.root E < D.q := by
  unfold FD.root
  split
  · have := (fld hD).q2; omega
  · exact (xk_lt hD _).1
theorem modN_lt {D E : FD} (hD : D ∈ fieldsL) (hE : E ∈ fieldsL) (hp : E.p = D.p) (j : Nat) : E.modN j < D.q := by
  have h1 := (fld hD).qp
  have h2 := (fld hD).p2
  have h3 : D.p ≤ D.p ^ D.m := Nat.le_self_pow (by have := (fld hD).m1; omega) D.p
  have h4 := (fld hE).p2
  unfold FD.modN
  split
  · omega
  · have : dgt E.p E.low j < E.p := Nat.mod_lt _ (by omega)
    omega
theorem dg_ltq {D E : FD} (hD : D ∈ fieldsL) (hE : E ∈ fieldsL) (hp : E.p = D.p) (a j : Nat) : dg E.p a j < D.q := by
  have h1 := (fld hD).qp
  have h3 : D.p ≤ D.p ^ D.m := Nat.le_self_pow (by have := (fld hD).m1; omega) D.p
  have h4 := (fld hE).p2
  have : dg E.p a j < E.p := Nat.mod_lt _ (by omega)
  omega
/-- A power of the generator, as a call tells it. -/
theorem powZ_gen {D : FD} (hD : D ∈ fieldsL) (hq : 2 < D.q) (j : Nat) (hj : 1 ≤ j) : D.powZ D.gen j = (again D.st (j % (D.q - 1)) 1 : Nat) := by
  have F := fld hD
  have hs := List.all_eq_true.1 st_one D hD
  simp only [Bool.and_eq_true, beq_iff_eq, decide_eq_true_eq] at hs
  obtain ⟨⟨hs1, hs2⟩, hs3⟩ := hs
  have hg : D.lg D.gen = 1 := by
    have := F.lg_pow 1 (by omega)
    rw [show again D.st 1 1 = D.gen from hs1] at this
    exact this
  rw [FD.powZ, if_neg (by simp [nat_has hs2]), if_neg (by omega), if_neg (by omega), ← Int.natCast_emod, Int.toNat_natCast, Int.toNat_natCast, FD.pw, hg, Nat.one_mul, Nat.mod_mod]
end Go.Proofs.Ythmjdcajaoilgai

/- The reference: what each element of a field becomes in a greater one (Embed). -/
namespace Go.Proofs.Ythmjdcajaoilgai
open Go.RowKit

theorem modL_len' {D : FD} : D.modL.length = D.m + 1 := by unfold FD.modL; rw [List.length_append, digL_len]; rfl

end Go.Proofs.Ythmjdcajaoilgai

/- The reference: what each element of a field becomes in a greater one, gone on (Embed). -/
namespace Go.Proofs.Ythmjdcajaoilgai
open Go.RowKit

theorem nums_modL {E : FD} {base g cap : Nat} {w : World} (h : OwnI base (.slice (some ⟨g, 0, none⟩) (E.m + 1) cap) E.modL w) : Nums g (E.m + 1) E.modN w := by
  intro j hj
  obtain ⟨g', cap', hv, _, _, hc, _⟩ := h.at (by intro e; have := congrArg List.length e; rw [modL_len'] at this; simp at this)
  simp only [Value.slice.injEq, Option.some.injEq, Addr.mk.injEq, and_true] at hv
  obtain ⟨rfl, _, _⟩ := hv
  rw [hc j (by rw [modL_len']; exact hj)]
  unfold FD.modL FD.modN
  by_cases e : j = E.m
  · rw [if_pos e, List.getD_eq_getElem?_getD, List.getElem?_append_right (by rw [digL_len]; omega), digL_len, e, Nat.sub_self]; rfl
  · rw [if_neg e, List.getD_eq_getElem?_getD, List.getElem?_append_left (by rw [digL_len]; omega), ← List.getD_eq_getElem?_getD, digL_get _ _ _ _ (by omega)]; rfl

end Go.Proofs.Ythmjdcajaoilgai
