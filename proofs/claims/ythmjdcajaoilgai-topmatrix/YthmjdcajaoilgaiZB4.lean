/- Texts of ours, one behind the other: B4 B5. -/
import Derived.Test.YthmjdcajaoilgaiZB2
import Derived.Test.YthmjdcajaoilgaiZR5
import Derived.Deep.RegionWith
import Derived.Deep.RegionHeld3
/- A field's calls, gone on: Frobenius, traces, norms. -/
namespace Go.Proofs.Ythmjdcajaoilgai
open Go.RowKit

theorem powZ_frob {D : FD} (hD : D ∈ fieldsL) {z : Nat} (hz : z < D.q) : D.powZ z D.p = (D.frob1 z : Nat) := by
  have F := fld hD
  have hp := F.p2
  rw [FD.powZ, if_neg (by simp [nat_has hz]), if_neg (by omega)]
  unfold FD.frob1
  by_cases h0 : z = 0
  · rw [if_pos (by omega), if_neg (by omega), if_pos h0]; rfl
  · rw [if_neg (by omega), if_neg h0, ← Int.natCast_emod, Int.toNat_natCast, Int.toNat_natCast]
    unfold FD.pw
    rw [Nat.mul_mod, Nat.mod_mod, ← Nat.mul_mod]

set_option maxHeartbeats 2000000 in
theorem frob_any {F T : Nat} {D : FD} (hD : D ∈ fieldsL) {g : Nat → Value} {w : World} (h : FAt F T D g w) (a k : Int) (hk1 : -9223372036854775808 ≤ k) (hk2 : k ≤ 9223372036854775807) :
    Calls Try.prog 19 #[.pointer (some ⟨F, 0, none⟩), .int .i64 a, .int .i64 k] w fun e w' => e = .returned (.int .i64 (D.frobZ a k)) ∧ ∃ n, w' = w.drewN n := by
  have hp := h.ptr
  have hc2 : w.cell? ⟨T, 2, none⟩ = some (.int .i64 D.m) := by rw [h.row.cell 2 (by omega), h.tab.c2]
  have hc1 : w.cell? ⟨T, 1, none⟩ = some (.int .i64 D.p) := by rw [h.row.cell 1 (by omega), h.tab.sum.c1]
  have hm1 := (fld hD).m1
  have hm6 := (fld hD).m6
  have hp64 := (fld hD).p64
  have HF : Hid (FAt F T D g w ∧ D ∈ fieldsL) := ⟨h, hD⟩
  clear h hD
  by_cases ha : D.has a = true
  · obtain ⟨x, rfl, hx⟩ := has_nat ha
    obtain ⟨r, hr, hrq⟩ : ∃ r : Nat, k % (D.m : Int) = r ∧ r < D.m := by
      have h1 := Int.emod_nonneg k (show (D.m : Int) ≠ 0 from by omega)
      have h2 := Int.emod_lt_of_pos k (show 0 < (D.m : Int) from by omega)
      exact ⟨(k % (D.m : Int)).toNat, by omega, by omega⟩
    have HV : Hid (D.frobZ x k = (again D.frob1 r x : Nat)) := by
      show D.frobZ x k = _
      rw [FD.frobZ, if_pos ha, hr]; rfl
    have HR : Hid (∀ w1, Calls Try.prog 40 #[.int .i64 k, .int .i64 (D.m : Int)] w1 fun e w' => e = .returned (.int .i64 (r : Int)) ∧ w' = w1) := by
      intro w1; rw [← hr]; exact remainder_any _ _ _ (by omega) (by omega) hk1 hk2
    clear hr
    go_enter Try.func19, Try.ntmps19
    go_wp2_with (first | (go_at_call 36; refine (has_any HF.out.1 _).mono ?_; rintro e w' ⟨rfl, hw⟩; have hw := hw.symm; subst hw) | (go_at_call 40; refine (HR.out _).mono ?_; rintro e w' ⟨rfl, hw⟩; have hw := hw.symm; subst hw))
    go_loopw [1, 20] (fun y i wr => ∃ j z : Nat, j ≤ r ∧ z < D.q ∧ i = .int .i64 j ∧ y = .int .i64 z ∧ Hid (z = again D.frob1 j x) ∧ ∃ d, wr = w.drewN d) (fun _ i _ => r - (intOf i).toNat)
    case atStart => exact ⟨0, x, by omega, hx, rfl, rfl, rfl, 0, rfl⟩
    case round =>
      obtain ⟨j, z, hj, hz, rfl, rfl, HZ, d, rfl⟩ := hrel
      by_cases hjr : j < r
      · have HC : Hid (Calls Try.prog 15 #[.pointer (some ⟨F, 0, none⟩), .int .i64 z, .int .i64 D.p] (w.drewN d) fun e w' => e = .returned (.int .i64 (D.frob1 z : Nat)) ∧ ∃ n, w' = (w.drewN d).drewN n) := by
          have h := pow_any HF.out.2 (HF.out.1.drewN d) z D.p (by omega) (by omega)
          rw [powZ_frob HF.out.2 hz] at h; exact h
        have hfl := frob1_lt HF.out.2 z
        go_wp2_with fail
        refine HC.out.mono ?_
        rintro e w' ⟨rfl, n, rfl⟩
        go_wp2
        go_roundw
        case rel => exact ⟨j + 1, D.frob1 z, by omega, hfl, by go_num, rfl, by rw [HZ.out]; rfl, _, by first | rfl | rw [World.drewN_drewN]⟩
        case measure => simp [intOf]; omega
      · have HE : Hid (z = again D.frob1 r x) := by show _ = _; rw [HZ.out, show j = r from by omega]
        go_wp2
        go_ret
        exact ⟨ret_int (by rw [HV.out, HE.out]), _, rfl⟩
  · have ha' : D.has a = false := by simpa using ha
    have HV : Hid (D.frobZ a k = -1) := by show _ = _; rw [FD.frobZ, if_neg (by simp [ha'])]
    clear ha
    go_enter Try.func19, Try.ntmps19
    go_wp2_with (go_at_call 36; refine (has_any HF.out.1 _).mono ?_; rintro e w' ⟨rfl, rfl⟩)
    go_ret
    exact ⟨ret_int (by rw [HV.out]), 0, rfl⟩

set_option maxHeartbeats 2000000 in
theorem trace_any {F T : Nat} {D : FD} (hD : D ∈ fieldsL) {g : Nat → Value} {w : World} (h : FAt F T D g w) (a : Int) :
    Calls Try.prog 20 #[.pointer (some ⟨F, 0, none⟩), .int .i64 a] w fun e w' => e = .returned (.int .i64 (D.traceZ a)) ∧ ∃ n, w' = w.drewN n := by
  have hp := h.ptr
  have hc2 : w.cell? ⟨T, 2, none⟩ = some (.int .i64 D.m) := by rw [h.row.cell 2 (by omega), h.tab.c2]
  have hm1 := (fld hD).m1
  have hm6 := (fld hD).m6
  have HF : Hid (FAt F T D g w ∧ D ∈ fieldsL) := ⟨h, hD⟩
  clear h hD
  obtain ⟨t, ht⟩ : ∃ t : Nat → Int, t = fun j => if D.has a = true then ((D.traceTo a.toNat j : Nat) : Int) else if j = 0 then 0 else -1 := ⟨_, rfl⟩
  have HT : Hid (t 0 = 0 ∧ D.traceZ a = t D.m ∧ ∀ j : Nat, j < D.m → D.addZ (t j) (D.frobZ a j) = t (j + 1)) := by
    rw [ht]
    refine ⟨?_, ?_, ?_⟩
    · show (if D.has a = true then ((D.traceTo a.toNat 0 : Nat) : Int) else if 0 = 0 then 0 else -1) = 0
      split <;> rfl
    · show D.traceZ a = if D.has a = true then ((D.traceTo a.toNat D.m : Nat) : Int) else if D.m = 0 then 0 else -1
      rw [FD.traceZ]; split
      · rfl
      · rw [if_neg (by omega)]
    · intro j hj
      show D.addZ (if D.has a = true then ((D.traceTo a.toNat j : Nat) : Int) else if j = 0 then 0 else -1) (D.frobZ a j) = if D.has a = true then ((D.traceTo a.toNat (j + 1) : Nat) : Int) else if j + 1 = 0 then 0 else -1
      by_cases ha : D.has a = true
      · obtain ⟨x, rfl, hx⟩ := has_nat ha
        rw [if_pos ha, if_pos ha, frobZ_nat ha hj, Int.toNat_natCast, addZ_nat (fld HF.out.2) (traceTo_lt HF.out.2 x hx j) (frob_lt HF.out.2 x hx j)]; rfl
      · have : D.frobZ a j = -1 := by rw [FD.frobZ, if_neg ha]
        have hm : D.has (-1) = false := by simp [FD.has]
        rw [if_neg ha, if_neg ha, this, FD.addZ, if_neg (by rw [hm]; simp), if_neg (by omega)]
  clear ht
  go_enter Try.func20, Try.ntmps20
  go_wp2
  go_loopw [5, 14] (fun s i wr => ∃ j : Nat, j ≤ D.m ∧ i = .int .i64 j ∧ s = .int .i64 (t j) ∧ ∃ d, wr = w.drewN d) (fun _ i _ => D.m - (intOf i).toNat)
  case atStart => exact ⟨0, by omega, rfl, by rw [HT.out.1], 0, rfl⟩
  case round =>
    obtain ⟨j, hj, rfl, rfl, d, rfl⟩ := hrel
    by_cases hjm : j < D.m
    · have HE : Hid (D.addZ (t j) (D.frobZ a j) = t (j + 1)) := HT.out.2.2 j hjm
      go_wp2_with fail
      refine (frob_any HF.out.2 (HF.out.1.drewN d) a j (by omega) (by omega)).mono ?_
      rintro e w' ⟨rfl, n, rfl⟩
      go_wp2_with fail
      refine (add_any HF.out.2 (by first | exact HF.out.1.drewN _ | exact (HF.out.1.drewN d).drewN n) _ _).mono ?_
      rintro e w' ⟨rfl, n2, rfl⟩
      go_wp2
      go_roundw
      case rel => exact ⟨j + 1, by omega, by go_num, by rw [HE.out], _, by first | rfl | rw [World.drewN_drewN] | rw [World.drewN_drewN, World.drewN_drewN]⟩
      case measure => simp [intOf]; omega
    · have HE : Hid (j = D.m) := by show j = D.m; omega
      go_wp2
      go_ret
      exact ⟨ret_int (by rw [HT.out.2.1, HE.out]), _, rfl⟩

set_option maxHeartbeats 2000000 in
theorem norm_any {F T : Nat} {D : FD} (hD : D ∈ fieldsL) {g : Nat → Value} {w : World} (h : FAt F T D g w) (a : Int) :
    Calls Try.prog 21 #[.pointer (some ⟨F, 0, none⟩), .int .i64 a] w fun e w' => e = .returned (.int .i64 (D.normZ a)) ∧ ∃ n, w' = w.drewN n := by
  have hp := h.ptr
  have hc2 : w.cell? ⟨T, 2, none⟩ = some (.int .i64 D.m) := by rw [h.row.cell 2 (by omega), h.tab.c2]
  have hm1 := (fld hD).m1
  have hm6 := (fld hD).m6
  have HF : Hid (FAt F T D g w ∧ D ∈ fieldsL) := ⟨h, hD⟩
  clear h hD
  obtain ⟨t, ht⟩ : ∃ t : Nat → Int, t = fun j => if D.has a = true then ((D.normTo a.toNat j : Nat) : Int) else if j = 0 then 1 else -1 := ⟨_, rfl⟩
  have HT : Hid (t 0 = 1 ∧ D.normZ a = t D.m ∧ ∀ j : Nat, j < D.m → D.mulZ (t j) (D.frobZ a j) = t (j + 1)) := by
    rw [ht]
    refine ⟨?_, ?_, ?_⟩
    · show (if D.has a = true then ((D.normTo a.toNat 0 : Nat) : Int) else if 0 = 0 then 1 else -1) = 1
      split <;> rfl
    · show D.normZ a = if D.has a = true then ((D.normTo a.toNat D.m : Nat) : Int) else if D.m = 0 then 1 else -1
      rw [FD.normZ]; split
      · rfl
      · rw [if_neg (by omega)]
    · intro j hj
      show D.mulZ (if D.has a = true then ((D.normTo a.toNat j : Nat) : Int) else if j = 0 then 1 else -1) (D.frobZ a j) = if D.has a = true then ((D.normTo a.toNat (j + 1) : Nat) : Int) else if j + 1 = 0 then 1 else -1
      by_cases ha : D.has a = true
      · obtain ⟨x, rfl, hx⟩ := has_nat ha
        rw [if_pos ha, if_pos ha, frobZ_nat ha hj, Int.toNat_natCast, mulZ_nat (fld HF.out.2) (normTo_lt HF.out.2 x j) (frob_lt HF.out.2 x hx j)]; rfl
      · have : D.frobZ a j = -1 := by rw [FD.frobZ, if_neg ha]
        have hm : D.has (-1) = false := by simp [FD.has]
        rw [if_neg ha, if_neg ha, this, FD.mulZ, if_neg (by rw [hm]; simp), if_neg (by omega)]
  clear ht
  go_enter Try.func21, Try.ntmps21
  go_wp2
  go_loopw [5, 14] (fun s i wr => ∃ j : Nat, j ≤ D.m ∧ i = .int .i64 j ∧ s = .int .i64 (t j) ∧ ∃ d, wr = w.drewN d) (fun _ i _ => D.m - (intOf i).toNat)
  case atStart => exact ⟨0, by omega, rfl, by rw [HT.out.1], 0, rfl⟩
  case round =>
    obtain ⟨j, hj, rfl, rfl, d, rfl⟩ := hrel
    by_cases hjm : j < D.m
    · have HE : Hid (D.mulZ (t j) (D.frobZ a j) = t (j + 1)) := HT.out.2.2 j hjm
      go_wp2_with fail
      refine (frob_any HF.out.2 (HF.out.1.drewN d) a j (by omega) (by omega)).mono ?_
      rintro e w' ⟨rfl, n, rfl⟩
      go_wp2_with fail
      refine (mul_any HF.out.2 (by first | exact HF.out.1.drewN _ | exact (HF.out.1.drewN d).drewN n) _ _).mono ?_
      rintro e w' ⟨rfl, n2, rfl⟩
      go_wp2
      go_roundw
      case rel => exact ⟨j + 1, by omega, by go_num, by rw [HE.out], _, by first | rfl | rw [World.drewN_drewN] | rw [World.drewN_drewN, World.drewN_drewN]⟩
      case measure => simp [intOf]; omega
    · have HE : Hid (j = D.m) := by show j = D.m; omega
      go_wp2
      go_ret
      exact ⟨ret_int (by rw [HT.out.2.1, HE.out]), _, rfl⟩
end Go.Proofs.Ythmjdcajaoilgai

/- A field's calls, gone on: its modulus, the elements of a smaller field. -/
namespace Go.Proofs.Ythmjdcajaoilgai
open Go.RowKit

theorem RowF.own {g n base : Nat} {f : Nat → Value} {l : List Int} {w : World} (h : RowF g n 3 f w) (hl : l.length = n) (hf : ∀ j, j < n → f j = .int .i64 (l.getD j 0)) (hb : base ≤ g) (hn : n ≤ 1000000) : OwnI base (.slice (some ⟨g, 0, none⟩) n n) l w := by
  obtain ⟨cs, h1, h2, h3⟩ := h
  refine ⟨by simp, Or.inr ⟨g, n, cs, by rw [hl], hb, h1, by omega, by unfold maxLen; omega, by omega, ?_⟩⟩
  rw [hl, Nat.mul_one, List.take_of_length_le (by simp; omega)]
  apply List.ext_getElem?
  intro i
  by_cases hi : i < n
  · rw [Array.getElem?_toList, h3 i hi, hf i hi, List.getElem?_map, List.getD_eq_getElem?_getD, List.getElem?_eq_getElem (by omega)]; rfl
  · rw [List.getElem?_eq_none (by simp; omega), List.getElem?_eq_none (by simp; omega)]

set_option maxHeartbeats 2000000 in
theorem tdigits_any {F T : Nat} {D : FD} (hD : D ∈ fieldsL) {g : Nat → Value} {w : World} (h : FAt F T D g w) (a : Nat) (ha : a < 64) :
    Calls Try.prog 45 #[.pointer (some ⟨T, 0, none⟩), .int .i64 a] w fun e w' => ∃ v, e = .returned v ∧ OwnI w.heap.size v (digL D.p a D.m) w' ∧ Below w.heap.size w w' := by
  have hc2 : w.cell? ⟨T, 2, none⟩ = some (.int .i64 D.m) := by rw [h.row.cell 2 (by omega), h.tab.c2]
  have hT := h.ltT
  have hm1 := (fld hD).m1
  have hm6 := (fld hD).m6
  have hp2 := (fld hD).p2
  have hp64 := (fld hD).p64
  have HF : Hid (FAt F T D g w ∧ D ∈ fieldsL) := ⟨h, hD⟩
  clear h hD
  go_enter Try.func45, Try.ntmps45
  go_wp2_with (at_make; refine make_int rfl _ _ rfl _ D.m rfl rfl rfl (by omega) ?_; intro w1 hown1 hgrow1)
  have hb1 : Below w.heap.size w w1 := below_grown hgrow1 (Nat.le_refl _) (fun k hk => by simp at hk)
  obtain ⟨gl, cl, fl, hvl, hgl, hgl', hll, hcl, hrl, hfl⟩ := hown1.row D.m (by simp) (by omega)
  simp only [Value.slice.injEq, Option.some.injEq, Addr.mk.injEq, and_true, true_and] at hvl
  obtain ⟨rfl, rfl⟩ := hvl
  have HS : Hid (RowF w.heap.size D.m 3 fl w1 ∧ Below w.heap.size w w1) := ⟨hrl, hb1⟩
  clear hown1 hgrow1 hrl hfl hb1 hgl hll hcl
  go_loopw [1, 14] (fun x i wr => ∃ (j y : Nat) (f : Nat → Value), j ≤ D.m ∧ y ≤ a ∧ x = .int .i64 y ∧ i = .int .i64 j ∧ Hid (y = a / D.p ^ j) ∧ RowF w.heap.size D.m 3 f wr ∧ (∀ t, t < j → f t = .int .i64 (dg D.p a t : Nat)) ∧ Below w.heap.size w wr) (fun _ i _ => D.m - (intOf i).toNat)
  case atStart => exact ⟨0, a, fl, by omega, by omega, rfl, rfl, by simp [Hid], HS.out.1, fun t ht => by omega, HS.out.2⟩
  case round =>
    obtain ⟨j, y, f, hj, hy, rfl, rfl, HY, hrow, hf, hbel⟩ := hrel
    have hc1 : wr.cell? ⟨T, 1, none⟩ = some (.int .i64 D.p) := by rw [(bcell hbel).1 T 1 hT, HF.out.1.row.cell 1 (by omega), HF.out.1.tab.sum.c1]
    have HG : Hid (RowF w.heap.size D.m 3 f wr ∧ (∀ t, t < j → f t = .int .i64 (dg D.p a t : Nat)) ∧ Below w.heap.size w wr) := ⟨hrow, hf, hbel⟩
    clear hrow hf hbel
    by_cases hlt : j < D.m
    · have hcs := HG.out.1.cell j hlt
      have hfs := HG.out.1.free j
      have hne : ¬ T = w.heap.size := by omega
      have HN : Hid (y / D.p = a / D.p ^ (j + 1)) := by show _ = _; rw [HY.out, Nat.div_div_eq_div_mul, Nat.pow_succ]
      have HD2 : Hid (y % D.p = dg D.p a j) := by show _ = _; rw [HY.out]; rfl
      have hq1 : y / D.p ≤ y := Nat.div_le_self _ _
      go_wp2
      go_roundw
      case rel => exact ⟨j + 1, y / D.p, _, by omega, by omega, by rw [w_quo y D.p (by omega)], by go_num, HN.out, HG.out.1.store _ _, fun t ht => if e : t = j then by rw [e, upd_at, ← HD2.out]; rfl else (upd_ne _ _ _ e).trans (HG.out.2.1 t (by omega)), HG.out.2.2.setCell (by simp) _⟩
      case measure => simp [intOf]; omega
    · have HV : Hid (OwnI w.heap.size (.slice (some ⟨w.heap.size, 0, none⟩) D.m D.m) (digL D.p a D.m) wr) :=
        HG.out.1.own (digL_len _ _ _) (fun t ht => by rw [HG.out.2.1 t (by omega), digL_get _ _ _ _ ht]) (Nat.le_refl _) (by omega)
      go_wp2
      go_ret
      exact ⟨_, rfl, HV.out, HG.out.2.2⟩

theorem low_lt {D : FD} (hD : D ∈ fieldsL) : D.low < D.q := by
  have F := fld hD
  by_cases hm : D.m = 1
  · have := (F.least1 hm).2.2.2.1; have := F.q2; omega
  · exact (F.least2 hm).2.1

/-- 'append(l, y)', l the call's own, at a step of a region that draws its order. -/
theorem step_append_int {ops : Array Oper} {o : Oper} {a : Act} {w : World} {K : Act → World → Prop} {Q : Exit → Act → World → Prop} {E : Prop} (hgd : o.guard = none) (s x : Operand)
    (ho : o.op = .call { callee := .builtin .append, args := #[s, x], argTypes := #[28, 28] })
    (base : Nat) (v : Value) (l : List Int) (hs : a.eval s = v) (hown : OwnI base v l w) (ad : Addr) (c : Nat) (y : Int) (hx : a.eval x = .slice (some ad) 1 c) (hcell : w.cell? ad = some (.int .i64 y))
    (hlen : l.length ≤ 1000000) (hbase : base ≤ w.heap.size)
    (h : ∀ v' w', OwnI base v' (l ++ [y]) w' → w.grownBy w' v.ownBlock → K (a.put o.dst v') w') : if Region.wanted o (yielded ops a.tmps) = true then Oper.wp Try.prog o a w K Q else E := by
  have hw : Region.wanted o (yielded ops a.tmps) = true := by simp [Region.wanted, hgd]
  rw [if_pos hw]
  obtain ⟨i0, hi, hz0, hz1, hz2⟩ := info_parts Try.infoInt
  refine wp_append_own w s x 28 ho base 3 i0 (.int .i64 0) 1 8 Try.underlying28 hi hz0 hz1 hz2 rfl (by decide) v l.length _ hs hown ad 1 c [.int .i64 y] hx rfl ?_ ?_ ?_ ?_ hbase ?_
  · intro j u hj
    match j, hj with
    | 0, hj =>
      simp at hj; subst hj
      have : ad.add 0 = ad := by cases ad with | mk b o s => cases s <;> simp [Addr.add]
      rw [this]; exact hcell
  · intro u hu; simp at hu; subst hu; rfl
  · unfold maxLen; omega
  · omega
  · intro v' w' hown' hgrow _
    refine h v' w' ?_ hgrow
    unfold OwnI
    rw [List.map_append, List.length_append]
    exact hown'

theorem bel_up {B : Nat} {w W w1 : World} (h0 : Below B w W) (h : Below W.heap.size W w1) (hB : B ≤ w.heap.size := by exact Nat.le_refl _) : Below B w w1 := h0.trans (h.mono (Nat.le_trans hB h0.size))

set_option maxHeartbeats 4000000 in
set_option maxRecDepth 100000 in
theorem poly_any {F T : Nat} {D : FD} (hD : D ∈ fieldsL) {g : Nat → Value} {w : World} (h : FAt F T D g w) :
    Calls Try.prog 60 #[.pointer (some ⟨F, 0, none⟩)] w fun e w' => ∃ v, e = .returned v ∧ OwnI w.heap.size v D.modL w' ∧ Below w.heap.size w w' := by
  have hp := h.ptr
  have hc3 : w.cell? ⟨T, 3, none⟩ = some (.int .i64 D.low) := by rw [h.row.cell 3 (by omega), h.tab.c3]
  have hF := h.ltF
  have hT := h.ltT
  have hm6 := (fld hD).m6
  have hll := low_lt hD
  have h64 := (fld hD).q64
  have HF : Hid (FAt F T D g w ∧ D ∈ fieldsL) := ⟨h, hD⟩
  have hlen := digL_len D.p D.low D.m
  have nF := World.new_ne w _ hp
  have nT := World.new_ne w _ hc3
  clear h hD
  go_enter Try.func60, Try.ntmps60
  go_wp2
  go_region_held3 (fun w' => w'.cell? ⟨F, 0, none⟩ = some (.pointer (some ⟨T, 0, none⟩)) ∧ w'.cell? ⟨T, 3, none⟩ = some (.int .i64 (D.low : Nat)))
    (first | go_keep | exact ⟨(hB2.cell (p := ⟨F, 0, none⟩) hF).trans hp, (hB2.cell (p := ⟨T, 3, none⟩) hT).trans hc3⟩ | exact ⟨(hB1.cell (p := ⟨F, 0, none⟩) hF).trans hp, (hB1.cell (p := ⟨T, 3, none⟩) hT).trans hc3⟩)
    (first
      | (go_at_call 45; refine (tdigits_any HF.out.2 (HF.out.1.below (B := w.heap.size) (by first | exact (Below.refl _ _).drew | exact ((Below.refl _ _).alloc (Nat.le_refl _) _).drew) hF hT) D.low (by omega)).mono ?_; rintro e w1 ⟨v1, rfl, hown1, hb1⟩; have hB1 : Below w.heap.size w w1 := bel_up (by first | exact (Below.refl _ _).drew | exact ((Below.refl _ _).alloc (Nat.le_refl _) _).drew) hb1)
      | (refine step_append_int (by rfl) _ _ (by rfl) w.heap.size _ (digL D.p D.low D.m) (by rfl) (hown1.mono (by simp)) ⟨w.heap.size, 0, none⟩ 1 1 (by rfl) ((hb1.cell (p := ⟨w.heap.size, 0, none⟩) (by simp)).trans (by simp)) (by omega) (by have := hb1.size; simp at this; omega) ?_; intro v2 w2 hown2 hgrow2; have hB2 : Below w.heap.size w w2 := hB1.grown hgrow2 hB1.size (fun k hk => by have := (hown1.lt k hk).1; simp at this; omega))
      | (refine step_append_int (by rfl) _ _ (by rfl) w.heap.size _ (digL D.p D.low D.m) (by rfl) ((hown1.mono (by simp)).alloc _) ⟨w1.heap.size, 0, none⟩ 1 1 (by rfl) (by simp) (by omega) (by have := hb1.size; simp at this ⊢; omega) ?_; intro v2 w2 hown2 hgrow2; have hB2 : Below w.heap.size w w2 := (hB1.alloc hB1.size _).grown hgrow2 (by have := hB1.size; simp; omega) (fun k hk => by have := (hown1.lt k hk).1; simp at this; omega)))
  all_goals
    go_wp2
    go_ret
    exact ⟨_, rfl, hown2, hB2⟩
end Go.Proofs.Ythmjdcajaoilgai
