/- Texts of ours, one behind the other: R5 R6. -/
import Derived.Test.YtjkncdmbcckcdaaZR4
import Derived.Test.YtjkncdmbcckcdaaZM6
import Derived.Test.YtjkncdmbcckcdaaZA5
/- The reference: products, all cases (Mul). -/
namespace Go.Proofs.Ytjkncdmbcckcdaa
open Go.RowKit

set_option maxHeartbeats 2000000 in
theorem rmul_no {D : FD} (gen : Nat) (v : Value) (a b : Int) (w : World) (h : D.has a = false ∨ D.has b = false) :
    Calls Try.prog 55 #[rf D.q D.p D.m gen v, .int .i64 a, .int .i64 b] w fun e w' => e = .returned (.int .i64 (-1)) ∧ Below w.heap.size w w' := by
  by_cases ha : D.has a = true
  · have hb : D.has b = false := by rcases h with h | h; · rw [ha] at h; cases h
                                    · exact h
    clear h
    unfold rf
    go_enter Try.func55, Try.ntmps55
    go_wp2_with fail
    refine (rhas_any D gen v a _).mono ?_
    rintro e w1 ⟨rfl, hb1⟩
    have HX1 : Hid (Box w.heap.size D gen v w1 ∧ Below w.heap.size w w1) := ⟨(box_new D gen v w).below hb1 (by simp), ((Below.refl _ _).alloc (Nat.le_refl _) _).trans (hb1.mono (by simp))⟩
    obtain ⟨c0, c1, c2, c3, c4⟩ := HX1.out.1
    clear hb1
    go_wp2_with fail
    refine (rhas_any D gen v b _).mono ?_
    rintro e w2 ⟨rfl, hb2⟩
    have HB2 : Hid (Below w.heap.size w w2) := HX1.out.2.trans (hb2.mono HX1.out.2.size)
    clear hb2 c0 c1 c2 c3 c4
    go_wp2
    go_ret
    exact ⟨rfl, HB2.out⟩
  · have ha' : D.has a = false := by simpa using ha
    clear h ha
    unfold rf
    go_enter Try.func55, Try.ntmps55
    go_wp2_with fail
    refine (rhas_any D gen v a _).mono ?_
    rintro e w1 ⟨rfl, hb1⟩
    have HB1 : Hid (Below w.heap.size w w1) := ((Below.refl _ _).alloc (Nat.le_refl _) _).trans (hb1.mono (by simp))
    clear hb1
    go_wp2
    go_ret
    exact ⟨rfl, HB1.out⟩

set_option maxHeartbeats 2000000 in
theorem rmul_one {D : FD} (hm : D.m = 1) (hp : 1 ≤ D.p) (hp2 : D.p ≤ 64) (gen : Nat) (v : Value) (a b : Nat) (w : World) (ha : a < 64) (hb : b < 64) (h1 : D.has a = true) (h2 : D.has b = true) :
    Calls Try.prog 55 #[rf D.q D.p D.m gen v, .int .i64 a, .int .i64 b] w fun e w' => e = .returned (.int .i64 (a * b % D.p : Nat)) ∧ Below w.heap.size w w' := by
  have hm' : ((D.m : Int) == 1) = true := by rw [hm]; rfl
  have y4 : a * b ≤ 64 * 64 := Nat.mul_le_mul (by omega) (by omega)
  have y5 : (a : Int) * (b : Int) ≤ 4096 := by rw [← Int.natCast_mul]; omega
  have y6 : 0 ≤ (a : Int) * (b : Int) := by rw [← Int.natCast_mul]; omega
  clear hm
  unfold rf
  go_enter Try.func55, Try.ntmps55
  go_wp2_with fail
  refine (rhas_any D gen v a _).mono ?_
  rintro e w1 ⟨rfl, hb1⟩
  have HX1 : Hid (Box w.heap.size D gen v w1 ∧ Below w.heap.size w w1) := ⟨(box_new D gen v w).below hb1 (by simp), ((Below.refl _ _).alloc (Nat.le_refl _) _).trans (hb1.mono (by simp))⟩
  have hs1 : w.heap.size < w1.heap.size := by have := hb1.size; simp at this; omega
  obtain ⟨c0, c1, c2, c3, c4⟩ := HX1.out.1
  clear hb1
  go_wp2_with fail
  refine (rhas_any D gen v b _).mono ?_
  rintro e w2 ⟨rfl, hb2⟩
  have HX2 : Hid (Box w.heap.size D gen v w2 ∧ Below w.heap.size w w2) := ⟨HX1.out.1.below hb2 hs1, HX1.out.2.trans (hb2.mono HX1.out.2.size)⟩
  clear hb2 c0 c1 c2 c3 c4
  obtain ⟨c0, c1, c2, c3, c4⟩ := HX2.out.1
  go_wp2
  go_ret
  exact ⟨ret_int (by rw [← Int.natCast_mul, ← Int.natCast_emod]), HX2.out.2⟩

/-- A modulus that lies in memory: digits, and what is behind them. -/
structure ModAt (D : FD) (v : Value) (md : Nat → Nat) (w : World) : Prop where
  lies : D.m = 1 ∨ ∃ gm lm cm, v = .slice (some ⟨gm, 0, none⟩) lm cm ∧ D.m < lm ∧ gm < w.heap.size ∧ Nums gm D.m md w
  lt : ∀ j, md j < D.p
theorem ModAt.below {D : FD} {v : Value} {md : Nat → Nat} {w w' : World} (h : ModAt D v md w) (hb : Below w.heap.size w w') : ModAt D v md w' := by
  refine ⟨?_, h.lt⟩
  rcases h.lies with h1 | ⟨gm, lm, cm, h1, h2, h3, h4⟩
  · exact Or.inl h1
  · exact Or.inr ⟨gm, lm, cm, h1, h2, Nat.lt_of_lt_of_le h3 hb.size, h4.below hb h3⟩

/-- The reference's product, whatever the modulus. -/
theorem rmul_gen {D : FD} (hm1 : 1 ≤ D.m) (hm6 : D.m ≤ 6) (hp : 2 ≤ D.p) (hp2 : D.p ≤ 64) (hq : D.q ≤ 64) (gen : Nat) {v : Value} {md : Nat → Nat} (a b : Nat) {w : World} (ha : a < D.q) (hb : b < D.q) (hM : ModAt D v md w) :
    Calls Try.prog 55 #[rf D.q D.p D.m gen v, .int .i64 a, .int .i64 b] w fun e w' => e = .returned (.int .i64 (rmulN D.p D.m md a b : Nat)) ∧ Below w.heap.size w w' := by
  unfold rmulN
  by_cases hm : D.m = 1
  · rw [if_pos hm]
    exact rmul_one hm (by omega) hp2 gen v a b w (by omega) (by omega) (nat_has ha) (nat_has hb)
  · rw [if_neg hm]
    rcases hM.lies with h1 | ⟨gm, lm, cm, rfl, h2, h3, h4⟩
    · exact absurd h1 hm
    · exact rmul_poly (by omega) hm6 hp hp2 gen gm lm cm md a b w (by omega) (by omega) (nat_has ha) (nat_has hb) h2 h3 hM.lt h4

/-- The reference's product in a field. -/
theorem rmul_any {D : FD} (hD : D ∈ fieldsL) (gen : Nat) {v : Value} (a b : Int) {w : World} (hM : ModAt D v D.md w) :
    Calls Try.prog 55 #[rf D.q D.p D.m gen v, .int .i64 a, .int .i64 b] w fun e w' => e = .returned (.int .i64 (D.mulZ a b)) ∧ Below w.heap.size w w' := by
  have F := fld hD
  by_cases ha : D.has a = true
  · by_cases hb : D.has b = true
    · obtain ⟨x, rfl, hx⟩ := has_nat ha
      obtain ⟨y, rfl, hy⟩ := has_nat hb
      have hv : D.mulZ x y = (rmulN D.p D.m D.md x y : Nat) := by rw [rmul_is hD x y hx hy, FD.mulZ, if_pos ⟨ha, hb⟩]; rfl
      rw [hv]
      exact rmul_gen F.m1 F.m6 F.p2 F.p64 F.q64 gen x y hx hy hM
    · have hv : D.mulZ a b = -1 := by rw [FD.mulZ, if_neg (by simp [hb])]
      rw [hv]; exact rmul_no gen v a b w (Or.inr (by simpa using hb))
  · have hv : D.mulZ a b = -1 := by rw [FD.mulZ, if_neg (by simp [ha])]
    rw [hv]; exact rmul_no gen v a b w (Or.inl (by simpa using ha))
end Go.Proofs.Ytjkncdmbcckcdaa

/- The reference: are the powers of an element all but 0 (full)? -/
namespace Go.Proofs.Ytjkncdmbcckcdaa
open Go.RowKit

theorem Try.infoBool : (Try.prog.info? 4).map (fun i => (i.zero, i.size, i.bytes)) = some (some (.bool false), 1, 1) := by kernel_rfl

/-- 'make([]bool, n)'. -/
theorem make_bool {ops : Array Oper} {rest : List Oper} {o : Oper} {a : Act} {w : World} {Q : Exit → Act → World → Prop}
    (hg : o.guard = none) (l c : Operand) (hop : o.op = Op.makeSlice 107 l c) (C : Int) (n : Nat) (hl : a.eval l = .int .i64 C) (hc : a.eval c = .int .i64 C) (hC : C = (n : Int)) (hn : n ≤ 1000000)
    (hK : ∀ w', RowF w.heap.size n 4 (fun _ => .bool false) w' → w.grownBy w' none → wpList Try.prog ops Q rest (a.put o.dst (.slice (some ⟨w.heap.size, 0, none⟩) n n)) w') :
    wpList Try.prog ops Q (o :: rest) a w := by
  obtain ⟨i0, hi, hz0, hz1, hz2⟩ := info_parts Try.infoBool
  refine wpList_make_full w hg l c 107 hop w.heap.size 4 i0 (.bool false) 1 Try.underlying107 hi hz0 hz1 .i64 .i64 C C n hl hc hC hC (by rw [hz2]; omega) (by unfold maxLen; omega) (Nat.le_refl _) ?_
  intro w' hown hgrow
  refine hK w' ?_ hgrow
  have e : (madeCells (Value.bool false).cells (n * 1)).toList = List.replicate n (.bool false) := by
    rw [Nat.mul_one]; exact toList_madeCells_one _ _
  rw [e] at hown
  rcases hown.2 with ⟨h1, _⟩ | ⟨g, cap, cur, hv, _, hh, _, _, hsz, htake⟩
  · simp at h1
  · simp only [Value.slice.injEq, Option.some.injEq, Addr.mk.injEq, and_true, true_and] at hv
    obtain ⟨rfl, rfl⟩ := hv
    refine ⟨cur, hh, by omega, fun o ho => ?_⟩
    have h3 : (cur.toList.take (n * 1))[o]? = (List.replicate n (Value.bool false))[o]? := by rw [htake]
    rw [List.getElem?_take, if_pos (by omega), List.getElem?_replicate, if_pos ho] at h3
    rw [← Array.getElem?_toList]; exact h3

/-- Has a number been met among the first k powers? -/
def seenB (st : Nat → Nat) (k x : Nat) : Bool := (List.range k).any fun i => again st i 1 == x
theorem seenB_true {st : Nat → Nat} {k x : Nat} : seenB st k x = true ↔ ∃ i, i < k ∧ again st i 1 = x := by
  unfold seenB
  rw [List.any_eq_true]
  constructor
  · rintro ⟨i, hi, h⟩; exact ⟨i, List.mem_range.1 hi, beq_iff_eq.1 h⟩
  · rintro ⟨i, hi, h⟩; exact ⟨i, List.mem_range.2 hi, beq_iff_eq.2 h⟩
theorem seenB_succ (st : Nat → Nat) (k x : Nat) : seenB st (k + 1) x = (seenB st k x || again st k 1 == x) := by
  unfold seenB; rw [List.range_succ, List.any_append]; simp

set_option maxHeartbeats 4000000 in
set_option maxRecDepth 100000 in
theorem full_any {D : FD} (hm1 : 1 ≤ D.m) (hm6 : D.m ≤ 6) (hp : 2 ≤ D.p) (hp2 : D.p ≤ 64) (hq2 : 2 ≤ D.q) (hq : D.q ≤ 64) (gen : Nat) {v : Value} {md : Nat → Nat} (g : Nat) {w : World} (hg : g < D.q) (hM : ModAt D v md w)
    (hst : ∀ a, a < D.q → rmulN D.p D.m md a g < D.q) :
    Calls Try.prog 43 #[rf D.q D.p D.m gen v, .int .i64 g] w fun e w' => e = .returned (.bool (fullB (fun a => rmulN D.p D.m md a g) (D.q - 1))) ∧ Below w.heap.size w w' := by
  obtain ⟨st, hstd⟩ : ∃ st : Nat → Nat, st = fun a => rmulN D.p D.m md a g := ⟨_, rfl⟩
  rw [← hstd]
  have HST : Hid ((∀ a, st a = rmulN D.p D.m md a g) ∧ ∀ a, a < D.q → st a < D.q) := ⟨fun a => by rw [hstd], fun a ha => by rw [hstd]; exact hst a ha⟩
  have HM : Hid (ModAt D v md w) := hM
  clear hst hM hstd
  unfold rf
  go_enter Try.func43, Try.ntmps43
  have HB0 := box_new D gen v w
  go_wp2_with (at_make; refine make_bool rfl _ _ rfl _ D.q rfl rfl rfl (by omega) ?_; intro w1 hrow1 hgrow1)
  have hb1 : Below (w.heap.size + 1) _ w1 := below_grown hgrow1 (by simp) (fun k hk => by simp at hk)
  obtain ⟨gs, hgs⟩ : ∃ gs, gs = w.heap.size + 1 := ⟨_, rfl⟩
  have HS : Hid (RowF gs D.q 4 (fun _ => .bool false) w1 ∧ Box w.heap.size D gen v w1 ∧ Below w.heap.size w w1) :=
    ⟨by rw [hgs]; simpa using hrow1, HB0.below hb1 (by omega), ((Below.refl _ _).alloc (Nat.le_refl _) _).trans (hb1.mono (by omega))⟩
  have hgsw : w.heap.size < gs := by omega
  rw [← hgs]
  clear hrow1 hgrow1 hb1 HB0 hgs
  go_loopw [6, 7] (fun a i wr => ∃ (k x : Nat) (f : Nat → Value), k ≤ D.q - 1 ∧ x < D.q ∧ a = .int .i64 x ∧ i = .int .i64 k ∧ Hid (x = again st k 1) ∧ RowF gs D.q 4 f wr ∧ (∀ j, j < D.q → f j = .bool (seenB st k j)) ∧ Full st k ∧ Box w.heap.size D gen v wr ∧ Below w.heap.size w wr) (fun _ i _ => D.q - (intOf i).toNat)
  case atStart => exact ⟨0, 1, _, by omega, by omega, rfl, rfl, rfl, HS.out.1, fun j _ => rfl, fun k hk => by omega, HS.out.2.1, HS.out.2.2⟩
  case round =>
    obtain ⟨k, x, f, hk, hx, rfl, rfl, HX, hrow, hf, hfull, hbox, hbel⟩ := hrel
    obtain ⟨c0, c1, c2, c3, c4⟩ := hbox
    have HG : Hid (RowF gs D.q 4 f wr ∧ (∀ j, j < D.q → f j = .bool (seenB st k j)) ∧ Full st k ∧ Box w.heap.size D gen v wr ∧ Below w.heap.size w wr) := ⟨hrow, hf, hfull, ⟨c0, c1, c2, c3, c4⟩, hbel⟩
    have hlg : gs < wr.heap.size := hrow.lt
    clear hrow hf hfull hbel
    have hcs : wr.cell? ⟨gs, x, none⟩ = some (.bool (seenB st k x)) := by rw [HG.out.1.cell x hx, HG.out.2.1 x hx]
    have hfs := HG.out.1.free x
    by_cases hlt : k < D.q - 1
    · by_cases hx0 : x = 0
      · have HV : Hid (fullB st (D.q - 1) = false) := by
          show _ = _
          rw [← Bool.not_eq_true, fullB_iff]; exact fun h => (h k hlt).1 (by rw [← HX.out, hx0])
        subst hx0
        go_wp2
        go_ret
        exact ⟨ret_bool (by rw [HV.out]), HG.out.2.2.2.2⟩
      · have hb0 : ((x : Int) == 0) = false := by rw [beq_eq_false_iff_ne]; exact_mod_cast hx0
        by_cases hs : seenB st k x = true
        · have HV : Hid (fullB st (D.q - 1) = false) := by
            show _ = _
            obtain ⟨i, hi, e⟩ := seenB_true.1 hs
            rw [← Bool.not_eq_true, fullB_iff]; exact fun h => (h k hlt).2 i hi (by rw [e]; exact HX.out)
          rw [hs] at hcs
          clear hs
          go_wp2
          go_ret
          exact ⟨ret_bool (by rw [HV.out]), HG.out.2.2.2.2⟩
        · have hs' : seenB st k x = false := by simpa using hs
          have HF : Hid (Full st (k + 1)) := full_step HG.out.2.2.1 HX.out hx0 (fun j hj e => hs (seenB_true.2 ⟨j, hj, e⟩))
          rw [hs'] at hcs
          clear hs hs' hx0
          have HC : Hid (∀ w1 : World, Below w.heap.size w w1 → Calls Try.prog 55 #[.agg #[.int .i64 D.q, .int .i64 D.p, .int .i64 D.m, .int .i64 gen, v], .int .i64 x, .int .i64 g] w1 fun e w' => e = .returned (.int .i64 (st x : Nat)) ∧ Below w1.heap.size w1 w') := by
            intro w1 hb
            rw [HST.out.1 x]
            exact rmul_gen hm1 hm6 hp hp2 hq gen x g hx hg (HM.out.below hb)
          go_wp2_with fail
          refine (HC.out _ (HG.out.2.2.2.2.setCell (by show w.heap.size ≤ gs; omega) _)).mono ?_
          rintro e w2 ⟨rfl, hb2⟩
          have hsz : wr.heap.size ≤ w2.heap.size := by have := hb2.size; simpa using this
          have HR : Hid (RowF gs D.q 4 (upd f x (.bool true)) w2 ∧ Box w.heap.size D gen v w2 ∧ Below w.heap.size w w2) :=
            ⟨(HG.out.1.store x _).below hb2 (by simpa using hlg), (HG.out.2.2.2.1.other (Below.heap_setCell wr ⟨gs, x, none⟩ _ _ (by show w.heap.size ≠ gs; omega))).below hb2 (by simp; omega), (HG.out.2.2.2.2.setCell (by show w.heap.size ≤ gs; omega) _).trans (hb2.mono (by simp; omega))⟩
          clear hb2 c0 c1 c2 c3 c4 hcs hfs
          go_wp2
          go_roundw
          case rel =>
            refine ⟨k + 1, st x, _, by omega, HST.out.2 x hx, rfl, by go_num, by rw [HX.out]; rfl, HR.out.1, fun j hj => ?_, HF.out, HR.out.2.1, HR.out.2.2⟩
            rw [seenB_succ, ← HX.out]
            by_cases e : j = x
            · subst e; rw [upd_at]; simp
            · rw [upd_ne _ _ _ e, HG.out.2.1 j hj, show (x == j) = false from by simp; omega, Bool.or_false]
          case measure => simp [intOf]; omega
    · have HV : Hid (fullB st (D.q - 1) = true) := by
        show _ = _
        have e : k = D.q - 1 := by omega
        rw [fullB_iff, ← e]; exact HG.out.2.2.1
      go_wp2
      go_ret
      exact ⟨ret_bool (by rw [HV.out]), HG.out.2.2.2.2⟩
end Go.Proofs.Ytjkncdmbcckcdaa
