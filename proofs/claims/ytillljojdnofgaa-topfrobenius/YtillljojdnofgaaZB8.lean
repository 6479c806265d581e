/- A field's calls, gone on: what a smaller field's elements become (Embed). -/
import Derived.Test.YtillljojdnofgaaZB7
namespace Go.Proofs.Ytillljojdnofgaa
open Go.RowKit

theorem nums_digL {p a m base g cap : Nat} {w : World} (hm : 1 ≤ m) (h : OwnI base (.slice (some ⟨g, 0, none⟩) m cap) (digL p a m) w) : Nums g m (fun j => dg p a j) w := by
  intro j hj
  obtain ⟨g', cap', hv, _, _, hc, _⟩ := h.at (by intro e; have := congrArg List.length e; rw [digL_len] at this; simp at this; omega)
  simp only [Value.slice.injEq, Option.some.injEq, Addr.mk.injEq, and_true] at hv
  obtain ⟨rfl, _, _⟩ := hv
  rw [hc j (by rw [digL_len]; exact hj), digL_get _ _ _ _ hj]

set_option maxHeartbeats 4000000 in
set_option maxRecDepth 100000 in
theorem embed_form {D E : FD} (hD : D ∈ fieldsL) (hE : E ∈ fieldsL) (w : World) (h : ¬ (E.p = D.p ∧ D.m % E.m = 0)) :
    Calls Try.prog 36 #[.int .i64 E.q, .int .i64 D.q] w fun e w' => e = .returned (.tuple #[.slice none 0 0, .int .i64 3]) ∧ Below w.heap.size w w' := by
  have HN : Hid (D ∈ fieldsL ∧ E ∈ fieldsL) := ⟨hD, hE⟩
  have hd : decide (E.p = D.p ∧ D.m % E.m = 0) = false := decide_eq_false h
  clear h hE hD
  go_enter Try.func36, Try.ntmps36
  go_wp2_with fail
  refine (new_any HN.out.2 w).mono ?_
  rintro e w1 ⟨F2, T2, g2, rfl, hat, hF2, hT2, hb1⟩
  have HB : Hid (FAt F2 T2 E g2 w1 ∧ Below w.heap.size w w1) := ⟨hat, hb1⟩
  clear hat hb1
  go_wp2_with fail
  refine (new_any HN.out.1 w1).mono ?_
  rintro e w2 ⟨F, T, g, rfl, hat, hF, hT, hb2⟩
  have HA : Hid (FAt F T D g w2 ∧ FAt F2 T2 E g2 w2 ∧ Below w.heap.size w w2) := ⟨hat, HB.out.1.below hb2 HB.out.1.ltF HB.out.1.ltT, bel_up HB.out.2 hb2⟩
  clear hat hb2 HB
  go_wp2_with fail
  refine (holds_any HN.out.2 HA.out.1 HA.out.2.1).mono ?_
  rintro e w' ⟨rfl, n, rfl⟩
  rw [hd]
  go_wp2
  go_ret2
  exact ⟨rfl, below_drewN2 HA.out.2.2 _⟩

set_option maxHeartbeats 4000000 in
set_option maxRecDepth 100000 in
theorem embed_any {D E : FD} (hD : D ∈ fieldsL) (hE : E ∈ fieldsL) (w : World) (h : E.p = D.p ∧ D.m % E.m = 0) :
    Calls Try.prog 36 #[.int .i64 E.q, .int .i64 D.q] w fun e w' => ∃ v, e = .returned (.tuple #[v, .int .i64 0]) ∧ OwnI w.heap.size v (D.embL E) w' ∧ Below w.heap.size w w' := by
  have HN : Hid (D ∈ fieldsL ∧ E ∈ fieldsL ∧ E.p = D.p ∧ D.m % E.m = 0) := ⟨hD, hE, h⟩
  have hd : decide (E.p = D.p ∧ D.m % E.m = 0) = true := decide_eq_true h
  have hq2 := (fld hE).q2
  have hq64 := (fld hE).q64
  have hQ64 := (fld hD).q64
  have hm6 := (fld hE).m6
  have hm1 := (fld hE).m1
  clear h hE hD
  go_enter Try.func36, Try.ntmps36
  go_wp2_with fail
  refine (new_any HN.out.2.1 w).mono ?_
  rintro e w1 ⟨F2, T2, g2, rfl, hat, hF2, hT2, hb1⟩
  have HB : Hid (FAt F2 T2 E g2 w1 ∧ Below w.heap.size w w1) := ⟨hat, hb1⟩
  clear hat hb1
  go_wp2_with fail
  refine (new_any HN.out.1 w1).mono ?_
  rintro e w2 ⟨F, T, g, rfl, hat, hF, hT, hb2⟩
  have HA : Hid (FAt F T D g w2 ∧ FAt F2 T2 E g2 w2 ∧ Below w.heap.size w w2) := ⟨hat, HB.out.1.below hb2 HB.out.1.ltF HB.out.1.ltT, bel_up HB.out.2 hb2⟩
  clear hat hb2 HB
  go_wp2_with fail
  refine (holds_any HN.out.2.1 HA.out.1 HA.out.2.1).mono ?_
  rintro e w' ⟨rfl, n, hw⟩
  rw [hd]
  have HA2 : Hid (FAt F T D g w' ∧ FAt F2 T2 E g2 w' ∧ Below w.heap.size w w') := by
    rw [hw]; exact ⟨HA.out.1.drewN n, HA.out.2.1.drewN n, below_drewN2 HA.out.2.2 n⟩
  clear hw HA
  go_wp2_with fail
  refine (rootFor_any HN.out.1 HN.out.2.1 HN.out.2.2 HA2.out.1 HA2.out.2.1).mono ?_
  rintro e w3 ⟨rfl, hb3⟩
  have HA3 : Hid (FAt F T D g w3 ∧ FAt F2 T2 E g2 w3 ∧ Below w.heap.size w w3) := ⟨HA2.out.1.below hb3 HA2.out.1.ltF HA2.out.1.ltT, HA2.out.2.1.below hb3 HA2.out.2.1.ltF HA2.out.2.1.ltT, bel_up HA2.out.2.2 hb3⟩
  clear hb3 HA2
  obtain ⟨x, hx⟩ : ∃ x, x = D.root E := ⟨_, rfl⟩
  rw [← hx]
  have hxq : x < D.q := by rw [hx]; exact root_lt HN.out.1
  have HX : Hid (x = D.root E) := hx
  clear hx
  go_wp2_with (at_make; refine make_int rfl _ _ rfl _ E.q rfl rfl rfl (by omega) ?_; intro w4 hown4 hgrow4)
  have hb4 : Below w3.heap.size w3 w4 := below_grown hgrow4 (Nat.le_refl _) (fun k hk => by simp at hk)
  obtain ⟨gl, cl, fl, hvl, hgl, hgl', hll, hcl, hrl, hfl⟩ := hown4.row E.q (by simp) (by omega)
  simp only [Value.slice.injEq, Option.some.injEq, Addr.mk.injEq, and_true, true_and] at hvl
  obtain ⟨rfl, rfl⟩ := hvl
  have HA4 : Hid (FAt F T D g w4 ∧ FAt F2 T2 E g2 w4 ∧ Below w.heap.size w w4 ∧ RowF w3.heap.size E.q 3 fl w4 ∧ Below w3.heap.size w3 w4 ∧ FAt F T D g w3 ∧ FAt F2 T2 E g2 w3 ∧ Below w.heap.size w w3) :=
    ⟨HA3.out.1.below hb4 HA3.out.1.ltF HA3.out.1.ltT, HA3.out.2.1.below hb4 HA3.out.2.1.ltF HA3.out.2.1.ltT, bel_up HA3.out.2.2 hb4, hrl, hb4, HA3.out⟩
  have hsz3 := HA3.out.2.2.size
  clear hown4 hgrow4 hrl hfl hgl hll hcl hb4 HA3
  go_loopw [39] (fun i wr => ∃ (a : Nat) (f : Nat → Value), a ≤ E.q ∧ i = .int .i64 a ∧ RowF w3.heap.size E.q 3 f wr ∧ (∀ t, t < a → f t = .int .i64 (D.val (fun j => dg E.p t j) E.m x E.m : Nat)) ∧ Below w3.heap.size w3 wr) (fun i _ => E.q - (intOf i).toNat)
  case atStart => exact ⟨0, fl, by omega, rfl, HA4.out.2.2.2.1, fun t ht => by omega, HA4.out.2.2.2.2.1⟩
  case round =>
    obtain ⟨a, f, ha, rfl, hrow, hf, hbel⟩ := hrel
    have HG : Hid (FAt F T D g wr ∧ FAt F2 T2 E g2 wr ∧ RowF w3.heap.size E.q 3 f wr ∧ (∀ t, t < a → f t = .int .i64 (D.val (fun j => dg E.p t j) E.m x E.m : Nat)) ∧ Below w3.heap.size w3 wr) :=
      ⟨HA4.out.2.2.2.2.2.1.below hbel HA4.out.2.2.2.2.2.1.ltF HA4.out.2.2.2.2.2.1.ltT, HA4.out.2.2.2.2.2.2.1.below hbel HA4.out.2.2.2.2.2.2.1.ltF HA4.out.2.2.2.2.2.2.1.ltT, hrow, hf, hbel⟩
    clear hrow hf hbel
    by_cases hlt : a < E.q
    · have hp2 := HG.out.2.1.ptr
      have hrsz := HG.out.2.2.2.2.size
      have hgl4 : w3.heap.size < wr.heap.size := HG.out.2.2.1.lt
      go_wp2_with fail
      refine (tdigits_any HN.out.2.1 HG.out.2.1 a (by omega)).mono ?_
      rintro e w5 ⟨v, rfl, hown5, hb5⟩
      obtain ⟨gd, cd, fd, hvd, hgd⟩ := hown5.row E.m (digL_len _ _ _) (by omega)
      subst hvd
      obtain ⟨y, hy⟩ : ∃ y, y = D.val (fun j => dg E.p a j) E.m x E.m := ⟨_, rfl⟩
      have HC : Hid (Calls Try.prog 68 #[.pointer (some ⟨F, 0, none⟩), .slice (some ⟨gd, 0, none⟩) E.m cd, .int .i64 x] w5 fun e w' => e = .returned (.int .i64 (y : Nat)) ∧ ∃ n, w' = w5.drewN n) := by
        rw [hy]
        exact at_any HN.out.1 (HG.out.1.below hb5 HG.out.1.ltF HG.out.1.ltT) gd cd E.m x _ hxq (by omega) (fun j => dg_ltq HN.out.1 HN.out.2.1 HN.out.2.2.1 a j) (nums_digL hm1 hown5)
      have HY : Hid (y = D.val (fun j => dg E.p a j) E.m x E.m) := hy
      have HB5 : Hid (Below wr.heap.size wr w5) := hb5
      clear hy hown5 hb5 hgd
      go_wp2_with fail
      refine HC.out.mono ?_
      rintro e w6 ⟨rfl, n6, hw6⟩
      have HB6 : Hid (RowF w3.heap.size E.q 3 f w6 ∧ Below w3.heap.size w3 w6) := by
        have hb : Below wr.heap.size wr w6 := by rw [hw6]; exact below_drewN2 HB5.out _
        exact ⟨HG.out.2.2.1.below hb hgl4, HG.out.2.2.2.2.trans (hb.mono hrsz)⟩
      clear hw6 HC HB5
      have hcs := HB6.out.1.cell a hlt
      have hfs := HB6.out.1.free a
      go_wp2
      go_roundw
      case rel =>
        exact ⟨a + 1, _, by omega, by go_num, HB6.out.1.store _ _, fun t ht => if e : t = a then by rw [e, upd_at, ← HY.out] else (upd_ne _ _ _ e).trans (HG.out.2.2.2.1 t (by omega)), HB6.out.2.setCell (by simp) _⟩
      case measure => simp [intOf]; omega
    · have HV : Hid (OwnI w.heap.size (.slice (some ⟨w3.heap.size, 0, none⟩) E.q E.q) (D.embL E) wr) := by
        refine HG.out.2.2.1.own (by simp [FD.embL]) (fun t ht => ?_) hsz3 (by omega)
        rw [HG.out.2.2.2.1 t (by omega), HX.out]
        unfold FD.embL
        rw [List.getD_eq_getElem?_getD, List.getElem?_map, List.getElem?_range ht]
        rfl
      go_wp2
      go_ret2
      exact ⟨_, rfl, HV.out, bel_up HA4.out.2.2.2.2.2.2.2 HG.out.2.2.2.2⟩
end Go.Proofs.Ytillljojdnofgaa
