/- A field's calls, gone on: its modulus, the elements of a smaller field. -/
import Derived.Test.YtillljojdnofgaaZB4
import Derived.Test.YtillljojdnofgaaZR18
import Derived.Deep.RegionWith
import Derived.Deep.RegionHeld3
namespace Go.Proofs.Ytillljojdnofgaa
open Go.RowKit

theorem RowF.own {g n base : Nat} {f : Nat → Value} {l : List Int} {w : World} (h : RowF g n 3 f w) (hl : l.length = n) (hf : ∀ j, j < n → f j = .int .i64 (l.getD j 0)) (hb : base ≤ g) (hn : n ≤ 1000000) : OwnI base (.slice (some ⟨g, 0, none⟩) n n) l w := by
  obtain ⟨cs, h1, h2, h3⟩ := h
  refine ⟨by simp, Or.inr ⟨g, n, cs, by rw [hl], hb, h1, by omega, by unfold maxLen; omega, by omega, ?_⟩⟩
  rw [hl, Nat.mul_one, List.take_of_length_le (by simp; omega)]
  apply List.ext_getElem?
  intro i
  by_cases hi : i < n
  · rw [Array.getElem?_toList, h3 i hi, hf i hi, List.getElem?_map, List.getD_eq_getElem?_getD, List.getElem?_eq_getElem (by omega)]; rfl
  · rw [List.getElem?_eq_none (by simp; omega), List.getElem?_eq_none (by simp; omega)]

set_option maxHeartbeats 2000000 in
theorem tdigits_any {F T : Nat} {D : FD} (hD : D ∈ fieldsL) {g : Nat → Value} {w : World} (h : FAt F T D g w) (a : Nat) (ha : a < 64) :
    Calls Try.prog 69 #[.pointer (some ⟨T, 0, none⟩), .int .i64 a] w fun e w' => ∃ v, e = .returned v ∧ OwnI w.heap.size v (digL D.p a D.m) w' ∧ Below w.heap.size w w' := by
  have hc2 : w.cell? ⟨T, 2, none⟩ = some (.int .i64 D.m) := by rw [h.row.cell 2 (by omega), h.tab.c2]
  have hT := h.ltT
  have hm1 := (fld hD).m1
  have hm6 := (fld hD).m6
  have hp2 := (fld hD).p2
  have hp64 := (fld hD).p64
  have HF : Hid (FAt F T D g w ∧ D ∈ fieldsL) := ⟨h, hD⟩
  clear h hD
  go_enter Try.func69, Try.ntmps69
  go_wp2_with (at_make; refine make_int rfl _ _ rfl _ D.m rfl rfl rfl (by omega) ?_; intro w1 hown1 hgrow1)
  have hb1 : Below w.heap.size w w1 := below_grown hgrow1 (Nat.le_refl _) (fun k hk => by simp at hk)
  obtain ⟨gl, cl, fl, hvl, hgl, hgl', hll, hcl, hrl, hfl⟩ := hown1.row D.m (by simp) (by omega)
  simp only [Value.slice.injEq, Option.some.injEq, Addr.mk.injEq, and_true, true_and] at hvl
  obtain ⟨rfl, rfl⟩ := hvl
  have HS : Hid (RowF w.heap.size D.m 3 fl w1 ∧ Below w.heap.size w w1) := ⟨hrl, hb1⟩
  clear hown1 hgrow1 hrl hfl hb1 hgl hll hcl
  go_loopw [1, 14] (fun x i wr => ∃ (j y : Nat) (f : Nat → Value), j ≤ D.m ∧ y ≤ a ∧ x = .int .i64 y ∧ i = .int .i64 j ∧ Hid (y = a / D.p ^ j) ∧ RowF w.heap.size D.m 3 f wr ∧ (∀ t, t < j → f t = .int .i64 (dg D.p a t : Nat)) ∧ Below w.heap.size w wr) (fun _ i _ => D.m - (intOf i).toNat)
  case atStart => exact ⟨0, a, fl, by omega, by omega, rfl, rfl, by simp [Hid], HS.out.1, fun t ht => by omega, HS.out.2⟩
  case round =>
    obtain ⟨j, y, f, hj, hy, rfl, rfl, HY, hrow, hf, hbel⟩ := hrel
    have hc1 : wr.cell? ⟨T, 1, none⟩ = some (.int .i64 D.p) := by rw [(bcell hbel).1 T 1 hT, HF.out.1.row.cell 1 (by omega), HF.out.1.tab.sum.c1]
    have HG : Hid (RowF w.heap.size D.m 3 f wr ∧ (∀ t, t < j → f t = .int .i64 (dg D.p a t : Nat)) ∧ Below w.heap.size w wr) := ⟨hrow, hf, hbel⟩
    clear hrow hf hbel
    by_cases hlt : j < D.m
    · have hcs := HG.out.1.cell j hlt
      have hfs := HG.out.1.free j
      have hne : ¬ T = w.heap.size := by omega
      have HN : Hid (y / D.p = a / D.p ^ (j + 1)) := by show _ = _; rw [HY.out, Nat.div_div_eq_div_mul, Nat.pow_succ]
      have HD2 : Hid (y % D.p = dg D.p a j) := by show _ = _; rw [HY.out]; rfl
      have hq1 : y / D.p ≤ y := Nat.div_le_self _ _
      go_wp2
      go_roundw
      case rel => exact ⟨j + 1, y / D.p, _, by omega, by omega, by rw [w_quo y D.p (by omega)], by go_num, HN.out, HG.out.1.store _ _, fun t ht => if e : t = j then by rw [e, upd_at, ← HD2.out]; rfl else (upd_ne _ _ _ e).trans (HG.out.2.1 t (by omega)), HG.out.2.2.setCell (by simp) _⟩
      case measure => simp [intOf]; omega
    · have HV : Hid (OwnI w.heap.size (.slice (some ⟨w.heap.size, 0, none⟩) D.m D.m) (digL D.p a D.m) wr) :=
        HG.out.1.own (digL_len _ _ _) (fun t ht => by rw [HG.out.2.1 t (by omega), digL_get _ _ _ _ ht]) (Nat.le_refl _) (by omega)
      go_wp2
      go_ret
      exact ⟨_, rfl, HV.out, HG.out.2.2⟩

theorem low_lt {D : FD} (hD : D ∈ fieldsL) : D.low < D.q := by
  have F := fld hD
  by_cases hm : D.m = 1
  · have := (F.least1 hm).2.2.2.1; have := F.q2; omega
  · exact (F.least2 hm).2.1

/-- 'append(l, y)', l the call's own, at a step of a region that draws its order. -/
theorem step_append_int {ops : Array Oper} {o : Oper} {a : Act} {w : World} {K : Act → World → Prop} {Q : Exit → Act → World → Prop} {E : Prop} (hgd : o.guard = none) (s x : Operand)
    (ho : o.op = .call { callee := .builtin .append, args := #[s, x], argTypes := #[22, 22] })
    (base : Nat) (v : Value) (l : List Int) (hs : a.eval s = v) (hown : OwnI base v l w) (ad : Addr) (c : Nat) (y : Int) (hx : a.eval x = .slice (some ad) 1 c) (hcell : w.cell? ad = some (.int .i64 y))
    (hlen : l.length ≤ 1000000) (hbase : base ≤ w.heap.size)
    (h : ∀ v' w', OwnI base v' (l ++ [y]) w' → w.grownBy w' v.ownBlock → K (a.put o.dst v') w') : if Region.wanted o (yielded ops a.tmps) = true then Oper.wp Try.prog o a w K Q else E := by
  have hw : Region.wanted o (yielded ops a.tmps) = true := by simp [Region.wanted, hgd]
  rw [if_pos hw]
  obtain ⟨i0, hi, hz0, hz1, hz2⟩ := info_parts Try.infoInt
  refine wp_append_own w s x 22 ho base 3 i0 (.int .i64 0) 1 8 Try.underlying22 hi hz0 hz1 hz2 rfl (by decide) v l.length _ hs hown ad 1 c [.int .i64 y] hx rfl ?_ ?_ ?_ ?_ hbase ?_
  · intro j u hj
    match j, hj with
    | 0, hj =>
      simp at hj; subst hj
      have : ad.add 0 = ad := by cases ad with | mk b o s => cases s <;> simp [Addr.add]
      rw [this]; exact hcell
  · intro u hu; simp at hu; subst hu; rfl
  · unfold maxLen; omega
  · omega
  · intro v' w' hown' hgrow _
    refine h v' w' ?_ hgrow
    unfold OwnI
    rw [List.map_append, List.length_append]
    exact hown'

theorem bel_up {B : Nat} {w W w1 : World} (h0 : Below B w W) (h : Below W.heap.size W w1) (hB : B ≤ w.heap.size := by exact Nat.le_refl _) : Below B w w1 := h0.trans (h.mono (Nat.le_trans hB h0.size))

set_option maxHeartbeats 4000000 in
set_option maxRecDepth 100000 in
theorem poly_any {F T : Nat} {D : FD} (hD : D ∈ fieldsL) {g : Nat → Value} {w : World} (h : FAt F T D g w) :
    Calls Try.prog 86 #[.pointer (some ⟨F, 0, none⟩)] w fun e w' => ∃ v, e = .returned v ∧ OwnI w.heap.size v D.modL w' ∧ Below w.heap.size w w' := by
  have hp := h.ptr
  have hc3 : w.cell? ⟨T, 3, none⟩ = some (.int .i64 D.low) := by rw [h.row.cell 3 (by omega), h.tab.c3]
  have hF := h.ltF
  have hT := h.ltT
  have hm6 := (fld hD).m6
  have hll := low_lt hD
  have h64 := (fld hD).q64
  have HF : Hid (FAt F T D g w ∧ D ∈ fieldsL) := ⟨h, hD⟩
  have hlen := digL_len D.p D.low D.m
  have nF := World.new_ne w _ hp
  have nT := World.new_ne w _ hc3
  clear h hD
  go_enter Try.func86, Try.ntmps86
  go_wp2
  go_region_held3 (fun w' => w'.cell? ⟨F, 0, none⟩ = some (.pointer (some ⟨T, 0, none⟩)) ∧ w'.cell? ⟨T, 3, none⟩ = some (.int .i64 (D.low : Nat)))
    (first | go_keep | exact ⟨(hB2.cell (p := ⟨F, 0, none⟩) hF).trans hp, (hB2.cell (p := ⟨T, 3, none⟩) hT).trans hc3⟩ | exact ⟨(hB1.cell (p := ⟨F, 0, none⟩) hF).trans hp, (hB1.cell (p := ⟨T, 3, none⟩) hT).trans hc3⟩)
    (first
      | (go_at_call 69; refine (tdigits_any HF.out.2 (HF.out.1.below (B := w.heap.size) (by first | exact (Below.refl _ _).drew | exact ((Below.refl _ _).alloc (Nat.le_refl _) _).drew) hF hT) D.low (by omega)).mono ?_; rintro e w1 ⟨v1, rfl, hown1, hb1⟩; have hB1 : Below w.heap.size w w1 := bel_up (by first | exact (Below.refl _ _).drew | exact ((Below.refl _ _).alloc (Nat.le_refl _) _).drew) hb1)
      | (refine step_append_int (by rfl) _ _ (by rfl) w.heap.size _ (digL D.p D.low D.m) (by rfl) (hown1.mono (by simp)) ⟨w.heap.size, 0, none⟩ 1 1 (by rfl) ((hb1.cell (p := ⟨w.heap.size, 0, none⟩) (by simp)).trans (by simp)) (by omega) (by have := hb1.size; simp at this; omega) ?_; intro v2 w2 hown2 hgrow2; have hB2 : Below w.heap.size w w2 := hB1.grown hgrow2 hB1.size (fun k hk => by have := (hown1.lt k hk).1; simp at this; omega))
      | (refine step_append_int (by rfl) _ _ (by rfl) w.heap.size _ (digL D.p D.low D.m) (by rfl) ((hown1.mono (by simp)).alloc _) ⟨w1.heap.size, 0, none⟩ 1 1 (by rfl) (by simp) (by omega) (by have := hb1.size; simp at this ⊢; omega) ?_; intro v2 w2 hown2 hgrow2; have hB2 : Below w.heap.size w w2 := (hB1.alloc hB1.size _).grown hgrow2 (by have := hB1.size; simp; omega) (fun k hk => by have := (hown1.lt k hk).1; simp at this; omega)))
  all_goals
    go_wp2
    go_ret
    exact ⟨_, rfl, hown2, hB2⟩
end Go.Proofs.Ytillljojdnofgaa
