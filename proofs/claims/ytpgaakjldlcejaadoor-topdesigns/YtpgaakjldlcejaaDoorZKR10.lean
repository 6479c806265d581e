/- Golay: Design. -/
import Derived.Test.YtpgaakjldlcejaaDoorZKR4
import Derived.Test.YtpgaakjldlcejaaDoorZW14
namespace Go.Proofs.YtpgaakjldlcejaaDoor
open Go.RowKit Go.Sort Go.Shelf
attribute [local go_sem] Oper.semAt_some

theorem Tryd.infoSet : (Tryd.prog.info? 43).map (fun i => (i.zero, i.size, i.bytes)) = some (some (.int .u64 0), 1, 8) := by kernel_rfl
/-- 'make([]set, n)'. -/
theorem make_set {ops : Array Oper} {rest : List Oper} {o : Oper} {a : Act} {w : World} {Q : Exit → Act → World → Prop}
    (hg : o.guard = none) (l c : Operand) (hop : o.op = Op.makeSlice 51 l c) (C : Int) (n : Nat) (hl : a.eval l = .int .i64 C) (hc : a.eval c = .int .i64 C) (hC : C = (n : Int)) (hn : n ≤ 1000000)
    (hK : ∀ w', RowF w.heap.size n 43 (fun _ => .int .u64 0) w' → w.grownBy w' none → wpList Tryd.prog ops Q rest (a.put o.dst (.slice (some ⟨w.heap.size, 0, none⟩) n n)) w') :
    wpList Tryd.prog ops Q (o :: rest) a w := by
  obtain ⟨i0, hi, hz0, hz1, hz2⟩ := info_parts Tryd.infoSet
  refine wpList_make_full w hg l c 51 hop w.heap.size 43 i0 (.int .u64 0) 1 Tryd.underlying51 hi hz0 hz1 .i64 .i64 C C n hl hc hC hC (by rw [hz2]; omega) (by unfold maxLen; omega) (Nat.le_refl _) ?_
  intro w' hown hgrow
  refine hK w' ?_ hgrow
  have e : (madeCells (Value.int .u64 0).cells (n * 1)).toList = List.replicate n (.int .u64 0) := by
    rw [Nat.mul_one]; exact toList_madeCells_one _ _
  rw [e] at hown
  rcases hown.2 with ⟨h1, _⟩ | ⟨g, cap, cur, hv, _, hh, _, _, hsz, htake⟩
  · cases h1
  · simp only [Value.slice.injEq, Option.some.injEq, Addr.mk.injEq, and_true, true_and] at hv
    obtain ⟨rfl, rfl⟩ := hv
    refine ⟨cur, hh, by omega, fun o ho => ?_⟩
    have h3 : (cur.toList.take (n * 1))[o]? = (List.replicate n (Value.int .u64 0))[o]? := by rw [htake]
    rw [List.getElem?_take, if_pos (by omega), List.getElem?_replicate, if_pos ho, Array.getElem?_toList] at h3
    exact h3
theorem RowF.slu {g m : Nat} {f : Nat → Nat} {w : World} (h : RowF g m 43 (fun j => .int .u64 (f j : Nat)) w) : SlU (some ⟨g, 0, none⟩) m f w := fun i hi => ⟨g, 0, rfl, by rw [Nat.zero_add]; exact h.cell i hi⟩

/-- The three results' cells. -/
def Rs3 (B : Nat) (k : Int) (o : Bool) (x : Int) (w : World) : Prop := RowF B 1 3 (fun _ => .int .i64 k) w ∧ RowF (B + 1) 1 4 (fun _ => .bool o) w ∧ RowF (B + 1 + 1) 1 24 (fun _ => .int .i64 x) w
theorem rs3_new {w w0 : World} (hw0 : w0 = ((w.alloc (.cells #[.int .i64 0] 3)).alloc (.cells #[.bool false] 4)).alloc (.cells #[.int .i64 0] 24)) : Below w.heap.size w w0 ∧ w0.heap.size = w.heap.size + 3 ∧ Rs3 w.heap.size 0 false 0 w0 := by
  have h1 : RowF w.heap.size 1 3 (fun _ => .int .i64 0) (w.alloc (.cells #[.int .i64 0] 3)) := ⟨_, World.alloc_heap_new w _, rfl, fun o ho => by rw [show o = 0 by omega]; rfl⟩
  obtain ⟨wa, hwa⟩ : ∃ wa, wa = w.alloc (.cells #[.int .i64 0] 3) := ⟨_, rfl⟩
  have hsa : wa.heap.size = w.heap.size + 1 := by rw [hwa]; simp
  rw [← hwa] at h1 hw0
  have h2 : RowF wa.heap.size 1 4 (fun _ => .bool false) (wa.alloc (.cells #[.bool false] 4)) := ⟨_, World.alloc_heap_new wa _, rfl, fun o ho => by rw [show o = 0 by omega]; rfl⟩
  obtain ⟨wb, hwb⟩ : ∃ wb, wb = wa.alloc (.cells #[.bool false] 4) := ⟨_, rfl⟩
  have hsb : wb.heap.size = wa.heap.size + 1 := by rw [hwb]; simp
  have h1b : RowF w.heap.size 1 3 (fun _ => .int .i64 0) wb := by rw [hwb]; exact h1.alloc _
  rw [← hwb] at h2 hw0
  have h3 : RowF wb.heap.size 1 24 (fun _ => .int .i64 0) w0 := by rw [hw0]; exact ⟨_, World.alloc_heap_new wb _, rfl, fun o ho => by rw [show o = 0 by omega]; rfl⟩
  refine ⟨?_, by rw [hw0]; simp; omega, by rw [hw0]; exact h1b.alloc _, by rw [hw0, ← hsa]; exact h2.alloc _, by rw [show w.heap.size + 1 + 1 = wb.heap.size by omega]; exact h3⟩
  rw [hw0, hwb, hwa]
  exact (((Below.refl _ _).alloc (Nat.le_refl _) _).alloc (by simp) _).alloc (by simp; omega) _
theorem Rs3.below {B : Nat} {k : Int} {o : Bool} {x : Int} {w w' : World} (h : Rs3 B k o x w) (hb : Below w.heap.size w w') : Rs3 B k o x w' := ⟨h.1.below hb h.1.lt, h.2.1.below hb h.2.1.lt, h.2.2.below hb h.2.2.lt⟩
theorem Rs3.same {B : Nat} {k : Int} {o : Bool} {x : Int} {w w' : World} (h : Rs3 B k o x w) (hs : ∀ i, i < B + 3 → w'.heap[i]? = w.heap[i]?) : Rs3 B k o x w' := ⟨h.1.other (hs _ (by omega)), h.2.1.other (hs _ (by omega)), h.2.2.other (hs _ (by omega))⟩
theorem Rs3.put {B : Nat} {k k' : Int} {o : Bool} {x : Int} {w : World} (h : Rs3 B k o x w) : Rs3 B k' o x (w.setCell ⟨B, 0, none⟩ (.int .i64 k')) := ⟨(h.1.store 0 _).congr (fun j hj => by rw [show j = 0 by omega]; exact upd_at _ _ _), h.2.1.setOther _ (by show B + 1 ≠ B; omega) _, h.2.2.setOther _ (by show B + 1 + 1 ≠ B; omega) _⟩
theorem Rs3.put2 {B : Nat} {k : Int} {o o' : Bool} {x : Int} {w : World} (h : Rs3 B k o x w) : Rs3 B k o' x (w.setCell ⟨B + 1, 0, none⟩ (.bool o')) := ⟨h.1.setOther _ (by simp) _, (h.2.1.store 0 _).congr (fun j hj => by rw [show j = 0 by omega]; exact upd_at _ _ _), h.2.2.setOther _ (by simp) _⟩
theorem Rs3.put3 {B : Nat} {k : Int} {o : Bool} {x x' : Int} {w : World} (h : Rs3 B k o x w) : Rs3 B k o x' (w.setCell ⟨B + 1 + 1, 0, none⟩ (.int .i64 x')) := ⟨h.1.setOther _ (by show B ≠ B + 1 + 1; omega) _, h.2.1.setOther _ (by show B + 1 ≠ B + 1 + 1; omega) _, (h.2.2.store 0 _).congr (fun j hj => by rw [show j = 0 by omega]; exact upd_at _ _ _)⟩

theorem sgo_lt {F : Nat → Nat → List Nat} {n s : Nat} (hF : ∀ v s, v ≤ n → s < 2 ^ 64 → ∀ x, x ∈ F v s → x < 2 ^ 64) (hn : n ≤ 64) (hs : s < 2 ^ 64) : ∀ k v, v + k ≤ n → ∀ x, x ∈ sgo F s k v → x < 2 ^ 64
  | 0, _, _, x, h => by cases h
  | k + 1, v, hv, x, h => by
    rcases List.mem_append.1 (show x ∈ F (v + 1) (s ||| 2 ^ v) ++ sgo F s k (v + 1) from h) with h | h
    · exact hF (v + 1) _ (by omega) (Nat.or_lt_two_pow hs (Nat.pow_lt_pow_right (by omega) (by omega))) x h
    · exact sgo_lt hF hn hs k (v + 1) (by omega) x h
theorem sls_lt {n : Nat} (hn : n ≤ 64) : ∀ t v s, v ≤ n → s < 2 ^ 64 → ∀ x, x ∈ sls n t v s → x < 2 ^ 64
  | 0, _, s, _, hs, x, h => by rw [List.mem_singleton.1 (show x ∈ [s] from h)]; exact hs
  | t + 1, v, s, hv, hs, x, h => by
    by_cases e : n - t - v = 0
    · have h2 : x ∈ sgo (sls n t) s (n - t - v) v := h
      rw [e] at h2; cases h2
    · exact sgo_lt (fun v s h1 h2 => sls_lt hn t v s h1 h2) hn hs (n - t - v) v (by omega) x h
/-- What Design tells. -/
def DgP (c : Nat → Nat) (L : List Nat) (e : Ending) : Prop :=
  (∃ k : Int, dsr c L (-1) = some k ∧ e = .returned (.tuple #[.int .i64 k, .bool true, .int .i64 0])) ∨ (dsr c L (-1) = none ∧ e = .returned (.tuple #[.int .i64 0, .bool false, .int .i64 0]))

set_option maxHeartbeats 16000000 in
set_option maxRecDepth 100000 in
theorem design_ok {ao : Option Addr} {m ca n t : Nat} {A : Nat → Option Addr} {N C : Nat → Nat} {Z : Nat → Nat → Int} {w : World} (hM : MatZ ao m A N C Z w) (hm : m ≤ 6000) (hN : ∀ i, i < m → N i ≤ 6000) (hn : n ≤ 64) (ht : t ≤ n) (hp : gpl (n : Int) N Z m = false) (he : gde (n : Int) m N Z (t : Int) = 0) :
    Calls Tryd.prog 8 #[.int .i64 (n : Nat), .slice ao m ca, .int .i64 (t : Nat)] w fun e w' => DgP (fun s => lic (bkf N Z) s m) (sls n t 0 0) e ∧ Below w.heap.size w w' := by
  have HC : Hid (∀ wx, Below w.heap.size w wx → Calls Tryd.prog 18 #[.int .i64 (n : Nat), .slice ao m ca, .int .i64 (t : Nat)] wx fun e w' => e = .returned (.int .i64 0) ∧ w' = wx) := fun wx hb => by
    have := checkDesign_any (ca := ca) (n : Int) (t : Int) (hM.below hb) hm hN
    rw [he] at this; exact this
  have HM : Hid (MatZ ao m A N C Z w ∧ (∀ i, i < m → N i ≤ 6000) ∧ gpl (n : Int) N Z m = false) := ⟨hM, hN, hp⟩
  clear hM hN hp he
  obtain ⟨w0, hw0⟩ : ∃ w0, w0 = ((w.alloc (.cells #[.int .i64 0] 3)).alloc (.cells #[.bool false] 4)).alloc (.cells #[.int .i64 0] 24) := ⟨_, rfl⟩
  have H0 : Hid (Below w.heap.size w w0 ∧ w0.heap.size = w.heap.size + 3 ∧ Rs3 w.heap.size 0 false 0 w0) := rs3_new hw0
  refine callsIn_wide.1 (callsIn_of_wp_marks (n := 0) Tryd.func8 rfl trivial ?_ rfl)
  refine wpIn_wide.2 ?_
  simp only [Tryd.ntmps8, List.size_toArray, List.length_cons, List.length_nil, Nat.reduceAdd, Nat.reduceSub, Array.replicate_succ, Array.replicate_zero, List.push_toArray, List.append_toArray, List.nil_append, List.cons_append]
  go_wp2_with fail
  rw [← hw0]
  clear hw0
  refine (HC.out w0 H0.out.1).mono ?_
  rintro e w1 ⟨rfl, hw⟩
  have hw := hw.symm
  subst hw
  obtain ⟨B, hB⟩ : ∃ B, B = w.heap.size := ⟨_, rfl⟩
  rw [← hB] at H0
  have hsz0 : w0.heap.size = B + 3 := H0.out.2.1
  rw [← hB]
  have HBe : Hid (B = w.heap.size) := hB
  clear hB
  go_wp2_with (at_make; refine make_set rfl _ _ rfl _ m rfl rfl rfl (by omega) ?_; intro w1 hrow1 hgrow1)
  obtain ⟨w2, hw2⟩ : ∃ w2, w2 = w1.alloc (.cells #[.slice (some ⟨B + 3, 0, none⟩) m m] 51) := ⟨_, rfl⟩
  obtain ⟨bS, hbS⟩ : ∃ bS, bS = w1.heap.size := ⟨_, rfl⟩
  rw [hsz0] at hrow1
  have H2 : Hid (RowF (B + 3) m 43 (fun j => .int .u64 (if j < 0 then bkf N Z j else 0 : Nat)) w2 ∧ RowF bS 1 51 (fun _ => .slice (some ⟨B + 3, 0, none⟩) m m) w2 ∧ Rs3 B 0 false 0 w2 ∧ Below B w w2 ∧ B + 3 < bS) := by
    have hb1 : Below w0.heap.size w0 w1 := below_grown hgrow1 (Nat.le_refl _) (fun k hk => by cases hk)
    have hb2 : Below w1.heap.size w1 w2 := by rw [hw2]; exact (Below.refl _ _).alloc (Nat.le_refl _) _
    refine ⟨(hrow1.below hb2 hrow1.lt).congr (fun j _ => by rw [if_neg (by omega)]; rfl), ?_, (H0.out.2.2.below hb1).below hb2, ?_, by rw [hbS]; exact hrow1.lt⟩
    · rw [hbS, hw2]; exact ⟨_, World.alloc_heap_new w1 _, rfl, fun o ho => by rw [show o = 0 by omega]; rfl⟩
    · have h1 := H0.out.1
      have e := HBe.out
      rw [e] at h1 ⊢
      exact bel_up' (bel_up' h1 hb1) hb2
  rw [← hw2, ← hbS]
  clear hw2 hbS hrow1 hgrow1 hsz0 H0
  go_loopw [27] (fun vi wr => ∃ i : Nat, vi = .int .i64 (i : Nat) ∧ i ≤ m ∧ Hid (RowF (B + 3) m 43 (fun j => .int .u64 (if j < i then bkf N Z j else 0 : Nat)) wr ∧ RowF bS 1 51 (fun _ => .slice (some ⟨B + 3, 0, none⟩) m m) wr ∧ Rs3 B 0 false 0 wr ∧ Below B w wr ∧ B + 3 < bS)) (fun vi _ => m - (intOf vi).toNat)
  case atStart => exact ⟨0, rfl, by omega, H2.out⟩
  case round =>
    obtain ⟨i, rfl, hi, HS⟩ := hrel
    rename World => wr
    clear H2
    by_cases hlt : i < m
    · have hib : (i : Int) < (m : Int) := by omega
      have hb := HS.out.2.2.2.1
      rw [HBe.out] at hb
      have hMr := HM.out.1.below hb
      obtain ⟨b, off, e1, hcell⟩ := hMr.cell i hlt
      subst e1
      obtain ⟨y, hy⟩ : ∃ y, y = bkf N Z i := ⟨_, rfl⟩
      have HB : Hid (∀ cx j, Calls Tryd.prog 19 #[.slice (A i) (N i) cx] (wr.drewN j) fun e w' => e = .returned (.int .u64 (y : Nat)) ∧ w' = wr.drewN j) := fun cx j => by
        rw [hy]
        exact gof_any ((HM.out.1.below (below_drewN2 hb j)).sl i hlt) (HM.out.2.1 i hlt) (bkf_lt (by omega) HM.out.2.2 hlt).1
      have c0 := HS.out.2.1.cell 0 (by omega)
      have c3 := HS.out.1.cell i hlt
      have f3 := HS.out.1.free i
      have HN : Hid (∀ j, RowF (B + 3) m 43 (fun j => .int .u64 (if j < i + 1 then bkf N Z j else 0 : Nat)) ((wr.drewN j).setCell ⟨B + 3, i, none⟩ (.int .u64 (y : Nat))) ∧ RowF bS 1 51 (fun _ => .slice (some ⟨B + 3, 0, none⟩) m m) ((wr.drewN j).setCell ⟨B + 3, i, none⟩ (.int .u64 (y : Nat))) ∧ Rs3 B 0 false 0 ((wr.drewN j).setCell ⟨B + 3, i, none⟩ (.int .u64 (y : Nat))) ∧ Below B w ((wr.drewN j).setCell ⟨B + 3, i, none⟩ (.int .u64 (y : Nat))) ∧ B + 3 < bS) := fun j => by
        obtain ⟨g1, g2, g3, g4, g5⟩ := HS.out
        refine ⟨((g1.drewN j).store i _).congr (fun x hx => ?_), (g2.drewN j).setOther _ (by simp; omega) _, ⟨(g3.1.drewN j).setOther _ (by simp) _, (g3.2.1.drewN j).setOther _ (by simp) _, (g3.2.2.drewN j).setOther _ (by simp) _⟩, ?_, g5⟩
        · unfold upd
          by_cases e : x = i
          · rw [if_pos e, if_pos (by omega), e, hy]
          · rw [if_neg e]
            show Value.int .u64 ((if x < i then bkf N Z x else 0 : Nat) : Int) = _
            by_cases e2 : x < i
            · rw [if_pos e2, if_pos (by omega)]
            · rw [if_neg e2, if_neg (by omega)]
        · have h6 : Below B w (wr.drewN j) := ⟨g4.os, g4.tape, g4.output, g4.size, g4.block⟩
          exact h6.setCell (by show B ≤ B + 3; omega) _
      clear hMr hy HS hb
      go_wp2
      refine quiet_tail 5 (by kernel_rfl) (by kernel_rfl) ?_
      simp only [List.take_succ_cons, List.take_zero, List.drop_succ_cons, List.drop_zero]
      repeat (go_big_quiet_step ((go_at_call 19; exact Calls.quiet_of_same (HB.out _ _))))
      refine wpQuiet_nil ?_
      intro _ hw'
      obtain ⟨nq, hw''⟩ := hw'
      subst hw''
      have H9 := HN.out nq
      have HN9 : Hid (RowF (B + 3) m 43 (fun j => .int .u64 (if j < i + 1 then bkf N Z j else 0 : Nat)) ((wr.drewN nq).setCell ⟨B + 3, i, none⟩ (.int .u64 (y : Nat))) ∧ RowF bS 1 51 (fun _ => .slice (some ⟨B + 3, 0, none⟩) m m) ((wr.drewN nq).setCell ⟨B + 3, i, none⟩ (.int .u64 (y : Nat))) ∧ Rs3 B 0 false 0 ((wr.drewN nq).setCell ⟨B + 3, i, none⟩ (.int .u64 (y : Nat))) ∧ Below B w ((wr.drewN nq).setCell ⟨B + 3, i, none⟩ (.int .u64 (y : Nat))) ∧ B + 3 < bS) := H9
      clear H9
      go_wp2
      go_roundw
      case rel => exact ⟨i + 1, by go_num, by omega, HN9⟩
      case measure => simp [intOf]; omega
    · have hib : ¬ (i : Int) < (m : Int) := by omega
      have hie : i = m := by omega
      subst hie
      have c0 := HS.out.2.2.1.1.cell 0 (by omega)
      have f0 := HS.out.2.2.1.1.free 0
      obtain ⟨w4, hw4⟩ : ∃ w4, w4 = wr.setCell ⟨B, 0, none⟩ (.int .i64 (-1)) := ⟨_, rfl⟩
      have H4 : Hid (RowF (B + 3) i 43 (fun j => .int .u64 (bkf N Z j : Nat)) w4 ∧ RowF bS 1 51 (fun _ => .slice (some ⟨B + 3, 0, none⟩) i i) w4 ∧ Rs3 B (-1) false 0 w4 ∧ Below B w w4 ∧ B + 3 < bS) := by
        obtain ⟨g1, g2, g3, g4, g5⟩ := HS.out
        rw [hw4]
        refine ⟨(g1.congr (fun x hx => by rw [if_pos hx])).setOther _ (by show B + 3 ≠ B; omega) _, g2.setOther _ (by show bS ≠ B; omega) _, g3.put, g4.setCell (Nat.le_refl _) _, g5⟩
      clear HS
      go_wp2_with fail
      rw [← hw4]
      clear hw4 c0 f0
      refine (sets_any n t w4).mono ?_
      rintro e w5 ⟨b1, b2, rfl, hc1, hc2, hb5⟩
      have HQ : Hid (SeqS Tryd.prog 37 #[.pointer (some ⟨b1, 0, none⟩), .pointer (some ⟨b2, 0, none⟩)] (slv n t) w5) := sets_seq hc1 hc2 hn ht
      have H5 : Hid (RowF (B + 3) i 43 (fun j => .int .u64 (bkf N Z j : Nat)) w5 ∧ RowF bS 1 51 (fun _ => .slice (some ⟨B + 3, 0, none⟩) i i) w5 ∧ Rs3 B (-1) false 0 w5 ∧ Below B w w5 ∧ B + 3 < bS ∧ bS < w5.heap.size) := by
        obtain ⟨g1, g2, g3, g4, g5⟩ := H4.out
        refine ⟨g1.below hb5 g1.lt, g2.below hb5 g2.lt, g3.below hb5, ?_, g5, (g2.below hb5 g2.lt).lt⟩
        have e := HBe.out
        rw [e] at g4 ⊢
        exact bel_up' g4 hb5
      clear hc1 hc2 hb5 H4
      go_wp2
      obtain ⟨c, hc⟩ : ∃ c : Nat → Nat, c = fun s => lic (bkf N Z) s i := ⟨_, rfl⟩
      obtain ⟨L, hL⟩ : ∃ L, L = sls n t 0 0 := ⟨_, rfl⟩
      have HL : Hid ((slv n t).length = L.length ∧ (∀ r, r < L.length → (slv n t).getD r #[] = #[.int .u64 (L.getD r 0 : Nat)]) ∧ (∀ r, r < L.length → L.getD r 0 < 18446744073709551616)) := by
        rw [hL]
        refine ⟨slv_len n t, fun r hr => slv_at (by rw [slv_len]; exact hr), fun r hr => ?_⟩
        refine sls_lt hn t 0 0 (by omega) (by decide) _ ?_
        simp [List.getD_eq_getElem?_getD, hr]
      have HLi : Hid (∀ wx s, RowF (B + 3) i 43 (fun j => .int .u64 (bkf N Z j : Nat)) wx → s < 18446744073709551616 → Calls Tryd.prog 21 #[.int .u64 (s : Nat), .slice (some ⟨B + 3, 0, none⟩) i i] wx fun e w' => e = .returned (.int .i64 (c s : Nat)) ∧ w' = wx) := fun wx s h1 h2 => by
        rw [hc]
        exact liesIn_any h1.slu hm (fun j hj => (bkf_lt (by omega) HM.out.2.2 hj).2) h2
      have HCl : Hid (∀ s, c s ≤ 6000) := fun s => by rw [hc]; exact Nat.le_trans (lic_le _ _ _) hm
      have HcL : Hid (∀ e, DgP c L e → DgP (fun s => lic (bkf N Z) s i) (sls n t 0 0) e) := fun e h => by rw [hc, hL] at h; exact h
      clear hc hL
      refine range_lawX (gf := 37) (lb := #[.pointer (some ⟨b1, 0, none⟩), .pointer (some ⟨b2, 0, none⟩)]) (own := fun k => k ≠ w5.heap.size ∧ k ≠ w5.heap.size + 1) rfl (enters_of Tryd.func37 (by kernel_rfl) rfl) HQ.out (fun h => h.1 rfl) (fun h => h.2 rfl) (fun r hr => by rw [HL.out.2.1 r (by rw [← HL.out.1]; exact hr)]; rfl)
        (fun r X => ∃ x : Int, -1 ≤ x ∧ x ≤ 6000 ∧ dsr c L (-1) = dsr c (L.drop r) x ∧ Rs3 B x false 0 X ∧ RowF (B + 3) i 43 (fun j => .int .u64 (bkf N Z j : Nat)) X ∧ RowF bS 1 51 (fun _ => .slice (some ⟨B + 3, 0, none⟩) i i) X ∧ Below B w X ∧ w5.heap.size ≤ X.heap.size)
        (fun r X => dsr c L (-1) = none ∧ Rs3 B 0 false 0 X ∧ Below B w X ∧ w5.heap.size ≤ X.heap.size) ?stable ?stablex ?start
        (fun args => { tmps := #[.int .i64 (n : Nat), .slice ao i ca, .int .i64 (t : Nat), undef, undef, undef, .pointer (some ⟨B, 0, none⟩), .pointer (some ⟨B + 1, 0, none⟩), .pointer (some ⟨B + 1 + 1, 0, none⟩), .int .i64 0, .pointer (some ⟨bS, 0, none⟩), u11, u12, args.getD 0 undef, undef, .int .i64 (n : Nat), .slice ao i ca, .int .i64 (t : Nat), .int .i64 0, .int .i64 0, .bool false, undef, .slice ao i ca, .int .i64 (i : Nat), .slice (some ⟨B + 3, 0, none⟩) i i, .slice ao i ca, .int .i64 (i : Nat), .int .i64 (i : Nat), .bool false, u29, u30, u31, u32, u33, u34, u35, u36, u37, .int .i64 (n : Nat), .int .i64 (t : Nat), .func (.func 37) #[] #[.pointer (some ⟨b1, 0, none⟩), .pointer (some ⟨b2, 0, none⟩)], args.getD 0 undef, undef, undef, undef, undef, undef, undef, undef, undef, undef, undef, undef, undef], defers := [] })
        ?assign ?body ?done ?stop
      case stable =>
        rintro r X Y ⟨x, h1, h2, h3, h4, h5, h6, h7, h8⟩ hg
        have hO := H5.out.2.2.2.2
        have hs : ∀ j, j < w5.heap.size → Y.heap[j]? = X.heap[j]? := fun j hj => hg.same j (by omega) (Or.inl hj)
        exact ⟨x, h1, h2, h3, h4.same (fun j hj => hs j (by omega)), h5.other (hs _ (by omega)), h6.other (hs _ (by omega)), h7.trans ⟨hg.os, hg.tape, hg.output, hg.size, fun j hj => hs j (by omega)⟩, by have := hg.size; omega⟩
      case stablex =>
        rintro r X Y ⟨h3, h4, h7, h8⟩ hg
        have hO := H5.out.2.2.2.2
        have hs : ∀ j, j < w5.heap.size → Y.heap[j]? = X.heap[j]? := fun j hj => hg.same j (by omega) (Or.inl hj)
        exact ⟨h3, h4.same (fun j hj => hs j (by omega)), h7.trans ⟨hg.os, hg.tape, hg.output, hg.size, fun j hj => hs j (by omega)⟩, by have := hg.size; omega⟩
      case start => exact ⟨-1, by omega, by omega, rfl, H5.out.2.2.1, H5.out.1, H5.out.2.1, H5.out.2.2.2.1, Nat.le_refl _⟩
      case assign =>
        intro l r X K hr hK
        rw [HL.out.2.1 r (by rw [← HL.out.1]; exact hr)] at hK ⊢
        gi_wp2
        exact hK
      case body =>
        rintro l r X hr hXs ⟨x, h1, h2, h3, h4, h5, h6, h7, h8⟩
        have hr2 : r < L.length := by rw [← HL.out.1]; exact hr
        rw [HL.out.2.1 r hr2]
        obtain ⟨s, hs⟩ : ∃ s, s = L.getD r 0 := ⟨_, rfl⟩
        have hs64 : s < 18446744073709551616 := by rw [hs]; exact HL.out.2.2 r hr2
        have hdr : L.drop r = s :: L.drop (r + 1) := by
          rw [List.drop_eq_getElem_cons hr2, hs]
          simp [List.getD_eq_getElem?_getD, hr2]
        rw [hdr] at h3
        rw [← hs]
        obtain ⟨y, hy⟩ : ∃ y, y = c s := ⟨_, rfl⟩
        have hyb : y ≤ 6000 := by rw [hy]; exact HCl.out s
        have h3b : dsr c L (-1) = if x < 0 ∨ (y : Int) = x then dsr c (L.drop (r + 1)) y else none := by rw [h3, hy]; rfl
        have HCa : Hid (Calls Tryd.prog 21 #[.int .u64 (s : Nat), .slice (some ⟨B + 3, 0, none⟩) i i] X fun e w' => e = .returned (.int .i64 (y : Nat)) ∧ w' = X) := by
          show Calls _ _ _ _ _
          rw [hy]; exact HLi.out X s h5 hs64
        have HI : Hid (dsr c L (-1) = (if x < 0 ∨ (y : Int) = x then dsr c (L.drop (r + 1)) y else none) ∧ Rs3 B x false 0 X ∧ RowF (B + 3) i 43 (fun j => .int .u64 (bkf N Z j : Nat)) X ∧ RowF bS 1 51 (fun _ => .slice (some ⟨B + 3, 0, none⟩) i i) X ∧ Below B w X ∧ w5.heap.size ≤ X.heap.size) := ⟨h3b, h4, h5, h6, h7, h8⟩
        have c10 := h6.cell 0 (by omega)
        have c6 := h4.1.cell 0 (by omega)
        have f6 := h4.1.free 0
        have c7 := h4.2.1.cell 0 (by omega)
        have f7 := h4.2.1.free 0
        have c8 := h4.2.2.cell 0 (by omega)
        have f8 := h4.2.2.free 0
        clear h3 h3b h4 h5 h6 h7 h8 hy hs hdr hXs
        gi_wp2
        refine ⟨trivial, rfl, (CallsIn.inRound l (callsIn_wide.2 HCa.out)).mono ?_⟩
        rintro e Y ⟨rfl, hw⟩
        have hw := hw.symm
        subst hw
        clear HCa
        have HK1 : Hid (∀ v : Value, KpO (fun k => k ≠ w5.heap.size ∧ k ≠ w5.heap.size + 1) X (X.setCell ⟨B, 0, none⟩ v)) := fun v => KpO.setCell X ⟨B, 0, none⟩ v (by have := H5.out.2.2.2.2; show B ≠ _ ∧ B ≠ _; omega)
        have HNx : Hid (dsr c L (-1) = dsr c (L.drop (r + 1)) y → KpO (fun k => k ≠ w5.heap.size ∧ k ≠ w5.heap.size + 1) X (X.setCell ⟨B, 0, none⟩ (.int .i64 (y : Nat))) ∧ ∃ x : Int, -1 ≤ x ∧ x ≤ 6000 ∧ dsr c L (-1) = dsr c (L.drop (r + 1)) x ∧ Rs3 B x false 0 (X.setCell ⟨B, 0, none⟩ (.int .i64 (y : Nat))) ∧ RowF (B + 3) i 43 (fun j => .int .u64 (bkf N Z j : Nat)) (X.setCell ⟨B, 0, none⟩ (.int .i64 (y : Nat))) ∧ RowF bS 1 51 (fun _ => .slice (some ⟨B + 3, 0, none⟩) i i) (X.setCell ⟨B, 0, none⟩ (.int .i64 (y : Nat))) ∧ Below B w (X.setCell ⟨B, 0, none⟩ (.int .i64 (y : Nat))) ∧ w5.heap.size ≤ (X.setCell ⟨B, 0, none⟩ (.int .i64 (y : Nat))).heap.size) := fun hd => by
          obtain ⟨_, h4, h5, h6, h7, h8⟩ := HI.out
          have hO := H5.out.2.2.2.2
          exact ⟨HK1.out _, y, by omega, by omega, hd, h4.put, h5.setOther _ (by show B + 3 ≠ B; omega) _, h6.setOther _ (by show bS ≠ B; omega) _, h7.setCell (Nat.le_refl _) _, by simpa [World.setCell] using h8⟩
        have HX8 : Hid (w5.heap.size ≤ X.heap.size) := HI.out.2.2.2.2.2
        by_cases hx0 : x < 0
        · have hx1 : ¬ x ≥ 0 := by omega
          have hx2 : ¬ 0 ≤ x := by omega
          have HZ := HNx.out (by have := HI.out.1; rw [if_pos (Or.inl hx0)] at this; exact this)
          have HZ2 : Hid _ := HZ
          clear HNx HI HZ
          gi_wp2
          obtain ⟨q0, q, q1, q2, q3, q4, q5, q6, q7, q8⟩ := HZ2.out
          first | exact ⟨q0, q, q1, q2, q3, q4, q5, q6, q7, q8⟩ | exact ⟨q0, q, q1, q2, q3, q4, q5, q6, q7, HX8.out⟩
        · have hx1 : x ≥ 0 := by omega
          have hx2 : 0 ≤ x := by omega
          by_cases hyx : (y : Int) = x
          · have hyb2 : ((y : Int) != x) = false := by rw [hyx]; simp
            have HZ := HNx.out (by have := HI.out.1; rw [if_pos (Or.inr hyx)] at this; exact this)
            have HZ2 : Hid _ := HZ
            clear HNx HI HZ
            subst hyx
            gi_wp2
            obtain ⟨q0, q, q1, q2, q3, q4, q5, q6, q7, q8⟩ := HZ2.out
            first | exact ⟨q0, q, q1, q2, q3, q4, q5, q6, q7, q8⟩ | exact ⟨q0, q, q1, q2, q3, q4, q5, q6, q7, HX8.out⟩
          · have hyb2 : ((y : Int) != x) = true := bne_iff_ne.2 hyx
            have HZ : Hid (dsr c L (-1) = none) := by have := HI.out.1; rw [if_neg (by omega)] at this; exact this
            obtain ⟨w7, hw7⟩ : ∃ w7, w7 = ((X.setCell ⟨B, 0, none⟩ (.int .i64 0)).setCell ⟨B + 1, 0, none⟩ (.bool false)).setCell ⟨B + 1 + 1, 0, none⟩ (.int .i64 0) := ⟨_, rfl⟩
            have H7 : Hid (KpO (fun k => k ≠ w5.heap.size ∧ k ≠ w5.heap.size + 1) X w7 ∧ Rs3 B 0 false 0 w7 ∧ Below B w w7 ∧ w5.heap.size ≤ w7.heap.size) := by
              obtain ⟨_, h4, h5, h6, h7, h8⟩ := HI.out
              have hO := H5.out.2.2.2.2
              rw [hw7]
              refine ⟨((HK1.out _).trans (KpO.setCell _ ⟨B + 1, 0, none⟩ _ (by show B + 1 ≠ _ ∧ B + 1 ≠ _; omega))).trans (KpO.setCell _ ⟨B + 1 + 1, 0, none⟩ _ (by show B + 1 + 1 ≠ _ ∧ B + 1 + 1 ≠ _; omega)), h4.put.put2.put3, ((h7.setCell (Nat.le_refl _) _).setCell (Nat.le_succ _) _).setCell (by show B ≤ B + 1 + 1; omega) _, by simpa [World.setCell] using h8⟩
            clear HNx HI
            gi_wp2
            rw [← hw7]
            exact ⟨H7.out.1, HZ.out, H7.out.2.1, H7.out.2.2.1, HX8.out⟩
      case done =>
        rintro De We hDe ⟨x, h1, h2, h3, h4, h5, h6, h7, h8⟩ hK
        rw [HL.out.1, List.drop_length] at h3
        have hO := H5.out.2.2.2.2
        have c6 := h4.1.cell 0 (by omega)
        have f6 := h4.1.free 0
        have c7 := h4.2.1.cell 0 (by omega)
        have f7 := h4.2.1.free 0
        have c8 := h4.2.2.cell 0 (by omega)
        have f8 := h4.2.2.free 0
        obtain ⟨w7, hw7⟩ : ∃ w7, w7 = ((We.setCell ⟨B, 0, none⟩ (.int .i64 x)).setCell ⟨B + 1, 0, none⟩ (.bool true)).setCell ⟨B + 1 + 1, 0, none⟩ (.int .i64 0) := ⟨_, rfl⟩
        have H7 : Hid (Rs3 B x true 0 w7 ∧ Below B w w7 ∧ w7.heap[De]? = some (.deferred (some [])) ∧ B + 3 < De ∧ dsr c L (-1) = some x) := by
          rw [hw7]
          refine ⟨h4.put.put2.put3, ((h7.setCell (Nat.le_refl _) _).setCell (Nat.le_succ _) _).setCell (by show B ≤ B + 1 + 1; omega) _, ?_, by omega, h3⟩
          rw [Below.heap_setCell _ _ _ _ (by show De ≠ B + 1 + 1; omega), Below.heap_setCell _ _ _ _ (by show De ≠ B + 1; omega), Below.heap_setCell _ _ _ _ (by show De ≠ B; omega)]
          exact hK
        clear h3 h4 h5 h6 h7 h8 hK
        go_wp2
        rw [← hw7]
        clear hw7 c6 f6 c7 f7 c8 f8
        have HE : Hid (Rs3 B x true 0 (w7.putObj De (.deferred none)) ∧ Below B w (w7.putObj De (.deferred none))) := by
          obtain ⟨g1, g2, g3, g4, g5⟩ := H7.out
          refine ⟨g1.same (fun j hj => World.putObj_heap_other (by omega)), ?_⟩
          exact g2.grown (grownBy_putObj' _ _ _) (by have := g2.size; have := HBe.out; omega) (fun k hk => by cases hk; omega)
        have c6 := HE.out.1.1.cell 0 (by omega)
        have c7 := HE.out.1.2.1.cell 0 (by omega)
        have c8 := HE.out.1.2.2.cell 0 (by omega)
        refine ⟨by simp, .inl ⟨_, _, rfl, run_takeDeferred H7.out.2.2.1, ?_⟩⟩
        refine ⟨.tuple #[.int .i64 x, .bool true, .int .i64 0], by simp [results, Tryd.results8, go_sem, c6, c7, c8], HcL.out _ (Or.inl ⟨x, H7.out.2.2.2.2, rfl⟩), ?_⟩
        try rw [← HBe.out]
        exact HE.out.2
      case stop =>
        rintro De r We hDe hr ⟨h3, h4, h7, h8⟩ hK
        have hO := H5.out.2.2.2.2
        have HE : Hid (Rs3 B 0 false 0 (We.putObj De (.deferred none)) ∧ Below B w (We.putObj De (.deferred none))) := by
          refine ⟨h4.same (fun j hj => World.putObj_heap_other (by omega)), ?_⟩
          exact h7.grown (grownBy_putObj' _ _ _) (by have := h7.size; have := HBe.out; omega) (fun k hk => by cases hk; omega)
        have c6 := HE.out.1.1.cell 0 (by omega)
        have c7 := HE.out.1.2.1.cell 0 (by omega)
        have c8 := HE.out.1.2.2.cell 0 (by omega)
        go_wp2
        refine ⟨by simp, .inl ⟨_, _, rfl, run_takeDeferred hK, ?_⟩⟩
        refine ⟨.tuple #[.int .i64 0, .bool false, .int .i64 0], by simp [results, Tryd.results8, go_sem, c6, c7, c8], HcL.out _ (Or.inr ⟨h3, rfl⟩), ?_⟩
        try rw [← HBe.out]
        exact HE.out.2
end Go.Proofs.YtpgaakjldlcejaaDoor
