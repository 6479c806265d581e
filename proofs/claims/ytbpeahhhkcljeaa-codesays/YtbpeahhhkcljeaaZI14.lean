/- Texts of ours, one behind the other: I14 I15 I16 I17 O4 I18. -/
import Derived.Test.YtbpeahhhkcljeaaZI6
import Derived.Test.YtbpeahhhkcljeaaZT10
/- CodePairs: codes held against one another; the ways on which there is nothing. -/
namespace Go.Proofs.Ytbpeahhhkcljeaa
open Go.RowKit Go.Sort

set_option maxHeartbeats 4000000 in
set_option maxRecDepth 100000 in
theorem rsameCode_any (q n : Int) {ao bo : Option Addr} {k n' ca cb : Nat} {R : Nat → Nat → Nat} {w : World} (ha : RL (.slice ao k ca) k n' R w) (hb : RL (.slice bo k cb) k n' R w) (hk : k ≤ 1000000) (hn : n' ≤ 1000000) :
    Calls Try.prog 41 #[.agg #[.int .i64 q, .int .i64 n, .slice ao k ca], .agg #[.int .i64 q, .int .i64 n, .slice bo k cb]] w fun e w' => e = .returned (.bool true) ∧ Below w.heap.size w w' := by
  obtain ⟨w0, hw0⟩ : ∃ w0, w0 = (w.alloc (.cells #[.int .i64 q, .int .i64 n, .slice ao k ca] 43)).alloc (.cells #[.int .i64 q, .int .i64 n, .slice bo k cb] 43) := ⟨_, rfl⟩
  have HW : Hid (Below w.heap.size w w0 ∧ RL (.slice ao k ca) k n' R w0 ∧ RL (.slice bo k cb) k n' R w0) := by
    obtain ⟨h1, _, _, _⟩ := two_boxes q n q n (.slice ao k ca) (.slice bo k cb) w
    rw [hw0]; exact ⟨h1, ha.below h1, hb.below h1⟩
  clear ha hb
  go_enter Try.func41, Try.ntmps41
  go_wp2_with fail
  rw [← hw0]
  clear hw0
  refine (sameAll_rl HW.out.2.1 HW.out.2.2 hk hn).mono ?_
  rintro e w1 ⟨rfl, d, hw1⟩
  have H1 : Hid (Below w.heap.size w w1) := by rw [hw1]; exact below_drewN2 HW.out.1 d
  clear hw1
  go_wp2
  go_ret
  exact ⟨rfl, H1.out⟩
set_option maxHeartbeats 4000000 in
set_option maxRecDepth 100000 in
theorem lsame_ok (q n : Int) {ao bo : Option Addr} {k n' ca cb : Nat} {R : Nat → Nat → Nat} {w : World} (ha : RL (.slice ao k ca) k n' R w) (hb : RL (.slice bo k cb) k n' R w) (hk : k ≤ 1000000) (hn : n' ≤ 1000000) :
    Calls Try.prog 27 #[.agg #[.int .i64 q, .int .i64 n, .slice ao k ca], .int .i64 0, .agg #[.int .i64 q, .int .i64 n, .slice bo k cb], .int .i64 0] w fun e w' => e = .returned (.bool true) ∧ Below w.heap.size w w' := by
  obtain ⟨w0, hw0⟩ : ∃ w0, w0 = (w.alloc (.cells #[.int .i64 q, .int .i64 n, .slice ao k ca] 43)).alloc (.cells #[.int .i64 q, .int .i64 n, .slice bo k cb] 43) := ⟨_, rfl⟩
  have HW : Hid (Below w.heap.size w w0 ∧ RL (.slice ao k ca) k n' R w0 ∧ RL (.slice bo k cb) k n' R w0) := by
    obtain ⟨h1, _, _, _⟩ := two_boxes q n q n (.slice ao k ca) (.slice bo k cb) w
    rw [hw0]; exact ⟨h1, ha.below h1, hb.below h1⟩
  clear ha hb
  go_enter Try.func27, Try.ntmps27
  go_wp2_with fail
  rw [← hw0]
  clear hw0
  refine (rsameCode_any q n HW.out.2.1 HW.out.2.2 hk hn).mono ?_
  rintro e w1 ⟨rfl, hb1⟩
  have H1 : Hid (Below w.heap.size w w1) := bel_up' HW.out.1 hb1
  clear hb1
  go_wp2
  go_ret
  exact ⟨rfl, H1.out⟩
set_option maxHeartbeats 4000000 in
set_option maxRecDepth 100000 in
theorem lsame_err (e : Int) (he : e ≠ 0) (q n : Int) (bo : Option Addr) (m cb : Nat) (w : World) :
    Calls Try.prog 27 #[.agg #[.int .i64 0, .int .i64 0, .slice none 0 0], .int .i64 e, .agg #[.int .i64 q, .int .i64 n, .slice bo m cb], .int .i64 e] w fun x w' => x = .returned (.bool true) ∧ Below w.heap.size w w' := by
  have hz : (e != 0) = true := by rw [bne_iff_ne]; exact he
  clear he
  obtain ⟨w0, hw0⟩ : ∃ w0, w0 = (w.alloc (.cells #[.int .i64 0, .int .i64 0, .slice none 0 0] 43)).alloc (.cells #[.int .i64 q, .int .i64 n, .slice bo m cb] 43) := ⟨_, rfl⟩
  have HW : Hid (Below w.heap.size w w0) := by
    obtain ⟨h1, _, _, _⟩ := two_boxes 0 0 q n (.slice none 0 0) (.slice bo m cb) w
    rw [hw0]; exact h1
  go_enter Try.func27, Try.ntmps27
  go_wp2_with fail
  rw [← hw0]
  clear hw0
  refine (rsameCode_any (k := 0) (n' := 0) (R := fun _ => pnil) 0 0 (RL.nil _ _ _) (RL.nil _ _ _) (by omega) (by omega)).mono ?_
  rintro x w1 ⟨rfl, hb1⟩
  have H1 : Hid (Below w.heap.size w w1) := bel_up' HW.out hb1
  clear hb1
  go_wp2
  go_ret
  exact ⟨rfl, H1.out⟩

end Go.Proofs.Ytbpeahhhkcljeaa

/- CodePairs: the way of an error. -/
namespace Go.Proofs.Ytbpeahhhkcljeaa
open Go.RowKit Go.Sort

end Go.Proofs.Ytbpeahhhkcljeaa

/- CodePairs: two codes that may be. -/
namespace Go.Proofs.Ytbpeahhhkcljeaa
open Go.RowKit Go.Sort

theorem RB.of {b : Nat} {q n : Int} {v : Value} {w : World} (h : CB b q n v w) (ht : RBt b w) : RB b w := by
  obtain ⟨cs, hh⟩ := ht
  exact ⟨⟨_, h.c0⟩, ⟨_, h.c1⟩, ⟨_, h.c2⟩, frozen_of_row _ _ _ _ _ hh, frozen_of_row _ _ _ _ _ hh, frozen_of_row _ _ _ _ _ hh⟩
theorem laid_rbt {b b' : Nat} {w : World} (h : RBt b' w) (hne : b' ≠ b) (q n : Int) (v : Value) : RBt b' (laid w b q n v) := by
  obtain ⟨cs, h⟩ := h
  exact ⟨cs, by rw [laid_heap w b q n v hne]; exact h⟩
theorem laid_cb' {b b' : Nat} {q' n' : Int} {v' : Value} {w : World} (h : CB b' q' n' v' w) (hne : b' ≠ b) (q n : Int) (v : Value) : CB b' q' n' v' (laid w b q n v) := by
  have l1 := laid_heap w b q n v hne
  have k1 : ∀ o, (laid w b q n v).cell? ⟨b', o, none⟩ = w.cell? ⟨b', o, none⟩ := fun o => by simp [World.cell?, l1]
  exact ⟨(k1 0).trans h.c0, (k1 1).trans h.c1, (k1 2).trans h.c2⟩

end Go.Proofs.Ytbpeahhhkcljeaa

/- CodePairs: whatever is handed in. -/
namespace Go.Proofs.Ytbpeahhhkcljeaa
open Go.RowKit Go.Sort

theorem heavy_below {ao : Option Addr} {m ca : Nat} {A : Nat → Option Addr} {N C : Nat → Nat} {Z : Nat → Nat → Int} {w : World} (h : MatO ao m A N C Z w) (hm : m ≤ 17592186044416) (hN : ∀ i, i < m → N i ≤ 17592186044416) (wx : World) (hx : Below w.heap.size w wx) :
    Calls Try.prog 9 #[.slice ao m ca] wx fun r w' => r = .returned (.bool (decide (6000 < hvs N m m))) ∧ w' = wx :=
  heavy_any (A := A) (C := C) (fun i hi => by
    obtain ⟨b, off, e, hc⟩ := h.cell i hi
    exact ⟨b, off, e, ((bcell hx).1 b (off + i) (cell_lt hc)).trans hc⟩) hm hN

/-- What both sides say of a code, and what it is if they say 0. -/
theorem code_may (q n : Int) {ao : Option Addr} {m : Nat} (ca : Nat) {A : Nat → Option Addr} {N C : Nat → Nat} {Z : Nat → Nat → Int} {w : World} (hA : MatZ ao m A N C Z w) (hm : m ≤ 1000000) :
    ∃ ea : Int, (∀ wx, Below w.heap.size w wx → Calls Try.prog 26 #[.agg #[.int .i64 q, .int .i64 n, .slice ao m ca]] wx fun e w' => e = .returned (.int .i64 ea) ∧ Below wx.heap.size wx w') ∧
      (∀ wx, Below w.heap.size w wx → Calls Try.prog 21 #[.agg #[.int .i64 q, .int .i64 n, .slice ao m ca]] wx fun e w' => e = .returned (.int .i64 ea) ∧ Below wx.heap.size wx w') ∧
      (ea = 0 → ∃ D ∈ fieldsL, q = (D.q : Int) ∧ ∃ n' : Nat, n = (n' : Int) ∧ CdZ D ao m n' A N C Z w) := by
  by_cases h : ∃ D ∈ fieldsL, (D.q : Int) = q
  · obtain ⟨D, hD, rfl⟩ := h
    refine ⟨D.cchk n m N Z, fun wx hx => ccheck_any hD n (hA.below hx) hm, fun wx hx => rcodeMay_any hD n (hA.below hx) hm, fun e => ⟨D, hD, rfl, n.toNat, ?_, hA, ?_, ?_, ?_, ?_⟩⟩
    all_goals
      unfold FD.cchk at e
      split at e
      · omega
      · split at e
        · first | contradiction | omega
        · split at e
          · omega
          · first | omega | (intro h0; have : ¬ (0 < m ∧ ((N 0 : Nat) : Int) ≠ n) := by assumption
                             have h1 : ((N 0 : Nat) : Int) = n := Classical.byContradiction (fun hc => this ⟨h0, hc⟩)
                             omega) | (have : ¬ (D.mchk m N Z ≠ 0) := by assumption
                                       exact Classical.byContradiction this)
  · have h' : ∀ D ∈ fieldsL, (D.q : Int) ≠ q := fun D hD e => h ⟨D, hD, e⟩
    exact ⟨1, fun wx _ => ccheck_none q h' n ao m ca wx, fun wx _ => rcodeMay_none q h' n ao m ca wx, fun e => by omega⟩

end Go.Proofs.Ytbpeahhhkcljeaa

/- A code that is handed in, opened. -/
namespace Go.Proofs.Ytbpeahhhkcljeaa
open Go.ChangeShapes Go.WideShapes Go.ChangeAt Go.RowKit

theorem Try.fieldsCode : Try.prog.underlying 43 = some (.struct #[⟨"Q", 3, 0, false, "", "", 0⟩, ⟨"N", 3, 1, false, "", "", 8⟩, ⟨"Rows", 22, 2, false, "", "", 16⟩]) := by kernel_rfl
theorem Try.cellsCode : Try.prog.cellsOf 43 = 3 := by kernel_rfl
theorem Try.cellsRows : Try.prog.cellsOf 22 = 1 := by kernel_rfl

set_option maxRecDepth 100000 in
theorem open_code {H : Type} {enc : TypeId × Value → H} {W : World} {base : Nat} {v : Value} {d : DataW H} {p : List MemPlace} (hok : Value.okWide Try.prog W .any base 43 v)
    (h : DataW.Trod enc Try.prog W 0 (fun _ => true) true 43 v d p) :
    ∃ q n ao m ca A N C Z d2, v = .agg #[.int .i64 q, .int .i64 n, .slice ao m ca] ∧ MatO ao m A N C Z W ∧ m ≤ ca ∧ RowsD m ca C d2 ∧ (ao = none → ca = 0) ∧ (∃ x0 x1, d = .agg [x0, x1, d2]) ∧ (Lit.int .i64 q).wf = true ∧ (Lit.int .i64 n).wf = true := by
  obtain ⟨cs, rfl, hsz⟩ := okWide_struct Try.fieldsCode hok
  rw [Try.cellsCode] at hsz
  obtain ⟨l⟩ := cs
  match l, hsz with
  | [c0, c1, c2], _ =>
    obtain ⟨fuel, hf⟩ := h
    obtain ⟨xs, n, _, hx, hl, hlen, hff⟩ := DataW.trod_struct Try.fieldsCode hf
    match xs, hlen with
    | [y0, y1, y2], _ =>
      have h0 := hff 0 _ rfl
      have h1 := hff 1 _ rfl
      have h2 := hff 2 _ rfl
      simp [Value.cells, Try.cellsInt, Try.cellsRows] at h0 h1 h2
      obtain ⟨q, e0, _, w0⟩ := DataW.trod_int Try.underlying3 h0
      obtain ⟨n', e1, _, w1⟩ := DataW.trod_int Try.underlying3 h1
      obtain ⟨z2, p2⟩ := y2
      obtain ⟨ao, m, ca, A, N, C, Z, e2, hM, hle, hR, hn⟩ := open_rows_at h2
      simp only [List.cons.injEq, and_true] at e0 e1
      subst e0 e1 e2
      simp only [Prod.mk.injEq] at hx
      exact ⟨q, n', ao, m, ca, A, N, C, Z, z2, rfl, hM, hle, hR, hn, ⟨_, _, hx.1⟩, w0, w1⟩
/-- No code that is handed in takes more than the form's own reach. -/
theorem sized_code {H : Type} {ts : List TypeId} {ds : List (DataW H)} {x0 x1 d : DataW H} {m ca j : Nat} {C : Nat → Nat} (h : (DataW.weightsEach Try.prog ts ds).all (· ≤ reachBytes) = true) (ht : ts[j]? = some 43) (hd : ds[j]? = some (.agg [x0, x1, d]))
    (hc : RowsD m ca C d) : ca ≤ 17592186044416 ∧ ∀ i, i < m → C i ≤ 17592186044416 :=
  sized_rows_at (fun x hx => by
    have := List.all_eq_true.1 h _ (DataW.weights_mem_each (P := Try.prog) ht hd x (by
      simp only [DataW.weights, Try.fieldsCode, DataW.weightsEach, List.map_cons, List.mem_append]
      exact Or.inr (Or.inr (Or.inl hx))))
    simpa using this) hc
end Go.Proofs.Ytbpeahhhkcljeaa

/- Make and Dual, with their checks. -/
namespace Go.Proofs.Ytbpeahhhkcljeaa
open Go.RowKit Go.Sort

set_option maxHeartbeats 4000000 in
set_option maxRecDepth 100000 in
theorem cMake_err (e : Int) (he : e ≠ 0) (q n : Int) {ao : Option Addr} {m ca : Nat} {w : World}
    (hC : ∀ wx, Below w.heap.size w wx → Calls Try.prog 26 #[.agg #[.int .i64 q, .int .i64 n, .slice ao m ca]] wx fun x w' => x = .returned (.int .i64 e) ∧ Below wx.heap.size wx w') :
    Calls Try.prog 24 #[.agg #[.int .i64 q, .int .i64 n, .slice ao m ca]] w fun x w' => x = .returned (.tuple #[.agg #[.int .i64 0, .int .i64 0, .slice none 0 0], .int .i64 e]) ∧ Below w.heap.size w w' := by
  have HC : Hid _ := hC
  have hz : (e != 0) = true := by rw [bne_iff_ne]; exact he
  clear hC he
  obtain ⟨w0, hw0⟩ : ∃ w0, w0 = (w.alloc (.cells #[.int .i64 q, .int .i64 n, .slice ao m ca] 43)).alloc (.cells #[.int .i64 0, .int .i64 0, .slice none 0 0] 43) := ⟨_, rfl⟩
  have HW : Hid (Below w.heap.size w w0 ∧ RB (w.heap.size + 1) w0) := by
    obtain ⟨h1, _, h3, h4⟩ := two_boxes q n 0 0 (.slice ao m ca) (.slice none 0 0) w
    have h6 := RBt.new #[.int .i64 0, .int .i64 0, .slice none 0 0] (w.alloc (.cells #[.int .i64 q, .int .i64 n, .slice ao m ca] 43))
    rw [show (w.alloc (.cells #[.int .i64 q, .int .i64 n, .slice ao m ca] 43)).heap.size = w.heap.size + 1 by simp] at h6
    rw [hw0]; exact ⟨h1, RB.of h3 h6⟩
  go_enter Try.func24, Try.ntmps24
  go_wp2_with fail
  rw [← hw0]
  clear hw0
  refine (HC.out _ HW.out.1).mono ?_
  rintro x w1 ⟨rfl, hb1⟩
  have H1 : Hid (Below w.heap.size w w1 ∧ RB (w.heap.size + 1) w1) := ⟨bel_up' HW.out.1 hb1, HW.out.2.keep hb1⟩
  clear hb1
  obtain ⟨⟨x0, c0⟩, ⟨x1, c1⟩, ⟨x2, c2⟩, f0, f1, f2⟩ := H1.out.2
  go_wp2
  obtain ⟨w2, hw2⟩ : ∃ w2, w2 = laid w1 (w.heap.size + 1) 0 0 (.slice none 0 0) := ⟨_, rfl⟩
  have H2 : Hid (CB (w.heap.size + 1) 0 0 (.slice none 0 0) w2 ∧ Below w.heap.size w w2) := by
    rw [hw2]; exact ⟨laid_cb H1.out.2 _ _ _, laid_below H1.out.1 (by omega) _ _ _⟩
  unfold laid at hw2
  rw [← hw2]
  clear hw2 c0 c1 c2 f0 f1 f2
  obtain ⟨c0, c1, c2⟩ := H2.out.1
  refine bodyPost_ret (v := .tuple #[.agg #[.int .i64 0, .int .i64 0, .slice none 0 0], .int .i64 e]) (by simp [results, Try.results24, go_sem, c0, c1, c2]) rfl ?_
  exact ⟨rfl, H2.out.2⟩
set_option maxHeartbeats 4000000 in
set_option maxRecDepth 100000 in
theorem cMake_ok {D : FD} (hD : D ∈ fieldsL) {ao : Option Addr} {m n ca : Nat} {A : Nat → Option Addr} {N C : Nat → Nat} {Z : Nat → Nat → Int} {w : World} (ha : CdZ D ao m n A N C Z w)
    (hC : ∀ wx, Below w.heap.size w wx → Calls Try.prog 26 #[.agg #[.int .i64 D.q, .int .i64 (n : Nat), .slice ao m ca]] wx fun x w' => x = .returned (.int .i64 0) ∧ Below wx.heap.size wx w') :
    Calls Try.prog 24 #[.agg #[.int .i64 D.q, .int .i64 (n : Nat), .slice ao m ca]] w fun x w' => ∃ k R ro rc, x = .returned (.tuple #[.agg #[.int .i64 D.q, .int .i64 (n : Nat), .slice ro k rc], .int .i64 0]) ∧ MV w.heap.size (.slice ro k rc) k n R w' ∧ Red D n m (mzc N Z) k R ∧ Below w.heap.size w w' := by
  obtain ⟨w0, hw0⟩ : ∃ w0, w0 = (w.alloc (.cells #[.int .i64 D.q, .int .i64 (n : Nat), .slice ao m ca] 43)).alloc (.cells #[.int .i64 0, .int .i64 0, .slice none 0 0] 43) := ⟨_, rfl⟩
  have HW : Hid (Below w.heap.size w w0 ∧ RB (w.heap.size + 1) w0 ∧ CB w.heap.size D.q n (.slice ao m ca) w0 ∧ w0.heap.size = w.heap.size + 2) := by
    obtain ⟨h1, h2, h3, h4⟩ := two_boxes D.q n 0 0 (.slice ao m ca) (.slice none 0 0) w
    have h6 := RBt.new #[.int .i64 0, .int .i64 0, .slice none 0 0] (w.alloc (.cells #[.int .i64 D.q, .int .i64 (n : Nat), .slice ao m ca] 43))
    rw [show (w.alloc (.cells #[.int .i64 D.q, .int .i64 (n : Nat), .slice ao m ca] 43)).heap.size = w.heap.size + 1 by simp] at h6
    rw [hw0]; exact ⟨h1, RB.of h3 h6, h2, by simp⟩
  have HA : Hid (D ∈ fieldsL ∧ CdZ D ao m n A N C Z w) := ⟨hD, ha⟩
  have HC : Hid _ := hC
  have hn1 := ha.n1
  have hn := ha.n64
  clear hD ha hC
  go_enter Try.func24, Try.ntmps24
  go_wp2_with fail
  rw [← hw0]
  clear hw0
  refine (HC.out _ HW.out.1).mono ?_
  rintro x w1 ⟨rfl, hb1⟩
  have H1 : Hid (Below w.heap.size w w1 ∧ RB (w.heap.size + 1) w1 ∧ CB w.heap.size D.q n (.slice ao m ca) w1 ∧ w.heap.size + 2 ≤ w1.heap.size) := ⟨bel_up' HW.out.1 hb1, HW.out.2.1.keep hb1, HW.out.2.2.1.keep hb1, by have := hb1.size; have := HW.out.2.2.2; omega⟩
  clear hb1
  have hcb1 := H1.out.2.2.1
  obtain ⟨a0, a1, a2⟩ := hcb1
  go_wp2_with fail
  refine (oneForm_any HA.out.1 (HA.out.2.below H1.out.1)).mono ?_
  rintro x w2 ⟨k, R, ro, rc, rfl, hmv, hred, hb2⟩
  have H2 : Hid (MV w1.heap.size (.slice ro k rc) k n R w2 ∧ Red D n m (mzc N Z) k R ∧ Below w.heap.size w w2 ∧ RB (w.heap.size + 1) w2) := ⟨hmv, hred, bel_up' H1.out.1 hb2, H1.out.2.1.keep hb2⟩
  clear hmv hred hb2 a0 a1 a2
  obtain ⟨⟨x0, c0⟩, ⟨x1, c1⟩, ⟨x2, c2⟩, f0, f1, f2⟩ := H2.out.2.2.2
  go_wp2
  obtain ⟨w3, hw3⟩ : ∃ w3, w3 = laid w2 (w.heap.size + 1) D.q n (.slice ro k rc) := ⟨_, rfl⟩
  have H3 : Hid (CB (w.heap.size + 1) D.q n (.slice ro k rc) w3 ∧ MV w.heap.size (.slice ro k rc) k n R w3 ∧ Below w.heap.size w w3) := by
    have := H1.out.2.2.2
    rw [hw3]; exact ⟨laid_cb H2.out.2.2.2 _ _ _, (laid_mv H2.out.1 (by omega) _ _ _).mono (by omega), laid_below H2.out.2.2.1 (by omega) _ _ _⟩
  unfold laid at hw3
  rw [← hw3]
  clear hw3 c0 c1 c2 f0 f1 f2
  obtain ⟨c0, c1, c2⟩ := H3.out.1
  refine bodyPost_ret (v := .tuple #[.agg #[.int .i64 D.q, .int .i64 (n : Nat), .slice ro k rc], .int .i64 0]) (by simp [results, Try.results24, go_sem, c0, c1, c2]) rfl ?_
  exact ⟨_, R, _, _, rfl, H3.out.2.1, H2.out.2.1, H3.out.2.2⟩
set_option maxHeartbeats 4000000 in
set_option maxRecDepth 100000 in
theorem cDual_err (e : Int) (he : e ≠ 0) (q n : Int) {ao : Option Addr} {m ca : Nat} {w : World}
    (hC : ∀ wx, Below w.heap.size w wx → Calls Try.prog 26 #[.agg #[.int .i64 q, .int .i64 n, .slice ao m ca]] wx fun x w' => x = .returned (.int .i64 e) ∧ Below wx.heap.size wx w') :
    Calls Try.prog 25 #[.agg #[.int .i64 q, .int .i64 n, .slice ao m ca]] w fun x w' => x = .returned (.tuple #[.agg #[.int .i64 0, .int .i64 0, .slice none 0 0], .int .i64 e]) ∧ Below w.heap.size w w' := by
  have HC : Hid _ := hC
  have hz : (e != 0) = true := by rw [bne_iff_ne]; exact he
  clear hC he
  obtain ⟨w0, hw0⟩ : ∃ w0, w0 = (w.alloc (.cells #[.int .i64 q, .int .i64 n, .slice ao m ca] 43)).alloc (.cells #[.int .i64 0, .int .i64 0, .slice none 0 0] 43) := ⟨_, rfl⟩
  have HW : Hid (Below w.heap.size w w0 ∧ RB (w.heap.size + 1) w0) := by
    obtain ⟨h1, _, h3, h4⟩ := two_boxes q n 0 0 (.slice ao m ca) (.slice none 0 0) w
    have h6 := RBt.new #[.int .i64 0, .int .i64 0, .slice none 0 0] (w.alloc (.cells #[.int .i64 q, .int .i64 n, .slice ao m ca] 43))
    rw [show (w.alloc (.cells #[.int .i64 q, .int .i64 n, .slice ao m ca] 43)).heap.size = w.heap.size + 1 by simp] at h6
    rw [hw0]; exact ⟨h1, RB.of h3 h6⟩
  go_enter Try.func25, Try.ntmps25
  go_wp2_with fail
  rw [← hw0]
  clear hw0
  refine (HC.out _ HW.out.1).mono ?_
  rintro x w1 ⟨rfl, hb1⟩
  have H1 : Hid (Below w.heap.size w w1 ∧ RB (w.heap.size + 1) w1) := ⟨bel_up' HW.out.1 hb1, HW.out.2.keep hb1⟩
  clear hb1
  obtain ⟨⟨x0, c0⟩, ⟨x1, c1⟩, ⟨x2, c2⟩, f0, f1, f2⟩ := H1.out.2
  go_wp2
  obtain ⟨w2, hw2⟩ : ∃ w2, w2 = laid w1 (w.heap.size + 1) 0 0 (.slice none 0 0) := ⟨_, rfl⟩
  have H2 : Hid (CB (w.heap.size + 1) 0 0 (.slice none 0 0) w2 ∧ Below w.heap.size w w2) := by
    rw [hw2]; exact ⟨laid_cb H1.out.2 _ _ _, laid_below H1.out.1 (by omega) _ _ _⟩
  unfold laid at hw2
  rw [← hw2]
  clear hw2 c0 c1 c2 f0 f1 f2
  obtain ⟨c0, c1, c2⟩ := H2.out.1
  refine bodyPost_ret (v := .tuple #[.agg #[.int .i64 0, .int .i64 0, .slice none 0 0], .int .i64 e]) (by simp [results, Try.results25, go_sem, c0, c1, c2]) rfl ?_
  exact ⟨rfl, H2.out.2⟩
set_option maxHeartbeats 4000000 in
set_option maxRecDepth 100000 in
theorem cDual_ok {D : FD} (hD : D ∈ fieldsL) {ao : Option Addr} {m n ca : Nat} {A : Nat → Option Addr} {N C : Nat → Nat} {Z : Nat → Nat → Int} {w : World} (ha : CdZ D ao m n A N C Z w)
    (hC : ∀ wx, Below w.heap.size w wx → Calls Try.prog 26 #[.agg #[.int .i64 D.q, .int .i64 (n : Nat), .slice ao m ca]] wx fun x w' => x = .returned (.int .i64 0) ∧ Below wx.heap.size wx w') :
    Calls Try.prog 25 #[.agg #[.int .i64 D.q, .int .i64 (n : Nat), .slice ao m ca]] w fun x w' => ∃ k R ro rc, x = .returned (.tuple #[.agg #[.int .i64 D.q, .int .i64 (n : Nat), .slice ro k rc], .int .i64 0]) ∧ MV w.heap.size (.slice ro k rc) k n R w' ∧ Dul D n m (mzc N Z) k R ∧ Below w.heap.size w w' := by
  obtain ⟨w0, hw0⟩ : ∃ w0, w0 = (w.alloc (.cells #[.int .i64 D.q, .int .i64 (n : Nat), .slice ao m ca] 43)).alloc (.cells #[.int .i64 0, .int .i64 0, .slice none 0 0] 43) := ⟨_, rfl⟩
  have HW : Hid (Below w.heap.size w w0 ∧ RB (w.heap.size + 1) w0 ∧ CB w.heap.size D.q n (.slice ao m ca) w0 ∧ w0.heap.size = w.heap.size + 2) := by
    obtain ⟨h1, h2, h3, h4⟩ := two_boxes D.q n 0 0 (.slice ao m ca) (.slice none 0 0) w
    have h6 := RBt.new #[.int .i64 0, .int .i64 0, .slice none 0 0] (w.alloc (.cells #[.int .i64 D.q, .int .i64 (n : Nat), .slice ao m ca] 43))
    rw [show (w.alloc (.cells #[.int .i64 D.q, .int .i64 (n : Nat), .slice ao m ca] 43)).heap.size = w.heap.size + 1 by simp] at h6
    rw [hw0]; exact ⟨h1, RB.of h3 h6, h2, by simp⟩
  have HA : Hid (D ∈ fieldsL ∧ CdZ D ao m n A N C Z w) := ⟨hD, ha⟩
  have HC : Hid _ := hC
  have hn1 := ha.n1
  have hn := ha.n64
  clear hD ha hC
  go_enter Try.func25, Try.ntmps25
  go_wp2_with fail
  rw [← hw0]
  clear hw0
  refine (HC.out _ HW.out.1).mono ?_
  rintro x w1 ⟨rfl, hb1⟩
  have H1 : Hid (Below w.heap.size w w1 ∧ RB (w.heap.size + 1) w1 ∧ CB w.heap.size D.q n (.slice ao m ca) w1 ∧ w.heap.size + 2 ≤ w1.heap.size) := ⟨bel_up' HW.out.1 hb1, HW.out.2.1.keep hb1, HW.out.2.2.1.keep hb1, by have := hb1.size; have := HW.out.2.2.2; omega⟩
  clear hb1
  have hcb1 := H1.out.2.2.1
  obtain ⟨a0, a1, a2⟩ := hcb1
  go_wp2_with fail
  refine (dual_any HA.out.1 (HA.out.2.below H1.out.1)).mono ?_
  rintro x w2 ⟨k, R, ro, rc, rfl, hmv, hred, hb2⟩
  have H2 : Hid (MV w1.heap.size (.slice ro k rc) k n R w2 ∧ Dul D n m (mzc N Z) k R ∧ Below w.heap.size w w2 ∧ RB (w.heap.size + 1) w2) := ⟨hmv, hred, bel_up' H1.out.1 hb2, H1.out.2.1.keep hb2⟩
  clear hmv hred hb2 a0 a1 a2
  obtain ⟨⟨x0, c0⟩, ⟨x1, c1⟩, ⟨x2, c2⟩, f0, f1, f2⟩ := H2.out.2.2.2
  go_wp2
  obtain ⟨w3, hw3⟩ : ∃ w3, w3 = laid w2 (w.heap.size + 1) D.q n (.slice ro k rc) := ⟨_, rfl⟩
  have H3 : Hid (CB (w.heap.size + 1) D.q n (.slice ro k rc) w3 ∧ MV w.heap.size (.slice ro k rc) k n R w3 ∧ Below w.heap.size w w3) := by
    have := H1.out.2.2.2
    rw [hw3]; exact ⟨laid_cb H2.out.2.2.2 _ _ _, (laid_mv H2.out.1 (by omega) _ _ _).mono (by omega), laid_below H2.out.2.2.1 (by omega) _ _ _⟩
  unfold laid at hw3
  rw [← hw3]
  clear hw3 c0 c1 c2 f0 f1 f2
  obtain ⟨c0, c1, c2⟩ := H3.out.1
  refine bodyPost_ret (v := .tuple #[.agg #[.int .i64 D.q, .int .i64 (n : Nat), .slice ro k rc], .int .i64 0]) (by simp [results, Try.results25, go_sem, c0, c1, c2]) rfl ?_
  exact ⟨_, R, _, _, rfl, H3.out.2.1, H2.out.2.1, H3.out.2.2⟩
end Go.Proofs.Ytbpeahhhkcljeaa
