/- Texts of ours, one behind the other: I12 I13 I14 I15 I16 I17 O4 I18 I19 I20. -/
import Derived.Test.YtpgldgicblhjiaaZI5
import Derived.Test.YtpgldgicblhjiaaZQ1
import Derived.Test.YtpgldgicblhjiaaZS4
import Derived.Test.YtpgldgicblhjiaaZX18
import Derived.Test.YtpgldgicblhjiaaZL12
/- Codes: one form and the dual, of the reference (Made, DualOf). -/
namespace Go.Proofs.Ytpgldgicblhjiaa
open Go.RowKit Go.Sort

/-- Block b holds a code's cells. -/
def RBt (b : Nat) (w : World) : Prop := ∃ cs, w.heap[b]? = some (.cells cs 24 (0, 0))
theorem RBt.new (cs : Array Value) (w : World) : RBt w.heap.size (w.alloc (.cells cs 24)) := ⟨cs, two_new _⟩
theorem RBt.keep {b : Nat} {w w' : World} (h : RBt b w) (hb : Below w.heap.size w w') : RBt b w' := by
  obtain ⟨cs, h⟩ := h
  exact ⟨cs, by rw [hb.block b (lt_of_block h)]; exact h⟩
theorem Row.notCode {g N b : Nat} {c : Nat → Nat} {w : World} (h : Row g N c w) (ht : RBt b w) : g ≠ b := by
  obtain ⟨cap, f, ⟨cs, h1, _⟩, _⟩ := h
  obtain ⟨ds, h2⟩ := ht
  intro e
  rw [e, h2] at h1
  simp at h1
theorem OwnV.notCode {base b : Nat} {v : Value} {l : List Value} {w : World} (h : OwnV base v l w) (ht : RBt b w) : ∀ g, v.ownBlock = some g → g ≠ b := by
  intro g hg e
  rcases h.2 with ⟨h1, _⟩ | ⟨g', cap, cur, hv, _, hh, _⟩
  · rw [h1] at hg; cases hg
  · rw [hv] at hg
    have hg : some g' = some g := hg
    cases hg
    obtain ⟨ds, h2⟩ := ht
    rw [e, h2] at hh
    simp at hh
theorem OwnV.same {base : Nat} {v : Value} {l : List Value} {w w' : World} (h : OwnV base v l w) (hb : ∀ g, v.ownBlock = some g → w'.heap[g]? = w.heap[g]?) : OwnV base v l w' := by
  obtain ⟨h1, h2⟩ := h
  refine ⟨h1, ?_⟩
  rcases h2 with h2 | ⟨g, cap, cur, hv, hg, hh, r⟩
  · exact Or.inl h2
  · exact Or.inr ⟨g, cap, cur, hv, hg, by rw [hb g (by rw [hv]; rfl)]; exact hh, r⟩
theorem LLs.slc {base : Nat} {v : Value} {L : List (Nat × (Nat → Nat))} {w : World} (h : LLs base v L w) : ∃ ao cap, v = .slice ao L.length cap := by
  obtain ⟨l, h1, h2⟩ := h
  obtain ⟨ao, cap, e, _⟩ := h1.open
  rw [h2.1] at e
  exact ⟨ao, cap, e⟩
theorem LLs.laid {base b : Nat} {v : Value} {L : List (Nat × (Nat → Nat))} {w : World} (h : LLs base v L w) (ht : RBt b w) (q n : Int) (u : Value) : LLs base v L (laid w b q n u) := by
  obtain ⟨l, h1, h2⟩ := h
  refine ⟨l, h1.same (fun g hg => laid_heap w b q n u (h1.notCode ht g hg)), h2.1, fun j x p hx hp => ?_⟩
  obtain ⟨g, cap, e, a1, a2, hr⟩ := h2.2 j x p hx hp
  exact ⟨g, cap, e, a1, a2, hr.other (laid_heap w b q n u (hr.notCode ht))⟩

set_option maxHeartbeats 4000000 in
set_option maxRecDepth 100000 in
theorem made_any {D : FD} (hD : D ∈ fieldsL) {ao : Option Addr} {m n n1 ca : Nat} {M : Nat → Nat → Nat} {w : World} (hm : m ≤ 1000) (hn : n ≤ 64) (hnn : n = n1 + 1) (hel : ∀ i, i < m → El D (M i) ∧ Bd (n1 + 1) (M i)) (hA : MatR ao m n1 M w) :
    Calls Try.prog 33 #[.agg #[.int .i64 D.q, .int .i64 (n : Nat), .slice ao m ca]] w fun e w' => ∃ k R ro rc, e = .returned (.agg #[.int .i64 D.q, .int .i64 (n : Nat), .slice ro k rc]) ∧ LLs w.heap.size (.slice ro k rc) (rl k n1 R) w' ∧ Red D n m M k R ∧ Below w.heap.size w w' := by
  obtain ⟨w0, hw0⟩ : ∃ w0, w0 = (w.alloc (.cells #[.int .i64 D.q, .int .i64 (n : Nat), .slice ao m ca] 24)).alloc (.cells #[.int .i64 0, .int .i64 0, .slice none 0 0] 24) := ⟨_, rfl⟩
  have HW : Hid (Below w.heap.size w w0 ∧ CB w.heap.size D.q n (.slice ao m ca) w0 ∧ RB (w.heap.size + 1) w0 ∧ RBt (w.heap.size + 1) w0 ∧ w0.heap.size = w.heap.size + 2) := by
    obtain ⟨h1, h2, _, h4⟩ := two_boxes D.q n 0 0 (.slice ao m ca) (.slice none 0 0) w
    have hs1 : (w.alloc (.cells #[.int .i64 D.q, .int .i64 (n : Nat), .slice ao m ca] 24)).heap.size = w.heap.size + 1 := by simp
    have h5 := RB.new (.int .i64 0) (.int .i64 0) (.slice none 0 0) (w.alloc (.cells #[.int .i64 D.q, .int .i64 (n : Nat), .slice ao m ca] 24))
    have h6 := RBt.new #[.int .i64 0, .int .i64 0, .slice none 0 0] (w.alloc (.cells #[.int .i64 D.q, .int .i64 (n : Nat), .slice ao m ca] 24))
    rw [hs1] at h5 h6
    rw [hw0]; exact ⟨h1, h2, h5, h6, h4⟩
  have HA : Hid (D ∈ fieldsL ∧ (∀ i, i < m → El D (M i) ∧ Bd (n1 + 1) (M i)) ∧ MatR ao m n1 M w ∧ n = n1 + 1) := ⟨hD, hel, hA, hnn⟩
  have hn1 : n1 ≤ 900 := by omega
  clear hD hel hA hnn
  go_enter Try.func33, Try.ntmps33
  go_wp2_with fail
  rw [← hw0]
  clear hw0
  refine (rfield_sl HA.out.1 w0).mono ?_
  rintro e w1 ⟨gm, cm, rfl, hmod, hb1⟩
  unfold rf
  obtain ⟨wb, hwb⟩ : ∃ wb, wb = w1.alloc (.cells #[.int .i64 D.q, .int .i64 D.p, .int .i64 D.m, .int .i64 D.gen, .slice (some ⟨gm, 0, none⟩) (D.m + 1) cm] 62) := ⟨_, rfl⟩
  have hbb : Below w1.heap.size w1 wb := by rw [hwb]; exact (Below.refl _ _).alloc (Nat.le_refl _) _
  have H1 : Hid (Below w.heap.size w wb ∧ CB w.heap.size D.q n (.slice ao m ca) wb ∧ RB (w.heap.size + 1) wb ∧ RBt (w.heap.size + 1) wb ∧ ModAt D (.slice (some ⟨gm, 0, none⟩) (D.m + 1) cm) D.md wb ∧ w.heap.size + 2 ≤ wb.heap.size) := by
    have hb2 := bel_up' hb1 hbb
    exact ⟨bel_up' HW.out.1 hb2, HW.out.2.1.keep hb2, HW.out.2.2.1.keep hb2, HW.out.2.2.2.1.keep hb2, hmod.below hbb, by have := hb2.size; have := HW.out.2.2.2.2; omega⟩
  have hcb1 := HW.out.2.1.keep hb1
  obtain ⟨a0, a1, a2⟩ := hcb1
  have hlt := cell_lt a0
  have hlt : w.heap.size < w1.heap.size := hlt
  clear hmod hb1 hbb
  go_wp2_with fail
  rw [← hwb]
  clear hwb a0 a1 a2
  refine (rreduce_any HA.out.1 D.gen gm cm hm (by omega) HA.out.2.1 (HA.out.2.2.1.below H1.out.1) H1.out.2.2.2.2.1).mono ?_
  rintro e w2 ⟨vr, vp, k, R, p, rfl, hk, hvr, hvp, hre, hsp, _, hb2⟩
  obtain ⟨ro, rc, hv⟩ := hvr.slc
  rw [rl_len] at hv
  subst hv
  have H2 : Hid (LLs wb.heap.size (.slice ro k rc) (rl k n1 R) w2 ∧ Red D n m M k R ∧ Below w.heap.size w w2 ∧ CB w.heap.size D.q n (.slice ao m ca) w2 ∧ RB (w.heap.size + 1) w2 ∧ RBt (w.heap.size + 1) w2) := by
    refine ⟨hvr, ⟨p, ?_, hsp⟩, bel_up' H1.out.1 hb2, H1.out.2.1.keep hb2, H1.out.2.2.1.keep hb2, H1.out.2.2.2.1.keep hb2⟩
    rw [HA.out.2.2.2]; exact hre
  clear hk hvr hvp hre hsp hb2
  have hcb2 := H2.out.2.2.2.1
  obtain ⟨a0, a1, a2⟩ := hcb2
  obtain ⟨⟨x0, c0⟩, ⟨x1, c1⟩, ⟨x2, c2⟩, f0, f1, f2⟩ := H2.out.2.2.2.2.1
  go_wp2
  obtain ⟨w3, hw3⟩ : ∃ w3, w3 = laid w2 (w.heap.size + 1) D.q n (.slice ro k rc) := ⟨_, rfl⟩
  have H3 : Hid (CB (w.heap.size + 1) D.q n (.slice ro k rc) w3 ∧ LLs w.heap.size (.slice ro k rc) (rl k n1 R) w3 ∧ Below w.heap.size w w3) := by
    have := H1.out.2.2.2.2.2
    rw [hw3]; exact ⟨laid_cb H2.out.2.2.2.2.1 _ _ _, (H2.out.1.laid H2.out.2.2.2.2.2 _ _ _).mono (by omega), laid_below H2.out.2.2.1 (by omega) _ _ _⟩
  unfold laid at hw3
  rw [← hw3]
  clear hw3 c0 c1 c2 f0 f1 f2 a0 a1 a2
  obtain ⟨c0, c1, c2⟩ := H3.out.1
  refine bodyPost_ret (v := .agg #[.int .i64 D.q, .int .i64 (n : Nat), .slice ro k rc]) (by simp [results, Try.results33, go_sem, c0, c1, c2]) rfl ?_
  exact ⟨_, R, _, _, rfl, H3.out.2.1, H2.out.2.1, H3.out.2.2⟩
end Go.Proofs.Ytpgldgicblhjiaa

/- Codes: rows of two codes in one list; what both have, of the reference (Both). -/
namespace Go.Proofs.Ytpgldgicblhjiaa
open Go.RowKit Go.Sort

theorem Rwv.keep {u : Value} {n : Nat} {c : Nat → Nat} {w w' : World} (h : Rwv u n c w) (hb : Below w.heap.size w w') : Rwv u n c w' := by
  obtain ⟨A, ca, e, hs, hl, h1, h2, h3⟩ := h
  exact ⟨A, ca, e, hs.below hb hl, hl.mono hb.size, h1, h2, h3⟩
end Go.Proofs.Ytpgldgicblhjiaa

/- CodePairs: codes held against one another; the ways on which there is nothing. -/
namespace Go.Proofs.Ytpgldgicblhjiaa
open Go.RowKit Go.Sort

end Go.Proofs.Ytpgldgicblhjiaa

/- CodePairs: the way of an error. -/
namespace Go.Proofs.Ytpgldgicblhjiaa
open Go.RowKit Go.Sort

end Go.Proofs.Ytpgldgicblhjiaa

/- CodePairs: two codes that may be. -/
namespace Go.Proofs.Ytpgldgicblhjiaa
open Go.RowKit Go.Sort

theorem RB.of {b : Nat} {q n : Int} {v : Value} {w : World} (h : CB b q n v w) (ht : RBt b w) : RB b w := by
  obtain ⟨cs, hh⟩ := ht
  exact ⟨⟨_, h.c0⟩, ⟨_, h.c1⟩, ⟨_, h.c2⟩, frozen_of_row _ _ _ _ _ hh, frozen_of_row _ _ _ _ _ hh, frozen_of_row _ _ _ _ _ hh⟩
end Go.Proofs.Ytpgldgicblhjiaa

/- CodePairs: whatever is handed in. -/
namespace Go.Proofs.Ytpgldgicblhjiaa
open Go.RowKit Go.Sort

theorem heavy_below {ao : Option Addr} {m ca : Nat} {A : Nat → Option Addr} {N C : Nat → Nat} {Z : Nat → Nat → Int} {w : World} (h : MatO ao m A N C Z w) (hm : m ≤ 17592186044416) (hN : ∀ i, i < m → N i ≤ 17592186044416) (wx : World) (hx : Below w.heap.size w wx) :
    Calls Try.prog 6 #[.slice ao m ca] wx fun r w' => r = .returned (.bool (decide (6000 < hvs N m m))) ∧ w' = wx :=
  heavy_any (A := A) (C := C) (fun i hi => by
    obtain ⟨b, off, e, hc⟩ := h.cell i hi
    exact ⟨b, off, e, ((bcell hx).1 b (off + i) (cell_lt hc)).trans hc⟩) hm hN

/-- What both sides say of a code, and what it is if they say 0. -/
theorem code_may (q n : Int) {ao : Option Addr} {m : Nat} (ca : Nat) {A : Nat → Option Addr} {N C : Nat → Nat} {Z : Nat → Nat → Int} {w : World} (hA : MatZ ao m A N C Z w) (hm : m ≤ 1000000) :
    ∃ ea : Int, (∀ wx, Below w.heap.size w wx → Calls Try.prog 45 #[.agg #[.int .i64 q, .int .i64 n, .slice ao m ca]] wx fun e w' => e = .returned (.int .i64 ea) ∧ Below wx.heap.size wx w') ∧
      (∀ wx, Below w.heap.size w wx → Calls Try.prog 31 #[.agg #[.int .i64 q, .int .i64 n, .slice ao m ca]] wx fun e w' => e = .returned (.int .i64 ea) ∧ Below wx.heap.size wx w') ∧
      (ea = 0 → ∃ D ∈ fieldsL, q = (D.q : Int) ∧ ∃ n' : Nat, n = (n' : Int) ∧ CdZ D ao m n' A N C Z w) := by
  by_cases h : ∃ D ∈ fieldsL, (D.q : Int) = q
  · obtain ⟨D, hD, rfl⟩ := h
    refine ⟨D.cchk n m N Z, fun wx hx => ccheck_any hD n (hA.below hx) hm, fun wx hx => rcodeMay_any hD n (hA.below hx) hm, fun e => ⟨D, hD, rfl, n.toNat, ?_, hA, ?_, ?_, ?_, ?_⟩⟩
    all_goals
      unfold FD.cchk at e
      split at e
      · omega
      · split at e
        · first | contradiction | omega
        · split at e
          · omega
          · first | omega | (intro h0; have : ¬ (0 < m ∧ ((N 0 : Nat) : Int) ≠ n) := by assumption
                             have h1 : ((N 0 : Nat) : Int) = n := Classical.byContradiction (fun hc => this ⟨h0, hc⟩)
                             omega) | (have : ¬ (D.mchk m N Z ≠ 0) := by assumption
                                       exact Classical.byContradiction this)
  · have h' : ∀ D ∈ fieldsL, (D.q : Int) ≠ q := fun D hD e => h ⟨D, hD, e⟩
    exact ⟨1, fun wx _ => ccheck_none q h' n ao m ca wx, fun wx _ => rcodeMay_none q h' n ao m ca wx, fun e => by omega⟩

end Go.Proofs.Ytpgldgicblhjiaa

/- A code that is handed in, opened. -/
namespace Go.Proofs.Ytpgldgicblhjiaa
open Go.ChangeShapes Go.WideShapes Go.ChangeAt Go.RowKit

theorem Try.fieldsCode : Try.prog.underlying 24 = some (.struct #[⟨"Q", 3, 0, false, "", "", 0⟩, ⟨"N", 3, 1, false, "", "", 8⟩, ⟨"Rows", 22, 2, false, "", "", 16⟩]) := by kernel_rfl
theorem Try.cellsCode : Try.prog.cellsOf 24 = 3 := by kernel_rfl
theorem Try.cellsRows : Try.prog.cellsOf 22 = 1 := by kernel_rfl

set_option maxRecDepth 100000 in
theorem open_code {H : Type} {enc : TypeId × Value → H} {W : World} {base : Nat} {v : Value} {d : DataW H} {p : List MemPlace} (hok : Value.okWide Try.prog W .any base 24 v)
    (h : DataW.Trod enc Try.prog W 0 (fun _ => true) true 24 v d p) :
    ∃ q n ao m ca A N C Z d2, v = .agg #[.int .i64 q, .int .i64 n, .slice ao m ca] ∧ MatO ao m A N C Z W ∧ m ≤ ca ∧ RowsD m ca C d2 ∧ (ao = none → ca = 0) ∧ (∃ x0 x1, d = .agg [x0, x1, d2]) ∧ (Lit.int .i64 q).wf = true ∧ (Lit.int .i64 n).wf = true := by
  obtain ⟨cs, rfl, hsz⟩ := okWide_struct Try.fieldsCode hok
  rw [Try.cellsCode] at hsz
  obtain ⟨l⟩ := cs
  match l, hsz with
  | [c0, c1, c2], _ =>
    obtain ⟨fuel, hf⟩ := h
    obtain ⟨xs, n, _, hx, hl, hlen, hff⟩ := DataW.trod_struct Try.fieldsCode hf
    match xs, hlen with
    | [y0, y1, y2], _ =>
      have h0 := hff 0 _ rfl
      have h1 := hff 1 _ rfl
      have h2 := hff 2 _ rfl
      simp [Value.cells, Try.cellsInt, Try.cellsRows] at h0 h1 h2
      obtain ⟨q, e0, _, w0⟩ := DataW.trod_int Try.underlying3 h0
      obtain ⟨n', e1, _, w1⟩ := DataW.trod_int Try.underlying3 h1
      obtain ⟨z2, p2⟩ := y2
      obtain ⟨ao, m, ca, A, N, C, Z, e2, hM, hle, hR, hn⟩ := open_rows_at h2
      simp only [List.cons.injEq, and_true] at e0 e1
      subst e0 e1 e2
      simp only [Prod.mk.injEq] at hx
      exact ⟨q, n', ao, m, ca, A, N, C, Z, z2, rfl, hM, hle, hR, hn, ⟨_, _, hx.1⟩, w0, w1⟩
/-- No code that is handed in takes more than the form's own reach. -/
theorem sized_code {H : Type} {ts : List TypeId} {ds : List (DataW H)} {x0 x1 d : DataW H} {m ca j : Nat} {C : Nat → Nat} (h : (DataW.weightsEach Try.prog ts ds).all (· ≤ reachBytes) = true) (ht : ts[j]? = some 24) (hd : ds[j]? = some (.agg [x0, x1, d]))
    (hc : RowsD m ca C d) : ca ≤ 17592186044416 ∧ ∀ i, i < m → C i ≤ 17592186044416 :=
  sized_rows_at (fun x hx => by
    have := List.all_eq_true.1 h _ (DataW.weights_mem_each (P := Try.prog) ht hd x (by
      simp only [DataW.weights, Try.fieldsCode, DataW.weightsEach, List.map_cons, List.mem_append]
      exact Or.inr (Or.inr (Or.inl hx))))
    simpa using this) hc
end Go.Proofs.Ytpgldgicblhjiaa

/- Make and Dual, with their checks. -/
namespace Go.Proofs.Ytpgldgicblhjiaa
open Go.RowKit Go.Sort

set_option maxHeartbeats 4000000 in
set_option maxRecDepth 100000 in
theorem cMake_err (e : Int) (he : e ≠ 0) (q n : Int) {ao : Option Addr} {m ca : Nat} {w : World}
    (hC : ∀ wx, Below w.heap.size w wx → Calls Try.prog 45 #[.agg #[.int .i64 q, .int .i64 n, .slice ao m ca]] wx fun x w' => x = .returned (.int .i64 e) ∧ Below wx.heap.size wx w') :
    Calls Try.prog 22 #[.agg #[.int .i64 q, .int .i64 n, .slice ao m ca]] w fun x w' => x = .returned (.tuple #[.agg #[.int .i64 0, .int .i64 0, .slice none 0 0], .int .i64 e]) ∧ Below w.heap.size w w' := by
  have HC : Hid _ := hC
  have hz : (e != 0) = true := by rw [bne_iff_ne]; exact he
  clear hC he
  obtain ⟨w0, hw0⟩ : ∃ w0, w0 = (w.alloc (.cells #[.int .i64 q, .int .i64 n, .slice ao m ca] 24)).alloc (.cells #[.int .i64 0, .int .i64 0, .slice none 0 0] 24) := ⟨_, rfl⟩
  have HW : Hid (Below w.heap.size w w0 ∧ RB (w.heap.size + 1) w0) := by
    obtain ⟨h1, _, h3, h4⟩ := two_boxes q n 0 0 (.slice ao m ca) (.slice none 0 0) w
    have h6 := RBt.new #[.int .i64 0, .int .i64 0, .slice none 0 0] (w.alloc (.cells #[.int .i64 q, .int .i64 n, .slice ao m ca] 24))
    rw [show (w.alloc (.cells #[.int .i64 q, .int .i64 n, .slice ao m ca] 24)).heap.size = w.heap.size + 1 by simp] at h6
    rw [hw0]; exact ⟨h1, RB.of h3 h6⟩
  go_enter Try.func22, Try.ntmps22
  go_wp2_with fail
  rw [← hw0]
  clear hw0
  refine (HC.out _ HW.out.1).mono ?_
  rintro x w1 ⟨rfl, hb1⟩
  have H1 : Hid (Below w.heap.size w w1 ∧ RB (w.heap.size + 1) w1) := ⟨bel_up' HW.out.1 hb1, HW.out.2.keep hb1⟩
  clear hb1
  obtain ⟨⟨x0, c0⟩, ⟨x1, c1⟩, ⟨x2, c2⟩, f0, f1, f2⟩ := H1.out.2
  go_wp2
  obtain ⟨w2, hw2⟩ : ∃ w2, w2 = laid w1 (w.heap.size + 1) 0 0 (.slice none 0 0) := ⟨_, rfl⟩
  have H2 : Hid (CB (w.heap.size + 1) 0 0 (.slice none 0 0) w2 ∧ Below w.heap.size w w2) := by
    rw [hw2]; exact ⟨laid_cb H1.out.2 _ _ _, laid_below H1.out.1 (by omega) _ _ _⟩
  unfold laid at hw2
  rw [← hw2]
  clear hw2 c0 c1 c2 f0 f1 f2
  obtain ⟨c0, c1, c2⟩ := H2.out.1
  refine bodyPost_ret (v := .tuple #[.agg #[.int .i64 0, .int .i64 0, .slice none 0 0], .int .i64 e]) (by simp [results, Try.results22, go_sem, c0, c1, c2]) rfl ?_
  exact ⟨rfl, H2.out.2⟩
set_option maxHeartbeats 4000000 in
set_option maxRecDepth 100000 in
theorem cMake_ok {D : FD} (hD : D ∈ fieldsL) {ao : Option Addr} {m n ca : Nat} {A : Nat → Option Addr} {N C : Nat → Nat} {Z : Nat → Nat → Int} {w : World} (ha : CdZ D ao m n A N C Z w)
    (hC : ∀ wx, Below w.heap.size w wx → Calls Try.prog 45 #[.agg #[.int .i64 D.q, .int .i64 (n : Nat), .slice ao m ca]] wx fun x w' => x = .returned (.int .i64 0) ∧ Below wx.heap.size wx w') :
    Calls Try.prog 22 #[.agg #[.int .i64 D.q, .int .i64 (n : Nat), .slice ao m ca]] w fun x w' => ∃ k R ro rc, x = .returned (.tuple #[.agg #[.int .i64 D.q, .int .i64 (n : Nat), .slice ro k rc], .int .i64 0]) ∧ MV w.heap.size (.slice ro k rc) k n R w' ∧ Red D n m (mzc N Z) k R ∧ Below w.heap.size w w' := by
  obtain ⟨w0, hw0⟩ : ∃ w0, w0 = (w.alloc (.cells #[.int .i64 D.q, .int .i64 (n : Nat), .slice ao m ca] 24)).alloc (.cells #[.int .i64 0, .int .i64 0, .slice none 0 0] 24) := ⟨_, rfl⟩
  have HW : Hid (Below w.heap.size w w0 ∧ RB (w.heap.size + 1) w0 ∧ CB w.heap.size D.q n (.slice ao m ca) w0 ∧ w0.heap.size = w.heap.size + 2) := by
    obtain ⟨h1, h2, h3, h4⟩ := two_boxes D.q n 0 0 (.slice ao m ca) (.slice none 0 0) w
    have h6 := RBt.new #[.int .i64 0, .int .i64 0, .slice none 0 0] (w.alloc (.cells #[.int .i64 D.q, .int .i64 (n : Nat), .slice ao m ca] 24))
    rw [show (w.alloc (.cells #[.int .i64 D.q, .int .i64 (n : Nat), .slice ao m ca] 24)).heap.size = w.heap.size + 1 by simp] at h6
    rw [hw0]; exact ⟨h1, RB.of h3 h6, h2, by simp⟩
  have HA : Hid (D ∈ fieldsL ∧ CdZ D ao m n A N C Z w) := ⟨hD, ha⟩
  have HC : Hid _ := hC
  have hn1 := ha.n1
  have hn := ha.n64
  clear hD ha hC
  go_enter Try.func22, Try.ntmps22
  go_wp2_with fail
  rw [← hw0]
  clear hw0
  refine (HC.out _ HW.out.1).mono ?_
  rintro x w1 ⟨rfl, hb1⟩
  have H1 : Hid (Below w.heap.size w w1 ∧ RB (w.heap.size + 1) w1 ∧ CB w.heap.size D.q n (.slice ao m ca) w1 ∧ w.heap.size + 2 ≤ w1.heap.size) := ⟨bel_up' HW.out.1 hb1, HW.out.2.1.keep hb1, HW.out.2.2.1.keep hb1, by have := hb1.size; have := HW.out.2.2.2; omega⟩
  clear hb1
  have hcb1 := H1.out.2.2.1
  obtain ⟨a0, a1, a2⟩ := hcb1
  go_wp2_with fail
  refine (oneForm_any HA.out.1 (HA.out.2.below H1.out.1)).mono ?_
  rintro x w2 ⟨k, R, ro, rc, rfl, hmv, hred, hb2⟩
  have H2 : Hid (MV w1.heap.size (.slice ro k rc) k n R w2 ∧ Red D n m (mzc N Z) k R ∧ Below w.heap.size w w2 ∧ RB (w.heap.size + 1) w2) := ⟨hmv, hred, bel_up' H1.out.1 hb2, H1.out.2.1.keep hb2⟩
  clear hmv hred hb2 a0 a1 a2
  obtain ⟨⟨x0, c0⟩, ⟨x1, c1⟩, ⟨x2, c2⟩, f0, f1, f2⟩ := H2.out.2.2.2
  go_wp2
  obtain ⟨w3, hw3⟩ : ∃ w3, w3 = laid w2 (w.heap.size + 1) D.q n (.slice ro k rc) := ⟨_, rfl⟩
  have H3 : Hid (CB (w.heap.size + 1) D.q n (.slice ro k rc) w3 ∧ MV w.heap.size (.slice ro k rc) k n R w3 ∧ Below w.heap.size w w3) := by
    have := H1.out.2.2.2
    rw [hw3]; exact ⟨laid_cb H2.out.2.2.2 _ _ _, (laid_mv H2.out.1 (by omega) _ _ _).mono (by omega), laid_below H2.out.2.2.1 (by omega) _ _ _⟩
  unfold laid at hw3
  rw [← hw3]
  clear hw3 c0 c1 c2 f0 f1 f2
  obtain ⟨c0, c1, c2⟩ := H3.out.1
  refine bodyPost_ret (v := .tuple #[.agg #[.int .i64 D.q, .int .i64 (n : Nat), .slice ro k rc], .int .i64 0]) (by simp [results, Try.results22, go_sem, c0, c1, c2]) rfl ?_
  exact ⟨_, R, _, _, rfl, H3.out.2.1, H2.out.2.1, H3.out.2.2⟩
set_option maxHeartbeats 4000000 in
set_option maxRecDepth 100000 in
theorem cDual_ok {D : FD} (hD : D ∈ fieldsL) {ao : Option Addr} {m n ca : Nat} {A : Nat → Option Addr} {N C : Nat → Nat} {Z : Nat → Nat → Int} {w : World} (ha : CdZ D ao m n A N C Z w)
    (hC : ∀ wx, Below w.heap.size w wx → Calls Try.prog 45 #[.agg #[.int .i64 D.q, .int .i64 (n : Nat), .slice ao m ca]] wx fun x w' => x = .returned (.int .i64 0) ∧ Below wx.heap.size wx w') :
    Calls Try.prog 19 #[.agg #[.int .i64 D.q, .int .i64 (n : Nat), .slice ao m ca]] w fun x w' => ∃ k R ro rc, x = .returned (.tuple #[.agg #[.int .i64 D.q, .int .i64 (n : Nat), .slice ro k rc], .int .i64 0]) ∧ MV w.heap.size (.slice ro k rc) k n R w' ∧ Dul D n m (mzc N Z) k R ∧ Below w.heap.size w w' := by
  obtain ⟨w0, hw0⟩ : ∃ w0, w0 = (w.alloc (.cells #[.int .i64 D.q, .int .i64 (n : Nat), .slice ao m ca] 24)).alloc (.cells #[.int .i64 0, .int .i64 0, .slice none 0 0] 24) := ⟨_, rfl⟩
  have HW : Hid (Below w.heap.size w w0 ∧ RB (w.heap.size + 1) w0 ∧ CB w.heap.size D.q n (.slice ao m ca) w0 ∧ w0.heap.size = w.heap.size + 2) := by
    obtain ⟨h1, h2, h3, h4⟩ := two_boxes D.q n 0 0 (.slice ao m ca) (.slice none 0 0) w
    have h6 := RBt.new #[.int .i64 0, .int .i64 0, .slice none 0 0] (w.alloc (.cells #[.int .i64 D.q, .int .i64 (n : Nat), .slice ao m ca] 24))
    rw [show (w.alloc (.cells #[.int .i64 D.q, .int .i64 (n : Nat), .slice ao m ca] 24)).heap.size = w.heap.size + 1 by simp] at h6
    rw [hw0]; exact ⟨h1, RB.of h3 h6, h2, by simp⟩
  have HA : Hid (D ∈ fieldsL ∧ CdZ D ao m n A N C Z w) := ⟨hD, ha⟩
  have HC : Hid _ := hC
  have hn1 := ha.n1
  have hn := ha.n64
  clear hD ha hC
  go_enter Try.func19, Try.ntmps19
  go_wp2_with fail
  rw [← hw0]
  clear hw0
  refine (HC.out _ HW.out.1).mono ?_
  rintro x w1 ⟨rfl, hb1⟩
  have H1 : Hid (Below w.heap.size w w1 ∧ RB (w.heap.size + 1) w1 ∧ CB w.heap.size D.q n (.slice ao m ca) w1 ∧ w.heap.size + 2 ≤ w1.heap.size) := ⟨bel_up' HW.out.1 hb1, HW.out.2.1.keep hb1, HW.out.2.2.1.keep hb1, by have := hb1.size; have := HW.out.2.2.2; omega⟩
  clear hb1
  have hcb1 := H1.out.2.2.1
  obtain ⟨a0, a1, a2⟩ := hcb1
  go_wp2_with fail
  refine (dual_any HA.out.1 (HA.out.2.below H1.out.1)).mono ?_
  rintro x w2 ⟨k, R, ro, rc, rfl, hmv, hred, hb2⟩
  have H2 : Hid (MV w1.heap.size (.slice ro k rc) k n R w2 ∧ Dul D n m (mzc N Z) k R ∧ Below w.heap.size w w2 ∧ RB (w.heap.size + 1) w2) := ⟨hmv, hred, bel_up' H1.out.1 hb2, H1.out.2.1.keep hb2⟩
  clear hmv hred hb2 a0 a1 a2
  obtain ⟨⟨x0, c0⟩, ⟨x1, c1⟩, ⟨x2, c2⟩, f0, f1, f2⟩ := H2.out.2.2.2
  go_wp2
  obtain ⟨w3, hw3⟩ : ∃ w3, w3 = laid w2 (w.heap.size + 1) D.q n (.slice ro k rc) := ⟨_, rfl⟩
  have H3 : Hid (CB (w.heap.size + 1) D.q n (.slice ro k rc) w3 ∧ MV w.heap.size (.slice ro k rc) k n R w3 ∧ Below w.heap.size w w3) := by
    have := H1.out.2.2.2
    rw [hw3]; exact ⟨laid_cb H2.out.2.2.2 _ _ _, (laid_mv H2.out.1 (by omega) _ _ _).mono (by omega), laid_below H2.out.2.2.1 (by omega) _ _ _⟩
  unfold laid at hw3
  rw [← hw3]
  clear hw3 c0 c1 c2 f0 f1 f2
  obtain ⟨c0, c1, c2⟩ := H3.out.1
  refine bodyPost_ret (v := .tuple #[.agg #[.int .i64 D.q, .int .i64 (n : Nat), .slice ro k rc], .int .i64 0]) (by simp [results, Try.results19, go_sem, c0, c1, c2]) rfl ?_
  exact ⟨_, R, _, _, rfl, H3.out.2.1, H2.out.2.1, H3.out.2.2⟩
end Go.Proofs.Ytpgldgicblhjiaa

/- Weights and distances of words, on both sides. -/
namespace Go.Proofs.Ytpgldgicblhjiaa
open Go.RowKit Go.Sort

set_option maxHeartbeats 4000000 in
set_option maxRecDepth 100000 in
theorem rweight_any {ao : Option Addr} {n ca : Nat} {a : Nat → Int} {w : World} (hA : SlZ ao n a w) (hla : LtB ao w.heap.size) (hn : n ≤ 1000) :
    Calls Try.prog 35 #[.slice ao n ca] w fun e w' => e = .returned (.int .i64 (ct (fun i => !decide (a i = 0)) n : Nat)) ∧ Below w.heap.size w w' := by
  have HF : Hid (SlZ ao n a w ∧ LtB ao w.heap.size) := ⟨hA, hla⟩
  clear hA hla
  go_enter Try.func35, Try.ntmps35
  go_wp2
  go_loopw [3, 4] (fun vm vi wr => ∃ (r m : Nat), r ≤ n ∧ m ≤ r ∧ vm = .int .i64 (m : Nat) ∧ vi = .int .i64 r ∧ Hid (m = ct (fun i => !decide (a i = 0)) r ∧ Below w.heap.size w wr)) (fun _ vi _ => n - (intOf vi).toNat)
  case atStart => exact ⟨0, 0, by omega, by omega, rfl, rfl, rfl, Below.refl _ _⟩
  case round =>
    obtain ⟨r, m, hr, hmr, rfl, rfl, HG⟩ := hrel
    rename World => wr
    by_cases hlt : r < n
    · have hib : (r : Int) < (n : Int) := by omega
      obtain ⟨ba, oa, hao, hca⟩ := (HF.out.1.below HG.out.2 HF.out.2) r hlt
      subst hao
      obtain ⟨x, hx⟩ : ∃ x, x = a r := ⟨_, rfl⟩
      rw [← hx] at hca
      by_cases e : x = 0
      · have hz : (x != 0) = false := by rw [e]; simp
        have HV : Hid (m = ct (fun i => !decide (a i = 0)) (r + 1)) := by
          show m = ct (fun i => !decide (a i = 0)) r + if (!decide (a r = 0)) = true then 1 else 0
          rw [← HG.out.1, decide_eq_true (by rw [← hx]; exact e)]; rfl
        clear e hx
        go_wp2
        go_roundw
        case rel => exact ⟨r + 1, m, by omega, by omega, rfl, by go_num, HV.out, by first | exact HG.out.2 | exact HG.out.2.drew | exact below_drewN2 HG.out.2 _⟩
        case measure => simp [intOf]; omega
      · have hz : (x != 0) = true := by rw [bne_iff_ne]; exact e
        have HV : Hid (m + 1 = ct (fun i => !decide (a i = 0)) (r + 1)) := by
          show m + 1 = ct (fun i => !decide (a i = 0)) r + if (!decide (a r = 0)) = true then 1 else 0
          rw [← HG.out.1, decide_eq_false (by rw [← hx]; exact e)]; rfl
        clear e hx
        go_wp2
        go_roundw
        case rel => exact ⟨r + 1, m + 1, by omega, by omega, by go_num, by go_num, HV.out, by first | exact HG.out.2 | exact HG.out.2.drew | exact below_drewN2 HG.out.2 _⟩
        case measure => simp [intOf]; omega
    · have hib : ¬ (r : Int) < (n : Int) := by omega
      have hre : n = r := by omega
      subst hre
      go_wp2
      go_ret
      exact ⟨by rw [HG.out.1]; rfl, by first | exact HG.out.2 | exact HG.out.2.drew | exact below_drewN2 HG.out.2 _⟩
end Go.Proofs.Ytpgldgicblhjiaa

/- Numbers of a word: may they be? The program's numbers. -/
namespace Go.Proofs.Ytpgldgicblhjiaa
open Go.RowKit Go.Sort

/-- What is said of m numbers that are to be so many elements. -/
def FD.nchk (D : FD) (m : Nat) (y : Nat → Int) (many : Int) : Int := if ((m : Nat) : Int) ≠ many then 6 else if anyB (fun j => !D.has (y j)) m = true then 2 else 0
theorem nchk_ok {D : FD} {m : Nat} {y : Nat → Int} {many : Int} (h : D.nchk m y many = 0) : ((m : Nat) : Int) = many ∧ ∀ j, j < m → D.has (y j) = true := by
  unfold FD.nchk at h
  split at h
  · omega
  · split at h
    · omega
    · rename_i h1 h2
      refine ⟨by omega, fun j hj => ?_⟩
      cases e : D.has (y j) with
      | true => rfl
      | false => exact absurd (anyB_yes (p := fun j => !D.has (y j)) (by show (!D.has (y j)) = true; rw [e]; rfl) m hj) h2
theorem enters_cnum : ∀ args w, (callFunc 73 args).run Try.prog w = .ok (.enter 73 args) w :=
  enters_of Try.func73 (by kernel_rfl) rfl

set_option maxHeartbeats 2000000 in
set_option maxRecDepth 100000 in
theorem cnum1_any {D : FD} {F T B : Nat} {g : Nat → Value} {w : World} (h : FAt F T D g w) (hc : w.cell? ⟨B, 0, none⟩ = some (.pointer (some ⟨F, 0, none⟩))) (x : Int) :
    Calls Try.prog 73 #[.int .i64 x, .pointer (some ⟨B, 0, none⟩)] w fun e w' => e = .returned (.bool (!D.has x)) ∧ w' = w := by
  have HS : Hid (FAt F T D g w) := h
  clear h
  obtain ⟨y, hy⟩ : ∃ y, y = D.has x := ⟨_, rfl⟩
  have HC : Hid (Calls Try.prog 74 #[.pointer (some ⟨F, 0, none⟩), .int .i64 x] w fun e w' => e = .returned (.bool y) ∧ w' = w) := by
    show Calls _ _ _ _ _
    rw [hy]; exact has_any HS.out x
  rw [← hy]
  clear hy
  go_enter Try.func73, Try.ntmps73
  go_wp2_with (go_at_call 74; refine HC.out.mono ?_; rintro e w' ⟨rfl, hw⟩; have hw := hw.symm; subst hw)
  go_ret
  exact ⟨rfl, rfl⟩

set_option maxHeartbeats 4000000 in
set_option maxRecDepth 100000 in
theorem cnum_len {D : FD} (hD : D ∈ fieldsL) {yo : Option Addr} {m cy : Nat} {many : Int} {w : World} (h : ((m : Nat) : Int) ≠ many) :
    Calls Try.prog 41 #[.int .i64 D.q, .slice yo m cy, .int .i64 many] w fun e w' => e = .returned (.tuple #[.pointer none, .int .i64 6]) ∧ Below w.heap.size w w' := by
  have HF : Hid (D ∈ fieldsL) := hD
  have hz : (((m : Nat) : Int) != many) = true := by rw [bne_iff_ne]; exact h
  clear hD h
  go_enter Try.func41, Try.ntmps41
  go_wp2_with fail
  refine (new_any HF.out w).mono ?_
  rintro e w2 ⟨F, T, g, rfl, hat, hF, hT, hb2⟩
  have H2 : Hid (Below w.heap.size w (w2.alloc (.cells #[.pointer (some ⟨F, 0, none⟩)] 66))) := bel_up' hb2 ((Below.refl _ _).alloc (Nat.le_refl _) _)
  clear hat hF hT hb2
  go_wp2
  go_ret2
  exact ⟨by simp [go_sem], H2.out⟩

def NumP (D : FD) (ab : Bool) (B : Nat) (e : Ending) (w' : World) : Prop := if ab = true then e = .returned (.tuple #[.pointer none, .int .i64 2]) else ∃ F T g, e = .returned (.tuple #[.pointer (some ⟨F, 0, none⟩), .int .i64 0]) ∧ FAt F T D g w' ∧ B ≤ F ∧ B ≤ T
set_option maxHeartbeats 4000000 in
set_option maxRecDepth 100000 in
theorem cnum_any {D : FD} (hD : D ∈ fieldsL) {yo : Option Addr} {m cy : Nat} {y : Nat → Int} {w : World} (hY : Arg yo m cy y w) :
    Calls Try.prog 41 #[.int .i64 D.q, .slice yo m cy, .int .i64 (m : Nat)] w fun e w' => Below w.heap.size w w' ∧ NumP D (anyB (fun j => !D.has (y j)) m) w.heap.size e w' := by
  have HF : Hid (D ∈ fieldsL ∧ Arg yo m cy y w) := ⟨hD, hY⟩
  have hm6 := hY.few
  obtain ⟨ab, hab⟩ : ∃ ab, ab = anyB (fun j => !D.has (y j)) m := ⟨_, rfl⟩
  rw [← hab]
  clear hD hY
  go_enter Try.func41, Try.ntmps41
  go_wp2_with fail
  refine (new_any HF.out.1 w).mono ?_
  rintro e w2 ⟨F, T, g, rfl, hat, hF, hT, hb2⟩
  have hal : Below w2.heap.size w2 (w2.alloc (.cells #[.pointer (some ⟨F, 0, none⟩)] 66)) := (Below.refl _ _).alloc (Nat.le_refl _) _
  have H2 : Hid (FAt F T D g (w2.alloc (.cells #[.pointer (some ⟨F, 0, none⟩)] 66)) ∧ Below w.heap.size w (w2.alloc (.cells #[.pointer (some ⟨F, 0, none⟩)] 66)) ∧ w.heap.size ≤ F ∧ w.heap.size ≤ T) := ⟨hat.below hal hat.ltF hat.ltT, bel_up' hb2 hal, hF, hT⟩
  have HCf : Hid (∀ cap, Calls Try.prog 72 #[.slice yo m cap, .func (.func 73) #[] #[.pointer (some ⟨w2.heap.size, 0, none⟩)]] (w2.alloc (.cells #[.pointer (some ⟨F, 0, none⟩)] 66)) fun e w' => e = .returned (.bool ab) ∧ w' = w2.alloc (.cells #[.pointer (some ⟨F, 0, none⟩)] 66)) := fun cap => by
    rw [hab]
    refine containsFn_any enters_cnum (HF.out.2.below H2.out.2.1).sl hm6 (fun j _ => ?_)
    have e : (#[Value.int .i64 (y j)] ++ #[Value.pointer (some ⟨w2.heap.size, 0, none⟩)] : Array Value) = #[.int .i64 (y j), .pointer (some ⟨w2.heap.size, 0, none⟩)] := rfl
    rw [e]
    exact cnum1_any H2.out.1 (by simp) (y j)
  clear hat hF hT hb2 hal hab
  cases ab
  · go_wp2_with (go_at_call 72; refine (HCf.out _).mono ?_; rintro e w' ⟨rfl, rfl⟩)
    go_ret2
    refine ⟨H2.out.2.1, ?_⟩
    unfold NumP
    rw [if_neg (by simp)]
    exact ⟨F, T, g, by simp [go_sem], H2.out.1, H2.out.2.2.1, H2.out.2.2.2⟩
  · go_wp2_with (go_at_call 72; refine (HCf.out _).mono ?_; rintro e w' ⟨rfl, rfl⟩)
    go_ret2
    refine ⟨H2.out.2.1, ?_⟩
    unfold NumP
    rw [if_pos rfl]
    simp [go_sem]

theorem cnum_err {D : FD} (hD : D ∈ fieldsL) {yo : Option Addr} {m cy : Nat} {y : Nat → Int} {many : Int} {w : World} (hY : Arg yo m cy y w) (h : D.nchk m y many ≠ 0) :
    Calls Try.prog 41 #[.int .i64 D.q, .slice yo m cy, .int .i64 many] w fun e w' => e = .returned (.tuple #[.pointer none, .int .i64 (D.nchk m y many)]) ∧ Below w.heap.size w w' := by
  unfold FD.nchk at h ⊢
  by_cases e : ((m : Nat) : Int) = many
  · rw [if_neg (by omega)] at h ⊢
    subst e
    by_cases ha : anyB (fun j => !D.has (y j)) m = true
    · rw [if_pos ha] at h ⊢
      refine (cnum_any hD hY).mono ?_
      rintro x w' ⟨hb, hx⟩
      unfold NumP at hx
      rw [if_pos ha] at hx
      exact ⟨hx, hb⟩
    · rw [if_neg ha] at h; omega
  · rw [if_pos e]; exact cnum_len hD e
theorem cnum_ok {D : FD} (hD : D ∈ fieldsL) {yo : Option Addr} {m cy : Nat} {y : Nat → Int} {many : Int} {w : World} (hY : Arg yo m cy y w) (h : D.nchk m y many = 0) :
    Calls Try.prog 41 #[.int .i64 D.q, .slice yo m cy, .int .i64 many] w fun e w' => ∃ F T g, e = .returned (.tuple #[.pointer (some ⟨F, 0, none⟩), .int .i64 0]) ∧ FAt F T D g w' ∧ w.heap.size ≤ F ∧ w.heap.size ≤ T ∧ Below w.heap.size w w' := by
  unfold FD.nchk at h
  by_cases e : ((m : Nat) : Int) = many
  · rw [if_neg (by omega)] at h
    subst e
    by_cases ha : anyB (fun j => !D.has (y j)) m = true
    · rw [if_pos ha] at h; omega
    · refine (cnum_any hD hY).mono ?_
      rintro x w' ⟨hb, hx⟩
      unfold NumP at hx
      rw [if_neg ha] at hx
      obtain ⟨F, T, g, a, b, c, d⟩ := hx
      exact ⟨F, T, g, a, b, c, d, hb⟩
  · rw [if_pos e] at h; omega
end Go.Proofs.Ytpgldgicblhjiaa
