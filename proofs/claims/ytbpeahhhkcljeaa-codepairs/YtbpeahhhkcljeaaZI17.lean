/- Texts of ours, one behind the other: I17 O4. -/
import Derived.Test.YtbpeahhhkcljeaaZI16
import Derived.Test.YtbpeahhhkcljeaaZO2
/- CodePairs: whatever is handed in. -/
namespace Go.Proofs.Ytbpeahhhkcljeaa
open Go.RowKit Go.Sort

theorem inj_pairwise {f : FD → Nat} : ∀ L : List FD, (L.map f).Pairwise (· ≠ ·) → ∀ a ∈ L, ∀ b ∈ L, f a = f b → a = b
  | [], _, a, ha => by cases ha
  | x :: L, h, a, ha => by
    intro b hb e
    rw [List.map_cons, List.pairwise_cons] at h
    rcases List.mem_cons.1 ha with rfl | ha1
    · rcases List.mem_cons.1 hb with rfl | hb1
      · rfl
      · exact absurd e (h.1 _ (List.mem_map_of_mem hb1))
    · rcases List.mem_cons.1 hb with rfl | hb1
      · exact absurd e.symm (h.1 _ (List.mem_map_of_mem ha1))
      · exact inj_pairwise L h.2 a ha1 b hb1 e
theorem fd_by_q {D E : FD} (hD : D ∈ fieldsL) (hE : E ∈ fieldsL) (h : D.q = E.q) : D = E :=
  inj_pairwise (f := FD.q) fieldsL (by decide) D hD E hE h

theorem heavy_below {ao : Option Addr} {m ca : Nat} {A : Nat → Option Addr} {N C : Nat → Nat} {Z : Nat → Nat → Int} {w : World} (h : MatO ao m A N C Z w) (hm : m ≤ 17592186044416) (hN : ∀ i, i < m → N i ≤ 17592186044416) (wx : World) (hx : Below w.heap.size w wx) :
    Calls Try.prog 9 #[.slice ao m ca] wx fun r w' => r = .returned (.bool (decide (6000 < hvs N m m))) ∧ w' = wx :=
  heavy_any (A := A) (C := C) (fun i hi => by
    obtain ⟨b, off, e, hc⟩ := h.cell i hi
    exact ⟨b, off, e, ((bcell hx).1 b (off + i) (cell_lt hc)).trans hc⟩) hm hN

/-- What both sides say of a code, and what it is if they say 0. -/
theorem code_may (q n : Int) {ao : Option Addr} {m : Nat} (ca : Nat) {A : Nat → Option Addr} {N C : Nat → Nat} {Z : Nat → Nat → Int} {w : World} (hA : MatZ ao m A N C Z w) (hm : m ≤ 1000000) :
    ∃ ea : Int, (∀ wx, Below w.heap.size w wx → Calls Try.prog 26 #[.agg #[.int .i64 q, .int .i64 n, .slice ao m ca]] wx fun e w' => e = .returned (.int .i64 ea) ∧ Below wx.heap.size wx w') ∧
      (∀ wx, Below w.heap.size w wx → Calls Try.prog 21 #[.agg #[.int .i64 q, .int .i64 n, .slice ao m ca]] wx fun e w' => e = .returned (.int .i64 ea) ∧ Below wx.heap.size wx w') ∧
      (ea = 0 → ∃ D ∈ fieldsL, q = (D.q : Int) ∧ ∃ n' : Nat, n = (n' : Int) ∧ CdZ D ao m n' A N C Z w) := by
  by_cases h : ∃ D ∈ fieldsL, (D.q : Int) = q
  · obtain ⟨D, hD, rfl⟩ := h
    refine ⟨D.cchk n m N Z, fun wx hx => ccheck_any hD n (hA.below hx) hm, fun wx hx => rcodeMay_any hD n (hA.below hx) hm, fun e => ⟨D, hD, rfl, n.toNat, ?_, hA, ?_, ?_, ?_, ?_⟩⟩
    all_goals
      unfold FD.cchk at e
      split at e
      · omega
      · split at e
        · first | contradiction | omega
        · split at e
          · omega
          · first | omega | (intro h0; have : ¬ (0 < m ∧ ((N 0 : Nat) : Int) ≠ n) := by assumption
                             have h1 : ((N 0 : Nat) : Int) = n := Classical.byContradiction (fun hc => this ⟨h0, hc⟩)
                             omega) | (have : ¬ (D.mchk m N Z ≠ 0) := by assumption
                                       exact Classical.byContradiction this)
  · have h' : ∀ D ∈ fieldsL, (D.q : Int) ≠ q := fun D hD e => h ⟨D, hD, e⟩
    exact ⟨1, fun wx _ => ccheck_none q h' n ao m ca wx, fun wx _ => rcodeMay_none q h' n ao m ca wx, fun e => by omega⟩

theorem codePairs_walk (qa na qb nb : Int) {ao bo : Option Addr} {m m' ca cb : Nat} {A B : Nat → Option Addr} {N C N' C' : Nat → Nat} {Z Z' : Nat → Nat → Int} {w : World} (ha : MatO ao m A N C Z w) (hb : MatO bo m' B N' C' Z' w) (hm : m ≤ 17592186044416) (hm' : m' ≤ 17592186044416) (hN : ∀ i, i < m → N i ≤ 17592186044416) (hN' : ∀ i, i < m' → N' i ≤ 17592186044416) (hna : ao = none → ca = 0) (hnb : bo = none → cb = 0) :
    Calls Try.prog 6 #[.agg #[.int .i64 qa, .int .i64 na, .slice ao m ca], .agg #[.int .i64 qb, .int .i64 nb, .slice bo m' cb]] w fun r w' => r = .returned (.bool true) ∧ Below w.heap.size w w' := by
  have hHa := fun wx hx => heavy_below (ca := ca) ha hm hN wx hx
  have hHb := fun wx hx => heavy_below (ca := cb) hb hm' hN' wx hx
  by_cases h1 : hvs N m m ≤ 6000
  · by_cases h2 : hvs N' m' m' ≤ 6000
    · rw [decide_eq_false (by omega)] at hHa hHb
      have f1 := hvs_few m h1
      have f2 := hvs_few m' h2
      have mA := ha.matZ (fun i hi => by have := f1.2 i hi; omega)
      have mB := hb.matZ (fun i hi => by have := f2.2 i hi; omega)
      obtain ⟨ea, ca1, ca2, ca3⟩ := code_may qa na ca mA (by omega)
      obtain ⟨eb, cb1, cb2, cb3⟩ := code_may qb nb cb mB (by omega)
      have hC : ∀ wx, Below w.heap.size w wx → Calls Try.prog 79 #[.agg #[.int .i64 qa, .int .i64 na, .slice ao m ca], .agg #[.int .i64 qb, .int .i64 nb, .slice bo m' cb]] wx fun e w' => e = .returned (.int .i64 (cboth ea eb qa qb na nb)) ∧ Below wx.heap.size wx w' := fun wx hx =>
        checkBoth_any ea eb qa qb na nb (fun wy hy => ca1 wy (bel_up' hx hy)) (fun wy hy => cb1 wy (bel_up' hx hy))
      by_cases hE : cboth ea eb qa qb na nb = 0
      · rw [hE] at hC
        have e1 : ea = 0 := Classical.byContradiction (fun h => h (by unfold cboth at hE; rwa [if_pos h] at hE))
        have e2 : eb = 0 := Classical.byContradiction (fun h => h (by unfold cboth at hE; rwa [if_neg (by omega), if_pos h] at hE))
        have e3 : qa = qb ∧ na = nb := by
          unfold cboth at hE
          rw [if_neg (by omega), if_neg (by omega)] at hE
          split at hE
          · omega
          · omega
        subst e1 e2
        obtain ⟨rfl, rfl⟩ := e3
        obtain ⟨D, hD, q1, n1, h1, cA⟩ := ca3 rfl
        obtain ⟨E, hE', q2, n2, h2, cB⟩ := cb3 rfl
        have hDE : D = E := fd_by_q hD hE' (by omega)
        subst hDE
        have hn : n1 = n2 := by omega
        subst hn
        subst q1 h1
        exact cp_ok hD cA cB hna hnb hHa hHb ca2 cb2 hC
      · exact cp_err _ ea eb qa na qb nb rfl hE hHa hHb ca2 cb2 (fun wx hx => cSum_err _ hE qa qb na nb (fun wy hy => hC wy (bel_up' hx hy))) (fun wx hx => cMeet_err _ hE qa qb na nb (fun wy hy => hC wy (bel_up' hx hy)))
    · exact cp_heavy qa na qb nb hHa hHb (Or.inr (decide_eq_true (by omega)))
  · exact cp_heavy qa na qb nb hHa hHb (Or.inl (decide_eq_true (by omega)))
end Go.Proofs.Ytbpeahhhkcljeaa

/- A code that is handed in, opened. -/
namespace Go.Proofs.Ytbpeahhhkcljeaa
open Go.ChangeShapes Go.WideShapes Go.ChangeAt Go.RowKit

theorem Try.fieldsCode : Try.prog.underlying 43 = some (.struct #[⟨"Q", 3, 0, false, "", "", 0⟩, ⟨"N", 3, 1, false, "", "", 8⟩, ⟨"Rows", 22, 2, false, "", "", 16⟩]) := by kernel_rfl
theorem Try.cellsCode : Try.prog.cellsOf 43 = 3 := by kernel_rfl
theorem Try.cellsRows : Try.prog.cellsOf 22 = 1 := by kernel_rfl

set_option maxRecDepth 100000 in
theorem open_code {H : Type} {enc : TypeId × Value → H} {W : World} {base : Nat} {v : Value} {d : DataW H} {p : List MemPlace} (hok : Value.okWide Try.prog W .any base 43 v)
    (h : DataW.Trod enc Try.prog W 0 (fun _ => true) true 43 v d p) :
    ∃ q n ao m ca A N C Z d2, v = .agg #[.int .i64 q, .int .i64 n, .slice ao m ca] ∧ MatO ao m A N C Z W ∧ m ≤ ca ∧ RowsD m ca C d2 ∧ (ao = none → ca = 0) ∧ (∃ x0 x1, d = .agg [x0, x1, d2]) ∧ (Lit.int .i64 q).wf = true ∧ (Lit.int .i64 n).wf = true := by
  obtain ⟨cs, rfl, hsz⟩ := okWide_struct Try.fieldsCode hok
  rw [Try.cellsCode] at hsz
  obtain ⟨l⟩ := cs
  match l, hsz with
  | [c0, c1, c2], _ =>
    obtain ⟨fuel, hf⟩ := h
    obtain ⟨xs, n, _, hx, hl, hlen, hff⟩ := DataW.trod_struct Try.fieldsCode hf
    match xs, hlen with
    | [y0, y1, y2], _ =>
      have h0 := hff 0 _ rfl
      have h1 := hff 1 _ rfl
      have h2 := hff 2 _ rfl
      simp [Value.cells, Try.cellsInt, Try.cellsRows] at h0 h1 h2
      obtain ⟨q, e0, _, w0⟩ := DataW.trod_int Try.underlying3 h0
      obtain ⟨n', e1, _, w1⟩ := DataW.trod_int Try.underlying3 h1
      obtain ⟨z2, p2⟩ := y2
      obtain ⟨ao, m, ca, A, N, C, Z, e2, hM, hle, hR, hn⟩ := open_rows_at h2
      simp only [List.cons.injEq, and_true] at e0 e1
      subst e0 e1 e2
      simp only [Prod.mk.injEq] at hx
      exact ⟨q, n', ao, m, ca, A, N, C, Z, z2, rfl, hM, hle, hR, hn, ⟨_, _, hx.1⟩, w0, w1⟩
/-- No code that is handed in takes more than the form's own reach. -/
theorem sized_code {H : Type} {ts : List TypeId} {ds : List (DataW H)} {x0 x1 d : DataW H} {m ca j : Nat} {C : Nat → Nat} (h : (DataW.weightsEach Try.prog ts ds).all (· ≤ reachBytes) = true) (ht : ts[j]? = some 43) (hd : ds[j]? = some (.agg [x0, x1, d]))
    (hc : RowsD m ca C d) : ca ≤ 17592186044416 ∧ ∀ i, i < m → C i ≤ 17592186044416 :=
  sized_rows_at (fun x hx => by
    have := List.all_eq_true.1 h _ (DataW.weights_mem_each (P := Try.prog) ht hd x (by
      simp only [DataW.weights, Try.fieldsCode, DataW.weightsEach, List.map_cons, List.mem_append]
      exact Or.inr (Or.inr (Or.inl hx))))
    simpa using this) hc
end Go.Proofs.Ytbpeahhhkcljeaa
