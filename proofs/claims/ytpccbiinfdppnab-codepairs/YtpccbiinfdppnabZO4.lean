/- A code that is handed in, opened. -/
import Derived.Test.YtpccbiinfdppnabZX20
namespace Go.Proofs.Ytpccbiinfdppnab
open Go.ChangeShapes Go.WideShapes Go.ChangeAt Go.RowKit

theorem Try.fieldsCode : Try.prog.underlying 33 = some (.struct #[⟨"Q", 3, 0, false, "", "", 0⟩, ⟨"N", 3, 1, false, "", "", 8⟩, ⟨"Rows", 25, 2, false, "", "", 16⟩]) := by kernel_rfl
theorem Try.cellsCode : Try.prog.cellsOf 33 = 3 := by kernel_rfl
theorem Try.cellsRows : Try.prog.cellsOf 25 = 1 := by kernel_rfl

set_option maxRecDepth 100000 in
theorem open_code {H : Type} {enc : TypeId × Value → H} {W : World} {base : Nat} {v : Value} {d : DataW H} {p : List MemPlace} (hok : Value.okWide Try.prog W .any base 33 v)
    (h : DataW.Trod enc Try.prog W 0 (fun _ => true) true 33 v d p) :
    ∃ q n ao m ca A N C Z d2, v = .agg #[.int .i64 q, .int .i64 n, .slice ao m ca] ∧ MatO ao m A N C Z W ∧ m ≤ ca ∧ RowsD m ca C d2 ∧ (ao = none → ca = 0) ∧ (∃ x0 x1, d = .agg [x0, x1, d2]) ∧ (Lit.int .i64 q).wf = true ∧ (Lit.int .i64 n).wf = true := by
  obtain ⟨cs, rfl, hsz⟩ := okWide_struct Try.fieldsCode hok
  rw [Try.cellsCode] at hsz
  obtain ⟨l⟩ := cs
  match l, hsz with
  | [c0, c1, c2], _ =>
    obtain ⟨fuel, hf⟩ := h
    obtain ⟨xs, n, _, hx, hl, hlen, hff⟩ := DataW.trod_struct Try.fieldsCode hf
    match xs, hlen with
    | [y0, y1, y2], _ =>
      have h0 := hff 0 _ rfl
      have h1 := hff 1 _ rfl
      have h2 := hff 2 _ rfl
      simp [Value.cells, Try.cellsInt, Try.cellsRows] at h0 h1 h2
      obtain ⟨q, e0, _, w0⟩ := DataW.trod_int Try.underlying3 h0
      obtain ⟨n', e1, _, w1⟩ := DataW.trod_int Try.underlying3 h1
      obtain ⟨z2, p2⟩ := y2
      obtain ⟨ao, m, ca, A, N, C, Z, e2, hM, hle, hR, hn⟩ := open_rows_at h2
      simp only [List.cons.injEq, and_true] at e0 e1
      subst e0 e1 e2
      simp only [Prod.mk.injEq] at hx
      exact ⟨q, n', ao, m, ca, A, N, C, Z, z2, rfl, hM, hle, hR, hn, ⟨_, _, hx.1⟩, w0, w1⟩
/-- No code that is handed in takes more than the form's own reach. -/
theorem sized_code {H : Type} {ts : List TypeId} {ds : List (DataW H)} {x0 x1 d : DataW H} {m ca j : Nat} {C : Nat → Nat} (h : (DataW.weightsEach Try.prog ts ds).all (· ≤ reachBytes) = true) (ht : ts[j]? = some 33) (hd : ds[j]? = some (.agg [x0, x1, d]))
    (hc : RowsD m ca C d) : ca ≤ 17592186044416 ∧ ∀ i, i < m → C i ≤ 17592186044416 :=
  sized_rows_at (fun x hx => by
    have := List.all_eq_true.1 h _ (DataW.weights_mem_each (P := Try.prog) ht hd x (by
      simp only [DataW.weights, Try.fieldsCode, DataW.weightsEach, List.map_cons, List.mem_append]
      exact Or.inr (Or.inr (Or.inl hx))))
    simpa using this) hc
end Go.Proofs.Ytpccbiinfdppnab
