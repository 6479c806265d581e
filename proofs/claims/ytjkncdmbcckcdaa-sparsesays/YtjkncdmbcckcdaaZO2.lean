/- A list of lists of numbers that a statement is given, opened. -/
import Derived.Test.YtjkncdmbcckcdaaZL10
import Derived.Test.YtjkncdmbcckcdaaZT5
namespace Go.Proofs.Ytjkncdmbcckcdaa
open Go.ChangeShapes Go.WideShapes Go.ChangeAt Go.RowKit

theorem Try.cellsSl : Try.prog.cellsOf 22 = 1 := by kernel_rfl
theorem Try.bytesSl : Try.prog.bytesOf 22 = 24 := by kernel_rfl

/-- A matrix that is handed in: m lists of whatever length. -/
structure MatO (ao : Option Addr) (m : Nat) (A : Nat → Option Addr) (N C : Nat → Nat) (Z : Nat → Nat → Int) (w : World) : Prop where
  cell : ∀ i, i < m → ∃ b off, ao = some ⟨b, off, none⟩ ∧ w.cell? ⟨b, off + i, none⟩ = some (.slice (A i) (N i) (C i))
  sl : ∀ i, i < m → SlZ (A i) (N i) (Z i) w
  le : ∀ i, i < m → N i ≤ C i
  cap : ∀ i, i < m → C i ≤ 9223372036854775807
  nil : ∀ i, i < m → A i = none → C i = 0
theorem MatO.matZ {ao : Option Addr} {m : Nat} {A : Nat → Option Addr} {N C : Nat → Nat} {Z : Nat → Nat → Int} {w : World} (h : MatO ao m A N C Z w) (hf : ∀ i, i < m → N i ≤ 1000000) : MatZ ao m A N C Z w := ⟨h.cell, h.sl, h.le, h.cap, h.nil, hf⟩

theorem spot_none {w : World} {a : Addr} {v : Value} (h : w.cell? a = some v) : a.spot = none := by
  obtain ⟨b, off, spot⟩ := a
  cases spot with
  | none => rfl
  | some s =>
    exfalso
    simp only [World.cell?] at h
    split at h <;> simp at h

/-- How long a list of lists may be, and its lists. -/
def RowsD {H : Type} (m ca : Nat) (C : Nat → Nat) (d : DataW H) : Prop := (d = .nil ∧ m = 0 ∧ ca = 0) ∨ ∃ es sp, d = .slice es sp ∧ es.length = m ∧ es.length + sp.length = ca ∧ ∀ i, i < m → ∃ di, es[i]? = some di ∧ ((di = .nil ∧ C i = 0) ∨ ∃ e2 s2, di = .slice e2 s2 ∧ e2.length + s2.length = C i)

set_option maxRecDepth 100000 in
theorem open_rows_at {H : Type} {enc : TypeId × Value → H} {W : World} {v : Value} {d : DataW H} {p : List MemPlace} {fuel : Nat}
    (hf : DataW.trod enc Try.prog W 0 (fun _ => true) true fuel 30 [v] = some (d, p)) :
    ∃ ao m ca A N C Z, v = .slice ao m ca ∧ MatO ao m A N C Z W ∧ m ≤ ca ∧ RowsD m ca C d ∧ (ao = none → ca = 0) := by
  rcases DataW.trod_slice Try.underlying30 hf with ⟨hcs, hx⟩ | ⟨a, len, cap, elems, rest, n, _, hcs, hx, hb, hl, hm, hlen, hel, hsp, hns⟩
  · simp only [List.cons.injEq, and_true] at hcs
    subst hcs
    simp only [Prod.mk.injEq] at hx
    exact ⟨none, 0, 0, fun _ => none, fun _ => 0, fun _ => 0, fun _ _ => 0, rfl, ⟨fun i hi => by omega, fun i hi => by omega, fun i hi => by omega, fun i hi => by omega, fun i hi => by omega⟩, Nat.le_refl _, Or.inl ⟨hx.1, rfl, rfl⟩, fun _ => rfl⟩
  · simp only [List.cons.injEq, and_true] at hcs
    subst hcs
    simp only [Prod.mk.injEq] at hx
    have key : ∀ i, ∃ x : Option Addr × Nat × Nat × (Nat → Int), i < len → (∃ b off, some a = some ⟨b, off, none⟩ ∧ W.cell? ⟨b, off + i, none⟩ = some (.slice x.1 x.2.1 x.2.2.1)) ∧ SlZ x.1 x.2.1 x.2.2.2 W ∧ x.2.1 ≤ x.2.2.1 ∧ x.2.2.1 ≤ 9223372036854775807 ∧ (x.1 = none → x.2.2.1 = 0) ∧
        ∃ di, (elems.map (·.1))[i]? = some di ∧ ((di = .nil ∧ x.2.2.1 = 0) ∨ ∃ e2 s2, di = .slice e2 s2 ∧ e2.length + s2.length = x.2.2.1) := fun i => by
      by_cases hi : i < len
      · have hE := hel i hi
        rw [Try.cellsSl, Nat.mul_one] at hE
        have hy : ∃ y, elems[i]? = some y := ⟨elems[i]'(by omega), List.getElem?_eq_getElem _⟩
        obtain ⟨y, hy⟩ := hy
        rw [hy, Option.bind_eq_some_iff] at hE
        obtain ⟨cs', hcs', hyt⟩ := hE
        have haddr : ∀ u, cs' = [u] → ∃ b off, some a = some (⟨b, off, none⟩ : Addr) ∧ W.cell? ⟨b, off + i, none⟩ = some u := fun u hu => by
          rw [hu] at hcs'
          have hc := cell_of_cells?_one hcs'
          obtain ⟨b, off, spot⟩ := a
          by_cases h0 : i = 0
          · subst h0
            have e : (⟨b, off, spot⟩ : Addr).add 0 = ⟨b, off, spot⟩ := rfl
            rw [e] at hc
            have hs : spot = none := spot_none hc
            subst hs
            exact ⟨b, off, rfl, hc⟩
          · have hsp0 : spot = none := by
              have h00 := hel 0 (by omega)
              rw [Try.cellsSl, Nat.mul_one] at h00
              have hy0 : ∃ y, elems[0]? = some y := ⟨elems[0]'(by omega), List.getElem?_eq_getElem _⟩
              obtain ⟨y0, hy0⟩ := hy0
              rw [hy0, Option.bind_eq_some_iff] at h00
              obtain ⟨c0, hc0, _⟩ := h00
              obtain ⟨_, hl0, hr0⟩ := World.cells?_some hc0
              have h1 := hr0 0 (by omega)
              have hne : ∃ v, W.cell? ⟨b, off, spot⟩ = some v := by
                rw [List.getElem?_eq_getElem (by omega)] at h1
                exact ⟨_, h1⟩
              obtain ⟨v, hv⟩ := hne
              exact spot_none hv
            subst hsp0
            rw [add_off] at hc
            exact ⟨b, off, rfl, hc⟩
        rcases open_ints Try.underlying22 Try.underlying3 Try.cellsInt hyt with ⟨hc1, hy1⟩ | ⟨a', l', c', zs, hc1, _, hl1, hm1, hz1, hy1, hcell1, _⟩
        · refine ⟨(none, 0, 0, fun _ => 0), fun _ => ⟨haddr _ hc1, (fun j hj => absurd hj (Nat.not_lt_zero _)), Nat.le_refl _, Nat.zero_le _, (fun _ => rfl), .nil, ?_, Or.inl ⟨rfl, rfl⟩⟩⟩
          rw [List.getElem?_map, hy, hy1]; rfl
        · simp only [if_true] at hz1
          refine ⟨(some a', l', c', fun j => zs.getD j 0), fun _ => ⟨haddr _ hc1, fun j hj => ?_, hl1, hm1, (fun e => by cases e), .slice (lits .i64 (zs.take l')) (lits .i64 (zs.drop l')), (by rw [List.getElem?_map, hy, hy1]; rfl), Or.inr ⟨_, _, rfl, ?_⟩⟩⟩
          · obtain ⟨b, off, spot⟩ := a'
            have h0 := hcell1 0 (by have : j < l' := hj; omega)
            have e : (⟨b, off, spot⟩ : Addr).add 0 = ⟨b, off, spot⟩ := rfl
            rw [e] at h0
            have hs : spot = none := spot_none h0
            subst hs
            have h1 := hcell1 j (by have : j < l' := hj; omega)
            rw [add_off] at h1
            exact ⟨b, off, rfl, h1⟩
          · simp [lits]
            omega
      · exact ⟨(none, 0, 0, fun _ => 0), fun h => absurd h hi⟩
    obtain ⟨f, hf'⟩ := Classical.axiomOfChoice key
    refine ⟨some a, len, cap, fun i => (f i).1, fun i => (f i).2.1, fun i => (f i).2.2.1, fun i => (f i).2.2.2, rfl, ⟨fun i hi => (hf' i hi).1, fun i hi => (hf' i hi).2.1, fun i hi => (hf' i hi).2.2.1, fun i hi => (hf' i hi).2.2.2.1, fun i hi => (hf' i hi).2.2.2.2.1⟩, hl, Or.inr ⟨_, _, hx.1, by rw [List.length_map, hlen], ?_, fun i hi => (hf' i hi).2.2.2.2.2⟩, fun e => by cases e⟩
    rw [List.length_map, List.length_map, hlen, (hsp rfl).1]
    omega
set_option maxRecDepth 100000 in
theorem open_rows {H : Type} {enc : TypeId × Value → H} {W : World} {base : Nat} {v : Value} {d : DataW H} {p : List MemPlace} (hok : Value.okWide Try.prog W .any base 30 v)
    (h : DataW.Trod enc Try.prog W 0 (fun _ => true) true 30 v d p) :
    ∃ ao m ca A N C Z, v = .slice ao m ca ∧ MatO ao m A N C Z W ∧ m ≤ ca ∧ RowsD m ca C d := by
  obtain ⟨a0, len, cap, rfl⟩ := okWide_slice Try.underlying30 hok
  obtain ⟨fuel, hf⟩ := h
  obtain ⟨ao, m, ca, A, N, C, Z, e, h1, h2, h3, _⟩ := open_rows_at (v := .slice a0 len cap) (fuel := fuel) hf
  exact ⟨ao, m, ca, A, N, C, Z, e, h1, h2, h3⟩
/-- No list of lists that is handed in takes more than the form's own reach, nor do its lists. -/
theorem sized_rows_at {H : Type} {d : DataW H} {m ca : Nat} {C : Nat → Nat} (h : ∀ x ∈ DataW.weights Try.prog 30 d, x ≤ reachBytes)
    (hc : RowsD m ca C d) : ca ≤ 17592186044416 ∧ ∀ i, i < m → C i ≤ 17592186044416 := by
  rcases hc with ⟨_, rfl, rfl⟩ | ⟨es, sp, rfl, hm, hca, hrow⟩
  · exact ⟨by omega, fun i hi => by omega⟩
  · have h1 := h ((es.length + sp.length) * Try.prog.bytesOf 22) (by simp [DataW.weights, Try.underlying30])
    rw [Try.bytesSl] at h1
    unfold reachBytes at h1
    refine ⟨by omega, fun i hi => ?_⟩
    obtain ⟨di, hdi, hdi2⟩ := hrow i hi
    rcases hdi2 with ⟨_, h0⟩ | ⟨e2, s2, rfl, h2⟩
    · omega
    · have hall : ∀ (l : List (DataW H)) (k : Nat), l[k]? = some (.slice e2 s2) → (e2.length + s2.length) * Try.prog.bytesOf 3 ∈ DataW.weightsAll Try.prog 22 l := fun l => by
        induction l with
        | nil => intro k hk; simp at hk
        | cons x xs ih =>
          intro k hk
          unfold DataW.weightsAll
          rw [List.mem_append]
          cases k with
          | zero =>
            simp at hk
            subst hk
            left
            simp [DataW.weights, Try.underlying22]
          | succ k => exact Or.inr (ih k (by simpa using hk))
      have := h ((e2.length + s2.length) * Try.prog.bytesOf 3) (by
        simp only [DataW.weights, Try.underlying30]
        exact List.mem_cons_of_mem _ (List.mem_append.2 (Or.inl (hall es i hdi))))
      rw [Try.bytesInt] at this
      unfold reachBytes at this
      omega
theorem sized_rows {H : Type} {ts : List TypeId} {ds : List (DataW H)} {d : DataW H} {m ca j : Nat} {C : Nat → Nat} (h : (DataW.weightsEach Try.prog ts ds).all (· ≤ reachBytes) = true) (ht : ts[j]? = some 30) (hd : ds[j]? = some d)
    (hc : RowsD m ca C d) : ca ≤ 17592186044416 ∧ ∀ i, i < m → C i ≤ 17592186044416 :=
  sized_rows_at (fun x hx => by
    have := List.all_eq_true.1 h _ (DataW.weights_mem_each (P := Try.prog) ht hd x hx)
    simpa using this) hc
end Go.Proofs.Ytjkncdmbcckcdaa
