/- Texts of ours, one behind the other: S6 O2 O3 L11 L12 L13 L14. -/
import Derived.Test.YthmjdcajaoilgaiZX18
import Derived.Test.YthmjdcajaoilgaiZL10
import Derived.Test.YthmjdcajaoilgaiZT5
/- Plain mathematics: there is a reduced form. -/
namespace Go.Proofs.Ythmjdcajaoilgai

theorem rdg_ex {D : FD} (hD : D ∈ fieldsL) {m n : Nat} {R : Nat → Nat → Nat} (he : ∀ i, i < m → El D (R i)) (hb : ∀ i, i < m → Bd n (R i)) : ∀ c, ∃ k R' p, Rdg D m n c k R' p ∧ ∀ v, Spn D (RowsOf m R') v ↔ Spn D (RowsOf m R) v
  | 0 => ⟨0, R, fun _ => 0, rdg_start he hb _, fun _ => Iff.rfl⟩
  | c + 1 => by
    obtain ⟨k, R', p, h, hs⟩ := rdg_ex hD he hb c
    by_cases hx : ∃ i, k ≤ i ∧ i < m ∧ R' i c ≠ 0
    · obtain ⟨b, h1, h2, h3⟩ := hx
      have hk : k < m := by omega
      have hw := rdg_swap h h1 h2
      have h0 : swpR R' k b k c ≠ 0 := by unfold swpR; rw [if_pos rfl]; exact h3
      exact ⟨k + 1, _, _, rdg_clear hD hw hk h0, fun v => by rw [spn_clear hD hk hw.el h0 v, spn_swap (fld hD) hk h2 h.el v]; exact hs v⟩
    · exact ⟨k, R', p, rdg_skip h (fun i h1 h2 => Classical.byContradiction fun h3 => hx ⟨i, h1, h2, h3⟩), hs⟩
theorem rre_ex {D : FD} (hD : D ∈ fieldsL) {m n : Nat} {R : Nat → Nat → Nat} (he : ∀ i, i < m → El D (R i)) (hb : ∀ i, i < m → Bd n (R i)) : ∃ k R' p, k ≤ m ∧ RRE D n k R' p ∧ ∀ v, Spn D (RowsOf k R') v ↔ Spn D (RowsOf m R) v := by
  obtain ⟨k, R', p, h, hs⟩ := rdg_ex hD he hb n
  obtain ⟨h1, _, h2⟩ := rdg_end (fld hD) h
  exact ⟨k, R', p, h.le, h1, fun v => (h2 v).trans (hs v)⟩
end Go.Proofs.Ythmjdcajaoilgai

/- A list of lists of numbers that a statement is given, opened. -/
namespace Go.Proofs.Ythmjdcajaoilgai
open Go.ChangeShapes Go.WideShapes Go.ChangeAt Go.RowKit

theorem Try.cellsSl : Try.prog.cellsOf 28 = 1 := by kernel_rfl
theorem Try.bytesSl : Try.prog.bytesOf 28 = 24 := by kernel_rfl

/-- A matrix that is handed in: m lists of whatever length. -/
structure MatO (ao : Option Addr) (m : Nat) (A : Nat → Option Addr) (N C : Nat → Nat) (Z : Nat → Nat → Int) (w : World) : Prop where
  cell : ∀ i, i < m → ∃ b off, ao = some ⟨b, off, none⟩ ∧ w.cell? ⟨b, off + i, none⟩ = some (.slice (A i) (N i) (C i))
  sl : ∀ i, i < m → SlZ (A i) (N i) (Z i) w
  le : ∀ i, i < m → N i ≤ C i
  cap : ∀ i, i < m → C i ≤ 9223372036854775807
  nil : ∀ i, i < m → A i = none → C i = 0
theorem MatO.matZ {ao : Option Addr} {m : Nat} {A : Nat → Option Addr} {N C : Nat → Nat} {Z : Nat → Nat → Int} {w : World} (h : MatO ao m A N C Z w) (hf : ∀ i, i < m → N i ≤ 1000000) : MatZ ao m A N C Z w := ⟨h.cell, h.sl, h.le, h.cap, h.nil, hf⟩

theorem spot_none {w : World} {a : Addr} {v : Value} (h : w.cell? a = some v) : a.spot = none := by
  obtain ⟨b, off, spot⟩ := a
  cases spot with
  | none => rfl
  | some s =>
    exfalso
    simp only [World.cell?] at h
    split at h <;> simp at h

/-- How long a list of lists may be, and its lists. -/
def RowsD {H : Type} (m ca : Nat) (C : Nat → Nat) (d : DataW H) : Prop := (d = .nil ∧ m = 0 ∧ ca = 0) ∨ ∃ es sp, d = .slice es sp ∧ es.length = m ∧ es.length + sp.length = ca ∧ ∀ i, i < m → ∃ di, es[i]? = some di ∧ ((di = .nil ∧ C i = 0) ∨ ∃ e2 s2, di = .slice e2 s2 ∧ e2.length + s2.length = C i)

set_option maxRecDepth 100000 in
theorem open_rows {H : Type} {enc : TypeId × Value → H} {W : World} {base : Nat} {v : Value} {d : DataW H} {p : List MemPlace} (hok : Value.okWide Try.prog W .any base 38 v)
    (h : DataW.Trod enc Try.prog W 0 (fun _ => true) true 38 v d p) :
    ∃ ao m ca A N C Z, v = .slice ao m ca ∧ MatO ao m A N C Z W ∧ m ≤ ca ∧ RowsD m ca C d := by
  obtain ⟨a0, len, cap, rfl⟩ := okWide_slice Try.underlying38 hok
  obtain ⟨fuel, hf⟩ := h
  rcases DataW.trod_slice Try.underlying38 hf with ⟨hcs, hx⟩ | ⟨a, len', cap', elems, rest, n, _, hcs, hx, hb, hl, hm, hlen, hel, hsp, hns⟩
  · simp [Value.cells] at hcs
    obtain ⟨rfl, rfl, rfl⟩ := hcs
    simp only [Prod.mk.injEq] at hx
    exact ⟨none, 0, 0, fun _ => none, fun _ => 0, fun _ => 0, fun _ _ => 0, rfl, ⟨fun i hi => by omega, fun i hi => by omega, fun i hi => by omega, fun i hi => by omega, fun i hi => by omega⟩, Nat.le_refl _, Or.inl ⟨hx.1, rfl, rfl⟩⟩
  · simp [Value.cells] at hcs
    obtain ⟨rfl, rfl, rfl⟩ := hcs
    simp only [Prod.mk.injEq] at hx
    have key : ∀ i, ∃ x : Option Addr × Nat × Nat × (Nat → Int), i < len → (∃ b off, some a = some ⟨b, off, none⟩ ∧ W.cell? ⟨b, off + i, none⟩ = some (.slice x.1 x.2.1 x.2.2.1)) ∧ SlZ x.1 x.2.1 x.2.2.2 W ∧ x.2.1 ≤ x.2.2.1 ∧ x.2.2.1 ≤ 9223372036854775807 ∧ (x.1 = none → x.2.2.1 = 0) ∧
        ∃ di, (elems.map (·.1))[i]? = some di ∧ ((di = .nil ∧ x.2.2.1 = 0) ∨ ∃ e2 s2, di = .slice e2 s2 ∧ e2.length + s2.length = x.2.2.1) := fun i => by
      by_cases hi : i < len
      · have hE := hel i hi
        rw [Try.cellsSl, Nat.mul_one] at hE
        have hy : ∃ y, elems[i]? = some y := ⟨elems[i]'(by omega), List.getElem?_eq_getElem _⟩
        obtain ⟨y, hy⟩ := hy
        rw [hy, Option.bind_eq_some_iff] at hE
        obtain ⟨cs', hcs', hyt⟩ := hE
        have haddr : ∀ u, cs' = [u] → ∃ b off, some a = some (⟨b, off, none⟩ : Addr) ∧ W.cell? ⟨b, off + i, none⟩ = some u := fun u hu => by
          rw [hu] at hcs'
          have hc := cell_of_cells?_one hcs'
          obtain ⟨b, off, spot⟩ := a
          by_cases h0 : i = 0
          · subst h0
            have e : (⟨b, off, spot⟩ : Addr).add 0 = ⟨b, off, spot⟩ := rfl
            rw [e] at hc
            have hs : spot = none := spot_none hc
            subst hs
            exact ⟨b, off, rfl, hc⟩
          · have hsp0 : spot = none := by
              have h00 := hel 0 (by omega)
              rw [Try.cellsSl, Nat.mul_one] at h00
              have hy0 : ∃ y, elems[0]? = some y := ⟨elems[0]'(by omega), List.getElem?_eq_getElem _⟩
              obtain ⟨y0, hy0⟩ := hy0
              rw [hy0, Option.bind_eq_some_iff] at h00
              obtain ⟨c0, hc0, _⟩ := h00
              obtain ⟨_, hl0, hr0⟩ := World.cells?_some hc0
              have h1 := hr0 0 (by omega)
              have hne : ∃ v, W.cell? ⟨b, off, spot⟩ = some v := by
                rw [List.getElem?_eq_getElem (by omega)] at h1
                exact ⟨_, h1⟩
              obtain ⟨v, hv⟩ := hne
              exact spot_none hv
            subst hsp0
            rw [add_off] at hc
            exact ⟨b, off, rfl, hc⟩
        rcases open_ints Try.underlying28 Try.underlying3 Try.cellsInt hyt with ⟨hc1, hy1⟩ | ⟨a', l', c', zs, hc1, _, hl1, hm1, hz1, hy1, hcell1, _⟩
        · refine ⟨(none, 0, 0, fun _ => 0), fun _ => ⟨haddr _ hc1, (fun j hj => absurd hj (Nat.not_lt_zero _)), Nat.le_refl _, Nat.zero_le _, (fun _ => rfl), .nil, ?_, Or.inl ⟨rfl, rfl⟩⟩⟩
          rw [List.getElem?_map, hy, hy1]; rfl
        · simp only [if_true] at hz1
          refine ⟨(some a', l', c', fun j => zs.getD j 0), fun _ => ⟨haddr _ hc1, fun j hj => ?_, hl1, hm1, (fun e => by cases e), .slice (lits .i64 (zs.take l')) (lits .i64 (zs.drop l')), (by rw [List.getElem?_map, hy, hy1]; rfl), Or.inr ⟨_, _, rfl, ?_⟩⟩⟩
          · obtain ⟨b, off, spot⟩ := a'
            have h0 := hcell1 0 (by have : j < l' := hj; omega)
            have e : (⟨b, off, spot⟩ : Addr).add 0 = ⟨b, off, spot⟩ := rfl
            rw [e] at h0
            have hs : spot = none := spot_none h0
            subst hs
            have h1 := hcell1 j (by have : j < l' := hj; omega)
            rw [add_off] at h1
            exact ⟨b, off, rfl, h1⟩
          · simp [lits]
            omega
      · exact ⟨(none, 0, 0, fun _ => 0), fun h => absurd h hi⟩
    obtain ⟨f, hf'⟩ := Classical.axiomOfChoice key
    refine ⟨some a, len, cap, fun i => (f i).1, fun i => (f i).2.1, fun i => (f i).2.2.1, fun i => (f i).2.2.2, rfl, ⟨fun i hi => (hf' i hi).1, fun i hi => (hf' i hi).2.1, fun i hi => (hf' i hi).2.2.1, fun i hi => (hf' i hi).2.2.2.1, fun i hi => (hf' i hi).2.2.2.2.1⟩, hl, Or.inr ⟨_, _, hx.1, by rw [List.length_map, hlen], ?_, fun i hi => (hf' i hi).2.2.2.2.2⟩⟩
    rw [List.length_map, List.length_map, hlen, (hsp rfl).1]
    omega
/-- No list of lists that is handed in takes more than the form's own reach, nor do its lists. -/
theorem sized_rows {H : Type} {ts : List TypeId} {ds : List (DataW H)} {d : DataW H} {m ca j : Nat} {C : Nat → Nat} (h : (DataW.weightsEach Try.prog ts ds).all (· ≤ reachBytes) = true) (ht : ts[j]? = some 38) (hd : ds[j]? = some d)
    (hc : RowsD m ca C d) : ca ≤ 17592186044416 ∧ ∀ i, i < m → C i ≤ 17592186044416 := by
  rcases hc with ⟨_, rfl, rfl⟩ | ⟨es, sp, rfl, hm, hca, hrow⟩
  · exact ⟨by omega, fun i hi => by omega⟩
  · have h1 := sized_slice h ht hd Try.underlying38
    rw [Try.bytesSl] at h1
    unfold reachBytes at h1
    refine ⟨by omega, fun i hi => ?_⟩
    obtain ⟨di, hdi, hdi2⟩ := hrow i hi
    rcases hdi2 with ⟨_, h0⟩ | ⟨e2, s2, rfl, h2⟩
    · omega
    · have hall : ∀ (l : List (DataW H)) (k : Nat), l[k]? = some (.slice e2 s2) → (e2.length + s2.length) * Try.prog.bytesOf 3 ∈ DataW.weightsAll Try.prog 28 l := fun l => by
        induction l with
        | nil => intro k hk; simp at hk
        | cons x xs ih =>
          intro k hk
          unfold DataW.weightsAll
          rw [List.mem_append]
          cases k with
          | zero =>
            simp at hk
            subst hk
            left
            simp [DataW.weights, Try.underlying28]
          | succ k => exact Or.inr (ih k (by simpa using hk))
      have hmem := DataW.weights_mem_each (P := Try.prog) ht hd ((e2.length + s2.length) * Try.prog.bytesOf 3) (by
        simp only [DataW.weights, Try.underlying38]
        exact List.mem_cons_of_mem _ (List.mem_append.2 (Or.inl (hall es i hdi))))
      have := List.all_eq_true.1 h _ hmem
      rw [Try.bytesInt] at this
      unfold reachBytes at this
      simp at this
      omega
end Go.Proofs.Ythmjdcajaoilgai

/- How heavy a list of lists is that a statement is given. -/
namespace Go.Proofs.Ythmjdcajaoilgai
open Go.RowKit Go.Sort

/-- The lists' number, and the lengths of the first i, added up to where it is above 6,000. -/
def hvs (N : Nat → Nat) (m : Nat) : Nat → Nat
  | 0 => m
  | i + 1 => if hvs N m i ≤ 6000 then hvs N m i + N i else hvs N m i
theorem hvs_stay {N : Nat → Nat} {m i : Nat} (h : ¬ hvs N m i ≤ 6000) : ∀ d, hvs N m (i + d) = hvs N m i
  | 0 => rfl
  | d + 1 => by
    show (if hvs N m (i + d) ≤ 6000 then hvs N m (i + d) + N (i + d) else hvs N m (i + d)) = _
    rw [hvs_stay h d, if_neg h]
theorem hvs_few {N : Nat → Nat} {m : Nat} : ∀ i, hvs N m i ≤ 6000 → m ≤ 6000 ∧ ∀ j, j < i → N j ≤ 6000
  | 0, h => ⟨h, fun j hj => by omega⟩
  | i + 1, h => by
    by_cases e : hvs N m i ≤ 6000
    · have h' : (if hvs N m i ≤ 6000 then hvs N m i + N i else hvs N m i) ≤ 6000 := h
      rw [if_pos e] at h'
      have ih := hvs_few i e
      refine ⟨ih.1, fun j hj => ?_⟩
      by_cases e2 : j = i
      · rw [e2]; omega
      · exact ih.2 j (by omega)
    · have h' : (if hvs N m i ≤ 6000 then hvs N m i + N i else hvs N m i) ≤ 6000 := h
      rw [if_neg e] at h'
      exact absurd h' e

end Go.Proofs.Ythmjdcajaoilgai

/- MatrixSays: lists of lists held against one another; how heavy a matrix is; are all numbers elements. -/
namespace Go.Proofs.Ythmjdcajaoilgai
open Go.RowKit Go.Sort

theorem sl_sliceI {x : Option Addr} {n cx : Nat} {c : Nat → Nat} {w : World} (h : Sl x n c w) (hn : n ≤ 1000000) : SliceI (.slice x n cx) (zl n fun j => ((c j : Nat) : Int)) w := by
  by_cases h0 : n = 0
  · subst h0
    exact Or.inl ⟨rfl, x, cx, rfl⟩
  · obtain ⟨b, off, e, _⟩ := h 0 (by omega)
    refine Or.inr ⟨fun e => ?_, by rw [zl_len]; exact hn, b, off, cx, by rw [zl_len, e], fun j hj => ?_⟩
    · have := congrArg List.length e
      rw [zl_len] at this
      exact h0 this
    · rw [zl_len] at hj
      obtain ⟨b', off', e', hc⟩ := h j hj
      rw [e] at e'
      cases e'
      rw [zl_getD n _ j hj]; exact hc

end Go.Proofs.Ythmjdcajaoilgai

/- MatrixSays: inverses. -/
namespace Go.Proofs.Ythmjdcajaoilgai
open Go.RowKit Go.Sort

theorem mchk_of {D : FD} {m : Nat} {N : Nat → Nat} {Z : Nat → Nat → Int} (hm : m ≤ 64) (h : ∀ i, i < m → D.mrow (N 0) (N i) (Z i) = 0) : D.mchk m N Z = 0 := by
  have key : ∀ k, k ≤ m → D.mchks N Z k = 0 := fun k => by
    induction k with
    | zero => intro _; rfl
    | succ k ih =>
      intro hk
      rw [FD.mchks, ih (by omega)]
      simp [h k (by omega)]
  unfold FD.mchk
  rw [if_neg (by omega)]
  exact key m (Nat.le_refl _)
theorem InvR.matZ {G2 m : Nat} {h : Nat → Nat} {R : Nat → Nat → Nat} {w : World} (H : InvR G2 m h R w) (hm : m ≤ 64) : MatZ (some ⟨G2, 0, none⟩) m (fun i => some ⟨h i, m, none⟩) (fun _ => m) (fun _ => m) (fun i c => ((R i (m + c) : Nat) : Int)) w :=
  ⟨fun i hi => ⟨G2, 0, rfl, by rw [Nat.zero_add]; exact (H i hi).1⟩, fun i hi => (H i hi).2, fun i _ => Nat.le_refl _, fun i _ => (by omega), (fun i _ e => by cases e), fun i _ => (by omega)⟩
theorem InvR.mchk {D : FD} {m : Nat} {R : Nat → Nat → Nat} (hm0 : 0 < m) (hm : m ≤ 64) (he : ∀ i, i < m → El D (R i)) : D.mchk m (fun _ => m) (fun i c => ((R i (m + c) : Nat) : Int)) = 0 := by
  refine mchk_of hm (fun i hi => ?_)
  unfold FD.mrow
  rw [if_neg (by omega), if_neg (by omega), if_pos]
  exact allHas_iff.2 (fun j _ => has_of_lt (he i hi (m + j)))

end Go.Proofs.Ythmjdcajaoilgai

/- MatrixSays: one matrix (matrixOne), where it may not be, and where it has no row. -/
namespace Go.Proofs.Ythmjdcajaoilgai
open Go.RowKit Go.Sort

end Go.Proofs.Ythmjdcajaoilgai

/- MatrixSays: one matrix that may be: what the calls on both sides tell, in one form. -/
namespace Go.Proofs.Ythmjdcajaoilgai
open Go.RowKit Go.Sort

/-- A matrix that may be, of at least one row; its reduced form; the rows for its free columns, and their reduced form. -/
structure MOk (D : FD) (ao : Option Addr) (m n : Nat) (A : Nat → Option Addr) (N C : Nat → Nat) (Z : Nat → Nat → Int) (w : World) (k : Nat) (R : Nat → Nat → Nat) (p : Nat → Nat) (k2 : Nat) (R2 : Nat → Nat → Nat) (p2 : Nat → Nat) : Prop where
  hD : D ∈ fieldsL
  mat : MatZ ao m A N C Z w
  chk : D.mchk m N Z = 0
  pos : 0 < m
  m64 : m ≤ 64
  n64 : n < 64
  wd : N 0 = n + 1
  el : ∀ i, i < m → El D (mzc N Z i) ∧ Bd (n + 1) (mzc N Z i)
  km : k ≤ m
  rre : RRE D (n + 1) k R p
  spn : ∀ v, Spn D (RowsOf k R) v ↔ Spn D (RowsOf m (mzc N Z)) v
  km2 : k2 ≤ nct k p (n + 1)
  rre2 : RRE D (n + 1) k2 R2 p2
  spn2 : ∀ v, Spn D (RowsOf k2 R2) v ↔ Spn D (RowsOf (nct k p (n + 1)) (nul D R p k (n + 1))) v
theorem mok_ex {D : FD} (hD : D ∈ fieldsL) {ao : Option Addr} {m : Nat} {A : Nat → Option Addr} {N C : Nat → Nat} {Z : Nat → Nat → Int} {w : World} (ha : MatZ ao m A N C Z w) (h0 : D.mchk m N Z = 0) (hm : 0 < m) : ∃ n k R p k2 R2 p2, MOk D ao m n A N C Z w k R p k2 R2 p2 := by
  obtain ⟨h1, n, h2, h3, h4, h5⟩ := mchk_rows (fld hD) h0 ha hm
  obtain ⟨k, R, p, a1, a2, a3⟩ := rre_ex hD (m := m) (n := n + 1) (R := mzc N Z) (fun i hi => (h4 i hi).2.1) (fun i hi => (h4 i hi).2.2)
  obtain ⟨k2, R2, p2, b1, b2, b3⟩ := rre_ex hD (m := nct k p (n + 1)) (n := n + 1) (R := nul D R p k (n + 1)) (fun i _ => nul_el (fld hD) a2.el _ _) (fun i hi => nul_bd a2.lt hi)
  exact ⟨n, k, R, p, k2, R2, p2, hD, ha, h0, hm, h1, h3, h2, fun i hi => (h4 i hi).2, a1, a2, a3, b1, b2, b3⟩
theorem MOk.below {D : FD} {ao : Option Addr} {m n : Nat} {A : Nat → Option Addr} {N C : Nat → Nat} {Z : Nat → Nat → Int} {w w' : World} {k : Nat} {R : Nat → Nat → Nat} {p : Nat → Nat} {k2 : Nat} {R2 : Nat → Nat → Nat} {p2 : Nat → Nat} (h : MOk D ao m n A N C Z w k R p k2 R2 p2) (hb : Below w.heap.size w w') : MOk D ao m n A N C Z w' k R p k2 R2 p2 :=
  ⟨h.hD, h.mat.below hb, h.chk, h.pos, h.m64, h.n64, h.wd, h.el, h.km, h.rre, h.spn, h.km2, h.rre2, h.spn2⟩
theorem MOk.matR {D : FD} {ao : Option Addr} {m n : Nat} {A : Nat → Option Addr} {N C : Nat → Nat} {Z : Nat → Nat → Int} {w : World} {k : Nat} {R : Nat → Nat → Nat} {p : Nat → Nat} {k2 : Nat} {R2 : Nat → Nat → Nat} {p2 : Nat → Nat} (h : MOk D ao m n A N C Z w k R p k2 R2 p2) : MatR ao m n (mzc N Z) w := by
  obtain ⟨_, n', h2, _, _, h5⟩ := mchk_rows (fld h.hD) h.chk h.mat h.pos
  have : n' = n := by have := h.wd; omega
  rw [← this]; exact h5
theorem RL.open {v : Value} {k n : Nat} {R : Nat → Nat → Nat} {w : World} (h : RL v k n R w) : ∃ ao ca, v = .slice ao k ca := by
  obtain ⟨ao, ca, e, _⟩ := h
  exact ⟨ao, ca, e⟩
theorem KI.open {v : Value} {k : Nat} {z : Nat → Int} {w : World} (h : KI v (zl k z) w) : ∃ ao ca, v = .slice ao k ca := by
  rcases h.1 with ⟨e, ao, ca, rfl⟩ | ⟨_, _, b, off, ca, rfl, _⟩
  · have := congrArg List.length e
    rw [zl_len] at this
    have : k = 0 := this
    subst this
    exact ⟨ao, ca, rfl⟩
  · rw [zl_len]; exact ⟨_, _, rfl⟩


theorem c_red {D : FD} {ao : Option Addr} {m n ca : Nat} {A : Nat → Option Addr} {N C : Nat → Nat} {Z : Nat → Nat → Int} {w : World} {k : Nat} {R : Nat → Nat → Nat} {p : Nat → Nat} {k2 : Nat} {R2 : Nat → Nat → Nat} {p2 : Nat → Nat} (h : MOk D ao m n A N C Z w k R p k2 R2 p2) :
    Calls Try.prog 35 #[.int .i64 D.q, .slice ao m ca] w fun e w' => ∃ ro rc po pc, e = .returned (.tuple #[.slice ro k rc, .slice po k pc, .int .i64 0]) ∧ RL (.slice ro k rc) k (n + 1) R w' ∧ KI (.slice po k pc) (zl k fun j => ((p j : Nat) : Int)) w' ∧ Below w.heap.size w w' := by
  have h1 := h.m64
  have h2 := h.n64
  refine (mreduce_any h.hD h.mat (by omega)).mono ?_
  rintro e w' ⟨hb, hr⟩
  rcases hr with ⟨h0, _⟩ | ⟨_, G, k', R', p', h', pv, W, rfl, _, hW, hk, hmx, hown, hR', hS'⟩
  · exact absurd h.chk h0
  · have hWe : W = n + 1 := by rw [hW h.pos, h.wd]
    subst hWe
    obtain ⟨rfl, he⟩ := rre_uniq (fld h.hD) hR' h.rre (fun v => (hS' v).trans (h.spn v).symm)
    have hki : KI pv (zl k' fun j => ((p j : Nat) : Int)) w' := by
      have h3 := hown.ki (by rw [zl_len]; omega)
      rw [zl_congr (y := fun j => ((p j : Nat) : Int)) (fun j hj => by rw [(he j hj).1])] at h3
      exact h3
    obtain ⟨po, pc, rfl⟩ := hki.open
    exact ⟨_, m, po, pc, rfl, (hmx.rl hk m).congr (fun i hi => (he i hi).2), hki, hb⟩
theorem c_rank {D : FD} {ao : Option Addr} {m n ca : Nat} {A : Nat → Option Addr} {N C : Nat → Nat} {Z : Nat → Nat → Int} {w : World} {k : Nat} {R : Nat → Nat → Nat} {p : Nat → Nat} {k2 : Nat} {R2 : Nat → Nat → Nat} {p2 : Nat → Nat} (h : MOk D ao m n A N C Z w k R p k2 R2 p2) :
    Calls Try.prog 33 #[.int .i64 D.q, .slice ao m ca] w fun e w' => e = .returned (.tuple #[.int .i64 (k : Nat), .int .i64 0]) ∧ Below w.heap.size w w' := by
  have h1 := h.m64
  refine (mrank_any h.hD h.mat (by omega)).mono ?_
  rintro e w' ⟨hb, hr⟩
  rcases hr with ⟨h0, _⟩ | ⟨_, k', R', p', W, rfl, hW, hk, hR', hS'⟩
  · exact absurd h.chk h0
  · have hWe : W = n + 1 := by rw [hW h.pos, h.wd]
    subst hWe
    obtain ⟨rfl, _⟩ := rre_uniq (fld h.hD) hR' h.rre (fun v => (hS' v).trans (h.spn v).symm)
    exact ⟨rfl, hb⟩
theorem c_null {D : FD} {ao : Option Addr} {m n ca : Nat} {A : Nat → Option Addr} {N C : Nat → Nat} {Z : Nat → Nat → Int} {w : World} {k : Nat} {R : Nat → Nat → Nat} {p : Nat → Nat} {k2 : Nat} {R2 : Nat → Nat → Nat} {p2 : Nat → Nat} (h : MOk D ao m n A N C Z w k R p k2 R2 p2) :
    Calls Try.prog 34 #[.int .i64 D.q, .slice ao m ca] w fun e w' => ∃ lo lc, e = .returned (.tuple #[.slice lo (nct k p (n + 1)) lc, .int .i64 0]) ∧ (k2 = nct k p (n + 1) → RL (.slice lo (nct k p (n + 1)) lc) (nct k p (n + 1)) (n + 1) R2 w') ∧ Below w.heap.size w w' := by
  have h1 := h.m64
  refine (mnull_any h.hD h.mat (by omega)).mono ?_
  rintro e w' ⟨hb, hr⟩
  rcases hr with ⟨h0, _⟩ | ⟨_, v, k', R', p', k2', R2', p2', W, rfl, _, hW, hR', hS', hrl, hk2, hR2, hS2⟩
  · exact absurd h.chk h0
  · have hWe : W = n + 1 := by rw [hW h.pos, h.wd]
    subst hWe
    obtain ⟨rfl, he⟩ := rre_uniq (fld h.hD) hR' h.rre (fun v => (hS' v).trans (h.spn v).symm)
    have hc : nct k' p' (n + 1) = nct k' p (n + 1) := nct_congr (fun i hi => (he i hi).1) _
    have hn : nul D R' p' k' (n + 1) = nul D R p k' (n + 1) := nul_congr he _
    rw [hc] at hrl hk2 hS2
    rw [hn] at hS2
    obtain ⟨hk2e, he2⟩ := rre_uniq (fld h.hD) hR2 h.rre2 (fun v => (hS2 v).trans (h.spn2 v).symm)
    obtain ⟨lo, lc, rfl⟩ := hrl.open
    exact ⟨lo, lc, rfl, fun e => hrl.congr (fun i hi => (he2 i (by omega)).2), hb⟩
end Go.Proofs.Ythmjdcajaoilgai
