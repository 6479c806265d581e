/- Texts of ours, one behind the other: T2 T4 T5. -/
import Derived.Test.YtabkomelnhnoiabZS1
/- The reference's matrices: rows as they are handed in; a row's first number that is not 0. -/
namespace Go.Proofs.Ytabkomelnhnoiab
open Go.RowKit Go.Sort

theorem cell_lt {w : World} {a : Addr} {v : Value} (h : w.cell? a = some v) : a.block < w.heap.size := by
  rcases Nat.lt_or_ge a.block w.heap.size with e | e
  · exact e
  · exfalso
    have h1 : w.heap[a.block]? = none := Array.getElem?_eq_none e
    simp [World.cell?, h1] at h
/-- The slice u reads as n + 1 elements c. -/
def Rwv (u : Value) (n : Nat) (c : Nat → Nat) (w : World) : Prop := ∃ A ca, u = .slice A (n + 1) ca ∧ Sl A (n + 1) c w ∧ LtB A w.heap.size ∧ (A = none → ca = 0) ∧ n + 1 ≤ ca ∧ ca ≤ 9223372036854775807
theorem Rwv.below {u : Value} {n : Nat} {c : Nat → Nat} {w w' : World} (h : Rwv u n c w) (hb : Below w.heap.size w w') : Rwv u n c w' := by
  obtain ⟨A, ca, h1, h2, h3, h4, h5, h6⟩ := h
  exact ⟨A, ca, h1, h2.below hb h3, h3.mono hb.size, h4, h5, h6⟩
/-- The slice of slices that begins at ao: m rows M of n + 1 elements. -/
def MatR (ao : Option Addr) (m n : Nat) (M : Nat → Nat → Nat) (w : World) : Prop := ∀ i, i < m → ∃ b off u, ao = some ⟨b, off, none⟩ ∧ w.cell? ⟨b, off + i, none⟩ = some u ∧ Rwv u n (M i) w
theorem MatR.below {ao : Option Addr} {m n : Nat} {M : Nat → Nat → Nat} {w w' : World} (h : MatR ao m n M w) (hb : Below w.heap.size w w') : MatR ao m n M w' := fun i hi => by
  obtain ⟨b, off, u, e, hc, hr⟩ := h i hi
  exact ⟨b, off, u, e, ((bcell hb).1 b (off + i) (cell_lt hc)).trans hc, hr.below hb⟩
/-- Rows of a list of lists of the call's own, with the outer list where it lies. -/
structure RwsO (base : Nat) (ro : Option Addr) (k rc n : Nat) (R : Nat → Nat → Nat) (vs : Nat → Value) (w : World) : Prop where
  own : OwnV base (.slice ro k rc) (vl k vs) w
  row : ∀ j, j < k → Elm (vs j) (n, R j) w
  nil : ro = none → rc = 0
theorem RwsO.below {base : Nat} {ro : Option Addr} {k rc n : Nat} {R : Nat → Nat → Nat} {vs : Nat → Value} {w w' : World} (h : RwsO base ro k rc n R vs w) (hb : Below w.heap.size w w') : RwsO base ro k rc n R vs w' :=
  ⟨h.own.below hb (Nat.le_refl _), fun j hj => (h.row j hj).below hb (Nat.le_refl _), h.nil⟩
/-- The cell of row j. -/
theorem RwsO.cell {base : Nat} {ro : Option Addr} {k rc n : Nat} {R : Nat → Nat → Nat} {vs : Nat → Value} {w : World} (h : RwsO base ro k rc n R vs w) (j : Nat) (hj : j < k) : ∃ g, ro = some ⟨g, 0, none⟩ ∧ w.cell? ⟨g, j, none⟩ = some (vs j) ∧ w.frozen? ⟨g, j, none⟩ = false ∧ base ≤ g ∧ g < w.heap.size := by
  obtain ⟨ro', rc', e, _, hlt, hge, hc⟩ := h.own.open
  rw [vl_len] at e
  cases e
  obtain ⟨g, e, h1, h2⟩ := hc j (vs j) (vl_get k vs j hj)
  exact ⟨g, e, h1, h2, hge _ e, hlt _ e⟩
theorem RwsO.sl {base : Nat} {ro : Option Addr} {k rc n : Nat} {R : Nat → Nat → Nat} {vs : Nat → Value} {w : World} (h : RwsO base ro k rc n R vs w) : SlV ro k vs w := fun j hj => by
  obtain ⟨g, e, h1, _⟩ := h.cell j hj
  exact ⟨g, 0, e, by rw [Nat.zero_add]; exact h1⟩
/-- Row j is another one now. -/
theorem RwsO.store {base : Nat} {ro : Option Addr} {k rc n : Nat} {R : Nat → Nat → Nat} {vs : Nat → Value} {w : World} (h : RwsO base ro k rc n R vs w) {g j : Nat} (hg : ro = some ⟨g, 0, none⟩) {u : Value} {c : Nat → Nat} (hu : Elm u (n, c) w) :
    RwsO base ro k rc n (fun i => if i = j then c else R i) (fun i => if i = j then u else vs i) (w.setCell ⟨g, j, none⟩ u) := by
  have hown := h.own
  have hap : ∀ {v : Value} {p : Nat × (Nat → Nat)}, Elm v p w → Elm v p (w.setCell ⟨g, j, none⟩ u) := by
    rintro v p ⟨g', cap, e, h1, h2, hr⟩
    refine ⟨g', cap, e, h1, h2, hr.other (Below.heap_setCell w _ u g' ?_)⟩
    intro e'
    have hne := hr.apart hown
    rw [hg] at hne
    exact hne (by rw [e']; rfl)
  refine ⟨?_, fun i hi => ?_, h.nil⟩
  · rcases hown.2 with ⟨h1, _⟩ | ⟨g', cap, cur, hv, hb, hh, hle, hcm, hsz, htake⟩
    · rw [hg] at h1; cases h1
    · rw [hg, vl_len] at hv
      cases hv
      have hlt := lt_of_block hh
      have h' : w.heap[g] = .cells cur 22 (0, 0) := by simpa [Array.getElem?_eq_getElem hlt] using hh
      refine ⟨by rw [vl_len]; omega, Or.inr ⟨g, rc, cur.setIfInBounds j u, by rw [hg, vl_len], hb, ?_, by rw [vl_len]; rw [vl_len] at hle; exact hle, hcm, by rw [Array.size_setIfInBounds]; exact hsz, ?_⟩⟩
      · show (w.heap.modify g _)[g]? = _
        rw [Array.getElem?_eq_getElem (by simpa using hlt), Array.getElem_modify_self, h']
        rfl
      · rw [vl_len] at htake ⊢
        apply List.ext_getElem?
        intro i
        have h3 : (cur.toList.take (k * 1))[i]? = (vl k vs)[i]? := by rw [htake]
        rw [List.getElem?_take] at h3 ⊢
        by_cases hi : i < k * 1
        · rw [if_pos hi] at h3 ⊢
          have hik : i < k := by omega
          rw [vl_get k vs i hik] at h3
          rw [vl_get k _ i hik, Array.getElem?_toList, Array.getElem?_setIfInBounds]
          rw [Array.getElem?_toList] at h3
          by_cases e : j = i
          · rw [if_pos e, if_pos (by have := (Array.getElem?_eq_some_iff.1 h3).1; omega), if_pos e.symm]
          · rw [if_neg e, if_neg (fun x => e x.symm)]; exact h3
        · rw [if_neg hi, List.getElem?_eq_none (by rw [vl_len]; omega)]
  · show Elm (if i = j then u else vs i) (n, if i = j then c else R i) _
    by_cases e : i = j
    · rw [if_pos e, if_pos e]; exact hap hu
    · rw [if_neg e, if_neg e]; exact hap (h.row i hi)
/-- A list of numbers is no list of lists. -/
theorem OwnI.apart {base base' : Nat} {u v : Value} {l : List Int} {l' : List Value} {w : World} (h : OwnI base u l w) (h' : OwnV base' v l' w) : u.ownBlock = none ∨ u.ownBlock ≠ v.ownBlock := by
  rcases h.2 with ⟨h1, _⟩ | ⟨g, cap, cur, hv, _, hh, _⟩
  · left; rw [h1]; rfl
  · right
    rcases h'.2 with ⟨h2, _⟩ | ⟨g', cap', cur', hv', _, hh', _⟩
    · rw [hv, h2]; intro e; cases e
    · rw [hv, hv']
      intro e
      have e : some g = some g' := e
      cases e
      rw [hh] at hh'
      simp at hh'
/-- A number of a row of the call's own is another one now. -/
theorem Elm.store {g n cap j x : Nat} {c d : Nat → Nat} {w : World} (h : Elm (.slice (some ⟨g, 0, none⟩) (n + 1) cap) (n, c) w) (hd : ∀ i, i < n + 1 → d i = if i = j then x else c i) : Elm (.slice (some ⟨g, 0, none⟩) (n + 1) cap) (n, d) (w.setCell ⟨g, j, none⟩ (.int .i64 (x : Nat))) := by
  obtain ⟨g', cap', e, h1, h2, hr⟩ := h
  cases e
  exact ⟨g, cap, rfl, h1, h2, hr.store j x hd⟩
theorem Elm.row {g n cap : Nat} {c : Nat → Nat} {w : World} (h : Elm (.slice (some ⟨g, 0, none⟩) (n + 1) cap) (n, c) w) : Row g (n + 1) c w := by
  obtain ⟨g', cap', e, h1, h2, hr⟩ := h
  cases e
  exact hr
theorem Elm.congr {v : Value} {n : Nat} {c d : Nat → Nat} {w : World} (h : Elm v (n, c) w) (e : ∀ i, i < n + 1 → c i = d i) : Elm v (n, d) w := by
  obtain ⟨g', cap', e', h1, h2, hr⟩ := h
  exact ⟨g', cap', e', h1, h2, hr.congr e⟩
theorem RwsO.congr {base : Nat} {ro : Option Addr} {k rc n : Nat} {R R' : Nat → Nat → Nat} {vs : Nat → Value} {w : World} (h : RwsO base ro k rc n R vs w) (e : ∀ i, i < k → R i = R' i) : RwsO base ro k rc n R' vs w := ⟨h.own, fun j hj => by rw [← e j hj]; exact h.row j hj, h.nil⟩
end Go.Proofs.Ytabkomelnhnoiab

/- The reference's matrices: products (Product). -/
namespace Go.Proofs.Ytabkomelnhnoiab
open Go.RowKit Go.Sort

end Go.Proofs.Ytabkomelnhnoiab

/- The reference's matrices: which may be (MatrixMay). -/
namespace Go.Proofs.Ytabkomelnhnoiab
open Go.RowKit Go.Sort

/-- A matrix that is handed in: m lists of whatever length. -/
structure MatZ (ao : Option Addr) (m : Nat) (A : Nat → Option Addr) (N C : Nat → Nat) (Z : Nat → Nat → Int) (w : World) : Prop where
  cell : ∀ i, i < m → ∃ b off, ao = some ⟨b, off, none⟩ ∧ w.cell? ⟨b, off + i, none⟩ = some (.slice (A i) (N i) (C i))
  sl : ∀ i, i < m → SlZ (A i) (N i) (Z i) w
  le : ∀ i, i < m → N i ≤ C i
  cap : ∀ i, i < m → C i ≤ 9223372036854775807
  nil : ∀ i, i < m → A i = none → C i = 0
  few : ∀ i, i < m → N i ≤ 1000000
theorem MatZ.below {ao : Option Addr} {m : Nat} {A : Nat → Option Addr} {N C : Nat → Nat} {Z : Nat → Nat → Int} {w w' : World} (h : MatZ ao m A N C Z w) (hb : Below w.heap.size w w') : MatZ ao m A N C Z w' :=
  ⟨fun i hi => by
    obtain ⟨b, off, e, hc⟩ := h.cell i hi
    exact ⟨b, off, e, ((bcell hb).1 b (off + i) (cell_lt hc)).trans hc⟩, fun i hi => slz_below (h.sl i hi) hb, h.le, h.cap, h.nil, h.few⟩
end Go.Proofs.Ytabkomelnhnoiab
