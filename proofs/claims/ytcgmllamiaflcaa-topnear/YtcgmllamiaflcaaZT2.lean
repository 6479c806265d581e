/- Texts of ours, one behind the other: T2 T4 T5 T6 T7 T8 T3 X1 X2. -/
import Derived.Test.YtcgmllamiaflcaaZS2
/- The reference's matrices: rows as they are handed in; a row's first number that is not 0. -/
namespace Go.Proofs.Ytcgmllamiaflcaa
open Go.RowKit Go.Sort

theorem cell_lt {w : World} {a : Addr} {v : Value} (h : w.cell? a = some v) : a.block < w.heap.size := by
  rcases Nat.lt_or_ge a.block w.heap.size with e | e
  · exact e
  · exfalso
    have h1 : w.heap[a.block]? = none := Array.getElem?_eq_none e
    simp [World.cell?, h1] at h
/-- The slice u reads as n + 1 elements c. -/
def Rwv (u : Value) (n : Nat) (c : Nat → Nat) (w : World) : Prop := ∃ A ca, u = .slice A (n + 1) ca ∧ Sl A (n + 1) c w ∧ LtB A w.heap.size ∧ (A = none → ca = 0) ∧ n + 1 ≤ ca ∧ ca ≤ 9223372036854775807
theorem Rwv.below {u : Value} {n : Nat} {c : Nat → Nat} {w w' : World} (h : Rwv u n c w) (hb : Below w.heap.size w w') : Rwv u n c w' := by
  obtain ⟨A, ca, h1, h2, h3, h4, h5, h6⟩ := h
  exact ⟨A, ca, h1, h2.below hb h3, h3.mono hb.size, h4, h5, h6⟩
theorem Elm.rwv {v : Value} {n : Nat} {c : Nat → Nat} {w : World} (h : Elm v (n, c) w) : Rwv v n c w := by
  obtain ⟨ao, cap, e, h1, h2, hs, hl, hn⟩ := h.sl
  exact ⟨ao, cap, e, hs, hl, hn, h1, h2⟩
/-- The slice of slices that begins at ao: m rows M of n + 1 elements. -/
def MatR (ao : Option Addr) (m n : Nat) (M : Nat → Nat → Nat) (w : World) : Prop := ∀ i, i < m → ∃ b off u, ao = some ⟨b, off, none⟩ ∧ w.cell? ⟨b, off + i, none⟩ = some u ∧ Rwv u n (M i) w
theorem MatR.below {ao : Option Addr} {m n : Nat} {M : Nat → Nat → Nat} {w w' : World} (h : MatR ao m n M w) (hb : Below w.heap.size w w') : MatR ao m n M w' := fun i hi => by
  obtain ⟨b, off, u, e, hc, hr⟩ := h i hi
  exact ⟨b, off, u, e, ((bcell hb).1 b (off + i) (cell_lt hc)).trans hc, hr.below hb⟩
/-- k rows R of n + 1 numbers, as a list. -/
def rl (k n : Nat) (R : Nat → Nat → Nat) : List (Nat × (Nat → Nat)) := (List.range k).map fun i => (n, R i)
theorem rl_len (k n : Nat) (R : Nat → Nat → Nat) : (rl k n R).length = k := by simp [rl]
theorem rl_get (k n : Nat) (R : Nat → Nat → Nat) (j : Nat) (hj : j < k) : (rl k n R)[j]? = some (n, R j) := by
  unfold rl
  rw [List.getElem?_map, List.getElem?_range hj]; rfl
/-- Rows of a list of lists of the call's own, with the outer list where it lies. -/
structure RwsO (base : Nat) (ro : Option Addr) (k rc n : Nat) (R : Nat → Nat → Nat) (vs : Nat → Value) (w : World) : Prop where
  own : OwnV base (.slice ro k rc) (vl k vs) w
  row : ∀ j, j < k → Elm (vs j) (n, R j) w
  nil : ro = none → rc = 0
theorem LLs.rws {base : Nat} {v : Value} {k n : Nat} {R : Nat → Nat → Nat} {w : World} (h : LLs base v (rl k n R) w) : ∃ ro rc vs, v = .slice ro k rc ∧ RwsO base ro k rc n R vs w := by
  obtain ⟨l, h1, h2⟩ := h
  obtain ⟨ro, rc, hv, hn, _, _, _⟩ := h1.open
  have hl : l.length = k := by rw [h2.1, rl_len]
  rw [hl] at hv
  refine ⟨ro, rc, fun j => l.getD j undef, hv, ?_, fun j hj => ?_, hn⟩
  · have e : vl k (fun j => l.getD j undef) = l := by
      apply List.ext_getElem (by rw [vl_len, hl])
      intro i hi1 hi2
      rw [vl_len] at hi1
      have h3 := vl_get k (fun j => l.getD j undef) i hi1
      rw [List.getElem?_eq_getElem (by rw [vl_len]; exact hi1)] at h3
      have h4 := Option.some.inj h3
      rw [h4, List.getD_eq_getElem?_getD, List.getElem?_eq_getElem hi2]; rfl
    rw [e, ← hv]; exact h1
  · have hj' : j < l.length := by omega
    refine h2.2 j _ _ ?_ (rl_get k n R j hj)
    rw [List.getD_eq_getElem?_getD, List.getElem?_eq_getElem hj']; rfl
theorem RwsO.lls {base : Nat} {ro : Option Addr} {k rc n : Nat} {R : Nat → Nat → Nat} {vs : Nat → Value} {w : World} (h : RwsO base ro k rc n R vs w) : LLs base (.slice ro k rc) (rl k n R) w := by
  refine ⟨vl k vs, h.own, by rw [vl_len, rl_len], fun j v p hv hp => ?_⟩
  have hj : j < k := by have := (List.getElem?_eq_some_iff.1 hv).1; rwa [vl_len] at this
  rw [vl_get k vs j hj] at hv
  rw [rl_get k n R j hj] at hp
  cases hv; cases hp
  exact h.row j hj
theorem RwsO.below {base : Nat} {ro : Option Addr} {k rc n : Nat} {R : Nat → Nat → Nat} {vs : Nat → Value} {w w' : World} (h : RwsO base ro k rc n R vs w) (hb : Below w.heap.size w w') : RwsO base ro k rc n R vs w' :=
  ⟨h.own.below hb (Nat.le_refl _), fun j hj => (h.row j hj).below hb (Nat.le_refl _), h.nil⟩
/-- The cell of row j. -/
theorem RwsO.cell {base : Nat} {ro : Option Addr} {k rc n : Nat} {R : Nat → Nat → Nat} {vs : Nat → Value} {w : World} (h : RwsO base ro k rc n R vs w) (j : Nat) (hj : j < k) : ∃ g, ro = some ⟨g, 0, none⟩ ∧ w.cell? ⟨g, j, none⟩ = some (vs j) ∧ w.frozen? ⟨g, j, none⟩ = false ∧ base ≤ g ∧ g < w.heap.size := by
  obtain ⟨ro', rc', e, _, hlt, hge, hc⟩ := h.own.open
  rw [vl_len] at e
  cases e
  obtain ⟨g, e, h1, h2⟩ := hc j (vs j) (vl_get k vs j hj)
  exact ⟨g, e, h1, h2, hge _ e, hlt _ e⟩
theorem RwsO.sl {base : Nat} {ro : Option Addr} {k rc n : Nat} {R : Nat → Nat → Nat} {vs : Nat → Value} {w : World} (h : RwsO base ro k rc n R vs w) : SlV ro k vs w := fun j hj => by
  obtain ⟨g, e, h1, _⟩ := h.cell j hj
  exact ⟨g, 0, e, by rw [Nat.zero_add]; exact h1⟩
/-- Row j is another one now. -/
theorem RwsO.store {base : Nat} {ro : Option Addr} {k rc n : Nat} {R : Nat → Nat → Nat} {vs : Nat → Value} {w : World} (h : RwsO base ro k rc n R vs w) {g j : Nat} (hg : ro = some ⟨g, 0, none⟩) {u : Value} {c : Nat → Nat} (hu : Elm u (n, c) w) :
    RwsO base ro k rc n (fun i => if i = j then c else R i) (fun i => if i = j then u else vs i) (w.setCell ⟨g, j, none⟩ u) := by
  have hown := h.own
  have hap : ∀ {v : Value} {p : Nat × (Nat → Nat)}, Elm v p w → Elm v p (w.setCell ⟨g, j, none⟩ u) := by
    rintro v p ⟨g', cap, e, h1, h2, hr⟩
    refine ⟨g', cap, e, h1, h2, hr.other (Below.heap_setCell w _ u g' ?_)⟩
    intro e'
    have hne := hr.apart hown
    rw [hg] at hne
    exact hne (by rw [e']; rfl)
  refine ⟨?_, fun i hi => ?_, h.nil⟩
  · rcases hown.2 with ⟨h1, _⟩ | ⟨g', cap, cur, hv, hb, hh, hle, hcm, hsz, htake⟩
    · rw [hg] at h1; cases h1
    · rw [hg, vl_len] at hv
      cases hv
      have hlt := lt_of_block hh
      have h' : w.heap[g] = .cells cur 22 (0, 0) := by simpa [Array.getElem?_eq_getElem hlt] using hh
      refine ⟨by rw [vl_len]; omega, Or.inr ⟨g, rc, cur.setIfInBounds j u, by rw [hg, vl_len], hb, ?_, by rw [vl_len]; rw [vl_len] at hle; exact hle, hcm, by rw [Array.size_setIfInBounds]; exact hsz, ?_⟩⟩
      · show (w.heap.modify g _)[g]? = _
        rw [Array.getElem?_eq_getElem (by simpa using hlt), Array.getElem_modify_self, h']
        rfl
      · rw [vl_len] at htake ⊢
        apply List.ext_getElem?
        intro i
        have h3 : (cur.toList.take (k * 1))[i]? = (vl k vs)[i]? := by rw [htake]
        rw [List.getElem?_take] at h3 ⊢
        by_cases hi : i < k * 1
        · rw [if_pos hi] at h3 ⊢
          have hik : i < k := by omega
          rw [vl_get k vs i hik] at h3
          rw [vl_get k _ i hik, Array.getElem?_toList, Array.getElem?_setIfInBounds]
          rw [Array.getElem?_toList] at h3
          by_cases e : j = i
          · rw [if_pos e, if_pos (by have := (Array.getElem?_eq_some_iff.1 h3).1; omega), if_pos e.symm]
          · rw [if_neg e, if_neg (fun x => e x.symm)]; exact h3
        · rw [if_neg hi, List.getElem?_eq_none (by rw [vl_len]; omega)]
  · show Elm (if i = j then u else vs i) (n, if i = j then c else R i) _
    by_cases e : i = j
    · rw [if_pos e, if_pos e]; exact hap hu
    · rw [if_neg e, if_neg e]; exact hap (h.row i hi)
/-- A list of numbers is no list of lists. -/
theorem OwnI.apart {base base' : Nat} {u v : Value} {l : List Int} {l' : List Value} {w : World} (h : OwnI base u l w) (h' : OwnV base' v l' w) : u.ownBlock = none ∨ u.ownBlock ≠ v.ownBlock := by
  rcases h.2 with ⟨h1, _⟩ | ⟨g, cap, cur, hv, _, hh, _⟩
  · left; rw [h1]; rfl
  · right
    rcases h'.2 with ⟨h2, _⟩ | ⟨g', cap', cur', hv', _, hh', _⟩
    · rw [hv, h2]; intro e; cases e
    · rw [hv, hv']
      intro e
      have e : some g = some g' := e
      cases e
      rw [hh] at hh'
      simp at hh'
theorem Elm.setV {base g j : Nat} {v' u : Value} {l : List Value} {v : Value} {p : Nat × (Nat → Nat)} {w : World} (h : Elm v p w) (ho : OwnV base v' l w) (hg : v'.ownBlock = some g) : Elm v p (w.setCell ⟨g, j, none⟩ u) := by
  obtain ⟨g', cap, e, h1, h2, hr⟩ := h
  refine ⟨g', cap, e, h1, h2, hr.other (Below.heap_setCell w _ u g' ?_)⟩
  intro e'
  exact hr.apart ho (by rw [hg, e'])
theorem OwnI.setV {base base' g j : Nat} {v v' u : Value} {l : List Int} {l' : List Value} {w : World} (h : OwnI base v l w) (ho : OwnV base' v' l' w) (hg : v'.ownBlock = some g) : OwnI base v l (w.setCell ⟨g, j, none⟩ u) :=
  h.kept (grown_set (grown_refl w (some g)) j u) (by rw [← hg]; exact h.apart ho)
/-- A number of a row of the call's own is another one now. -/
theorem Elm.store {g n cap j x : Nat} {c d : Nat → Nat} {w : World} (h : Elm (.slice (some ⟨g, 0, none⟩) (n + 1) cap) (n, c) w) (hd : ∀ i, i < n + 1 → d i = if i = j then x else c i) : Elm (.slice (some ⟨g, 0, none⟩) (n + 1) cap) (n, d) (w.setCell ⟨g, j, none⟩ (.int .i64 (x : Nat))) := by
  obtain ⟨g', cap', e, h1, h2, hr⟩ := h
  cases e
  exact ⟨g, cap, rfl, h1, h2, hr.store j x hd⟩
theorem Elm.row {g n cap : Nat} {c : Nat → Nat} {w : World} (h : Elm (.slice (some ⟨g, 0, none⟩) (n + 1) cap) (n, c) w) : Row g (n + 1) c w := by
  obtain ⟨g', cap', e, h1, h2, hr⟩ := h
  cases e
  exact hr
theorem Elm.congr {v : Value} {n : Nat} {c d : Nat → Nat} {w : World} (h : Elm v (n, c) w) (e : ∀ i, i < n + 1 → c i = d i) : Elm v (n, d) w := by
  obtain ⟨g', cap', e', h1, h2, hr⟩ := h
  exact ⟨g', cap', e', h1, h2, hr.congr e⟩
theorem RwsO.congr {base : Nat} {ro : Option Addr} {k rc n : Nat} {R R' : Nat → Nat → Nat} {vs : Nat → Value} {w : World} (h : RwsO base ro k rc n R vs w) (e : ∀ i, i < k → R i = R' i) : RwsO base ro k rc n R' vs w := ⟨h.own, fun j hj => by rw [← e j hj]; exact h.row j hj, h.nil⟩
end Go.Proofs.Ytcgmllamiaflcaa

/- The reference's matrices: products (Product). -/
namespace Go.Proofs.Ytcgmllamiaflcaa
open Go.RowKit Go.Sort

end Go.Proofs.Ytcgmllamiaflcaa

/- The reference's matrices: which may be (MatrixMay). -/
namespace Go.Proofs.Ytcgmllamiaflcaa
open Go.RowKit Go.Sort

/-- A matrix that is handed in: m lists of whatever length. -/
structure MatZ (ao : Option Addr) (m : Nat) (A : Nat → Option Addr) (N C : Nat → Nat) (Z : Nat → Nat → Int) (w : World) : Prop where
  cell : ∀ i, i < m → ∃ b off, ao = some ⟨b, off, none⟩ ∧ w.cell? ⟨b, off + i, none⟩ = some (.slice (A i) (N i) (C i))
  sl : ∀ i, i < m → SlZ (A i) (N i) (Z i) w
  le : ∀ i, i < m → N i ≤ C i
  cap : ∀ i, i < m → C i ≤ 9223372036854775807
  nil : ∀ i, i < m → A i = none → C i = 0
  few : ∀ i, i < m → N i ≤ 1000000
theorem MatZ.below {ao : Option Addr} {m : Nat} {A : Nat → Option Addr} {N C : Nat → Nat} {Z : Nat → Nat → Int} {w w' : World} (h : MatZ ao m A N C Z w) (hb : Below w.heap.size w w') : MatZ ao m A N C Z w' :=
  ⟨fun i hi => by
    obtain ⟨b, off, e, hc⟩ := h.cell i hi
    exact ⟨b, off, e, ((bcell hb).1 b (off + i) (cell_lt hc)).trans hc⟩, fun i hi => slz_below (h.sl i hi) hb, h.le, h.cap, h.nil, h.few⟩
/-- What is said of a row of n numbers, where the first row has n0. -/
def FD.mrow (D : FD) (n0 n : Nat) (z : Nat → Int) : Int := if n ≠ n0 ∨ n = 0 then 3 else if 64 < n then 4 else if D.allHas z n = true then 0 else 2
def FD.mchks (D : FD) (N : Nat → Nat) (Z : Nat → Nat → Int) : Nat → Int
  | 0 => 0
  | k + 1 => if D.mchks N Z k = 0 then D.mrow (N 0) (N k) (Z k) else D.mchks N Z k
/-- What is said of a matrix. -/
def FD.mchk (D : FD) (m : Nat) (N : Nat → Nat) (Z : Nat → Nat → Int) : Int := if 64 < m then 4 else D.mchks N Z m
theorem mchks_keep {D : FD} {N : Nat → Nat} {Z : Nat → Nat → Int} {e : Int} (he : e ≠ 0) {r : Nat} (h : D.mchks N Z r = e) : ∀ d, D.mchks N Z (r + d) = e
  | 0 => h
  | d + 1 => by rw [← Nat.add_assoc, FD.mchks, mchks_keep he h d, if_neg he]
theorem mchks_to {D : FD} {N : Nat → Nat} {Z : Nat → Nat → Int} {e : Int} (he : e ≠ 0) {r m : Nat} (h0 : D.mchks N Z r = 0) (hr : r < m) (hm : ¬ 64 < m) (h : D.mrow (N 0) (N r) (Z r) = e) : D.mchk m N Z = e := by
  unfold FD.mchk
  rw [if_neg hm]
  have h1 : D.mchks N Z (r + 1) = e := by rw [FD.mchks, if_pos h0, h]
  have := mchks_keep he h1 (m - (r + 1))
  rwa [show r + 1 + (m - (r + 1)) = m from by omega] at this
theorem mrow_zero {D : FD} {n0 n : Nat} {z : Nat → Int} (h : D.mrow n0 n z = 0) : n = n0 ∧ 1 ≤ n ∧ n ≤ 64 ∧ D.allHas z n = true := by
  unfold FD.mrow at h
  by_cases h1 : n ≠ n0 ∨ n = 0
  · rw [if_pos h1] at h; cases h
  · rw [if_neg h1] at h
    by_cases h2 : 64 < n
    · rw [if_pos h2] at h; cases h
    · rw [if_neg h2] at h
      by_cases h3 : D.allHas z n = true
      · exact ⟨by omega, by omega, by omega, h3⟩
      · rw [if_neg h3] at h; cases h
theorem mchks_zero {D : FD} {N : Nat → Nat} {Z : Nat → Nat → Int} : ∀ {k : Nat}, D.mchks N Z k = 0 → ∀ i, i < k → D.mrow (N 0) (N i) (Z i) = 0
  | 0, _, i, hi => by omega
  | k + 1, h, i, hi => by
    rw [FD.mchks] at h
    by_cases h0 : D.mchks N Z k = 0
    · rw [if_pos h0] at h
      by_cases e : i = k
      · rw [e]; exact h
      · exact mchks_zero h0 i (by omega)
    · rw [if_neg h0] at h; exact absurd h h0
/-- The numbers of a matrix that may be. -/
def mzc (N : Nat → Nat) (Z : Nat → Nat → Int) : Nat → Nat → Nat := fun i => zc (N i) (Z i)
theorem mchk_rows {D : FD} (F : Fld D) {ao : Option Addr} {m : Nat} {A : Nat → Option Addr} {N C : Nat → Nat} {Z : Nat → Nat → Int} {w : World} (h : D.mchk m N Z = 0) (hA : MatZ ao m A N C Z w) (hm : 0 < m) :
    m ≤ 64 ∧ ∃ n, N 0 = n + 1 ∧ n < 64 ∧ (∀ i, i < m → N i = n + 1 ∧ El D (mzc N Z i) ∧ Bd (n + 1) (mzc N Z i)) ∧ MatR ao m n (mzc N Z) w := by
  unfold FD.mchk at h
  by_cases h64 : 64 < m
  · rw [if_pos h64] at h; cases h
  · rw [if_neg h64] at h
    have hrow := mchks_zero h
    have h0 := mrow_zero (hrow 0 hm)
    obtain ⟨n, hn⟩ : ∃ n, N 0 = n + 1 := ⟨N 0 - 1, by omega⟩
    have key : ∀ i, i < m → N i = n + 1 ∧ D.chk (N i) (Z i) = 0 := fun i hi => by
      have h1 := mrow_zero (hrow i hi)
      refine ⟨by omega, ?_⟩
      unfold FD.chk
      rw [if_neg (by omega), if_pos h1.2.2.2]
    refine ⟨by omega, n, hn, by omega, fun i hi => ⟨(key i hi).1, zc_el F (key i hi).2, by have := zc_bd (N i) (Z i); rw [(key i hi).1] at this; unfold mzc; rw [(key i hi).1]; exact this⟩, fun i hi => ?_⟩
    obtain ⟨b, off, e, hc⟩ := hA.cell i hi
    have hk := key i hi
    have hsl := zc_sl hk.2 (hA.sl i hi)
    refine ⟨b, off, _, e, hc, A i, C i, by rw [hk.1], ?_, ?_, hA.nil i hi, by have := hA.le i hi; omega, hA.cap i hi⟩
    · have : Sl (A i) (N i) (zc (N i) (Z i)) w := hsl
      rw [hk.1] at this
      unfold mzc; rw [hk.1]; exact this
    · intro x hx
      obtain ⟨b', off', e', hc'⟩ := hA.sl i hi 0 (by omega)
      rw [hx] at e'
      cases e'
      exact cell_lt hc'

end Go.Proofs.Ytcgmllamiaflcaa

/- The reference's matrices: Reduce's regions that draw their order, each by itself. -/
namespace Go.Proofs.Ytcgmllamiaflcaa
open Go.RowKit Go.Sort

end Go.Proofs.Ytcgmllamiaflcaa

/- The reference's matrices: Reduce's regions that draw their order, each by itself. -/
namespace Go.Proofs.Ytcgmllamiaflcaa
open Go.RowKit Go.Sort

end Go.Proofs.Ytcgmllamiaflcaa

/- The reference's matrices: Reduce's regions that draw their order, each by itself. -/
namespace Go.Proofs.Ytcgmllamiaflcaa
open Go.RowKit Go.Sort

end Go.Proofs.Ytcgmllamiaflcaa

/- The reference's matrices: the one form of what rows span (Reduce). -/
namespace Go.Proofs.Ytcgmllamiaflcaa
open Go.RowKit Go.Sort

end Go.Proofs.Ytcgmllamiaflcaa

/- The program's matrices: how many columns there are (width), which row may stand (checkRow), which matrix may be (Check). -/
namespace Go.Proofs.Ytcgmllamiaflcaa
open Go.RowKit

set_option maxHeartbeats 2000000 in
set_option maxRecDepth 100000 in
theorem width_any {ao : Option Addr} {m ca : Nat} {A : Nat → Option Addr} {N C : Nat → Nat} {Z : Nat → Nat → Int} {w : World} (h : MatZ ao m A N C Z w) :
    Calls Try.prog 75 #[.slice ao m ca] w fun e w' => e = .returned (.int .i64 ((if m = 0 then 0 else N 0 : Nat) : Int)) ∧ w' = w := by
  have HS : Hid (MatZ ao m A N C Z w) := h
  clear h
  by_cases hm : m = 0
  · subst hm
    go_enter Try.func75, Try.ntmps75
    go_wp2
    go_ret
    exact ⟨rfl, rfl⟩
  · obtain ⟨b, off, rfl, hc⟩ := HS.out.cell 0 (by omega)
    rw [Nat.add_zero] at hc
    have hf := HS.out.few 0 (by omega)
    have hm0 : (0 : Int) < (m : Int) := by omega
    have hz : ((m : Int) == 0) = false := by rw [beq_eq_false_iff_ne]; omega
    rw [if_neg hm]
    obtain ⟨N0, hN0⟩ : ∃ N0, N0 = N 0 := ⟨_, rfl⟩
    rw [← hN0] at hc hf ⊢
    clear hN0
    go_enter Try.func75, Try.ntmps75
    go_wp2
    go_ret
    exact ⟨rfl, rfl⟩

end Go.Proofs.Ytcgmllamiaflcaa

/- The program's matrices: how many columns there are (width), which row may stand (checkRow), which matrix may be (Check). -/
namespace Go.Proofs.Ytcgmllamiaflcaa
open Go.RowKit

set_option maxHeartbeats 2000000 in
set_option maxRecDepth 100000 in
theorem hasnt_any {D : FD} {F T B : Nat} {g : Nat → Value} {w : World} (h : FAt F T D g w) (hc : w.cell? ⟨B, 0, none⟩ = some (.pointer (some ⟨F, 0, none⟩))) (x : Int) :
    Calls Try.prog 102 #[.int .i64 x, .pointer (some ⟨B, 0, none⟩)] w fun e w' => e = .returned (.bool (!D.has x)) ∧ w' = w := by
  have HS : Hid (FAt F T D g w) := h
  clear h
  obtain ⟨y, hy⟩ : ∃ y, y = D.has x := ⟨_, rfl⟩
  have HC : Hid (Calls Try.prog 37 #[.pointer (some ⟨F, 0, none⟩), .int .i64 x] w fun e w' => e = .returned (.bool y) ∧ w' = w) := by
    show Calls _ _ _ _ _
    rw [hy]; exact has_any HS.out x
  rw [← hy]
  clear hy
  go_enter Try.func102, Try.ntmps102
  go_wp2_with (go_at_call 37; refine HC.out.mono ?_; rintro e w' ⟨rfl, hw⟩; have hw := hw.symm; subst hw)
  go_ret
  exact ⟨rfl, rfl⟩

end Go.Proofs.Ytcgmllamiaflcaa
