/- Texts of ours, one behind the other: Q4 Q5 Q6 I1 I3 I4 S12 S13 S20 KA1 KA2 KA3 KA4 KA5 KA6 KA7 S23 S24 S25. -/
import Derived.Test.YtogobpamlalbiaaZZ2
import Derived.Test.YtogobpamlalbiaaZS11
import Derived.Test.YtogobpamlalbiaaZX17
import Derived.Test.YtogobpamlalbiaaZX19
import Derived.Test.YtogobpamlalbiaaZL10
import Derived.Test.YtogobpamlalbiaaZX12
import Derived.Test.YtogobpamlalbiaaZA1
import Derived.Test.YtogobpamlalbiaaZC1
import Derived.Test.YtogobpamlalbiaaZM3
import Derived.Test.YtogobpamlalbiaaZU2
import Derived.Deep.CutBlock
import Derived.Deep.DeepCutAuto
import Derived.Test.YtogobpamlalbiaaZR5
import Derived.Test.YtogobpamlalbiaaZH1
/- The program's valuesAt: all products at an x and a y. -/
namespace Go.Proofs.Ytogobpamlalbiaa
open Go.RowKit Go.Sort

/-- A power, as an element. -/
def FD.pn (D : FD) (a k : Nat) : Nat := (D.powZ a k).toNat
theorem pn_eq {D : FD} {a : Nat} (ha : a < D.q) (k : Nat) : D.powZ a k = (D.pn a k : Nat) := by
  have hh : D.has (a : Nat) = true := decide_eq_true ⟨by omega, by omega⟩
  have : (0 : Int) ≤ D.powZ a k := by
    unfold FD.powZ
    rw [hh, if_neg (by decide)]
    split
    · omega
    · split
      · rw [if_neg (by omega)]; omega
      · omega
  unfold FD.pn
  omega
end Go.Proofs.Ytogobpamlalbiaa

/- The program's byPowers: numbers laid by their powers of y. -/
namespace Go.Proofs.Ytogobpamlalbiaa
open Go.RowKit Go.Sort

/-- What stays where one list grows: cells elsewhere. -/
theorem GrS.else {base n : Nat} {ro : Option Addr} {rc : Nat} {vs : Nat → Value} {Z : Nat → List Int} {w w1 : World} (h : GrS base n ro rc vs Z w) {j b : Nat} (hj : j < n) (hgr : w.grownBy w1 (vs j).ownBlock) (hb : b < w.heap.size) (hne : b < base ∨ ∀ g, (vs j).ownBlock = some g → g ≠ b) : w1.heap[b]? = w.heap[b]? := by
  refine hgr.block b hb ?_
  intro e
  rcases hne with hne | hne
  · have := ((h.row j hj).lt b e.symm).1
    omega
  · exact hne b e.symm rfl
theorem cell_same {w w1 : World} {b o : Nat} (h : w1.heap[b]? = w.heap[b]?) : w1.cell? ⟨b, o, none⟩ = w.cell? ⟨b, o, none⟩ := by
  simp [World.cell?, h]
theorem frozen_same {w w1 : World} {b o : Nat} (h : w1.heap[b]? = w.heap[b]?) : w1.frozen? ⟨b, o, none⟩ = w.frozen? ⟨b, o, none⟩ := by
  simp [World.frozen?, h]

theorem OwnI.form {base : Nat} {v : Value} {l : List Int} {w : World} (h : OwnI base v l w) : ∃ ao cap, v = .slice ao l.length cap := by
  rcases h.2 with ⟨h1, h2⟩ | ⟨g, cap, cur, hv, _⟩
  · exact ⟨none, 0, by rw [h1, h2]⟩
  · exact ⟨_, cap, hv⟩
/-- The number of product a is laid. -/
theorem GrS.next {base m : Nat} {ro : Option Addr} {rc : Nat} {vs : Nat → Value} {p s : Nat → Nat} {r j g : Nat} {w w1 : World} {u : Value} (h : GrS base m ro rc vs (gz p s r) w) (hj : j < m) (hjp : j = p r) (hg : ro = some ⟨g, 0, none⟩) (hu : OwnI base u (gz p s r j ++ [((s r : Nat) : Int)]) w1) {ob : Option Nat} (hob : (vs j).ownBlock = ob) (hgr : w.grownBy w1 ob) (hat : u.ownBlock = ob ∨ u.ownBlock = some w.heap.size) :
    GrS base m ro rc (fun i => if i = j then u else vs i) (gz p s (r + 1)) (w1.setCell ⟨g, j, none⟩ u) := by
  subst hob
  refine (h.store hj hg hu hgr hat).congr (fun i _ => ?_)
  show _ = (if i = p r then gz p s r i ++ [((s r : Nat) : Int)] else gz p s r i)
  rw [← hjp]
/-- What the next number's walk reads, wherever it stands. -/
def bpF (pb g j bs os r : Nat) (jo : Option Addr) (jl jc i x : Nat) (wx : World) : Prop := wx.cell? ⟨pb, 0, none⟩ = some (.int .i64 (i : Nat)) ∧ wx.cell? ⟨pb, 1, none⟩ = some (.int .i64 (j : Nat)) ∧ wx.cell? ⟨g, j, none⟩ = some (.slice jo jl jc) ∧ wx.frozen? ⟨g, j, none⟩ = false ∧ wx.cell? ⟨bs, os + r, none⟩ = some (.int .i64 (x : Nat))

theorem bpF.below {pb g j bs os r : Nat} {jo : Option Addr} {jl jc i x : Nat} {w w' : World} (h : bpF pb g j bs os r jo jl jc i x w) (hb : Below w.heap.size w w') : bpF pb g j bs os r jo jl jc i x w' := by
  obtain ⟨h1, h2, h3, h4, h5⟩ := h
  exact ⟨(cell_same (hb.block _ (cell_lt h1))).trans h1, (cell_same (hb.block _ (cell_lt h2))).trans h2, (cell_same (hb.block _ (cell_lt h3))).trans h3, (frozen_same (hb.block _ (cell_lt h3))).trans h4, (cell_same (hb.block _ (cell_lt h5))).trans h5⟩
theorem bpF.keep {pb g j bs os r : Nat} {jo : Option Addr} {jl jc i x : Nat} {base m : Nat} {ro : Option Addr} {rc : Nat} {vs : Nat → Value} {Z : Nat → List Int} {w w9 : World} (hF : bpF pb g j bs os r jo jl jc i x w) (h : GrS base m ro rc vs Z w) (hj : j < m) (hg : ro = some ⟨g, 0, none⟩) (hpb : ∀ k, (vs j).ownBlock = some k → k ≠ pb) (hbs : bs < base) {ob : Option Nat} (hob : (vs j).ownBlock = ob) (hgr : w.grownBy w9 ob) : bpF pb g j bs os r jo jl jc i x w9 := by
  subst hob
  obtain ⟨h1, h2, h3, h4, h5⟩ := hF
  have e1 := h.else hj hgr (cell_lt h1) (Or.inr hpb)
  have e2 := h.else hj hgr (cell_lt h3) (Or.inr (fun k hk e => by
    rcases (h.row j hj).apart h.own with ha | ha
    · rw [ha] at hk; cases hk
    · exact ha (by rw [hk, hg, e]; rfl)))
  have e3 := h.else hj hgr (cell_lt h5) (Or.inl hbs)
  exact ⟨(cell_same e1).trans h1, (cell_same e1).trans h2, (cell_same e2).trans h3, (frozen_same e2).trans h4, (cell_same e3).trans h5⟩
theorem bpF.three {pb g j bs os r : Nat} {jo : Option Addr} {jl jc i x : Nat} {w : World} (h : bpF pb g j bs os r jo jl jc i x w) : w.cell? ⟨pb, 0, none⟩ = some (.int .i64 (i : Nat)) ∧ w.cell? ⟨pb, 1, none⟩ = some (.int .i64 (j : Nat)) ∧ w.cell? ⟨bs, os + r, none⟩ = some (.int .i64 (x : Nat)) := ⟨h.1, h.2.1, h.2.2.2.2⟩
theorem bpF.set {pb g j bs os r : Nat} {jo : Option Addr} {jl jc i x : Nat} {w : World} (h : bpF pb g j bs os r jo jl jc i x w) (h1 : g ≠ pb) (h2 : g ≠ bs) (v : Value) : (w.setCell ⟨g, j, none⟩ v).cell? ⟨pb, 0, none⟩ = some (.int .i64 (i : Nat)) ∧ (w.setCell ⟨g, j, none⟩ v).cell? ⟨pb, 1, none⟩ = some (.int .i64 (j : Nat)) ∧ (w.setCell ⟨g, j, none⟩ v).cell? ⟨bs, os + r, none⟩ = some (.int .i64 (x : Nat)) := by
  have e1 := Below.heap_setCell w ⟨g, j, none⟩ v pb (fun e => h1 e.symm)
  have e2 := Below.heap_setCell w ⟨g, j, none⟩ v bs (fun e => h2 e.symm)
  exact ⟨(cell_same e1).trans h.1, (cell_same e1).trans h.2.1, (cell_same e2).trans h.2.2.2.2⟩
theorem bpF.ne {pb g j bs os r : Nat} {jo : Option Addr} {jl jc i x : Nat} {base m : Nat} {ro : Option Addr} {rc : Nat} {vs : Nat → Value} {Z : Nat → List Int} {w : World} (hF : bpF pb g j bs os r jo jl jc i x w) (h : GrS base m ro rc vs Z w) (hj : j < m) (hg : ro = some ⟨g, 0, none⟩) (hbs : bs < base) : g ≠ pb ∧ g ≠ bs := by
  obtain ⟨g', e, hc, _, hb, _⟩ := h.cell 0 (by omega)
  rw [hg] at e
  cases e
  refine ⟨fun e => ?_, by omega⟩
  obtain ⟨ao, cap, ev⟩ := (h.row 0 (by omega)).form
  have := hF.1
  rw [← e, hc, ev] at this
  cases this
end Go.Proofs.Ytogobpamlalbiaa

/- The program's Sudan. -/
namespace Go.Proofs.Ytogobpamlalbiaa
open Go.RowKit Go.Sort

/-- The reduced form of these rows; the reduced form of what they make 0. -/
structure SOk (D : FD) (m P : Nat) (V : Nat → Nat → Nat) (k : Nat) (R : Nat → Nat → Nat) (p : Nat → Nat) (k2 : Nat) (R2 : Nat → Nat → Nat) (p2 : Nat → Nat) : Prop where
  km : k ≤ m
  rre : RRE D P k R p
  spn : ∀ v, Spn D (RowsOf k R) v ↔ Spn D (RowsOf m V) v
  km2 : k2 ≤ nct k p P
  rre2 : RRE D P k2 R2 p2
  spn2 : ∀ v, Spn D (RowsOf k2 R2) v ↔ Spn D (RowsOf (nct k p P) (nul D R p k P)) v
theorem mchk_nat {D : FD} {m P : Nat} {V : Nat → Nat → Nat} (hm : m ≤ 64) (hP : 1 ≤ P) (hP2 : P ≤ 64) (hV : ∀ i, El D (V i)) : D.mchk m (fun _ => P) (fun i j => ((V i j : Nat) : Int)) = 0 := by
  refine mchk_of hm (fun i _ => ?_)
  unfold FD.mrow
  rw [if_neg (by omega), if_neg (by omega), if_pos]
  exact allHas_iff.2 (fun j _ => has_of_lt (hV i j))
theorem RL.first {lo : Option Addr} {k n lc : Nat} {R : Nat → Nat → Nat} {w : World} (h : RL (.slice lo k lc) k n R w) (hk : 0 < k) : ∃ b off x cx, lo = some ⟨b, off, none⟩ ∧ w.cell? ⟨b, off, none⟩ = some (.slice x n cx) ∧ Sl x n (R 0) w := by
  obtain ⟨ao, ca, e, h⟩ := h
  cases e
  obtain ⟨b, off, x, cx, e1, e2, e3⟩ := h 0 hk
  exact ⟨b, off, x, cx, e1, e2, e3⟩
end Go.Proofs.Ytogobpamlalbiaa

/- Codes: what is said of one (the program's code.Check, the reference's CodeMay). -/
namespace Go.Proofs.Ytogobpamlalbiaa
open Go.RowKit Go.Sort

/-- A code's cells, in block b. -/
structure CB (b : Nat) (q n : Int) (v : Value) (w : World) : Prop where
  c0 : w.cell? ⟨b, 0, none⟩ = some (.int .i64 q)
  c1 : w.cell? ⟨b, 1, none⟩ = some (.int .i64 n)
  c2 : w.cell? ⟨b, 2, none⟩ = some v
theorem CB.below {b B : Nat} {q n : Int} {v : Value} {w w' : World} (h : CB b q n v w) (hb : Below B w w') (hB : b < B) : CB b q n v w' := by
  have e : ∀ o, w'.cell? ⟨b, o, none⟩ = w.cell? ⟨b, o, none⟩ := fun o => by simp [World.cell?, hb.block b hB]
  exact ⟨(e 0).trans h.c0, (e 1).trans h.c1, (e 2).trans h.c2⟩
theorem CB.keep {b : Nat} {q n : Int} {v : Value} {w w' : World} (h : CB b q n v w) (hb : Below w.heap.size w w') : CB b q n v w' := h.below hb (cell_lt h.c0)
end Go.Proofs.Ytogobpamlalbiaa

/- Independent rows: the reduced form has as many; what makes nothing 0 but 0. Plain mathematics. -/
namespace Go.Proofs.Ytogobpamlalbiaa
open Go.RowKit

end Go.Proofs.Ytogobpamlalbiaa

/- Codes: one form, and the dual (the program's oneForm, unit, dual). -/
namespace Go.Proofs.Ytogobpamlalbiaa
open Go.RowKit Go.Sort

/-- The reduced form of m rows. -/
def Red (D : FD) (n m : Nat) (M : Nat → Nat → Nat) (k : Nat) (R : Nat → Nat → Nat) : Prop := ∃ p, RRE D n k R p ∧ ∀ v, Spn D (RowsOf k R) v ↔ Spn D (RowsOf m M) v
/-- The reduced form of what makes m rows 0. -/
def Dul (D : FD) (n m : Nat) (M : Nat → Nat → Nat) (k2 : Nat) (R2 : Nat → Nat → Nat) : Prop := ∃ k R p p2, RRE D n k R p ∧ (∀ v, Spn D (RowsOf k R) v ↔ Spn D (RowsOf m M) v) ∧ RRE D n k2 R2 p2 ∧ (∀ v, Spn D (RowsOf k2 R2) v ↔ Spn D (RowsOf (nct k p n) (nul D R p k n)) v) ∧ k2 = nct k p n
theorem Dul.le {D : FD} {n m k : Nat} {M R : Nat → Nat → Nat} (h : Dul D n m M k R) : k ≤ n := by
  obtain ⟨a, A, q, q2, _, _, _, _, e⟩ := h
  rw [e]; exact nct_le _ _ _
theorem Dul.rows {D : FD} {n m k : Nat} {M R : Nat → Nat → Nat} (h : Dul D n m M k R) : (∀ i, i < k → El D (R i)) ∧ ∀ i, i < k → Bd n (R i) := by
  obtain ⟨a, A, q, q2, _, _, h3, _, e⟩ := h
  exact ⟨h3.el, h3.bd⟩
theorem Red.rows {D : FD} {n m k : Nat} {M R : Nat → Nat → Nat} (h : Red D n m M k R) : (∀ i, i < k → El D (R i)) ∧ ∀ i, i < k → Bd n (R i) := by
  obtain ⟨p, h3, _⟩ := h
  exact ⟨h3.el, h3.bd⟩
theorem rre_le {p : Nat → Nat} {n : Nat} : ∀ k, (∀ i j, i < j → j < k → p i < p j) → (∀ i, i < k → p i < n) → k ≤ n := by
  intro k hm hl
  have key : ∀ i, i < k → i ≤ p i := fun i => by
    induction i with
    | zero => intro _; omega
    | succ i ih =>
      intro hi
      have := ih (by omega)
      have := hm i (i + 1) (by omega) hi
      omega
  rcases Nat.eq_zero_or_pos k with h | h
  · omega
  · have := key (k - 1) (by omega)
    have := hl (k - 1) (by omega)
    omega
theorem Red.le {D : FD} {n m k : Nat} {M R : Nat → Nat → Nat} (h : Red D n m M k R) : k ≤ n := by
  obtain ⟨p, h3, _⟩ := h
  exact rre_le k h3.mono h3.lt
theorem RLz.congr {v : Value} {k n : Nat} {R R' : Nat → Nat → Nat} {w : World} (h : RLz v k n R w) (e : ∀ i, i < k → R i = R' i) : RLz v k n R' w := by
  obtain ⟨ao, ca, A, C, e1, hm⟩ := h
  exact ⟨ao, ca, A, C, e1, ⟨hm.cell, fun i hi => by have := hm.sl i hi; simp only [e i hi] at this; exact this, hm.le, hm.cap, hm.nil, hm.few⟩⟩
theorem RLz.below {v : Value} {k n : Nat} {R : Nat → Nat → Nat} {w w' : World} (h : RLz v k n R w) (hb : Below w.heap.size w w') : RLz v k n R w' := by
  obtain ⟨ao, ca, A, C, e, hm⟩ := h
  exact ⟨ao, ca, A, C, e, hm.below hb⟩
/-- A code's rows as they are handed in: m rows of n elements. -/
structure CdZ (D : FD) (ao : Option Addr) (m n : Nat) (A : Nat → Option Addr) (N C : Nat → Nat) (Z : Nat → Nat → Int) (w : World) : Prop where
  mat : MatZ ao m A N C Z w
  chk : D.mchk m N Z = 0
  wd : 0 < m → N 0 = n
  n1 : 1 ≤ n
  n64 : n ≤ 64
theorem CdZ.below {D : FD} {ao : Option Addr} {m n : Nat} {A : Nat → Option Addr} {N C : Nat → Nat} {Z : Nat → Nat → Int} {w w' : World} (h : CdZ D ao m n A N C Z w) (hb : Below w.heap.size w w') : CdZ D ao m n A N C Z w' := ⟨h.mat.below hb, h.chk, h.wd, h.n1, h.n64⟩
theorem CdZ.rows {D : FD} (F : Fld D) {ao : Option Addr} {m n : Nat} {A : Nat → Option Addr} {N C : Nat → Nat} {Z : Nat → Nat → Int} {w : World} (h : CdZ D ao m n A N C Z w) : m ≤ 64 ∧ (∀ i, i < m → El D (mzc N Z i)) ∧ (∀ i, i < m → Bd n (mzc N Z i)) ∧ MatR ao m (n - 1) (mzc N Z) w := by
  have hn := h.n1
  rcases Nat.eq_zero_or_pos m with e | e
  · exact ⟨by omega, fun i hi => absurd hi (by omega), fun i hi => absurd hi (by omega), fun i hi => absurd hi (by omega)⟩
  · obtain ⟨h1, n', h2, h3, h4, h5⟩ := mchk_rows F h.chk h.mat e
    have hn' : n' + 1 = n := by have := h.wd e; omega
    have e2 : n - 1 = n' := by omega
    rw [e2, ← hn']
    exact ⟨h1, fun i hi => (h4 i hi).2.1, fun i hi => (h4 i hi).2.2, h5⟩
theorem CdZ.few {D : FD} (F : Fld D) {ao : Option Addr} {m n : Nat} {A : Nat → Option Addr} {N C : Nat → Nat} {Z : Nat → Nat → Int} {w : World} (h : CdZ D ao m n A N C Z w) : m ≤ 1000000 := by
  have := (h.rows F).1
  omega
/-- Where a call's answer is laid: three cells that may be written. -/
structure RB (b : Nat) (w : World) : Prop where
  c0 : ∃ v, w.cell? ⟨b, 0, none⟩ = some v
  c1 : ∃ v, w.cell? ⟨b, 1, none⟩ = some v
  c2 : ∃ v, w.cell? ⟨b, 2, none⟩ = some v
  f0 : w.frozen? ⟨b, 0, none⟩ = false
  f1 : w.frozen? ⟨b, 1, none⟩ = false
  f2 : w.frozen? ⟨b, 2, none⟩ = false
theorem RB.keep {b : Nat} {w w' : World} (h : RB b w) (hb : Below w.heap.size w w') : RB b w' := by
  obtain ⟨v0, h0⟩ := h.c0
  obtain ⟨v1, h1⟩ := h.c1
  obtain ⟨v2, h2⟩ := h.c2
  have hh := hb.block b (cell_lt h0)
  have e : ∀ o, w'.cell? ⟨b, o, none⟩ = w.cell? ⟨b, o, none⟩ := fun o => by simp [World.cell?, hh]
  have f : ∀ o, w'.frozen? ⟨b, o, none⟩ = w.frozen? ⟨b, o, none⟩ := fun o => by simp [World.frozen?, hh]
  exact ⟨⟨v0, (e 0).trans h0⟩, ⟨v1, (e 1).trans h1⟩, ⟨v2, (e 2).trans h2⟩, (f 0).trans h.f0, (f 1).trans h.f1, (f 2).trans h.f2⟩
theorem RLz.none (ao : Option Addr) (ca n : Nat) (R : Nat → Nat → Nat) (w : World) : RLz (.slice ao 0 ca) 0 n R w :=
  ⟨ao, ca, fun _ => Option.none, fun _ => 0, rfl, ⟨fun i hi => absurd hi (by omega), fun i hi => absurd hi (by omega), fun i hi => absurd hi (by omega), fun i hi => absurd hi (by omega), fun i hi => absurd hi (by omega), fun i hi => absurd hi (by omega)⟩⟩

/-- The answer is laid. -/
def laid (w : World) (b : Nat) (q n : Int) (v : Value) : World := ((w.setCell ⟨b, 0, none⟩ (.int .i64 q)).setCell ⟨b, 1, none⟩ (.int .i64 n)).setCell ⟨b, 2, none⟩ v
theorem MV.mono {B B' : Nat} {v : Value} {k n : Nat} {R : Nat → Nat → Nat} {w : World} (h : MV B v k n R w) (hB : B' ≤ B) : MV B' v k n R w := by
  rcases h with h | ⟨G, mc, m, hh, ev, hm⟩
  · exact Or.inl h
  · exact Or.inr ⟨G, mc, m, hh, ev, hm.mono hB⟩
theorem Mx.less {B G m k j n : Nat} {R : Nat → Nat → Nat} {h : Nat → Nat} {w : World} (H : Mx B G m k n R h w) (hj : j ≤ k) : Mx B G m j n R h w := by
  obtain ⟨f, hf, hf'⟩ := H.outer
  exact ⟨⟨f, hf, fun i hi => hf' i (by omega)⟩, fun i hi => H.row i (by omega), H.geG, fun i hi => H.ge i (by omega), fun i hi j hj => H.inj i (by omega) j (by omega), fun i hi => H.ne i (by omega), by have := H.le; omega⟩

end Go.Proofs.Ytogobpamlalbiaa

/- Plain mathematics: products of rows; what makes rows 0. No Go text here. -/
namespace Go.Proofs.Ytogobpamlalbiaa

/-- The sum of the products of the first numbers of two lists. -/
def dot (D : FD) (a b : Nat → Nat) : Nat → Nat
  | 0 => 0
  | j + 1 => D.ad (dot D a b j) (D.mul (a j) (b j))
theorem dot_nil {D : FD} (F : Fld D) (v : Nat → Nat) : ∀ n, dot D pnil v n = 0
  | 0 => rfl
  | n + 1 => by
    show D.ad (dot D pnil v n) (D.mul 0 (v n)) = 0
    rw [dot_nil F v n, zmul F, ad_zero F (zero_lt' F)]
theorem dot_congr {D : FD} {a a' b b' : Nat → Nat} : ∀ n, (∀ j, j < n → a j = a' j ∧ b j = b' j) → dot D a b n = dot D a' b' n
  | 0, _ => rfl
  | n + 1, h => by
    show D.ad (dot D a b n) (D.mul (a n) (b n)) = D.ad (dot D a' b' n) (D.mul (a' n) (b' n))
    rw [dot_congr n (fun j hj => h j (by omega)), (h n (by omega)).1, (h n (by omega)).2]
end Go.Proofs.Ytogobpamlalbiaa

/- Plain mathematics: what makes rows 0 is what the null rows span; the dual of the dual. No Go text here. -/
namespace Go.Proofs.Ytogobpamlalbiaa

end Go.Proofs.Ytogobpamlalbiaa

/- Plain mathematics: how many sets there are; Krawtchouk's numbers. No Go text here. -/
namespace Go.Proofs.Ytogobpamlalbiaa

/-- Of a product of two, the first j terms. -/
def cv (A B : Nat → Int) (k : Nat) : Nat → Int
  | 0 => 0
  | j + 1 => cv A B k j + A j * B (k - j)
end Go.Proofs.Ytogobpamlalbiaa

/- Weights: powers and numbers of sets (the program's power, over). -/
namespace Go.Proofs.Ytogobpamlalbiaa
open Go.RowKit

theorem wrap_ka {a : Int} (h1 : -9223372036854775808 ≤ a) (h2 : a ≤ 9223372036854775807) : IntKind.i64.wrap a = a := by
  rw [IntKind.wrap_i64]
  first | omega | (unfold wrap64; omega)
end Go.Proofs.Ytogobpamlalbiaa

/- Weights: Krawtchouk's numbers (the program's krawtchouk). -/
namespace Go.Proofs.Ytogobpamlalbiaa
open Go.RowKit

end Go.Proofs.Ytogobpamlalbiaa

/- Weights: Krawtchouk's numbers (the reference's Kraw). -/
namespace Go.Proofs.Ytogobpamlalbiaa
open Go.RowKit

/-- Whole numbers, below 0 too, in a row of the call's own. -/
def RowZ (g N : Nat) (z : Nat → Int) (w : World) : Prop := ∃ cap f, RowF g cap 3 f w ∧ N ≤ cap ∧ ∀ k, k < N → f k = .int .i64 (z k)
theorem RowZ.of {g N : Nat} {c : Nat → Nat} {w : World} (h : Row g N c w) : RowZ g N (fun k => ((c k : Nat) : Int)) w := by
  obtain ⟨cap, f, h1, h2, h3⟩ := h
  exact ⟨cap, f, h1, h2, h3⟩
theorem RowZ.cell {g N : Nat} {z : Nat → Int} {w : World} (h : RowZ g N z w) (k : Nat) (hk : k < N) : w.cell? ⟨g, k, none⟩ = some (.int .i64 (z k)) := by
  obtain ⟨cap, f, h1, h2, h3⟩ := h
  rw [h1.cell k (by omega), h3 k hk]
theorem RowZ.free {g N : Nat} {z : Nat → Int} {w : World} (h : RowZ g N z w) (k : Nat) : w.frozen? ⟨g, k, none⟩ = false := by
  obtain ⟨cap, f, h1, h2, h3⟩ := h
  exact h1.free k
theorem RowZ.store {g N : Nat} {z y : Nat → Int} {w : World} (h : RowZ g N z w) (k : Nat) (v : Int) (hd : ∀ j, j < N → y j = if j = k then v else z j) : RowZ g N y (w.setCell ⟨g, k, none⟩ (.int .i64 v)) := by
  obtain ⟨cap, f, h1, h2, h3⟩ := h
  refine ⟨cap, _, h1.store k _, h2, fun j hj => ?_⟩
  unfold upd
  rw [hd j hj]
  by_cases e : j = k
  · rw [if_pos e, if_pos e]
  · rw [if_neg e, if_neg e, h3 j hj]
theorem RowZ.congr {g N : Nat} {z y : Nat → Int} {w : World} (h : RowZ g N z w) (e : ∀ k, k < N → z k = y k) : RowZ g N y w := by
  obtain ⟨cap, f, h1, h2, h3⟩ := h
  exact ⟨cap, f, h1, h2, fun k hk => by rw [h3 k hk, e k hk]⟩
theorem RowZ.below {g N B : Nat} {z : Nat → Int} {w w' : World} (h : RowZ g N z w) (hb : Below B w w') (hB : g < B) : RowZ g N z w' := by
  obtain ⟨cap, f, h1, h2, h3⟩ := h
  exact ⟨cap, f, h1.below hb hB, h2, h3⟩
end Go.Proofs.Ytogobpamlalbiaa

/- Weights: what is said of a size and a length, on both sides (Check, CountMay). -/
namespace Go.Proofs.Ytogobpamlalbiaa
open Go.RowKit

end Go.Proofs.Ytogobpamlalbiaa

/- Weights: sums and looks by closures (the program's times, found, outside; Shows' closures). -/
namespace Go.Proofs.Ytogobpamlalbiaa
open Go.RowKit Go.Sort

end Go.Proofs.Ytogobpamlalbiaa

/- Weights: what Shows asks of its closures (outside, found, Shows$1, Shows$1$1, Shows$2, checkDistance). -/
namespace Go.Proofs.Ytogobpamlalbiaa
open Go.RowKit Go.Sort

/-- The boxes of Shows that its closures read. -/
structure ShB (Bf Bq Bn q n : Nat) (ao : Option Addr) (cap : Nat) (f : Nat → Int) (w : World) : Prop where
  cf : w.cell? ⟨Bf, 0, none⟩ = some (.slice ao (n + 1) cap)
  cq : w.cell? ⟨Bq, 0, none⟩ = some (.int .i64 (q : Nat))
  cn : w.cell? ⟨Bn, 0, none⟩ = some (.int .i64 (n : Nat))
  sl : SlZ ao (n + 1) f w
  lf : Bf < w.heap.size
  lq : Bq < w.heap.size
  ln : Bn < w.heap.size
  la : LtB ao w.heap.size
theorem ShB.below {Bf Bq Bn q n : Nat} {ao : Option Addr} {cap : Nat} {f : Nat → Int} {w w' : World} (h : ShB Bf Bq Bn q n ao cap f w) (hb : Below w.heap.size w w') : ShB Bf Bq Bn q n ao cap f w' :=
  ⟨((bcell hb).1 Bf 0 h.lf).trans h.cf, ((bcell hb).1 Bq 0 h.lq).trans h.cq, ((bcell hb).1 Bn 0 h.ln).trans h.cn, h.sl.below hb h.la, Nat.lt_of_lt_of_le h.lf hb.size, Nat.lt_of_lt_of_le h.lq hb.size, Nat.lt_of_lt_of_le h.ln hb.size, h.la.mono hb.size⟩

end Go.Proofs.Ytogobpamlalbiaa

/- Weights: Shows of the program. -/
namespace Go.Proofs.Ytogobpamlalbiaa
open Go.RowKit Go.Sort

theorem results_four {fn : Func} {t u v x : Tmp} (h : fn.results = #[.tmp t, .tmp u, .tmp v, .tmp x]) (tmps : Array Value) (P : Program) (w : World) :
    (results fn tmps).run P w = .ok (.tuple #[tmps.getD t undef, tmps.getD u undef, tmps.getD v undef, tmps.getD x undef]) w := by
  simp [results, h]

end Go.Proofs.Ytogobpamlalbiaa

/- Plain mathematics: sets that are great and meet little are few (Johnson). No Go text here. -/
namespace Go.Proofs.Ytogobpamlalbiaa

theorem ct_mono {p p' : Nat → Bool} : ∀ n, (∀ i, i < n → p i = true → p' i = true) → ct p n ≤ ct p' n
  | 0, _ => Nat.le_refl _
  | n + 1, h => by
    have h1 := ct_mono n (fun i hi => h i (by omega))
    have h2 := h n (by omega)
    show ct p n + (if p n = true then 1 else 0) ≤ ct p' n + if p' n = true then 1 else 0
    by_cases e : p n = true
    · rw [if_pos e, if_pos (h2 e)]; omega
    · rw [if_neg e]; omega
end Go.Proofs.Ytogobpamlalbiaa

/- Plain mathematics of Sudan's sum: a message that agrees at many places makes it nought. No Go text here. -/
namespace Go.Proofs.Ytogobpamlalbiaa
open Go.RowKit Go.Sort

theorem pw_xp {D : FD} (hD : D ∈ fieldsL) {a : Nat} (h0 : a ≠ 0) : ∀ k, D.pw a k = D.xp a k
  | 0 => pw_zero hD a
  | k + 1 => by
    show _ = D.mul (D.xp a k) a
    rw [← pw_xp hD h0 k, pw_succ hD a k h0]
theorem pn_xp {D : FD} (hD : D ∈ fieldsL) {a : Nat} (ha : a < D.q) (k : Nat) : D.pn a k = D.xp a k := by
  have hh : D.has (a : Nat) = true := decide_eq_true ⟨by omega, by omega⟩
  unfold FD.pn FD.powZ
  rw [if_neg (by rw [hh]; decide)]
  cases k with
  | zero => rfl
  | succ k =>
    rw [if_neg (by omega)]
    by_cases h0 : a = 0
    · subst h0
      rw [if_pos (by rfl), if_neg (by omega)]
      show 0 = D.mul (D.xp 0 k) 0
      rw [mul0 (fld hD)]
    · rw [if_neg (by omega), ← pw_xp hD h0]
      rw [Int.toNat_natCast]
      have e : (((k + 1 : Nat) : Int) % ((D.q - 1 : Nat) : Int)).toNat = (k + 1) % (D.q - 1) := by
        have e0 : ((k + 1 : Nat) : Int) % ((D.q - 1 : Nat) : Int) = (((k + 1) % (D.q - 1) : Nat) : Int) := rfl
        rw [e0, Int.toNat_natCast]
      rw [e, Int.toNat_natCast]
      unfold FD.pw
      rw [Nat.mul_mod_mod]

theorem ev_congr {D : FD} {c d : Nat → Nat} (x : Nat) : ∀ n, (∀ i, i < n → c i = d i) → D.ev c x n = D.ev d x n
  | 0, _ => rfl
  | n + 1, h => by
    show D.ad (D.ev c x n) (D.mul (c n) (D.xp x n)) = D.ad (D.ev d x n) (D.mul (d n) (D.xp x n))
    rw [ev_congr x n (fun i hi => h i (by omega)), h n (by omega)]
/-- Horner's way. -/
def hrn (D : FD) (A : Nat → Nat) (y m : Nat) : Nat → Nat
  | 0 => 0
  | r + 1 => D.ad (D.mul (hrn D A y m r) y) (A (m - 1 - r))
end Go.Proofs.Ytogobpamlalbiaa

/- Plain mathematics of Sudan's sum, second part: the curve of a message that agrees at t places is nought. No Go text here. -/
namespace Go.Proofs.Ytogobpamlalbiaa
open Go.RowKit Go.Sort

theorem ct_same {p p' : Nat → Bool} : ∀ n, (∀ i, i < n → p i = p' i) → ct p n = ct p' n
  | 0, _ => rfl
  | n + 1, h => by
    show ct p n + (if p n = true then 1 else 0) = ct p' n + if p' n = true then 1 else 0
    rw [ct_same n (fun i hi => h i (by omega)), h n (by omega)]
theorem trd_le {n m : Nat} {c : Nat → Nat} (h : Trd m c) (hb : Bd n c) : m ≤ n := by
  refine Nat.le_of_not_lt fun hl => ?_
  exact h.2 (by omega) (hb (m - 1) (by omega))
end Go.Proofs.Ytogobpamlalbiaa
