/- Texts of ours, one behind the other: Q5 Q6 I1 I3 I4 S12 S13 S20 KA1 KA2 KA3 KA4 KA5 KA6 KA7. -/
import Derived.Test.YtogobpamlalbiaaGreatZZ4
import Derived.Test.YtogobpamlalbiaaGreatZT9
import Derived.Test.YtogobpamlalbiaaGreatZX19
import Derived.Test.YtogobpamlalbiaaGreatZL10
import Derived.Test.YtogobpamlalbiaaGreatZX12
import Derived.Test.YtogobpamlalbiaaGreatZA1
import Derived.Test.YtogobpamlalbiaaGreatZR2
import Derived.Test.YtogobpamlalbiaaGreatZM3
import Derived.Test.YtogobpamlalbiaaGreatZN4
import Derived.Deep.CutBlock
import Derived.Deep.DeepCutAuto
import Derived.Test.YtogobpamlalbiaaGreatZR9
/- The program's byPowers: numbers laid by their powers of y. -/
namespace Go.Proofs.YtogobpamlalbiaaGreat
open Go.RowKit Go.Sort

/-- What stays where one list grows: cells elsewhere. -/
theorem GrS.else {base n : Nat} {ro : Option Addr} {rc : Nat} {vs : Nat → Value} {Z : Nat → List Int} {w w1 : World} (h : GrS base n ro rc vs Z w) {j b : Nat} (hj : j < n) (hgr : w.grownBy w1 (vs j).ownBlock) (hb : b < w.heap.size) (hne : b < base ∨ ∀ g, (vs j).ownBlock = some g → g ≠ b) : w1.heap[b]? = w.heap[b]? := by
  refine hgr.block b hb ?_
  intro e
  rcases hne with hne | hne
  · have := ((h.row j hj).lt b e.symm).1
    omega
  · exact hne b e.symm rfl
theorem cell_same {w w1 : World} {b o : Nat} (h : w1.heap[b]? = w.heap[b]?) : w1.cell? ⟨b, o, none⟩ = w.cell? ⟨b, o, none⟩ := by
  simp [World.cell?, h]
theorem frozen_same {w w1 : World} {b o : Nat} (h : w1.heap[b]? = w.heap[b]?) : w1.frozen? ⟨b, o, none⟩ = w.frozen? ⟨b, o, none⟩ := by
  simp [World.frozen?, h]

theorem OwnI.form {base : Nat} {v : Value} {l : List Int} {w : World} (h : OwnI base v l w) : ∃ ao cap, v = .slice ao l.length cap := by
  rcases h.2 with ⟨h1, h2⟩ | ⟨g, cap, cur, hv, _⟩
  · exact ⟨none, 0, by rw [h1, h2]⟩
  · exact ⟨_, cap, hv⟩
/-- The number of product a is laid. -/
theorem GrS.next {base m : Nat} {ro : Option Addr} {rc : Nat} {vs : Nat → Value} {p s : Nat → Nat} {r j g : Nat} {w w1 : World} {u : Value} (h : GrS base m ro rc vs (gz p s r) w) (hj : j < m) (hjp : j = p r) (hg : ro = some ⟨g, 0, none⟩) (hu : OwnI base u (gz p s r j ++ [((s r : Nat) : Int)]) w1) {ob : Option Nat} (hob : (vs j).ownBlock = ob) (hgr : w.grownBy w1 ob) (hat : u.ownBlock = ob ∨ u.ownBlock = some w.heap.size) :
    GrS base m ro rc (fun i => if i = j then u else vs i) (gz p s (r + 1)) (w1.setCell ⟨g, j, none⟩ u) := by
  subst hob
  refine (h.store hj hg hu hgr hat).congr (fun i _ => ?_)
  show _ = (if i = p r then gz p s r i ++ [((s r : Nat) : Int)] else gz p s r i)
  rw [← hjp]
/-- What the next number's walk reads, wherever it stands. -/
def bpF (pb g j bs os r : Nat) (jo : Option Addr) (jl jc i x : Nat) (wx : World) : Prop := wx.cell? ⟨pb, 0, none⟩ = some (.int .i64 (i : Nat)) ∧ wx.cell? ⟨pb, 1, none⟩ = some (.int .i64 (j : Nat)) ∧ wx.cell? ⟨g, j, none⟩ = some (.slice jo jl jc) ∧ wx.frozen? ⟨g, j, none⟩ = false ∧ wx.cell? ⟨bs, os + r, none⟩ = some (.int .i64 (x : Nat))

theorem bpF.below {pb g j bs os r : Nat} {jo : Option Addr} {jl jc i x : Nat} {w w' : World} (h : bpF pb g j bs os r jo jl jc i x w) (hb : Below w.heap.size w w') : bpF pb g j bs os r jo jl jc i x w' := by
  obtain ⟨h1, h2, h3, h4, h5⟩ := h
  exact ⟨(cell_same (hb.block _ (cell_lt h1))).trans h1, (cell_same (hb.block _ (cell_lt h2))).trans h2, (cell_same (hb.block _ (cell_lt h3))).trans h3, (frozen_same (hb.block _ (cell_lt h3))).trans h4, (cell_same (hb.block _ (cell_lt h5))).trans h5⟩
theorem bpF.keep {pb g j bs os r : Nat} {jo : Option Addr} {jl jc i x : Nat} {base m : Nat} {ro : Option Addr} {rc : Nat} {vs : Nat → Value} {Z : Nat → List Int} {w w9 : World} (hF : bpF pb g j bs os r jo jl jc i x w) (h : GrS base m ro rc vs Z w) (hj : j < m) (hg : ro = some ⟨g, 0, none⟩) (hpb : ∀ k, (vs j).ownBlock = some k → k ≠ pb) (hbs : bs < base) {ob : Option Nat} (hob : (vs j).ownBlock = ob) (hgr : w.grownBy w9 ob) : bpF pb g j bs os r jo jl jc i x w9 := by
  subst hob
  obtain ⟨h1, h2, h3, h4, h5⟩ := hF
  have e1 := h.else hj hgr (cell_lt h1) (Or.inr hpb)
  have e2 := h.else hj hgr (cell_lt h3) (Or.inr (fun k hk e => by
    rcases (h.row j hj).apart h.own with ha | ha
    · rw [ha] at hk; cases hk
    · exact ha (by rw [hk, hg, e]; rfl)))
  have e3 := h.else hj hgr (cell_lt h5) (Or.inl hbs)
  exact ⟨(cell_same e1).trans h1, (cell_same e1).trans h2, (cell_same e2).trans h3, (frozen_same e2).trans h4, (cell_same e3).trans h5⟩
theorem bpF.three {pb g j bs os r : Nat} {jo : Option Addr} {jl jc i x : Nat} {w : World} (h : bpF pb g j bs os r jo jl jc i x w) : w.cell? ⟨pb, 0, none⟩ = some (.int .i64 (i : Nat)) ∧ w.cell? ⟨pb, 1, none⟩ = some (.int .i64 (j : Nat)) ∧ w.cell? ⟨bs, os + r, none⟩ = some (.int .i64 (x : Nat)) := ⟨h.1, h.2.1, h.2.2.2.2⟩
theorem bpF.set {pb g j bs os r : Nat} {jo : Option Addr} {jl jc i x : Nat} {w : World} (h : bpF pb g j bs os r jo jl jc i x w) (h1 : g ≠ pb) (h2 : g ≠ bs) (v : Value) : (w.setCell ⟨g, j, none⟩ v).cell? ⟨pb, 0, none⟩ = some (.int .i64 (i : Nat)) ∧ (w.setCell ⟨g, j, none⟩ v).cell? ⟨pb, 1, none⟩ = some (.int .i64 (j : Nat)) ∧ (w.setCell ⟨g, j, none⟩ v).cell? ⟨bs, os + r, none⟩ = some (.int .i64 (x : Nat)) := by
  have e1 := Below.heap_setCell w ⟨g, j, none⟩ v pb (fun e => h1 e.symm)
  have e2 := Below.heap_setCell w ⟨g, j, none⟩ v bs (fun e => h2 e.symm)
  exact ⟨(cell_same e1).trans h.1, (cell_same e1).trans h.2.1, (cell_same e2).trans h.2.2.2.2⟩
theorem bpF.ne {pb g j bs os r : Nat} {jo : Option Addr} {jl jc i x : Nat} {base m : Nat} {ro : Option Addr} {rc : Nat} {vs : Nat → Value} {Z : Nat → List Int} {w : World} (hF : bpF pb g j bs os r jo jl jc i x w) (h : GrS base m ro rc vs Z w) (hj : j < m) (hg : ro = some ⟨g, 0, none⟩) (hbs : bs < base) : g ≠ pb ∧ g ≠ bs := by
  obtain ⟨g', e, hc, _, hb, _⟩ := h.cell 0 (by omega)
  rw [hg] at e
  cases e
  refine ⟨fun e => ?_, by omega⟩
  obtain ⟨ao, cap, ev⟩ := (h.row 0 (by omega)).form
  have := hF.1
  rw [← e, hc, ev] at this
  cases this
end Go.Proofs.YtogobpamlalbiaaGreat

/- The program's Sudan. -/
namespace Go.Proofs.YtogobpamlalbiaaGreat
open Go.RowKit Go.Sort

/-- The reduced form of these rows; the reduced form of what they make 0. -/
structure SOk (D : FD) (m P : Nat) (V : Nat → Nat → Nat) (k : Nat) (R : Nat → Nat → Nat) (p : Nat → Nat) (k2 : Nat) (R2 : Nat → Nat → Nat) (p2 : Nat → Nat) : Prop where
  km : k ≤ m
  rre : RRE D P k R p
  spn : ∀ v, Spn D (RowsOf k R) v ↔ Spn D (RowsOf m V) v
  km2 : k2 ≤ nct k p P
  rre2 : RRE D P k2 R2 p2
  spn2 : ∀ v, Spn D (RowsOf k2 R2) v ↔ Spn D (RowsOf (nct k p P) (nul D R p k P)) v
theorem mchk_nat {D : FD} {m P : Nat} {V : Nat → Nat → Nat} (hm : m ≤ 64) (hP : 1 ≤ P) (hP2 : P ≤ 64) (hV : ∀ i, El D (V i)) : D.mchk m (fun _ => P) (fun i j => ((V i j : Nat) : Int)) = 0 := by
  refine mchk_of hm (fun i _ => ?_)
  unfold FD.mrow
  rw [if_neg (by omega), if_neg (by omega), if_pos]
  exact allHas_iff.2 (fun j _ => has_of_lt (hV i j))
theorem RL.first {lo : Option Addr} {k n lc : Nat} {R : Nat → Nat → Nat} {w : World} (h : RL (.slice lo k lc) k n R w) (hk : 0 < k) : ∃ b off x cx, lo = some ⟨b, off, none⟩ ∧ w.cell? ⟨b, off, none⟩ = some (.slice x n cx) ∧ Sl x n (R 0) w := by
  obtain ⟨ao, ca, e, h⟩ := h
  cases e
  obtain ⟨b, off, x, cx, e1, e2, e3⟩ := h 0 hk
  exact ⟨b, off, x, cx, e1, e2, e3⟩
end Go.Proofs.YtogobpamlalbiaaGreat

/- Codes: what is said of one (the program's code.Check, the reference's CodeMay). -/
namespace Go.Proofs.YtogobpamlalbiaaGreat
open Go.RowKit Go.Sort

/-- A code's cells, in block b. -/
structure CB (b : Nat) (q n : Int) (v : Value) (w : World) : Prop where
  c0 : w.cell? ⟨b, 0, none⟩ = some (.int .i64 q)
  c1 : w.cell? ⟨b, 1, none⟩ = some (.int .i64 n)
  c2 : w.cell? ⟨b, 2, none⟩ = some v
theorem CB.below {b B : Nat} {q n : Int} {v : Value} {w w' : World} (h : CB b q n v w) (hb : Below B w w') (hB : b < B) : CB b q n v w' := by
  have e : ∀ o, w'.cell? ⟨b, o, none⟩ = w.cell? ⟨b, o, none⟩ := fun o => by simp [World.cell?, hb.block b hB]
  exact ⟨(e 0).trans h.c0, (e 1).trans h.c1, (e 2).trans h.c2⟩
theorem CB.keep {b : Nat} {q n : Int} {v : Value} {w w' : World} (h : CB b q n v w) (hb : Below w.heap.size w w') : CB b q n v w' := h.below hb (cell_lt h.c0)
end Go.Proofs.YtogobpamlalbiaaGreat

/- Independent rows: the reduced form has as many; what makes nothing 0 but 0. Plain mathematics. -/
namespace Go.Proofs.YtogobpamlalbiaaGreat
open Go.RowKit

end Go.Proofs.YtogobpamlalbiaaGreat

/- Codes: one form, and the dual (the program's oneForm, unit, dual). -/
namespace Go.Proofs.YtogobpamlalbiaaGreat
open Go.RowKit Go.Sort

/-- The reduced form of m rows. -/
def Red (D : FD) (n m : Nat) (M : Nat → Nat → Nat) (k : Nat) (R : Nat → Nat → Nat) : Prop := ∃ p, RRE D n k R p ∧ ∀ v, Spn D (RowsOf k R) v ↔ Spn D (RowsOf m M) v
/-- The reduced form of what makes m rows 0. -/
def Dul (D : FD) (n m : Nat) (M : Nat → Nat → Nat) (k2 : Nat) (R2 : Nat → Nat → Nat) : Prop := ∃ k R p p2, RRE D n k R p ∧ (∀ v, Spn D (RowsOf k R) v ↔ Spn D (RowsOf m M) v) ∧ RRE D n k2 R2 p2 ∧ (∀ v, Spn D (RowsOf k2 R2) v ↔ Spn D (RowsOf (nct k p n) (nul D R p k n)) v) ∧ k2 = nct k p n
theorem Dul.le {D : FD} {n m k : Nat} {M R : Nat → Nat → Nat} (h : Dul D n m M k R) : k ≤ n := by
  obtain ⟨a, A, q, q2, _, _, _, _, e⟩ := h
  rw [e]; exact nct_le _ _ _
theorem Dul.rows {D : FD} {n m k : Nat} {M R : Nat → Nat → Nat} (h : Dul D n m M k R) : (∀ i, i < k → El D (R i)) ∧ ∀ i, i < k → Bd n (R i) := by
  obtain ⟨a, A, q, q2, _, _, h3, _, e⟩ := h
  exact ⟨h3.el, h3.bd⟩
theorem Red.rows {D : FD} {n m k : Nat} {M R : Nat → Nat → Nat} (h : Red D n m M k R) : (∀ i, i < k → El D (R i)) ∧ ∀ i, i < k → Bd n (R i) := by
  obtain ⟨p, h3, _⟩ := h
  exact ⟨h3.el, h3.bd⟩
theorem rre_le {p : Nat → Nat} {n : Nat} : ∀ k, (∀ i j, i < j → j < k → p i < p j) → (∀ i, i < k → p i < n) → k ≤ n := by
  intro k hm hl
  have key : ∀ i, i < k → i ≤ p i := fun i => by
    induction i with
    | zero => intro _; omega
    | succ i ih =>
      intro hi
      have := ih (by omega)
      have := hm i (i + 1) (by omega) hi
      omega
  rcases Nat.eq_zero_or_pos k with h | h
  · omega
  · have := key (k - 1) (by omega)
    have := hl (k - 1) (by omega)
    omega
theorem Red.le {D : FD} {n m k : Nat} {M R : Nat → Nat → Nat} (h : Red D n m M k R) : k ≤ n := by
  obtain ⟨p, h3, _⟩ := h
  exact rre_le k h3.mono h3.lt
theorem RLz.congr {v : Value} {k n : Nat} {R R' : Nat → Nat → Nat} {w : World} (h : RLz v k n R w) (e : ∀ i, i < k → R i = R' i) : RLz v k n R' w := by
  obtain ⟨ao, ca, A, C, e1, hm⟩ := h
  exact ⟨ao, ca, A, C, e1, ⟨hm.cell, fun i hi => by have := hm.sl i hi; simp only [e i hi] at this; exact this, hm.le, hm.cap, hm.nil, hm.few⟩⟩
theorem RLz.below {v : Value} {k n : Nat} {R : Nat → Nat → Nat} {w w' : World} (h : RLz v k n R w) (hb : Below w.heap.size w w') : RLz v k n R w' := by
  obtain ⟨ao, ca, A, C, e, hm⟩ := h
  exact ⟨ao, ca, A, C, e, hm.below hb⟩
/-- A code's rows as they are handed in: m rows of n elements. -/
structure CdZ (D : FD) (ao : Option Addr) (m n : Nat) (A : Nat → Option Addr) (N C : Nat → Nat) (Z : Nat → Nat → Int) (w : World) : Prop where
  mat : MatZ ao m A N C Z w
  chk : D.mchk m N Z = 0
  wd : 0 < m → N 0 = n
  n1 : 1 ≤ n
  n64 : n ≤ 64
theorem CdZ.below {D : FD} {ao : Option Addr} {m n : Nat} {A : Nat → Option Addr} {N C : Nat → Nat} {Z : Nat → Nat → Int} {w w' : World} (h : CdZ D ao m n A N C Z w) (hb : Below w.heap.size w w') : CdZ D ao m n A N C Z w' := ⟨h.mat.below hb, h.chk, h.wd, h.n1, h.n64⟩
theorem CdZ.rows {D : FD} (F : Fld D) {ao : Option Addr} {m n : Nat} {A : Nat → Option Addr} {N C : Nat → Nat} {Z : Nat → Nat → Int} {w : World} (h : CdZ D ao m n A N C Z w) : m ≤ 64 ∧ (∀ i, i < m → El D (mzc N Z i)) ∧ (∀ i, i < m → Bd n (mzc N Z i)) ∧ MatR ao m (n - 1) (mzc N Z) w := by
  have hn := h.n1
  rcases Nat.eq_zero_or_pos m with e | e
  · exact ⟨by omega, fun i hi => absurd hi (by omega), fun i hi => absurd hi (by omega), fun i hi => absurd hi (by omega)⟩
  · obtain ⟨h1, n', h2, h3, h4, h5⟩ := mchk_rows F h.chk h.mat e
    have hn' : n' + 1 = n := by have := h.wd e; omega
    have e2 : n - 1 = n' := by omega
    rw [e2, ← hn']
    exact ⟨h1, fun i hi => (h4 i hi).2.1, fun i hi => (h4 i hi).2.2, h5⟩
theorem CdZ.few {D : FD} (F : Fld D) {ao : Option Addr} {m n : Nat} {A : Nat → Option Addr} {N C : Nat → Nat} {Z : Nat → Nat → Int} {w : World} (h : CdZ D ao m n A N C Z w) : m ≤ 1000000 := by
  have := (h.rows F).1
  omega
/-- Where a call's answer is laid: three cells that may be written. -/
structure RB (b : Nat) (w : World) : Prop where
  c0 : ∃ v, w.cell? ⟨b, 0, none⟩ = some v
  c1 : ∃ v, w.cell? ⟨b, 1, none⟩ = some v
  c2 : ∃ v, w.cell? ⟨b, 2, none⟩ = some v
  f0 : w.frozen? ⟨b, 0, none⟩ = false
  f1 : w.frozen? ⟨b, 1, none⟩ = false
  f2 : w.frozen? ⟨b, 2, none⟩ = false
theorem RB.keep {b : Nat} {w w' : World} (h : RB b w) (hb : Below w.heap.size w w') : RB b w' := by
  obtain ⟨v0, h0⟩ := h.c0
  obtain ⟨v1, h1⟩ := h.c1
  obtain ⟨v2, h2⟩ := h.c2
  have hh := hb.block b (cell_lt h0)
  have e : ∀ o, w'.cell? ⟨b, o, none⟩ = w.cell? ⟨b, o, none⟩ := fun o => by simp [World.cell?, hh]
  have f : ∀ o, w'.frozen? ⟨b, o, none⟩ = w.frozen? ⟨b, o, none⟩ := fun o => by simp [World.frozen?, hh]
  exact ⟨⟨v0, (e 0).trans h0⟩, ⟨v1, (e 1).trans h1⟩, ⟨v2, (e 2).trans h2⟩, (f 0).trans h.f0, (f 1).trans h.f1, (f 2).trans h.f2⟩
theorem RLz.none (ao : Option Addr) (ca n : Nat) (R : Nat → Nat → Nat) (w : World) : RLz (.slice ao 0 ca) 0 n R w :=
  ⟨ao, ca, fun _ => Option.none, fun _ => 0, rfl, ⟨fun i hi => absurd hi (by omega), fun i hi => absurd hi (by omega), fun i hi => absurd hi (by omega), fun i hi => absurd hi (by omega), fun i hi => absurd hi (by omega), fun i hi => absurd hi (by omega)⟩⟩

/-- The answer is laid. -/
def laid (w : World) (b : Nat) (q n : Int) (v : Value) : World := ((w.setCell ⟨b, 0, none⟩ (.int .i64 q)).setCell ⟨b, 1, none⟩ (.int .i64 n)).setCell ⟨b, 2, none⟩ v
theorem MV.mono {B B' : Nat} {v : Value} {k n : Nat} {R : Nat → Nat → Nat} {w : World} (h : MV B v k n R w) (hB : B' ≤ B) : MV B' v k n R w := by
  rcases h with h | ⟨G, mc, m, hh, ev, hm⟩
  · exact Or.inl h
  · exact Or.inr ⟨G, mc, m, hh, ev, hm.mono hB⟩
theorem Mx.less {B G m k j n : Nat} {R : Nat → Nat → Nat} {h : Nat → Nat} {w : World} (H : Mx B G m k n R h w) (hj : j ≤ k) : Mx B G m j n R h w := by
  obtain ⟨f, hf, hf'⟩ := H.outer
  exact ⟨⟨f, hf, fun i hi => hf' i (by omega)⟩, fun i hi => H.row i (by omega), H.geG, fun i hi => H.ge i (by omega), fun i hi j hj => H.inj i (by omega) j (by omega), fun i hi => H.ne i (by omega), by have := H.le; omega⟩

end Go.Proofs.YtogobpamlalbiaaGreat

/- Plain mathematics: products of rows; what makes rows 0. No Go text here. -/
namespace Go.Proofs.YtogobpamlalbiaaGreat

/-- The sum of the products of the first numbers of two lists. -/
def dot (D : FD) (a b : Nat → Nat) : Nat → Nat
  | 0 => 0
  | j + 1 => D.ad (dot D a b j) (D.mul (a j) (b j))
theorem dot_lt {D : FD} (F : Fld D) (a b : Nat → Nat) : ∀ j, dot D a b j < D.q
  | 0 => zero_lt' F
  | j + 1 => ad_lt F (dot_lt F a b j) (F.mul_lt _ _)
theorem dot_comm {D : FD} (F : Fld D) (a b : Nat → Nat) : ∀ n, dot D a b n = dot D b a n
  | 0 => rfl
  | n + 1 => by
    show D.ad (dot D a b n) (D.mul (a n) (b n)) = D.ad (dot D b a n) (D.mul (b n) (a n))
    rw [dot_comm F a b n, F.mul_comm (a n)]
theorem dot_nil {D : FD} (F : Fld D) (v : Nat → Nat) : ∀ n, dot D pnil v n = 0
  | 0 => rfl
  | n + 1 => by
    show D.ad (dot D pnil v n) (D.mul 0 (v n)) = 0
    rw [dot_nil F v n, zmul F, ad_zero F (zero_lt' F)]
theorem dot_add {D : FD} (F : Fld D) {a b : Nat → Nat} (ha : El D a) (hb : El D b) (v : Nat → Nat) : ∀ n, dot D (padd D a b) v n = D.ad (dot D a v n) (dot D b v n)
  | 0 => (ad_zero F (zero_lt' F)).symm
  | n + 1 => by
    show D.ad (dot D (padd D a b) v n) (D.mul (D.ad (a n) (b n)) (v n)) = D.ad (D.ad (dot D a v n) (D.mul (a n) (v n))) (D.ad (dot D b v n) (D.mul (b n) (v n)))
    rw [dot_add F ha hb v n, ad_mul F (ha n) (hb n), ad4 F (dot_lt F _ _ _) (dot_lt F _ _ _) (F.mul_lt _ _) (F.mul_lt _ _)]
theorem dot_scale {D : FD} (F : Fld D) (s : Nat) (a v : Nat → Nat) : ∀ n, dot D (pscale D s a) v n = D.mul s (dot D a v n)
  | 0 => (mul0 F s).symm
  | n + 1 => by
    show D.ad (dot D (pscale D s a) v n) (D.mul (D.mul s (a n)) (v n)) = D.mul s (D.ad (dot D a v n) (D.mul (a n) (v n)))
    rw [dot_scale F s a v n, mul_ad F (dot_lt F _ _ _) (F.mul_lt _ _), F.mul_assoc]
/-- What makes rows 0 makes all 0 that they span. -/
theorem dot_spn {D : FD} (F : Fld D) {P : (Nat → Nat) → Prop} {u x : Nat → Nat} {n : Nat} (h : Spn D P u) (hP : ∀ v, P v → dot D v x n = 0) : dot D u x n = 0 := by
  obtain ⟨l, hl, rfl⟩ := h
  induction l with
  | nil => exact dot_nil F x n
  | cons y l ih =>
    show dot D (padd D (pscale D y.1 y.2) (lsum D l)) x n = 0
    rw [dot_add F (el_scale F _ _) (lsum_el F l), dot_scale F, hP _ (hl y (List.mem_cons_self ..)), mul0 F, ih (fun z hz => hl z (List.mem_cons_of_mem _ hz)), ad_zero F (zero_lt' F)]
theorem dot_congr {D : FD} {a a' b b' : Nat → Nat} : ∀ n, (∀ j, j < n → a j = a' j ∧ b j = b' j) → dot D a b n = dot D a' b' n
  | 0, _ => rfl
  | n + 1, h => by
    show D.ad (dot D a b n) (D.mul (a n) (b n)) = D.ad (dot D a' b' n) (D.mul (a' n) (b' n))
    rw [dot_congr n (fun j hj => h j (by omega)), (h n (by omega)).1, (h n (by omega)).2]
/-- A number put where 0 was. -/
theorem dot_put {D : FD} (F : Fld D) {a b : Nat → Nat} {j v : Nat} (hb : b j = 0) : ∀ n, j < n → dot D a (fun t => if t = j then v else b t) n = D.ad (dot D a b n) (D.mul (a j) v)
  | 0, h => absurd h (by omega)
  | n + 1, h => by
    show D.ad (dot D a (fun t => if t = j then v else b t) n) (D.mul (a n) (if n = j then v else b n)) = D.ad (D.ad (dot D a b n) (D.mul (a n) (b n))) (D.mul (a j) v)
    by_cases e : n = j
    · subst e
      rw [if_pos rfl, hb, mul0 F, ad_zero F (dot_lt F _ _ _), dot_congr (a' := a) (b' := b) n (fun t ht => ⟨rfl, if_neg (by omega)⟩)]
    · rw [if_neg e, dot_put F hb n (by omega), ad_assoc F (dot_lt F _ _ _) (F.mul_lt _ _) (F.mul_lt _ _), ad_comm F (D.mul (a j) v), ← ad_assoc F (dot_lt F _ _ _) (F.mul_lt _ _) (F.mul_lt _ _)]
theorem dot_unit {D : FD} (F : Fld D) {a : Nat → Nat} {c n : Nat} (ha : a c < D.q) (hc : c < n) : dot D a (fun t => if t = c then 1 else 0) n = a c := by
  have h := dot_put F (a := a) (b := pnil) (j := c) (v := 1) rfl n hc
  rw [mul1 F ha, dot_comm F a pnil, dot_nil F, zero_ad F ha] at h
  exact h
end Go.Proofs.YtogobpamlalbiaaGreat

/- Plain mathematics: what makes rows 0 is what the null rows span; the dual of the dual. No Go text here. -/
namespace Go.Proofs.YtogobpamlalbiaaGreat

theorem lcR_spn {D : FD} (F : Fld D) {K : Nat} {R : Nat → Nat → Nat} (p v : Nat → Nat) (hR : ∀ i, i < K → El D (R i)) : ∀ k, k ≤ K → Spn D (RowsOf K R) (lcR D R p v k)
  | 0, _ => spn_nil D _
  | k + 1, h => spn_add F (lcR_spn F p v hR k (by omega)) (spn_scale F _ (spn_mem F (hR k (by omega)) ⟨k, by omega, rfl⟩))
/-- At its own place a sum of rows is what was asked for. -/
theorem lcR_own {D : FD} (F : Fld D) {K : Nat} {R : Nat → Nat → Nat} {p v : Nat → Nat} (hv : El D v) (ho : ∀ i j, i < K → j < K → R i (p j) = if i = j then 1 else 0) {j : Nat} (hj : j < K) : ∀ k, k ≤ K → lcR D R p v k (p j) = if j < k then v (p j) else 0
  | 0, _ => by rw [if_neg (by omega)]; rfl
  | k + 1, h => by
    show D.ad (lcR D R p v k (p j)) (D.mul (v (p k)) (R k (p j))) = _
    rw [lcR_own F hv ho hj k (by omega), ho k j (by omega) hj]
    by_cases e : k = j
    · subst e
      rw [if_neg (by omega), if_pos rfl, if_pos (by omega), mul1 F (hv _), zero_ad F (hv _)]
    · rw [if_neg e, mul0 F]
      by_cases e2 : j < k
      · rw [if_pos e2, if_pos (by omega), ad_zero F (hv _)]
      · rw [if_neg e2, if_neg (by omega), ad_zero F (zero_lt' F)]
theorem dot_only {D : FD} (F : Fld D) {a b : Nat → Nat} {t : Nat} : ∀ n, t < n → (∀ j, j < n → j ≠ t → D.mul (a j) (b j) = 0) → dot D a b n = D.mul (a t) (b t)
  | 0, h, _ => absurd h (by omega)
  | n + 1, h, hz => by
    show D.ad (dot D a b n) (D.mul (a n) (b n)) = _
    by_cases e : n = t
    · subst e
      have h0 : ∀ m, m ≤ n → dot D a b m = 0 := fun m => by
        induction m with
        | zero => intro _; rfl
        | succ m ih =>
          intro hm
          show D.ad (dot D a b m) (D.mul (a m) (b m)) = 0
          rw [ih (by omega), hz m (by omega) (by omega), ad_zero F (zero_lt' F)]
      rw [h0 n (Nat.le_refl _), zero_ad F (F.mul_lt _ _)]
    · rw [hz n (by omega) e, ad_zero F (dot_lt F _ _ _)]
      exact dot_only F n (by omega) (fun j hj => hz j (by omega))
theorem fcs_all {k : Nat} {p : Nat → Nat} {c : Nat} (hc : ∀ i, i < k → p i ≠ c) : ∀ n, c < n → ∃ i, i < nct k p n ∧ fcs k p n i = c
  | 0, h => absurd h (by omega)
  | n + 1, h => by
    by_cases e : c = n
    · subst e
      exact ⟨nct k p c, by rw [nct_yes hc]; omega, fcs_at k p c⟩
    · obtain ⟨i, hi, hf⟩ := fcs_all hc n (by omega)
      refine ⟨i, ?_, by rw [fcs_lo hi]; exact hf⟩
      by_cases h2 : ∀ i, i < k → p i ≠ n
      · rw [nct_yes h2]; omega
      · rw [nct_no h2]; exact hi

theorem dot_nrv {D : FD} (F : Fld D) {n k : Nat} {R : Nat → Nat → Nat} {p : Nat → Nat} (h : RRE D n k R p) {i c : Nat} (hi : i < k) (hc : c < n) (hf : ∀ j, j < k → p j ≠ c) : ∀ r, r ≤ k → dot D (R i) (nrv D R p c r) n = if i < r then 0 else R i c
  | 0, _ => by rw [if_neg (by omega)]; exact dot_unit F (h.el i hi c) hc
  | r + 1, hr => by
    have e : nrv D R p c (r + 1) = fun t => if t = p r then D.ng (R r c) else nrv D R p c r t := rfl
    have h0 : nrv D R p c r (p r) = 0 := by
      rw [nrv_free r (fun j hj e => by have := h.mono j r hj (by omega); omega), if_neg (hf r (by omega))]
    rw [e, dot_put F h0 n (h.lt r (by omega)), dot_nrv F h hi hc hf r (by omega)]
    by_cases e2 : i = r
    · subst e2
      rw [if_neg (by omega), if_pos (by omega), h.one i hi, omul F (ng_lt F (h.el i hi c)), ad_ng F (h.el i hi c)]
    · rw [h.zero i r hi (by omega) e2, zmul F]
      by_cases e3 : i < r
      · rw [if_pos e3, if_pos (by omega), ad_zero F (zero_lt' F)]
      · rw [if_neg e3, if_neg (by omega), ad_zero F (h.el i hi c)]
theorem nul_orth {D : FD} (F : Fld D) {n k : Nat} {R : Nat → Nat → Nat} {p : Nat → Nat} (h : RRE D n k R p) {i j : Nat} (hi : i < k) (hj : j < nct k p n) : dot D (R i) (nul D R p k n j) n = 0 := by
  have h1 := fcs_ok n j hj
  have h2 := dot_nrv F h hi h1.1 h1.2 k (Nat.le_refl _)
  rw [if_pos hi] at h2
  exact h2
theorem orth_nul {D : FD} (F : Fld D) {n k : Nat} {R : Nat → Nat → Nat} {p : Nat → Nat} (h : RRE D n k R p) {v : Nat → Nat} (hv : El D v) (hb : Bd n v) (ho : ∀ i, i < k → dot D (R i) v n = 0) : Spn D (RowsOf (nct k p n) (nul D R p k n)) v := by
  have hs := lcR_spn F (K := nct k p n) (R := nul D R p k n) (fcs k p n) v (fun i _ => nul_el F h.el n i) (nct k p n) (Nat.le_refl _)
  obtain ⟨s, hse⟩ : ∃ s, s = lcR D (nul D R p k n) (fcs k p n) v (nct k p n) := ⟨_, rfl⟩
  rw [← hse] at hs
  have hsel : El D s := hs.el F
  have hu : ∀ c, D.sb (v c) (s c) = 0 := by
    have horth : ∀ i, i < k → dot D (R i) (psub D v s) n = 0 := fun i hi => by
      have e : dot D v (R i) n = 0 := by rw [dot_comm F]; exact ho i hi
      have e2 : dot D s (R i) n = 0 := dot_spn F hs (fun x ⟨j, hj, hx⟩ => by rw [hx, dot_comm F]; exact nul_orth F h hi hj)
      have e3 : psub D v s = padd D v (pscale D (D.ng 1) s) := by
        funext c
        show D.sb (v c) (s c) = D.ad (v c) (D.mul (D.ng 1) (s c))
        rw [F.mul_comm, mul_ng F (one_lt' F), mul1 F (hsel c)]; rfl
      rw [dot_comm F, e3, dot_add F hv (el_scale F _ _), dot_scale F, e, e2, mul0 F, ad_zero F (zero_lt' F)]
    have hfree : ∀ c, c < n → (∀ j, j < k → p j ≠ c) → D.sb (v c) (s c) = 0 := fun c hc hf => by
      obtain ⟨j, hj, ej⟩ := fcs_all hf n hc
      have h1 := lcR_own F (K := nct k p n) (R := nul D R p k n) (p := fcs k p n) hv (fun a b ha hb => nul_one ha hb) hj (nct k p n) (Nat.le_refl _)
      rw [if_pos hj, ej, ← hse] at h1
      rw [h1, sb_self F (hv c)]
    intro c
    by_cases hc : c < n
    · by_cases hf : ∀ j, j < k → p j ≠ c
      · exact hfree c hc hf
      · obtain ⟨i, hi, e⟩ : ∃ i, i < k ∧ p i = c := Classical.byContradiction (fun hn => hf (fun j hj e => hn ⟨j, hj, e⟩))
        subst e
        have h1 := dot_only F (a := R i) (b := psub D v s) n (h.lt i hi) (fun j hj hne => by
          by_cases hf2 : ∀ l, l < k → p l ≠ j
          · show D.mul (R i j) (D.sb (v j) (s j)) = 0
            rw [hfree j hj hf2, mul0 F]
          · obtain ⟨l, hl, e⟩ : ∃ l, l < k ∧ p l = j := Classical.byContradiction (fun hn => hf2 (fun j hj e => hn ⟨j, hj, e⟩))
            subst e
            rw [h.zero i l hi hl (fun e => hne (by rw [e])), zmul F])
        rw [horth i hi, h.one i hi] at h1
        have h2 : D.mul 1 (D.sb (v (p i)) (s (p i))) = 0 := h1.symm
        rw [omul F (sb_lt F (hv _) (hsel _))] at h2
        exact h2
    · have h1 : s c = 0 := by
        have hsb : ∀ k', k' ≤ nct k p n → lcR D (nul D R p k n) (fcs k p n) v k' c = 0 := fun k' hk' => lcR_at F _ _ _ c k' (fun i hi => by rw [nul_bd h.lt (by omega) c (by omega), mul0 F])
        rw [hse]; exact hsb _ (Nat.le_refl _)
      rw [h1, hb c (by omega), sb_self F (zero_lt' F)]
  have e : v = s := by
    funext c
    exact sb_eq_zero F (hv c) (hsel c) (hu c)
  rw [e]; exact hs
/-- What makes rows 0 is what their dual spans. -/
theorem Dul.iff {D : FD} (F : Fld D) {n m k2 : Nat} {M R2 : Nat → Nat → Nat} (h : Dul D n m M k2 R2) (hM : ∀ i, i < m → El D (M i)) (v : Nat → Nat) : Spn D (RowsOf k2 R2) v ↔ El D v ∧ Bd n v ∧ ∀ i, i < m → dot D (M i) v n = 0 := by
  obtain ⟨k, R, p, p2, h1, h2, h3, h4, _⟩ := h
  rw [h4 v]
  constructor
  · intro hs
    refine ⟨hs.el F, ?_, fun i hi => ?_⟩
    · exact spn_ind (Q := Bd n) (fun _ _ => rfl) (fun u w hu hw c hc => by show D.ad (u c) (w c) = 0; rw [hu c hc, hw c hc, ad_zero F (zero_lt' F)]) (fun s u hu c hc => by show D.mul s (u c) = 0; rw [hu c hc, mul0 F]) (fun u ⟨j, hj, e⟩ => by rw [e]; exact nul_bd h1.lt hj) hs
    · have hMi := (h2 _).2 (spn_mem F (hM i hi) ⟨i, hi, rfl⟩)
      refine dot_spn F hMi (fun u ⟨j, hj, e⟩ => ?_)
      rw [e, dot_comm F]
      exact dot_spn F hs (fun x ⟨l, hl, ex⟩ => by rw [ex, dot_comm F]; exact nul_orth F h1 hj hl)
  · rintro ⟨he, hb, ho⟩
    refine orth_nul F h1 he hb (fun i hi => ?_)
    have hRi := (h2 _).1 (spn_mem F (h1.el i hi) ⟨i, hi, rfl⟩)
    exact dot_spn F hRi (fun u ⟨j, hj, e⟩ => by rw [e]; exact ho j hj)
end Go.Proofs.YtogobpamlalbiaaGreat

/- Plain mathematics: how many sets there are; Krawtchouk's numbers. No Go text here. -/
namespace Go.Proofs.YtogobpamlalbiaaGreat

/-- How many sets of k there are of n. -/
def chs : Nat → Nat → Nat
  | _, 0 => 1
  | 0, _ + 1 => 0
  | n + 1, k + 1 => chs n k + chs n (k + 1)
/-- Of a product of two, the first j terms. -/
def cv (A B : Nat → Int) (k : Nat) : Nat → Int
  | 0 => 0
  | j + 1 => cv A B k j + A j * B (k - j)
/-- b^l times how many sets of l there are of m. -/
def bl (b : Int) (m l : Nat) : Int := b ^ l * (chs m l : Nat)
end Go.Proofs.YtogobpamlalbiaaGreat

/- Weights: powers and numbers of sets (the program's power, over). -/
namespace Go.Proofs.YtogobpamlalbiaaGreat
open Go.RowKit

theorem wrap_ka {a : Int} (h1 : -9223372036854775808 ≤ a) (h2 : a ≤ 9223372036854775807) : IntKind.i64.wrap a = a := by
  rw [IntKind.wrap_i64]
  first | omega | (unfold wrap64; omega)
end Go.Proofs.YtogobpamlalbiaaGreat

/- Weights: Krawtchouk's numbers (the program's krawtchouk). -/
namespace Go.Proofs.YtogobpamlalbiaaGreat
open Go.RowKit

end Go.Proofs.YtogobpamlalbiaaGreat

/- Weights: Krawtchouk's numbers (the reference's Kraw). -/
namespace Go.Proofs.YtogobpamlalbiaaGreat
open Go.RowKit

/-- Whole numbers, below 0 too, in a row of the call's own. -/
def RowZ (g N : Nat) (z : Nat → Int) (w : World) : Prop := ∃ cap f, RowF g cap 3 f w ∧ N ≤ cap ∧ ∀ k, k < N → f k = .int .i64 (z k)
theorem RowZ.of {g N : Nat} {c : Nat → Nat} {w : World} (h : Row g N c w) : RowZ g N (fun k => ((c k : Nat) : Int)) w := by
  obtain ⟨cap, f, h1, h2, h3⟩ := h
  exact ⟨cap, f, h1, h2, h3⟩
theorem RowZ.cell {g N : Nat} {z : Nat → Int} {w : World} (h : RowZ g N z w) (k : Nat) (hk : k < N) : w.cell? ⟨g, k, none⟩ = some (.int .i64 (z k)) := by
  obtain ⟨cap, f, h1, h2, h3⟩ := h
  rw [h1.cell k (by omega), h3 k hk]
theorem RowZ.free {g N : Nat} {z : Nat → Int} {w : World} (h : RowZ g N z w) (k : Nat) : w.frozen? ⟨g, k, none⟩ = false := by
  obtain ⟨cap, f, h1, h2, h3⟩ := h
  exact h1.free k
theorem RowZ.store {g N : Nat} {z y : Nat → Int} {w : World} (h : RowZ g N z w) (k : Nat) (v : Int) (hd : ∀ j, j < N → y j = if j = k then v else z j) : RowZ g N y (w.setCell ⟨g, k, none⟩ (.int .i64 v)) := by
  obtain ⟨cap, f, h1, h2, h3⟩ := h
  refine ⟨cap, _, h1.store k _, h2, fun j hj => ?_⟩
  unfold upd
  rw [hd j hj]
  by_cases e : j = k
  · rw [if_pos e, if_pos e]
  · rw [if_neg e, if_neg e, h3 j hj]
theorem RowZ.congr {g N : Nat} {z y : Nat → Int} {w : World} (h : RowZ g N z w) (e : ∀ k, k < N → z k = y k) : RowZ g N y w := by
  obtain ⟨cap, f, h1, h2, h3⟩ := h
  exact ⟨cap, f, h1, h2, fun k hk => by rw [h3 k hk, e k hk]⟩
theorem RowZ.below {g N B : Nat} {z : Nat → Int} {w w' : World} (h : RowZ g N z w) (hb : Below B w w') (hB : g < B) : RowZ g N z w' := by
  obtain ⟨cap, f, h1, h2, h3⟩ := h
  exact ⟨cap, f, h1.below hb hB, h2, h3⟩
end Go.Proofs.YtogobpamlalbiaaGreat

/- Weights: what is said of a size and a length, on both sides (Check, CountMay). -/
namespace Go.Proofs.YtogobpamlalbiaaGreat
open Go.RowKit

end Go.Proofs.YtogobpamlalbiaaGreat

/- Weights: sums and looks by closures (the program's times, found, outside; Shows' closures). -/
namespace Go.Proofs.YtogobpamlalbiaaGreat
open Go.RowKit Go.Sort

end Go.Proofs.YtogobpamlalbiaaGreat

/- Weights: what Shows asks of its closures (outside, found, Shows$1, Shows$1$1, Shows$2, checkDistance). -/
namespace Go.Proofs.YtogobpamlalbiaaGreat
open Go.RowKit Go.Sort

/-- The boxes of Shows that its closures read. -/
structure ShB (Bf Bq Bn q n : Nat) (ao : Option Addr) (cap : Nat) (f : Nat → Int) (w : World) : Prop where
  cf : w.cell? ⟨Bf, 0, none⟩ = some (.slice ao (n + 1) cap)
  cq : w.cell? ⟨Bq, 0, none⟩ = some (.int .i64 (q : Nat))
  cn : w.cell? ⟨Bn, 0, none⟩ = some (.int .i64 (n : Nat))
  sl : SlZ ao (n + 1) f w
  lf : Bf < w.heap.size
  lq : Bq < w.heap.size
  ln : Bn < w.heap.size
  la : LtB ao w.heap.size
theorem ShB.below {Bf Bq Bn q n : Nat} {ao : Option Addr} {cap : Nat} {f : Nat → Int} {w w' : World} (h : ShB Bf Bq Bn q n ao cap f w) (hb : Below w.heap.size w w') : ShB Bf Bq Bn q n ao cap f w' :=
  ⟨((bcell hb).1 Bf 0 h.lf).trans h.cf, ((bcell hb).1 Bq 0 h.lq).trans h.cq, ((bcell hb).1 Bn 0 h.ln).trans h.cn, h.sl.below hb h.la, Nat.lt_of_lt_of_le h.lf hb.size, Nat.lt_of_lt_of_le h.lq hb.size, Nat.lt_of_lt_of_le h.ln hb.size, h.la.mono hb.size⟩

end Go.Proofs.YtogobpamlalbiaaGreat

/- Weights: Shows of the program. -/
namespace Go.Proofs.YtogobpamlalbiaaGreat
open Go.RowKit Go.Sort

theorem results_four {fn : Func} {t u v x : Tmp} (h : fn.results = #[.tmp t, .tmp u, .tmp v, .tmp x]) (tmps : Array Value) (P : Program) (w : World) :
    (results fn tmps).run P w = .ok (.tuple #[tmps.getD t undef, tmps.getD u undef, tmps.getD v undef, tmps.getD x undef]) w := by
  simp [results, h]

end Go.Proofs.YtogobpamlalbiaaGreat
