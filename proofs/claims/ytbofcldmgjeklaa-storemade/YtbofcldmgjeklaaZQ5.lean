/- Texts of ours, one behind the other: Q5 Q6 Q7 Q8 Q9 Q10 Q11 I1 I2 I3 I4 I5 I6 I7. -/
import Derived.Test.YtbofcldmgjeklaaZY5
import Derived.Test.YtbofcldmgjeklaaZX17
import Derived.Test.YtbofcldmgjeklaaZO3
import Derived.Test.YtbofcldmgjeklaaZX12
import Derived.Test.YtbofcldmgjeklaaZL10
import Derived.Test.YtbofcldmgjeklaaZU2
/- The program's byPowers: numbers laid by their powers of y. -/
namespace Go.Proofs.Ytbofcldmgjeklaa
open Go.RowKit Go.Sort

/-- What stays where one list grows: cells elsewhere. -/
theorem GrS.else {base n : Nat} {ro : Option Addr} {rc : Nat} {vs : Nat → Value} {Z : Nat → List Int} {w w1 : World} (h : GrS base n ro rc vs Z w) {j b : Nat} (hj : j < n) (hgr : w.grownBy w1 (vs j).ownBlock) (hb : b < w.heap.size) (hne : b < base ∨ ∀ g, (vs j).ownBlock = some g → g ≠ b) : w1.heap[b]? = w.heap[b]? := by
  refine hgr.block b hb ?_
  intro e
  rcases hne with hne | hne
  · have := ((h.row j hj).lt b e.symm).1
    omega
  · exact hne b e.symm rfl
theorem cell_same {w w1 : World} {b o : Nat} (h : w1.heap[b]? = w.heap[b]?) : w1.cell? ⟨b, o, none⟩ = w.cell? ⟨b, o, none⟩ := by
  simp [World.cell?, h]
theorem frozen_same {w w1 : World} {b o : Nat} (h : w1.heap[b]? = w.heap[b]?) : w1.frozen? ⟨b, o, none⟩ = w.frozen? ⟨b, o, none⟩ := by
  simp [World.frozen?, h]

theorem OwnI.form {base : Nat} {v : Value} {l : List Int} {w : World} (h : OwnI base v l w) : ∃ ao cap, v = .slice ao l.length cap := by
  rcases h.2 with ⟨h1, h2⟩ | ⟨g, cap, cur, hv, _⟩
  · exact ⟨none, 0, by rw [h1, h2]⟩
  · exact ⟨_, cap, hv⟩
/-- The number of product a is laid. -/
theorem GrS.next {base m : Nat} {ro : Option Addr} {rc : Nat} {vs : Nat → Value} {p s : Nat → Nat} {r j g : Nat} {w w1 : World} {u : Value} (h : GrS base m ro rc vs (gz p s r) w) (hj : j < m) (hjp : j = p r) (hg : ro = some ⟨g, 0, none⟩) (hu : OwnI base u (gz p s r j ++ [((s r : Nat) : Int)]) w1) {ob : Option Nat} (hob : (vs j).ownBlock = ob) (hgr : w.grownBy w1 ob) (hat : u.ownBlock = ob ∨ u.ownBlock = some w.heap.size) :
    GrS base m ro rc (fun i => if i = j then u else vs i) (gz p s (r + 1)) (w1.setCell ⟨g, j, none⟩ u) := by
  subst hob
  refine (h.store hj hg hu hgr hat).congr (fun i _ => ?_)
  show _ = (if i = p r then gz p s r i ++ [((s r : Nat) : Int)] else gz p s r i)
  rw [← hjp]
/-- What the next number's walk reads, wherever it stands. -/
def bpF (pb g j bs os r : Nat) (jo : Option Addr) (jl jc i x : Nat) (wx : World) : Prop := wx.cell? ⟨pb, 0, none⟩ = some (.int .i64 (i : Nat)) ∧ wx.cell? ⟨pb, 1, none⟩ = some (.int .i64 (j : Nat)) ∧ wx.cell? ⟨g, j, none⟩ = some (.slice jo jl jc) ∧ wx.frozen? ⟨g, j, none⟩ = false ∧ wx.cell? ⟨bs, os + r, none⟩ = some (.int .i64 (x : Nat))

theorem bpF.below {pb g j bs os r : Nat} {jo : Option Addr} {jl jc i x : Nat} {w w' : World} (h : bpF pb g j bs os r jo jl jc i x w) (hb : Below w.heap.size w w') : bpF pb g j bs os r jo jl jc i x w' := by
  obtain ⟨h1, h2, h3, h4, h5⟩ := h
  exact ⟨(cell_same (hb.block _ (cell_lt h1))).trans h1, (cell_same (hb.block _ (cell_lt h2))).trans h2, (cell_same (hb.block _ (cell_lt h3))).trans h3, (frozen_same (hb.block _ (cell_lt h3))).trans h4, (cell_same (hb.block _ (cell_lt h5))).trans h5⟩
theorem bpF.keep {pb g j bs os r : Nat} {jo : Option Addr} {jl jc i x : Nat} {base m : Nat} {ro : Option Addr} {rc : Nat} {vs : Nat → Value} {Z : Nat → List Int} {w w9 : World} (hF : bpF pb g j bs os r jo jl jc i x w) (h : GrS base m ro rc vs Z w) (hj : j < m) (hg : ro = some ⟨g, 0, none⟩) (hpb : ∀ k, (vs j).ownBlock = some k → k ≠ pb) (hbs : bs < base) {ob : Option Nat} (hob : (vs j).ownBlock = ob) (hgr : w.grownBy w9 ob) : bpF pb g j bs os r jo jl jc i x w9 := by
  subst hob
  obtain ⟨h1, h2, h3, h4, h5⟩ := hF
  have e1 := h.else hj hgr (cell_lt h1) (Or.inr hpb)
  have e2 := h.else hj hgr (cell_lt h3) (Or.inr (fun k hk e => by
    rcases (h.row j hj).apart h.own with ha | ha
    · rw [ha] at hk; cases hk
    · exact ha (by rw [hk, hg, e]; rfl)))
  have e3 := h.else hj hgr (cell_lt h5) (Or.inl hbs)
  exact ⟨(cell_same e1).trans h1, (cell_same e1).trans h2, (cell_same e2).trans h3, (frozen_same e2).trans h4, (cell_same e3).trans h5⟩
theorem bpF.three {pb g j bs os r : Nat} {jo : Option Addr} {jl jc i x : Nat} {w : World} (h : bpF pb g j bs os r jo jl jc i x w) : w.cell? ⟨pb, 0, none⟩ = some (.int .i64 (i : Nat)) ∧ w.cell? ⟨pb, 1, none⟩ = some (.int .i64 (j : Nat)) ∧ w.cell? ⟨bs, os + r, none⟩ = some (.int .i64 (x : Nat)) := ⟨h.1, h.2.1, h.2.2.2.2⟩
theorem bpF.set {pb g j bs os r : Nat} {jo : Option Addr} {jl jc i x : Nat} {w : World} (h : bpF pb g j bs os r jo jl jc i x w) (h1 : g ≠ pb) (h2 : g ≠ bs) (v : Value) : (w.setCell ⟨g, j, none⟩ v).cell? ⟨pb, 0, none⟩ = some (.int .i64 (i : Nat)) ∧ (w.setCell ⟨g, j, none⟩ v).cell? ⟨pb, 1, none⟩ = some (.int .i64 (j : Nat)) ∧ (w.setCell ⟨g, j, none⟩ v).cell? ⟨bs, os + r, none⟩ = some (.int .i64 (x : Nat)) := by
  have e1 := Below.heap_setCell w ⟨g, j, none⟩ v pb (fun e => h1 e.symm)
  have e2 := Below.heap_setCell w ⟨g, j, none⟩ v bs (fun e => h2 e.symm)
  exact ⟨(cell_same e1).trans h.1, (cell_same e1).trans h.2.1, (cell_same e2).trans h.2.2.2.2⟩
theorem bpF.ne {pb g j bs os r : Nat} {jo : Option Addr} {jl jc i x : Nat} {base m : Nat} {ro : Option Addr} {rc : Nat} {vs : Nat → Value} {Z : Nat → List Int} {w : World} (hF : bpF pb g j bs os r jo jl jc i x w) (h : GrS base m ro rc vs Z w) (hj : j < m) (hg : ro = some ⟨g, 0, none⟩) (hbs : bs < base) : g ≠ pb ∧ g ≠ bs := by
  obtain ⟨g', e, hc, _, hb, _⟩ := h.cell 0 (by omega)
  rw [hg] at e
  cases e
  refine ⟨fun e => ?_, by omega⟩
  obtain ⟨ao, cap, ev⟩ := (h.row 0 (by omega)).form
  have := hF.1
  rw [← e, hc, ev] at this
  cases this
end Go.Proofs.Ytbofcldmgjeklaa

/- The program's Sudan. -/
namespace Go.Proofs.Ytbofcldmgjeklaa
open Go.RowKit Go.Sort

/-- The reduced form of these rows; the reduced form of what they make 0. -/
structure SOk (D : FD) (m P : Nat) (V : Nat → Nat → Nat) (k : Nat) (R : Nat → Nat → Nat) (p : Nat → Nat) (k2 : Nat) (R2 : Nat → Nat → Nat) (p2 : Nat → Nat) : Prop where
  km : k ≤ m
  rre : RRE D P k R p
  spn : ∀ v, Spn D (RowsOf k R) v ↔ Spn D (RowsOf m V) v
  km2 : k2 ≤ nct k p P
  rre2 : RRE D P k2 R2 p2
  spn2 : ∀ v, Spn D (RowsOf k2 R2) v ↔ Spn D (RowsOf (nct k p P) (nul D R p k P)) v
theorem Mx.matZ {B G m n : Nat} {R : Nat → Nat → Nat} {h : Nat → Nat} {w : World} (H : Mx B G m m n R h w) (hn : n ≤ 1000000) : MatZ (some ⟨G, 0, none⟩) m (fun i => some ⟨h i, 0, none⟩) (fun _ => n) (fun _ => n) (fun i j => ((R i j : Nat) : Int)) w :=
  ⟨fun i hi => ⟨G, 0, rfl, by rw [Nat.zero_add]; exact H.cell i hi⟩, fun i hi => (H.row i hi).sl (Nat.le_refl _), fun _ _ => Nat.le_refl _, fun _ _ => by omega, fun _ _ e => (by cases e), fun _ _ => hn⟩
theorem RL.first {lo : Option Addr} {k n lc : Nat} {R : Nat → Nat → Nat} {w : World} (h : RL (.slice lo k lc) k n R w) (hk : 0 < k) : ∃ b off x cx, lo = some ⟨b, off, none⟩ ∧ w.cell? ⟨b, off, none⟩ = some (.slice x n cx) ∧ Sl x n (R 0) w := by
  obtain ⟨ao, ca, e, h⟩ := h
  cases e
  obtain ⟨b, off, x, cx, e1, e2, e3⟩ := h 0 hk
  exact ⟨b, off, x, cx, e1, e2, e3⟩
end Go.Proofs.Ytbofcldmgjeklaa

/- The reference's Sudan, its first part: products, as lists of two numbers. -/
namespace Go.Proofs.Ytbofcldmgjeklaa
open Go.RowKit Go.Sort

theorem LLs.len {base : Nat} {v : Value} {L : List (Nat × (Nat → Nat))} {w : World} (h : LLs base v L w) : ∃ ao cap, v = .slice ao L.length cap := by
  obtain ⟨l, h1, h2⟩ := h
  obtain ⟨ao, cap, e, _⟩ := h1.open
  rw [h2.1] at e
  exact ⟨ao, cap, e⟩
/-- One of the lists. -/
theorem LLs.at {base n cap : Nat} {ao : Option Addr} {L : List (Nat × (Nat → Nat))} {w : World} (h : LLs base (.slice ao n cap) L w) {j : Nat} {p : Nat × (Nat → Nat)} (hj : L[j]? = some p) : ∃ g b cp, ao = some ⟨g, 0, none⟩ ∧ w.cell? ⟨g, j, none⟩ = some (.slice (some ⟨b, 0, none⟩) (p.1 + 1) cp) ∧ Row b (p.1 + 1) p.2 w := by
  obtain ⟨l, h1, h2⟩ := h
  obtain ⟨ao', cap', e, _, _, _, hc⟩ := h1.open
  cases e
  have hjl : j < l.length := by rw [h2.1]; exact (List.getElem?_eq_some_iff.1 hj).1
  obtain ⟨g, e, hcell, _⟩ := hc j l[j] (List.getElem?_eq_getElem hjl)
  obtain ⟨b, cp, e2, _, _, hr⟩ := h2.2 j l[j] p (List.getElem?_eq_getElem hjl) hj
  exact ⟨g, b, cp, e, by rw [hcell, e2], hr⟩
theorem LLs.push {base : Nat} {v v' u : Value} {l : List Value} {L : List (Nat × (Nat → Nat))} {p : Nat × (Nat → Nat)} {w w' : World} (h1 : OwnV base v l w) (h2 : Elms l L w) (hu : Elm u p w) (ho : OwnV base v' (l ++ [u]) w') (hg : w.grownBy w' v.ownBlock) : LLs base v' (L ++ [p]) w' :=
  ⟨_, ho, (h2.snoc hu).grown h1 hg⟩
end Go.Proofs.Ytbofcldmgjeklaa

/- The reference's Sudan. -/
namespace Go.Proofs.Ytbofcldmgjeklaa
open Go.RowKit Go.Sort

/-- What the walk that lays the next number reads. -/
def rbF (g j g0 rb r : Nat) (jo : Option Addr) (jl jc P cp x : Nat) (wx : World) : Prop := wx.cell? ⟨g, j, none⟩ = some (.slice jo jl jc) ∧ wx.frozen? ⟨g, j, none⟩ = false ∧ wx.cell? ⟨g0, 0, none⟩ = some (.slice (some ⟨rb, 0, none⟩) P cp) ∧ wx.cell? ⟨rb, r, none⟩ = some (.int .i64 (x : Nat))
theorem rbF.below {g j g0 rb r : Nat} {jo : Option Addr} {jl jc P cp x : Nat} {w w' : World} (h : rbF g j g0 rb r jo jl jc P cp x w) (hb : Below w.heap.size w w') : rbF g j g0 rb r jo jl jc P cp x w' := by
  obtain ⟨h1, h2, h3, h4⟩ := h
  exact ⟨(cell_same (hb.block _ (cell_lt h1))).trans h1, (frozen_same (hb.block _ (cell_lt h1))).trans h2, (cell_same (hb.block _ (cell_lt h3))).trans h3, (cell_same (hb.block _ (cell_lt h4))).trans h4⟩
theorem rbF.keep {g j g0 rb r : Nat} {jo : Option Addr} {jl jc P cp x : Nat} {base m : Nat} {ro : Option Addr} {rc : Nat} {vs : Nat → Value} {Z : Nat → List Int} {w w9 : World} (hF : rbF g j g0 rb r jo jl jc P cp x w) (h : GrS base m ro rc vs Z w) (hj : j < m) (hg : ro = some ⟨g, 0, none⟩) (h0 : g0 < base) (hr : rb < base) {ob : Option Nat} (hob : (vs j).ownBlock = ob) (hgr : w.grownBy w9 ob) : rbF g j g0 rb r jo jl jc P cp x w9 := by
  subst hob
  obtain ⟨h1, h2, h3, h4⟩ := hF
  have e2 := h.else hj hgr (cell_lt h1) (Or.inr (fun k hk e => by
    rcases (h.row j hj).apart h.own with ha | ha
    · rw [ha] at hk; cases hk
    · exact ha (by rw [hk, hg, e]; rfl)))
  have e3 := h.else hj hgr (cell_lt h3) (Or.inl h0)
  have e4 := h.else hj hgr (cell_lt h4) (Or.inl hr)
  exact ⟨(cell_same e2).trans h1, (frozen_same e2).trans h2, (cell_same e3).trans h3, (cell_same e4).trans h4⟩
end Go.Proofs.Ytbofcldmgjeklaa

/- ListsSay: the walk of the statement. -/
namespace Go.Proofs.Ytbofcldmgjeklaa
open Go.RowKit Go.Sort

end Go.Proofs.Ytbofcldmgjeklaa

/- ListsSay: whatever it is given. -/
namespace Go.Proofs.Ytbofcldmgjeklaa
open Go.RowKit Go.Sort

end Go.Proofs.Ytbofcldmgjeklaa

/- ListsMade: the walk of the statement, whatever raw numbers it is given. -/
namespace Go.Proofs.Ytbofcldmgjeklaa
open Go.RowKit Go.Sort

theorem lpick_small (m : Int) {k : Nat} (hk : 0 < k) : ∃ M : Nat, pick m (k : Int) = (M : Int) ∧ M < k := by
  have h1 := pick_lo m (k : Int) (by omega)
  have h2 := pick_hi m (k : Int) (by omega)
  exact ⟨(pick m (k : Int)).toNat, by omega, by omega⟩
theorem Row.argL {g q n : Nat} {c : Nat → Nat} {w : World} (h : Row g q c w) (hn : n ≤ q) (hq : q ≤ 1000000) : ArgL (some ⟨g, 0, none⟩) n q (fun j => ((c j : Nat) : Int)) w :=
  ⟨fun j hj => (h.sl (Nat.le_refl _)) j (by omega), fun x hx => (by cases hx; exact h.lt), fun e => (by cases e), hn, by omega⟩
theorem argL_below {ao : Option Addr} {n ca : Nat} {z : Nat → Int} {w w' : World} (h : ArgL ao n ca z w) (hb : Below w.heap.size w w') : ArgL ao n ca z w' := ⟨slz_below h.sl hb, h.lt.mono hb.size, h.nil, h.le, h.cap⟩

end Go.Proofs.Ytbofcldmgjeklaa

/- Codes: what is said of one (the program's code.Check, the reference's CodeMay). -/
namespace Go.Proofs.Ytbofcldmgjeklaa
open Go.RowKit Go.Sort

/-- A code's cells, in block b. -/
structure CB (b : Nat) (q n : Int) (v : Value) (w : World) : Prop where
  c0 : w.cell? ⟨b, 0, none⟩ = some (.int .i64 q)
  c1 : w.cell? ⟨b, 1, none⟩ = some (.int .i64 n)
  c2 : w.cell? ⟨b, 2, none⟩ = some v
theorem CB.new (q n : Int) (v : Value) (w : World) : CB w.heap.size q n v (w.alloc (.cells #[.int .i64 q, .int .i64 n, v] 51)) :=
  ⟨by rw [cell_of_row _ _ _ _ _ (0, 0) (two_new _)]; rfl, by rw [cell_of_row _ _ _ _ _ (0, 0) (two_new _)]; rfl, by rw [cell_of_row _ _ _ _ _ (0, 0) (two_new _)]; rfl⟩
theorem CB.below {b B : Nat} {q n : Int} {v : Value} {w w' : World} (h : CB b q n v w) (hb : Below B w w') (hB : b < B) : CB b q n v w' := by
  have e : ∀ o, w'.cell? ⟨b, o, none⟩ = w.cell? ⟨b, o, none⟩ := fun o => by simp [World.cell?, hb.block b hB]
  exact ⟨(e 0).trans h.c0, (e 1).trans h.c1, (e 2).trans h.c2⟩
theorem CB.keep {b : Nat} {q n : Int} {v : Value} {w w' : World} (h : CB b q n v w) (hb : Below w.heap.size w w') : CB b q n v w' := h.below hb (cell_lt h.c0)
/-- What is said of a code. -/
def FD.cchk (D : FD) (n : Int) (m : Nat) (N : Nat → Nat) (Z : Nat → Nat → Int) : Int := if n < 1 ∨ 64 < n then 4 else if D.mchk m N Z ≠ 0 then D.mchk m N Z else if 0 < m ∧ ((N 0 : Nat) : Int) ≠ n then 3 else 0

set_option maxHeartbeats 4000000 in
set_option maxRecDepth 100000 in
theorem ccheck_any {D : FD} (hD : D ∈ fieldsL) {ao : Option Addr} {m ca : Nat} {A : Nat → Option Addr} {N C : Nat → Nat} {Z : Nat → Nat → Int} (n : Int) {w : World} (hA : MatZ ao m A N C Z w) (hm : m ≤ 1000000) :
    Calls Try.prog 95 #[.agg #[.int .i64 D.q, .int .i64 n, .slice ao m ca]] w fun e w' => e = .returned (.int .i64 (D.cchk n m N Z)) ∧ Below w.heap.size w w' := by
  obtain ⟨wa, hwa⟩ : ∃ wa, wa = w.alloc (.cells #[.int .i64 D.q, .int .i64 n, .slice ao m ca] 51) := ⟨_, rfl⟩
  have hba : Below w.heap.size w wa := by rw [hwa]; exact (Below.refl _ _).alloc (Nat.le_refl _) _
  have HA : Hid (D ∈ fieldsL ∧ MatZ ao m A N C Z w ∧ Below w.heap.size w wa ∧ CB w.heap.size D.q n (.slice ao m ca) wa ∧ wa.heap.size = w.heap.size + 1) := ⟨hD, hA, hba, by rw [hwa]; exact CB.new _ _ _ _, by rw [hwa]; simp⟩
  obtain ⟨e0, he0⟩ : ∃ e0, e0 = D.mchk m N Z := ⟨_, rfl⟩
  obtain ⟨E, hE⟩ : ∃ E, E = D.cchk n m N Z := ⟨_, rfl⟩
  rw [← hE]
  have HE : Hid (E = D.cchk n m N Z ∧ e0 = D.mchk m N Z) := ⟨hE, he0⟩
  clear hD hA hba he0 hE
  go_enter Try.func95, Try.ntmps95
  go_wp2_with fail
  rw [← hwa]
  clear hwa
  refine (new_any HA.out.1 wa).mono ?_
  rintro e w1 ⟨F, T, g, rfl, _, _, _, hb1⟩
  have H1 : Hid (Below w.heap.size w w1 ∧ CB w.heap.size D.q n (.slice ao m ca) w1 ∧ w.heap.size < w1.heap.size) := by
    have := hb1.size
    have := HA.out.2.2.2.2
    exact ⟨bel_up' HA.out.2.2.1 hb1, HA.out.2.2.2.1.keep hb1, by omega⟩
  clear hb1
  have hcb := H1.out.2.1
  obtain ⟨c0, c1, c2⟩ := hcb
  by_cases h1 : n < 1
  · have HF : Hid (E = 4) := by show E = 4; rw [HE.out.1]; unfold FD.cchk; rw [if_pos (Or.inl h1)]
    go_wp2
    go_ret
    exact ⟨by rw [HF.out]; rfl, H1.out.1⟩
  · by_cases h2 : 64 < n
    · have HF : Hid (E = 4) := by show E = 4; rw [HE.out.1]; unfold FD.cchk; rw [if_pos (Or.inr h2)]
      go_wp2
      go_ret
      exact ⟨by rw [HF.out]; rfl, H1.out.1⟩
    · have HF : Hid (E = if e0 ≠ 0 then e0 else if 0 < m ∧ ((N 0 : Nat) : Int) ≠ n then 3 else 0) := by show E = _; rw [HE.out.1, HE.out.2]; unfold FD.cchk; rw [if_neg (by omega)]
      go_wp2_with fail
      refine (mcheck_any HA.out.1 (HA.out.2.1.below H1.out.1) hm).mono ?_
      rintro e w2 ⟨rfl, hb2⟩
      rw [← HE.out.2]
      have H2 : Hid (Below w.heap.size w w2 ∧ CB w.heap.size D.q n (.slice ao m ca) w2) := ⟨bel_up' H1.out.1 hb2, H1.out.2.1.keep hb2⟩
      clear hb2 c0 c1 c2
      have hcb := H2.out.2
      obtain ⟨c0, c1, c2⟩ := hcb
      by_cases hz : e0 = 0
      · have hz1 : (e0 != 0) = false := by rw [hz]; rfl
        by_cases hm0 : 0 < m
        · obtain ⟨b, off, hao, hc⟩ := (HA.out.2.1.below H2.out.1).cell 0 hm0
          subst hao
          have hmb : (0 : Int) < (m : Int) := by omega
          have hc : w2.cell? ⟨b, off, none⟩ = some (.slice (A 0) (N 0) (C 0)) := hc
          obtain ⟨N0, hN0⟩ : ∃ N0, N0 = N 0 := ⟨_, rfl⟩
          rw [← hN0] at hc
          have HG : Hid (E = if ((N0 : Nat) : Int) ≠ n then 3 else 0) := by
            show E = _
            rw [HF.out, if_neg (fun h => h hz), hN0]
            by_cases h : ((N 0 : Nat) : Int) ≠ n
            · rw [if_pos h, if_pos ⟨hm0, h⟩]
            · rw [if_neg h, if_neg (fun x => h x.2)]
          clear hN0
          have hd : decide ((0 : Int) < (m : Int)) = true := decide_eq_true hmb
          by_cases hn : ((N0 : Nat) : Int) = n
          · have HG2 : Hid (E = 0) := by show E = 0; rw [HG.out, if_neg (fun h => h hn)]
            have hnb : (((N0 : Nat) : Int) != n) = false := by rw [bne_eq_false_iff_eq]; exact hn
            clear hn
            go_wp2
            go_quiet (fail)
            go_wp2
            go_ret
            exact ⟨by rw [HG2.out]; rfl, below_drewN2 H2.out.1 _⟩
          · have HG2 : Hid (E = 3) := by show E = 3; rw [HG.out, if_pos hn]
            have hnb : (((N0 : Nat) : Int) != n) = true := by rw [bne_iff_ne]; exact hn
            clear hn
            go_wp2
            go_quiet (fail)
            go_wp2
            go_ret
            exact ⟨by rw [HG2.out]; rfl, below_drewN2 H2.out.1 _⟩
        · have HG : Hid (E = 0) := by show E = 0; rw [HF.out, if_neg (fun h => h hz), if_neg (fun h => hm0 h.1)]
          have hd : decide ((0 : Int) < (m : Int)) = false := decide_eq_false (by omega)
          go_wp2
          go_quiet (fail)
          go_wp2
          go_ret
          exact ⟨by rw [HG.out]; rfl, below_drewN2 H2.out.1 _⟩
      · have hz1 : (e0 != 0) = true := by rw [bne_iff_ne]; exact hz
        have HG : Hid (E = e0) := by show E = e0; rw [HF.out, if_pos hz]
        go_wp2
        go_ret
        exact ⟨by rw [HG.out]; rfl, H2.out.1⟩
end Go.Proofs.Ytbofcldmgjeklaa

/- Codes: the reference's CodeMay. -/
namespace Go.Proofs.Ytbofcldmgjeklaa
open Go.RowKit Go.Sort

end Go.Proofs.Ytbofcldmgjeklaa

/- Independent rows: the reduced form has as many; what makes nothing 0 but 0. Plain mathematics. -/
namespace Go.Proofs.Ytbofcldmgjeklaa
open Go.RowKit

end Go.Proofs.Ytbofcldmgjeklaa

/- Codes: one form, and the dual (the program's oneForm, unit, dual). -/
namespace Go.Proofs.Ytbofcldmgjeklaa
open Go.RowKit Go.Sort

/-- The reduced form of m rows. -/
def Red (D : FD) (n m : Nat) (M : Nat → Nat → Nat) (k : Nat) (R : Nat → Nat → Nat) : Prop := ∃ p, RRE D n k R p ∧ ∀ v, Spn D (RowsOf k R) v ↔ Spn D (RowsOf m M) v
/-- The reduced form of what makes m rows 0. -/
def Dul (D : FD) (n m : Nat) (M : Nat → Nat → Nat) (k2 : Nat) (R2 : Nat → Nat → Nat) : Prop := ∃ k R p p2, RRE D n k R p ∧ (∀ v, Spn D (RowsOf k R) v ↔ Spn D (RowsOf m M) v) ∧ RRE D n k2 R2 p2 ∧ (∀ v, Spn D (RowsOf k2 R2) v ↔ Spn D (RowsOf (nct k p n) (nul D R p k n)) v) ∧ k2 = nct k p n
theorem Dul.le {D : FD} {n m k : Nat} {M R : Nat → Nat → Nat} (h : Dul D n m M k R) : k ≤ n := by
  obtain ⟨a, A, q, q2, _, _, _, _, e⟩ := h
  rw [e]; exact nct_le _ _ _
theorem Dul.rows {D : FD} {n m k : Nat} {M R : Nat → Nat → Nat} (h : Dul D n m M k R) : (∀ i, i < k → El D (R i)) ∧ ∀ i, i < k → Bd n (R i) := by
  obtain ⟨a, A, q, q2, _, _, h3, _, e⟩ := h
  exact ⟨h3.el, h3.bd⟩
theorem Red.rows {D : FD} {n m k : Nat} {M R : Nat → Nat → Nat} (h : Red D n m M k R) : (∀ i, i < k → El D (R i)) ∧ ∀ i, i < k → Bd n (R i) := by
  obtain ⟨p, h3, _⟩ := h
  exact ⟨h3.el, h3.bd⟩
theorem rre_le {p : Nat → Nat} {n : Nat} : ∀ k, (∀ i j, i < j → j < k → p i < p j) → (∀ i, i < k → p i < n) → k ≤ n := by
  intro k hm hl
  have key : ∀ i, i < k → i ≤ p i := fun i => by
    induction i with
    | zero => intro _; omega
    | succ i ih =>
      intro hi
      have := ih (by omega)
      have := hm i (i + 1) (by omega) hi
      omega
  rcases Nat.eq_zero_or_pos k with h | h
  · omega
  · have := key (k - 1) (by omega)
    have := hl (k - 1) (by omega)
    omega
theorem Red.le {D : FD} {n m k : Nat} {M R : Nat → Nat → Nat} (h : Red D n m M k R) : k ≤ n := by
  obtain ⟨p, h3, _⟩ := h
  exact rre_le k h3.mono h3.lt
theorem RLz.congr {v : Value} {k n : Nat} {R R' : Nat → Nat → Nat} {w : World} (h : RLz v k n R w) (e : ∀ i, i < k → R i = R' i) : RLz v k n R' w := by
  obtain ⟨ao, ca, A, C, e1, hm⟩ := h
  exact ⟨ao, ca, A, C, e1, ⟨hm.cell, fun i hi => by have := hm.sl i hi; simp only [e i hi] at this; exact this, hm.le, hm.cap, hm.nil, hm.few⟩⟩
theorem RLz.below {v : Value} {k n : Nat} {R : Nat → Nat → Nat} {w w' : World} (h : RLz v k n R w) (hb : Below w.heap.size w w') : RLz v k n R w' := by
  obtain ⟨ao, ca, A, C, e, hm⟩ := h
  exact ⟨ao, ca, A, C, e, hm.below hb⟩
/-- A code's rows as they are handed in: m rows of n elements. -/
structure CdZ (D : FD) (ao : Option Addr) (m n : Nat) (A : Nat → Option Addr) (N C : Nat → Nat) (Z : Nat → Nat → Int) (w : World) : Prop where
  mat : MatZ ao m A N C Z w
  chk : D.mchk m N Z = 0
  wd : 0 < m → N 0 = n
  n1 : 1 ≤ n
  n64 : n ≤ 64
theorem CdZ.below {D : FD} {ao : Option Addr} {m n : Nat} {A : Nat → Option Addr} {N C : Nat → Nat} {Z : Nat → Nat → Int} {w w' : World} (h : CdZ D ao m n A N C Z w) (hb : Below w.heap.size w w') : CdZ D ao m n A N C Z w' := ⟨h.mat.below hb, h.chk, h.wd, h.n1, h.n64⟩
theorem CdZ.rows {D : FD} (F : Fld D) {ao : Option Addr} {m n : Nat} {A : Nat → Option Addr} {N C : Nat → Nat} {Z : Nat → Nat → Int} {w : World} (h : CdZ D ao m n A N C Z w) : m ≤ 64 ∧ (∀ i, i < m → El D (mzc N Z i)) ∧ (∀ i, i < m → Bd n (mzc N Z i)) ∧ MatR ao m (n - 1) (mzc N Z) w := by
  have hn := h.n1
  rcases Nat.eq_zero_or_pos m with e | e
  · exact ⟨by omega, fun i hi => absurd hi (by omega), fun i hi => absurd hi (by omega), fun i hi => absurd hi (by omega)⟩
  · obtain ⟨h1, n', h2, h3, h4, h5⟩ := mchk_rows F h.chk h.mat e
    have hn' : n' + 1 = n := by have := h.wd e; omega
    have e2 : n - 1 = n' := by omega
    rw [e2, ← hn']
    exact ⟨h1, fun i hi => (h4 i hi).2.1, fun i hi => (h4 i hi).2.2, h5⟩
theorem CdZ.few {D : FD} (F : Fld D) {ao : Option Addr} {m n : Nat} {A : Nat → Option Addr} {N C : Nat → Nat} {Z : Nat → Nat → Int} {w : World} (h : CdZ D ao m n A N C Z w) : m ≤ 1000000 := by
  have := (h.rows F).1
  omega
/-- What was told can be handed in. -/
theorem RLz.cdz {D : FD} {ao : Option Addr} {k n ca : Nat} {R : Nat → Nat → Nat} {w : World} (h : RLz (.slice ao k ca) k n R w) (hn1 : 1 ≤ n) (hn : n ≤ 64) (hk : k ≤ 64) (he : ∀ i, i < k → El D (R i)) : ∃ A C, CdZ D ao k n A (fun _ => n) C (fun i j => ((R i j : Nat) : Int)) w := by
  obtain ⟨ao', ca', A, C, e, hm⟩ := h
  cases e
  refine ⟨A, C, hm, mchk_of hk (fun i hi => ?_), fun _ => rfl, hn1, hn⟩
  unfold FD.mrow
  rw [if_neg (by omega), if_neg (by omega), if_pos]
  exact allHas_iff.2 (fun j _ => has_of_lt (he i hi j))
theorem mzc_rows {k n : Nat} {R : Nat → Nat → Nat} (hb : ∀ i, i < k → Bd n (R i)) (i : Nat) (hi : i < k) : mzc (fun _ => n) (fun i j => ((R i j : Nat) : Int)) i = R i := by
  funext j
  show (if j < n then Int.toNat _ else 0) = _
  split
  · rw [Int.toNat_natCast]
  · exact (hb i hi j (by omega)).symm
theorem rows_congr {D : FD} {k : Nat} {R R' : Nat → Nat → Nat} (h : ∀ i, i < k → R i = R' i) (v : Nat → Nat) : Spn D (RowsOf k R) v ↔ Spn D (RowsOf k R') v := by
  refine spn_congr (fun v => ⟨fun ⟨i, hi, e⟩ => ⟨i, hi, by rw [e, h i hi]⟩, fun ⟨i, hi, e⟩ => ⟨i, hi, by rw [e, h i hi]⟩⟩) v
/-- Where a call's answer is laid: three cells that may be written. -/
structure RB (b : Nat) (w : World) : Prop where
  c0 : ∃ v, w.cell? ⟨b, 0, none⟩ = some v
  c1 : ∃ v, w.cell? ⟨b, 1, none⟩ = some v
  c2 : ∃ v, w.cell? ⟨b, 2, none⟩ = some v
  f0 : w.frozen? ⟨b, 0, none⟩ = false
  f1 : w.frozen? ⟨b, 1, none⟩ = false
  f2 : w.frozen? ⟨b, 2, none⟩ = false
theorem RB.new (x y z : Value) (w : World) : RB w.heap.size (w.alloc (.cells #[x, y, z] 51)) :=
  ⟨⟨_, by rw [cell_of_row _ _ _ _ _ (0, 0) (two_new _)]; rfl⟩, ⟨_, by rw [cell_of_row _ _ _ _ _ (0, 0) (two_new _)]; rfl⟩, ⟨_, by rw [cell_of_row _ _ _ _ _ (0, 0) (two_new _)]; rfl⟩, frozen_of_row _ _ _ _ _ (two_new _), frozen_of_row _ _ _ _ _ (two_new _), frozen_of_row _ _ _ _ _ (two_new _)⟩
theorem RB.keep {b : Nat} {w w' : World} (h : RB b w) (hb : Below w.heap.size w w') : RB b w' := by
  obtain ⟨v0, h0⟩ := h.c0
  obtain ⟨v1, h1⟩ := h.c1
  obtain ⟨v2, h2⟩ := h.c2
  have hh := hb.block b (cell_lt h0)
  have e : ∀ o, w'.cell? ⟨b, o, none⟩ = w.cell? ⟨b, o, none⟩ := fun o => by simp [World.cell?, hh]
  have f : ∀ o, w'.frozen? ⟨b, o, none⟩ = w.frozen? ⟨b, o, none⟩ := fun o => by simp [World.frozen?, hh]
  exact ⟨⟨v0, (e 0).trans h0⟩, ⟨v1, (e 1).trans h1⟩, ⟨v2, (e 2).trans h2⟩, (f 0).trans h.f0, (f 1).trans h.f1, (f 2).trans h.f2⟩
theorem rre_none (D : FD) (n : Nat) (R : Nat → Nat → Nat) (p : Nat → Nat) : RRE D n 0 R p := ⟨fun i hi => absurd hi (by omega), fun i hi => absurd hi (by omega), fun i hi => absurd hi (by omega), fun i j _ hj => absurd hj (by omega), fun i hi => absurd hi (by omega), fun i j hi => absurd hi (by omega), fun i c hi => absurd hi (by omega)⟩
theorem RLz.none (ao : Option Addr) (ca n : Nat) (R : Nat → Nat → Nat) (w : World) : RLz (.slice ao 0 ca) 0 n R w :=
  ⟨ao, ca, fun _ => Option.none, fun _ => 0, rfl, ⟨fun i hi => absurd hi (by omega), fun i hi => absurd hi (by omega), fun i hi => absurd hi (by omega), fun i hi => absurd hi (by omega), fun i hi => absurd hi (by omega), fun i hi => absurd hi (by omega)⟩⟩

/-- The answer is laid. -/
def laid (w : World) (b : Nat) (q n : Int) (v : Value) : World := ((w.setCell ⟨b, 0, none⟩ (.int .i64 q)).setCell ⟨b, 1, none⟩ (.int .i64 n)).setCell ⟨b, 2, none⟩ v
theorem laid_cb {b : Nat} {w : World} (h : RB b w) (q n : Int) (v : Value) : CB b q n v (laid w b q n v) := by
  obtain ⟨v0, h0⟩ := h.c0
  obtain ⟨v1, h1⟩ := h.c1
  obtain ⟨v2, h2⟩ := h.c2
  have n01 : (⟨b, 0, none⟩ : Addr) ≠ ⟨b, 1, none⟩ := fun e => by cases e
  have n02 : (⟨b, 0, none⟩ : Addr) ≠ ⟨b, 2, none⟩ := fun e => by cases e
  have n12 : (⟨b, 1, none⟩ : Addr) ≠ ⟨b, 2, none⟩ := fun e => by cases e
  unfold laid
  refine ⟨?_, ?_, ?_⟩
  · rw [World.cell?_setCell_other _ _ _ _ n02.symm, World.cell?_setCell_other _ _ _ _ n01.symm, World.cell?_setCell_same _ _ _ h0]
  · rw [World.cell?_setCell_other _ _ _ _ n12.symm]
    exact World.cell?_setCell_same _ _ _ (by rw [World.cell?_setCell_other _ _ _ _ n01]; exact h1)
  · exact World.cell?_setCell_same _ _ _ (by rw [World.cell?_setCell_other _ _ _ _ n12, World.cell?_setCell_other _ _ _ _ n02]; exact h2)
theorem laid_heap (w : World) (b : Nat) (q n : Int) (v : Value) {g : Nat} (h : g ≠ b) : (laid w b q n v).heap[g]? = w.heap[g]? := by
  unfold laid
  rw [Below.heap_setCell _ _ _ _ h, Below.heap_setCell _ _ _ _ h, Below.heap_setCell _ _ _ _ h]
theorem laid_below {B b : Nat} {u w : World} (h : Below B u w) (hb : B ≤ b) (q n : Int) (v : Value) : Below B u (laid w b q n v) := ((h.setCell hb _).setCell hb _).setCell hb _
theorem laid_mv {B b : Nat} {w : World} {v : Value} {k n' : Nat} {R : Nat → Nat → Nat} (h : MV B v k n' R w) (hb : b < B) (q n : Int) (u : Value) : MV B v k n' R (laid w b q n u) := by
  rcases h with h | ⟨G, mc, m, hh, ev, hm⟩
  · exact Or.inl h
  · exact Or.inr ⟨G, mc, m, hh, ev, hm.keep (laid_heap w b q n u (by have := hm.geG; omega)) (fun i hi => laid_heap w b q n u (by have := hm.ge i hi; omega))⟩
theorem MV.mono {B B' : Nat} {v : Value} {k n : Nat} {R : Nat → Nat → Nat} {w : World} (h : MV B v k n R w) (hB : B' ≤ B) : MV B' v k n R w := by
  rcases h with h | ⟨G, mc, m, hh, ev, hm⟩
  · exact Or.inl h
  · exact Or.inr ⟨G, mc, m, hh, ev, hm.mono hB⟩
theorem Mx.less {B G m k j n : Nat} {R : Nat → Nat → Nat} {h : Nat → Nat} {w : World} (H : Mx B G m k n R h w) (hj : j ≤ k) : Mx B G m j n R h w := by
  obtain ⟨f, hf, hf'⟩ := H.outer
  exact ⟨⟨f, hf, fun i hi => hf' i (by omega)⟩, fun i hi => H.row i (by omega), H.geG, fun i hi => H.ge i (by omega), fun i hi j hj => H.inj i (by omega) j (by omega), fun i hi => H.ne i (by omega), by have := H.le; omega⟩

set_option maxHeartbeats 4000000 in
set_option maxRecDepth 100000 in
theorem oneForm_any {D : FD} (hD : D ∈ fieldsL) {ao : Option Addr} {m n ca : Nat} {A : Nat → Option Addr} {N C : Nat → Nat} {Z : Nat → Nat → Int} {w : World} (h : CdZ D ao m n A N C Z w) :
    Calls Try.prog 96 #[.int .i64 D.q, .int .i64 (n : Nat), .slice ao m ca] w fun e w' => ∃ k R ro rc, e = .returned (.agg #[.int .i64 D.q, .int .i64 (n : Nat), .slice ro k rc]) ∧ MV w.heap.size (.slice ro k rc) k n R w' ∧ Red D n m (mzc N Z) k R ∧ Below w.heap.size w w' := by
  obtain ⟨wa, hwa⟩ : ∃ wa, wa = w.alloc (.cells #[.int .i64 0, .int .i64 0, .slice none 0 0] 51) := ⟨_, rfl⟩
  have hba : Below w.heap.size w wa := by rw [hwa]; exact (Below.refl _ _).alloc (Nat.le_refl _) _
  have HA : Hid (D ∈ fieldsL ∧ CdZ D ao m n A N C Z w ∧ Below w.heap.size w wa ∧ RB w.heap.size wa ∧ w.heap.size < wa.heap.size) := ⟨hD, h, hba, by rw [hwa]; exact RB.new _ _ _ _, by rw [hwa]; simp⟩
  have hm := h.few (fld hD)
  clear hD h hba
  go_enter Try.func96, Try.ntmps96
  go_wp2_with fail
  rw [← hwa]
  clear hwa
  refine (mreduce_any HA.out.1 (HA.out.2.1.mat.below HA.out.2.2.1) hm).mono ?_
  rintro e w1 ⟨hb1, hr⟩
  rcases hr with ⟨h0, _⟩ | ⟨_, G, k, R', p, h', pv, W, rfl, hG, hW, hkm, hmx, hpv, hre, hsp⟩
  · exact absurd HA.out.2.1.chk h0
  · have H1 : Hid (MV wa.heap.size (.slice (some ⟨G, 0, none⟩) k m) k n R' w1 ∧ Red D n m (mzc N Z) k R' ∧ Below w.heap.size w w1 ∧ RB w.heap.size w1) := by
      rcases Nat.eq_zero_or_pos m with e | e
      · have hk0 : k = 0 := by omega
        subst hk0
        exact ⟨Or.inl ⟨rfl, _, _, rfl⟩, ⟨p, rre_none _ _ _ _, hsp⟩, bel_up' HA.out.2.2.1 hb1, HA.out.2.2.2.1.keep hb1⟩
      · have hWn : W = n := by rw [hW e, HA.out.2.1.wd e]
        subst hWn
        exact ⟨Or.inr ⟨G, m, m, h', rfl, hmx.less hkm⟩, ⟨p, hre, hsp⟩, bel_up' HA.out.2.2.1 hb1, HA.out.2.2.2.1.keep hb1⟩
    clear hb1 hG hW hkm hmx hpv hre hsp
    obtain ⟨⟨x0, c0⟩, ⟨x1, c1⟩, ⟨x2, c2⟩, f0, f1, f2⟩ := H1.out.2.2.2
    go_wp2
    obtain ⟨w2, hw2⟩ : ∃ w2, w2 = laid w1 w.heap.size D.q n (.slice (some ⟨G, 0, none⟩) k m) := ⟨_, rfl⟩
    have H2 : Hid (CB w.heap.size D.q n (.slice (some ⟨G, 0, none⟩) k m) w2 ∧ MV w.heap.size (.slice (some ⟨G, 0, none⟩) k m) k n R' w2 ∧ Below w.heap.size w w2) := by
      rw [hw2]
      exact ⟨laid_cb H1.out.2.2.2 _ _ _, (laid_mv H1.out.1 HA.out.2.2.2.2 _ _ _).mono (by have := HA.out.2.2.2.2; omega), laid_below H1.out.2.2.1 (Nat.le_refl _) _ _ _⟩
    unfold laid at hw2
    rw [← hw2]
    clear hw2 c0 c1 c2 f0 f1 f2
    obtain ⟨c0, c1, c2⟩ := H2.out.1
    refine bodyPost_ret (v := .agg #[.int .i64 D.q, .int .i64 (n : Nat), .slice (some ⟨G, 0, none⟩) k m]) (by simp [results, Try.results96, go_sem, c0, c1, c2]) rfl ?_
    exact ⟨k, R', _, _, rfl, H2.out.2.1, H1.out.2.1, H2.out.2.2⟩
end Go.Proofs.Ytbofcldmgjeklaa

/- Codes: the rows that tell one place each (unit), and the dual. -/
namespace Go.Proofs.Ytbofcldmgjeklaa
open Go.RowKit Go.Sort

theorem MV.form {B : Nat} {v : Value} {k n : Nat} {R : Nat → Nat → Nat} {w : World} (h : MV B v k n R w) : ∃ ro rc, v = .slice ro k rc := by
  rcases h with ⟨e, ao, ca, ev⟩ | ⟨G, mc, m, hh, ev, hm⟩
  · rw [e]; exact ⟨ao, ca, ev⟩
  · exact ⟨_, _, ev⟩

end Go.Proofs.Ytbofcldmgjeklaa

/- Codes: a word, and another one so many times (span.Plus). -/
namespace Go.Proofs.Ytbofcldmgjeklaa
open Go.RowKit Go.Sort

end Go.Proofs.Ytbofcldmgjeklaa

/- Sums of codes: plain mathematics. -/
namespace Go.Proofs.Ytbofcldmgjeklaa
open Go.RowKit

end Go.Proofs.Ytbofcldmgjeklaa
