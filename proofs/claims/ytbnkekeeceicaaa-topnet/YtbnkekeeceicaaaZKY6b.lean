/- Nets: the fronts when one last vector is another. -/
import Derived.Test.YtbnkekeeceicaaaZKY4
namespace Go.Proofs.Ytbnkekeeceicaaa
open Go.RowKit Go.Sort Go.Maps

/-- All blocks but own ones lie as they lay. -/
structure Kps (own : Nat → Prop) (X Y : World) : Prop where
  os : Y.os = X.os
  tape : Y.tape = X.tape
  output : Y.output = X.output
  size : X.heap.size ≤ Y.heap.size
  same : ∀ k, k < X.heap.size → ¬ own k → Y.heap[k]? = X.heap[k]?
theorem Kps.refl (own : Nat → Prop) (X : World) : Kps own X X := ⟨rfl, rfl, rfl, Nat.le_refl _, fun _ _ _ => rfl⟩
theorem Kps.trans {own : Nat → Prop} {X Y Z : World} (h : Kps own X Y) (k : Kps own Y Z) : Kps own X Z :=
  ⟨k.os.trans h.os, k.tape.trans h.tape, k.output.trans h.output, Nat.le_trans h.size k.size, fun i hi hn => (k.same i (Nat.lt_of_lt_of_le hi h.size) hn).trans (h.same i hi hn)⟩
theorem Kps.of_below {own : Nat → Prop} {X Y : World} (h : Below X.heap.size X Y) : Kps own X Y := ⟨h.os, h.tape, h.output, h.size, fun k hk _ => h.block k hk⟩
theorem Kps.setCell {own : Nat → Prop} (X : World) (a : Addr) (v : Value) (hl : own a.block) : Kps own X (X.setCell a v) :=
  ⟨rfl, rfl, rfl, by simp [World.setCell], fun k _ hn => Below.heap_setCell X a v k (fun e => hn (by rw [e]; exact hl))⟩
theorem Kps.below {own : Nat → Prop} {X Y : World} (h : Kps own X Y) {B : Nat} (hB : B ≤ X.heap.size) (hn : ∀ k, k < B → ¬ own k) : Below B X Y := ⟨h.os, h.tape, h.output, h.size, fun k hk => h.same k (by omega) (hn k hk)⟩
/-- Rows of a list of the call's own, handed in. -/
theorem ownV_mat {base h : Nat} {v : Value} {a : Nat → Nat} {R : Nat → Nat → Nat} {l : List Nat} {w : World} (ho : OwnV base v (rowsN (fun s => some ⟨a s, 0, none⟩) (fun _ => h) (fun _ => h) l) w) (hr : ∀ s ∈ l, Row (a s) h (R s) w) (hh : h ≤ 64) :
    ∃ vo vc, v = .slice vo l.length vc ∧ l.length ≤ vc ∧ MatZ vo l.length (fun k => some ⟨a (l.getD k 0), 0, none⟩) (fun _ => h) (fun _ => h) (fun r c => ((R (l.getD r 0) c : Nat) : Int)) w := by
  have hlen : (rowsN (fun s => some ⟨a s, 0, none⟩) (fun _ => h) (fun _ => h) l).length = l.length := by unfold rowsN; exact List.length_map ..
  obtain ⟨vo, vc, hv, hvn, _, _, hc⟩ := ho.open
  have hle : l.length ≤ vc := by
    rcases ho.2 with ⟨h1, h2⟩ | ⟨g, cap, cur, hv2, hg, hh2, hle, _⟩
    · rw [hlen] at h2; omega
    · rw [hv] at hv2
      cases hv2
      rw [hlen] at hle
      omega
  rw [hlen] at hv
  refine ⟨vo, vc, hv, hle, fun k hk => ?_, fun k hk => (hr _ (getD_inl hk)).sl (Nat.le_refl _), fun _ _ => Nat.le_refl _, fun _ _ => by show h ≤ _; omega, fun _ _ e => (by cases e), fun _ _ => by show h ≤ _; omega⟩
  have hg : (rowsN (fun s => some ⟨a s, 0, none⟩) (fun _ => h) (fun _ => h) l)[k]? = some (.slice (some ⟨a (l.getD k 0), 0, none⟩) h h) := by
    unfold rowsN
    rw [List.getElem?_map, List.getD_eq_getElem?_getD, List.getElem?_eq_getElem hk]; rfl
  obtain ⟨g, e, h1, _⟩ := hc k _ hg
  exact ⟨g, 0, e, by rw [Nat.zero_add]; exact h1⟩
theorem rowF_ne_row {G m g n : Nat} {f : Nat → Value} {c : Nat → Nat} {w : World} (h : RowF G m 22 f w) (r : Row g n c w) : g ≠ G := by
  intro e
  obtain ⟨cs, h1, _⟩ := h
  obtain ⟨cap, f2, ⟨cs2, h2, _⟩, _⟩ := r
  rw [e, h1] at h2
  injection h2 with h3
  injection h3 with h4 h5
  exact absurd h5 (by decide)
theorem rowF_ne_map {G m B : Nat} {f : Nat → Value} {L : List Nat} {c : Nat → Int} {w : World} (h : RowF G m 22 f w) (r : MapN B L c w) : B ≠ G := by
  intro e
  obtain ⟨cs, h1, _⟩ := h
  obtain ⟨D, ⟨es, clock, hb, _⟩, _⟩ := r
  rw [e, h1] at hb
  cases hb
theorem rowF_ne_cell {G m b o : Nat} {f : Nat → Value} {v : Value} {w : World} (h : RowF G m 22 f w) (r : w.cell? ⟨b, o, none⟩ = some v) (hn : ∀ j, j < m → f j ≠ v) : b ≠ G := by
  intro e
  rw [e] at r
  obtain ⟨cs, h1, h2, h3⟩ := h
  rw [cell_of_row w G o cs 22 (0, 0) h1] at r
  have ho : o < m := by
    rcases Nat.lt_or_ge o m with q | q
    · exact q
    · rw [Array.getElem?_eq_none (by omega)] at r; cases r
  rw [h3 o ho] at r
  exact hn o ho (Option.some.inj r)
/-- One last vector is another. -/
theorem Frs.put {fb k h : Nat} {mb lb : Nat → Nat} {vb : Nat → Nat → Nat} {As : Nat → List Nat} {wy : Nat → Nat → Nat} {L : Nat → Nat → Nat → Nat} {w : World} (H : Frs fb k h mb lb vb As wy L w) {i y gx : Nat} {o : Nat → Nat} (hi : i < k) (hR : Row gx h o w) :
    Frs fb k h mb lb (fun s j => if s = i ∧ j = y then gx else vb s j) As wy (fun s j => if s = i ∧ j = y then o else L s j) (w.setCell ⟨lb i, y, none⟩ (.slice (some ⟨gx, 0, none⟩) h h)) := by
  have hfb : fb ≠ lb i := rowF_ne_cell (H.rows i hi) (H.c0 i hi) (fun j hj q => by cases q)
  refine ⟨fun s hs => ?_, fun s hs => ?_, fun s hs => ?_, fun s hs => ?_, fun s hs j hj => ?_, H.inj⟩
  · rw [World.cell?_setCell_far _ _ _ _ (Ne.symm hfb)]; exact H.c0 s hs
  · rw [World.cell?_setCell_far _ _ _ _ (Ne.symm hfb)]; exact H.c1 s hs
  · exact (H.mp s hs).same (Below.heap_setCell w ⟨lb i, y, none⟩ _ (mb s) (rowF_ne_map (H.rows i hi) (H.mp s hs)))
  · by_cases e : s = i
    · subst e
      refine ((H.rows s hs).store y (.slice (some ⟨gx, 0, none⟩) h h)).congr (fun j _ => ?_)
      unfold upd
      by_cases e2 : j = y
      · rw [if_pos e2, if_pos ⟨rfl, e2⟩]
      · rw [if_neg e2, if_neg (fun q => e2 q.2)]
    · refine ((H.rows s hs).other (Below.heap_setCell w ⟨lb i, y, none⟩ _ (lb s) (fun q => e (H.inj s hs i hi q)))).congr (fun j _ => ?_)
      rw [if_neg (fun q => e q.1)]
  · have hk : ∀ {g : Nat} {c : Nat → Nat}, Row g h c w → Row g h c (w.setCell ⟨lb i, y, none⟩ (.slice (some ⟨gx, 0, none⟩) h h)) := fun r => r.other (Below.heap_setCell w ⟨lb i, y, none⟩ _ _ (rowF_ne_row (H.rows i hi) r))
    by_cases e : s = i ∧ j = y
    · rw [if_pos e, if_pos e]; exact hk hR
    · rw [if_neg e, if_neg e]; exact hk (H.vec s hs j hj)
/-- The vectors' blocks, and the vectors, when i fronts have been led over the edge e. -/
def psV (As : Nat → List Nat) (wy : Nat → Nat → Nat) (e gx : Nat) (vb : Nat → Nat → Nat) (i : Nat) : Nat → Nat → Nat := fun s j => if (s < i ∧ e ∈ As s) ∧ j = wy s e then gx else vb s j
def psL (As : Nat → List Nat) (wy : Nat → Nat → Nat) (e : Nat) (o : Nat → Nat) (L : Nat → Nat → Nat → Nat) (i : Nat) : Nat → Nat → Nat → Nat := fun s j => if (s < i ∧ e ∈ As s) ∧ j = wy s e then o else L s j
theorem ps_iff {As : Nat → List Nat} {wy : Nat → Nat → Nat} {e i s j : Nat} (hin : e ∈ As i) : ((s < i + 1 ∧ e ∈ As s) ∧ j = wy s e) ↔ ((s = i ∧ j = wy i e) ∨ ((s < i ∧ e ∈ As s) ∧ j = wy s e)) := by
  constructor
  · rintro ⟨⟨h1, h2⟩, h3⟩
    by_cases q : s = i
    · subst q; exact Or.inl ⟨rfl, h3⟩
    · exact Or.inr ⟨⟨by omega, h2⟩, h3⟩
  · rintro (⟨h1, h2⟩ | ⟨⟨h1, h2⟩, h3⟩)
    · subst h1; exact ⟨⟨by omega, hin⟩, h2⟩
    · exact ⟨⟨by omega, h2⟩, h3⟩
theorem psV_put {As : Nat → List Nat} {wy : Nat → Nat → Nat} {e gx i : Nat} {vb : Nat → Nat → Nat} (hin : e ∈ As i) : (fun s j => if s = i ∧ j = wy i e then gx else psV As wy e gx vb i s j) = psV As wy e gx vb (i + 1) := by
  funext s j
  unfold psV
  have := ps_iff (wy := wy) (s := s) (j := j) hin
  by_cases q : s = i ∧ j = wy i e
  · rw [if_pos q, if_pos (this.2 (Or.inl q))]
  · rw [if_neg q]
    by_cases r : (s < i ∧ e ∈ As s) ∧ j = wy s e
    · rw [if_pos r, if_pos (this.2 (Or.inr r))]
    · rw [if_neg r, if_neg (fun c => (this.1 c).elim q r)]
theorem psL_put {As : Nat → List Nat} {wy : Nat → Nat → Nat} {e i : Nat} {o : Nat → Nat} {L : Nat → Nat → Nat → Nat} (hin : e ∈ As i) : (fun s j => if s = i ∧ j = wy i e then o else psL As wy e o L i s j) = psL As wy e o L (i + 1) := by
  funext s j
  unfold psL
  have := ps_iff (wy := wy) (s := s) (j := j) hin
  by_cases q : s = i ∧ j = wy i e
  · rw [if_pos q, if_pos (this.2 (Or.inl q))]
  · rw [if_neg q]
    by_cases r : (s < i ∧ e ∈ As s) ∧ j = wy s e
    · rw [if_pos r, if_pos (this.2 (Or.inr r))]
    · rw [if_neg r, if_neg (fun c => (this.1 c).elim q r)]
theorem ps_skip {As : Nat → List Nat} {wy : Nat → Nat → Nat} {e i s j : Nat} (hin : e ∉ As i) : ((s < i + 1 ∧ e ∈ As s) ∧ j = wy s e) ↔ ((s < i ∧ e ∈ As s) ∧ j = wy s e) := by
  constructor
  · rintro ⟨⟨h1, h2⟩, h3⟩
    refine ⟨⟨?_, h2⟩, h3⟩
    by_cases q : s = i
    · subst q; exact absurd h2 hin
    · omega
  · rintro ⟨⟨h1, h2⟩, h3⟩
    exact ⟨⟨by omega, h2⟩, h3⟩
theorem psV_skip {As : Nat → List Nat} {wy : Nat → Nat → Nat} {e gx i : Nat} {vb : Nat → Nat → Nat} (hin : e ∉ As i) : psV As wy e gx vb (i + 1) = psV As wy e gx vb i := by
  funext s j
  unfold psV
  simp only [ps_skip hin]
theorem psL_skip {As : Nat → List Nat} {wy : Nat → Nat → Nat} {e i : Nat} {o : Nat → Nat} {L : Nat → Nat → Nat → Nat} (hin : e ∉ As i) : psL As wy e o L (i + 1) = psL As wy e o L i := by
  funext s j
  unfold psL
  simp only [ps_skip hin]
theorem psV_zero (As : Nat → List Nat) (wy : Nat → Nat → Nat) (e gx : Nat) (vb : Nat → Nat → Nat) : psV As wy e gx vb 0 = vb := by
  funext s j
  unfold psV
  rw [if_neg (fun q => by omega)]
theorem psL_zero (As : Nat → List Nat) (wy : Nat → Nat → Nat) (e : Nat) (o : Nat → Nat) (L : Nat → Nat → Nat → Nat) : psL As wy e o L 0 = L := by
  funext s j
  unfold psL
  rw [if_neg (fun q => by omega)]
/-- What pass tells. -/
structure PsP (D : FD) (fb k h e : Nat) (mb lb : Nat → Nat) (vb : Nat → Nat → Nat) (As : Nat → List Nat) (wy : Nat → Nat → Nat) (L : Nat → Nat → Nat → Nat) (W : World) (gx : Nat) (o : Nat → Nat) (w' : World) : Prop where
  ge : W.heap.size ≤ gx
  row : Row gx h o w'
  el : El D o
  bd : Bd h o
  spn : Spn D (fun v => ∃ s, s < k ∧ e ∈ As s ∧ v = L s (wy s e)) o
  frs : Frs fb k h mb lb (psV As wy e gx vb k) As wy (psL As wy e o L k) w'
  bas : ∀ s, s < k → Bas D h (psL As wy e o L k s) ∧ ∀ j, j < h → Bd h (psL As wy e o L k s j)
  kps : Kps (fun b => ∃ s, s < k ∧ b = lb s) W w'
def PsQ (D : FD) (fb k h e : Nat) (mb lb : Nat → Nat) (vb : Nat → Nat → Nat) (As : Nat → List Nat) (wy : Nat → Nat → Nat) (L : Nat → Nat → Nat → Nat) (W : World) (r : Ending) (w' : World) : Prop := ∃ gx o, r = .returned (.slice (some ⟨gx, 0, none⟩) h h) ∧ PsP D fb k h e mb lb vb As wy L W gx o w'
theorem ps_bas {D : FD} (hD : D ∈ fieldsL) {k h e : Nat} {As : Nat → List Nat} {wy : Nat → Nat → Nat} {L : Nat → Nat → Nat → Nat} {o : Nat → Nat} {Y : Nat → Nat → Nat} (hw : ∀ s, s < k → e ∈ As s → wy s e < h) (hB : ∀ s, s < k → Bas D h (L s)) (hBd : ∀ s, s < k → ∀ j, j < h → Bd h (L s j)) (eo : El D o) (bo : Bd h o) (hY : ∀ s ∈ tkL As e k, (∀ j, j < h → dot D (L s j) (Y s) h = if j = wy s e then 1 else 0) ∧ dot D o (Y s) h ≠ 0) : ∀ s, s < k → Bas D h (psL As wy e o L k s) ∧ ∀ j, j < h → Bd h (psL As wy e o L k s j) := by
  intro s hs
  by_cases c : e ∈ As s
  · have e1 : psL As wy e o L k s = fun j => if j = wy s e then o else L s j := by
      funext j
      unfold psL
      by_cases q : j = wy s e
      · rw [if_pos q, if_pos ⟨⟨hs, c⟩, q⟩]
      · rw [if_neg q, if_neg (fun r => q r.2)]
    have h1 := hY s (tkL_in c k hs)
    rw [e1]
    refine ⟨(hB s hs).swap hD (hw s hs c) eo h1.1 h1.2, fun j hj => ?_⟩
    show Bd h (if j = wy s e then o else L s j)
    split
    · exact bo
    · exact hBd s hs j hj
  · have e1 : psL As wy e o L k s = L s := by
      funext j
      unfold psL
      rw [if_neg (fun r => c r.1.2)]
    rw [e1]
    exact ⟨hB s hs, hBd s hs⟩
end Go.Proofs.Ytbnkekeeceicaaa
