/- Texts of ours, one behind the other: W6 U20 U21 U22. -/
import Derived.Test.YthmjdcajaoilgakZU18
import Derived.WalkMore
import Derived.ScopeJumps
import Derived.Deep.LoopGhost
/- Lists of lists of numbers that a call makes for itself: one list more. -/
namespace Go.Proofs.Ythmjdcajaoilgak
open Go.RowKit

theorem Try.infoSl : (Try.prog.info? 22).map (fun i => (i.zero, i.size, i.bytes)) = some (some (.slice none 0 0), 1, 24) := by kernel_rfl

/-- The slice v of slices, made behind block number base, holds the slices l. -/
def OwnV (base : Nat) (v : Value) (l : List Value) (w : World) : Prop := w.ownsRow base 22 1 v l.length l
theorem OwnV.nil (base : Nat) (w : World) : OwnV base (.slice none 0 0) [] w := World.ownsRow_nil _ _ _ _
theorem OwnV.below {base B : Nat} {v : Value} {l : List Value} {w w' : World} (h : OwnV base v l w) (hb : Below B w w') (hB : w.heap.size ≤ B) : OwnV base v l w' := by
  obtain ⟨h1, h2⟩ := h
  refine ⟨h1, ?_⟩
  rcases h2 with h2 | ⟨g, cap, cur, hv, hg, hh, r⟩
  · exact Or.inl h2
  · exact Or.inr ⟨g, cap, cur, hv, hg, by rw [hb.block g (Nat.lt_of_lt_of_le (lt_of_block hh) hB)]; exact hh, r⟩
theorem OwnV.mono {base base' : Nat} {v : Value} {l : List Value} {w : World} (h : OwnV base v l w) (hb : base' ≤ base) : OwnV base' v l w := by
  obtain ⟨h1, h2⟩ := h
  refine ⟨h1, ?_⟩
  rcases h2 with h2 | ⟨g, cap, cur, hv, hg, r⟩
  · exact Or.inl h2
  · exact Or.inr ⟨g, cap, cur, hv, by omega, r⟩
/-- Opened: where it lies. -/
theorem OwnV.open {base : Nat} {v : Value} {l : List Value} {w : World} (h : OwnV base v l w) : ∃ ao cap, v = .slice ao l.length cap ∧ (ao = none → cap = 0) ∧ LtB ao w.heap.size ∧ GeB ao base ∧
    ∀ (j : Nat) (u : Value), l[j]? = some u → ∃ g, ao = some ⟨g, 0, none⟩ ∧ w.cell? ⟨g, j, none⟩ = some u ∧ w.frozen? ⟨g, j, none⟩ = false := by
  rcases h.2 with ⟨h1, h2⟩ | ⟨g, cap, cur, hv, hg, hh, hle, hcm, hsz, htake⟩
  · refine ⟨none, 0, by rw [h1, h2], fun _ => rfl, fun x hx => (by cases hx), fun x hx => (by cases hx), fun j u hj => ?_⟩
    rw [List.length_eq_zero_iff.1 h2] at hj
    simp at hj
  · refine ⟨_, cap, hv, fun e => (by cases e), fun x hx => (by cases hx; exact lt_of_block hh), fun x hx => (by cases hx; exact hg), fun j u hj => ⟨g, rfl, ?_, frozen_of_row w g j cur 22 hh⟩⟩
    have hj' := (List.getElem?_eq_some_iff.1 hj).1
    rw [cell_of_row w g j cur 22 (0, 0) hh, ← Array.getElem?_toList]
    have h3 : (cur.toList.take (l.length * 1))[j]? = l[j]? := by rw [htake]
    rw [List.getElem?_take, if_pos (by omega)] at h3
    rw [h3]; exact hj

/-- 'l = append(l, y)', l a slice of slices of the call's own. -/
theorem append_sl {ops : Array Oper} {rest : List Oper} {o : Oper} {a : Act} {w : World} {Q : Exit → Act → World → Prop} (hgd : o.guard = none) (s x : Operand)
    (ho : o.op = .call { callee := .builtin .append, args := #[s, x], argTypes := #[43, 43] })
    (base : Nat) (v : Value) (l : List Value) (hs : a.eval s = v) (hown : OwnV base v l w) (ad : Addr) (c : Nat) (y : Value) (hy : y.oneCell' = true) (hx : a.eval x = .slice (some ad) 1 c) (hcell : w.cell? ad = some y)
    (hlen : l.length ≤ 1000000) (hbase : base ≤ w.heap.size)
    (h : ∀ v' w', OwnV base v' (l ++ [y]) w' → w.grownBy w' v.ownBlock → wpList Try.prog ops Q rest (a.put o.dst v') w') : wpList Try.prog ops Q (o :: rest) a w := by
  obtain ⟨i0, hi, hz0, hz1, hz2⟩ := info_parts Try.infoSl
  refine wpList_append_own _ hgd s x 43 ho base 22 i0 (.slice none 0 0) 1 24 Try.underlying43 hi hz0 hz1 hz2 rfl (by decide) v l.length _ hs hown ad 1 c [y] hx rfl ?_ ?_ ?_ ?_ hbase ?_
  · intro j u hj
    match j, hj with
    | 0, hj =>
      simp at hj; subst hj
      have : ad.add 0 = ad := by cases ad with | mk b o s => cases s <;> simp [Addr.add]
      rw [this]; exact hcell
  · intro u hu; simp at hu; subst hu; exact hy
  · unfold maxLen; omega
  · omega
  · intro v' w' hown' hgrow _
    refine h v' w' ?_ hgrow
    unfold OwnV
    rw [List.length_append]
    exact hown'

/-- A row of numbers is no row of slices. -/
theorem Row.apart {base g N : Nat} {c : Nat → Nat} {v : Value} {l : List Value} {w : World} (h : Row g N c w) (ho : OwnV base v l w) : some g ≠ v.ownBlock := by
  obtain ⟨cap, f, ⟨cs, h1, _⟩, _⟩ := h
  rcases ho.2 with ⟨h2, _⟩ | ⟨g', cap', cur, hv, _, hh, _⟩
  · rw [h2]; intro e; cases e
  · rw [hv]
    intro e
    have e : some g = some g' := e
    cases e
    rw [h1] at hh
    simp at hh
/-- The slice v is polynomial p (its degree, its coefficients), in a row of numbers. -/
def Elm (v : Value) (p : Nat × (Nat → Nat)) (w : World) : Prop := ∃ g cap, v = .slice (some ⟨g, 0, none⟩) (p.1 + 1) cap ∧ p.1 + 1 ≤ cap ∧ cap ≤ 9223372036854775807 ∧ Row g (p.1 + 1) p.2 w
theorem Elm.one {v : Value} {p : Nat × (Nat → Nat)} {w : World} (h : Elm v p w) : v.oneCell' = true := by
  obtain ⟨g, cap, rfl, _⟩ := h
  rfl
theorem Elm.below {v : Value} {p : Nat × (Nat → Nat)} {w w' : World} (h : Elm v p w) {B : Nat} (hb : Below B w w') (hB : w.heap.size ≤ B) : Elm v p w' := by
  obtain ⟨g, cap, e, h1, h2, hr⟩ := h
  exact ⟨g, cap, e, h1, h2, hr.below hb (Nat.lt_of_lt_of_le hr.lt hB)⟩
theorem Elm.grown {base : Nat} {u v : Value} {p : Nat × (Nat → Nat)} {l : List Value} {w w' : World} (h : Elm u p w) (ho : OwnV base v l w) (hg : w.grownBy w' v.ownBlock) : Elm u p w' := by
  obtain ⟨g, cap, e, h1, h2, hr⟩ := h
  exact ⟨g, cap, e, h1, h2, hr.other (hg.block g hr.lt (hr.apart ho))⟩
theorem OwnP.elm {base d : Nat} {v : Value} {c : Nat → Nat} {w : World} (h : OwnP base v (d + 1) c w) : Elm v (d, c) w := by
  obtain ⟨ao, cap, hv, h1, h2, _, _, _, hr⟩ := h
  obtain ⟨g, e, hrow⟩ := hr (by omega)
  exact ⟨g, cap, by rw [hv, e], h1, h2, hrow⟩
theorem Elm.sl {v : Value} {p : Nat × (Nat → Nat)} {w : World} (h : Elm v p w) : ∃ ao cap, v = .slice ao (p.1 + 1) cap ∧ p.1 + 1 ≤ cap ∧ cap ≤ 9223372036854775807 ∧ Sl ao (p.1 + 1) p.2 w ∧ LtB ao w.heap.size ∧ (ao = none → cap = 0) := by
  obtain ⟨g, cap, e, h1, h2, hr⟩ := h
  exact ⟨_, cap, e, h1, h2, hr.sl (Nat.le_refl _), fun x hx => (by cases hx; exact hr.lt), fun e => (by cases e)⟩
/-- Slice by slice. -/
def Elms (l : List Value) (L : List (Nat × (Nat → Nat))) (w : World) : Prop := l.length = L.length ∧ ∀ (j : Nat) (v : Value) (p : Nat × (Nat → Nat)), l[j]? = some v → L[j]? = some p → Elm v p w
theorem Elms.nil (w : World) : Elms [] [] w := ⟨rfl, fun j v p h _ => by simp at h⟩
theorem Elms.snoc {l : List Value} {L : List (Nat × (Nat → Nat))} {v : Value} {p : Nat × (Nat → Nat)} {w : World} (h : Elms l L w) (hv : Elm v p w) : Elms (l ++ [v]) (L ++ [p]) w := by
  refine ⟨by rw [List.length_append, List.length_append, h.1]; rfl, fun j u r hu hr => ?_⟩
  by_cases hj : j < l.length
  · rw [List.getElem?_append_left hj] at hu
    rw [List.getElem?_append_left (by rw [← h.1]; exact hj)] at hr
    exact h.2 j u r hu hr
  · rw [List.getElem?_append_right (by omega)] at hu
    rw [List.getElem?_append_right (by rw [← h.1]; omega), ← h.1] at hr
    cases hk : j - l.length with
    | zero =>
      rw [hk] at hu hr
      simp at hu hr
      subst hu; subst hr; exact hv
    | succ k =>
      rw [hk] at hu
      simp at hu
theorem Elms.below {l : List Value} {L : List (Nat × (Nat → Nat))} {w w' : World} (h : Elms l L w) {B : Nat} (hb : Below B w w') (hB : w.heap.size ≤ B) : Elms l L w' := ⟨h.1, fun j v p hv hp => (h.2 j v p hv hp).below hb hB⟩
theorem Elms.grown {base : Nat} {v : Value} {l' l : List Value} {L : List (Nat × (Nat → Nat))} {w w' : World} (h : Elms l L w) (ho : OwnV base v l' w) (hg : w.grownBy w' v.ownBlock) : Elms l L w' := ⟨h.1, fun j u p hu hp => (h.2 j u p hu hp).grown ho hg⟩
/-- The list of lists v, made behind block number base: the polynomials L. -/
def LLs (base : Nat) (v : Value) (L : List (Nat × (Nat → Nat))) (w : World) : Prop := ∃ l, OwnV base v l w ∧ Elms l L w
theorem LLs.nil (base : Nat) (w : World) : LLs base (.slice none 0 0) [] w := ⟨[], OwnV.nil _ _, Elms.nil _⟩
theorem LLs.below {base B : Nat} {v : Value} {L : List (Nat × (Nat → Nat))} {w w' : World} (h : LLs base v L w) (hb : Below B w w') (hB : w.heap.size ≤ B) : LLs base v L w' := by
  obtain ⟨l, h1, h2⟩ := h
  exact ⟨l, h1.below hb hB, h2.below hb hB⟩
theorem LLs.mono {base base' : Nat} {v : Value} {L : List (Nat × (Nat → Nat))} {w : World} (h : LLs base v L w) (hb : base' ≤ base) : LLs base' v L w := by
  obtain ⟨l, h1, h2⟩ := h
  exact ⟨l, h1.mono hb, h2⟩
end Go.Proofs.Ythmjdcajaoilgak

/- The program's parts of a polynomial: what is kept, a division. -/
namespace Go.Proofs.Ythmjdcajaoilgak
open Go.RowKit

/-- While a0 is parted: a is left, x is tried next; nothing ahead of x divides a. -/
structure PSt (D : FD) (a0 a x : Nat → Nat) (L : List (Nat × (Nat → Nat))) (da dx : Nat) : Prop where
  mna : Mn D da a
  mnx : Mn D dx x
  pos : 1 ≤ dx
  pre : Pre D L a0 a
  none : ∀ e y, 1 ≤ e → Mn D e y → Bef D e y dx x → ¬ PD D y a

theorem pst_first {D : FD} {a0 x : Nat → Nat} {da : Nat} (h0 : Mn D da a0) (hx : Mn D 1 x) (h1 : dnum D.q x 1 = 0) : PSt D a0 a0 x [] da 1 := by
  refine ⟨h0, hx, Nat.le_refl _, rfl, fun e y he _ hb => ?_⟩
  rcases hb with hb | ⟨_, hb⟩ <;> omega
theorem pst_start {D : FD} {a0 x : Nat → Nat} {da dx : Nat} (h0 : Mn D da a0) (hx : Mn D dx x) (h : Aft D 0 pone dx x) : dx = 1 ∧ PSt D a0 a0 x [] da dx := by
  rcases h with ⟨e, h1⟩ | ⟨e, _, h1⟩
  · rw [e] at h1
    have h1 : 0 = 0 + 1 := h1
    omega
  · subst e
    exact ⟨rfl, pst_first h0 hx h1⟩
theorem pst_found {D : FD} (hD : D ∈ fieldsL) {a0 a x b : Nat → Nat} {L : List (Nat × (Nat → Nat))} {da dx m : Nat} (h : PSt D a0 a x L da dx) (hb : El D b) (hm : Bd m b) (e : a = pmul D m b x) : ∃ db, Mn D db b ∧ da = db + dx ∧ PSt D a0 b x (L ++ [(dx, x)]) db dx := by
  have F := fld hD
  obtain ⟨db, h1, h2⟩ := mn_quot hD h.mna h.mnx hb hm e
  have hpd : PD D b a := pd_other F hb hm h.mnx.el h.mnx.bd e
  refine ⟨db, h1, h2, h1, h.mnx, h.pos, ?_, fun e' y he hy hbf hd => h.none e' y he hy hbf (PD.trans F hpd hd)⟩
  exact pre_snoc ⟨h.mnx, h.pos, ⟨m, b, hb, hm, e⟩, fun e' y he hy hd hbf => h.none e' y he hy hbf hd⟩ hb hm e L a0 h.pre
/-- A polynomial's place among all. -/
def FD.key (D : FD) (d : Nat) (x : Nat → Nat) : Nat := D.q ^ d + dnum D.q x d
theorem pst_next {D : FD} (F : Fld D) {a0 a x x' : Nat → Nat} {L : List (Nat × (Nat → Nat))} {da dx dx' : Nat} (h : PSt D a0 a x L da dx) (hn : ¬ PD D x a) (hx' : Mn D dx' x') (ha : Aft D dx x dx' x') : PSt D a0 a x' L da dx' ∧ D.key dx x < D.key dx' x' ∧ dx ≤ dx' ∧ dx' ≤ dx + 1 := by
  have h2 := F.q2
  have hle : dx ≤ dx' ∧ dx' ≤ dx + 1 := by rcases ha with ⟨e, _⟩ | ⟨e, _⟩ <;> omega
  refine ⟨⟨h.mna, hx', by have := h.pos; omega, h.pre, fun e y he hy hb hd => ?_⟩, ?_, hle⟩
  · rcases bef_aft ha h.mnx hy hb with h1 | ⟨_, h1⟩
    · exact h.none e y he hy h1 hd
    · rw [h1] at hd; exact hn hd
  · unfold FD.key
    rcases ha with ⟨e, h1⟩ | ⟨e, h1, h3⟩
    · rw [h1, e]; omega
    · rw [h3, e, Nat.pow_succ]
      have : D.q ^ dx * 2 ≤ D.q ^ dx * D.q := Nat.mul_le_mul_left _ h2
      omega
theorem pst_end {D : FD} (hD : D ∈ fieldsL) {a0 a x : Nat → Nat} {L : List (Nat × (Nat → Nat))} {da dx : Nat} (h : PSt D a0 a x L da dx) (hd : da < 2 * dx) (h1 : 1 ≤ da) : Pre D (L ++ [(da, a)]) a0 pone :=
  pre_whole (fld hD) (lst_last hD h.mna h1 (fun e y he hy h2 => h.none e y he hy (Or.inl (by omega)))) h.pre
theorem pst_end0 {D : FD} {a0 a x : Nat → Nat} {L : List (Nat × (Nat → Nat))} {dx : Nat} (h : PSt D a0 a x L 0 dx) : Pre D L a0 pone := by
  have := h.pre
  rwa [mn_zero h.mna] at this
theorem key_lt {D : FD} (F : Fld D) {dx : Nat} {x : Nat → Nat} (h : Mn D dx x) (hd : dx ≤ 200) : D.key dx x < D.q ^ 250 := by
  have h2 := F.q2
  have h1 := dnum_lt (q := D.q) (c := x) dx (fun i _ => h.el i)
  have h3 : D.q ^ dx * 2 ≤ D.q ^ dx * D.q := Nat.mul_le_mul_left _ h2
  have h4 : D.q ^ (dx + 1) ≤ D.q ^ 250 := Nat.pow_le_pow_right (by omega) (by omega)
  rw [Nat.pow_succ] at h4
  unfold FD.key
  omega

/-- What a division tells. -/
theorem div_mn {D : FD} (hD : D ∈ fieldsL) {a x : Nat → Nat} {da dx : Nat} (ha : Mn D da a) (hx : Mn D dx x) :
    (PD D x a ∧ ∃ db, Mn D db (divQ D x dx (D.iv (x dx)) (da + 1 - dx) a) ∧ da = db + dx ∧ dgn (divQ D x dx (D.iv (x dx)) (da + 1 - dx) a) (da + 1 - dx) = db + 1 ∧ a = pmul D (da + 1 - dx) (divQ D x dx (D.iv (x dx)) (da + 1 - dx) a) x ∧ dgn (divR D x dx (D.iv (x dx)) (da + 1 - dx) a) (da + 1) = 0) ∨
    (¬ PD D x a ∧ dgn (divR D x dx (D.iv (x dx)) (da + 1 - dx) a) (da + 1) ≠ 0) := by
  have F := fld hD
  have hi : D.mul (x dx) (D.iv (x dx)) = 1 := iv_is hD (hx.el dx) (by rw [hx.top]; omega)
  have hbd : Bd (da + 1 - dx + dx) a := ha.bd.mono (by omega)
  have hr := rest_nil F hx.el hx.bd hi ha.el hbd
  by_cases h : PD D x a
  · refine Or.inl ⟨h, ?_⟩
    have e := hr.2 h
    have i := div_is F (b := x) (l := dx) (inv := D.iv (x dx)) (da + 1 - dx) ha.el
    rw [e, padd_nil F (el_mul F _ _ _)] at i
    obtain ⟨db, h1, h2⟩ := mn_quot hD ha hx (el_divQ F _ _) (divQ_bd _ _) i.symm
    refine ⟨db, h1, h2, h1.trd.dgn (by omega), i.symm, ?_⟩
    rw [e]
    exact Nat.le_zero.1 (by rw [dgn_from (c := pnil) (n := 0) (fun _ _ => rfl) (by omega)]; exact dgn_le _ _)
  · refine Or.inr ⟨h, fun e => h (hr.1 ?_)⟩
    have hb : Bd (da + 1) (divR D x dx (D.iv (x dx)) (da + 1 - dx) a) := by
      by_cases hd : dx ≤ da + 1
      · exact (divR_bd F hx.el hx.bd hi (da + 1 - dx) ha.el hbd).mono hd
      · rw [show da + 1 - dx = 0 from by omega]; exact ha.bd
    have := dgn_bd hb
    rw [e] at this
    exact bd_nil_of this

theorem div_found {F T : Nat} {D : FD} (hD : D ∈ fieldsL) {g : Nat → Value} {w : World} (h : FAt F T D g w) {va vd : Value} {a x : Nat → Nat} {da dx : Nat} (ha : Mn D da a) (hx : Mn D dx x) (hva : Elm va (da, a) w) (hvd : Elm vd (dx, x) w) (h1 : da ≤ 500) (h2 : dx ≤ 500) :
    Calls Try.prog 88 #[.pointer (some ⟨F, 0, none⟩), va, vd] w fun e w' => ∃ vq vr, e = .returned (.tuple #[vq, vr]) ∧ Below w.heap.size w w' ∧
      ((∃ db b ro rc, vr = .slice ro 0 rc ∧ Elm vq (db, b) w' ∧ Mn D db b ∧ da = db + dx ∧ a = pmul D (db + 1) b x) ∨ (¬ PD D x a ∧ ∃ ro rn rc, vr = .slice ro (rn + 1) rc)) := by
  obtain ⟨ao, ca, rfl, _, _, hsa, hla, hna⟩ := hva.sl
  obtain ⟨xo, cx, rfl, _, _, hsx, hlx, _⟩ := hvd.sl
  refine (divide_any hD h (show da + 1 ≤ 1000 by omega) (show dx < 1000 by omega) ha.el hx.el ha.bd hx.bd (by rw [hx.top]; omega) hsa hsx hla hlx hna).mono ?_
  rintro e w' ⟨vq, vr, rfl, hq, hr, hb⟩
  refine ⟨vq, vr, rfl, hb, ?_⟩
  rcases div_mn hD ha hx with ⟨_, db, h3, h4, h5, h6, h7⟩ | ⟨h3, h4⟩
  · rw [h5] at hq
    rw [h7] at hr
    obtain ⟨ro, rc, hv, _⟩ := hr.open
    exact Or.inl ⟨db, _, ro, rc, hv, hq.elm, h3, h4, by rw [show db + 1 = da + 1 - dx from by omega]; exact h6⟩
  · obtain ⟨ro, rc, hv, _⟩ := hr.open
    exact Or.inr ⟨h3, ro, _, rc, by rw [hv, show dgn (divR D x dx (D.iv (x dx)) (da + 1 - dx) a) (da + 1) = (dgn (divR D x dx (D.iv (x dx)) (da + 1 - dx) a) (da + 1) - 1) + 1 from by omega]⟩
end Go.Proofs.Ythmjdcajaoilgak

/- The program's parts of a polynomial: the walk (parts). -/
namespace Go.Proofs.Ythmjdcajaoilgak
open Go.RowKit

/-- A scope that begins with its only label: what holds at the label, each time. -/
theorem scope_again {P : Program} {Q : Exit → Act → World → Prop} {a : Act} {w : World} {rest : Code} (l : Nat) (J : Act → World → Prop) (m : Act → World → Nat) (hJ : J a w)
    (pass : ∀ a w, J a w → rest.wp P (Exit.jump l (fun a' w' => J a' w' ∧ m a' w' < m a w) Q) a w) : (Code.scope ((Code.label l).seq rest)).wp P Q a w := by
  refine wp_scope_jumps l J m (rest := Code.skip.seq rest) (by simp [findLabel]) ?_ (fun a w h => wp_seq (wp_skip (pass a w h)))
  refine wp_seq (wp_label ?_)
  refine wp_mono (pass a w hJ) ?_
  intro e a' w' h
  cases e with
  | goto l' => exact ⟨h.1, h.2.1⟩
  | normal => exact h
  | exit id => exact h
  | ret => exact h
  | panic ch => exact h
  | outgrown => exact h

theorem OwnV.open_ge {base : Nat} {v : Value} {l : List Value} {w : World} (h : OwnV base v l w) : ∀ k, v.ownBlock = some k → base ≤ k := by
  intro k hk
  rcases h.2 with ⟨h1, _⟩ | ⟨g, cap, cur, hv, hg, _⟩
  · rw [h1] at hk; cases hk
  · rw [hv] at hk
    have hk : some g = some k := hk
    cases hk; exact hg

end Go.Proofs.Ythmjdcajaoilgak

/- The program's polynomials: the calls that are listed: Through, Factors, Irreducible. -/
namespace Go.Proofs.Ythmjdcajaoilgak
open Go.RowKit

set_option maxHeartbeats 2000000 in
set_option maxRecDepth 100000 in
theorem through_none (q : Int) (h : ∀ D ∈ fieldsL, (D.q : Int) ≠ q) (ao bo : Option Addr) (n m ca cb : Nat) (w : World) :
    Calls Try.prog 61 #[.int .i64 q, .slice ao n ca, .slice bo m cb] w fun e w' => e = .returned (.tuple #[.slice none 0 0, .int .i64 1]) ∧ Below w.heap.size w w' := by
  have HB : Hid (∀ D ∈ fieldsL, (D.q : Int) ≠ q) := h
  clear h
  go_enter Try.func61, Try.ntmps61
  go_wp2_with fail
  refine (over_none q HB.out _ 2 2 _ _ (by omega) (cell_of_row _ _ _ _ _ (0, 0) (two_new _))).mono ?_
  rintro e w' ⟨rfl, rfl⟩
  go_wp2
  go_ret2
  exact ⟨rfl, (Below.refl _ _).alloc (Nat.le_refl _) _⟩

set_option maxHeartbeats 4000000 in
set_option maxRecDepth 100000 in
theorem through_all {D : FD} (hD : D ∈ fieldsL) {ao bo : Option Addr} {n m ca cb : Nat} {z y : Nat → Int} {w : World} (ha : Arg ao n ca z w) (hb : Arg bo m cb y w) :
    Calls Try.prog 61 #[.int .i64 D.q, .slice ao n ca, .slice bo m cb] w fun e w' => Below w.heap.size w w' ∧
      ((D.chk2 n z m y = 0 ∧ n = m ∧ ¬ Twice (zc n z) n ∧ ∃ v lo co, e = .returned (.tuple #[v, .int .i64 0]) ∧ OwnP w.heap.size v lo co w' ∧ lo ≤ n ∧ El D co ∧ Trd lo co ∧ ∀ j, j < n → D.vl co (zc n z j) = zc m y j) ∨
       (D.chk2 n z m y = 0 ∧ n = m ∧ Twice (zc n z) n ∧ e = .returned (.tuple #[.slice none 0 0, .int .i64 7])) ∨
       (D.chk2 n z m y = 0 ∧ n ≠ m ∧ e = .returned (.tuple #[.slice none 0 0, .int .i64 6])) ∨ (D.chk2 n z m y ≠ 0 ∧ e = .returned (.tuple #[.slice none 0 0, .int .i64 (D.chk2 n z m y)]))) := by
  have HA : Hid (Arg ao n ca z w ∧ Arg bo m cb y w ∧ D ∈ fieldsL) := ⟨ha, hb, hD⟩
  clear ha hb hD
  go_enter Try.func61, Try.ntmps61
  go_wp2_with fail
  refine (over2_any HA.out.2.2 HA.out.1 HA.out.2.1).mono ?_
  rintro e w1 ⟨hb1, hr⟩
  rcases hr with ⟨h0, F, T, f, rfl, hat, hF, hT⟩ | ⟨h0, rfl⟩
  · have HW : Hid (D.chk2 n z m y = 0 ∧ FAt F T D f w1 ∧ Below w.heap.size w w1 ∧ Arg ao n ca z w1 ∧ Arg bo m cb y w1) := ⟨h0, hat, hb1, HA.out.1.below hb1, HA.out.2.1.below hb1⟩
    clear h0 hat hF hT hb1
    have c0 := chk2_zero HW.out.1
    have hn128 := (chk_zero c0.1).1
    have HN : Hid (D.chk n z = 0 ∧ D.chk m y = 0) := c0
    clear c0
    by_cases hnm : n = m
    · have hz : ((n : Int) != (m : Int)) = false := by rw [hnm]; simp
      have HNM : Hid (n = m) := hnm
      clear hnm
      have HH : Hid (Calls Try.prog 86 #[.slice ao n ca] w1 fun e w' => (∃ b, e = .returned (.bool b) ∧ (b = true ↔ Twice (zc n z) n)) ∧ Below w1.heap.size w1 w') := by
        have hF := fld HA.out.2.2
        exact hasTwice_any (zc_sl HN.out.1 HW.out.2.2.2.1.sl) (by omega) HW.out.2.2.2.1.lt (fun j => Nat.lt_of_lt_of_le (zc_el hF HN.out.1 j) hF.q64)
      go_wp2_with fail
      refine HH.out.mono ?_
      rintro e w2 ⟨⟨b, rfl, hbt⟩, hb2⟩
      have HB2 : Hid ((b = true ↔ Twice (zc n z) n) ∧ Below w1.heap.size w1 w2) := ⟨hbt, hb2⟩
      clear hbt hb2 HH
      cases b with
      | true =>
        go_wp2
        go_ret2
        exact ⟨bel_up HW.out.2.2.1 HB2.out.2, Or.inr (Or.inl ⟨HW.out.1, HNM.out, HB2.out.1.1 (by trivial), rfl⟩)⟩
      | false =>
        have HT : Hid (Calls Try.prog 87 #[.pointer (some ⟨F, 0, none⟩), .slice ao n ca, .slice bo m cb] w2 fun e w' => ∃ v lo co, e = .returned v ∧ OwnP w2.heap.size v lo co w' ∧ lo ≤ n ∧ El D co ∧ Trd lo co ∧ (∀ j, j < n → D.vl co (zc n z j) = zc m y j) ∧ Below w2.heap.size w2 w') := by
          have hF := fld HA.out.2.2
          have hnt : ¬ Twice (zc n z) n := fun h => (by have := HB2.out.1.2 h; cases this)
          have a2 := HW.out.2.2.2.1.below HB2.out.2
          have b2 := HW.out.2.2.2.2.below HB2.out.2
          show Calls _ _ _ _ _
          rw [show (Value.slice bo m cb) = .slice bo n cb from by rw [HNM.out]]
          exact through_any HA.out.2.2 (HW.out.2.1.below HB2.out.2 HW.out.2.1.ltF HW.out.2.1.ltT) hn128 (zc_sl HN.out.1 a2.sl) ((zc_sl HN.out.2 b2.sl).less (by rw [HNM.out]; exact Nat.le_refl _)) a2.lt b2.lt (fun j _ => zc_el hF HN.out.1 j) (fun j _ => zc_el hF HN.out.2 j) hnt
        go_wp2_with fail
        refine HT.out.mono ?_
        rintro e w3 ⟨v, lo, co, rfl, hown, hlo, hel, htr, hat, hb3⟩
        have hs1 := HW.out.2.2.1.size
        have hs2 := HB2.out.2.size
        have HR : Hid (OwnP w.heap.size v lo co w3 ∧ lo ≤ n ∧ El D co ∧ Trd lo co ∧ (∀ j, j < n → D.vl co (zc n z j) = zc m y j) ∧ Below w.heap.size w w3) := ⟨hown.mono (by omega), hlo, hel, htr, hat, bel_up (bel_up HW.out.2.2.1 HB2.out.2) hb3⟩
        clear hown hlo hel htr hat hb3 HT
        go_wp2
        go_ret2
        exact ⟨HR.out.2.2.2.2.2, Or.inl ⟨HW.out.1, HNM.out, fun h => (by have := HB2.out.1.2 h; cases this), v, lo, co, rfl, HR.out.1, HR.out.2.1, HR.out.2.2.1, HR.out.2.2.2.1, HR.out.2.2.2.2.1⟩⟩
    · have hz : ((n : Int) != (m : Int)) = true := by rw [bne_iff_ne]; omega
      have HNM : Hid (n ≠ m) := hnm
      clear hnm
      go_wp2
      go_ret2
      exact ⟨HW.out.2.2.1, Or.inr (Or.inr (Or.inl ⟨HW.out.1, HNM.out, rfl⟩))⟩
  · have HW : Hid (D.chk2 n z m y ≠ 0 ∧ Below w.heap.size w w1) := ⟨h0, hb1⟩
    obtain ⟨e, he⟩ : ∃ e, e = D.chk2 n z m y := ⟨_, rfl⟩
    rw [← he] at h0 ⊢
    have hz : (e != 0) = true := by rw [bne_iff_ne]; exact h0
    have HE : Hid (e = D.chk2 n z m y) := he
    clear h0 hb1 he
    go_wp2
    go_ret2
    exact ⟨HW.out.2, Or.inr (Or.inr (Or.inr ⟨HW.out.1, by rw [← HE.out]; rfl⟩))⟩

theorem mon_mn {D : FD} (hD : D ∈ fieldsL) {c : Nat → Nat} {l : Nat} (he : El D c) (ht : Trd (l + 1) c) : Mn D l (D.mon c (l + 1)) := by
  have F := fld hD
  refine ⟨mon_el hD _ _, (mon_trd hD he ht).1, ?_⟩
  show D.mul (D.iv (c l)) (c l) = 1
  rw [F.mul_comm]
  exact iv_is hD (he l) (ht.2 (by omega))

/-- What Factors says of a list: its error, the parts. -/
def FacSpec (D : FD) (n : Nat) (z : Nat → Int) (er : Int) (L : List (Nat × (Nat → Nat))) : Prop :=
  (D.chk n z = 0 ∧ dgn (zc n z) n ≠ 0 ∧ D.q ^ ((dgn (zc n z) n - 1) / 2) ≤ 4096 ∧ er = 0 ∧ Pre D L (D.mon (zc n z) (dgn (zc n z) n)) pone) ∨
  (D.chk n z = 0 ∧ dgn (zc n z) n ≠ 0 ∧ 4096 < D.q ^ ((dgn (zc n z) n - 1) / 2) ∧ er = 4 ∧ L = []) ∨ (D.chk n z = 0 ∧ dgn (zc n z) n = 0 ∧ er = 5 ∧ L = []) ∨ (D.chk n z ≠ 0 ∧ er = D.chk n z ∧ L = [])
theorem facSpec_uniq {D : FD} (F : Fld D) {n : Nat} {z : Nat → Int} {er er' : Int} {L L' : List (Nat × (Nat → Nat))} (h : FacSpec D n z er L) (h' : FacSpec D n z er' L') : er = er' ∧ L = L' := by
  rcases h with ⟨h1, h2, h3, h4, h5⟩ | ⟨h1, h2, h3, h4, h5⟩ | ⟨h1, h2, h4, h5⟩ | ⟨h1, h4, h5⟩ <;>
  rcases h' with ⟨k1, k2, k3, k4, k5⟩ | ⟨k1, k2, k3, k4, k5⟩ | ⟨k1, k2, k4, k5⟩ | ⟨k1, k4, k5⟩ <;>
  first
  | (exfalso; omega)
  | exact ⟨by rw [h4, k4], pre_uniq F _ _ _ h5 k5⟩
  | exact ⟨by rw [h4, k4], by rw [h5, k5]⟩
theorem LLs.slice {base : Nat} {v : Value} {L : List (Nat × (Nat → Nat))} {w : World} (h : LLs base v L w) : ∃ ao cap, v = .slice ao L.length cap := by
  obtain ⟨l, h1, h2⟩ := h
  obtain ⟨ao, cap, hv, _⟩ := h1.open
  exact ⟨ao, cap, by rw [hv, h2.1]⟩

end Go.Proofs.Ythmjdcajaoilgak
