/- The program's parts of a polynomial: what is kept, a division. -/
import Derived.Test.YtillljojdnofgaaZW6
namespace Go.Proofs.Ytillljojdnofgaa
open Go.RowKit

/-- While a0 is parted: a is left, x is tried next; nothing ahead of x divides a. -/
structure PSt (D : FD) (a0 a x : Nat → Nat) (L : List (Nat × (Nat → Nat))) (da dx : Nat) : Prop where
  mna : Mn D da a
  mnx : Mn D dx x
  pos : 1 ≤ dx
  pre : Pre D L a0 a
  none : ∀ e y, 1 ≤ e → Mn D e y → Bef D e y dx x → ¬ PD D y a

theorem pst_first {D : FD} {a0 x : Nat → Nat} {da : Nat} (h0 : Mn D da a0) (hx : Mn D 1 x) (h1 : dnum D.q x 1 = 0) : PSt D a0 a0 x [] da 1 := by
  refine ⟨h0, hx, Nat.le_refl _, rfl, fun e y he _ hb => ?_⟩
  rcases hb with hb | ⟨_, hb⟩ <;> omega
theorem pst_start {D : FD} {a0 x : Nat → Nat} {da dx : Nat} (h0 : Mn D da a0) (hx : Mn D dx x) (h : Aft D 0 pone dx x) : dx = 1 ∧ PSt D a0 a0 x [] da dx := by
  rcases h with ⟨e, h1⟩ | ⟨e, _, h1⟩
  · rw [e] at h1
    have h1 : 0 = 0 + 1 := h1
    omega
  · subst e
    exact ⟨rfl, pst_first h0 hx h1⟩
theorem pst_found {D : FD} (hD : D ∈ fieldsL) {a0 a x b : Nat → Nat} {L : List (Nat × (Nat → Nat))} {da dx m : Nat} (h : PSt D a0 a x L da dx) (hb : El D b) (hm : Bd m b) (e : a = pmul D m b x) : ∃ db, Mn D db b ∧ da = db + dx ∧ PSt D a0 b x (L ++ [(dx, x)]) db dx := by
  have F := fld hD
  obtain ⟨db, h1, h2⟩ := mn_quot hD h.mna h.mnx hb hm e
  have hpd : PD D b a := pd_other F hb hm h.mnx.el h.mnx.bd e
  refine ⟨db, h1, h2, h1, h.mnx, h.pos, ?_, fun e' y he hy hbf hd => h.none e' y he hy hbf (PD.trans F hpd hd)⟩
  exact pre_snoc ⟨h.mnx, h.pos, ⟨m, b, hb, hm, e⟩, fun e' y he hy hd hbf => h.none e' y he hy hbf hd⟩ hb hm e L a0 h.pre
/-- A polynomial's place among all. -/
def FD.key (D : FD) (d : Nat) (x : Nat → Nat) : Nat := D.q ^ d + dnum D.q x d
theorem pst_next {D : FD} (F : Fld D) {a0 a x x' : Nat → Nat} {L : List (Nat × (Nat → Nat))} {da dx dx' : Nat} (h : PSt D a0 a x L da dx) (hn : ¬ PD D x a) (hx' : Mn D dx' x') (ha : Aft D dx x dx' x') : PSt D a0 a x' L da dx' ∧ D.key dx x < D.key dx' x' ∧ dx ≤ dx' ∧ dx' ≤ dx + 1 := by
  have h2 := F.q2
  have hle : dx ≤ dx' ∧ dx' ≤ dx + 1 := by rcases ha with ⟨e, _⟩ | ⟨e, _⟩ <;> omega
  refine ⟨⟨h.mna, hx', by have := h.pos; omega, h.pre, fun e y he hy hb hd => ?_⟩, ?_, hle⟩
  · rcases bef_aft ha h.mnx hy hb with h1 | ⟨_, h1⟩
    · exact h.none e y he hy h1 hd
    · rw [h1] at hd; exact hn hd
  · unfold FD.key
    rcases ha with ⟨e, h1⟩ | ⟨e, h1, h3⟩
    · rw [h1, e]; omega
    · rw [h3, e, Nat.pow_succ]
      have : D.q ^ dx * 2 ≤ D.q ^ dx * D.q := Nat.mul_le_mul_left _ h2
      omega
theorem pst_end {D : FD} (hD : D ∈ fieldsL) {a0 a x : Nat → Nat} {L : List (Nat × (Nat → Nat))} {da dx : Nat} (h : PSt D a0 a x L da dx) (hd : da < 2 * dx) (h1 : 1 ≤ da) : Pre D (L ++ [(da, a)]) a0 pone :=
  pre_whole (fld hD) (lst_last hD h.mna h1 (fun e y he hy h2 => h.none e y he hy (Or.inl (by omega)))) h.pre
theorem pst_end0 {D : FD} {a0 a x : Nat → Nat} {L : List (Nat × (Nat → Nat))} {dx : Nat} (h : PSt D a0 a x L 0 dx) : Pre D L a0 pone := by
  have := h.pre
  rwa [mn_zero h.mna] at this
theorem key_lt {D : FD} (F : Fld D) {dx : Nat} {x : Nat → Nat} (h : Mn D dx x) (hd : dx ≤ 200) : D.key dx x < D.q ^ 250 := by
  have h2 := F.q2
  have h1 := dnum_lt (q := D.q) (c := x) dx (fun i _ => h.el i)
  have h3 : D.q ^ dx * 2 ≤ D.q ^ dx * D.q := Nat.mul_le_mul_left _ h2
  have h4 : D.q ^ (dx + 1) ≤ D.q ^ 250 := Nat.pow_le_pow_right (by omega) (by omega)
  rw [Nat.pow_succ] at h4
  unfold FD.key
  omega

/-- What a division tells. -/
theorem div_mn {D : FD} (hD : D ∈ fieldsL) {a x : Nat → Nat} {da dx : Nat} (ha : Mn D da a) (hx : Mn D dx x) :
    (PD D x a ∧ ∃ db, Mn D db (divQ D x dx (D.iv (x dx)) (da + 1 - dx) a) ∧ da = db + dx ∧ dgn (divQ D x dx (D.iv (x dx)) (da + 1 - dx) a) (da + 1 - dx) = db + 1 ∧ a = pmul D (da + 1 - dx) (divQ D x dx (D.iv (x dx)) (da + 1 - dx) a) x ∧ dgn (divR D x dx (D.iv (x dx)) (da + 1 - dx) a) (da + 1) = 0) ∨
    (¬ PD D x a ∧ dgn (divR D x dx (D.iv (x dx)) (da + 1 - dx) a) (da + 1) ≠ 0) := by
  have F := fld hD
  have hi : D.mul (x dx) (D.iv (x dx)) = 1 := iv_is hD (hx.el dx) (by rw [hx.top]; omega)
  have hbd : Bd (da + 1 - dx + dx) a := ha.bd.mono (by omega)
  have hr := rest_nil F hx.el hx.bd hi ha.el hbd
  by_cases h : PD D x a
  · refine Or.inl ⟨h, ?_⟩
    have e := hr.2 h
    have i := div_is F (b := x) (l := dx) (inv := D.iv (x dx)) (da + 1 - dx) ha.el
    rw [e, padd_nil F (el_mul F _ _ _)] at i
    obtain ⟨db, h1, h2⟩ := mn_quot hD ha hx (el_divQ F _ _) (divQ_bd _ _) i.symm
    refine ⟨db, h1, h2, h1.trd.dgn (by omega), i.symm, ?_⟩
    rw [e]
    exact Nat.le_zero.1 (by rw [dgn_from (c := pnil) (n := 0) (fun _ _ => rfl) (by omega)]; exact dgn_le _ _)
  · refine Or.inr ⟨h, fun e => h (hr.1 ?_)⟩
    have hb : Bd (da + 1) (divR D x dx (D.iv (x dx)) (da + 1 - dx) a) := by
      by_cases hd : dx ≤ da + 1
      · exact (divR_bd F hx.el hx.bd hi (da + 1 - dx) ha.el hbd).mono hd
      · rw [show da + 1 - dx = 0 from by omega]; exact ha.bd
    have := dgn_bd hb
    rw [e] at this
    exact bd_nil_of this

theorem div_found {F T : Nat} {D : FD} (hD : D ∈ fieldsL) {g : Nat → Value} {w : World} (h : FAt F T D g w) {va vd : Value} {a x : Nat → Nat} {da dx : Nat} (ha : Mn D da a) (hx : Mn D dx x) (hva : Elm va (da, a) w) (hvd : Elm vd (dx, x) w) (h1 : da ≤ 500) (h2 : dx ≤ 500) :
    Calls Try.prog 92 #[.pointer (some ⟨F, 0, none⟩), va, vd] w fun e w' => ∃ vq vr, e = .returned (.tuple #[vq, vr]) ∧ Below w.heap.size w w' ∧
      ((∃ db b ro rc, vr = .slice ro 0 rc ∧ Elm vq (db, b) w' ∧ Mn D db b ∧ da = db + dx ∧ a = pmul D (db + 1) b x) ∨ (¬ PD D x a ∧ ∃ ro rn rc, vr = .slice ro (rn + 1) rc)) := by
  obtain ⟨ao, ca, rfl, _, _, hsa, hla, hna⟩ := hva.sl
  obtain ⟨xo, cx, rfl, _, _, hsx, hlx, _⟩ := hvd.sl
  refine (divide_any hD h (show da + 1 ≤ 1000 by omega) (show dx < 1000 by omega) ha.el hx.el ha.bd hx.bd (by rw [hx.top]; omega) hsa hsx hla hlx hna).mono ?_
  rintro e w' ⟨vq, vr, rfl, hq, hr, hb⟩
  refine ⟨vq, vr, rfl, hb, ?_⟩
  rcases div_mn hD ha hx with ⟨_, db, h3, h4, h5, h6, h7⟩ | ⟨h3, h4⟩
  · rw [h5] at hq
    rw [h7] at hr
    obtain ⟨ro, rc, hv, _⟩ := hr.open
    exact Or.inl ⟨db, _, ro, rc, hv, hq.elm, h3, h4, by rw [show db + 1 = da + 1 - dx from by omega]; exact h6⟩
  · obtain ⟨ro, rc, hv, _⟩ := hr.open
    exact Or.inr ⟨h3, ro, _, rc, by rw [hv, show dgn (divR D x dx (D.iv (x dx)) (da + 1 - dx) a) (da + 1) = (dgn (divR D x dx (D.iv (x dx)) (da + 1 - dx) a) (da + 1) - 1) + 1 from by omega]⟩
end Go.Proofs.Ytillljojdnofgaa
