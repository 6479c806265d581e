/- Texts of ours, one behind the other: U20 U21 U22 W7 V9 V10. -/
import Derived.Test.YtpccbiinfdppnabZV7
import Derived.WalkMore
import Derived.ScopeJumps
import Derived.Deep.LoopGhost
import Derived.Deep.CutBlock
import Derived.Deep.DeepCutAuto
/- The program's parts of a polynomial: what is kept, a division. -/
namespace Go.Proofs.Ytpccbiinfdppnab
open Go.RowKit

/-- While a0 is parted: a is left, x is tried next; nothing ahead of x divides a. -/
structure PSt (D : FD) (a0 a x : Nat → Nat) (L : List (Nat × (Nat → Nat))) (da dx : Nat) : Prop where
  mna : Mn D da a
  mnx : Mn D dx x
  pos : 1 ≤ dx
  pre : Pre D L a0 a
  none : ∀ e y, 1 ≤ e → Mn D e y → Bef D e y dx x → ¬ PD D y a

theorem pst_first {D : FD} {a0 x : Nat → Nat} {da : Nat} (h0 : Mn D da a0) (hx : Mn D 1 x) (h1 : dnum D.q x 1 = 0) : PSt D a0 a0 x [] da 1 := by
  refine ⟨h0, hx, Nat.le_refl _, rfl, fun e y he _ hb => ?_⟩
  rcases hb with hb | ⟨_, hb⟩ <;> omega
theorem pst_start {D : FD} {a0 x : Nat → Nat} {da dx : Nat} (h0 : Mn D da a0) (hx : Mn D dx x) (h : Aft D 0 pone dx x) : dx = 1 ∧ PSt D a0 a0 x [] da dx := by
  rcases h with ⟨e, h1⟩ | ⟨e, _, h1⟩
  · rw [e] at h1
    have h1 : 0 = 0 + 1 := h1
    omega
  · subst e
    exact ⟨rfl, pst_first h0 hx h1⟩
theorem pst_found {D : FD} (hD : D ∈ fieldsL) {a0 a x b : Nat → Nat} {L : List (Nat × (Nat → Nat))} {da dx m : Nat} (h : PSt D a0 a x L da dx) (hb : El D b) (hm : Bd m b) (e : a = pmul D m b x) : ∃ db, Mn D db b ∧ da = db + dx ∧ PSt D a0 b x (L ++ [(dx, x)]) db dx := by
  have F := fld hD
  obtain ⟨db, h1, h2⟩ := mn_quot hD h.mna h.mnx hb hm e
  have hpd : PD D b a := pd_other F hb hm h.mnx.el h.mnx.bd e
  refine ⟨db, h1, h2, h1, h.mnx, h.pos, ?_, fun e' y he hy hbf hd => h.none e' y he hy hbf (PD.trans F hpd hd)⟩
  exact pre_snoc ⟨h.mnx, h.pos, ⟨m, b, hb, hm, e⟩, fun e' y he hy hd hbf => h.none e' y he hy hbf hd⟩ hb hm e L a0 h.pre
/-- A polynomial's place among all. -/
def FD.key (D : FD) (d : Nat) (x : Nat → Nat) : Nat := D.q ^ d + dnum D.q x d
theorem pst_next {D : FD} (F : Fld D) {a0 a x x' : Nat → Nat} {L : List (Nat × (Nat → Nat))} {da dx dx' : Nat} (h : PSt D a0 a x L da dx) (hn : ¬ PD D x a) (hx' : Mn D dx' x') (ha : Aft D dx x dx' x') : PSt D a0 a x' L da dx' ∧ D.key dx x < D.key dx' x' ∧ dx ≤ dx' ∧ dx' ≤ dx + 1 := by
  have h2 := F.q2
  have hle : dx ≤ dx' ∧ dx' ≤ dx + 1 := by rcases ha with ⟨e, _⟩ | ⟨e, _⟩ <;> omega
  refine ⟨⟨h.mna, hx', by have := h.pos; omega, h.pre, fun e y he hy hb hd => ?_⟩, ?_, hle⟩
  · rcases bef_aft ha h.mnx hy hb with h1 | ⟨_, h1⟩
    · exact h.none e y he hy h1 hd
    · rw [h1] at hd; exact hn hd
  · unfold FD.key
    rcases ha with ⟨e, h1⟩ | ⟨e, h1, h3⟩
    · rw [h1, e]; omega
    · rw [h3, e, Nat.pow_succ]
      have : D.q ^ dx * 2 ≤ D.q ^ dx * D.q := Nat.mul_le_mul_left _ h2
      omega
theorem pst_end {D : FD} (hD : D ∈ fieldsL) {a0 a x : Nat → Nat} {L : List (Nat × (Nat → Nat))} {da dx : Nat} (h : PSt D a0 a x L da dx) (hd : da < 2 * dx) (h1 : 1 ≤ da) : Pre D (L ++ [(da, a)]) a0 pone :=
  pre_whole (fld hD) (lst_last hD h.mna h1 (fun e y he hy h2 => h.none e y he hy (Or.inl (by omega)))) h.pre
theorem pst_end0 {D : FD} {a0 a x : Nat → Nat} {L : List (Nat × (Nat → Nat))} {dx : Nat} (h : PSt D a0 a x L 0 dx) : Pre D L a0 pone := by
  have := h.pre
  rwa [mn_zero h.mna] at this
theorem key_lt {D : FD} (F : Fld D) {dx : Nat} {x : Nat → Nat} (h : Mn D dx x) (hd : dx ≤ 200) : D.key dx x < D.q ^ 250 := by
  have h2 := F.q2
  have h1 := dnum_lt (q := D.q) (c := x) dx (fun i _ => h.el i)
  have h3 : D.q ^ dx * 2 ≤ D.q ^ dx * D.q := Nat.mul_le_mul_left _ h2
  have h4 : D.q ^ (dx + 1) ≤ D.q ^ 250 := Nat.pow_le_pow_right (by omega) (by omega)
  rw [Nat.pow_succ] at h4
  unfold FD.key
  omega

/-- What a division tells. -/
theorem div_mn {D : FD} (hD : D ∈ fieldsL) {a x : Nat → Nat} {da dx : Nat} (ha : Mn D da a) (hx : Mn D dx x) :
    (PD D x a ∧ ∃ db, Mn D db (divQ D x dx (D.iv (x dx)) (da + 1 - dx) a) ∧ da = db + dx ∧ dgn (divQ D x dx (D.iv (x dx)) (da + 1 - dx) a) (da + 1 - dx) = db + 1 ∧ a = pmul D (da + 1 - dx) (divQ D x dx (D.iv (x dx)) (da + 1 - dx) a) x ∧ dgn (divR D x dx (D.iv (x dx)) (da + 1 - dx) a) (da + 1) = 0) ∨
    (¬ PD D x a ∧ dgn (divR D x dx (D.iv (x dx)) (da + 1 - dx) a) (da + 1) ≠ 0) := by
  have F := fld hD
  have hi : D.mul (x dx) (D.iv (x dx)) = 1 := iv_is hD (hx.el dx) (by rw [hx.top]; omega)
  have hbd : Bd (da + 1 - dx + dx) a := ha.bd.mono (by omega)
  have hr := rest_nil F hx.el hx.bd hi ha.el hbd
  by_cases h : PD D x a
  · refine Or.inl ⟨h, ?_⟩
    have e := hr.2 h
    have i := div_is F (b := x) (l := dx) (inv := D.iv (x dx)) (da + 1 - dx) ha.el
    rw [e, padd_nil F (el_mul F _ _ _)] at i
    obtain ⟨db, h1, h2⟩ := mn_quot hD ha hx (el_divQ F _ _) (divQ_bd _ _) i.symm
    refine ⟨db, h1, h2, h1.trd.dgn (by omega), i.symm, ?_⟩
    rw [e]
    exact Nat.le_zero.1 (by rw [dgn_from (c := pnil) (n := 0) (fun _ _ => rfl) (by omega)]; exact dgn_le _ _)
  · refine Or.inr ⟨h, fun e => h (hr.1 ?_)⟩
    have hb : Bd (da + 1) (divR D x dx (D.iv (x dx)) (da + 1 - dx) a) := by
      by_cases hd : dx ≤ da + 1
      · exact (divR_bd F hx.el hx.bd hi (da + 1 - dx) ha.el hbd).mono hd
      · rw [show da + 1 - dx = 0 from by omega]; exact ha.bd
    have := dgn_bd hb
    rw [e] at this
    exact bd_nil_of this

end Go.Proofs.Ytpccbiinfdppnab

/- The program's parts of a polynomial: the walk (parts). -/
namespace Go.Proofs.Ytpccbiinfdppnab
open Go.RowKit

/-- A scope that begins with its only label: what holds at the label, each time. -/
theorem scope_again {P : Program} {Q : Exit → Act → World → Prop} {a : Act} {w : World} {rest : Code} (l : Nat) (J : Act → World → Prop) (m : Act → World → Nat) (hJ : J a w)
    (pass : ∀ a w, J a w → rest.wp P (Exit.jump l (fun a' w' => J a' w' ∧ m a' w' < m a w) Q) a w) : (Code.scope ((Code.label l).seq rest)).wp P Q a w := by
  refine wp_scope_jumps l J m (rest := Code.skip.seq rest) (by simp [findLabel]) ?_ (fun a w h => wp_seq (wp_skip (pass a w h)))
  refine wp_seq (wp_label ?_)
  refine wp_mono (pass a w hJ) ?_
  intro e a' w' h
  cases e with
  | goto l' => exact ⟨h.1, h.2.1⟩
  | normal => exact h
  | exit id => exact h
  | ret => exact h
  | panic ch => exact h
  | outgrown => exact h

theorem OwnV.open_ge {base : Nat} {v : Value} {l : List Value} {w : World} (h : OwnV base v l w) : ∀ k, v.ownBlock = some k → base ≤ k := by
  intro k hk
  rcases h.2 with ⟨h1, _⟩ | ⟨g, cap, cur, hv, hg, _⟩
  · rw [h1] at hk; cases hk
  · rw [hv] at hk
    have hk : some g = some k := hk
    cases hk; exact hg

end Go.Proofs.Ytpccbiinfdppnab

/- The program's polynomials: the calls that are listed: Through, Factors, Irreducible. -/
namespace Go.Proofs.Ytpccbiinfdppnab
open Go.RowKit

theorem mon_mn {D : FD} (hD : D ∈ fieldsL) {c : Nat → Nat} {l : Nat} (he : El D c) (ht : Trd (l + 1) c) : Mn D l (D.mon c (l + 1)) := by
  have F := fld hD
  refine ⟨mon_el hD _ _, (mon_trd hD he ht).1, ?_⟩
  show D.mul (D.iv (c l)) (c l) = 1
  rw [F.mul_comm]
  exact iv_is hD (he l) (ht.2 (by omega))

/-- What Factors says of a list: its error, the parts. -/
def FacSpec (D : FD) (n : Nat) (z : Nat → Int) (er : Int) (L : List (Nat × (Nat → Nat))) : Prop :=
  (D.chk n z = 0 ∧ dgn (zc n z) n ≠ 0 ∧ D.q ^ ((dgn (zc n z) n - 1) / 2) ≤ 4096 ∧ er = 0 ∧ Pre D L (D.mon (zc n z) (dgn (zc n z) n)) pone) ∨
  (D.chk n z = 0 ∧ dgn (zc n z) n ≠ 0 ∧ 4096 < D.q ^ ((dgn (zc n z) n - 1) / 2) ∧ er = 4 ∧ L = []) ∨ (D.chk n z = 0 ∧ dgn (zc n z) n = 0 ∧ er = 5 ∧ L = []) ∨ (D.chk n z ≠ 0 ∧ er = D.chk n z ∧ L = [])
theorem facSpec_uniq {D : FD} (F : Fld D) {n : Nat} {z : Nat → Int} {er er' : Int} {L L' : List (Nat × (Nat → Nat))} (h : FacSpec D n z er L) (h' : FacSpec D n z er' L') : er = er' ∧ L = L' := by
  rcases h with ⟨h1, h2, h3, h4, h5⟩ | ⟨h1, h2, h3, h4, h5⟩ | ⟨h1, h2, h4, h5⟩ | ⟨h1, h4, h5⟩ <;>
  rcases h' with ⟨k1, k2, k3, k4, k5⟩ | ⟨k1, k2, k3, k4, k5⟩ | ⟨k1, k2, k4, k5⟩ | ⟨k1, k4, k5⟩ <;>
  first
  | (exfalso; omega)
  | exact ⟨by rw [h4, k4], pre_uniq F _ _ _ h5 k5⟩
  | exact ⟨by rw [h4, k4], by rw [h5, k5]⟩
theorem LLs.slice {base : Nat} {v : Value} {L : List (Nat × (Nat → Nat))} {w : World} (h : LLs base v L w) : ∃ ao cap, v = .slice ao L.length cap := by
  obtain ⟨l, h1, h2⟩ := h
  obtain ⟨ao, cap, hv, _⟩ := h1.open
  exact ⟨ao, cap, by rw [hv, h2.1]⟩

end Go.Proofs.Ytpccbiinfdppnab

/- Lists of numbers that a call makes for itself: others' numbers laid behind them (append(v, l...)); a copy, as a plain list. -/
namespace Go.Proofs.Ytpccbiinfdppnab
open Go.RowKit

/-- The first n numbers of z, as a list. -/
def zl (n : Nat) (z : Nat → Int) : List Int := (List.range n).map z
theorem zl_len (n : Nat) (z : Nat → Int) : (zl n z).length = n := by simp [zl]
theorem zl_get (n : Nat) (z : Nat → Int) (j : Nat) (hj : j < n) : (zl n z)[j]? = some (z j) := by
  unfold zl
  rw [List.getElem?_map, List.getElem?_range hj]; rfl
theorem zl_getD (n : Nat) (z : Nat → Int) (j : Nat) (hj : j < n) : (zl n z).getD j 0 = z j := by
  rw [List.getD_eq_getElem?_getD, zl_get n z j hj]; rfl
theorem zl_congr {n : Nat} {z y : Nat → Int} (h : ∀ j, j < n → z j = y j) : zl n z = zl n y := by
  unfold zl
  exact List.map_congr_left (fun j hj => h j (List.mem_range.1 hj))
theorem zl_succ (n : Nat) (z : Nat → Int) : zl (n + 1) z = zl n z ++ [z n] := by
  unfold zl
  rw [List.range_succ, List.map_append]; rfl

/-- 'append(v, l...)', v the call's own list. -/
theorem append_ints {ops : Array Oper} {rest : List Oper} {o : Oper} {a : Act} {w : World} {Q : Exit → Act → World → Prop} (hgd : o.guard = none) (s x : Operand)
    (ho : o.op = .call { callee := .builtin .append, args := #[s, x], argTypes := #[22, 22] })
    (base : Nat) (v : Value) (l : List Int) (hs : a.eval s = v) (hown : OwnI base v l w) (ao : Option Addr) (n sc : Nat) (z : Nat → Int) (hx : a.eval x = .slice ao n sc) (hS : SlZ ao n z w) (hnil : ao = none → sc = 0)
    (hn : l.length + n ≤ 1000000) (hbase : base ≤ w.heap.size)
    (h : ∀ v' w', OwnI base v' (l ++ zl n z) w' → w.grownBy w' v.ownBlock → wpList Try.prog ops Q rest (a.put o.dst v') w') : wpList Try.prog ops Q (o :: rest) a w := by
  obtain ⟨i0, hi, hz0, hz1, hz2⟩ := info_parts Try.infoInt
  cases ao with
  | none =>
    have h0 : n = 0 := by
      rcases Nat.eq_zero_or_pos n with e | e
      · exact e
      · obtain ⟨b, off, h1, _⟩ := hS 0 e
        cases h1
    subst h0
    rw [hnil rfl] at hx
    refine wpList_append_own_none hgd s x 22 ho base 3 i0 1 Try.underlying22 hi v l.length _ hs hown hx ?_
    exact h v w (by have e : l ++ zl 0 z = l := by simp [zl]
                    rw [e]; exact hown) (grown_refl _ _)
  | some ad =>
    refine wpList_append_own _ hgd s x 22 ho base 3 i0 (.int .i64 0) 1 8 Try.underlying22 hi hz0 hz1 hz2 rfl (by decide) v l.length _ hs hown ad n sc ((zl n z).map (Value.int .i64)) hx (by rw [List.length_map, zl_len]; omega) ?_ ?_ ?_ ?_ hbase ?_
    · intro j u hj
      have hj' : j < n := by
        have := (List.getElem?_eq_some_iff.1 hj).1
        rwa [List.length_map, zl_len] at this
      rw [List.getElem?_map, zl_get n z j hj'] at hj
      cases hj
      obtain ⟨b, off, e, hc⟩ := hS j hj'
      cases e
      rw [add_off]; exact hc
    · intro u hu
      obtain ⟨k, _, rfl⟩ := List.mem_map.1 hu
      rfl
    · unfold maxLen; omega
    · omega
    · intro v' w' hown' hgrow _
      refine h v' w' ?_ hgrow
      unfold OwnI
      rw [List.map_append, List.length_append, zl_len]
      exact hown'

set_option maxHeartbeats 1000000 in
set_option maxRecDepth 100000 in
theorem copyI_any {ao : Option Addr} {n cap : Nat} {z : Nat → Int} {w : World} (h : SlZ ao n z w) (hn : n ≤ 1000000) (hnil : ao = none → cap = 0) (hl : LtB ao w.heap.size) :
    Calls Try.prog 91 #[.slice ao n cap] w fun e w' => ∃ v, e = .returned v ∧ OwnI w.heap.size v (zl n z) w' ∧ Below w.heap.size w w' := by
  have HS : Hid (SlZ ao n z w ∧ (ao = none → cap = 0) ∧ LtB ao w.heap.size) := ⟨h, hnil, hl⟩
  clear h hnil hl
  go_enter Try.func91, Try.ntmps91
  go_wp2_with (at_builtin; refine append_ints rfl _ _ rfl w.heap.size _ [] rfl (own_empty (two_new _) (Nat.le_refl _)) ao n cap z rfl (HS.out.1.below ((Below.refl _ _).alloc (Nat.le_refl _) _) HS.out.2.2) HS.out.2.1 (by simpa using hn) (by simp) ?_; intro v' w' hown hgrow)
  go_ret
  exact ⟨_, rfl, hown, ((Below.refl _ _).alloc (Nat.le_refl _) _).grown hgrow (by simp) (by intro k hk; have hk : some w.heap.size = some k := hk; cases hk; exact Nat.le_refl _)⟩

/-- Numbers from 0 on: a polynomial's row. -/
theorem OwnI.ownC {base : Nat} {v : Value} {l : List Int} {w : World} (h : OwnI base v l w) (c : Nat → Nat) (hc : ∀ k, k < l.length → l.getD k 0 = (c k : Nat)) : OwnP base v l.length c w := by
  rcases h.2 with ⟨h1, h2⟩ | ⟨g, cap, cur, hv, hg, hh, hle, hcm, hsz, htake⟩
  · exact ⟨none, 0, by rw [h1, h2], by omega, by omega, fun x hx => (by cases hx), fun x hx => (by cases hx), fun _ => rfl, fun h0 => absurd h0 (by omega)⟩
  · refine ⟨_, cap, hv, hle, by unfold maxLen at hcm; omega, fun x hx => (by cases hx; exact hg), fun x hx => (by cases hx; exact lt_of_block hh), fun e => (by cases e), fun _ => ⟨g, rfl, cap, fun k => (cur[k]?).getD (.int .i64 0), ⟨cur, hh, by omega, fun k hk => ?_⟩, hle, fun k hk => ?_⟩⟩
    · show _ = some (Option.getD _ _)
      rw [Array.getElem?_eq_getElem (by omega)]; rfl
    · have h3 : (cur.toList.take (l.length * 1))[k]? = (l.map (Value.int .i64))[k]? := by rw [htake]
      rw [List.getElem?_take, if_pos (by omega), List.getElem?_map, List.getElem?_eq_getElem hk] at h3
      show (cur[k]?).getD _ = _
      have h4 := hc k hk
      rw [List.getD_eq_getElem?_getD, List.getElem?_eq_getElem hk] at h4
      rw [← Array.getElem?_toList, h3]
      show Value.int .i64 _ = _
      rw [← h4]; rfl
theorem OwnI.block {base : Nat} {v : Value} {l : List Int} {w : World} (h : OwnI base v l w) : ∀ k, v.ownBlock = some k → base ≤ k := fun k hk => (h.lt k hk).1
theorem OwnP.block {base n : Nat} {v : Value} {c : Nat → Nat} {w : World} (h : OwnP base v n c w) : ∀ k, v.ownBlock = some k → base ≤ k := by
  obtain ⟨ao, cap, rfl, _, _, hg, _⟩ := h
  intro k hk
  cases ao with
  | none => cases hk
  | some x =>
    have hk : some x.block = some k := hk
    cases hk
    exact hg x rfl

/-- What lies elsewhere stays where one block is written. -/
theorem Elm.apart {v : Value} {p : Nat × (Nat → Nat)} {w w' : World} {g : Nat} (h : Elm v p w) (hg : w.grownBy w' (some g)) (hne : v.ownBlock ≠ some g) : Elm v p w' := by
  obtain ⟨g', cap, e, h1, h2, hr⟩ := h
  refine ⟨g', cap, e, h1, h2, hr.other (hg.block g' hr.lt ?_)⟩
  intro e'
  rw [e] at hne
  exact hne e'
/-- A list of lists, none of which lies in block g. -/
def LLx (g base : Nat) (v : Value) (L : List (Nat × (Nat → Nat))) (w : World) : Prop := ∃ l, OwnV base v l w ∧ Elms l L w ∧ ∀ u ∈ l, u.ownBlock ≠ some g
theorem LLx.lls {g base : Nat} {v : Value} {L : List (Nat × (Nat → Nat))} {w : World} (h : LLx g base v L w) : LLs base v L w := by
  obtain ⟨l, h1, h2, _⟩ := h
  exact ⟨l, h1, h2⟩
theorem LLx.below {g base B : Nat} {v : Value} {L : List (Nat × (Nat → Nat))} {w w' : World} (h : LLx g base v L w) (hb : Below B w w') (hB : w.heap.size ≤ B) : LLx g base v L w' := by
  obtain ⟨l, h1, h2, h3⟩ := h
  exact ⟨l, h1.below hb hB, h2.below hb hB, h3⟩
theorem LLx.apart {g base N : Nat} {c : Nat → Nat} {v : Value} {L : List (Nat × (Nat → Nat))} {w w' : World} (h : LLx g base v L w) (hr : Row g N c w) (hg : w.grownBy w' (some g)) : LLx g base v L w' := by
  obtain ⟨l, h1, h2, h3⟩ := h
  refine ⟨l, World.ownsRow.kept h1 hg (Or.inr fun e => hr.apart h1 e.symm), ⟨h2.1, fun j u p hu hp => (h2.2 j u p hu hp).apart hg (h3 u (List.mem_of_getElem? hu))⟩, h3⟩
/-- A block that is not there yet holds none of them. -/
theorem LLs.fresh {base : Nat} {v : Value} {L : List (Nat × (Nat → Nat))} {w : World} (h : LLs base v L w) : LLx w.heap.size base v L w := by
  obtain ⟨l, h1, h2⟩ := h
  refine ⟨l, h1, h2, fun u hu => ?_⟩
  obtain ⟨j, hj, e⟩ := List.getElem_of_mem hu
  have hj2 : j < L.length := by rw [← h2.1]; exact hj
  obtain ⟨g', cap, e', _, _, hr⟩ := h2.2 j u L[j] (by rw [List.getElem?_eq_getElem hj, e]) (List.getElem?_eq_getElem hj2)
  rw [e']
  intro x
  have x : some g' = some w.heap.size := x
  cases x
  have := hr.lt
  omega
end Go.Proofs.Ytpccbiinfdppnab

/- The reference's polynomials: the next list (Next), which is ahead (Below). -/
namespace Go.Proofs.Ytpccbiinfdppnab
open Go.RowKit

set_option maxHeartbeats 2000000 in
set_option maxRecDepth 100000 in
theorem rnext_any {D : FD} (hD : D ∈ fieldsL) {g d ca : Nat} {c : Nat → Nat} {w : World} (hc : Mn D d c) (hd : d ≤ 1000) (hr : Row g d c w) :
    Calls Try.prog 112 #[.slice (some ⟨g, 0, none⟩) d ca, .int .i64 D.q] w fun e w' => w.grownBy w' (some g) ∧
      ((e = .returned (.bool true) ∧ ∃ c', Row g d c' w' ∧ Mn D d c' ∧ Aft D d c d c') ∨ (e = .returned (.bool false) ∧ (∀ k, 0 ≤ k → k < d → c k = D.q - 1) ∧ Row g d pnil w')) := by
  have HC : Hid (D ∈ fieldsL ∧ Mn D d c ∧ Row g d c w) := ⟨hD, hc, hr⟩
  have h64 := (fld hD).q64
  clear hD hc hr
  go_enter Try.func112, Try.ntmps112
  go_wp2
  go_loopw [5] (fun i wr => ∃ s : Nat, s ≤ d ∧ i = .int .i64 ((s : Int) - 1) ∧ Hid (∀ k, s ≤ k → k < d → c k = D.q - 1) ∧ Row g d (cnt c d s) wr ∧ w.grownBy wr (some g)) (fun i _ => (intOf i + 1).toNat)
  case atStart => exact ⟨d, Nat.le_refl _, by go_num, fun k h1 h2 => by omega, by rw [cnt_all]; exact HC.out.2.2, grown_refl _ _⟩
  case round =>
    obtain ⟨s, hs, hi, H9, hrow, hgr⟩ := hrel
    have HG : Hid (Row g d (cnt c d s) wr ∧ w.grownBy wr (some g)) := ⟨hrow, hgr⟩
    clear hrow hgr
    cases s with
    | succ s =>
      have hi' : u5 = .int .i64 (s : Int) := by rw [hi]; go_num
      clear hi
      subst hi'
      obtain ⟨x, hx⟩ : ∃ x, x = c s := ⟨_, rfl⟩
      have hxq : x < D.q := by rw [hx]; exact HC.out.2.1.el s
      have hcl : wr.cell? ⟨g, s, none⟩ = some (.int .i64 (x : Nat)) := by rw [HG.out.1.cell s (by omega), cnt_at, hx]
      have hfr := HG.out.1.free s
      have hib : (s : Int) < (d : Int) := by omega
      have HX : Hid (x = c s) := hx
      clear hx
      have HR : Hid (Row g d (cup c d s) (wr.setCell ⟨g, s, none⟩ (.int .i64 ((x : Int) + 1)))) := by
        have h := HG.out.1.store s (x + 1) (d := cup c d s) (fun j _ => by unfold cup; rw [HX.out])
        rw [Int.natCast_add] at h; exact h
      by_cases hlt : x + 1 < D.q
      · go_wp2
        go_ret
        have hm := cup_aft (fld HC.out.1) HC.out.2.1 (by omega) (by rw [← HX.out]; exact hlt) H9.out
        exact ⟨grown_set HG.out.2 _ _, Or.inl ⟨rfl, cup c d s, HR.out, hm.1, hm.2⟩⟩
      · have HZ : Hid (∀ k, s ≤ k → k < d → c k = D.q - 1) := fun k h1 h2 => by
          by_cases e : k = s
          · rw [e, ← HX.out]; omega
          · exact H9.out k (by omega) h2
        go_wp2
        go_roundw
        case rel => exact ⟨s, by omega, by go_num, HZ.out, HR.out.store s 0 (fun j _ => cnt_step c (by omega) j), grown_set (grown_set HG.out.2 _ _) _ _⟩
        case measure => simp [intOf]
    | zero =>
      have hi' : u5 = .int .i64 (-1) := by rw [hi]; rfl
      clear hi
      subst hi'
      go_wp2
      go_ret
      exact ⟨HG.out.2, Or.inr ⟨rfl, H9.out, HG.out.1.congr (fun k hk => by unfold cnt; rw [if_pos (by omega)]; rfl)⟩⟩

end Go.Proofs.Ytpccbiinfdppnab

/- The reference's polynomials: parts (Factors). -/
namespace Go.Proofs.Ytpccbiinfdppnab
open Go.RowKit Go.Sort

theorem pd_deg {D : FD} (hD : D ∈ fieldsL) {a x : Nat → Nat} {da dx : Nat} (ha : Mn D da a) (hx : Mn D dx x) (h : PD D x a) : dx ≤ da := by
  obtain ⟨m, b, eb, hm, e⟩ := h
  obtain ⟨db, _, h2⟩ := mn_quot hD ha hx eb hm e
  omega
theorem pre_deg {D : FD} (hD : D ∈ fieldsL) : ∀ {L : List (Nat × (Nat → Nat))} {a0 a : Nat → Nat} {da : Nat}, Mn D da a0 → Pre D L a0 a → ∀ p, p ∈ L → p.1 ≤ da
  | [], _, _, _, _, _, p, hp => by simp at hp
  | r :: L, a0, a, da, h0, ⟨h1, m, b, h2, h3, h4, h5⟩, p, hp => by
    obtain ⟨db, h6, h7⟩ := mn_quot hD h0 h1.mn h2 h3 h4
    rcases List.mem_cons.1 hp with rfl | hp
    · omega
    · have := pre_deg hD h6 h5 p hp
      omega

theorem pre_length {D : FD} (hD : D ∈ fieldsL) : ∀ {L : List (Nat × (Nat → Nat))} {a0 a : Nat → Nat} {da : Nat}, Mn D da a0 → Pre D L a0 a → L.length ≤ da
  | [], _, _, _, _, _ => Nat.zero_le _
  | r :: L, a0, a, da, h0, ⟨h1, m, b, h2, h3, h4, h5⟩ => by
    obtain ⟨db, h6, h7⟩ := mn_quot hD h0 h1.mn h2 h3 h4
    have := pre_length hD h6 h5
    have := h1.pos
    simp only [List.length_cons]
    omega

/-- A copy of d coefficients with 1 behind them. -/
theorem tryX_new {D : FD} {base d : Nat} {v : Value} {x : Nat → Nat} {w : World} (h : OwnI base v ((zl d fun j => (x j : Nat)) ++ [1]) w) (hx : Mn D d x) : Elm v (d, x) w := by
  have h1 : ((zl d fun j => ((x j : Nat) : Int)) ++ [1]).length = d + 1 := by rw [List.length_append, zl_len]; rfl
  have h2 := h.ownC x (fun k hk => by
    rw [h1] at hk
    rw [List.getD_eq_getElem?_getD]
    by_cases e : k < d
    · rw [List.getElem?_append_left (by rw [zl_len]; exact e), zl_get d _ k e]; rfl
    · have e : k = d := by omega
      subst e
      rw [List.getElem?_append_right (by rw [zl_len]; omega), zl_len, Nat.sub_self, hx.top]; rfl)
  rw [h1] at h2
  exact h2.elm

/-- What is left, while lists of d numbers are tried: how many steps at the most. -/
def tryM (D : FD) (d da : Nat) (x : Nat → Nat) : Nat := 1 + da * D.q ^ d + (D.q ^ d - dnum D.q x d)
theorem tryM_found {D : FD} (F : Fld D) {d da db : Nat} {x : Nat → Nat} (h : db < da) : tryM D d db x < tryM D d da x := by
  unfold tryM
  have h1 : (db + 1) * D.q ^ d ≤ da * D.q ^ d := Nat.mul_le_mul_right _ h
  have h2 : 0 < D.q ^ d := Nat.pow_pos (by have := F.q2; omega)
  rw [Nat.add_mul, Nat.one_mul] at h1
  omega
theorem tryM_next {D : FD} {d da : Nat} {x y : Nat → Nat} (_hx : Mn D d x) (hy : Mn D d y) (h : Aft D d x d y) : tryM D d da y < tryM D d da x := by
  unfold tryM
  have h1 := dnum_lt (q := D.q) (c := y) d (fun i _ => hy.el i)
  rcases h with ⟨_, h⟩ | ⟨h, _⟩ <;> omega
theorem tryM_pos (D : FD) (d da : Nat) (x : Nat → Nat) : 0 < tryM D d da x := by unfold tryM; omega

/-- While lists of d numbers are tried: what is left, what is tried next, if anything. -/
def TrySt (D : FD) (gen gm cm : Nat) (a0 : Nat → Nat) (g d : Nat) (w : World) (k : Nat) (va vo vm : Value) (wi : World) : Prop :=
  ∃ (da : Nat) (a : Nat → Nat) (L : List (Nat × (Nat → Nat))), L.length + da ≤ 127 ∧ g < wi.heap.size ∧ Hid (Elm va (da, a) wi ∧ va.ownBlock ≠ some g ∧ LLx g (w.heap.size + 1) vo L wi ∧ Below w.heap.size w wi ∧ Box w.heap.size D gen (.slice (some ⟨gm, 0, none⟩) (D.m + 1) cm) wi) ∧
    ((vm = .bool true ∧ ∃ x, Hid (Row g d x wi ∧ PSt D a0 a x L da d ∧ k = tryM D d da x)) ∨ (vm = .bool false ∧ Hid (PSt D a0 a (xpow (d + 1)) L da (d + 1))))
end Go.Proofs.Ytpccbiinfdppnab
