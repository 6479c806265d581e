/- Texts of ours, one behind the other: U19 W6 U20. -/
import Derived.Test.YthmjdcajaoilgaiZV7
/- The next polynomial that ends with 1 (after). -/
namespace Go.Proofs.Ythmjdcajaoilgai
open Go.RowKit

/-- Polynomial c of degree d, while it is counted up: all places from s on were nines. -/
def cnt (c : Nat → Nat) (d s : Nat) : Nat → Nat := fun k => if s ≤ k ∧ k < d then 0 else c k
/-- The place s is counted up. -/
def cup (c : Nat → Nat) (d s : Nat) : Nat → Nat := fun k => if k = s then c s + 1 else cnt c d (s + 1) k
theorem cnt_all (c : Nat → Nat) (d : Nat) : cnt c d d = c := by funext k; unfold cnt; rw [if_neg (by omega)]
theorem cnt_at (c : Nat → Nat) (d s : Nat) : cnt c d (s + 1) s = c s := by unfold cnt; rw [if_neg (by omega)]
theorem cnt_step (c : Nat → Nat) {d s : Nat} (hs : s < d) (k : Nat) : cnt c d s k = if k = s then 0 else cup c d s k := by
  unfold cup cnt
  by_cases e : k = s
  · rw [if_pos e, if_pos (by omega)]
  · rw [if_neg e, if_neg e]
    by_cases h : s ≤ k ∧ k < d
    · rw [if_pos h, if_pos (by omega)]
    · rw [if_neg h, if_neg (by omega)]
theorem cup_aft {D : FD} (F : Fld D) {c : Nat → Nat} {d s : Nat} (hc : Mn D d c) (hs : s < d) (hl : c s + 1 < D.q) (h9 : ∀ k, s + 1 ≤ k → k < d → c k = D.q - 1) : Mn D d (cup c d s) ∧ Aft D d c d (cup c d s) := by
  have h2 := F.q2
  refine ⟨⟨fun k => ?_, fun k hk => ?_, ?_⟩, Or.inl ⟨rfl, ?_⟩⟩
  · unfold cup cnt
    split
    · exact hl
    · split
      · exact zero_lt' F
      · exact hc.el k
  · unfold cup cnt
    rw [if_neg (by omega), if_neg (by omega)]
    exact hc.bd k hk
  · unfold cup cnt
    rw [if_neg (by omega), if_neg (by omega)]
    exact hc.top
  · have h := dnum_up (q := D.q) (c := c) (e := cup c d s) (i := s) (by omega) (fun j hj => by unfold cup cnt; rw [if_neg (by omega), if_neg (by omega)]) (by unfold cup; rw [if_pos rfl]) (d - (s + 1)) (fun j h1 h3 => ⟨h9 j (by omega) (by omega), by unfold cup cnt; rw [if_neg (by omega), if_pos (by omega)]⟩)
    rw [show s + 1 + (d - (s + 1)) = d from by omega] at h
    exact h
/-- The first polynomial of degree d. -/
def xpow (d : Nat) : Nat → Nat := fun k => if k = d then 1 else 0
theorem xpow_mn {D : FD} (F : Fld D) (d : Nat) : Mn D d (xpow d) :=
  ⟨fun k => by unfold xpow; split; exact one_lt' F; exact zero_lt' F, fun k hk => by unfold xpow; rw [if_neg (by omega)], by unfold xpow; rw [if_pos rfl]⟩
theorem xpow_aft {D : FD} (F : Fld D) {c : Nat → Nat} {d : Nat} (h9 : ∀ k, 0 ≤ k → k < d → c k = D.q - 1) : Aft D d c (d + 1) (xpow (d + 1)) := by
  have h2 := F.q2
  exact Or.inr ⟨rfl, dnum_nines (by omega) d (fun j hj => h9 j (by omega) hj), dnum_zero _ _ (fun j hj => by unfold xpow; rw [if_neg (by omega)])⟩

set_option maxHeartbeats 2000000 in
set_option maxRecDepth 100000 in
theorem after_any {D : FD} (hD : D ∈ fieldsL) {ao : Option Addr} {d ca : Nat} {c : Nat → Nat} {w : World} (hc : Mn D d c) (hd : d ≤ 1000) (hS : Sl ao (d + 1) c w) (hl : LtB ao w.heap.size) (hnil : ao = none → ca = 0) :
    Calls Try.prog 65 #[.int .i64 D.q, .slice ao (d + 1) ca] w fun e w' => ∃ v d' c', e = .returned v ∧ OwnP w.heap.size v (d' + 1) c' w' ∧ Mn D d' c' ∧ Aft D d c d' c' ∧ Below w.heap.size w w' := by
  have HC : Hid (D ∈ fieldsL ∧ Mn D d c ∧ Sl ao (d + 1) c w ∧ LtB ao w.heap.size ∧ (ao = none → ca = 0)) := ⟨hD, hc, hS, hl, hnil⟩
  have h64 := (fld hD).q64
  clear hD hc hS hl hnil
  go_enter Try.func65, Try.ntmps65
  go_wp2_with fail
  refine (clone_any HC.out.2.2.1 (by omega) HC.out.2.2.2.2 HC.out.2.2.2.1).mono ?_
  rintro e w1 ⟨v, rfl, hown, hb1⟩
  obtain ⟨ao1, cap, rfl, hle, hcm, hge, hlt, _, hrw⟩ := hown
  obtain ⟨g, rfl, hrow⟩ := hrw (by omega)
  have HB1 : Hid (Row g (d + 1) c w1 ∧ Below w.heap.size w w1 ∧ w.heap.size ≤ g ∧ d + 1 ≤ cap ∧ cap ≤ 9223372036854775807) := ⟨hrow, hb1, hge _ rfl, hle, hcm⟩
  clear hrow hb1 hge hlt hle hcm hrw
  go_wp2
  go_loopw [6] (fun i wr => ∃ s : Nat, s ≤ d ∧ i = .int .i64 ((s : Int) - 1) ∧ Hid (∀ k, s ≤ k → k < d → c k = D.q - 1) ∧ Row g (d + 1) (cnt c d s) wr ∧ Below w.heap.size w wr) (fun i _ => (intOf i + 1).toNat)
  case atStart => exact ⟨d, Nat.le_refl _, by go_num, fun k h1 h2 => by omega, by rw [cnt_all]; exact HB1.out.1, HB1.out.2.1⟩
  case round =>
    obtain ⟨s, hs, hi, H9, hrow, hbel⟩ := hrel
    have HG : Hid (Row g (d + 1) (cnt c d s) wr ∧ Below w.heap.size w wr) := ⟨hrow, hbel⟩
    clear hrow hbel
    cases s with
    | succ s =>
      have hi' : u6 = .int .i64 (s : Int) := by rw [hi]; go_num
      clear hi
      subst hi'
      obtain ⟨x, hx⟩ : ∃ x, x = c s := ⟨_, rfl⟩
      have hxq : x < D.q := by rw [hx]; exact HC.out.2.1.el s
      have hcl : wr.cell? ⟨g, s, none⟩ = some (.int .i64 (x : Nat)) := by rw [HG.out.1.cell s (by omega), cnt_at, hx]
      have hfr := HG.out.1.free s
      have hib : (s : Int) < (d : Int) + 1 := by omega
      have HX : Hid (x = c s) := hx
      clear hx
      have HR : Hid (Row g (d + 1) (cup c d s) (wr.setCell ⟨g, s, none⟩ (.int .i64 ((x : Int) + 1)))) := by
        have h := HG.out.1.store s (x + 1) (d := cup c d s) (fun j _ => by unfold cup; rw [HX.out])
        rw [Int.natCast_add] at h; exact h
      by_cases hlt : x + 1 < D.q
      · go_wp2
        go_ret
        have hm := cup_aft (fld HC.out.1) HC.out.2.1 (by omega) (by rw [← HX.out]; exact hlt) H9.out
        exact ⟨_, d, cup c d s, rfl, OwnP.of_row HR.out (Nat.le_refl _) HB1.out.2.2.2.1 HB1.out.2.2.2.2 HB1.out.2.2.1, hm.1, hm.2, HG.out.2.setCell HB1.out.2.2.1 _⟩
      · have HZ : Hid (∀ k, s ≤ k → k < d → c k = D.q - 1) := fun k h1 h2 => by
          by_cases e : k = s
          · rw [e, ← HX.out]; omega
          · exact H9.out k (by omega) h2
        go_wp2
        go_roundw
        case rel => exact ⟨s, by omega, by go_num, HZ.out, HR.out.store s 0 (fun j _ => cnt_step c (by omega) j), (HG.out.2.setCell HB1.out.2.2.1 _).setCell HB1.out.2.2.1 _⟩
        case measure => simp [intOf]
    | zero =>
      have hi' : u6 = .int .i64 (-1) := by rw [hi]; rfl
      clear hi
      subst hi'
      have hsz := HG.out.2.size
      go_wp2_with (at_make; refine make_int rfl _ _ rfl _ (d + 2) rfl rfl (by omega) (by omega) ?_; intro w2 hown2 hgrow2; have hr2 := row_zeros hown2; have hcl := hr2.cell (d + 1) (by omega); have hfr := hr2.free (d + 1))
      go_ret
      have hF := fld HC.out.1
      have hrx : Row wr.heap.size (d + 2) (xpow (d + 1)) (w2.setCell ⟨wr.heap.size, d + 1, none⟩ (.int .i64 ((1 : Nat) : Int))) := hr2.store (d + 1) 1 (fun j _ => by unfold xpow pnil; rfl)
      exact ⟨_, d + 1, xpow (d + 1), rfl, OwnP.of_row hrx (Nat.le_refl _) (by omega) (by omega) hsz, xpow_mn hF _, xpow_aft hF H9.out, (bel_up HG.out.2 (below_grown hgrow2 (Nat.le_refl _) (fun k hk => by simp at hk))).setCell hsz _⟩
end Go.Proofs.Ythmjdcajaoilgai

/- Lists of lists of numbers that a call makes for itself: one list more. -/
namespace Go.Proofs.Ythmjdcajaoilgai
open Go.RowKit

theorem Try.infoSl : (Try.prog.info? 28).map (fun i => (i.zero, i.size, i.bytes)) = some (some (.slice none 0 0), 1, 24) := by kernel_rfl

/-- The slice v of slices, made behind block number base, holds the slices l. -/
def OwnV (base : Nat) (v : Value) (l : List Value) (w : World) : Prop := w.ownsRow base 28 1 v l.length l
theorem OwnV.nil (base : Nat) (w : World) : OwnV base (.slice none 0 0) [] w := World.ownsRow_nil _ _ _ _
theorem OwnV.below {base B : Nat} {v : Value} {l : List Value} {w w' : World} (h : OwnV base v l w) (hb : Below B w w') (hB : w.heap.size ≤ B) : OwnV base v l w' := by
  obtain ⟨h1, h2⟩ := h
  refine ⟨h1, ?_⟩
  rcases h2 with h2 | ⟨g, cap, cur, hv, hg, hh, r⟩
  · exact Or.inl h2
  · exact Or.inr ⟨g, cap, cur, hv, hg, by rw [hb.block g (Nat.lt_of_lt_of_le (lt_of_block hh) hB)]; exact hh, r⟩
theorem OwnV.mono {base base' : Nat} {v : Value} {l : List Value} {w : World} (h : OwnV base v l w) (hb : base' ≤ base) : OwnV base' v l w := by
  obtain ⟨h1, h2⟩ := h
  refine ⟨h1, ?_⟩
  rcases h2 with h2 | ⟨g, cap, cur, hv, hg, r⟩
  · exact Or.inl h2
  · exact Or.inr ⟨g, cap, cur, hv, by omega, r⟩
/-- Opened: where it lies. -/
theorem OwnV.open {base : Nat} {v : Value} {l : List Value} {w : World} (h : OwnV base v l w) : ∃ ao cap, v = .slice ao l.length cap ∧ (ao = none → cap = 0) ∧ LtB ao w.heap.size ∧ GeB ao base ∧
    ∀ (j : Nat) (u : Value), l[j]? = some u → ∃ g, ao = some ⟨g, 0, none⟩ ∧ w.cell? ⟨g, j, none⟩ = some u ∧ w.frozen? ⟨g, j, none⟩ = false := by
  rcases h.2 with ⟨h1, h2⟩ | ⟨g, cap, cur, hv, hg, hh, hle, hcm, hsz, htake⟩
  · refine ⟨none, 0, by rw [h1, h2], fun _ => rfl, fun x hx => (by cases hx), fun x hx => (by cases hx), fun j u hj => ?_⟩
    rw [List.length_eq_zero_iff.1 h2] at hj
    simp at hj
  · refine ⟨_, cap, hv, fun e => (by cases e), fun x hx => (by cases hx; exact lt_of_block hh), fun x hx => (by cases hx; exact hg), fun j u hj => ⟨g, rfl, ?_, frozen_of_row w g j cur 28 hh⟩⟩
    have hj' := (List.getElem?_eq_some_iff.1 hj).1
    rw [cell_of_row w g j cur 28 (0, 0) hh, ← Array.getElem?_toList]
    have h3 : (cur.toList.take (l.length * 1))[j]? = l[j]? := by rw [htake]
    rw [List.getElem?_take, if_pos (by omega)] at h3
    rw [h3]; exact hj

/-- 'l = append(l, y)', l a slice of slices of the call's own. -/
theorem append_sl {ops : Array Oper} {rest : List Oper} {o : Oper} {a : Act} {w : World} {Q : Exit → Act → World → Prop} (hgd : o.guard = none) (s x : Operand)
    (ho : o.op = .call { callee := .builtin .append, args := #[s, x], argTypes := #[38, 38] })
    (base : Nat) (v : Value) (l : List Value) (hs : a.eval s = v) (hown : OwnV base v l w) (ad : Addr) (c : Nat) (y : Value) (hy : y.oneCell' = true) (hx : a.eval x = .slice (some ad) 1 c) (hcell : w.cell? ad = some y)
    (hlen : l.length ≤ 1000000) (hbase : base ≤ w.heap.size)
    (h : ∀ v' w', OwnV base v' (l ++ [y]) w' → w.grownBy w' v.ownBlock → wpList Try.prog ops Q rest (a.put o.dst v') w') : wpList Try.prog ops Q (o :: rest) a w := by
  obtain ⟨i0, hi, hz0, hz1, hz2⟩ := info_parts Try.infoSl
  refine wpList_append_own _ hgd s x 38 ho base 28 i0 (.slice none 0 0) 1 24 Try.underlying38 hi hz0 hz1 hz2 rfl (by decide) v l.length _ hs hown ad 1 c [y] hx rfl ?_ ?_ ?_ ?_ hbase ?_
  · intro j u hj
    match j, hj with
    | 0, hj =>
      simp at hj; subst hj
      have : ad.add 0 = ad := by cases ad with | mk b o s => cases s <;> simp [Addr.add]
      rw [this]; exact hcell
  · intro u hu; simp at hu; subst hu; exact hy
  · unfold maxLen; omega
  · omega
  · intro v' w' hown' hgrow _
    refine h v' w' ?_ hgrow
    unfold OwnV
    rw [List.length_append]
    exact hown'

/-- A row of numbers is no row of slices. -/
theorem Row.apart {base g N : Nat} {c : Nat → Nat} {v : Value} {l : List Value} {w : World} (h : Row g N c w) (ho : OwnV base v l w) : some g ≠ v.ownBlock := by
  obtain ⟨cap, f, ⟨cs, h1, _⟩, _⟩ := h
  rcases ho.2 with ⟨h2, _⟩ | ⟨g', cap', cur, hv, _, hh, _⟩
  · rw [h2]; intro e; cases e
  · rw [hv]
    intro e
    have e : some g = some g' := e
    cases e
    rw [h1] at hh
    simp at hh
/-- The slice v is polynomial p (its degree, its coefficients), in a row of numbers. -/
def Elm (v : Value) (p : Nat × (Nat → Nat)) (w : World) : Prop := ∃ g cap, v = .slice (some ⟨g, 0, none⟩) (p.1 + 1) cap ∧ p.1 + 1 ≤ cap ∧ cap ≤ 9223372036854775807 ∧ Row g (p.1 + 1) p.2 w
theorem Elm.one {v : Value} {p : Nat × (Nat → Nat)} {w : World} (h : Elm v p w) : v.oneCell' = true := by
  obtain ⟨g, cap, rfl, _⟩ := h
  rfl
theorem Elm.below {v : Value} {p : Nat × (Nat → Nat)} {w w' : World} (h : Elm v p w) {B : Nat} (hb : Below B w w') (hB : w.heap.size ≤ B) : Elm v p w' := by
  obtain ⟨g, cap, e, h1, h2, hr⟩ := h
  exact ⟨g, cap, e, h1, h2, hr.below hb (Nat.lt_of_lt_of_le hr.lt hB)⟩
theorem Elm.grown {base : Nat} {u v : Value} {p : Nat × (Nat → Nat)} {l : List Value} {w w' : World} (h : Elm u p w) (ho : OwnV base v l w) (hg : w.grownBy w' v.ownBlock) : Elm u p w' := by
  obtain ⟨g, cap, e, h1, h2, hr⟩ := h
  exact ⟨g, cap, e, h1, h2, hr.other (hg.block g hr.lt (hr.apart ho))⟩
theorem OwnP.elm {base d : Nat} {v : Value} {c : Nat → Nat} {w : World} (h : OwnP base v (d + 1) c w) : Elm v (d, c) w := by
  obtain ⟨ao, cap, hv, h1, h2, _, _, _, hr⟩ := h
  obtain ⟨g, e, hrow⟩ := hr (by omega)
  exact ⟨g, cap, by rw [hv, e], h1, h2, hrow⟩
theorem Elm.sl {v : Value} {p : Nat × (Nat → Nat)} {w : World} (h : Elm v p w) : ∃ ao cap, v = .slice ao (p.1 + 1) cap ∧ p.1 + 1 ≤ cap ∧ cap ≤ 9223372036854775807 ∧ Sl ao (p.1 + 1) p.2 w ∧ LtB ao w.heap.size ∧ (ao = none → cap = 0) := by
  obtain ⟨g, cap, e, h1, h2, hr⟩ := h
  exact ⟨_, cap, e, h1, h2, hr.sl (Nat.le_refl _), fun x hx => (by cases hx; exact hr.lt), fun e => (by cases e)⟩
/-- Slice by slice. -/
def Elms (l : List Value) (L : List (Nat × (Nat → Nat))) (w : World) : Prop := l.length = L.length ∧ ∀ (j : Nat) (v : Value) (p : Nat × (Nat → Nat)), l[j]? = some v → L[j]? = some p → Elm v p w
theorem Elms.nil (w : World) : Elms [] [] w := ⟨rfl, fun j v p h _ => by simp at h⟩
theorem Elms.snoc {l : List Value} {L : List (Nat × (Nat → Nat))} {v : Value} {p : Nat × (Nat → Nat)} {w : World} (h : Elms l L w) (hv : Elm v p w) : Elms (l ++ [v]) (L ++ [p]) w := by
  refine ⟨by rw [List.length_append, List.length_append, h.1]; rfl, fun j u r hu hr => ?_⟩
  by_cases hj : j < l.length
  · rw [List.getElem?_append_left hj] at hu
    rw [List.getElem?_append_left (by rw [← h.1]; exact hj)] at hr
    exact h.2 j u r hu hr
  · rw [List.getElem?_append_right (by omega)] at hu
    rw [List.getElem?_append_right (by rw [← h.1]; omega), ← h.1] at hr
    cases hk : j - l.length with
    | zero =>
      rw [hk] at hu hr
      simp at hu hr
      subst hu; subst hr; exact hv
    | succ k =>
      rw [hk] at hu
      simp at hu
theorem Elms.below {l : List Value} {L : List (Nat × (Nat → Nat))} {w w' : World} (h : Elms l L w) {B : Nat} (hb : Below B w w') (hB : w.heap.size ≤ B) : Elms l L w' := ⟨h.1, fun j v p hv hp => (h.2 j v p hv hp).below hb hB⟩
theorem Elms.grown {base : Nat} {v : Value} {l' l : List Value} {L : List (Nat × (Nat → Nat))} {w w' : World} (h : Elms l L w) (ho : OwnV base v l' w) (hg : w.grownBy w' v.ownBlock) : Elms l L w' := ⟨h.1, fun j u p hu hp => (h.2 j u p hu hp).grown ho hg⟩
/-- The list of lists v, made behind block number base: the polynomials L. -/
def LLs (base : Nat) (v : Value) (L : List (Nat × (Nat → Nat))) (w : World) : Prop := ∃ l, OwnV base v l w ∧ Elms l L w
theorem LLs.nil (base : Nat) (w : World) : LLs base (.slice none 0 0) [] w := ⟨[], OwnV.nil _ _, Elms.nil _⟩
theorem LLs.below {base B : Nat} {v : Value} {L : List (Nat × (Nat → Nat))} {w w' : World} (h : LLs base v L w) (hb : Below B w w') (hB : w.heap.size ≤ B) : LLs base v L w' := by
  obtain ⟨l, h1, h2⟩ := h
  exact ⟨l, h1.below hb hB, h2.below hb hB⟩
theorem LLs.mono {base base' : Nat} {v : Value} {L : List (Nat × (Nat → Nat))} {w : World} (h : LLs base v L w) (hb : base' ≤ base) : LLs base' v L w := by
  obtain ⟨l, h1, h2⟩ := h
  exact ⟨l, h1.mono hb, h2⟩
end Go.Proofs.Ythmjdcajaoilgai

/- The program's parts of a polynomial: what is kept, a division. -/
namespace Go.Proofs.Ythmjdcajaoilgai
open Go.RowKit

/-- While a0 is parted: a is left, x is tried next; nothing ahead of x divides a. -/
structure PSt (D : FD) (a0 a x : Nat → Nat) (L : List (Nat × (Nat → Nat))) (da dx : Nat) : Prop where
  mna : Mn D da a
  mnx : Mn D dx x
  pos : 1 ≤ dx
  pre : Pre D L a0 a
  none : ∀ e y, 1 ≤ e → Mn D e y → Bef D e y dx x → ¬ PD D y a

theorem pst_first {D : FD} {a0 x : Nat → Nat} {da : Nat} (h0 : Mn D da a0) (hx : Mn D 1 x) (h1 : dnum D.q x 1 = 0) : PSt D a0 a0 x [] da 1 := by
  refine ⟨h0, hx, Nat.le_refl _, rfl, fun e y he _ hb => ?_⟩
  rcases hb with hb | ⟨_, hb⟩ <;> omega
theorem pst_start {D : FD} {a0 x : Nat → Nat} {da dx : Nat} (h0 : Mn D da a0) (hx : Mn D dx x) (h : Aft D 0 pone dx x) : dx = 1 ∧ PSt D a0 a0 x [] da dx := by
  rcases h with ⟨e, h1⟩ | ⟨e, _, h1⟩
  · rw [e] at h1
    have h1 : 0 = 0 + 1 := h1
    omega
  · subst e
    exact ⟨rfl, pst_first h0 hx h1⟩
theorem pst_found {D : FD} (hD : D ∈ fieldsL) {a0 a x b : Nat → Nat} {L : List (Nat × (Nat → Nat))} {da dx m : Nat} (h : PSt D a0 a x L da dx) (hb : El D b) (hm : Bd m b) (e : a = pmul D m b x) : ∃ db, Mn D db b ∧ da = db + dx ∧ PSt D a0 b x (L ++ [(dx, x)]) db dx := by
  have F := fld hD
  obtain ⟨db, h1, h2⟩ := mn_quot hD h.mna h.mnx hb hm e
  have hpd : PD D b a := pd_other F hb hm h.mnx.el h.mnx.bd e
  refine ⟨db, h1, h2, h1, h.mnx, h.pos, ?_, fun e' y he hy hbf hd => h.none e' y he hy hbf (PD.trans F hpd hd)⟩
  exact pre_snoc ⟨h.mnx, h.pos, ⟨m, b, hb, hm, e⟩, fun e' y he hy hd hbf => h.none e' y he hy hbf hd⟩ hb hm e L a0 h.pre
/-- A polynomial's place among all. -/
def FD.key (D : FD) (d : Nat) (x : Nat → Nat) : Nat := D.q ^ d + dnum D.q x d
theorem pst_next {D : FD} (F : Fld D) {a0 a x x' : Nat → Nat} {L : List (Nat × (Nat → Nat))} {da dx dx' : Nat} (h : PSt D a0 a x L da dx) (hn : ¬ PD D x a) (hx' : Mn D dx' x') (ha : Aft D dx x dx' x') : PSt D a0 a x' L da dx' ∧ D.key dx x < D.key dx' x' ∧ dx ≤ dx' ∧ dx' ≤ dx + 1 := by
  have h2 := F.q2
  have hle : dx ≤ dx' ∧ dx' ≤ dx + 1 := by rcases ha with ⟨e, _⟩ | ⟨e, _⟩ <;> omega
  refine ⟨⟨h.mna, hx', by have := h.pos; omega, h.pre, fun e y he hy hb hd => ?_⟩, ?_, hle⟩
  · rcases bef_aft ha h.mnx hy hb with h1 | ⟨_, h1⟩
    · exact h.none e y he hy h1 hd
    · rw [h1] at hd; exact hn hd
  · unfold FD.key
    rcases ha with ⟨e, h1⟩ | ⟨e, h1, h3⟩
    · rw [h1, e]; omega
    · rw [h3, e, Nat.pow_succ]
      have : D.q ^ dx * 2 ≤ D.q ^ dx * D.q := Nat.mul_le_mul_left _ h2
      omega
theorem pst_end {D : FD} (hD : D ∈ fieldsL) {a0 a x : Nat → Nat} {L : List (Nat × (Nat → Nat))} {da dx : Nat} (h : PSt D a0 a x L da dx) (hd : da < 2 * dx) (h1 : 1 ≤ da) : Pre D (L ++ [(da, a)]) a0 pone :=
  pre_whole (fld hD) (lst_last hD h.mna h1 (fun e y he hy h2 => h.none e y he hy (Or.inl (by omega)))) h.pre
theorem pst_end0 {D : FD} {a0 a x : Nat → Nat} {L : List (Nat × (Nat → Nat))} {dx : Nat} (h : PSt D a0 a x L 0 dx) : Pre D L a0 pone := by
  have := h.pre
  rwa [mn_zero h.mna] at this
theorem key_lt {D : FD} (F : Fld D) {dx : Nat} {x : Nat → Nat} (h : Mn D dx x) (hd : dx ≤ 200) : D.key dx x < D.q ^ 250 := by
  have h2 := F.q2
  have h1 := dnum_lt (q := D.q) (c := x) dx (fun i _ => h.el i)
  have h3 : D.q ^ dx * 2 ≤ D.q ^ dx * D.q := Nat.mul_le_mul_left _ h2
  have h4 : D.q ^ (dx + 1) ≤ D.q ^ 250 := Nat.pow_le_pow_right (by omega) (by omega)
  rw [Nat.pow_succ] at h4
  unfold FD.key
  omega

/-- What a division tells. -/
theorem div_mn {D : FD} (hD : D ∈ fieldsL) {a x : Nat → Nat} {da dx : Nat} (ha : Mn D da a) (hx : Mn D dx x) :
    (PD D x a ∧ ∃ db, Mn D db (divQ D x dx (D.iv (x dx)) (da + 1 - dx) a) ∧ da = db + dx ∧ dgn (divQ D x dx (D.iv (x dx)) (da + 1 - dx) a) (da + 1 - dx) = db + 1 ∧ a = pmul D (da + 1 - dx) (divQ D x dx (D.iv (x dx)) (da + 1 - dx) a) x ∧ dgn (divR D x dx (D.iv (x dx)) (da + 1 - dx) a) (da + 1) = 0) ∨
    (¬ PD D x a ∧ dgn (divR D x dx (D.iv (x dx)) (da + 1 - dx) a) (da + 1) ≠ 0) := by
  have F := fld hD
  have hi : D.mul (x dx) (D.iv (x dx)) = 1 := iv_is hD (hx.el dx) (by rw [hx.top]; omega)
  have hbd : Bd (da + 1 - dx + dx) a := ha.bd.mono (by omega)
  have hr := rest_nil F hx.el hx.bd hi ha.el hbd
  by_cases h : PD D x a
  · refine Or.inl ⟨h, ?_⟩
    have e := hr.2 h
    have i := div_is F (b := x) (l := dx) (inv := D.iv (x dx)) (da + 1 - dx) ha.el
    rw [e, padd_nil F (el_mul F _ _ _)] at i
    obtain ⟨db, h1, h2⟩ := mn_quot hD ha hx (el_divQ F _ _) (divQ_bd _ _) i.symm
    refine ⟨db, h1, h2, h1.trd.dgn (by omega), i.symm, ?_⟩
    rw [e]
    exact Nat.le_zero.1 (by rw [dgn_from (c := pnil) (n := 0) (fun _ _ => rfl) (by omega)]; exact dgn_le _ _)
  · refine Or.inr ⟨h, fun e => h (hr.1 ?_)⟩
    have hb : Bd (da + 1) (divR D x dx (D.iv (x dx)) (da + 1 - dx) a) := by
      by_cases hd : dx ≤ da + 1
      · exact (divR_bd F hx.el hx.bd hi (da + 1 - dx) ha.el hbd).mono hd
      · rw [show da + 1 - dx = 0 from by omega]; exact ha.bd
    have := dgn_bd hb
    rw [e] at this
    exact bd_nil_of this

theorem div_found {F T : Nat} {D : FD} (hD : D ∈ fieldsL) {g : Nat → Value} {w : World} (h : FAt F T D g w) {va vd : Value} {a x : Nat → Nat} {da dx : Nat} (ha : Mn D da a) (hx : Mn D dx x) (hva : Elm va (da, a) w) (hvd : Elm vd (dx, x) w) (h1 : da ≤ 500) (h2 : dx ≤ 500) :
    Calls Try.prog 66 #[.pointer (some ⟨F, 0, none⟩), va, vd] w fun e w' => ∃ vq vr, e = .returned (.tuple #[vq, vr]) ∧ Below w.heap.size w w' ∧
      ((∃ db b ro rc, vr = .slice ro 0 rc ∧ Elm vq (db, b) w' ∧ Mn D db b ∧ da = db + dx ∧ a = pmul D (db + 1) b x) ∨ (¬ PD D x a ∧ ∃ ro rn rc, vr = .slice ro (rn + 1) rc)) := by
  obtain ⟨ao, ca, rfl, _, _, hsa, hla, hna⟩ := hva.sl
  obtain ⟨xo, cx, rfl, _, _, hsx, hlx, _⟩ := hvd.sl
  refine (divide_any hD h (show da + 1 ≤ 1000 by omega) (show dx < 1000 by omega) ha.el hx.el ha.bd hx.bd (by rw [hx.top]; omega) hsa hsx hla hlx hna).mono ?_
  rintro e w' ⟨vq, vr, rfl, hq, hr, hb⟩
  refine ⟨vq, vr, rfl, hb, ?_⟩
  rcases div_mn hD ha hx with ⟨_, db, h3, h4, h5, h6, h7⟩ | ⟨h3, h4⟩
  · rw [h5] at hq
    rw [h7] at hr
    obtain ⟨ro, rc, hv, _⟩ := hr.open
    exact Or.inl ⟨db, _, ro, rc, hv, hq.elm, h3, h4, by rw [show db + 1 = da + 1 - dx from by omega]; exact h6⟩
  · obtain ⟨ro, rc, hv, _⟩ := hr.open
    exact Or.inr ⟨h3, ro, _, rc, by rw [hv, show dgn (divR D x dx (D.iv (x dx)) (da + 1 - dx) a) (da + 1) = (dgn (divR D x dx (D.iv (x dx)) (da + 1 - dx) a) (da + 1) - 1) + 1 from by omega]⟩
end Go.Proofs.Ythmjdcajaoilgai
