/- Texts of ours, one behind the other: U19 W6. -/
import Derived.Test.YtmnkablobhdbjaaZN5
import Derived.Test.YtmnkablobhdbjaaZU18
/- The next polynomial that ends with 1 (after). -/
namespace Go.Proofs.Ytmnkablobhdbjaa
open Go.RowKit

/-- Polynomial c of degree d, while it is counted up: all places from s on were nines. -/
def cnt (c : Nat → Nat) (d s : Nat) : Nat → Nat := fun k => if s ≤ k ∧ k < d then 0 else c k
/-- The place s is counted up. -/
def cup (c : Nat → Nat) (d s : Nat) : Nat → Nat := fun k => if k = s then c s + 1 else cnt c d (s + 1) k
theorem cnt_all (c : Nat → Nat) (d : Nat) : cnt c d d = c := by funext k; unfold cnt; rw [if_neg (by omega)]
theorem cnt_at (c : Nat → Nat) (d s : Nat) : cnt c d (s + 1) s = c s := by unfold cnt; rw [if_neg (by omega)]
theorem cnt_step (c : Nat → Nat) {d s : Nat} (hs : s < d) (k : Nat) : cnt c d s k = if k = s then 0 else cup c d s k := by
  unfold cup cnt
  by_cases e : k = s
  · rw [if_pos e, if_pos (by omega)]
  · rw [if_neg e, if_neg e]
    by_cases h : s ≤ k ∧ k < d
    · rw [if_pos h, if_pos (by omega)]
    · rw [if_neg h, if_neg (by omega)]
theorem cup_aft {D : FD} (F : Fld D) {c : Nat → Nat} {d s : Nat} (hc : Mn D d c) (hs : s < d) (hl : c s + 1 < D.q) (h9 : ∀ k, s + 1 ≤ k → k < d → c k = D.q - 1) : Mn D d (cup c d s) ∧ Aft D d c d (cup c d s) := by
  have h2 := F.q2
  refine ⟨⟨fun k => ?_, fun k hk => ?_, ?_⟩, Or.inl ⟨rfl, ?_⟩⟩
  · unfold cup cnt
    split
    · exact hl
    · split
      · exact zero_lt' F
      · exact hc.el k
  · unfold cup cnt
    rw [if_neg (by omega), if_neg (by omega)]
    exact hc.bd k hk
  · unfold cup cnt
    rw [if_neg (by omega), if_neg (by omega)]
    exact hc.top
  · have h := dnum_up (q := D.q) (c := c) (e := cup c d s) (i := s) (by omega) (fun j hj => by unfold cup cnt; rw [if_neg (by omega), if_neg (by omega)]) (by unfold cup; rw [if_pos rfl]) (d - (s + 1)) (fun j h1 h3 => ⟨h9 j (by omega) (by omega), by unfold cup cnt; rw [if_neg (by omega), if_pos (by omega)]⟩)
    rw [show s + 1 + (d - (s + 1)) = d from by omega] at h
    exact h
/-- The first polynomial of degree d. -/
def xpow (d : Nat) : Nat → Nat := fun k => if k = d then 1 else 0
theorem xpow_mn {D : FD} (F : Fld D) (d : Nat) : Mn D d (xpow d) :=
  ⟨fun k => by unfold xpow; split; exact one_lt' F; exact zero_lt' F, fun k hk => by unfold xpow; rw [if_neg (by omega)], by unfold xpow; rw [if_pos rfl]⟩
theorem xpow_aft {D : FD} (F : Fld D) {c : Nat → Nat} {d : Nat} (h9 : ∀ k, 0 ≤ k → k < d → c k = D.q - 1) : Aft D d c (d + 1) (xpow (d + 1)) := by
  have h2 := F.q2
  exact Or.inr ⟨rfl, dnum_nines (by omega) d (fun j hj => h9 j (by omega) hj), dnum_zero _ _ (fun j hj => by unfold xpow; rw [if_neg (by omega)])⟩

set_option maxHeartbeats 2000000 in
set_option maxRecDepth 100000 in
theorem after_any {D : FD} (hD : D ∈ fieldsL) {ao : Option Addr} {d ca : Nat} {c : Nat → Nat} {w : World} (hc : Mn D d c) (hd : d ≤ 1000) (hS : Sl ao (d + 1) c w) (hl : LtB ao w.heap.size) (hnil : ao = none → ca = 0) :
    Calls Try.prog 115 #[.int .i64 D.q, .slice ao (d + 1) ca] w fun e w' => ∃ v d' c', e = .returned v ∧ OwnP w.heap.size v (d' + 1) c' w' ∧ Mn D d' c' ∧ Aft D d c d' c' ∧ Below w.heap.size w w' := by
  have HC : Hid (D ∈ fieldsL ∧ Mn D d c ∧ Sl ao (d + 1) c w ∧ LtB ao w.heap.size ∧ (ao = none → ca = 0)) := ⟨hD, hc, hS, hl, hnil⟩
  have h64 := (fld hD).q64
  clear hD hc hS hl hnil
  go_enter Try.func115, Try.ntmps115
  go_wp2_with fail
  refine (clone_any HC.out.2.2.1 (by omega) HC.out.2.2.2.2 HC.out.2.2.2.1).mono ?_
  rintro e w1 ⟨v, rfl, hown, hb1⟩
  obtain ⟨ao1, cap, rfl, hle, hcm, hge, hlt, _, hrw⟩ := hown
  obtain ⟨g, rfl, hrow⟩ := hrw (by omega)
  have HB1 : Hid (Row g (d + 1) c w1 ∧ Below w.heap.size w w1 ∧ w.heap.size ≤ g ∧ d + 1 ≤ cap ∧ cap ≤ 9223372036854775807) := ⟨hrow, hb1, hge _ rfl, hle, hcm⟩
  clear hrow hb1 hge hlt hle hcm hrw
  go_wp2
  go_loopw [6] (fun i wr => ∃ s : Nat, s ≤ d ∧ i = .int .i64 ((s : Int) - 1) ∧ Hid (∀ k, s ≤ k → k < d → c k = D.q - 1) ∧ Row g (d + 1) (cnt c d s) wr ∧ Below w.heap.size w wr) (fun i _ => (intOf i + 1).toNat)
  case atStart => exact ⟨d, Nat.le_refl _, by go_num, fun k h1 h2 => by omega, by rw [cnt_all]; exact HB1.out.1, HB1.out.2.1⟩
  case round =>
    obtain ⟨s, hs, hi, H9, hrow, hbel⟩ := hrel
    have HG : Hid (Row g (d + 1) (cnt c d s) wr ∧ Below w.heap.size w wr) := ⟨hrow, hbel⟩
    clear hrow hbel
    cases s with
    | succ s =>
      have hi' : u6 = .int .i64 (s : Int) := by rw [hi]; go_num
      clear hi
      subst hi'
      obtain ⟨x, hx⟩ : ∃ x, x = c s := ⟨_, rfl⟩
      have hxq : x < D.q := by rw [hx]; exact HC.out.2.1.el s
      have hcl : wr.cell? ⟨g, s, none⟩ = some (.int .i64 (x : Nat)) := by rw [HG.out.1.cell s (by omega), cnt_at, hx]
      have hfr := HG.out.1.free s
      have hib : (s : Int) < (d : Int) + 1 := by omega
      have HX : Hid (x = c s) := hx
      clear hx
      have HR : Hid (Row g (d + 1) (cup c d s) (wr.setCell ⟨g, s, none⟩ (.int .i64 ((x : Int) + 1)))) := by
        have h := HG.out.1.store s (x + 1) (d := cup c d s) (fun j _ => by unfold cup; rw [HX.out])
        rw [Int.natCast_add] at h; exact h
      by_cases hlt : x + 1 < D.q
      · go_wp2
        go_ret
        have hm := cup_aft (fld HC.out.1) HC.out.2.1 (by omega) (by rw [← HX.out]; exact hlt) H9.out
        exact ⟨_, d, cup c d s, rfl, OwnP.of_row HR.out (Nat.le_refl _) HB1.out.2.2.2.1 HB1.out.2.2.2.2 HB1.out.2.2.1, hm.1, hm.2, HG.out.2.setCell HB1.out.2.2.1 _⟩
      · have HZ : Hid (∀ k, s ≤ k → k < d → c k = D.q - 1) := fun k h1 h2 => by
          by_cases e : k = s
          · rw [e, ← HX.out]; omega
          · exact H9.out k (by omega) h2
        go_wp2
        go_roundw
        case rel => exact ⟨s, by omega, by go_num, HZ.out, HR.out.store s 0 (fun j _ => cnt_step c (by omega) j), (HG.out.2.setCell HB1.out.2.2.1 _).setCell HB1.out.2.2.1 _⟩
        case measure => simp [intOf]
    | zero =>
      have hi' : u6 = .int .i64 (-1) := by rw [hi]; rfl
      clear hi
      subst hi'
      have hsz := HG.out.2.size
      go_wp2_with (at_make; refine make_int rfl _ _ rfl _ (d + 2) rfl rfl (by omega) (by omega) ?_; intro w2 hown2 hgrow2; have hr2 := row_zeros hown2; have hcl := hr2.cell (d + 1) (by omega); have hfr := hr2.free (d + 1))
      go_ret
      have hF := fld HC.out.1
      have hrx : Row wr.heap.size (d + 2) (xpow (d + 1)) (w2.setCell ⟨wr.heap.size, d + 1, none⟩ (.int .i64 ((1 : Nat) : Int))) := hr2.store (d + 1) 1 (fun j _ => by unfold xpow pnil; rfl)
      exact ⟨_, d + 1, xpow (d + 1), rfl, OwnP.of_row hrx (Nat.le_refl _) (by omega) (by omega) hsz, xpow_mn hF _, xpow_aft hF H9.out, (bel_up HG.out.2 (below_grown hgrow2 (Nat.le_refl _) (fun k hk => by simp at hk))).setCell hsz _⟩
end Go.Proofs.Ytmnkablobhdbjaa

/- Lists of lists of numbers that a call makes for itself: one list more. -/
namespace Go.Proofs.Ytmnkablobhdbjaa
open Go.RowKit

theorem Try.infoSl : (Try.prog.info? 26).map (fun i => (i.zero, i.size, i.bytes)) = some (some (.slice none 0 0), 1, 24) := by kernel_rfl

/-- The slice v of slices, made behind block number base, holds the slices l. -/
def OwnV (base : Nat) (v : Value) (l : List Value) (w : World) : Prop := w.ownsRow base 26 1 v l.length l
theorem OwnV.nil (base : Nat) (w : World) : OwnV base (.slice none 0 0) [] w := World.ownsRow_nil _ _ _ _
theorem OwnV.below {base B : Nat} {v : Value} {l : List Value} {w w' : World} (h : OwnV base v l w) (hb : Below B w w') (hB : w.heap.size ≤ B) : OwnV base v l w' := by
  obtain ⟨h1, h2⟩ := h
  refine ⟨h1, ?_⟩
  rcases h2 with h2 | ⟨g, cap, cur, hv, hg, hh, r⟩
  · exact Or.inl h2
  · exact Or.inr ⟨g, cap, cur, hv, hg, by rw [hb.block g (Nat.lt_of_lt_of_le (lt_of_block hh) hB)]; exact hh, r⟩
theorem OwnV.mono {base base' : Nat} {v : Value} {l : List Value} {w : World} (h : OwnV base v l w) (hb : base' ≤ base) : OwnV base' v l w := by
  obtain ⟨h1, h2⟩ := h
  refine ⟨h1, ?_⟩
  rcases h2 with h2 | ⟨g, cap, cur, hv, hg, r⟩
  · exact Or.inl h2
  · exact Or.inr ⟨g, cap, cur, hv, by omega, r⟩
/-- Opened: where it lies. -/
theorem OwnV.open {base : Nat} {v : Value} {l : List Value} {w : World} (h : OwnV base v l w) : ∃ ao cap, v = .slice ao l.length cap ∧ (ao = none → cap = 0) ∧ LtB ao w.heap.size ∧ GeB ao base ∧
    ∀ (j : Nat) (u : Value), l[j]? = some u → ∃ g, ao = some ⟨g, 0, none⟩ ∧ w.cell? ⟨g, j, none⟩ = some u ∧ w.frozen? ⟨g, j, none⟩ = false := by
  rcases h.2 with ⟨h1, h2⟩ | ⟨g, cap, cur, hv, hg, hh, hle, hcm, hsz, htake⟩
  · refine ⟨none, 0, by rw [h1, h2], fun _ => rfl, fun x hx => (by cases hx), fun x hx => (by cases hx), fun j u hj => ?_⟩
    rw [List.length_eq_zero_iff.1 h2] at hj
    simp at hj
  · refine ⟨_, cap, hv, fun e => (by cases e), fun x hx => (by cases hx; exact lt_of_block hh), fun x hx => (by cases hx; exact hg), fun j u hj => ⟨g, rfl, ?_, frozen_of_row w g j cur 26 hh⟩⟩
    have hj' := (List.getElem?_eq_some_iff.1 hj).1
    rw [cell_of_row w g j cur 26 (0, 0) hh, ← Array.getElem?_toList]
    have h3 : (cur.toList.take (l.length * 1))[j]? = l[j]? := by rw [htake]
    rw [List.getElem?_take, if_pos (by omega)] at h3
    rw [h3]; exact hj

/-- 'l = append(l, y)', l a slice of slices of the call's own. -/
theorem append_sl {ops : Array Oper} {rest : List Oper} {o : Oper} {a : Act} {w : World} {Q : Exit → Act → World → Prop} (hgd : o.guard = none) (s x : Operand)
    (ho : o.op = .call { callee := .builtin .append, args := #[s, x], argTypes := #[83, 83] })
    (base : Nat) (v : Value) (l : List Value) (hs : a.eval s = v) (hown : OwnV base v l w) (ad : Addr) (c : Nat) (y : Value) (hy : y.oneCell' = true) (hx : a.eval x = .slice (some ad) 1 c) (hcell : w.cell? ad = some y)
    (hlen : l.length ≤ 1000000) (hbase : base ≤ w.heap.size)
    (h : ∀ v' w', OwnV base v' (l ++ [y]) w' → w.grownBy w' v.ownBlock → wpList Try.prog ops Q rest (a.put o.dst v') w') : wpList Try.prog ops Q (o :: rest) a w := by
  obtain ⟨i0, hi, hz0, hz1, hz2⟩ := info_parts Try.infoSl
  refine wpList_append_own _ hgd s x 83 ho base 26 i0 (.slice none 0 0) 1 24 Try.underlying83 hi hz0 hz1 hz2 rfl (by decide) v l.length _ hs hown ad 1 c [y] hx rfl ?_ ?_ ?_ ?_ hbase ?_
  · intro j u hj
    match j, hj with
    | 0, hj =>
      simp at hj; subst hj
      have : ad.add 0 = ad := by cases ad with | mk b o s => cases s <;> simp [Addr.add]
      rw [this]; exact hcell
  · intro u hu; simp at hu; subst hu; exact hy
  · unfold maxLen; omega
  · omega
  · intro v' w' hown' hgrow _
    refine h v' w' ?_ hgrow
    unfold OwnV
    rw [List.length_append]
    exact hown'

/-- A row of numbers is no row of slices. -/
theorem Row.apart {base g N : Nat} {c : Nat → Nat} {v : Value} {l : List Value} {w : World} (h : Row g N c w) (ho : OwnV base v l w) : some g ≠ v.ownBlock := by
  obtain ⟨cap, f, ⟨cs, h1, _⟩, _⟩ := h
  rcases ho.2 with ⟨h2, _⟩ | ⟨g', cap', cur, hv, _, hh, _⟩
  · rw [h2]; intro e; cases e
  · rw [hv]
    intro e
    have e : some g = some g' := e
    cases e
    rw [h1] at hh
    simp at hh
/-- The slice v is polynomial p (its degree, its coefficients), in a row of numbers. -/
def Elm (v : Value) (p : Nat × (Nat → Nat)) (w : World) : Prop := ∃ g cap, v = .slice (some ⟨g, 0, none⟩) (p.1 + 1) cap ∧ p.1 + 1 ≤ cap ∧ cap ≤ 9223372036854775807 ∧ Row g (p.1 + 1) p.2 w
theorem Elm.below {v : Value} {p : Nat × (Nat → Nat)} {w w' : World} (h : Elm v p w) {B : Nat} (hb : Below B w w') (hB : w.heap.size ≤ B) : Elm v p w' := by
  obtain ⟨g, cap, e, h1, h2, hr⟩ := h
  exact ⟨g, cap, e, h1, h2, hr.below hb (Nat.lt_of_lt_of_le hr.lt hB)⟩
theorem Elm.grown {base : Nat} {u v : Value} {p : Nat × (Nat → Nat)} {l : List Value} {w w' : World} (h : Elm u p w) (ho : OwnV base v l w) (hg : w.grownBy w' v.ownBlock) : Elm u p w' := by
  obtain ⟨g, cap, e, h1, h2, hr⟩ := h
  exact ⟨g, cap, e, h1, h2, hr.other (hg.block g hr.lt (hr.apart ho))⟩
theorem OwnP.elm {base d : Nat} {v : Value} {c : Nat → Nat} {w : World} (h : OwnP base v (d + 1) c w) : Elm v (d, c) w := by
  obtain ⟨ao, cap, hv, h1, h2, _, _, _, hr⟩ := h
  obtain ⟨g, e, hrow⟩ := hr (by omega)
  exact ⟨g, cap, by rw [hv, e], h1, h2, hrow⟩
theorem Elm.sl {v : Value} {p : Nat × (Nat → Nat)} {w : World} (h : Elm v p w) : ∃ ao cap, v = .slice ao (p.1 + 1) cap ∧ p.1 + 1 ≤ cap ∧ cap ≤ 9223372036854775807 ∧ Sl ao (p.1 + 1) p.2 w ∧ LtB ao w.heap.size ∧ (ao = none → cap = 0) := by
  obtain ⟨g, cap, e, h1, h2, hr⟩ := h
  exact ⟨_, cap, e, h1, h2, hr.sl (Nat.le_refl _), fun x hx => (by cases hx; exact hr.lt), fun e => (by cases e)⟩
/-- Slice by slice. -/
def Elms (l : List Value) (L : List (Nat × (Nat → Nat))) (w : World) : Prop := l.length = L.length ∧ ∀ (j : Nat) (v : Value) (p : Nat × (Nat → Nat)), l[j]? = some v → L[j]? = some p → Elm v p w
theorem Elms.nil (w : World) : Elms [] [] w := ⟨rfl, fun j v p h _ => by simp at h⟩
theorem Elms.snoc {l : List Value} {L : List (Nat × (Nat → Nat))} {v : Value} {p : Nat × (Nat → Nat)} {w : World} (h : Elms l L w) (hv : Elm v p w) : Elms (l ++ [v]) (L ++ [p]) w := by
  refine ⟨by rw [List.length_append, List.length_append, h.1]; rfl, fun j u r hu hr => ?_⟩
  by_cases hj : j < l.length
  · rw [List.getElem?_append_left hj] at hu
    rw [List.getElem?_append_left (by rw [← h.1]; exact hj)] at hr
    exact h.2 j u r hu hr
  · rw [List.getElem?_append_right (by omega)] at hu
    rw [List.getElem?_append_right (by rw [← h.1]; omega), ← h.1] at hr
    cases hk : j - l.length with
    | zero =>
      rw [hk] at hu hr
      simp at hu hr
      subst hu; subst hr; exact hv
    | succ k =>
      rw [hk] at hu
      simp at hu
theorem Elms.below {l : List Value} {L : List (Nat × (Nat → Nat))} {w w' : World} (h : Elms l L w) {B : Nat} (hb : Below B w w') (hB : w.heap.size ≤ B) : Elms l L w' := ⟨h.1, fun j v p hv hp => (h.2 j v p hv hp).below hb hB⟩
theorem Elms.grown {base : Nat} {v : Value} {l' l : List Value} {L : List (Nat × (Nat → Nat))} {w w' : World} (h : Elms l L w) (ho : OwnV base v l' w) (hg : w.grownBy w' v.ownBlock) : Elms l L w' := ⟨h.1, fun j u p hu hp => (h.2 j u p hu hp).grown ho hg⟩
/-- The list of lists v, made behind block number base: the polynomials L. -/
def LLs (base : Nat) (v : Value) (L : List (Nat × (Nat → Nat))) (w : World) : Prop := ∃ l, OwnV base v l w ∧ Elms l L w
theorem LLs.nil (base : Nat) (w : World) : LLs base (.slice none 0 0) [] w := ⟨[], OwnV.nil _ _, Elms.nil _⟩
theorem LLs.below {base B : Nat} {v : Value} {L : List (Nat × (Nat → Nat))} {w w' : World} (h : LLs base v L w) (hb : Below B w w') (hB : w.heap.size ≤ B) : LLs base v L w' := by
  obtain ⟨l, h1, h2⟩ := h
  exact ⟨l, h1.below hb hB, h2.below hb hB⟩
theorem LLs.mono {base base' : Nat} {v : Value} {L : List (Nat × (Nat → Nat))} {w : World} (h : LLs base v L w) (hb : base' ≤ base) : LLs base' v L w := by
  obtain ⟨l, h1, h2⟩ := h
  exact ⟨l, h1.mono hb, h2⟩
end Go.Proofs.Ytmnkablobhdbjaa
