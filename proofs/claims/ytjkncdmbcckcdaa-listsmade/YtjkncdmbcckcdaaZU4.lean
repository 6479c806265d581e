/- Texts of ours, one behind the other: U4 U5 U6 U7 U8 U9 U10 U11 U12 U13 U14 U15 U16 U17 V1 V2 V3 W5 V4. -/
import Derived.Test.YtjkncdmbcckcdaaZN1
import Derived.Laws.CopyOwn
import Derived.Laws.AppendOwnNone
import Derived.Lib.SliceRun
import Derived.Test.YtjkncdmbcckcdaaZR10
import Derived.Lib.QuietBelow
/- Lists that are copied: append(.., l...), copy, Clone, Copy; the program's sums of polynomials. -/
namespace Go.Proofs.Ytjkncdmbcckcdaa
open Go.RowKit

/-- The n coefficients c as cells. -/
def celL (n : Nat) (c : Nat → Nat) : List Value := (List.range n).map fun k => .int .i64 (c k : Nat)
theorem celL_len (n : Nat) (c : Nat → Nat) : (celL n c).length = n := by simp [celL]
theorem celL_get (n : Nat) (c : Nat → Nat) (j : Nat) (hj : j < n) : (celL n c)[j]? = some (.int .i64 (c j : Nat)) := by
  unfold celL
  rw [List.getElem?_map, List.getElem?_range hj]; rfl
theorem celL_one (n : Nat) (c : Nat → Nat) : ∀ u ∈ celL n c, u.oneCell' = true := by
  intro u hu
  unfold celL at hu
  obtain ⟨k, _, rfl⟩ := List.mem_map.1 hu
  rfl
theorem add_off (b off j : Nat) : (Addr.mk b off none).add j = ⟨b, off + j, none⟩ := by simp [Addr.add]

/-- 'copy(out, l)', out a row of the call's own, at least as long as l. -/
theorem copy_int {ops : Array Oper} {rest : List Oper} {o : Oper} {a : Act} {w : World} {Q : Exit → Act → World → Prop} (hgd : o.guard = none) (d s : Operand)
    (ho : o.op = .call { callee := .builtin .copy, args := #[d, s], argTypes := #[22, 22] }) (g N dc n sc : Nat) (ao : Option Addr)
    (hd : a.eval d = .slice (some ⟨g, 0, none⟩) N dc) (hs : a.eval s = .slice ao n sc) (c x : Nat → Nat) (hrow : Row g N c w) (hS : Sl ao n x w) (hn : n ≤ N)
    (B : Nat) (w0 : World) (hb : Below B w0 w) (hBg : B ≤ g)
    (h : ∀ w', Row g N (fun k => if k < n then x k else c k) w' → Below B w0 w' → wpList Try.prog ops Q rest (a.put o.dst (goInt n)) w') : wpList Try.prog ops Q (o :: rest) a w := by
  obtain ⟨cap, f, hf, hN, he⟩ := hrow
  obtain ⟨cs, h1, h2, h3⟩ := hf
  obtain ⟨i0, hi, hz0, hz1, hz2⟩ := info_parts Try.infoInt
  have hh : w.heap[g]? = some (.cells cs.toList.toArray 3 (0, 0)) := by simpa using h1
  refine wpList_copy_splice hgd d s 22 22 ho 3 Try.underlying22 (by rw [hi]; simp [hz1]) _ _ N dc n sc hd hs g 0 cs.toList 3 hh (celL n x) (by rw [celL_len]; exact (Nat.min_eq_left hn).symm) ?_ (by rw [celL_len]; simp; omega) (celL_one n x) B w0 hb hBg ?_
  · intro h0
    rw [celL_len] at h0
    obtain ⟨b, off, rfl, _⟩ := hS 0 h0
    refine ⟨rfl, _, rfl, fun j v hj => ?_⟩
    have hj' : j < n := by
      have := (List.getElem?_eq_some_iff.1 hj).1
      rwa [celL_len] at this
    rw [celL_get n x j hj'] at hj
    cases hj
    obtain ⟨b', off', e, hc⟩ := hS j hj'
    cases e
    rw [add_off]; exact hc
  · intro w' hg' hb'
    rw [celL_len]
    refine h w' ?_ hb'
    have hlen : (splice cs.toList 0 (celL n x)).length = cap := by rw [length_splice _ _ _ (by rw [celL_len]; simp; omega)]; simpa using h2
    refine ⟨cap, fun k => if k < n then .int .i64 (x k : Nat) else f k, ⟨(splice cs.toList 0 (celL n x)).toArray, hg'.out, by simpa using hlen, fun k hk => ?_⟩, hN, fun k hk => ?_⟩
    · show _ = some (if k < n then _ else f k)
      unfold splice
      rw [List.getElem?_toArray, List.take_zero, List.nil_append, celL_len, Nat.zero_add]
      by_cases e : k < n
      · rw [List.getElem?_append_left (by rw [celL_len]; exact e), celL_get n x k e, if_pos e]
      · rw [List.getElem?_append_right (by rw [celL_len]; omega), celL_len, List.getElem?_drop, show n + (k - n) = k from by omega, Array.getElem?_toList, h3 k hk, if_neg e]
    · show (if k < n then _ else f k) = .int .i64 ((if k < n then x k else c k : Nat) : Int)
      by_cases e : k < n
      · rw [if_pos e, if_pos e]
      · rw [if_neg e, if_neg e]; exact he k hk

/-- 'append(v, l...)', v the call's own list. -/
theorem append_list {ops : Array Oper} {rest : List Oper} {o : Oper} {a : Act} {w : World} {Q : Exit → Act → World → Prop} (hgd : o.guard = none) (s x : Operand)
    (ho : o.op = .call { callee := .builtin .append, args := #[s, x], argTypes := #[22, 22] })
    (base : Nat) (v : Value) (hs : a.eval s = v) (hown : OwnI base v [] w) (ao : Option Addr) (n sc : Nat) (c : Nat → Nat) (hx : a.eval x = .slice ao n sc) (hS : Sl ao n c w) (hnil : ao = none → sc = 0)
    (hn : n ≤ 1000000) (hbase : base ≤ w.heap.size)
    (h : ∀ v' w', OwnP base v' n c w' → w.grownBy w' v.ownBlock → wpList Try.prog ops Q rest (a.put o.dst v') w') : wpList Try.prog ops Q (o :: rest) a w := by
  obtain ⟨i0, hi, hz0, hz1, hz2⟩ := info_parts Try.infoInt
  have key : ∀ v' w', w'.ownsRow base 3 1 v' (0 + n) ([] ++ celL n c) → OwnP base v' n c w' := by
    intro v' w' ho'
    rw [Nat.zero_add, List.nil_append] at ho'
    rcases ho'.2 with ⟨h1, h2⟩ | ⟨g, cap, cur, hv, hg, hh, hle, hcm, hsz, htake⟩
    · subst h2
      exact ⟨none, 0, h1, Nat.le_refl _, by omega, fun x hx => (by cases hx), fun x hx => (by cases hx), fun _ => rfl, fun h0 => absurd h0 (by omega)⟩
    · refine ⟨_, cap, hv, hle, by unfold maxLen at hcm; omega, fun x hx => (by cases hx; exact hg), fun x hx => (by cases hx; exact lt_of_block hh), fun e => (by cases e), fun _ => ⟨g, rfl, cap, fun k => (cur[k]?).getD (.int .i64 0), ⟨cur, hh, by omega, fun k hk => ?_⟩, hle, fun k hk => ?_⟩⟩
      · show _ = some (Option.getD _ _)
        rw [Array.getElem?_eq_getElem (by omega)]; rfl
      · have h3 : (cur.toList.take (n * 1))[k]? = (celL n c)[k]? := by rw [htake]
        rw [List.getElem?_take, if_pos (by omega), celL_get n c k hk] at h3
        show (cur[k]?).getD _ = _
        rw [← Array.getElem?_toList, h3]; rfl
  cases ao with
  | none =>
    have h0 : n = 0 := by
      rcases Nat.eq_zero_or_pos n with e | e
      · exact e
      · obtain ⟨b, off, h1, _⟩ := hS 0 e
        cases h1
    subst h0
    rw [hnil rfl] at hx
    refine wpList_append_own_none hgd s x 22 ho base 3 i0 1 Try.underlying22 hi v 0 [] hs hown hx ?_
    exact h v w (key v w hown) (grown_refl _ _)
  | some ad =>
    refine wpList_append_own _ hgd s x 22 ho base 3 i0 (.int .i64 0) 1 8 Try.underlying22 hi hz0 hz1 hz2 rfl (by decide) v 0 [] hs hown ad n sc (celL n c) hx (by rw [celL_len]; omega) ?_ (celL_one n c) ?_ ?_ hbase ?_
    · intro j u hj
      have hj' : j < n := by
        have := (List.getElem?_eq_some_iff.1 hj).1
        rwa [celL_len] at this
      rw [celL_get n c j hj'] at hj
      cases hj
      obtain ⟨b, off, e, hc⟩ := hS j hj'
      cases e
      rw [add_off]; exact hc
    · unfold maxLen; omega
    · omega
    · intro v' w' hown' hgrow _
      exact h v' w' (key v' w' hown') hgrow
end Go.Proofs.Ytjkncdmbcckcdaa

/- Clone, Copy; the program's sums of polynomials. -/
namespace Go.Proofs.Ytjkncdmbcckcdaa
open Go.RowKit

theorem own_empty {base g : Nat} {w : World} (h : w.heap[g]? = some (.cells #[] 3 (0, 0))) (hb : base ≤ g) : OwnI base (.slice (some ⟨g, 0, none⟩) 0 0) [] w :=
  ⟨rfl, Or.inr ⟨g, 0, #[], rfl, hb, h, Nat.le_refl _, by unfold maxLen; omega, rfl, rfl⟩⟩

set_option maxHeartbeats 1000000 in
set_option maxRecDepth 100000 in
theorem copy_any {ao : Option Addr} {n cap : Nat} {c : Nat → Nat} {w : World} (h : Sl ao n c w) (hn : n ≤ 1000000) (hnil : ao = none → cap = 0) (hl : LtB ao w.heap.size) :
    Calls Try.prog 46 #[.slice ao n cap] w fun e w' => ∃ v, e = .returned v ∧ OwnP w.heap.size v n c w' ∧ Below w.heap.size w w' := by
  have HS : Hid (Sl ao n c w ∧ (ao = none → cap = 0) ∧ LtB ao w.heap.size) := ⟨h, hnil, hl⟩
  clear h hnil hl
  go_enter Try.func46, Try.ntmps46
  go_wp2_with (at_builtin; refine append_list rfl _ _ rfl w.heap.size _ rfl (own_empty (two_new _) (Nat.le_refl _)) ao n cap c rfl (HS.out.1.below ((Below.refl _ _).alloc (Nat.le_refl _) _) HS.out.2.2) HS.out.2.1 hn (by simp) ?_; intro v' w' hown hgrow)
  go_ret
  exact ⟨_, rfl, hown, ((Below.refl _ _).alloc (Nat.le_refl _) _).grown hgrow (by simp) (by intro k hk; have hk : some w.heap.size = some k := hk; cases hk; exact Nat.le_refl _)⟩

end Go.Proofs.Ytjkncdmbcckcdaa

/- The program's sums of polynomials. -/
namespace Go.Proofs.Ytjkncdmbcckcdaa
open Go.RowKit

end Go.Proofs.Ytjkncdmbcckcdaa

/- The program's division of polynomials. -/
namespace Go.Proofs.Ytjkncdmbcckcdaa
open Go.RowKit

theorem inv_nat' {F T : Nat} {D : FD} (hD : D ∈ fieldsL) {g : Nat → Value} {w : World} (h : FAt F T D g w) {x : Nat} (hx : x < D.q) (h0 : x ≠ 0) :
    Calls Try.prog 148 #[.pointer (some ⟨F, 0, none⟩), .int .i64 x] w fun e w' => e = .returned (.int .i64 (D.iv x : Nat)) ∧ ∃ n, w' = w.drewN n := by
  have k := inv_any hD h x
  rw [inv_nat hD hx h0] at k
  exact k
theorem subZ_nat {D : FD} (F : Fld D) {a b : Nat} (ha : a < D.q) (hb : b < D.q) : D.subZ a b = (D.sb a b : Nat) := by
  rw [FD.subZ, FD.negZ, if_pos (nat_has hb), Int.toNat_natCast, addZ_nat F ha (F.neg_lt b hb)]; rfl
theorem OwnP.setOther {base n : Nat} {v : Value} {c : Nat → Nat} {w : World} (h : OwnP base v n c w) (a : Addr) (ha : ∀ g, v.ownBlock = some g → g ≠ a.block) (u : Value) : OwnP base v n c (w.setCell a u) := by
  obtain ⟨ao, cap, rfl, h1, h2, hg, hl, hz, hr⟩ := h
  refine ⟨ao, cap, rfl, h1, h2, hg, fun x hx => by simpa [World.setCell] using hl x hx, hz, fun h0 => ?_⟩
  obtain ⟨g, rfl, hrow⟩ := hr h0
  exact ⟨g, rfl, hrow.other (Below.heap_setCell _ _ _ _ (ha g rfl))⟩
theorem OwnP.store {base n cap g : Nat} {c d : Nat → Nat} {w : World} (h : OwnP base (.slice (some ⟨g, 0, none⟩) n cap) n c w) (k u : Nat) (h0 : 0 < n) (hd : ∀ j, j < n → d j = if j = k then u else c j) :
    OwnP base (.slice (some ⟨g, 0, none⟩) n cap) n d (w.setCell ⟨g, k, none⟩ (.int .i64 (u : Nat))) := by
  obtain ⟨ao, cap', hv, h1, h2, hg, hl, hz, hr⟩ := h
  simp only [Value.slice.injEq, true_and] at hv
  obtain ⟨rfl, rfl⟩ := hv
  obtain ⟨g', e, hrow⟩ := hr h0
  cases e
  exact ⟨_, cap, rfl, h1, h2, hg, fun x hx => by simpa [World.setCell] using hl x hx, fun e => (by cases e), fun _ => ⟨g, rfl, hrow.store k u hd⟩⟩

theorem OwnP.row {base n cap : Nat} {ao : Option Addr} {c : Nat → Nat} {w : World} (h : OwnP base (.slice ao n cap) n c w) (h0 : 0 < n) : ∃ g, ao = some ⟨g, 0, none⟩ ∧ base ≤ g ∧ g < w.heap.size ∧ Row g n c w := by
  obtain ⟨ao', cap', hv, h1, h2, hg, hl, hz, hr⟩ := h
  simp only [Value.slice.injEq, true_and] at hv
  obtain ⟨rfl, rfl⟩ := hv
  obtain ⟨g, rfl, hrow⟩ := hr h0
  exact ⟨g, rfl, hg _ rfl, hl _ rfl, hrow⟩

end Go.Proofs.Ytjkncdmbcckcdaa

/- The program's division of polynomials: the walk. -/
namespace Go.Proofs.Ytjkncdmbcckcdaa
open Go.RowKit

end Go.Proofs.Ytjkncdmbcckcdaa

/- The program's polynomials: which may be (Check), and over which field (over). -/
namespace Go.Proofs.Ytjkncdmbcckcdaa
open Go.RowKit

/-- The first n numbers of the slice that begins at ao are z. -/
def SlZ (ao : Option Addr) (n : Nat) (z : Nat → Int) (w : World) : Prop := ∀ j, j < n → ∃ b off, ao = some ⟨b, off, none⟩ ∧ w.cell? ⟨b, off + j, none⟩ = some (.int .i64 (z j))
theorem SlZ.below {ao : Option Addr} {n B : Nat} {z : Nat → Int} {w w' : World} (h : SlZ ao n z w) (hb : Below B w w') (hB : LtB ao B) : SlZ ao n z w' := fun j hj => by
  obtain ⟨b, off, rfl, hc⟩ := h j hj
  exact ⟨b, off, rfl, ((bcell hb).1 b (off + j) (hB _ rfl)).trans hc⟩
theorem Sl.z {ao : Option Addr} {n : Nat} {c : Nat → Nat} {w : World} (h : Sl ao n c w) : SlZ ao n (fun j => (c j : Nat)) w := h
/-- How many of the first numbers are elements, one after the other. -/
def FD.allHas (D : FD) (z : Nat → Int) : Nat → Bool
  | 0 => true
  | n + 1 => D.allHas z n && D.has (z n)
theorem allHas_iff {D : FD} {z : Nat → Int} : ∀ {n : Nat}, D.allHas z n = true ↔ ∀ j, j < n → D.has (z j) = true
  | 0 => ⟨fun _ j hj => by omega, fun _ => rfl⟩
  | n + 1 => by
    rw [FD.allHas, Bool.and_eq_true, allHas_iff]
    constructor
    · rintro ⟨h1, h2⟩ j hj
      by_cases e : j = n
      · rw [e]; exact h2
      · exact h1 j (by omega)
    · intro h
      exact ⟨fun j hj => h j (by omega), h n (by omega)⟩
/-- What Check says of n numbers. -/
def FD.chk (D : FD) (n : Nat) (z : Nat → Int) : Int := if 128 < n then 4 else if D.allHas z n = true then 0 else 2

set_option maxHeartbeats 2000000 in
set_option maxRecDepth 100000 in
theorem check_any {D : FD} (hD : D ∈ fieldsL) {ao : Option Addr} {n cap : Nat} {z : Nat → Int} {w : World} (h : SlZ ao n z w) (hl : LtB ao w.heap.size) (hn : n ≤ 1000000) :
    Calls Try.prog 63 #[.int .i64 D.q, .slice ao n cap] w fun e w' => e = .returned (.int .i64 (D.chk n z)) ∧ Below w.heap.size w w' := by
  have HS : Hid (SlZ ao n z w ∧ LtB ao w.heap.size ∧ D ∈ fieldsL) := ⟨h, hl, hD⟩
  clear h hl hD
  go_enter Try.func63, Try.ntmps63
  go_wp2_with fail
  refine (new_any HS.out.2.2 w).mono ?_
  rintro e w1 ⟨F, T, g, rfl, hat, hF, hT, hb1⟩
  have HA : Hid (FAt F T D g w1 ∧ SlZ ao n z w1 ∧ Below w.heap.size w w1) := ⟨hat, HS.out.1.below hb1 HS.out.2.1, hb1⟩
  clear hat hF hT hb1
  by_cases h128 : 128 < n
  · have HV : Hid (D.chk n z = 4) := by show D.chk n z = 4; rw [FD.chk, if_pos h128]
    go_wp2
    go_ret
    exact ⟨ret_int (by rw [HV.out]), HA.out.2.2⟩
  · go_wp2
    go_loopw [22] (fun i wr => ∃ r : Nat, r ≤ n ∧ i = .int .i64 r ∧ Hid (D.allHas z r = true) ∧ wr = w1) (fun i _ => n - (intOf i).toNat)
    case atStart => exact ⟨0, by omega, rfl, rfl, rfl⟩
    case round =>
      obtain ⟨r, hr, rfl, HH, rfl⟩ := hrel
      by_cases hlt : r < n
      · obtain ⟨b, off, rfl, hc⟩ := HA.out.2.1 r hlt
        by_cases hh : D.has (z r) = true
        · have HH2 : Hid (D.allHas z (r + 1) = true) := by show D.allHas z (r + 1) = true; rw [FD.allHas, HH.out, hh]; rfl
          go_wp2_with (go_at_call 102; refine (has_any HA.out.1 _).mono ?_; rintro e w' ⟨rfl, hw⟩; have hw := hw.symm; subst hw)
          go_roundw
          case rel => exact ⟨r + 1, by omega, by go_num, HH2.out, by first | rfl | trivial⟩
          case measure => simp [intOf]; omega
        · have hh' : D.has (z r) = false := by simpa using hh
          have HV : Hid (D.chk n z = 2) := by
            show D.chk n z = 2
            rw [FD.chk, if_neg h128, if_neg]
            intro e
            exact hh (allHas_iff.1 e r hlt)
          clear hh
          go_wp2_with (go_at_call 102; refine (has_any HA.out.1 _).mono ?_; rintro e w' ⟨rfl, hw⟩; have hw := hw.symm; subst hw)
          go_ret
          exact ⟨ret_int (by rw [HV.out]), HA.out.2.2⟩
      · have HV : Hid (D.chk n z = 0) := by
          show D.chk n z = 0
          have e : r = n := by omega
          rw [FD.chk, if_neg h128, if_pos (e ▸ HH.out)]
        go_wp2
        go_ret
        exact ⟨ret_int (by rw [HV.out]), HA.out.2.2⟩
end Go.Proofs.Ytjkncdmbcckcdaa

/- The program's polynomials: the calls that are listed: Add. -/
namespace Go.Proofs.Ytjkncdmbcckcdaa
open Go.RowKit

/-- A list that is handed in: where it lies, how long it is, its numbers. -/
structure Arg (ao : Option Addr) (n cap : Nat) (z : Nat → Int) (w : World) : Prop where
  sl : SlZ ao n z w
  lt : LtB ao w.heap.size
  few : n ≤ 1000000
  nil : ao = none → cap = 0
  le : n ≤ cap
  cap : cap ≤ 9223372036854775807
theorem Arg.below {ao : Option Addr} {n cap : Nat} {z : Nat → Int} {w w' : World} (h : Arg ao n cap z w) (hb : Below w.heap.size w w') : Arg ao n cap z w' :=
  ⟨h.sl.below hb h.lt, h.lt.mono hb.size, h.few, h.nil, h.le, h.cap⟩

def two {α : Type} (x y : α) : Nat → α := fun j => if j = 0 then x else y
/-- The coefficients of n numbers that are elements. -/
def zc (n : Nat) (z : Nat → Int) : Nat → Nat := fun j => if j < n then (z j).toNat else 0
theorem zc_bd (n : Nat) (z : Nat → Int) : Bd n (zc n z) := fun k hk => by unfold zc; rw [if_neg (by omega)]
theorem chk_zero {D : FD} {n : Nat} {z : Nat → Int} (h : D.chk n z = 0) : n ≤ 128 ∧ ∀ j, j < n → D.has (z j) = true := by
  unfold FD.chk at h
  by_cases h1 : 128 < n
  · rw [if_pos h1] at h; cases h
  · rw [if_neg h1] at h
    by_cases h2 : D.allHas z n = true
    · exact ⟨by omega, allHas_iff.1 h2⟩
    · rw [if_neg h2] at h; cases h
theorem zc_el {D : FD} (F : Fld D) {n : Nat} {z : Nat → Int} (h : D.chk n z = 0) : El D (zc n z) := fun j => by
  unfold zc
  by_cases e : j < n
  · obtain ⟨x, hx, hxq⟩ := has_nat ((chk_zero h).2 j e)
    rw [if_pos e, hx, Int.toNat_natCast]; exact hxq
  · rw [if_neg e]; exact zero_lt' F
theorem zc_sl {D : FD} {ao : Option Addr} {n : Nat} {z : Nat → Int} {w : World} (h : D.chk n z = 0) (hS : SlZ ao n z w) : Sl ao n (zc n z) w := fun j hj => by
  obtain ⟨b, off, e, hc⟩ := hS j hj
  obtain ⟨x, hx, hxq⟩ := has_nat ((chk_zero h).2 j hj)
  refine ⟨b, off, e, ?_⟩
  rw [hc]
  unfold zc
  rw [if_pos hj, hx, Int.toNat_natCast]
end Go.Proofs.Ytjkncdmbcckcdaa

/- The program's polynomials: the calls that are listed: Mul, Div, At. -/
namespace Go.Proofs.Ytjkncdmbcckcdaa
open Go.RowKit

end Go.Proofs.Ytjkncdmbcckcdaa

/- The program's polynomials: the calls that are listed: Div, At. -/
namespace Go.Proofs.Ytjkncdmbcckcdaa
open Go.RowKit

end Go.Proofs.Ytjkncdmbcckcdaa

/- The program's polynomials: the calls that are listed: At, Roots. -/
namespace Go.Proofs.Ytjkncdmbcckcdaa
open Go.RowKit

end Go.Proofs.Ytjkncdmbcckcdaa

/- The program's polynomials: the calls that are listed: Roots. -/
namespace Go.Proofs.Ytjkncdmbcckcdaa
open Go.RowKit

end Go.Proofs.Ytjkncdmbcckcdaa

/- The program's polynomials: with 1 at the end (monic); the calls that are listed: Gcd. -/
namespace Go.Proofs.Ytjkncdmbcckcdaa
open Go.RowKit

end Go.Proofs.Ytjkncdmbcckcdaa

/- How many there are to try (tooMany, Tries). -/
namespace Go.Proofs.Ytjkncdmbcckcdaa
open Go.RowKit

end Go.Proofs.Ytjkncdmbcckcdaa

/- Does an element stand twice in a list (hasTwice)? -/
namespace Go.Proofs.Ytjkncdmbcckcdaa
open Go.RowKit

end Go.Proofs.Ytjkncdmbcckcdaa

/- The reference's polynomials: without noughts at the end (Trim); which may be (PolyMay). -/
namespace Go.Proofs.Ytjkncdmbcckcdaa
open Go.RowKit

end Go.Proofs.Ytjkncdmbcckcdaa

/- The reference's polynomials: which may be (PolyMay). -/
namespace Go.Proofs.Ytjkncdmbcckcdaa
open Go.RowKit

end Go.Proofs.Ytjkncdmbcckcdaa

/- The reference's polynomials: sums (PAdd). -/
namespace Go.Proofs.Ytjkncdmbcckcdaa
open Go.RowKit

end Go.Proofs.Ytjkncdmbcckcdaa

/- The same where the calls lay blocks: the worlds in which nothing that was there has turned. No Go text here. -/
namespace Go.Proofs.Ytjkncdmbcckcdaa
open Go Go.Sort Go.RowKit

theorem quiet_tail_of {P : Program} {C : World → Prop} {id : Nat} {Q : Exit → Act → World → Prop} {a : Act} {w : World} {l : List Oper} (n : Nat) (hm : P.follows .mixedOrders = true) (hB : Region.lexTailB .any l.toArray n = true) (hC : C { w with drawn := w.drawn + 1 })
    (h : wpQuiet P l.toArray C (fun a' => ∀ w', C w' → wpList P l.toArray Q (l.drop n) a' w') (l.take n) a) : (Code.region id l.toArray true).wp P Q a w := by
  simp only [Region.lexTailB, Bool.and_eq_true, decide_eq_true_eq] at hB
  obtain ⟨⟨⟨⟨hsel, hn⟩, hs⟩, hc⟩, hlex⟩ := hB
  have hn' : n < l.length := by simpa using hn
  have htl : (l.take n).length = n := by simp; omega
  have hdl : (l.drop n).length = l.toArray.size - n := by simp
  have inv0 : HeadInv .any l.toArray n (Array.replicate l.toArray.size false) :=
    ⟨by simp, fun j oj _ hl => (by rw [getD_replicate_false] at hl; cases hl), fun t _ ht => getD_in (by simpa using ht) (getD_replicate_false _ _)⟩
  have H := head_lex (g := l.toArray.size - n) hsel hs hc hn (l.take n) 0 _ a (fun j hj => by
    have hj' : j < n := by rw [htl] at hj; exact hj
    simp [hj']) (by simpa using htl) inv0 (by rw [htl]; exact hlex) h
  refine wp_region_any hm ?_
  have R := head_any (Q := Q) (g := l.toArray.size - n) (fun s a' w' hw' hL => by
    have := wpAny_of_seq (md := .any) (Q' := Q) (l.drop n) n s a' w' (fun j => by simp [List.getElem?_drop]) (by rw [hdl]; exact hL.1) (hL.2 w' hw')
    rwa [hdl] at this) _ _ _ _ hC H
  rw [htl, show n + (l.toArray.size - n) = l.toArray.size by omega] at R
  exact R
theorem below_tail {P : Program} {id : Nat} {Q : Exit → Act → World → Prop} {a : Act} {w : World} {l : List Oper} (n : Nat) (hm : P.follows .mixedOrders = true) (hB : Region.lexTailB .any l.toArray n = true)
    (h : wpQuiet P l.toArray (fun w' => ∃ p : Regrown, w' = grow (redrawn w p.d) p.os) (fun a' => ∀ w', (∃ p : Regrown, w' = grow (redrawn w p.d) p.os) → wpList P l.toArray Q (l.drop n) a' w') (l.take n) a) : (Code.region id l.toArray true).wp P Q a w :=
  quiet_tail_of (C := fun w' => ∃ p : Regrown, w' = grow (redrawn w p.d) p.os) n hm hB ⟨⟨w.drawn + 1, #[]⟩, by rw [grow_empty]; rfl⟩ h
theorem free_regrown {w : World} {a : Addr} (ha : a.block < w.heap.size) (h : w.frozen? a = false) (d : Nat) (os : Array Obj) : (grow (redrawn w d) os).frozen? a = false := by
  rw [World.frozen?_of_block (w := w) ((below_regrown w d os).block _ ha)]; exact h
end Go.Proofs.Ytjkncdmbcckcdaa

/- The reference's polynomials: products (PMul). -/
namespace Go.Proofs.Ytjkncdmbcckcdaa
open Go.RowKit Go.Sort

end Go.Proofs.Ytjkncdmbcckcdaa
