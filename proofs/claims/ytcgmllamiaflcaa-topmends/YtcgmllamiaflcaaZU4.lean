/- Texts of ours, one behind the other: U4 U5 U6 U7. -/
import Derived.Test.YtcgmllamiaflcaaZW4
import Derived.Laws.CopyOwn
import Derived.Laws.AppendOwnNone
import Derived.Lib.SliceRun
import Derived.Test.YtcgmllamiaflcaaZN2
/- Lists that are copied: append(.., l...), copy, Clone, Copy; the program's sums of polynomials. -/
namespace Go.Proofs.Ytcgmllamiaflcaa
open Go.RowKit

/-- The n coefficients c as cells. -/
def celL (n : Nat) (c : Nat → Nat) : List Value := (List.range n).map fun k => .int .i64 (c k : Nat)
theorem celL_len (n : Nat) (c : Nat → Nat) : (celL n c).length = n := by simp [celL]
theorem celL_get (n : Nat) (c : Nat → Nat) (j : Nat) (hj : j < n) : (celL n c)[j]? = some (.int .i64 (c j : Nat)) := by
  unfold celL
  rw [List.getElem?_map, List.getElem?_range hj]; rfl
theorem celL_one (n : Nat) (c : Nat → Nat) : ∀ u ∈ celL n c, u.oneCell' = true := by
  intro u hu
  unfold celL at hu
  obtain ⟨k, _, rfl⟩ := List.mem_map.1 hu
  rfl
theorem add_off (b off j : Nat) : (Addr.mk b off none).add j = ⟨b, off + j, none⟩ := by simp [Addr.add]

/-- 'copy(out, l)', out a row of the call's own, at least as long as l. -/
theorem copy_int {ops : Array Oper} {rest : List Oper} {o : Oper} {a : Act} {w : World} {Q : Exit → Act → World → Prop} (hgd : o.guard = none) (d s : Operand)
    (ho : o.op = .call { callee := .builtin .copy, args := #[d, s], argTypes := #[22, 22] }) (g N dc n sc : Nat) (ao : Option Addr)
    (hd : a.eval d = .slice (some ⟨g, 0, none⟩) N dc) (hs : a.eval s = .slice ao n sc) (c x : Nat → Nat) (hrow : Row g N c w) (hS : Sl ao n x w) (hn : n ≤ N)
    (B : Nat) (w0 : World) (hb : Below B w0 w) (hBg : B ≤ g)
    (h : ∀ w', Row g N (fun k => if k < n then x k else c k) w' → Below B w0 w' → wpList Try.prog ops Q rest (a.put o.dst (goInt n)) w') : wpList Try.prog ops Q (o :: rest) a w := by
  obtain ⟨cap, f, hf, hN, he⟩ := hrow
  obtain ⟨cs, h1, h2, h3⟩ := hf
  obtain ⟨i0, hi, hz0, hz1, hz2⟩ := info_parts Try.infoInt
  have hh : w.heap[g]? = some (.cells cs.toList.toArray 3 (0, 0)) := by simpa using h1
  refine wpList_copy_splice hgd d s 22 22 ho 3 Try.underlying22 (by rw [hi]; simp [hz1]) _ _ N dc n sc hd hs g 0 cs.toList 3 hh (celL n x) (by rw [celL_len]; exact (Nat.min_eq_left hn).symm) ?_ (by rw [celL_len]; simp; omega) (celL_one n x) B w0 hb hBg ?_
  · intro h0
    rw [celL_len] at h0
    obtain ⟨b, off, rfl, _⟩ := hS 0 h0
    refine ⟨rfl, _, rfl, fun j v hj => ?_⟩
    have hj' : j < n := by
      have := (List.getElem?_eq_some_iff.1 hj).1
      rwa [celL_len] at this
    rw [celL_get n x j hj'] at hj
    cases hj
    obtain ⟨b', off', e, hc⟩ := hS j hj'
    cases e
    rw [add_off]; exact hc
  · intro w' hg' hb'
    rw [celL_len]
    refine h w' ?_ hb'
    have hlen : (splice cs.toList 0 (celL n x)).length = cap := by rw [length_splice _ _ _ (by rw [celL_len]; simp; omega)]; simpa using h2
    refine ⟨cap, fun k => if k < n then .int .i64 (x k : Nat) else f k, ⟨(splice cs.toList 0 (celL n x)).toArray, hg'.out, by simpa using hlen, fun k hk => ?_⟩, hN, fun k hk => ?_⟩
    · show _ = some (if k < n then _ else f k)
      unfold splice
      rw [List.getElem?_toArray, List.take_zero, List.nil_append, celL_len, Nat.zero_add]
      by_cases e : k < n
      · rw [List.getElem?_append_left (by rw [celL_len]; exact e), celL_get n x k e, if_pos e]
      · rw [List.getElem?_append_right (by rw [celL_len]; omega), celL_len, List.getElem?_drop, show n + (k - n) = k from by omega, Array.getElem?_toList, h3 k hk, if_neg e]
    · show (if k < n then _ else f k) = .int .i64 ((if k < n then x k else c k : Nat) : Int)
      by_cases e : k < n
      · rw [if_pos e, if_pos e]
      · rw [if_neg e, if_neg e]; exact he k hk

/-- 'append(v, l...)', v the call's own list. -/
theorem append_list {ops : Array Oper} {rest : List Oper} {o : Oper} {a : Act} {w : World} {Q : Exit → Act → World → Prop} (hgd : o.guard = none) (s x : Operand)
    (ho : o.op = .call { callee := .builtin .append, args := #[s, x], argTypes := #[22, 22] })
    (base : Nat) (v : Value) (hs : a.eval s = v) (hown : OwnI base v [] w) (ao : Option Addr) (n sc : Nat) (c : Nat → Nat) (hx : a.eval x = .slice ao n sc) (hS : Sl ao n c w) (hnil : ao = none → sc = 0)
    (hn : n ≤ 1000000) (hbase : base ≤ w.heap.size)
    (h : ∀ v' w', OwnP base v' n c w' → w.grownBy w' v.ownBlock → wpList Try.prog ops Q rest (a.put o.dst v') w') : wpList Try.prog ops Q (o :: rest) a w := by
  obtain ⟨i0, hi, hz0, hz1, hz2⟩ := info_parts Try.infoInt
  have key : ∀ v' w', w'.ownsRow base 3 1 v' (0 + n) ([] ++ celL n c) → OwnP base v' n c w' := by
    intro v' w' ho'
    rw [Nat.zero_add, List.nil_append] at ho'
    rcases ho'.2 with ⟨h1, h2⟩ | ⟨g, cap, cur, hv, hg, hh, hle, hcm, hsz, htake⟩
    · subst h2
      exact ⟨none, 0, h1, Nat.le_refl _, by omega, fun x hx => (by cases hx), fun x hx => (by cases hx), fun _ => rfl, fun h0 => absurd h0 (by omega)⟩
    · refine ⟨_, cap, hv, hle, by unfold maxLen at hcm; omega, fun x hx => (by cases hx; exact hg), fun x hx => (by cases hx; exact lt_of_block hh), fun e => (by cases e), fun _ => ⟨g, rfl, cap, fun k => (cur[k]?).getD (.int .i64 0), ⟨cur, hh, by omega, fun k hk => ?_⟩, hle, fun k hk => ?_⟩⟩
      · show _ = some (Option.getD _ _)
        rw [Array.getElem?_eq_getElem (by omega)]; rfl
      · have h3 : (cur.toList.take (n * 1))[k]? = (celL n c)[k]? := by rw [htake]
        rw [List.getElem?_take, if_pos (by omega), celL_get n c k hk] at h3
        show (cur[k]?).getD _ = _
        rw [← Array.getElem?_toList, h3]; rfl
  cases ao with
  | none =>
    have h0 : n = 0 := by
      rcases Nat.eq_zero_or_pos n with e | e
      · exact e
      · obtain ⟨b, off, h1, _⟩ := hS 0 e
        cases h1
    subst h0
    rw [hnil rfl] at hx
    refine wpList_append_own_none hgd s x 22 ho base 3 i0 1 Try.underlying22 hi v 0 [] hs hown hx ?_
    exact h v w (key v w hown) (grown_refl _ _)
  | some ad =>
    refine wpList_append_own _ hgd s x 22 ho base 3 i0 (.int .i64 0) 1 8 Try.underlying22 hi hz0 hz1 hz2 rfl (by decide) v 0 [] hs hown ad n sc (celL n c) hx (by rw [celL_len]; omega) ?_ (celL_one n c) ?_ ?_ hbase ?_
    · intro j u hj
      have hj' : j < n := by
        have := (List.getElem?_eq_some_iff.1 hj).1
        rwa [celL_len] at this
      rw [celL_get n c j hj'] at hj
      cases hj
      obtain ⟨b, off, e, hc⟩ := hS j hj'
      cases e
      rw [add_off]; exact hc
    · unfold maxLen; omega
    · omega
    · intro v' w' hown' hgrow _
      exact h v' w' (key v' w' hown') hgrow
end Go.Proofs.Ytcgmllamiaflcaa

/- Clone, Copy; the program's sums of polynomials. -/
namespace Go.Proofs.Ytcgmllamiaflcaa
open Go.RowKit

theorem own_empty {base g : Nat} {w : World} (h : w.heap[g]? = some (.cells #[] 3 (0, 0))) (hb : base ≤ g) : OwnI base (.slice (some ⟨g, 0, none⟩) 0 0) [] w :=
  ⟨rfl, Or.inr ⟨g, 0, #[], rfl, hb, h, Nat.le_refl _, by unfold maxLen; omega, rfl, rfl⟩⟩

set_option maxHeartbeats 1000000 in
set_option maxRecDepth 100000 in
theorem clone_any {ao : Option Addr} {n cap : Nat} {c : Nat → Nat} {w : World} (h : Sl ao n c w) (hn : n ≤ 1000000) (hnil : ao = none → cap = 0) (hl : LtB ao w.heap.size) :
    Calls Try.prog 99 #[.slice ao n cap] w fun e w' => ∃ v, e = .returned v ∧ OwnP w.heap.size v n c w' ∧ Below w.heap.size w w' := by
  have HS : Hid (Sl ao n c w ∧ (ao = none → cap = 0) ∧ LtB ao w.heap.size) := ⟨h, hnil, hl⟩
  clear h hnil hl
  cases ao with
  | none =>
    have h0 : n = 0 := by
      rcases Nat.eq_zero_or_pos n with e | e
      · exact e
      · obtain ⟨b, off, h1, _⟩ := HS.out.1 0 e
        cases h1
    subst h0
    have hrn : ∀ w1 : World, Sem.run Try.prog (binOp BinOp.eql 22 (Value.slice none 0 cap) (Value.slice none 0 0)) w1 = .ok (.bool true) w1 := fun w1 => Lib.run_eql_slice_nil w1 _ 3 none 0 cap 0 0 Try.underlying22
    go_enter Try.func99, Try.ntmps99
    go_wp2
    go_ret
    exact ⟨_, rfl, ⟨none, 0, rfl, Nat.le_refl _, by omega, fun x hx => (by cases hx), fun x hx => (by cases hx), fun _ => rfl, fun h0 => absurd h0 (by omega)⟩, Below.refl _ _⟩
  | some ad =>
    have hrn : ∀ w1 : World, Sem.run Try.prog (binOp BinOp.eql 22 (Value.slice (some ad) n cap) (Value.slice none 0 0)) w1 = .ok (.bool false) w1 := fun w1 => Lib.run_eql_slice_nil w1 _ 3 (some ad) n cap 0 0 Try.underlying22
    go_enter Try.func99, Try.ntmps99
    go_wp2_with (at_builtin; refine append_list rfl _ _ rfl w.heap.size _ rfl (own_empty (two_new _) (Nat.le_refl _)) (some ad) n cap c rfl (HS.out.1.below ((Below.refl _ _).alloc (Nat.le_refl _) _) HS.out.2.2) HS.out.2.1 hn (by simp) ?_; intro v' w' hown hgrow)
    go_ret
    exact ⟨_, rfl, hown, ((Below.refl _ _).alloc (Nat.le_refl _) _).grown hgrow (by simp) (by intro k hk; have hk : some w.heap.size = some k := hk; cases hk; exact Nat.le_refl _)⟩
end Go.Proofs.Ytcgmllamiaflcaa

/- The program's sums of polynomials. -/
namespace Go.Proofs.Ytcgmllamiaflcaa
open Go.RowKit

set_option maxHeartbeats 4000000 in
set_option maxRecDepth 100000 in
theorem psum_any {F T : Nat} {D : FD} (hD : D ∈ fieldsL) {g : Nat → Value} {w : World} (h : FAt F T D g w) {ao bo : Option Addr} {n m ca cb : Nat} {a b : Nat → Nat} (hn : n ≤ 1000) (hm : m ≤ 1000) (ha : El D a) (hb : El D b) (hbn : Bd n a) (hbm : Bd m b) (hA : Sl ao n a w) (hB : Sl bo m b w) (hla : LtB ao w.heap.size) (hlb : LtB bo w.heap.size) :
    Calls Try.prog 80 #[.pointer (some ⟨F, 0, none⟩), .slice ao n ca, .slice bo m cb] w fun e w' =>
      ∃ v, e = .returned v ∧ OwnP w.heap.size v (dgn (padd D a b) (max n m)) (padd D a b) w' ∧ Below w.heap.size w w' := by
  have HF : Hid (FAt F T D g w ∧ D ∈ fieldsL ∧ Sl ao n a w ∧ Sl bo m b w ∧ El D a ∧ El D b ∧ Bd n a ∧ Bd m b) := ⟨h, hD, hA, hB, ha, hb, hbn, hbm⟩
  have HL : Hid (LtB ao w.heap.size ∧ LtB bo w.heap.size) := ⟨hla, hlb⟩
  clear h hD hA hB ha hb hbn hbm hla hlb
  obtain ⟨N, hN⟩ : ∃ N, N = max n m := ⟨_, rfl⟩
  rw [← hN]
  have hN2 : N ≤ 1000 := by omega
  have hnN : n ≤ N := by omega
  have hmN : m ≤ N := by omega
  have hmax : (if (n : Int) < (m : Int) then (m : Int) else (n : Int)) = (N : Int) := by split <;> omega
  have HN : Hid (N = max n m) := hN
  clear hN
  go_enter Try.func80, Try.ntmps80
  go_wp2_with (first
    | (at_make; refine make_int rfl _ _ rfl _ N rfl rfl (by have := HN.out; omega) (by omega) ?_; intro w1 hown1 hgrow1)
    | (show wpList _ _ _ (Oper.mk (some 18) _ _ _ _ _ :: _) _ _; (refine copy_int rfl _ _ rfl w.heap.size N N n ca ao rfl rfl pnil a (row_zeros hown1) (HF.out.2.2.1.below (below_grown hgrow1 (Nat.le_refl _) (fun k hk => by simp at hk)) HL.out.1) hnN w.heap.size w (below_grown hgrow1 (Nat.le_refl _) (fun k hk => by simp at hk)) (Nat.le_refl _) ?_); intro w2 hrow2 hb2))
  all_goals
    have HB1 : Hid (Below w.heap.size w w2 ∧ Row w.heap.size N a w2) := ⟨hb2, hrow2.congr (fun k _ => by show (if k < n then a k else pnil k) = a k; split; rfl; exact (HF.out.2.2.2.2.2.2.1 k (by omega)).symm)⟩
    clear hown1 hgrow1 hb2 hrow2
    go_loopw [21] (fun i wr => ∃ r : Nat, r ≤ m ∧ i = .int .i64 r ∧ Row w.heap.size N (fun k => if k < r then D.ad (a k) (b k) else a k) wr ∧ Below w.heap.size w wr) (fun i _ => m - (intOf i).toNat)
    case atStart => exact ⟨0, by omega, rfl, HB1.out.2.congr (fun k _ => by rw [if_neg (by omega)]), HB1.out.1⟩
    case round =>
      obtain ⟨r, hr, rfl, hrow, hbel⟩ := hrel
      have HG : Hid (Row w.heap.size N (fun k => if k < r then D.ad (a k) (b k) else a k) wr ∧ Below w.heap.size w wr) := ⟨hrow, hbel⟩
      clear hrow hbel
      by_cases hlt : r < m
      · obtain ⟨bb, offb, rfl, hcb⟩ := (HF.out.2.2.2.1.below HG.out.2 HL.out.2) r hlt
        have hco : wr.cell? ⟨w.heap.size, r, none⟩ = some (.int .i64 (a r : Nat)) := by
          have h := HG.out.1.cell r (by omega)
          rw [if_neg (by omega)] at h; exact h
        have hfo := HG.out.1.free r
        obtain ⟨z, hz⟩ : ∃ z, z = D.ad (a r) (b r) := ⟨_, rfl⟩
        have HC2 : Hid (Calls Try.prog 19 #[.pointer (some ⟨F, 0, none⟩), .int .i64 (a r : Nat), .int .i64 (b r : Nat)] wr fun e w' => e = .returned (.int .i64 (z : Nat)) ∧ ∃ k, w' = wr.drewN k) := by
          show Calls _ _ _ _ _
          rw [hz]; exact add_nat HF.out.2.1 (HF.out.1.below HG.out.2 HF.out.1.ltF HF.out.1.ltT) (HF.out.2.2.2.2.1 r) (HF.out.2.2.2.2.2.1 r)
        have HV : Hid (Row w.heap.size N (fun k => if k < r then D.ad (a k) (b k) else a k) wr ∧ Below w.heap.size w wr ∧ ∀ k, k < N → (if k < r + 1 then D.ad (a k) (b k) else a k) = if k = r then z else if k < r then D.ad (a k) (b k) else a k) :=
          ⟨HG.out.1, HG.out.2, fun k _ => by
            rw [hz]
            by_cases e : k = r
            · rw [if_pos e, if_pos (by omega), e]
            · rw [if_neg e]
              by_cases e2 : k < r
              · rw [if_pos e2, if_pos (by omega)]
              · rw [if_neg e2, if_neg (by omega)]⟩
        clear hz HG
        have hib : (r : Int) < (N : Int) := by omega
        go_wp2_with (go_at_call 19; refine HC2.out.mono ?_; rintro e w' ⟨rfl, nq, rfl⟩)
        go_roundw
        case rel => exact ⟨r + 1, by omega, by go_num, (HV.out.1.drewN nq).store r z (fun k hk => HV.out.2.2 k hk), (below_drewN2 HV.out.2.1 nq).setCell (by simp) _⟩
        case measure => simp [intOf]; omega
      · have HE : Hid (Row w.heap.size N (padd D a b) wr) := HG.out.1.congr (fun k _ => by
          show (if k < r then D.ad (a k) (b k) else a k) = D.ad (a k) (b k)
          split
          · rfl
          · rw [HF.out.2.2.2.2.2.2.2 k (by omega), ad_zero (fld HF.out.2.1) (HF.out.2.2.2.2.1 k)])
        go_wp2_with fail
        refine (trim_any (HE.out.sl (Nat.le_refl _)) (Nat.le_refl _) (by omega)).mono ?_
        rintro e w' ⟨rfl, k, rfl⟩
        go_wp2
        go_ret
        exact ⟨_, rfl, OwnP.of_row (HE.out.drewN k) (dgn_le _ _) (dgn_le _ _) (by omega) (Nat.le_refl _), below_drewN2 HG.out.2 _⟩
end Go.Proofs.Ytcgmllamiaflcaa

/- The program's division of polynomials. -/
namespace Go.Proofs.Ytcgmllamiaflcaa
open Go.RowKit

theorem inv_nat' {F T : Nat} {D : FD} (hD : D ∈ fieldsL) {g : Nat → Value} {w : World} (h : FAt F T D g w) {x : Nat} (hx : x < D.q) (h0 : x ≠ 0) :
    Calls Try.prog 66 #[.pointer (some ⟨F, 0, none⟩), .int .i64 x] w fun e w' => e = .returned (.int .i64 (D.iv x : Nat)) ∧ ∃ n, w' = w.drewN n := by
  have k := inv_any hD h x
  rw [inv_nat hD hx h0] at k
  exact k
theorem subZ_nat {D : FD} (F : Fld D) {a b : Nat} (ha : a < D.q) (hb : b < D.q) : D.subZ a b = (D.sb a b : Nat) := by
  rw [FD.subZ, FD.negZ, if_pos (nat_has hb), Int.toNat_natCast, addZ_nat F ha (F.neg_lt b hb)]; rfl
theorem sub_nat {F T : Nat} {D : FD} (hD : D ∈ fieldsL) {g : Nat → Value} {w : World} (h : FAt F T D g w) {a b : Nat} (ha : a < D.q) (hb : b < D.q) :
    Calls Try.prog 22 #[.pointer (some ⟨F, 0, none⟩), .int .i64 a, .int .i64 b] w fun e w' => e = .returned (.int .i64 (D.sb a b : Nat)) ∧ ∃ n, w' = w.drewN n := by
  rw [← subZ_nat (fld hD) ha hb]; exact sub_any hD h a b

theorem OwnP.setOther {base n : Nat} {v : Value} {c : Nat → Nat} {w : World} (h : OwnP base v n c w) (a : Addr) (ha : ∀ g, v.ownBlock = some g → g ≠ a.block) (u : Value) : OwnP base v n c (w.setCell a u) := by
  obtain ⟨ao, cap, rfl, h1, h2, hg, hl, hz, hr⟩ := h
  refine ⟨ao, cap, rfl, h1, h2, hg, fun x hx => by simpa [World.setCell] using hl x hx, hz, fun h0 => ?_⟩
  obtain ⟨g, rfl, hrow⟩ := hr h0
  exact ⟨g, rfl, hrow.other (Below.heap_setCell _ _ _ _ (ha g rfl))⟩
theorem OwnP.store {base n cap g : Nat} {c d : Nat → Nat} {w : World} (h : OwnP base (.slice (some ⟨g, 0, none⟩) n cap) n c w) (k u : Nat) (h0 : 0 < n) (hd : ∀ j, j < n → d j = if j = k then u else c j) :
    OwnP base (.slice (some ⟨g, 0, none⟩) n cap) n d (w.setCell ⟨g, k, none⟩ (.int .i64 (u : Nat))) := by
  obtain ⟨ao, cap', hv, h1, h2, hg, hl, hz, hr⟩ := h
  simp only [Value.slice.injEq, true_and] at hv
  obtain ⟨rfl, rfl⟩ := hv
  obtain ⟨g', e, hrow⟩ := hr h0
  cases e
  exact ⟨_, cap, rfl, h1, h2, hg, fun x hx => by simpa [World.setCell] using hl x hx, fun e => (by cases e), fun _ => ⟨g, rfl, hrow.store k u hd⟩⟩

theorem OwnP.row {base n cap : Nat} {ao : Option Addr} {c : Nat → Nat} {w : World} (h : OwnP base (.slice ao n cap) n c w) (h0 : 0 < n) : ∃ g, ao = some ⟨g, 0, none⟩ ∧ base ≤ g ∧ g < w.heap.size ∧ Row g n c w := by
  obtain ⟨ao', cap', hv, h1, h2, hg, hl, hz, hr⟩ := h
  simp only [Value.slice.injEq, true_and] at hv
  obtain ⟨rfl, rfl⟩ := hv
  obtain ⟨g, rfl, hrow⟩ := hr h0
  exact ⟨g, rfl, hg _ rfl, hl _ rfl, hrow⟩

theorem OwnP.trimmed {base n cap : Nat} {ao : Option Addr} {c : Nat → Nat} {w : World} (h : OwnP base (.slice ao n cap) n c w) : OwnP base (.slice ao (dgn c n) cap) (dgn c n) c w := by
  obtain ⟨ao', cap', hv, h1, h2, hg, hl, hz, hr⟩ := h
  simp only [Value.slice.injEq, true_and] at hv
  obtain ⟨rfl, rfl⟩ := hv
  have := dgn_le c n
  refine ⟨_, _, rfl, by omega, h2, hg, hl, hz, fun h0 => ?_⟩
  obtain ⟨g, e, hrow⟩ := hr (by omega)
  exact ⟨g, e, hrow.less this⟩

/-- What is left while one multiple is taken away: j places of it. -/
def pst (D : FD) (b : Nat → Nat) (l inv s : Nat) (r : Nat → Nat) (j : Nat) : Nat → Nat := fun k => if s ≤ k ∧ k < s + j then dstep D b l inv s r k else r k
theorem pst_zero (D : FD) (b : Nat → Nat) (l inv s : Nat) (r : Nat → Nat) : pst D b l inv s r 0 = r := by funext k; unfold pst; rw [if_neg (by omega)]
theorem pst_all {D : FD} (F : Fld D) {b r : Nat → Nat} {l inv s : Nat} (hr : El D r) (hb : Bd (l + 1) b) : pst D b l inv s r (l + 1) = dstep D b l inv s r := by
  funext k
  unfold pst
  by_cases h : s ≤ k ∧ k < s + (l + 1)
  · rw [if_pos h]
  · rw [if_neg h]
    by_cases h2 : k < s
    · exact (dstep_lo F hr h2).symm
    · exact (dstep_hi F hr hb (by omega)).symm
theorem pst_step (D : FD) (b r : Nat → Nat) (l inv s j k : Nat) : pst D b l inv s r (j + 1) k = if k = s + j then dstep D b l inv s r (s + j) else pst D b l inv s r j k := by
  unfold pst
  by_cases h : k = s + j
  · rw [if_pos h, if_pos (by omega), h]
  · rw [if_neg h]
    by_cases h2 : s ≤ k ∧ k < s + j
    · rw [if_pos h2, if_pos (by omega)]
    · rw [if_neg h2, if_neg (by omega)]
theorem pst_at (D : FD) (b r : Nat → Nat) (l inv s j : Nat) : pst D b l inv s r j (s + j) = r (s + j) := by unfold pst; rw [if_neg (by omega)]
end Go.Proofs.Ytcgmllamiaflcaa
