/- Texts of ours, one behind the other: U3 U4 U5 U6 U7 U8 U9 U10. -/
import Derived.Test.YtpccbiinfdppnadZN2
import Derived.Laws.CopyOwn
import Derived.Laws.AppendOwnNone
import Derived.Lib.SliceRun
/- The program's polynomials: products. -/
namespace Go.Proofs.Ytpccbiinfdppnad
open Go.RowKit

set_option maxHeartbeats 4000000 in
set_option maxRecDepth 100000 in
theorem product_any {F T : Nat} {D : FD} (hD : D ∈ fieldsL) {g : Nat → Value} {w : World} (h : FAt F T D g w) {ao bo : Option Addr} {n m ca cb : Nat} {a b : Nat → Nat} (hn : n ≤ 1000) (hm : m ≤ 1000) (ha : El D a) (hb : El D b) (hbm : Bd m b) (hA : Sl ao n a w) (hB : Sl bo m b w) (hla : LtB ao w.heap.size) (hlb : LtB bo w.heap.size) :
    Calls Try.prog 89 #[.pointer (some ⟨F, 0, none⟩), .slice ao n ca, .slice bo m cb] w fun e w' =>
      e = .returned (.slice (some ⟨w.heap.size, 0, none⟩) (dgn (pmul D n a b) (n + m)) (n + m)) ∧ Row w.heap.size (n + m) (pmul D n a b) w' ∧ Below w.heap.size w w' := by
  have HF : Hid (FAt F T D g w ∧ D ∈ fieldsL ∧ Sl ao n a w ∧ Sl bo m b w ∧ El D a ∧ El D b ∧ Bd m b) := ⟨h, hD, hA, hB, ha, hb, hbm⟩
  have HL : Hid (LtB ao w.heap.size ∧ LtB bo w.heap.size) := ⟨hla, hlb⟩
  clear h hD hA hB ha hb hbm hla hlb
  obtain ⟨N, hN⟩ : ∃ N, N = n + m := ⟨_, rfl⟩
  rw [← hN]
  have HN : Hid (N = n + m) := hN
  have hN2 : N ≤ 2000 := by omega
  clear hN
  go_enter Try.func89, Try.ntmps89
  go_wp2_with (at_make; refine make_int rfl _ _ rfl _ N rfl rfl (by have := HN.out; omega) (by omega) ?_; intro w1 hown1 hgrow1)
  have HB1 : Hid (Below w.heap.size w w1 ∧ Row w.heap.size N pnil w1) := ⟨below_grown hgrow1 (Nat.le_refl _) (fun k hk => by simp at hk), row_zeros hown1⟩
  clear hown1 hgrow1
  go_loopw [20] (fun i wr => ∃ r : Nat, r ≤ n ∧ i = .int .i64 r ∧ Row w.heap.size N (pmul D r a b) wr ∧ Below w.heap.size w wr) (fun i _ => n - (intOf i).toNat)
  case atStart => exact ⟨0, by omega, rfl, HB1.out.2, HB1.out.1⟩
  case round =>
    obtain ⟨r, hr, rfl, hrow, hbel⟩ := hrel
    have HG : Hid (Row w.heap.size N (pmul D r a b) wr ∧ Below w.heap.size w wr) := ⟨hrow, hbel⟩
    clear hrow hbel
    by_cases hlt : r < n
    · obtain ⟨ba, offa, rfl, hca⟩ := (HF.out.2.2.1.below HG.out.2 HL.out.1) r hlt
      go_wp2
      go_loopw [27] (fun i wr => ∃ j : Nat, j ≤ m ∧ i = .int .i64 j ∧ Row w.heap.size N (pin D a b r j) wr ∧ Below w.heap.size w wr) (fun i _ => m - (intOf i).toNat)
      case atStart => exact ⟨0, by omega, rfl, by rw [pin_zero]; exact HG.out.1, HG.out.2⟩
      case round =>
        clear HG hca
        obtain ⟨j, hj, rfl, hrow, hbel⟩ := hrel
        have HG : Hid (Row w.heap.size N (pin D a b r j) wr ∧ Below w.heap.size w wr) := ⟨hrow, hbel⟩
        clear hrow hbel
        by_cases hjm : j < m
        · obtain ⟨bb, offb, rfl, hcb⟩ := (HF.out.2.2.2.1.below HG.out.2 HL.out.2) j hjm
          have hco : wr.cell? ⟨w.heap.size, r + j, none⟩ = some (.int .i64 (pmul D r a b (r + j) : Nat)) := by rw [← pin_at]; exact HG.out.1.cell _ (by have := HN.out; omega)
          have hfo := HG.out.1.free (r + j)
          obtain ⟨p, hp⟩ : ∃ p, p = pmul D r a b (r + j) := ⟨_, rfl⟩
          obtain ⟨y, hy⟩ : ∃ y, y = D.mul (a r) (b j) := ⟨_, rfl⟩
          obtain ⟨z, hz⟩ : ∃ z, z = pmul D (r + 1) a b (r + j) := ⟨_, rfl⟩
          have HC1 : Hid (∀ d, Calls Try.prog 69 #[.pointer (some ⟨F, 0, none⟩), .int .i64 (a r : Nat), .int .i64 (b j : Nat)] (wr.drewN d) fun e w' => e = .returned (.int .i64 (y : Nat)) ∧ ∃ k, w' = (wr.drewN d).drewN k) := by
            intro d; rw [hy]; exact mul_nat HF.out.2.1 ((HF.out.1.below HG.out.2 HF.out.1.ltF HF.out.1.ltT).drewN d) (HF.out.2.2.2.2.1 r) (HF.out.2.2.2.2.2.1 j)
          have HC2 : Hid (∀ d, Calls Try.prog 94 #[.pointer (some ⟨F, 0, none⟩), .int .i64 (p : Nat), .int .i64 (y : Nat)] (wr.drewN d) fun e w' => e = .returned (.int .i64 (z : Nat)) ∧ ∃ k, w' = (wr.drewN d).drewN k) := by
            intro d
            have h := add_nat HF.out.2.1 ((HF.out.1.below HG.out.2 HF.out.1.ltF HF.out.1.ltT).drewN d) (el_mul (fld HF.out.2.1) a b r (r + j)) ((fld HF.out.2.1).mul_lt (a r) (b j))
            rw [hz, hp, hy, ← pin_new]; exact h
          have HV : Hid (Row w.heap.size N (pin D a b r j) wr ∧ Below w.heap.size w wr ∧ FAt F T D g wr ∧ ∀ k, pin D a b r (j + 1) k = if k = r + j then z else pin D a b r j k) :=
            ⟨HG.out.1, HG.out.2, HF.out.1.below HG.out.2 HF.out.1.ltF HF.out.1.ltT, fun k => by rw [hz]; exact pin_step D a b r j k⟩
          rw [← hp] at hco
          clear hp hy hz HG
          obtain ⟨s, hs⟩ : ∃ s : Nat, s = r + j := ⟨_, rfl⟩
          have w1' : IntKind.i64.wrap ((r : Int) + (j : Int)) = (s : Int) := wrap_to (by omega) (by omega)
          have hsb : (s : Int) < (N : Int) := by have := HN.out; omega
          rw [← hs] at hco hfo HV
          clear hs
          go_wp2
          refine quiet_tail 17 (by kernel_rfl) (by kernel_rfl) ?_
          simp only [List.take_succ_cons, List.take_zero, List.drop_succ_cons, List.drop_zero]
          repeat (go_big_quiet_step (first | (go_at_call 69; exact Calls.quiet_of (HC1.out _)) | (go_at_call 94; exact Calls.quiet_of (HC2.out _))))
          refine wpQuiet_nil ?_
          intro _ hw'
          obtain ⟨nq, hw''⟩ := hw'
          subst hw''
          go_wp2
          go_roundw
          case rel => exact ⟨j + 1, by omega, by go_num, (HV.out.1.drewN nq).store s z (fun k _ => HV.out.2.2.2 k), (below_drewN2 HV.out.2.1 nq).setCell (by simp) _⟩
          case measure => simp [intOf]; omega
        · have HE : Hid (Row w.heap.size N (pmul D (r + 1) a b) wr) := by
            show Row _ _ _ _
            have h := HG.out.1
            rw [show j = m from by omega, pin_all (fld HF.out.2.1) HF.out.2.2.2.2.2.2 r] at h; exact h
          go_wp2
          go_roundw
          case rel => exact ⟨r + 1, by omega, by go_num, HE.out, HG.out.2⟩
          case measure => simp [intOf]; omega
    · have e : r = n := by omega
      subst e
      go_wp2_with fail
      refine (trim_any (HG.out.1.sl (Nat.le_refl _)) (Nat.le_refl _) (by omega)).mono ?_
      rintro e w' ⟨rfl, k, rfl⟩
      go_wp2
      go_ret
      exact ⟨rfl, HG.out.1.drewN _, below_drewN2 HG.out.2 _⟩
end Go.Proofs.Ytpccbiinfdppnad

/- Lists that are copied: append(.., l...), copy, Clone, Copy; the program's sums of polynomials. -/
namespace Go.Proofs.Ytpccbiinfdppnad
open Go.RowKit

/-- The n coefficients c as cells. -/
def celL (n : Nat) (c : Nat → Nat) : List Value := (List.range n).map fun k => .int .i64 (c k : Nat)
theorem celL_len (n : Nat) (c : Nat → Nat) : (celL n c).length = n := by simp [celL]
theorem celL_get (n : Nat) (c : Nat → Nat) (j : Nat) (hj : j < n) : (celL n c)[j]? = some (.int .i64 (c j : Nat)) := by
  unfold celL
  rw [List.getElem?_map, List.getElem?_range hj]; rfl
theorem celL_one (n : Nat) (c : Nat → Nat) : ∀ u ∈ celL n c, u.oneCell' = true := by
  intro u hu
  unfold celL at hu
  obtain ⟨k, _, rfl⟩ := List.mem_map.1 hu
  rfl
theorem add_off (b off j : Nat) : (Addr.mk b off none).add j = ⟨b, off + j, none⟩ := by simp [Addr.add]

/-- 'copy(out, l)', out a row of the call's own, at least as long as l. -/
theorem copy_int {ops : Array Oper} {rest : List Oper} {o : Oper} {a : Act} {w : World} {Q : Exit → Act → World → Prop} (hgd : o.guard = none) (d s : Operand)
    (ho : o.op = .call { callee := .builtin .copy, args := #[d, s], argTypes := #[22, 22] }) (g N dc n sc : Nat) (ao : Option Addr)
    (hd : a.eval d = .slice (some ⟨g, 0, none⟩) N dc) (hs : a.eval s = .slice ao n sc) (c x : Nat → Nat) (hrow : Row g N c w) (hS : Sl ao n x w) (hn : n ≤ N)
    (B : Nat) (w0 : World) (hb : Below B w0 w) (hBg : B ≤ g)
    (h : ∀ w', Row g N (fun k => if k < n then x k else c k) w' → Below B w0 w' → wpList Try.prog ops Q rest (a.put o.dst (goInt n)) w') : wpList Try.prog ops Q (o :: rest) a w := by
  obtain ⟨cap, f, hf, hN, he⟩ := hrow
  obtain ⟨cs, h1, h2, h3⟩ := hf
  obtain ⟨i0, hi, hz0, hz1, hz2⟩ := info_parts Try.infoInt
  have hh : w.heap[g]? = some (.cells cs.toList.toArray 3 (0, 0)) := by simpa using h1
  refine wpList_copy_splice hgd d s 22 22 ho 3 Try.underlying22 (by rw [hi]; simp [hz1]) _ _ N dc n sc hd hs g 0 cs.toList 3 hh (celL n x) (by rw [celL_len]; exact (Nat.min_eq_left hn).symm) ?_ (by rw [celL_len]; simp; omega) (celL_one n x) B w0 hb hBg ?_
  · intro h0
    rw [celL_len] at h0
    obtain ⟨b, off, rfl, _⟩ := hS 0 h0
    refine ⟨rfl, _, rfl, fun j v hj => ?_⟩
    have hj' : j < n := by
      have := (List.getElem?_eq_some_iff.1 hj).1
      rwa [celL_len] at this
    rw [celL_get n x j hj'] at hj
    cases hj
    obtain ⟨b', off', e, hc⟩ := hS j hj'
    cases e
    rw [add_off]; exact hc
  · intro w' hg' hb'
    rw [celL_len]
    refine h w' ?_ hb'
    have hlen : (splice cs.toList 0 (celL n x)).length = cap := by rw [length_splice _ _ _ (by rw [celL_len]; simp; omega)]; simpa using h2
    refine ⟨cap, fun k => if k < n then .int .i64 (x k : Nat) else f k, ⟨(splice cs.toList 0 (celL n x)).toArray, hg'.out, by simpa using hlen, fun k hk => ?_⟩, hN, fun k hk => ?_⟩
    · show _ = some (if k < n then _ else f k)
      unfold splice
      rw [List.getElem?_toArray, List.take_zero, List.nil_append, celL_len, Nat.zero_add]
      by_cases e : k < n
      · rw [List.getElem?_append_left (by rw [celL_len]; exact e), celL_get n x k e, if_pos e]
      · rw [List.getElem?_append_right (by rw [celL_len]; omega), celL_len, List.getElem?_drop, show n + (k - n) = k from by omega, Array.getElem?_toList, h3 k hk, if_neg e]
    · show (if k < n then _ else f k) = .int .i64 ((if k < n then x k else c k : Nat) : Int)
      by_cases e : k < n
      · rw [if_pos e, if_pos e]
      · rw [if_neg e, if_neg e]; exact he k hk

/-- 'append(v, l...)', v the call's own list. -/
theorem append_list {ops : Array Oper} {rest : List Oper} {o : Oper} {a : Act} {w : World} {Q : Exit → Act → World → Prop} (hgd : o.guard = none) (s x : Operand)
    (ho : o.op = .call { callee := .builtin .append, args := #[s, x], argTypes := #[22, 22] })
    (base : Nat) (v : Value) (hs : a.eval s = v) (hown : OwnI base v [] w) (ao : Option Addr) (n sc : Nat) (c : Nat → Nat) (hx : a.eval x = .slice ao n sc) (hS : Sl ao n c w) (hnil : ao = none → sc = 0)
    (hn : n ≤ 1000000) (hbase : base ≤ w.heap.size)
    (h : ∀ v' w', OwnP base v' n c w' → w.grownBy w' v.ownBlock → wpList Try.prog ops Q rest (a.put o.dst v') w') : wpList Try.prog ops Q (o :: rest) a w := by
  obtain ⟨i0, hi, hz0, hz1, hz2⟩ := info_parts Try.infoInt
  have key : ∀ v' w', w'.ownsRow base 3 1 v' (0 + n) ([] ++ celL n c) → OwnP base v' n c w' := by
    intro v' w' ho'
    rw [Nat.zero_add, List.nil_append] at ho'
    rcases ho'.2 with ⟨h1, h2⟩ | ⟨g, cap, cur, hv, hg, hh, hle, hcm, hsz, htake⟩
    · subst h2
      exact ⟨none, 0, h1, Nat.le_refl _, by omega, fun x hx => (by cases hx), fun x hx => (by cases hx), fun _ => rfl, fun h0 => absurd h0 (by omega)⟩
    · refine ⟨_, cap, hv, hle, by unfold maxLen at hcm; omega, fun x hx => (by cases hx; exact hg), fun x hx => (by cases hx; exact lt_of_block hh), fun e => (by cases e), fun _ => ⟨g, rfl, cap, fun k => (cur[k]?).getD (.int .i64 0), ⟨cur, hh, by omega, fun k hk => ?_⟩, hle, fun k hk => ?_⟩⟩
      · show _ = some (Option.getD _ _)
        rw [Array.getElem?_eq_getElem (by omega)]; rfl
      · have h3 : (cur.toList.take (n * 1))[k]? = (celL n c)[k]? := by rw [htake]
        rw [List.getElem?_take, if_pos (by omega), celL_get n c k hk] at h3
        show (cur[k]?).getD _ = _
        rw [← Array.getElem?_toList, h3]; rfl
  cases ao with
  | none =>
    have h0 : n = 0 := by
      rcases Nat.eq_zero_or_pos n with e | e
      · exact e
      · obtain ⟨b, off, h1, _⟩ := hS 0 e
        cases h1
    subst h0
    rw [hnil rfl] at hx
    refine wpList_append_own_none hgd s x 22 ho base 3 i0 1 Try.underlying22 hi v 0 [] hs hown hx ?_
    exact h v w (key v w hown) (grown_refl _ _)
  | some ad =>
    refine wpList_append_own _ hgd s x 22 ho base 3 i0 (.int .i64 0) 1 8 Try.underlying22 hi hz0 hz1 hz2 rfl (by decide) v 0 [] hs hown ad n sc (celL n c) hx (by rw [celL_len]; omega) ?_ (celL_one n c) ?_ ?_ hbase ?_
    · intro j u hj
      have hj' : j < n := by
        have := (List.getElem?_eq_some_iff.1 hj).1
        rwa [celL_len] at this
      rw [celL_get n c j hj'] at hj
      cases hj
      obtain ⟨b, off, e, hc⟩ := hS j hj'
      cases e
      rw [add_off]; exact hc
    · unfold maxLen; omega
    · omega
    · intro v' w' hown' hgrow _
      exact h v' w' (key v' w' hown') hgrow
end Go.Proofs.Ytpccbiinfdppnad

/- Clone, Copy; the program's sums of polynomials. -/
namespace Go.Proofs.Ytpccbiinfdppnad
open Go.RowKit

theorem own_empty {base g : Nat} {w : World} (h : w.heap[g]? = some (.cells #[] 3 (0, 0))) (hb : base ≤ g) : OwnI base (.slice (some ⟨g, 0, none⟩) 0 0) [] w :=
  ⟨rfl, Or.inr ⟨g, 0, #[], rfl, hb, h, Nat.le_refl _, by unfold maxLen; omega, rfl, rfl⟩⟩

set_option maxHeartbeats 1000000 in
set_option maxRecDepth 100000 in
theorem copy_any {ao : Option Addr} {n cap : Nat} {c : Nat → Nat} {w : World} (h : Sl ao n c w) (hn : n ≤ 1000000) (hnil : ao = none → cap = 0) (hl : LtB ao w.heap.size) :
    Calls Try.prog 45 #[.slice ao n cap] w fun e w' => ∃ v, e = .returned v ∧ OwnP w.heap.size v n c w' ∧ Below w.heap.size w w' := by
  have HS : Hid (Sl ao n c w ∧ (ao = none → cap = 0) ∧ LtB ao w.heap.size) := ⟨h, hnil, hl⟩
  clear h hnil hl
  go_enter Try.func45, Try.ntmps45
  go_wp2_with (at_builtin; refine append_list rfl _ _ rfl w.heap.size _ rfl (own_empty (two_new _) (Nat.le_refl _)) ao n cap c rfl (HS.out.1.below ((Below.refl _ _).alloc (Nat.le_refl _) _) HS.out.2.2) HS.out.2.1 hn (by simp) ?_; intro v' w' hown hgrow)
  go_ret
  exact ⟨_, rfl, hown, ((Below.refl _ _).alloc (Nat.le_refl _) _).grown hgrow (by simp) (by intro k hk; have hk : some w.heap.size = some k := hk; cases hk; exact Nat.le_refl _)⟩

end Go.Proofs.Ytpccbiinfdppnad

/- The program's sums of polynomials. -/
namespace Go.Proofs.Ytpccbiinfdppnad
open Go.RowKit

set_option maxHeartbeats 4000000 in
set_option maxRecDepth 100000 in
theorem psum_any {F T : Nat} {D : FD} (hD : D ∈ fieldsL) {g : Nat → Value} {w : World} (h : FAt F T D g w) {ao bo : Option Addr} {n m ca cb : Nat} {a b : Nat → Nat} (hn : n ≤ 1000) (hm : m ≤ 1000) (ha : El D a) (hb : El D b) (hbn : Bd n a) (hbm : Bd m b) (hA : Sl ao n a w) (hB : Sl bo m b w) (hla : LtB ao w.heap.size) (hlb : LtB bo w.heap.size) :
    Calls Try.prog 90 #[.pointer (some ⟨F, 0, none⟩), .slice ao n ca, .slice bo m cb] w fun e w' =>
      ∃ v, e = .returned v ∧ OwnP w.heap.size v (dgn (padd D a b) (max n m)) (padd D a b) w' ∧ Below w.heap.size w w' := by
  have HF : Hid (FAt F T D g w ∧ D ∈ fieldsL ∧ Sl ao n a w ∧ Sl bo m b w ∧ El D a ∧ El D b ∧ Bd n a ∧ Bd m b) := ⟨h, hD, hA, hB, ha, hb, hbn, hbm⟩
  have HL : Hid (LtB ao w.heap.size ∧ LtB bo w.heap.size) := ⟨hla, hlb⟩
  clear h hD hA hB ha hb hbn hbm hla hlb
  obtain ⟨N, hN⟩ : ∃ N, N = max n m := ⟨_, rfl⟩
  rw [← hN]
  have hN2 : N ≤ 1000 := by omega
  have hnN : n ≤ N := by omega
  have hmN : m ≤ N := by omega
  have hmax : (if (n : Int) < (m : Int) then (m : Int) else (n : Int)) = (N : Int) := by split <;> omega
  have HN : Hid (N = max n m) := hN
  clear hN
  go_enter Try.func90, Try.ntmps90
  go_wp2_with (first
    | (at_make; refine make_int rfl _ _ rfl _ N rfl rfl (by have := HN.out; omega) (by omega) ?_; intro w1 hown1 hgrow1)
    | (show wpList _ _ _ (Oper.mk (some 18) _ _ _ _ _ :: _) _ _; (refine copy_int rfl _ _ rfl w.heap.size N N n ca ao rfl rfl pnil a (row_zeros hown1) (HF.out.2.2.1.below (below_grown hgrow1 (Nat.le_refl _) (fun k hk => by simp at hk)) HL.out.1) hnN w.heap.size w (below_grown hgrow1 (Nat.le_refl _) (fun k hk => by simp at hk)) (Nat.le_refl _) ?_); intro w2 hrow2 hb2))
  all_goals
    have HB1 : Hid (Below w.heap.size w w2 ∧ Row w.heap.size N a w2) := ⟨hb2, hrow2.congr (fun k _ => by show (if k < n then a k else pnil k) = a k; split; rfl; exact (HF.out.2.2.2.2.2.2.1 k (by omega)).symm)⟩
    clear hown1 hgrow1 hb2 hrow2
    go_loopw [21] (fun i wr => ∃ r : Nat, r ≤ m ∧ i = .int .i64 r ∧ Row w.heap.size N (fun k => if k < r then D.ad (a k) (b k) else a k) wr ∧ Below w.heap.size w wr) (fun i _ => m - (intOf i).toNat)
    case atStart => exact ⟨0, by omega, rfl, HB1.out.2.congr (fun k _ => by rw [if_neg (by omega)]), HB1.out.1⟩
    case round =>
      obtain ⟨r, hr, rfl, hrow, hbel⟩ := hrel
      have HG : Hid (Row w.heap.size N (fun k => if k < r then D.ad (a k) (b k) else a k) wr ∧ Below w.heap.size w wr) := ⟨hrow, hbel⟩
      clear hrow hbel
      by_cases hlt : r < m
      · obtain ⟨bb, offb, rfl, hcb⟩ := (HF.out.2.2.2.1.below HG.out.2 HL.out.2) r hlt
        have hco : wr.cell? ⟨w.heap.size, r, none⟩ = some (.int .i64 (a r : Nat)) := by
          have h := HG.out.1.cell r (by omega)
          rw [if_neg (by omega)] at h; exact h
        have hfo := HG.out.1.free r
        obtain ⟨z, hz⟩ : ∃ z, z = D.ad (a r) (b r) := ⟨_, rfl⟩
        have HC2 : Hid (Calls Try.prog 94 #[.pointer (some ⟨F, 0, none⟩), .int .i64 (a r : Nat), .int .i64 (b r : Nat)] wr fun e w' => e = .returned (.int .i64 (z : Nat)) ∧ ∃ k, w' = wr.drewN k) := by
          show Calls _ _ _ _ _
          rw [hz]; exact add_nat HF.out.2.1 (HF.out.1.below HG.out.2 HF.out.1.ltF HF.out.1.ltT) (HF.out.2.2.2.2.1 r) (HF.out.2.2.2.2.2.1 r)
        have HV : Hid (Row w.heap.size N (fun k => if k < r then D.ad (a k) (b k) else a k) wr ∧ Below w.heap.size w wr ∧ ∀ k, k < N → (if k < r + 1 then D.ad (a k) (b k) else a k) = if k = r then z else if k < r then D.ad (a k) (b k) else a k) :=
          ⟨HG.out.1, HG.out.2, fun k _ => by
            rw [hz]
            by_cases e : k = r
            · rw [if_pos e, if_pos (by omega), e]
            · rw [if_neg e]
              by_cases e2 : k < r
              · rw [if_pos e2, if_pos (by omega)]
              · rw [if_neg e2, if_neg (by omega)]⟩
        clear hz HG
        have hib : (r : Int) < (N : Int) := by omega
        go_wp2_with (go_at_call 94; refine HC2.out.mono ?_; rintro e w' ⟨rfl, nq, rfl⟩)
        go_roundw
        case rel => exact ⟨r + 1, by omega, by go_num, (HV.out.1.drewN nq).store r z (fun k hk => HV.out.2.2 k hk), (below_drewN2 HV.out.2.1 nq).setCell (by simp) _⟩
        case measure => simp [intOf]; omega
      · have HE : Hid (Row w.heap.size N (padd D a b) wr) := HG.out.1.congr (fun k _ => by
          show (if k < r then D.ad (a k) (b k) else a k) = D.ad (a k) (b k)
          split
          · rfl
          · rw [HF.out.2.2.2.2.2.2.2 k (by omega), ad_zero (fld HF.out.2.1) (HF.out.2.2.2.2.1 k)])
        go_wp2_with fail
        refine (trim_any (HE.out.sl (Nat.le_refl _)) (Nat.le_refl _) (by omega)).mono ?_
        rintro e w' ⟨rfl, k, rfl⟩
        go_wp2
        go_ret
        exact ⟨_, rfl, OwnP.of_row (HE.out.drewN k) (dgn_le _ _) (dgn_le _ _) (by omega) (Nat.le_refl _), below_drewN2 HG.out.2 _⟩
end Go.Proofs.Ytpccbiinfdppnad

/- The program's division of polynomials. -/
namespace Go.Proofs.Ytpccbiinfdppnad
open Go.RowKit

theorem inv_nat' {F T : Nat} {D : FD} (hD : D ∈ fieldsL) {g : Nat → Value} {w : World} (h : FAt F T D g w) {x : Nat} (hx : x < D.q) (h0 : x ≠ 0) :
    Calls Try.prog 70 #[.pointer (some ⟨F, 0, none⟩), .int .i64 x] w fun e w' => e = .returned (.int .i64 (D.iv x : Nat)) ∧ ∃ n, w' = w.drewN n := by
  have k := inv_any hD h x
  rw [inv_nat hD hx h0] at k
  exact k
theorem subZ_nat {D : FD} (F : Fld D) {a b : Nat} (ha : a < D.q) (hb : b < D.q) : D.subZ a b = (D.sb a b : Nat) := by
  rw [FD.subZ, FD.negZ, if_pos (nat_has hb), Int.toNat_natCast, addZ_nat F ha (F.neg_lt b hb)]; rfl
theorem sub_nat {F T : Nat} {D : FD} (hD : D ∈ fieldsL) {g : Nat → Value} {w : World} (h : FAt F T D g w) {a b : Nat} (ha : a < D.q) (hb : b < D.q) :
    Calls Try.prog 95 #[.pointer (some ⟨F, 0, none⟩), .int .i64 a, .int .i64 b] w fun e w' => e = .returned (.int .i64 (D.sb a b : Nat)) ∧ ∃ n, w' = w.drewN n := by
  rw [← subZ_nat (fld hD) ha hb]; exact sub_any hD h a b

theorem OwnP.setOther {base n : Nat} {v : Value} {c : Nat → Nat} {w : World} (h : OwnP base v n c w) (a : Addr) (ha : ∀ g, v.ownBlock = some g → g ≠ a.block) (u : Value) : OwnP base v n c (w.setCell a u) := by
  obtain ⟨ao, cap, rfl, h1, h2, hg, hl, hz, hr⟩ := h
  refine ⟨ao, cap, rfl, h1, h2, hg, fun x hx => by simpa [World.setCell] using hl x hx, hz, fun h0 => ?_⟩
  obtain ⟨g, rfl, hrow⟩ := hr h0
  exact ⟨g, rfl, hrow.other (Below.heap_setCell _ _ _ _ (ha g rfl))⟩
theorem OwnP.store {base n cap g : Nat} {c d : Nat → Nat} {w : World} (h : OwnP base (.slice (some ⟨g, 0, none⟩) n cap) n c w) (k u : Nat) (h0 : 0 < n) (hd : ∀ j, j < n → d j = if j = k then u else c j) :
    OwnP base (.slice (some ⟨g, 0, none⟩) n cap) n d (w.setCell ⟨g, k, none⟩ (.int .i64 (u : Nat))) := by
  obtain ⟨ao, cap', hv, h1, h2, hg, hl, hz, hr⟩ := h
  simp only [Value.slice.injEq, true_and] at hv
  obtain ⟨rfl, rfl⟩ := hv
  obtain ⟨g', e, hrow⟩ := hr h0
  cases e
  exact ⟨_, cap, rfl, h1, h2, hg, fun x hx => by simpa [World.setCell] using hl x hx, fun e => (by cases e), fun _ => ⟨g, rfl, hrow.store k u hd⟩⟩

theorem OwnP.row {base n cap : Nat} {ao : Option Addr} {c : Nat → Nat} {w : World} (h : OwnP base (.slice ao n cap) n c w) (h0 : 0 < n) : ∃ g, ao = some ⟨g, 0, none⟩ ∧ base ≤ g ∧ g < w.heap.size ∧ Row g n c w := by
  obtain ⟨ao', cap', hv, h1, h2, hg, hl, hz, hr⟩ := h
  simp only [Value.slice.injEq, true_and] at hv
  obtain ⟨rfl, rfl⟩ := hv
  obtain ⟨g, rfl, hrow⟩ := hr h0
  exact ⟨g, rfl, hg _ rfl, hl _ rfl, hrow⟩

theorem OwnP.trimmed {base n cap : Nat} {ao : Option Addr} {c : Nat → Nat} {w : World} (h : OwnP base (.slice ao n cap) n c w) : OwnP base (.slice ao (dgn c n) cap) (dgn c n) c w := by
  obtain ⟨ao', cap', hv, h1, h2, hg, hl, hz, hr⟩ := h
  simp only [Value.slice.injEq, true_and] at hv
  obtain ⟨rfl, rfl⟩ := hv
  have := dgn_le c n
  refine ⟨_, _, rfl, by omega, h2, hg, hl, hz, fun h0 => ?_⟩
  obtain ⟨g, e, hrow⟩ := hr (by omega)
  exact ⟨g, e, hrow.less this⟩

/-- What is left while one multiple is taken away: j places of it. -/
def pst (D : FD) (b : Nat → Nat) (l inv s : Nat) (r : Nat → Nat) (j : Nat) : Nat → Nat := fun k => if s ≤ k ∧ k < s + j then dstep D b l inv s r k else r k
theorem pst_zero (D : FD) (b : Nat → Nat) (l inv s : Nat) (r : Nat → Nat) : pst D b l inv s r 0 = r := by funext k; unfold pst; rw [if_neg (by omega)]
theorem pst_all {D : FD} (F : Fld D) {b r : Nat → Nat} {l inv s : Nat} (hr : El D r) (hb : Bd (l + 1) b) : pst D b l inv s r (l + 1) = dstep D b l inv s r := by
  funext k
  unfold pst
  by_cases h : s ≤ k ∧ k < s + (l + 1)
  · rw [if_pos h]
  · rw [if_neg h]
    by_cases h2 : k < s
    · exact (dstep_lo F hr h2).symm
    · exact (dstep_hi F hr hb (by omega)).symm
theorem pst_step (D : FD) (b r : Nat → Nat) (l inv s j k : Nat) : pst D b l inv s r (j + 1) k = if k = s + j then dstep D b l inv s r (s + j) else pst D b l inv s r j k := by
  unfold pst
  by_cases h : k = s + j
  · rw [if_pos h, if_pos (by omega), h]
  · rw [if_neg h]
    by_cases h2 : s ≤ k ∧ k < s + j
    · rw [if_pos h2, if_pos (by omega)]
    · rw [if_neg h2, if_neg (by omega)]
theorem pst_at (D : FD) (b r : Nat → Nat) (l inv s j : Nat) : pst D b l inv s r j (s + j) = r (s + j) := by unfold pst; rw [if_neg (by omega)]
theorem el_pst {D : FD} (F : Fld D) {b r : Nat → Nat} {l inv s j : Nat} (hr : El D r) : El D (pst D b l inv s r j) := fun k => by
  unfold pst
  split
  · exact el_dstep F hr k
  · exact hr k
end Go.Proofs.Ytpccbiinfdppnad

/- The program's division of polynomials: the walk. -/
namespace Go.Proofs.Ytpccbiinfdppnad
open Go.RowKit

end Go.Proofs.Ytpccbiinfdppnad

/- The program's polynomials: which may be (Check), and over which field (over). -/
namespace Go.Proofs.Ytpccbiinfdppnad
open Go.RowKit

/-- The first n numbers of the slice that begins at ao are z. -/
def SlZ (ao : Option Addr) (n : Nat) (z : Nat → Int) (w : World) : Prop := ∀ j, j < n → ∃ b off, ao = some ⟨b, off, none⟩ ∧ w.cell? ⟨b, off + j, none⟩ = some (.int .i64 (z j))
theorem SlZ.below {ao : Option Addr} {n B : Nat} {z : Nat → Int} {w w' : World} (h : SlZ ao n z w) (hb : Below B w w') (hB : LtB ao B) : SlZ ao n z w' := fun j hj => by
  obtain ⟨b, off, rfl, hc⟩ := h j hj
  exact ⟨b, off, rfl, ((bcell hb).1 b (off + j) (hB _ rfl)).trans hc⟩
theorem Sl.z {ao : Option Addr} {n : Nat} {c : Nat → Nat} {w : World} (h : Sl ao n c w) : SlZ ao n (fun j => (c j : Nat)) w := h
/-- How many of the first numbers are elements, one after the other. -/
def FD.allHas (D : FD) (z : Nat → Int) : Nat → Bool
  | 0 => true
  | n + 1 => D.allHas z n && D.has (z n)
theorem allHas_iff {D : FD} {z : Nat → Int} : ∀ {n : Nat}, D.allHas z n = true ↔ ∀ j, j < n → D.has (z j) = true
  | 0 => ⟨fun _ j hj => by omega, fun _ => rfl⟩
  | n + 1 => by
    rw [FD.allHas, Bool.and_eq_true, allHas_iff]
    constructor
    · rintro ⟨h1, h2⟩ j hj
      by_cases e : j = n
      · rw [e]; exact h2
      · exact h1 j (by omega)
    · intro h
      exact ⟨fun j hj => h j (by omega), h n (by omega)⟩
/-- What Check says of n numbers. -/
def FD.chk (D : FD) (n : Nat) (z : Nat → Int) : Int := if 128 < n then 4 else if D.allHas z n = true then 0 else 2

set_option maxHeartbeats 2000000 in
set_option maxRecDepth 100000 in
theorem check_any {D : FD} (hD : D ∈ fieldsL) {ao : Option Addr} {n cap : Nat} {z : Nat → Int} {w : World} (h : SlZ ao n z w) (hl : LtB ao w.heap.size) (hn : n ≤ 1000000) :
    Calls Try.prog 30 #[.int .i64 D.q, .slice ao n cap] w fun e w' => e = .returned (.int .i64 (D.chk n z)) ∧ Below w.heap.size w w' := by
  have HS : Hid (SlZ ao n z w ∧ LtB ao w.heap.size ∧ D ∈ fieldsL) := ⟨h, hl, hD⟩
  clear h hl hD
  go_enter Try.func30, Try.ntmps30
  go_wp2_with fail
  refine (new_any HS.out.2.2 w).mono ?_
  rintro e w1 ⟨F, T, g, rfl, hat, hF, hT, hb1⟩
  have HA : Hid (FAt F T D g w1 ∧ SlZ ao n z w1 ∧ Below w.heap.size w w1) := ⟨hat, HS.out.1.below hb1 HS.out.2.1, hb1⟩
  clear hat hF hT hb1
  by_cases h128 : 128 < n
  · have HV : Hid (D.chk n z = 4) := by show D.chk n z = 4; rw [FD.chk, if_pos h128]
    go_wp2
    go_ret
    exact ⟨ret_int (by rw [HV.out]), HA.out.2.2⟩
  · go_wp2
    go_loopw [22] (fun i wr => ∃ r : Nat, r ≤ n ∧ i = .int .i64 r ∧ Hid (D.allHas z r = true) ∧ wr = w1) (fun i _ => n - (intOf i).toNat)
    case atStart => exact ⟨0, by omega, rfl, rfl, rfl⟩
    case round =>
      obtain ⟨r, hr, rfl, HH, rfl⟩ := hrel
      by_cases hlt : r < n
      · obtain ⟨b, off, rfl, hc⟩ := HA.out.2.1 r hlt
        by_cases hh : D.has (z r) = true
        · have HH2 : Hid (D.allHas z (r + 1) = true) := by show D.allHas z (r + 1) = true; rw [FD.allHas, HH.out, hh]; rfl
          go_wp2_with (go_at_call 65; refine (has_any HA.out.1 _).mono ?_; rintro e w' ⟨rfl, hw⟩; have hw := hw.symm; subst hw)
          go_roundw
          case rel => exact ⟨r + 1, by omega, by go_num, HH2.out, by first | rfl | trivial⟩
          case measure => simp [intOf]; omega
        · have hh' : D.has (z r) = false := by simpa using hh
          have HV : Hid (D.chk n z = 2) := by
            show D.chk n z = 2
            rw [FD.chk, if_neg h128, if_neg]
            intro e
            exact hh (allHas_iff.1 e r hlt)
          clear hh
          go_wp2_with (go_at_call 65; refine (has_any HA.out.1 _).mono ?_; rintro e w' ⟨rfl, hw⟩; have hw := hw.symm; subst hw)
          go_ret
          exact ⟨ret_int (by rw [HV.out]), HA.out.2.2⟩
      · have HV : Hid (D.chk n z = 0) := by
          show D.chk n z = 0
          have e : r = n := by omega
          rw [FD.chk, if_neg h128, if_pos (e ▸ HH.out)]
        go_wp2
        go_ret
        exact ⟨ret_int (by rw [HV.out]), HA.out.2.2⟩
set_option maxHeartbeats 1000000 in
theorem check_none (q : Int) (h : ∀ D ∈ fieldsL, (D.q : Int) ≠ q) (v : Value) (w : World) :
    Calls Try.prog 30 #[.int .i64 q, v] w fun e w' => e = .returned (.int .i64 1) ∧ w' = w := by
  have HB : Hid (∀ D ∈ fieldsL, (D.q : Int) ≠ q) := h
  clear h
  go_enter Try.func30, Try.ntmps30
  go_wp2_with fail
  refine (new_none q w HB.out).mono ?_
  rintro e w' ⟨rfl, hw⟩
  have hw := hw.symm
  subst hw
  go_wp2
  go_ret
  exact ⟨rfl, rfl⟩

/-- What Check says of the first of k lists of which it says anything. -/
def FD.chks (D : FD) (N : Nat → Nat) (Z : Nat → Nat → Int) : Nat → Int
  | 0 => 0
  | k + 1 => if D.chks N Z k = 0 then D.chk (N k) (Z k) else D.chks N Z k
/-- Lists that are handed in, all of them in one slice. -/
structure Many (g k : Nat) (A : Nat → Option Addr) (N C : Nat → Nat) (Z : Nat → Nat → Int) (w : World) : Prop where
  cell : ∀ j, j < k → w.cell? ⟨g, j, none⟩ = some (.slice (A j) (N j) (C j))
  sl : ∀ j, j < k → SlZ (A j) (N j) (Z j) w
  lt : ∀ j, j < k → LtB (A j) w.heap.size
  few : ∀ j, j < k → N j ≤ 1000000
  ltg : g < w.heap.size
theorem Many.below {g k : Nat} {A : Nat → Option Addr} {N C : Nat → Nat} {Z : Nat → Nat → Int} {w w' : World} (h : Many g k A N C Z w) (hb : Below w.heap.size w w') : Many g k A N C Z w' :=
  ⟨fun j hj => ((bcell hb).1 g j h.ltg).trans (h.cell j hj), fun j hj => (h.sl j hj).below hb (h.lt j hj), fun j hj => (h.lt j hj).mono hb.size, h.few, Nat.lt_of_lt_of_le h.ltg hb.size⟩
theorem chks_keep {D : FD} {N : Nat → Nat} {Z : Nat → Nat → Int} {e : Int} (he : e ≠ 0) {r : Nat} (h : D.chks N Z r = e) : ∀ d, D.chks N Z (r + d) = e
  | 0 => h
  | d + 1 => by rw [← Nat.add_assoc, FD.chks, chks_keep he h d, if_neg he]

set_option maxHeartbeats 2000000 in
set_option maxRecDepth 100000 in
theorem over_any {D : FD} (hD : D ∈ fieldsL) {g k cap : Nat} {A : Nat → Option Addr} {N C : Nat → Nat} {Z : Nat → Nat → Int} {w : World} (h : Many g k A N C Z w) (hk : k ≤ 1000) :
    Calls Try.prog 87 #[.int .i64 D.q, .slice (some ⟨g, 0, none⟩) k cap] w fun e w' => Below w.heap.size w w' ∧
      ((D.chks N Z k = 0 ∧ ∃ F T f, e = .returned (.tuple #[.pointer (some ⟨F, 0, none⟩), .int .i64 0]) ∧ FAt F T D f w' ∧ w.heap.size ≤ F ∧ w.heap.size ≤ T) ∨ (D.chks N Z k ≠ 0 ∧ e = .returned (.tuple #[.pointer none, .int .i64 (D.chks N Z k)]))) := by
  have HM : Hid (Many g k A N C Z w ∧ D ∈ fieldsL) := ⟨h, hD⟩
  clear h hD
  go_enter Try.func87, Try.ntmps87
  go_wp2
  go_loopw [11] (fun i wr => ∃ r : Nat, r ≤ k ∧ i = .int .i64 r ∧ Hid (D.chks N Z r = 0) ∧ Many g k A N C Z wr ∧ Below w.heap.size w wr) (fun i _ => k - (intOf i).toNat)
  case atStart => exact ⟨0, by omega, rfl, rfl, HM.out.1, Below.refl _ _⟩
  case round =>
    obtain ⟨r, hr, rfl, HH, hmany, hbel⟩ := hrel
    have HG : Hid (Many g k A N C Z wr ∧ Below w.heap.size w wr) := ⟨hmany, hbel⟩
    clear hmany hbel
    by_cases hlt : r < k
    · have hc := HG.out.1.cell r hlt
      have hib : (r : Int) < (k : Int) := by omega
      obtain ⟨e, he⟩ : ∃ e, e = D.chk (N r) (Z r) := ⟨_, rfl⟩
      have HC : Hid (Calls Try.prog 30 #[.int .i64 D.q, .slice (A r) (N r) (C r)] wr fun x w' => x = .returned (.int .i64 e) ∧ Below wr.heap.size wr w') := by
        show Calls _ _ _ _ _
        rw [he]; exact check_any HM.out.2 (HG.out.1.sl r hlt) (HG.out.1.lt r hlt) (HG.out.1.few r hlt)
      have HE : Hid (D.chks N Z (r + 1) = e) := by show D.chks N Z (r + 1) = e; rw [FD.chks, if_pos HH.out, he]
      clear he
      by_cases h0 : e = 0
      · have hz : (e != 0) = false := by rw [h0]; rfl
        have HE2 : Hid (D.chks N Z (r + 1) = 0) := by show _ = _; rw [HE.out, h0]
        clear h0
        go_wp2_with (go_at_call 30; refine HC.out.mono ?_; rintro x w' ⟨rfl, hb'⟩)
        go_roundw
        case rel => exact ⟨r + 1, by omega, by go_num, HE2.out, HG.out.1.below hb', bel_up HG.out.2 hb'⟩
        case measure => simp [intOf]; omega
      · have hz : (e != 0) = true := by rw [bne_iff_ne]; exact h0
        have HE2 : Hid (D.chks N Z k = e ∧ e ≠ 0) := by
          have h := chks_keep h0 HE.out (k - (r + 1))
          rw [show r + 1 + (k - (r + 1)) = k from by omega] at h
          exact ⟨h, h0⟩
        clear h0
        go_wp2_with (go_at_call 30; refine HC.out.mono ?_; rintro x w' ⟨rfl, hb'⟩)
        go_ret2
        exact ⟨bel_up HG.out.2 hb', Or.inr ⟨by rw [HE2.out.1]; exact HE2.out.2, by rw [HE2.out.1]; rfl⟩⟩
    · have HE : Hid (D.chks N Z k = 0) := by show _ = _; rw [← show r = k from by omega]; exact HH.out
      go_wp2_with fail
      refine (new_any HM.out.2 wr).mono ?_
      rintro x w1 ⟨F, T, f, rfl, hat, hF, hT, hb1⟩
      have HA : Hid (FAt F T D f w1 ∧ wr.heap.size ≤ F ∧ wr.heap.size ≤ T ∧ Below wr.heap.size wr w1) := ⟨hat, hF, hT, hb1⟩
      clear hat hF hT hb1
      go_wp2
      go_ret2
      have hs := HG.out.2.size
      exact ⟨bel_up HG.out.2 HA.out.2.2.2, Or.inl ⟨HE.out, F, T, f, rfl, HA.out.1, by have := HA.out.2.1; omega, by have := HA.out.2.2.1; omega⟩⟩
end Go.Proofs.Ytpccbiinfdppnad

/- The program's polynomials: the calls that are listed: Add. -/
namespace Go.Proofs.Ytpccbiinfdppnad
open Go.RowKit

/-- A list that is handed in: where it lies, how long it is, its numbers. -/
structure Arg (ao : Option Addr) (n cap : Nat) (z : Nat → Int) (w : World) : Prop where
  sl : SlZ ao n z w
  lt : LtB ao w.heap.size
  few : n ≤ 1000000
  nil : ao = none → cap = 0
  le : n ≤ cap
  cap : cap ≤ 9223372036854775807
theorem Arg.below {ao : Option Addr} {n cap : Nat} {z : Nat → Int} {w w' : World} (h : Arg ao n cap z w) (hb : Below w.heap.size w w') : Arg ao n cap z w' :=
  ⟨h.sl.below hb h.lt, h.lt.mono hb.size, h.few, h.nil, h.le, h.cap⟩

def two {α : Type} (x y : α) : Nat → α := fun j => if j = 0 then x else y
theorem many_two {ao bo : Option Addr} {n m ca cb : Nat} {z y : Nat → Int} {w : World} (ha : Arg ao n ca z w) (hb : Arg bo m cb y w) :
    Many w.heap.size 2 (two ao bo) (two n m) (two ca cb) (two z y) (w.alloc (.cells #[.slice ao n ca, .slice bo m cb] 22)) := by
  have hbl : Below w.heap.size w (w.alloc (.cells #[.slice ao n ca, .slice bo m cb] 22)) := (Below.refl _ _).alloc (Nat.le_refl _) _
  have a1 := ha.below hbl
  have b1 := hb.below hbl
  refine ⟨fun j hj => ?_, fun j hj => ?_, fun j hj => ?_, fun j hj => ?_, by simp⟩
  · rw [cell_of_row _ _ _ _ _ (0, 0) (two_new _)]
    rcases j with _ | _ | j
    · rfl
    · rfl
    · omega
  · rcases j with _ | _ | j
    · exact a1.sl
    · exact b1.sl
    · omega
  · rcases j with _ | _ | j
    · exact a1.lt
    · exact b1.lt
    · omega
  · rcases j with _ | _ | j
    · exact a1.few
    · exact b1.few
    · omega
/-- What is said of two lists. -/
def FD.chk2 (D : FD) (n : Nat) (z : Nat → Int) (m : Nat) (y : Nat → Int) : Int := if D.chk n z = 0 then D.chk m y else D.chk n z
theorem chks_two (D : FD) (n m : Nat) (z y : Nat → Int) : D.chks (two n m) (two z y) 2 = D.chk2 n z m y := by
  show (if (if (0 : Int) = 0 then D.chk n z else 0) = 0 then D.chk m y else (if (0 : Int) = 0 then D.chk n z else 0)) = _
  rw [if_pos rfl]; rfl
theorem over2_any {D : FD} (hD : D ∈ fieldsL) {ao bo : Option Addr} {n m ca cb : Nat} {z y : Nat → Int} {w : World} (ha : Arg ao n ca z w) (hb : Arg bo m cb y w) :
    Calls Try.prog 87 #[.int .i64 D.q, .slice (some ⟨w.heap.size, 0, none⟩) 2 2] (w.alloc (.cells #[.slice ao n ca, .slice bo m cb] 22)) fun e w' => Below w.heap.size w w' ∧
      ((D.chk2 n z m y = 0 ∧ ∃ F T f, e = .returned (.tuple #[.pointer (some ⟨F, 0, none⟩), .int .i64 0]) ∧ FAt F T D f w' ∧ w.heap.size ≤ F ∧ w.heap.size ≤ T) ∨ (D.chk2 n z m y ≠ 0 ∧ e = .returned (.tuple #[.pointer none, .int .i64 (D.chk2 n z m y)]))) := by
  have h := over_any hD (cap := 2) (many_two ha hb) (by omega)
  rw [chks_two] at h
  refine h.mono ?_
  rintro e w' ⟨hb', hr⟩
  have hbl : Below w.heap.size w (w.alloc (.cells #[.slice ao n ca, .slice bo m cb] 22)) := (Below.refl _ _).alloc (Nat.le_refl _) _
  refine ⟨bel_up hbl hb', ?_⟩
  rcases hr with ⟨h0, F, T, f, rfl, hat, h1, h2⟩ | h
  · simp at h1 h2
    exact Or.inl ⟨h0, F, T, f, rfl, hat, by omega, by omega⟩
  · exact Or.inr h

set_option maxHeartbeats 1000000 in
set_option maxRecDepth 100000 in
theorem over_none (q : Int) (h : ∀ D ∈ fieldsL, (D.q : Int) ≠ q) (g k cap : Nat) (v : Value) (w : World) (hk : 0 < k) (hc : w.cell? ⟨g, 0, none⟩ = some v) :
    Calls Try.prog 87 #[.int .i64 q, .slice (some ⟨g, 0, none⟩) k cap] w fun e w' => e = .returned (.tuple #[.pointer none, .int .i64 1]) ∧ w' = w := by
  have HB : Hid (∀ D ∈ fieldsL, (D.q : Int) ≠ q) := h
  clear h
  go_enter Try.func87, Try.ntmps87
  go_wp2
  refine wp_loop_rounds 1 ?_
  rw [rounds_succ]
  go_wp2_with (go_at_call 30; refine (check_none q HB.out _ _).mono ?_; rintro e w' ⟨rfl, hw⟩; have hw := hw.symm; subst hw)
  go_ret2
  exact ⟨rfl, rfl⟩

/-- The coefficients of n numbers that are elements. -/
def zc (n : Nat) (z : Nat → Int) : Nat → Nat := fun j => if j < n then (z j).toNat else 0
theorem zc_bd (n : Nat) (z : Nat → Int) : Bd n (zc n z) := fun k hk => by unfold zc; rw [if_neg (by omega)]
theorem chk_zero {D : FD} {n : Nat} {z : Nat → Int} (h : D.chk n z = 0) : n ≤ 128 ∧ ∀ j, j < n → D.has (z j) = true := by
  unfold FD.chk at h
  by_cases h1 : 128 < n
  · rw [if_pos h1] at h; cases h
  · rw [if_neg h1] at h
    by_cases h2 : D.allHas z n = true
    · exact ⟨by omega, allHas_iff.1 h2⟩
    · rw [if_neg h2] at h; cases h
theorem zc_el {D : FD} (F : Fld D) {n : Nat} {z : Nat → Int} (h : D.chk n z = 0) : El D (zc n z) := fun j => by
  unfold zc
  by_cases e : j < n
  · obtain ⟨x, hx, hxq⟩ := has_nat ((chk_zero h).2 j e)
    rw [if_pos e, hx, Int.toNat_natCast]; exact hxq
  · rw [if_neg e]; exact zero_lt' F
theorem zc_sl {D : FD} {ao : Option Addr} {n : Nat} {z : Nat → Int} {w : World} (h : D.chk n z = 0) (hS : SlZ ao n z w) : Sl ao n (zc n z) w := fun j hj => by
  obtain ⟨b, off, e, hc⟩ := hS j hj
  obtain ⟨x, hx, hxq⟩ := has_nat ((chk_zero h).2 j hj)
  refine ⟨b, off, e, ?_⟩
  rw [hc]
  unfold zc
  rw [if_pos hj, hx, Int.toNat_natCast]
theorem chk2_zero {D : FD} {n m : Nat} {z y : Nat → Int} (h : D.chk2 n z m y = 0) : D.chk n z = 0 ∧ D.chk m y = 0 := by
  unfold FD.chk2 at h
  by_cases e : D.chk n z = 0
  · rw [if_pos e] at h; exact ⟨e, h⟩
  · rw [if_neg e] at h; exact absurd h e

set_option maxHeartbeats 2000000 in
set_option maxRecDepth 100000 in
theorem padd_none (q : Int) (h : ∀ D ∈ fieldsL, (D.q : Int) ≠ q) (ao bo : Option Addr) (n m ca cb : Nat) (w : World) :
    Calls Try.prog 60 #[.int .i64 q, .slice ao n ca, .slice bo m cb] w fun e w' => e = .returned (.tuple #[.slice none 0 0, .int .i64 1]) ∧ Below w.heap.size w w' := by
  have HB : Hid (∀ D ∈ fieldsL, (D.q : Int) ≠ q) := h
  clear h
  go_enter Try.func60, Try.ntmps60
  go_wp2_with fail
  refine (over_none q HB.out _ 2 2 _ _ (by omega) (cell_of_row _ _ _ _ _ (0, 0) (two_new _))).mono ?_
  rintro e w' ⟨rfl, rfl⟩
  go_wp2
  go_ret2
  exact ⟨rfl, (Below.refl _ _).alloc (Nat.le_refl _) _⟩
set_option maxHeartbeats 2000000 in
set_option maxRecDepth 100000 in
theorem padd_any {D : FD} (hD : D ∈ fieldsL) {ao bo : Option Addr} {n m ca cb : Nat} {z y : Nat → Int} {w : World} (ha : Arg ao n ca z w) (hb : Arg bo m cb y w) :
    Calls Try.prog 60 #[.int .i64 D.q, .slice ao n ca, .slice bo m cb] w fun e w' => Below w.heap.size w w' ∧
      ((D.chk2 n z m y = 0 ∧ ∃ v, e = .returned (.tuple #[v, .int .i64 0]) ∧ OwnP w.heap.size v (dgn (padd D (zc n z) (zc m y)) (max n m)) (padd D (zc n z) (zc m y)) w') ∨ (D.chk2 n z m y ≠ 0 ∧ e = .returned (.tuple #[.slice none 0 0, .int .i64 (D.chk2 n z m y)]))) := by
  have HA : Hid (Arg ao n ca z w ∧ Arg bo m cb y w ∧ D ∈ fieldsL) := ⟨ha, hb, hD⟩
  clear ha hb hD
  go_enter Try.func60, Try.ntmps60
  go_wp2_with fail
  refine (over2_any HA.out.2.2 HA.out.1 HA.out.2.1).mono ?_
  rintro e w1 ⟨hb1, hr⟩
  rcases hr with ⟨h0, F, T, f, rfl, hat, hF, hT⟩ | ⟨h0, rfl⟩
  · have HW : Hid (D.chk2 n z m y = 0 ∧ FAt F T D f w1 ∧ Below w.heap.size w w1) := ⟨h0, hat, hb1⟩
    clear h0 hat hF hT hb1
    go_wp2_with fail
    have c0 := chk2_zero HW.out.1
    have a1 := HA.out.1.below HW.out.2.2
    have b1 := HA.out.2.1.below HW.out.2.2
    have hF := fld HA.out.2.2
    refine (psum_any HA.out.2.2 HW.out.2.1 (by have := (chk_zero c0.1).1; omega) (by have := (chk_zero c0.2).1; omega) (zc_el hF c0.1) (zc_el hF c0.2) (zc_bd _ _) (zc_bd _ _) (zc_sl c0.1 a1.sl) (zc_sl c0.2 b1.sl) a1.lt b1.lt).mono ?_
    rintro e w2 ⟨v, rfl, hown, hb2⟩
    have hs := HW.out.2.2.size
    have HR : Hid (OwnP w.heap.size v (dgn (padd D (zc n z) (zc m y)) (max n m)) (padd D (zc n z) (zc m y)) w2 ∧ Below w.heap.size w w2) := ⟨hown.mono hs, bel_up HW.out.2.2 hb2⟩
    clear hown hb2 a1 b1 hF c0
    go_wp2
    go_ret2
    exact ⟨HR.out.2, Or.inl ⟨HW.out.1, v, rfl, HR.out.1⟩⟩
  · have HW : Hid (D.chk2 n z m y ≠ 0 ∧ Below w.heap.size w w1) := ⟨h0, hb1⟩
    obtain ⟨e, he⟩ : ∃ e, e = D.chk2 n z m y := ⟨_, rfl⟩
    rw [← he] at h0 ⊢
    have hz : (e != 0) = true := by rw [bne_iff_ne]; exact h0
    have HE : Hid (e = D.chk2 n z m y) := he
    clear h0 hb1 he
    go_wp2
    go_ret2
    exact ⟨HW.out.2, Or.inr ⟨HW.out.1, by rw [← HE.out]; rfl⟩⟩
end Go.Proofs.Ytpccbiinfdppnad
