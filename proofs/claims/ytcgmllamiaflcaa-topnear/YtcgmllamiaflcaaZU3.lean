/- Texts of ours, one behind the other: U3 U4 U5 U6 U7 U8. -/
import Derived.Test.YtcgmllamiaflcaaZU2
import Derived.Laws.CopyOwn
import Derived.Laws.AppendOwnNone
import Derived.Lib.SliceRun
import Derived.Test.YtcgmllamiaflcaaZN2
/- The program's polynomials: products. -/
namespace Go.Proofs.Ytcgmllamiaflcaa
open Go.RowKit

set_option maxHeartbeats 4000000 in
set_option maxRecDepth 100000 in
theorem product_any {F T : Nat} {D : FD} (hD : D ∈ fieldsL) {g : Nat → Value} {w : World} (h : FAt F T D g w) {ao bo : Option Addr} {n m ca cb : Nat} {a b : Nat → Nat} (hn : n ≤ 1000) (hm : m ≤ 1000) (ha : El D a) (hb : El D b) (hbm : Bd m b) (hA : Sl ao n a w) (hB : Sl bo m b w) (hla : LtB ao w.heap.size) (hlb : LtB bo w.heap.size) :
    Calls Try.prog 79 #[.pointer (some ⟨F, 0, none⟩), .slice ao n ca, .slice bo m cb] w fun e w' =>
      e = .returned (.slice (some ⟨w.heap.size, 0, none⟩) (dgn (pmul D n a b) (n + m)) (n + m)) ∧ Row w.heap.size (n + m) (pmul D n a b) w' ∧ Below w.heap.size w w' := by
  have HF : Hid (FAt F T D g w ∧ D ∈ fieldsL ∧ Sl ao n a w ∧ Sl bo m b w ∧ El D a ∧ El D b ∧ Bd m b) := ⟨h, hD, hA, hB, ha, hb, hbm⟩
  have HL : Hid (LtB ao w.heap.size ∧ LtB bo w.heap.size) := ⟨hla, hlb⟩
  clear h hD hA hB ha hb hbm hla hlb
  obtain ⟨N, hN⟩ : ∃ N, N = n + m := ⟨_, rfl⟩
  rw [← hN]
  have HN : Hid (N = n + m) := hN
  have hN2 : N ≤ 2000 := by omega
  clear hN
  go_enter Try.func79, Try.ntmps79
  go_wp2_with (at_make; refine make_int rfl _ _ rfl _ N rfl rfl (by have := HN.out; omega) (by omega) ?_; intro w1 hown1 hgrow1)
  have HB1 : Hid (Below w.heap.size w w1 ∧ Row w.heap.size N pnil w1) := ⟨below_grown hgrow1 (Nat.le_refl _) (fun k hk => by simp at hk), row_zeros hown1⟩
  clear hown1 hgrow1
  go_loopw [20] (fun i wr => ∃ r : Nat, r ≤ n ∧ i = .int .i64 r ∧ Row w.heap.size N (pmul D r a b) wr ∧ Below w.heap.size w wr) (fun i _ => n - (intOf i).toNat)
  case atStart => exact ⟨0, by omega, rfl, HB1.out.2, HB1.out.1⟩
  case round =>
    obtain ⟨r, hr, rfl, hrow, hbel⟩ := hrel
    have HG : Hid (Row w.heap.size N (pmul D r a b) wr ∧ Below w.heap.size w wr) := ⟨hrow, hbel⟩
    clear hrow hbel
    by_cases hlt : r < n
    · obtain ⟨ba, offa, rfl, hca⟩ := (HF.out.2.2.1.below HG.out.2 HL.out.1) r hlt
      go_wp2
      go_loopw [27] (fun i wr => ∃ j : Nat, j ≤ m ∧ i = .int .i64 j ∧ Row w.heap.size N (pin D a b r j) wr ∧ Below w.heap.size w wr) (fun i _ => m - (intOf i).toNat)
      case atStart => exact ⟨0, by omega, rfl, by rw [pin_zero]; exact HG.out.1, HG.out.2⟩
      case round =>
        clear HG hca
        obtain ⟨j, hj, rfl, hrow, hbel⟩ := hrel
        have HG : Hid (Row w.heap.size N (pin D a b r j) wr ∧ Below w.heap.size w wr) := ⟨hrow, hbel⟩
        clear hrow hbel
        by_cases hjm : j < m
        · obtain ⟨bb, offb, rfl, hcb⟩ := (HF.out.2.2.2.1.below HG.out.2 HL.out.2) j hjm
          have hco : wr.cell? ⟨w.heap.size, r + j, none⟩ = some (.int .i64 (pmul D r a b (r + j) : Nat)) := by rw [← pin_at]; exact HG.out.1.cell _ (by have := HN.out; omega)
          have hfo := HG.out.1.free (r + j)
          obtain ⟨p, hp⟩ : ∃ p, p = pmul D r a b (r + j) := ⟨_, rfl⟩
          obtain ⟨y, hy⟩ : ∃ y, y = D.mul (a r) (b j) := ⟨_, rfl⟩
          obtain ⟨z, hz⟩ : ∃ z, z = pmul D (r + 1) a b (r + j) := ⟨_, rfl⟩
          have HC1 : Hid (∀ d, Calls Try.prog 20 #[.pointer (some ⟨F, 0, none⟩), .int .i64 (a r : Nat), .int .i64 (b j : Nat)] (wr.drewN d) fun e w' => e = .returned (.int .i64 (y : Nat)) ∧ ∃ k, w' = (wr.drewN d).drewN k) := by
            intro d; rw [hy]; exact mul_nat HF.out.2.1 ((HF.out.1.below HG.out.2 HF.out.1.ltF HF.out.1.ltT).drewN d) (HF.out.2.2.2.2.1 r) (HF.out.2.2.2.2.2.1 j)
          have HC2 : Hid (∀ d, Calls Try.prog 19 #[.pointer (some ⟨F, 0, none⟩), .int .i64 (p : Nat), .int .i64 (y : Nat)] (wr.drewN d) fun e w' => e = .returned (.int .i64 (z : Nat)) ∧ ∃ k, w' = (wr.drewN d).drewN k) := by
            intro d
            have h := add_nat HF.out.2.1 ((HF.out.1.below HG.out.2 HF.out.1.ltF HF.out.1.ltT).drewN d) (el_mul (fld HF.out.2.1) a b r (r + j)) ((fld HF.out.2.1).mul_lt (a r) (b j))
            rw [hz, hp, hy, ← pin_new]; exact h
          have HV : Hid (Row w.heap.size N (pin D a b r j) wr ∧ Below w.heap.size w wr ∧ FAt F T D g wr ∧ ∀ k, pin D a b r (j + 1) k = if k = r + j then z else pin D a b r j k) :=
            ⟨HG.out.1, HG.out.2, HF.out.1.below HG.out.2 HF.out.1.ltF HF.out.1.ltT, fun k => by rw [hz]; exact pin_step D a b r j k⟩
          rw [← hp] at hco
          clear hp hy hz HG
          obtain ⟨s, hs⟩ : ∃ s : Nat, s = r + j := ⟨_, rfl⟩
          have w1' : IntKind.i64.wrap ((r : Int) + (j : Int)) = (s : Int) := wrap_to (by omega) (by omega)
          have hsb : (s : Int) < (N : Int) := by have := HN.out; omega
          rw [← hs] at hco hfo HV
          clear hs
          go_wp2
          refine quiet_tail 17 (by kernel_rfl) (by kernel_rfl) ?_
          simp only [List.take_succ_cons, List.take_zero, List.drop_succ_cons, List.drop_zero]
          repeat (go_big_quiet_step (first | (go_at_call 20; exact Calls.quiet_of (HC1.out _)) | (go_at_call 19; exact Calls.quiet_of (HC2.out _))))
          refine wpQuiet_nil ?_
          intro _ hw'
          obtain ⟨nq, hw''⟩ := hw'
          subst hw''
          go_wp2
          go_roundw
          case rel => exact ⟨j + 1, by omega, by go_num, (HV.out.1.drewN nq).store s z (fun k _ => HV.out.2.2.2 k), (below_drewN2 HV.out.2.1 nq).setCell (by simp) _⟩
          case measure => simp [intOf]; omega
        · have HE : Hid (Row w.heap.size N (pmul D (r + 1) a b) wr) := by
            show Row _ _ _ _
            have h := HG.out.1
            rw [show j = m from by omega, pin_all (fld HF.out.2.1) HF.out.2.2.2.2.2.2 r] at h; exact h
          go_wp2
          go_roundw
          case rel => exact ⟨r + 1, by omega, by go_num, HE.out, HG.out.2⟩
          case measure => simp [intOf]; omega
    · have e : r = n := by omega
      subst e
      go_wp2_with fail
      refine (trim_any (HG.out.1.sl (Nat.le_refl _)) (Nat.le_refl _) (by omega)).mono ?_
      rintro e w' ⟨rfl, k, rfl⟩
      go_wp2
      go_ret
      exact ⟨rfl, HG.out.1.drewN _, below_drewN2 HG.out.2 _⟩
end Go.Proofs.Ytcgmllamiaflcaa

/- Lists that are copied: append(.., l...), copy, Clone, Copy; the program's sums of polynomials. -/
namespace Go.Proofs.Ytcgmllamiaflcaa
open Go.RowKit

/-- The n coefficients c as cells. -/
def celL (n : Nat) (c : Nat → Nat) : List Value := (List.range n).map fun k => .int .i64 (c k : Nat)
theorem celL_len (n : Nat) (c : Nat → Nat) : (celL n c).length = n := by simp [celL]
theorem celL_get (n : Nat) (c : Nat → Nat) (j : Nat) (hj : j < n) : (celL n c)[j]? = some (.int .i64 (c j : Nat)) := by
  unfold celL
  rw [List.getElem?_map, List.getElem?_range hj]; rfl
theorem celL_one (n : Nat) (c : Nat → Nat) : ∀ u ∈ celL n c, u.oneCell' = true := by
  intro u hu
  unfold celL at hu
  obtain ⟨k, _, rfl⟩ := List.mem_map.1 hu
  rfl
theorem add_off (b off j : Nat) : (Addr.mk b off none).add j = ⟨b, off + j, none⟩ := by simp [Addr.add]

/-- 'copy(out, l)', out a row of the call's own, at least as long as l. -/
theorem copy_int {ops : Array Oper} {rest : List Oper} {o : Oper} {a : Act} {w : World} {Q : Exit → Act → World → Prop} (hgd : o.guard = none) (d s : Operand)
    (ho : o.op = .call { callee := .builtin .copy, args := #[d, s], argTypes := #[22, 22] }) (g N dc n sc : Nat) (ao : Option Addr)
    (hd : a.eval d = .slice (some ⟨g, 0, none⟩) N dc) (hs : a.eval s = .slice ao n sc) (c x : Nat → Nat) (hrow : Row g N c w) (hS : Sl ao n x w) (hn : n ≤ N)
    (B : Nat) (w0 : World) (hb : Below B w0 w) (hBg : B ≤ g)
    (h : ∀ w', Row g N (fun k => if k < n then x k else c k) w' → Below B w0 w' → wpList Try.prog ops Q rest (a.put o.dst (goInt n)) w') : wpList Try.prog ops Q (o :: rest) a w := by
  obtain ⟨cap, f, hf, hN, he⟩ := hrow
  obtain ⟨cs, h1, h2, h3⟩ := hf
  obtain ⟨i0, hi, hz0, hz1, hz2⟩ := info_parts Try.infoInt
  have hh : w.heap[g]? = some (.cells cs.toList.toArray 3 (0, 0)) := by simpa using h1
  refine wpList_copy_splice hgd d s 22 22 ho 3 Try.underlying22 (by rw [hi]; simp [hz1]) _ _ N dc n sc hd hs g 0 cs.toList 3 hh (celL n x) (by rw [celL_len]; exact (Nat.min_eq_left hn).symm) ?_ (by rw [celL_len]; simp; omega) (celL_one n x) B w0 hb hBg ?_
  · intro h0
    rw [celL_len] at h0
    obtain ⟨b, off, rfl, _⟩ := hS 0 h0
    refine ⟨rfl, _, rfl, fun j v hj => ?_⟩
    have hj' : j < n := by
      have := (List.getElem?_eq_some_iff.1 hj).1
      rwa [celL_len] at this
    rw [celL_get n x j hj'] at hj
    cases hj
    obtain ⟨b', off', e, hc⟩ := hS j hj'
    cases e
    rw [add_off]; exact hc
  · intro w' hg' hb'
    rw [celL_len]
    refine h w' ?_ hb'
    have hlen : (splice cs.toList 0 (celL n x)).length = cap := by rw [length_splice _ _ _ (by rw [celL_len]; simp; omega)]; simpa using h2
    refine ⟨cap, fun k => if k < n then .int .i64 (x k : Nat) else f k, ⟨(splice cs.toList 0 (celL n x)).toArray, hg'.out, by simpa using hlen, fun k hk => ?_⟩, hN, fun k hk => ?_⟩
    · show _ = some (if k < n then _ else f k)
      unfold splice
      rw [List.getElem?_toArray, List.take_zero, List.nil_append, celL_len, Nat.zero_add]
      by_cases e : k < n
      · rw [List.getElem?_append_left (by rw [celL_len]; exact e), celL_get n x k e, if_pos e]
      · rw [List.getElem?_append_right (by rw [celL_len]; omega), celL_len, List.getElem?_drop, show n + (k - n) = k from by omega, Array.getElem?_toList, h3 k hk, if_neg e]
    · show (if k < n then _ else f k) = .int .i64 ((if k < n then x k else c k : Nat) : Int)
      by_cases e : k < n
      · rw [if_pos e, if_pos e]
      · rw [if_neg e, if_neg e]; exact he k hk

end Go.Proofs.Ytcgmllamiaflcaa

/- Clone, Copy; the program's sums of polynomials. -/
namespace Go.Proofs.Ytcgmllamiaflcaa
open Go.RowKit

end Go.Proofs.Ytcgmllamiaflcaa

/- The program's sums of polynomials. -/
namespace Go.Proofs.Ytcgmllamiaflcaa
open Go.RowKit

set_option maxHeartbeats 4000000 in
set_option maxRecDepth 100000 in
theorem psum_any {F T : Nat} {D : FD} (hD : D ∈ fieldsL) {g : Nat → Value} {w : World} (h : FAt F T D g w) {ao bo : Option Addr} {n m ca cb : Nat} {a b : Nat → Nat} (hn : n ≤ 1000) (hm : m ≤ 1000) (ha : El D a) (hb : El D b) (hbn : Bd n a) (hbm : Bd m b) (hA : Sl ao n a w) (hB : Sl bo m b w) (hla : LtB ao w.heap.size) (hlb : LtB bo w.heap.size) :
    Calls Try.prog 80 #[.pointer (some ⟨F, 0, none⟩), .slice ao n ca, .slice bo m cb] w fun e w' =>
      ∃ v, e = .returned v ∧ OwnP w.heap.size v (dgn (padd D a b) (max n m)) (padd D a b) w' ∧ Below w.heap.size w w' := by
  have HF : Hid (FAt F T D g w ∧ D ∈ fieldsL ∧ Sl ao n a w ∧ Sl bo m b w ∧ El D a ∧ El D b ∧ Bd n a ∧ Bd m b) := ⟨h, hD, hA, hB, ha, hb, hbn, hbm⟩
  have HL : Hid (LtB ao w.heap.size ∧ LtB bo w.heap.size) := ⟨hla, hlb⟩
  clear h hD hA hB ha hb hbn hbm hla hlb
  obtain ⟨N, hN⟩ : ∃ N, N = max n m := ⟨_, rfl⟩
  rw [← hN]
  have hN2 : N ≤ 1000 := by omega
  have hnN : n ≤ N := by omega
  have hmN : m ≤ N := by omega
  have hmax : (if (n : Int) < (m : Int) then (m : Int) else (n : Int)) = (N : Int) := by split <;> omega
  have HN : Hid (N = max n m) := hN
  clear hN
  go_enter Try.func80, Try.ntmps80
  go_wp2_with (first
    | (at_make; refine make_int rfl _ _ rfl _ N rfl rfl (by have := HN.out; omega) (by omega) ?_; intro w1 hown1 hgrow1)
    | (show wpList _ _ _ (Oper.mk (some 18) _ _ _ _ _ :: _) _ _; (refine copy_int rfl _ _ rfl w.heap.size N N n ca ao rfl rfl pnil a (row_zeros hown1) (HF.out.2.2.1.below (below_grown hgrow1 (Nat.le_refl _) (fun k hk => by simp at hk)) HL.out.1) hnN w.heap.size w (below_grown hgrow1 (Nat.le_refl _) (fun k hk => by simp at hk)) (Nat.le_refl _) ?_); intro w2 hrow2 hb2))
  all_goals
    have HB1 : Hid (Below w.heap.size w w2 ∧ Row w.heap.size N a w2) := ⟨hb2, hrow2.congr (fun k _ => by show (if k < n then a k else pnil k) = a k; split; rfl; exact (HF.out.2.2.2.2.2.2.1 k (by omega)).symm)⟩
    clear hown1 hgrow1 hb2 hrow2
    go_loopw [21] (fun i wr => ∃ r : Nat, r ≤ m ∧ i = .int .i64 r ∧ Row w.heap.size N (fun k => if k < r then D.ad (a k) (b k) else a k) wr ∧ Below w.heap.size w wr) (fun i _ => m - (intOf i).toNat)
    case atStart => exact ⟨0, by omega, rfl, HB1.out.2.congr (fun k _ => by rw [if_neg (by omega)]), HB1.out.1⟩
    case round =>
      obtain ⟨r, hr, rfl, hrow, hbel⟩ := hrel
      have HG : Hid (Row w.heap.size N (fun k => if k < r then D.ad (a k) (b k) else a k) wr ∧ Below w.heap.size w wr) := ⟨hrow, hbel⟩
      clear hrow hbel
      by_cases hlt : r < m
      · obtain ⟨bb, offb, rfl, hcb⟩ := (HF.out.2.2.2.1.below HG.out.2 HL.out.2) r hlt
        have hco : wr.cell? ⟨w.heap.size, r, none⟩ = some (.int .i64 (a r : Nat)) := by
          have h := HG.out.1.cell r (by omega)
          rw [if_neg (by omega)] at h; exact h
        have hfo := HG.out.1.free r
        obtain ⟨z, hz⟩ : ∃ z, z = D.ad (a r) (b r) := ⟨_, rfl⟩
        have HC2 : Hid (Calls Try.prog 19 #[.pointer (some ⟨F, 0, none⟩), .int .i64 (a r : Nat), .int .i64 (b r : Nat)] wr fun e w' => e = .returned (.int .i64 (z : Nat)) ∧ ∃ k, w' = wr.drewN k) := by
          show Calls _ _ _ _ _
          rw [hz]; exact add_nat HF.out.2.1 (HF.out.1.below HG.out.2 HF.out.1.ltF HF.out.1.ltT) (HF.out.2.2.2.2.1 r) (HF.out.2.2.2.2.2.1 r)
        have HV : Hid (Row w.heap.size N (fun k => if k < r then D.ad (a k) (b k) else a k) wr ∧ Below w.heap.size w wr ∧ ∀ k, k < N → (if k < r + 1 then D.ad (a k) (b k) else a k) = if k = r then z else if k < r then D.ad (a k) (b k) else a k) :=
          ⟨HG.out.1, HG.out.2, fun k _ => by
            rw [hz]
            by_cases e : k = r
            · rw [if_pos e, if_pos (by omega), e]
            · rw [if_neg e]
              by_cases e2 : k < r
              · rw [if_pos e2, if_pos (by omega)]
              · rw [if_neg e2, if_neg (by omega)]⟩
        clear hz HG
        have hib : (r : Int) < (N : Int) := by omega
        go_wp2_with (go_at_call 19; refine HC2.out.mono ?_; rintro e w' ⟨rfl, nq, rfl⟩)
        go_roundw
        case rel => exact ⟨r + 1, by omega, by go_num, (HV.out.1.drewN nq).store r z (fun k hk => HV.out.2.2 k hk), (below_drewN2 HV.out.2.1 nq).setCell (by simp) _⟩
        case measure => simp [intOf]; omega
      · have HE : Hid (Row w.heap.size N (padd D a b) wr) := HG.out.1.congr (fun k _ => by
          show (if k < r then D.ad (a k) (b k) else a k) = D.ad (a k) (b k)
          split
          · rfl
          · rw [HF.out.2.2.2.2.2.2.2 k (by omega), ad_zero (fld HF.out.2.1) (HF.out.2.2.2.2.1 k)])
        go_wp2_with fail
        refine (trim_any (HE.out.sl (Nat.le_refl _)) (Nat.le_refl _) (by omega)).mono ?_
        rintro e w' ⟨rfl, k, rfl⟩
        go_wp2
        go_ret
        exact ⟨_, rfl, OwnP.of_row (HE.out.drewN k) (dgn_le _ _) (dgn_le _ _) (by omega) (Nat.le_refl _), below_drewN2 HG.out.2 _⟩
end Go.Proofs.Ytcgmllamiaflcaa

/- The program's division of polynomials. -/
namespace Go.Proofs.Ytcgmllamiaflcaa
open Go.RowKit

theorem inv_nat' {F T : Nat} {D : FD} (hD : D ∈ fieldsL) {g : Nat → Value} {w : World} (h : FAt F T D g w) {x : Nat} (hx : x < D.q) (h0 : x ≠ 0) :
    Calls Try.prog 66 #[.pointer (some ⟨F, 0, none⟩), .int .i64 x] w fun e w' => e = .returned (.int .i64 (D.iv x : Nat)) ∧ ∃ n, w' = w.drewN n := by
  have k := inv_any hD h x
  rw [inv_nat hD hx h0] at k
  exact k
theorem OwnP.store {base n cap g : Nat} {c d : Nat → Nat} {w : World} (h : OwnP base (.slice (some ⟨g, 0, none⟩) n cap) n c w) (k u : Nat) (h0 : 0 < n) (hd : ∀ j, j < n → d j = if j = k then u else c j) :
    OwnP base (.slice (some ⟨g, 0, none⟩) n cap) n d (w.setCell ⟨g, k, none⟩ (.int .i64 (u : Nat))) := by
  obtain ⟨ao, cap', hv, h1, h2, hg, hl, hz, hr⟩ := h
  simp only [Value.slice.injEq, true_and] at hv
  obtain ⟨rfl, rfl⟩ := hv
  obtain ⟨g', e, hrow⟩ := hr h0
  cases e
  exact ⟨_, cap, rfl, h1, h2, hg, fun x hx => by simpa [World.setCell] using hl x hx, fun e => (by cases e), fun _ => ⟨g, rfl, hrow.store k u hd⟩⟩

theorem OwnP.row {base n cap : Nat} {ao : Option Addr} {c : Nat → Nat} {w : World} (h : OwnP base (.slice ao n cap) n c w) (h0 : 0 < n) : ∃ g, ao = some ⟨g, 0, none⟩ ∧ base ≤ g ∧ g < w.heap.size ∧ Row g n c w := by
  obtain ⟨ao', cap', hv, h1, h2, hg, hl, hz, hr⟩ := h
  simp only [Value.slice.injEq, true_and] at hv
  obtain ⟨rfl, rfl⟩ := hv
  obtain ⟨g, rfl, hrow⟩ := hr h0
  exact ⟨g, rfl, hg _ rfl, hl _ rfl, hrow⟩

end Go.Proofs.Ytcgmllamiaflcaa

/- The program's division of polynomials: the walk. -/
namespace Go.Proofs.Ytcgmllamiaflcaa
open Go.RowKit

end Go.Proofs.Ytcgmllamiaflcaa
