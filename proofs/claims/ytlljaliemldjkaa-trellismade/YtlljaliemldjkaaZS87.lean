/- Texts of ours, one behind the other: S87 KV25 KV26. -/
import Derived.Test.YtlljaliemldjkaaZS85
import Derived.Laws.FloatArith
import Derived.Test.YtlljaliemldjkaaZKV24
/- Quotients of numbers as floats: they are numbers. -/
namespace Go.Proofs.Ytlljaliemldjkaa

theorem inf_d : Ieee.double.infRung = 2047 * 4503599627370496 := by decide +kernel
theorem bin_d : Ieee.double.binade = 4503599627370496 := by decide +kernel
theorem sgw_d : Ieee.double.signWeight = 9223372036854775808 := by decide +kernel
theorem lpl_d : Ieee.double.leastPlace = -1074 := by decide +kernel
theorem word_f (r : Nat) : Ieee.double.word false r = r := by unfold Ieee.Format.word; rw [if_neg Bool.false_ne_true]
theorem cut_le (n drop : Nat) : Ieee.Toward.even.cut false n drop ≤ n + 1 := by
  unfold Ieee.Toward.cut
  have h1 : n / (1 <<< min drop (n.log2 + 2)) ≤ n := Nat.div_le_self _ _
  have h2 : ∀ q : Bool, q.toNat ≤ 1 := fun q => by cases q <;> decide
  exact Nat.add_le_add h1 (h2 _)
theorem near_rung {m : Nat} (h1 : 1 ≤ m) (h2 : m ≤ 576460752303423488) : ∃ r, 0 < r ∧ r < Ieee.double.infRung ∧ Ieee.double.nearest false m 0 = r := by
  have hL : m.log2 < 60 := (Nat.log2_lt (by omega)).2 (by omega)
  have hlt : m < 2 ^ (m.log2 + 1) := Nat.lt_log2_self
  have hlast : max ((0 : Int) + (m.log2 : Nat) - (Ieee.double.fractionBits : Nat)) Ieee.double.leastPlace = (m.log2 : Nat) - 52 := by
    have : Ieee.double.fractionBits = 52 := rfl
    rw [lpl_d, this]; omega
  unfold Ieee.Format.nearest
  rw [if_neg (by omega)]
  show ∃ r, 0 < r ∧ r < Ieee.double.infRung ∧ Ieee.double.word false (min ((max ((0 : Int) + (m.log2 : Nat) - (Ieee.double.fractionBits : Nat)) Ieee.double.leastPlace - Ieee.double.leastPlace).toNat * Ieee.double.binade + Ieee.Toward.even.cut false (m <<< (0 - max ((0 : Int) + (m.log2 : Nat) - (Ieee.double.fractionBits : Nat)) Ieee.double.leastPlace).toNat) (max ((0 : Int) + (m.log2 : Nat) - (Ieee.double.fractionBits : Nat)) Ieee.double.leastPlace - 0).toNat) Ieee.double.infRung) = r
  rw [hlast, lpl_d, bin_d, inf_d]
  obtain ⟨kp, hkp⟩ : ∃ kp, kp = Ieee.Toward.even.cut false (m <<< (0 - (((m.log2 : Nat) : Int) - 52)).toNat) ((((m.log2 : Nat) : Int) - 52) - 0).toNat := ⟨_, rfl⟩
  have hk : kp ≤ 576460752303423489 := by
    rw [hkp]
    refine Nat.le_trans (cut_le _ _) ?_
    by_cases h : 52 ≤ m.log2
    · rw [show (0 - (((m.log2 : Nat) : Int) - 52)).toNat = 0 by omega, Nat.shiftLeft_zero]; omega
    · have e : (0 - (((m.log2 : Nat) : Int) - 52)).toNat = 52 - m.log2 := by omega
      rw [e, Nat.shiftLeft_eq]
      have h3 : m * 2 ^ (52 - m.log2) ≤ 2 ^ (m.log2 + 1) * 2 ^ (52 - m.log2) := Nat.mul_le_mul_right _ (Nat.le_of_lt hlt)
      rw [← Nat.pow_add, show m.log2 + 1 + (52 - m.log2) = 53 by omega] at h3
      omega
  rw [← hkp]
  have e : (((m.log2 : Nat) : Int) - 52 - -1074).toNat = m.log2 + 1022 := by omega
  rw [e, word_f]
  clear hkp hlast hlt
  refine ⟨_, ?_, ?_, rfl⟩
  · omega
  · omega
theorem read_num {r : Nat} (h0 : 0 < r) (h1 : r < Ieee.double.infRung) : ∃ mg pl, 0 < mg ∧ Ieee.double.read r = .number false mg pl := by
  rw [inf_d] at h1
  unfold Ieee.Format.read
  rw [sgw_d, bin_d, inf_d]
  have e1 : r / 9223372036854775808 = 0 := Nat.div_eq_of_lt (by omega)
  have e2 : r % 9223372036854775808 = r := Nat.mod_eq_of_lt (by omega)
  rw [e1, e2]
  by_cases h : r < 4503599627370496
  · exact ⟨r, Ieee.double.leastPlace, h0, by simp [h]⟩
  · exact ⟨_, _, Nat.lt_of_lt_of_le (by decide) (Nat.le_add_right 4503599627370496 (r % 4503599627370496)), by simp only [h, if_false]; rw [if_pos (by omega)]; rfl⟩
theorem order_self {r : Nat} (neg : Bool) (h : r ≤ Ieee.double.infRung) : Ieee.double.order (Ieee.double.word neg r) (Ieee.double.word neg r) = some .eq := by
  rw [inf_d] at h
  unfold Ieee.Format.order
  have hr : Ieee.double.word neg r % 9223372036854775808 = r := by
    unfold Ieee.Format.word
    rw [sgw_d]
    cases neg
    · rw [if_neg Bool.false_ne_true]; exact Nat.mod_eq_of_lt (by omega)
    · rw [if_pos rfl]; omega
  have hd : ∀ d : Ieee.Datum, d.isNaN = false → d.order d = some .eq := fun d hd => by
    cases d with
    | number s m i => unfold Ieee.Datum.order; simp
    | infinity s => unfold Ieee.Datum.order; simp
    | nan s t => cases hd
  refine hd _ ?_
  unfold Ieee.Format.read
  rw [sgw_d, bin_d, inf_d, hr]
  by_cases h1 : r < 4503599627370496
  · simp only [h1, if_true]; rfl
  · simp only [h1, if_false]
    by_cases h2 : r < 2047 * 4503599627370496
    · rw [if_pos h2]; rfl
    · rw [if_neg h2, if_pos (by omega)]; rfl
/-- The word of a number or an infinity stands by itself. -/
theorem write_self (d : Ieee.Datum) (h : d.isNaN = false) : Ieee.double.order (Ieee.double.write d) (Ieee.double.write d) = some .eq := by
  cases d with
  | number s m i =>
    show Ieee.double.order (Ieee.double.nearest s m i) (Ieee.double.nearest s m i) = some .eq
    unfold Ieee.Format.nearest
    split
    · exact order_self s (Nat.zero_le _)
    · exact order_self s (Nat.min_le_right _ _)
  | infinity s => exact order_self s (Nat.le_refl _)
  | nan s t => cases h
/-- The quotient of a number by one that is not 0, as floats. -/
theorem quo_num {x y : Nat} (hx : x ≤ 576460752303423488) (hy : 1 ≤ y) (hy2 : y ≤ 576460752303423488) : ∃ r, Ieee.double.div (Ieee.double.nearest false x 0) (Ieee.double.nearest false y 0) = some r ∧ Ieee.double.order r r = some .eq := by
  obtain ⟨ry, hy0, hyi, hye⟩ := near_rung hy hy2
  obtain ⟨my, py, hmy, hyr⟩ := read_num hy0 hyi
  have hxr : ∃ mx px, Ieee.double.read (Ieee.double.nearest false x 0) = .number false mx px := by
    by_cases h : x = 0
    · subst h
      exact ⟨0, -1074, by decide +kernel⟩
    · obtain ⟨rx, hx0, hxi, hxe⟩ := near_rung (show 1 ≤ x by omega) hx
      obtain ⟨mx, px, _, e⟩ := read_num hx0 hxi
      exact ⟨mx, px, by rw [hxe]; exact e⟩
  obtain ⟨mx, px, hxr⟩ := hxr
  unfold Ieee.Format.div
  rw [hxr, hye, hyr]
  unfold Ieee.Datum.quotient
  show ∃ r, Option.map Ieee.double.write (if my = 0 then _ else _) = some r ∧ _
  rw [if_neg (by omega)]
  exact ⟨_, rfl, write_self _ rfl⟩
end Go.Proofs.Ytlljaliemldjkaa

/- Trellises: Odds. -/
namespace Go.Proofs.Ytlljaliemldjkaa
open Go.RowKit Go.Sort

theorem Try.infoFlt : (Try.prog.info? 57).map (fun i => (i.zero, i.size, i.bytes)) = some (some (.float .f64 0), 1, 8) := by kernel_rfl
/-- 'make([]float64, n)'. -/
theorem make_flt {ops : Array Oper} {rest : List Oper} {o : Oper} {a : Act} {w : World} {Q : Exit → Act → World → Prop}
    (hg : o.guard = none) (l c : Operand) (hop : o.op = Op.makeSlice 54 l c) (C : Int) (n : Nat) (hl : a.eval l = .int .i64 C) (hc : a.eval c = .int .i64 C) (hC : C = (n : Int)) (hn : n ≤ 1000000)
    (hK : ∀ w', RowF w.heap.size n 57 (fun _ => .float .f64 0) w' → w.grownBy w' none → wpList Try.prog ops Q rest (a.put o.dst (.slice (some ⟨w.heap.size, 0, none⟩) n n)) w') :
    wpList Try.prog ops Q (o :: rest) a w := by
  obtain ⟨i0, hi, hz0, hz1, hz2⟩ := info_parts Try.infoFlt
  refine wpList_make_full w hg l c 54 hop w.heap.size 57 i0 (.float .f64 0) 1 Try.underlying54 hi hz0 hz1 .i64 .i64 C C n hl hc hC hC (by rw [hz2]; omega) (by unfold maxLen; omega) (Nat.le_refl _) ?_
  intro w' hown hgrow
  refine hK w' ?_ hgrow
  have e : (madeCells (Value.float .f64 0).cells (n * 1)).toList = List.replicate n (.float .f64 0) := by
    rw [Nat.mul_one]; exact toList_madeCells_one _ _
  rw [e] at hown
  rcases hown.2 with ⟨h1, _⟩ | ⟨g, cap, cur, hv, hg, hh, hle, hcm, hsz, htake⟩
  · cases h1
  · simp only [Value.slice.injEq, Option.some.injEq, Addr.mk.injEq, and_true, true_and] at hv
    obtain ⟨rfl, rfl⟩ := hv
    refine ⟨cur, hh, by omega, fun k hk => ?_⟩
    have h3 : (cur.toList.take (n * 1))[k]? = (List.replicate n (Value.float .f64 0))[k]? := by rw [htake]
    rw [List.getElem?_take, if_pos (by omega), List.getElem?_replicate, if_pos hk, Array.getElem?_toList] at h3
    exact h3

set_option maxHeartbeats 4000000 in
set_option maxRecDepth 100000 in
theorem todds_e {E : Int} (hE : E ≠ 0) {ao so : Option Addr} {R ca l sc : Nat} {a b : Int} {w : World} (hC : Calls Try.prog 24 #[.slice ao R ca, .slice so l sc, .int .i64 a, .int .i64 b] w fun e w' => e = .returned (.tuple #[.slice none 0 0, .int .i64 0, .int .i64 E]) ∧ Below w.heap.size w w') :
    Calls Try.prog 34 #[.slice ao R ca, .slice so l sc, .int .i64 a, .int .i64 b] w fun e w' => e = .returned (.tuple #[.slice none 0 0, .int .i64 E]) ∧ Below w.heap.size w w' := by
  have HC : Hid (Calls Try.prog 24 #[.slice ao R ca, .slice so l sc, .int .i64 a, .int .i64 b] w fun e w' => e = .returned (.tuple #[.slice none 0 0, .int .i64 0, .int .i64 E]) ∧ Below w.heap.size w w') := hC
  have hz : (E != 0) = true := bne_iff_ne.2 hE
  clear hC
  go_enter Try.func34, Try.ntmps34
  go_wp2_with fail
  refine HC.out.mono ?_
  rintro e w1 ⟨rfl, hb1⟩
  have H1 : Hid (Below w.heap.size w w1) := hb1
  clear hb1
  go_wp2
  go_ret2
  exact ⟨rfl, H1.out⟩
set_option maxHeartbeats 4000000 in
set_option maxRecDepth 100000 in
theorem todds_z {ao so : Option Addr} {R ca l sc N : Nat} {a b : Int} {o : Nat → Nat} {w : World} (hC : Calls Try.prog 24 #[.slice ao R ca, .slice so l sc, .int .i64 a, .int .i64 b] w fun e w' => ∃ v, e = .returned (.tuple #[v, .int .i64 0, .int .i64 0]) ∧ OwnI w.heap.size v (zl N fun j => ((o j : Nat) : Int)) w' ∧ Below w.heap.size w w') :
    Calls Try.prog 34 #[.slice ao R ca, .slice so l sc, .int .i64 a, .int .i64 b] w fun e w' => e = .returned (.tuple #[.slice none 0 0, .int .i64 5]) ∧ Below w.heap.size w w' := by
  have HC : Hid (Calls Try.prog 24 #[.slice ao R ca, .slice so l sc, .int .i64 a, .int .i64 b] w fun e w' => ∃ v, e = .returned (.tuple #[v, .int .i64 0, .int .i64 0]) ∧ OwnI w.heap.size v (zl N fun j => ((o j : Nat) : Int)) w' ∧ Below w.heap.size w w') := hC
  clear hC
  go_enter Try.func34, Try.ntmps34
  go_wp2_with fail
  refine HC.out.mono ?_
  rintro e w1 ⟨v, rfl, _, hb1⟩
  have H1 : Hid (Below w.heap.size w w1) := hb1
  clear hb1
  go_wp2
  go_ret2
  exact ⟨rfl, H1.out⟩
end Go.Proofs.Ytlljaliemldjkaa

/- Trellises: Odds, where there are some. -/
namespace Go.Proofs.Ytlljaliemldjkaa
open Go.RowKit Go.Sort

/-- A quotient, as a float. -/
def qfl (x y : Nat) : Nat := (Ieee.double.div (Ieee.double.nearest false x 0) (Ieee.double.nearest false y 0)).getD 0
theorem qfl_ok {x y : Nat} (hx : x ≤ 576460752303423488) (hy : 1 ≤ y) (hy2 : y ≤ 576460752303423488) : Ieee.double.div (Ieee.double.nearest false x 0) (Ieee.double.nearest false y 0) = some (qfl x y) ∧ Ieee.double.order (qfl x y) (qfl x y) = some .eq := by
  obtain ⟨r, h1, h2⟩ := quo_num hx hy hy2
  unfold qfl
  rw [h1]
  exact ⟨rfl, h2⟩
theorem near_int (x : Nat) : floatOfInt .f64 ((x : Nat) : Int) = Ieee.double.nearest false x 0 := by
  show Ieee.double.nearest (decide (((x : Nat) : Int) < 0)) ((x : Nat) : Int).natAbs 0 = _
  rw [decide_eq_false (by omega), Int.natAbs_natCast]

set_option maxHeartbeats 8000000 in
set_option maxRecDepth 100000 in
theorem todds_ok {ao so : Option Addr} {R ca l sc N al : Nat} {a b : Int} {o : Nat → Nat} {w : World} (hN : N ≤ 20) (hal : 1 ≤ al) (hal2 : al ≤ 576460752303423488) (ho : ∀ j, j < N → o j ≤ 576460752303423488) (hC : Calls Try.prog 24 #[.slice ao R ca, .slice so l sc, .int .i64 a, .int .i64 b] w fun e w' => ∃ v, e = .returned (.tuple #[v, .int .i64 (al : Nat), .int .i64 0]) ∧ OwnI w.heap.size v (zl N fun j => ((o j : Nat) : Int)) w' ∧ Below w.heap.size w w') :
    Calls Try.prog 34 #[.slice ao R ca, .slice so l sc, .int .i64 a, .int .i64 b] w fun e w' => ∃ g, e = .returned (.tuple #[.slice (some ⟨g, 0, none⟩) N N, .int .i64 0]) ∧ RowF g N 57 (fun j => .float .f64 (qfl (o j) al)) w' ∧ w.heap.size ≤ g ∧ Below w.heap.size w w' := by
  have HC : Hid (Calls Try.prog 24 #[.slice ao R ca, .slice so l sc, .int .i64 a, .int .i64 b] w fun e w' => ∃ v, e = .returned (.tuple #[v, .int .i64 (al : Nat), .int .i64 0]) ∧ OwnI w.heap.size v (zl N fun j => ((o j : Nat) : Int)) w' ∧ Below w.heap.size w w') := hC
  have HO : Hid (∀ j, j < N → o j ≤ 576460752303423488) := ho
  have hz : ((al : Int) == 0) = false := beq_eq_false_iff_ne.2 (by omega)
  have hna := near_int al
  clear hC ho
  go_enter Try.func34, Try.ntmps34
  go_wp2_with fail
  refine HC.out.mono ?_
  rintro e w1 ⟨v, rfl, ho1, hb1⟩
  obtain ⟨vo, vc, rfl, hs1, hlt1⟩ := OwnI.slz ho1
  have H1 : Hid (SlZ vo N (fun j => ((o j : Nat) : Int)) w1 ∧ LtB vo w1.heap.size ∧ Below w.heap.size w w1) := ⟨hs1, hlt1, hb1⟩
  clear ho1 hs1 hlt1 hb1
  go_wp2_with (at_make; refine make_flt rfl _ _ rfl _ N rfl rfl rfl (by omega) ?_; intro w2 hrow2 hgrow2)
  have hb2 : Below w1.heap.size w1 w2 := below_grown hgrow2 (Nat.le_refl _) (fun k hk => by simp at hk)
  obtain ⟨g, hg⟩ : ∃ g, g = w1.heap.size := ⟨_, rfl⟩
  rw [← hg] at hrow2
  rw [← hg]
  have H2 : Hid (SlZ vo N (fun j => ((o j : Nat) : Int)) w2 ∧ RowF g N 57 (fun _ => .float .f64 0) w2 ∧ Below w.heap.size w w2 ∧ w.heap.size ≤ g ∧ LtB vo g) := ⟨H1.out.1.below hb2 H1.out.2.1, hrow2, bel_up' H1.out.2.2 hb2, by rw [hg]; exact H1.out.2.2.size, by rw [hg]; exact H1.out.2.1⟩
  clear hrow2 hgrow2 hb2 hg H1
  go_loopw [35] (fun vi wr => ∃ i : Nat, vi = .int .i64 (i : Nat) ∧ i ≤ N ∧ Hid (SlZ vo N (fun j => ((o j : Nat) : Int)) wr ∧ RowF g N 57 (fun j => if j < i then .float .f64 (qfl (o j) al) else .float .f64 0) wr ∧ Below w.heap.size w wr)) (fun vi _ => N - (intOf vi).toNat)
  case atStart => exact ⟨0, rfl, by omega, H2.out.1, H2.out.2.1, H2.out.2.2.1⟩
  case round =>
    obtain ⟨i, rfl, hi, HI⟩ := hrel
    rename World => wr
    by_cases hlt : i < N
    · have hib : (i : Int) < (N : Int) := by omega
      have hib0 : (0 : Int) ≤ (i : Int) := by omega
      obtain ⟨bv, ov, e1, hcv⟩ := HI.out.1 i hlt
      subst e1
      obtain ⟨x, hx⟩ : ∃ x, x = o i := ⟨_, rfl⟩
      replace hcv : wr.cell? ⟨bv, ov + i, none⟩ = some (.int .i64 (x : Nat)) := by rw [hx]; exact hcv
      have hnx := near_int x
      have hq := (qfl_ok (x := x) (y := al) (by rw [hx]; exact HO.out i hlt) hal hal2).1
      have hcf : wr.cell? ⟨g, i, none⟩ = some (.float .f64 0) := by
        have h := RowF.cell HI.out.2.1 i hlt
        rw [if_neg (by omega)] at h
        exact h
      have hfr := RowF.free HI.out.2.1 i
      have hru := fun w' : World => run_float_arith (P := Try.prog) w' .quo 57 .f64 (Ieee.double.nearest false x 0) (Ieee.double.nearest false al 0) (qfl x al) hq
      obtain ⟨ws, hws⟩ : ∃ ws, ws = wr.setCell ⟨g, i, none⟩ (.float .f64 (qfl x al)) := ⟨_, rfl⟩
      have HS : Hid (SlZ (some ⟨bv, ov, none⟩) N (fun j => ((o j : Nat) : Int)) ws ∧ RowF g N 57 (fun j => if j < i + 1 then .float .f64 (qfl (o j) al) else .float .f64 0) ws ∧ Below w.heap.size w ws) := by
        rw [hws]
        have hbg : bv < g := H2.out.2.2.2.2 _ rfl
        refine ⟨fun j hj => ?_, RowF.congr (RowF.store HI.out.2.1 i _) (fun j hj => ?_), HI.out.2.2.setCell H2.out.2.2.2.1 _⟩
        · obtain ⟨b', o', e', h'⟩ := HI.out.1 j hj
          cases e'
          refine ⟨_, _, rfl, ?_⟩
          have e := Below.heap_setCell wr ⟨g, i, none⟩ (.float .f64 (qfl x al)) bv (by show bv ≠ g; omega)
          unfold World.cell? at h' ⊢
          rw [e]; exact h'
        · unfold upd
          by_cases e : j = i
          · rw [if_pos e, if_pos (by omega), e, hx]
          · rw [if_neg e]
            show (if j < i then Value.float .f64 (qfl (o j) al) else .float .f64 0) = _
            by_cases e2 : j < i
            · rw [if_pos e2, if_pos (by omega)]
            · rw [if_neg e2, if_neg (by omega)]
      have hrs := run_store Try.prog wr ⟨g, i, none⟩ (.float .f64 (qfl x al)) .plain rfl
      clear hx hq
      go_wp2
      try rw [← hws]
      go_roundw
      case rel => exact ⟨i + 1, by go_num, by omega, HS.out⟩
      case measure => simp [intOf]; omega
    · have hib : ¬ (i : Int) < (N : Int) := by omega
      have HE : Hid (RowF g N 57 (fun j => .float .f64 (qfl (o j) al)) wr) := RowF.congr HI.out.2.1 (fun j hj => by rw [if_pos (by omega)])
      go_wp2
      go_ret2
      exact ⟨g, rfl, HE.out, H2.out.2.2.2.1, HI.out.2.2⟩
end Go.Proofs.Ytlljaliemldjkaa
