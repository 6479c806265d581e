/- Texts of ours, one behind the other: S87 KV25. -/
import Derived.Test.YtlljaliemldjkaaZS85
import Derived.Laws.FloatArith
import Derived.Test.YtlljaliemldjkaaZKV24
/- Quotients of numbers as floats: they are numbers. -/
namespace Go.Proofs.Ytlljaliemldjkaa

theorem inf_d : Ieee.double.infRung = 2047 * 4503599627370496 := by decide +kernel
theorem bin_d : Ieee.double.binade = 4503599627370496 := by decide +kernel
theorem sgw_d : Ieee.double.signWeight = 9223372036854775808 := by decide +kernel
theorem lpl_d : Ieee.double.leastPlace = -1074 := by decide +kernel
theorem word_f (r : Nat) : Ieee.double.word false r = r := by unfold Ieee.Format.word; rw [if_neg Bool.false_ne_true]
theorem cut_le (n drop : Nat) : Ieee.Toward.even.cut false n drop ≤ n + 1 := by
  unfold Ieee.Toward.cut
  have h1 : n / (1 <<< min drop (n.log2 + 2)) ≤ n := Nat.div_le_self _ _
  have h2 : ∀ q : Bool, q.toNat ≤ 1 := fun q => by cases q <;> decide
  exact Nat.add_le_add h1 (h2 _)
theorem near_rung {m : Nat} (h1 : 1 ≤ m) (h2 : m ≤ 576460752303423488) : ∃ r, 0 < r ∧ r < Ieee.double.infRung ∧ Ieee.double.nearest false m 0 = r := by
  have hL : m.log2 < 60 := (Nat.log2_lt (by omega)).2 (by omega)
  have hlt : m < 2 ^ (m.log2 + 1) := Nat.lt_log2_self
  have hlast : max ((0 : Int) + (m.log2 : Nat) - (Ieee.double.fractionBits : Nat)) Ieee.double.leastPlace = (m.log2 : Nat) - 52 := by
    have : Ieee.double.fractionBits = 52 := rfl
    rw [lpl_d, this]; omega
  unfold Ieee.Format.nearest
  rw [if_neg (by omega)]
  show ∃ r, 0 < r ∧ r < Ieee.double.infRung ∧ Ieee.double.word false (min ((max ((0 : Int) + (m.log2 : Nat) - (Ieee.double.fractionBits : Nat)) Ieee.double.leastPlace - Ieee.double.leastPlace).toNat * Ieee.double.binade + Ieee.Toward.even.cut false (m <<< (0 - max ((0 : Int) + (m.log2 : Nat) - (Ieee.double.fractionBits : Nat)) Ieee.double.leastPlace).toNat) (max ((0 : Int) + (m.log2 : Nat) - (Ieee.double.fractionBits : Nat)) Ieee.double.leastPlace - 0).toNat) Ieee.double.infRung) = r
  rw [hlast, lpl_d, bin_d, inf_d]
  obtain ⟨kp, hkp⟩ : ∃ kp, kp = Ieee.Toward.even.cut false (m <<< (0 - (((m.log2 : Nat) : Int) - 52)).toNat) ((((m.log2 : Nat) : Int) - 52) - 0).toNat := ⟨_, rfl⟩
  have hk : kp ≤ 576460752303423489 := by
    rw [hkp]
    refine Nat.le_trans (cut_le _ _) ?_
    by_cases h : 52 ≤ m.log2
    · rw [show (0 - (((m.log2 : Nat) : Int) - 52)).toNat = 0 by omega, Nat.shiftLeft_zero]; omega
    · have e : (0 - (((m.log2 : Nat) : Int) - 52)).toNat = 52 - m.log2 := by omega
      rw [e, Nat.shiftLeft_eq]
      have h3 : m * 2 ^ (52 - m.log2) ≤ 2 ^ (m.log2 + 1) * 2 ^ (52 - m.log2) := Nat.mul_le_mul_right _ (Nat.le_of_lt hlt)
      rw [← Nat.pow_add, show m.log2 + 1 + (52 - m.log2) = 53 by omega] at h3
      omega
  rw [← hkp]
  have e : (((m.log2 : Nat) : Int) - 52 - -1074).toNat = m.log2 + 1022 := by omega
  rw [e, word_f]
  clear hkp hlast hlt
  refine ⟨_, ?_, ?_, rfl⟩
  · omega
  · omega
theorem read_num {r : Nat} (h0 : 0 < r) (h1 : r < Ieee.double.infRung) : ∃ mg pl, 0 < mg ∧ Ieee.double.read r = .number false mg pl := by
  rw [inf_d] at h1
  unfold Ieee.Format.read
  rw [sgw_d, bin_d, inf_d]
  have e1 : r / 9223372036854775808 = 0 := Nat.div_eq_of_lt (by omega)
  have e2 : r % 9223372036854775808 = r := Nat.mod_eq_of_lt (by omega)
  rw [e1, e2]
  by_cases h : r < 4503599627370496
  · exact ⟨r, Ieee.double.leastPlace, h0, by simp [h]⟩
  · exact ⟨_, _, Nat.lt_of_lt_of_le (by decide) (Nat.le_add_right 4503599627370496 (r % 4503599627370496)), by simp only [h, if_false]; rw [if_pos (by omega)]; rfl⟩
theorem order_self {r : Nat} (neg : Bool) (h : r ≤ Ieee.double.infRung) : Ieee.double.order (Ieee.double.word neg r) (Ieee.double.word neg r) = some .eq := by
  rw [inf_d] at h
  unfold Ieee.Format.order
  have hr : Ieee.double.word neg r % 9223372036854775808 = r := by
    unfold Ieee.Format.word
    rw [sgw_d]
    cases neg
    · rw [if_neg Bool.false_ne_true]; exact Nat.mod_eq_of_lt (by omega)
    · rw [if_pos rfl]; omega
  have hd : ∀ d : Ieee.Datum, d.isNaN = false → d.order d = some .eq := fun d hd => by
    cases d with
    | number s m i => unfold Ieee.Datum.order; simp
    | infinity s => unfold Ieee.Datum.order; simp
    | nan s t => cases hd
  refine hd _ ?_
  unfold Ieee.Format.read
  rw [sgw_d, bin_d, inf_d, hr]
  by_cases h1 : r < 4503599627370496
  · simp only [h1, if_true]; rfl
  · simp only [h1, if_false]
    by_cases h2 : r < 2047 * 4503599627370496
    · rw [if_pos h2]; rfl
    · rw [if_neg h2, if_pos (by omega)]; rfl
/-- The word of a number or an infinity stands by itself. -/
theorem write_self (d : Ieee.Datum) (h : d.isNaN = false) : Ieee.double.order (Ieee.double.write d) (Ieee.double.write d) = some .eq := by
  cases d with
  | number s m i =>
    show Ieee.double.order (Ieee.double.nearest s m i) (Ieee.double.nearest s m i) = some .eq
    unfold Ieee.Format.nearest
    split
    · exact order_self s (Nat.zero_le _)
    · exact order_self s (Nat.min_le_right _ _)
  | infinity s => exact order_self s (Nat.le_refl _)
  | nan s t => cases h
/-- The quotient of a number by one that is not 0, as floats. -/
theorem quo_num {x y : Nat} (hx : x ≤ 576460752303423488) (hy : 1 ≤ y) (hy2 : y ≤ 576460752303423488) : ∃ r, Ieee.double.div (Ieee.double.nearest false x 0) (Ieee.double.nearest false y 0) = some r ∧ Ieee.double.order r r = some .eq := by
  obtain ⟨ry, hy0, hyi, hye⟩ := near_rung hy hy2
  obtain ⟨my, py, hmy, hyr⟩ := read_num hy0 hyi
  have hxr : ∃ mx px, Ieee.double.read (Ieee.double.nearest false x 0) = .number false mx px := by
    by_cases h : x = 0
    · subst h
      exact ⟨0, -1074, by decide +kernel⟩
    · obtain ⟨rx, hx0, hxi, hxe⟩ := near_rung (show 1 ≤ x by omega) hx
      obtain ⟨mx, px, _, e⟩ := read_num hx0 hxi
      exact ⟨mx, px, by rw [hxe]; exact e⟩
  obtain ⟨mx, px, hxr⟩ := hxr
  unfold Ieee.Format.div
  rw [hxr, hye, hyr]
  unfold Ieee.Datum.quotient
  show ∃ r, Option.map Ieee.double.write (if my = 0 then _ else _) = some r ∧ _
  rw [if_neg (by omega)]
  exact ⟨_, rfl, write_self _ rfl⟩
end Go.Proofs.Ytlljaliemldjkaa

/- Trellises: Odds. -/
namespace Go.Proofs.Ytlljaliemldjkaa
open Go.RowKit Go.Sort

theorem Try.infoFlt : (Try.prog.info? 57).map (fun i => (i.zero, i.size, i.bytes)) = some (some (.float .f64 0), 1, 8) := by kernel_rfl
/-- 'make([]float64, n)'. -/
theorem make_flt {ops : Array Oper} {rest : List Oper} {o : Oper} {a : Act} {w : World} {Q : Exit → Act → World → Prop}
    (hg : o.guard = none) (l c : Operand) (hop : o.op = Op.makeSlice 54 l c) (C : Int) (n : Nat) (hl : a.eval l = .int .i64 C) (hc : a.eval c = .int .i64 C) (hC : C = (n : Int)) (hn : n ≤ 1000000)
    (hK : ∀ w', RowF w.heap.size n 57 (fun _ => .float .f64 0) w' → w.grownBy w' none → wpList Try.prog ops Q rest (a.put o.dst (.slice (some ⟨w.heap.size, 0, none⟩) n n)) w') :
    wpList Try.prog ops Q (o :: rest) a w := by
  obtain ⟨i0, hi, hz0, hz1, hz2⟩ := info_parts Try.infoFlt
  refine wpList_make_full w hg l c 54 hop w.heap.size 57 i0 (.float .f64 0) 1 Try.underlying54 hi hz0 hz1 .i64 .i64 C C n hl hc hC hC (by rw [hz2]; omega) (by unfold maxLen; omega) (Nat.le_refl _) ?_
  intro w' hown hgrow
  refine hK w' ?_ hgrow
  have e : (madeCells (Value.float .f64 0).cells (n * 1)).toList = List.replicate n (.float .f64 0) := by
    rw [Nat.mul_one]; exact toList_madeCells_one _ _
  rw [e] at hown
  rcases hown.2 with ⟨h1, _⟩ | ⟨g, cap, cur, hv, hg, hh, hle, hcm, hsz, htake⟩
  · cases h1
  · simp only [Value.slice.injEq, Option.some.injEq, Addr.mk.injEq, and_true, true_and] at hv
    obtain ⟨rfl, rfl⟩ := hv
    refine ⟨cur, hh, by omega, fun k hk => ?_⟩
    have h3 : (cur.toList.take (n * 1))[k]? = (List.replicate n (Value.float .f64 0))[k]? := by rw [htake]
    rw [List.getElem?_take, if_pos (by omega), List.getElem?_replicate, if_pos hk, Array.getElem?_toList] at h3
    exact h3

set_option maxHeartbeats 4000000 in
set_option maxRecDepth 100000 in
theorem todds_e {E : Int} (hE : E ≠ 0) {ao so : Option Addr} {R ca l sc : Nat} {a b : Int} {w : World} (hC : Calls Try.prog 24 #[.slice ao R ca, .slice so l sc, .int .i64 a, .int .i64 b] w fun e w' => e = .returned (.tuple #[.slice none 0 0, .int .i64 0, .int .i64 E]) ∧ Below w.heap.size w w') :
    Calls Try.prog 34 #[.slice ao R ca, .slice so l sc, .int .i64 a, .int .i64 b] w fun e w' => e = .returned (.tuple #[.slice none 0 0, .int .i64 E]) ∧ Below w.heap.size w w' := by
  have HC : Hid (Calls Try.prog 24 #[.slice ao R ca, .slice so l sc, .int .i64 a, .int .i64 b] w fun e w' => e = .returned (.tuple #[.slice none 0 0, .int .i64 0, .int .i64 E]) ∧ Below w.heap.size w w') := hC
  have hz : (E != 0) = true := bne_iff_ne.2 hE
  clear hC
  go_enter Try.func34, Try.ntmps34
  go_wp2_with fail
  refine HC.out.mono ?_
  rintro e w1 ⟨rfl, hb1⟩
  have H1 : Hid (Below w.heap.size w w1) := hb1
  clear hb1
  go_wp2
  go_ret2
  exact ⟨rfl, H1.out⟩
set_option maxHeartbeats 4000000 in
set_option maxRecDepth 100000 in
theorem todds_z {ao so : Option Addr} {R ca l sc N : Nat} {a b : Int} {o : Nat → Nat} {w : World} (hC : Calls Try.prog 24 #[.slice ao R ca, .slice so l sc, .int .i64 a, .int .i64 b] w fun e w' => ∃ v, e = .returned (.tuple #[v, .int .i64 0, .int .i64 0]) ∧ OwnI w.heap.size v (zl N fun j => ((o j : Nat) : Int)) w' ∧ Below w.heap.size w w') :
    Calls Try.prog 34 #[.slice ao R ca, .slice so l sc, .int .i64 a, .int .i64 b] w fun e w' => e = .returned (.tuple #[.slice none 0 0, .int .i64 5]) ∧ Below w.heap.size w w' := by
  have HC : Hid (Calls Try.prog 24 #[.slice ao R ca, .slice so l sc, .int .i64 a, .int .i64 b] w fun e w' => ∃ v, e = .returned (.tuple #[v, .int .i64 0, .int .i64 0]) ∧ OwnI w.heap.size v (zl N fun j => ((o j : Nat) : Int)) w' ∧ Below w.heap.size w w') := hC
  clear hC
  go_enter Try.func34, Try.ntmps34
  go_wp2_with fail
  refine HC.out.mono ?_
  rintro e w1 ⟨v, rfl, _, hb1⟩
  have H1 : Hid (Below w.heap.size w w1) := hb1
  clear hb1
  go_wp2
  go_ret2
  exact ⟨rfl, H1.out⟩
end Go.Proofs.Ytlljaliemldjkaa
