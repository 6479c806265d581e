/- Texts of ours, one behind the other: Q10 Q11. -/
import Derived.Test.YtjkncdmbcckcdaaZQ9
import Derived.Test.YtjkncdmbcckcdaaZX18
/- ListsSay: whatever it is given. -/
namespace Go.Proofs.Ytjkncdmbcckcdaa
open Go.RowKit Go.Sort

theorem listsSay_walk (q k r t : Int) {xo yo : Option Addr} {n m cx cy : Nat} {z y : Nat → Int} {w : World} (hx : ArgL xo n cx z w) (hy : ArgL yo m cy y w) (hn : n ≤ 17592186044416) (hm : m ≤ 17592186044416) :
    Calls Try.prog 3 #[.int .i64 q, .slice xo n cx, .int .i64 k, .slice yo m cy, .int .i64 r, .int .i64 t] w fun x w' => x = .returned (.bool true) ∧ Below w.heap.size w w' := by
  by_cases h1 : 200 < n + m
  · exact ls_long q k r t hn hm h1
  · have hX := hx.arg (by omega)
    have hY := hy.arg (by omega)
    by_cases h : ∃ D ∈ fieldsL, (D.q : Int) = q
    · obtain ⟨D, hD, rfl⟩ := h
      by_cases h0 : D.hchk n z k m y = 0
      · exact ls_any hD k r t hX hY (by omega) h0
      · refine ls_err D.q _ k r t h0 (by omega) (wholeWord_any hD k hX hY) (fun w1 => ?_) (fun w1 hb => checkWhole_any hD k (hX.below hb) (hY.below hb))
        refine (rfield_sl hD w1).mono ?_
        rintro x w' ⟨gm, cm, rfl, _, hb⟩
        exact ⟨_, _, _, _, _, _, _, _, rfl, hb⟩
    · have hno : ∀ D ∈ fieldsL, (D.q : Int) ≠ q := fun D hD e => h ⟨D, hD, e⟩
      refine ls_err q 1 k r t (by omega) (by omega) (wholeWord_none q hno k w) (fun w1 => ?_) (fun w1 _ => (checkWhole_none q hno k w1).mono fun e w' h => ⟨h.1, bel_of_eq h.2⟩)
      refine (rfield_none q w1 hno).mono ?_
      rintro x w' ⟨rfl, hb⟩
      exact ⟨_, _, _, _, _, _, _, _, rfl, hb⟩
end Go.Proofs.Ytjkncdmbcckcdaa

/- ListsMade: the walk of the statement, whatever raw numbers it is given. -/
namespace Go.Proofs.Ytjkncdmbcckcdaa
open Go.RowKit Go.Sort

theorem lpick_small (m : Int) {k : Nat} (hk : 0 < k) : ∃ M : Nat, pick m (k : Int) = (M : Int) ∧ M < k := by
  have h1 := pick_lo m (k : Int) (by omega)
  have h2 := pick_hi m (k : Int) (by omega)
  exact ⟨(pick m (k : Int)).toNat, by omega, by omega⟩
/-- The sizes that it draws of. -/
def lmq (M : Nat) : Nat := [3, 4, 5, 7, 8, 9, 11, 13].getD M 3
theorem lmq_cell (M : Nat) (hM : M < 8) : (#[Value.int .i64 3, .int .i64 4, .int .i64 5, .int .i64 7, .int .i64 8, .int .i64 9, .int .i64 11, .int .i64 13] : Array Value)[M]? = some (.int .i64 (lmq M : Nat)) := by
  match M, hM with
  | 0, _ => rfl
  | 1, _ => rfl
  | 2, _ => rfl
  | 3, _ => rfl
  | 4, _ => rfl
  | 5, _ => rfl
  | 6, _ => rfl
  | 7, _ => rfl
theorem lmq_in (M : Nat) (hM : M < 8) : 3 ≤ lmq M ∧ lmq M ≤ 13 := by
  match M, hM with
  | 0, _ => decide
  | 1, _ => decide
  | 2, _ => decide
  | 3, _ => decide
  | 4, _ => decide
  | 5, _ => decide
  | 6, _ => decide
  | 7, _ => decide
theorem Row.argL {g q n : Nat} {c : Nat → Nat} {w : World} (h : Row g q c w) (hn : n ≤ q) (hq : q ≤ 1000000) : ArgL (some ⟨g, 0, none⟩) n q (fun j => ((c j : Nat) : Int)) w :=
  ⟨fun j hj => (h.sl (Nat.le_refl _)) j (by omega), fun x hx => (by cases hx; exact h.lt), fun e => (by cases e), hn, by omega⟩
theorem argL_below {ao : Option Addr} {n ca : Nat} {z : Nat → Int} {w w' : World} (h : ArgL ao n ca z w) (hb : Below w.heap.size w w') : ArgL ao n ca z w' := ⟨slz_below h.sl hb, h.lt.mono hb.size, h.nil, h.le, h.cap⟩

set_option maxHeartbeats 1000000 in
theorem listsMade_long {ao : Option Addr} {n ca : Nat} (q m k r t : Int) (w : World) (hn : ¬ n ≤ 256) (hn2 : n ≤ 17592186044416) :
    Calls Try.prog 4 #[.slice ao n ca, .int .i64 q, .int .i64 m, .int .i64 k, .int .i64 r, .int .i64 t] w fun r w' => r = .returned (.bool true) ∧ Below w.heap.size w w' := by
  have h1 : (256 : Int) < (n : Int) := by omega
  go_enter Try.func4, Try.ntmps4
  go_wp2
  go_ret
  exact ⟨rfl, Below.refl _ _⟩

set_option maxHeartbeats 4000000 in
set_option maxRecDepth 100000 in
theorem listsMade_walk {ao : Option Addr} {n ca : Nat} {z : Nat → Int} (q m k r t : Int) {w : World} (ha : Arg ao n ca z w) (hn : n ≤ 256) (hq : I64 q) (hm : I64 m) (hk : I64 k) (hr : I64 r) (ht : I64 t) :
    Calls Try.prog 4 #[.slice ao n ca, .int .i64 q, .int .i64 m, .int .i64 k, .int .i64 r, .int .i64 t] w fun r w' => r = .returned (.bool true) ∧ Below w.heap.size w w' := by
  obtain ⟨M, hM0, hM1⟩ := lpick_small q (k := 8) (by omega)
  obtain ⟨hQ1, hQ2⟩ := lmq_in M hM1
  obtain ⟨Q, hQ⟩ : ∃ Q, Q = lmq M := ⟨_, rfl⟩
  rw [← hQ] at hQ1 hQ2
  obtain ⟨Q1, hQQ⟩ : ∃ Q1, Q = Q1 + 1 := ⟨Q - 1, by omega⟩
  obtain ⟨N0, hN0, hN1⟩ := lpick_small m (k := Q1) (by omega)
  obtain ⟨N, hN⟩ : ∃ N, N = 2 + N0 := ⟨_, rfl⟩
  obtain ⟨K0, hK0, hK1⟩ := lpick_small k (k := 2) (by omega)
  obtain ⟨K, hK⟩ : ∃ K, K = 1 + K0 := ⟨_, rfl⟩
  obtain ⟨R, hR0, hR1⟩ := lpick_small r (k := N) (by omega)
  obtain ⟨T0, hT0, hT1⟩ := lpick_small t (k := N) (by omega)
  obtain ⟨T, hT⟩ : ∃ T, T = 1 + T0 := ⟨_, rfl⟩
  have HA : Hid (Arg ao n ca z w) := ha
  have HP1 : Hid (∀ w : World, Calls Try.prog 17 #[.int .i64 q, .int .i64 8] w fun e w' => e = .returned (.int .i64 (M : Nat)) ∧ w' = w) := fun w => by rw [← hM0]; exact pick_any q 8 w hq.1 hq.2 (by omega) (by omega)
  have HP2 : Hid (∀ w : World, Calls Try.prog 17 #[.int .i64 m, .int .i64 (Q1 : Nat)] w fun e w' => e = .returned (.int .i64 (N0 : Nat)) ∧ w' = w) := fun w => by rw [← hN0]; exact pick_any m Q1 w hm.1 hm.2 (by omega) (by omega)
  have HP3 : Hid (∀ w : World, Calls Try.prog 17 #[.int .i64 k, .int .i64 2] w fun e w' => e = .returned (.int .i64 (K0 : Nat)) ∧ w' = w) := fun w => by rw [← hK0]; exact pick_any k 2 w hk.1 hk.2 (by omega) (by omega)
  have HP4 : Hid (∀ w : World, Calls Try.prog 17 #[.int .i64 r, .int .i64 (N : Nat)] w fun e w' => e = .returned (.int .i64 (R : Nat)) ∧ w' = w) := fun w => by rw [← hR0]; exact pick_any r N w hr.1 hr.2 (by omega) (by omega)
  have HP5 : Hid (∀ w : World, Calls Try.prog 17 #[.int .i64 t, .int .i64 (N : Nat)] w fun e w' => e = .returned (.int .i64 (T0 : Nat)) ∧ w' = w) := fun w => by rw [← hT0]; exact pick_any t N w ht.1 ht.2 (by omega) (by omega)
  have HN1 : Hid (∀ w2, Below w.heap.size w w2 → Calls Try.prog 19 #[.slice ao n ca, .int .i64 3, .int .i64 (Q : Nat), .int .i64 (N : Nat)] w2 fun e w' => ∃ bo cb y, e = .returned (.slice bo N cb) ∧ ArgL bo N cb y w' ∧ Below w2.heap.size w2 w') := fun w2 hb2 => by
    refine (numbers_any (HA.out.below hb2) (by omega) 3 Q N (by omega) (by omega) (by omega) (by omega)).mono ?_
    rintro e w' ⟨v, y, rfl, ho, hbl, hb⟩
    obtain ⟨bo, cb, rfl, hA⟩ := ho.argL
    exact ⟨bo, cb, y, rfl, hA, hb⟩
  have HN2 : Hid (∀ w2, Below w.heap.size w w2 → Calls Try.prog 18 #[.slice ao n ca, .int .i64 (Q : Nat), .int .i64 (N : Nat)] w2 fun e w' => ∃ bo cb y, e = .returned (.slice bo N cb) ∧ ArgL bo N cb y w' ∧ Below w2.heap.size w2 w') := fun w2 hb2 => by
    refine (places_any (HA.out.below hb2) (by omega) Q N (by omega) (by omega) (by omega)).mono ?_
    rintro e w' ⟨g, c, rfl, _, hrow, _, hb⟩
    exact ⟨_, _, _, rfl, hrow.argL (by omega) (by omega), hb⟩
  have hnb : ¬ (256 : Int) < (n : Int) := by omega
  have hw1 : IntKind.i64.wrap ((Q : Int) - 1) = (Q1 : Int) := wrap_to (by omega) (by omega)
  have hw2 : IntKind.i64.wrap (2 + (N0 : Int)) = (N : Int) := wrap_to (by omega) (by omega)
  have hw3 : IntKind.i64.wrap (1 + (K0 : Int)) = (K : Int) := wrap_to (by omega) (by omega)
  have hw4 : IntKind.i64.wrap (1 + (T0 : Int)) = (T : Int) := wrap_to (by omega) (by omega)
  have hM2 : (M : Int) < 8 := by omega
  have hN13 : N ≤ 17592186044416 := by omega
  obtain ⟨wB, hwB⟩ : ∃ wB, wB = w.alloc (.cells #[.int .i64 3, .int .i64 4, .int .i64 5, .int .i64 7, .int .i64 8, .int .i64 9, .int .i64 11, .int .i64 13] 3) := ⟨_, rfl⟩
  have hcB : wB.cell? ⟨w.heap.size, M, none⟩ = some (.int .i64 (Q : Nat)) := by
    rw [hwB, cell_of_row _ _ _ _ _ (0, 0) (two_new _), lmq_cell M hM1, hQ]
  have HB : Hid (Below w.heap.size w wB) := by rw [hwB]; exact (Below.refl _ _).alloc (Nat.le_refl _) _
  clear hM0 hN0 hK0 hR0 hT0 ha hq hm hk hr ht hQ hQQ hN hK hT
  go_enter Try.func4, Try.ntmps4
  go_wp2_with fail
  rw [← hwB]
  clear hwB
  refine (HP1.out wB).mono ?_
  rintro e w' ⟨rfl, hw⟩
  have hw := hw.symm
  subst hw
  go_wp2_with fail
  refine (HP2.out wB).mono ?_
  rintro e w' ⟨rfl, hw⟩
  have hw := hw.symm
  subst hw
  go_wp2_with fail
  refine (HP3.out wB).mono ?_
  rintro e w' ⟨rfl, hw⟩
  have hw := hw.symm
  subst hw
  go_wp2_with fail
  refine (HN2.out wB HB.out).mono ?_
  rintro e w1 ⟨xo, cx, x, rfl, hA1, hb1⟩
  have H1 : Hid (Below w.heap.size w w1 ∧ ArgL xo N cx x w1) := ⟨bel_up' HB.out hb1, hA1⟩
  clear hA1 hb1
  go_wp2_with fail
  refine (HN1.out w1 H1.out.1).mono ?_
  rintro e w2 ⟨yo, cy, y, rfl, hA2, hb2⟩
  have H2 : Hid (Below w.heap.size w w2 ∧ ArgL xo N cx x w2 ∧ ArgL yo N cy y w2) := ⟨bel_up' H1.out.1 hb2, argL_below H1.out.2 hb2, hA2⟩
  clear hA2 hb2
  go_wp2_with fail
  refine (HP4.out w2).mono ?_
  rintro e w' ⟨rfl, hw⟩
  have hw := hw.symm
  subst hw
  go_wp2_with fail
  refine (HP5.out w2).mono ?_
  rintro e w' ⟨rfl, hw⟩
  have hw := hw.symm
  subst hw
  go_wp2_with fail
  refine (listsSay_walk (Q : Nat) (K : Nat) (R : Nat) (T : Nat) H2.out.2.1 H2.out.2.2 hN13 hN13).mono ?_
  rintro e w3 ⟨rfl, hb3⟩
  have HB3 : Hid (Below w.heap.size w w3) := bel_up' H2.out.1 hb3
  clear hb3
  go_wp2
  go_ret
  exact ⟨rfl, HB3.out⟩
end Go.Proofs.Ytjkncdmbcckcdaa
