/- TopMends: the walk of the statement, whatever raw numbers it is given (printed by make/kd17.py). -/
import Derived.Test.YtcgmllamiaflcaaZKD13
import Derived.Test.YtcgmllamiaflcaaZZ1
import Derived.Test.YtcgmllamiaflcaaZQ5
import Derived.Test.YtcgmllamiaflcaaZZ2
namespace Go.Proofs.Ytcgmllamiaflcaa
open Go.RowKit Go.Sort

set_option maxHeartbeats 4000000 in
set_option maxRecDepth 100000 in
theorem encode_new {D : FD} (hD : D ∈ fieldsL) {xo ao : Option Addr} {n cx k ca : Nat} {xs a : Nat → Nat} {w : World} (hn1 : 1 ≤ n) (hn : n ≤ 64) (hcn : n ≤ cx) (hx : ∀ i, i < n → xs i < D.q) (hne : ∀ i j, i < n → j < n → i ≠ j → xs i ≠ xs j) (hX : Sl xo n xs w) (hlx : LtB xo w.heap.size) (hk1 : 1 ≤ k) (hk : k ≤ n) (ha : El D a) (hA : Sl ao k a w) (hla : LtB ao w.heap.size) :
    Calls Try.prog 11 #[.int .i64 D.q, .slice xo n cx, .slice ao k ca] w fun e w' => ∃ g, e = .returned (.tuple #[.slice (some ⟨g, 0, none⟩) n n, .int .i64 0]) ∧ w.heap.size ≤ g ∧ Row g n (fun i => D.ev a (xs i) k) w' ∧ Below w.heap.size w w' := by
  have HF : Hid (D ∈ fieldsL ∧ (∀ i, i < n → xs i < D.q) ∧ (∀ i j, i < n → j < n → i ≠ j → xs i ≠ xs j) ∧ Sl xo n xs w ∧ LtB xo w.heap.size ∧ El D a ∧ Sl ao k a w ∧ LtB ao w.heap.size) := ⟨hD, hx, hne, hX, hlx, ha, hA, hla⟩
  have HC0 : Hid (Calls Try.prog 29 #[.int .i64 D.q, .slice xo n cx, .int .i64 (k : Nat)] w fun e w' => e = .returned (.int .i64 0) ∧ Below w.heap.size w w') := rcheck_ok hD hn1 hn hcn hx hne hX hlx hk1 hk
  clear hD hx hne hX hlx ha hA hla
  go_enter Try.func11, Try.ntmps11
  go_wp2_with fail
  refine HC0.out.mono ?_
  rintro e w1 ⟨rfl, hb1⟩
  have H1 : Hid (Below w.heap.size w w1) := hb1
  have HC1 : Hid (Calls Try.prog 30 #[.int .i64 D.q, .slice ao k ca] w1 fun e w' => e = .returned (.int .i64 0) ∧ Below w1.heap.size w1 w') := by
    have h := check_any (cap := ca) HF.out.1 (w := w1) (z := fun j => ((a j : Nat) : Int)) (show SlZ ao k (fun j => ((a j : Nat) : Int)) w1 from HF.out.2.2.2.2.2.2.1.below hb1 HF.out.2.2.2.2.2.2.2) (HF.out.2.2.2.2.2.2.2.mono hb1.size) (by omega)
    rw [chk_nat HF.out.2.2.2.2.2.1 (by omega)] at h; exact h
  clear hb1
  go_wp2_with fail
  refine HC1.out.mono ?_
  rintro e w2 ⟨rfl, hb2⟩
  have H2 : Hid (Below w.heap.size w w2) := bel_up' H1.out hb2
  clear hb2
  go_wp2_with fail
  refine (new_any HF.out.1 w2).mono ?_
  rintro e w3 ⟨F, T, g, rfl, hat, hF, hT, hb3⟩
  have H3 : Hid (FAt F T D g w3 ∧ Below w.heap.size w w3) := ⟨hat, bel_up' H2.out hb3⟩
  clear hat hF hT hb3
  go_wp2_with fail
  refine (rvalues_any HF.out.1 H3.out.1 (by omega) hn HF.out.2.2.2.2.2.1 HF.out.2.1 (HF.out.2.2.2.2.2.2.1.below H3.out.2 HF.out.2.2.2.2.2.2.2) (HF.out.2.2.2.1.below H3.out.2 HF.out.2.2.2.2.1) (HF.out.2.2.2.2.2.2.2.mono H3.out.2.size) (HF.out.2.2.2.2.1.mono H3.out.2.size)).mono ?_
  rintro e w4 ⟨rfl, hrow, hb4⟩
  have H4 : Hid (Row w3.heap.size n (fun i => D.ev a (xs i) k) w4 ∧ Below w.heap.size w w4) := ⟨hrow, bel_up' H3.out.2 hb4⟩
  clear hrow hb4
  go_wp2
  go_ret2
  exact ⟨_, rfl, H3.out.2.size, H4.out.1, H4.out.2⟩

theorem ct_non {p : Nat → Bool} : ∀ n, (∀ j, j < n → p j = false) → ct p n = 0
  | 0, _ => rfl
  | n + 1, h => by
    show ct p n + (if p n = true then 1 else 0) = 0
    rw [ct_non n (fun j hj => h j (by omega)), h n (by omega)]; rfl
theorem ct_until {p : Nat → Bool} {i : Nat} : ∀ n, i ≤ n → (∀ j, i ≤ j → j < n → p j = false) → ct p n = ct p i
  | 0, h, _ => by have : i = 0 := by omega
                  rw [this]
  | n + 1, h, hp => by
    by_cases e : i = n + 1
    · rw [e]
    · show ct p n + (if p n = true then 1 else 0) = ct p i
      rw [ct_until n (by omega) (fun j h1 h2 => hp j h1 (by omega)), hp n (by omega) (by omega)]; rfl
theorem ct_after {p : Nat → Bool} {i : Nat} (h0 : ∀ j, j < i → p j = false) : ∀ n, i ≤ n → (∀ j, i ≤ j → j < n → p j = true) → ct p n = n - i
  | 0, h, _ => by rw [show i = 0 by omega]; rfl
  | n + 1, h, hp => by
    by_cases e : i = n + 1
    · rw [← e, ct_non i h0]; omega
    · show ct p n + (if p n = true then 1 else 0) = n + 1 - i
      rw [ct_after h0 n (by omega) (fun j h1 h2 => hp j h1 (by omega)), hp n (by omega) (by omega)]
      show n - i + 1 = _
      omega
/-- A word as it is turned: lost at the first places, other numbers at some behind them. -/
structure MnS (D : FD) (n lost i off g base : Nat) (ev : Nat → Nat) (y : Nat → Int) (w0 wr : World) : Prop where
  row : RowZ g n y wr
  gone : ∀ j, j < lost → y j = -1
  here : ∀ j, lost ≤ j → j < n → 0 ≤ y j ∧ y j < (D.q : Int)
  same : ∀ j, i ≤ j → lost ≤ j → j < n → y j = ((ev j : Nat) : Int)
  cnt : off = ct (fun j => !decide (y j = -1) && !decide (((ev j : Nat) : Int) = y j)) i
  few : off + lost ≤ i
  bel : Below base w0 wr
  ge : base ≤ g
theorem MnS.step {D : FD} {n lost i off g base v : Nat} {ev : Nat → Nat} {y : Nat → Int} {w0 wr w1 : World} (h : MnS D n lost i off g base ev y w0 wr) (hb : Below wr.heap.size wr w1) (hl : lost ≤ i) (hi : i < n) (hv : v < D.q) :
    MnS D n lost (i + 1) (off + if ((v : Nat) : Int) = y i then 0 else 1) g base ev (fun j => if j = i then ((v : Nat) : Int) else y j) w0 (w1.setCell ⟨g, i, none⟩ (.int .i64 ((v : Nat) : Int))) := by
  have hlt : g < wr.heap.size := by
    obtain ⟨cap, f, h1, _⟩ := h.row
    exact h1.lt
  have hev := h.same i (Nat.le_refl _) hl hi
  refine ⟨(h.row.below hb hlt).store i _ (fun j _ => rfl), fun j hj => by rw [if_neg (by omega)]; exact h.gone j hj, fun j h1 h2 => ?_, fun j h1 h2 h3 => by rw [if_neg (by omega)]; exact h.same j (by omega) h2 h3, ?_, ?_, (bel_in h.bel hb (by have := h.bel.size; have := h.ge; omega)).setCell h.ge _, h.ge⟩
  · by_cases e : j = i
    · rw [if_pos e]; omega
    · rw [if_neg e]; exact h.here j h1 h2
  · show _ = ct (fun j => !decide ((if j = i then ((v : Nat) : Int) else y j) = -1) && !decide (((ev j : Nat) : Int) = if j = i then ((v : Nat) : Int) else y j)) i + if (!decide ((if i = i then ((v : Nat) : Int) else y i) = -1) && !decide (((ev i : Nat) : Int) = if i = i then ((v : Nat) : Int) else y i)) = true then 1 else 0
    rw [ct_same (p := fun j => !decide ((if j = i then ((v : Nat) : Int) else y j) = -1) && !decide (((ev j : Nat) : Int) = if j = i then ((v : Nat) : Int) else y j)) (p' := fun j => !decide (y j = -1) && !decide (((ev j : Nat) : Int) = y j)) i (fun j hj => by rw [if_neg (by omega)]), ← h.cnt, if_pos rfl, hev, decide_eq_false (show ¬ ((v : Nat) : Int) = -1 by omega)]
    by_cases e : ((v : Nat) : Int) = ((ev i : Nat) : Int)
    · rw [if_pos e, e, decide_eq_true rfl]; rfl
    · rw [if_neg e, decide_eq_false (fun x => e x.symm)]; rfl
  · have := h.few
    split <;> omega
/-- What is heard of such a word is near the message. -/
theorem MnS.near {D : FD} {n lost off g base k : Nat} {c : Nat → Nat} {a : Nat → Nat} {y : Nat → Int} {w0 wr : World} {T : Nat} (h : MnS D n lost (lost + T) off g base (fun i => D.ev a (c i) k) y w0 wr) (hT : lost + T ≤ n) (hT2 : 2 * T + lost + k ≤ n) (hc : ∀ i, i < n → c i < D.q) (hne : ∀ i j, i < n → j < n → i ≠ j → c i ≠ c j) (ha : El D a) (hb : Bd k a) :
    ∃ m c' y', Heard D n c y m c' y' ∧ NearH D m k c' y' a ∧ ofs D k m c' y' a = off := by
  obtain ⟨m, c', y', hH⟩ := heard_ex (D := D) (y := y) hc hne (fun i hi => by
    by_cases e : i < lost
    · exact Or.inl (h.gone i e)
    · have := h.here i (by omega) hi
      refine Or.inr ?_
      have e2 : y i = (((y i).toNat : Nat) : Int) := by omega
      rw [e2]
      exact has_of_lt (by omega))
  have h1 : m = n - lost := by
    rw [hH.many]
    exact ct_after (fun j hj => by rw [h.gone j hj]; rfl) n (by omega) (fun j h1 h2 => by
      have := h.here j h1 h2
      rw [decide_eq_false (by omega)]; rfl)
  have h2 : ofs D k m c' y' a = off := by
    rw [hH.ofs, h.cnt]
    exact ct_until n hT (fun j h1 h2 => by
      rw [h.same j h1 (by omega) h2]; simp)
  have h3 := h.few
  exact ⟨m, c', y', hH, ⟨ha, hb, by omega, by rw [h2]; omega⟩, h2⟩
theorem wok_all {D : FD} {n lost i off g base : Nat} {ev : Nat → Nat} {y : Nat → Int} {w0 wr : World} (h : MnS D n lost i off g base ev y w0 wr) : D.allW y n = true := by
  unfold FD.allW
  rw [anyB_no n (fun j hj => ?_)]; rfl
  have : D.wok (y j) = true := by
    unfold FD.wok
    by_cases e : j < lost
    · rw [h.gone j e]; rfl
    · have h1 := h.here j (by omega) hj
      have e2 : y j = (((y j).toNat : Nat) : Int) := by omega
      rw [e2, has_of_lt (by omega)]
      simp
  rw [this]; rfl
theorem pch_fine {D : FD} {c : Nat → Nat} {n : Nat} (hc : ∀ i, i < n → c i < D.q) (hne : ∀ i j, i < n → j < n → i ≠ j → c i ≠ c j) : ∀ r, r ≤ n → D.pch (fun j => ((c j : Nat) : Int)) r = 0
  | 0, _ => rfl
  | r + 1, h => by
    show (if D.pch _ r ≠ 0 then D.pch _ r else if D.has ((c r : Nat) : Int) = true then (if ((c r : Nat) : Int) ∈ zl r (fun j => ((c j : Nat) : Int)) then 7 else 0) else 2) = 0
    rw [if_neg (fun x => x (pch_fine hc hne r (by omega))), if_pos (has_of_lt (hc r (by omega))), if_neg]
    intro hm
    unfold zl at hm
    obtain ⟨j, hj, e⟩ := List.mem_map.1 hm
    have hj := List.mem_range.1 hj
    exact hne j r (by omega) (by omega) (by omega) (by have e : ((c j : Nat) : Int) = ((c r : Nat) : Int) := e; omega)
theorem wchk_fine {D : FD} {c : Nat → Nat} {n k : Nat} {y : Nat → Int} (hn1 : 1 ≤ n) (hn : n ≤ 64) (hk1 : 1 ≤ k) (hk : k ≤ n) (hc : ∀ i, i < n → c i < D.q) (hne : ∀ i j, i < n → j < n → i ≠ j → c i ≠ c j) (hy : D.allW y n = true) : D.wchk n (fun j => ((c j : Nat) : Int)) (k : Nat) n y = 0 := by
  have h1 : D.rchk n (fun j => ((c j : Nat) : Int)) (k : Nat) = 0 := by
    unfold FD.rchk
    rw [if_neg (by omega), if_neg (fun x => x (pch_fine hc hne n (Nat.le_refl _))), if_neg (by omega)]
  unfold FD.wchk
  rw [if_neg (fun x => x h1), if_neg (fun x => x rfl), if_pos hy]

set_option maxHeartbeats 1000000 in
theorem topMends_long {ao : Option Addr} {n ca : Nat} (q x k l t : Int) (w : World) (hn : ¬ n ≤ 256) (hn2 : n ≤ 17592186044416) :
    Calls Try.prog 3 #[.slice ao n ca, .int .i64 q, .int .i64 x, .int .i64 k, .int .i64 l, .int .i64 t] w fun r w' => r = .returned (.bool true) ∧ Below w.heap.size w w' := by
  have h1 : (256 : Int) < (n : Int) := by omega
  go_enter Try.func3, Try.ntmps3
  go_wp2
  go_ret
  exact ⟨rfl, Below.refl _ _⟩

set_option maxHeartbeats 16000000 in
set_option maxRecDepth 100000 in
theorem topMends_walk {ao : Option Addr} {n ca : Nat} {z : Nat → Int} (q x k l t : Int) {w : World} (ha : Arg ao n ca z w) (hn : n ≤ 256) (hq : I64 q) (hx : I64 x) (hk : I64 k) (hl : I64 l) (ht : I64 t) :
    Calls Try.prog 3 #[.slice ao n ca, .int .i64 q, .int .i64 x, .int .i64 k, .int .i64 l, .int .i64 t] w fun r w' => r = .returned (.bool true) ∧ Below w.heap.size w w' := by
  obtain ⟨D, hD, hDq⟩ := sizeOf_field q
  obtain ⟨N0, hN0, hN1⟩ := pick_in (m := x) (k := 16) (by omega)
  have h64 := (fld hD).q64
  have h2q := (fld hD).q2
  have HA : Hid (Arg ao n ca z w ∧ D ∈ fieldsL ∧ I64 l ∧ I64 t) := ⟨ha, hD, hl, ht⟩
  have HS : Hid (∀ w : World, Calls Try.prog 7 #[.int .i64 q] w fun e w' => e = .returned (.int .i64 D.q) ∧ Below w.heap.size w w') := fun w => by rw [← hDq]; exact sizeOf_any q w hq.1 hq.2
  have HPi : Hid (∀ (x : Int) (k : Nat), I64 x → 1 ≤ k → k ≤ 1000 → ∃ M : Nat, M < k ∧ ∀ w : World, Calls Try.prog 8 #[.int .i64 x, .int .i64 k] w fun e w' => e = .returned (.int .i64 M) ∧ w' = w) := fun x k hx h1 h2 => by
    obtain ⟨M, hM, hMk⟩ := pick_in (m := x) (k := k) (by omega)
    exact ⟨M, hMk, fun w => by rw [← hM]; exact pick_any x k w hx.1 hx.2 (by omega) (by omega)⟩
  have HP1 : Hid (∀ w : World, Calls Try.prog 8 #[.int .i64 x, .int .i64 16] w fun e w' => e = .returned (.int .i64 N0) ∧ w' = w) := fun w => by rw [← hN0]; exact pick_any x 16 w hx.1 hx.2 (by omega) (by omega)
  obtain ⟨N1, hNe⟩ : ∃ N1, N1 = 1 + N0 := ⟨_, rfl⟩
  have hwN : IntKind.i64.wrap (1 + (N0 : Int)) = (N1 : Int) := wrap_to (by omega) (by omega)
  have hNb : 1 ≤ N1 ∧ N1 ≤ 16 := by omega
  have HK : Hid (∀ N : Nat, 1 ≤ N → N ≤ 64 → ∃ K : Nat, 1 ≤ K ∧ K ≤ N ∧ ∃ K0 : Nat, IntKind.i64.wrap (1 + (K0 : Int)) = (K : Int) ∧ ∀ w : World, Calls Try.prog 8 #[.int .i64 k, .int .i64 N] w fun e w' => e = .returned (.int .i64 K0) ∧ w' = w) := fun N h1 h2 => by
    obtain ⟨K0, hK0, hK1⟩ := pick_in (m := k) (k := N) (by omega)
    exact ⟨1 + K0, by omega, by omega, K0, wrap_to (by omega) (by omega), fun w => by rw [← hK0]; exact pick_any k N w hk.1 hk.2 (by omega) (by omega)⟩
  have HPl : Hid (∀ N : Nat, N ≤ D.q → ∀ w2, Below w.heap.size w w2 → Calls Try.prog 9 #[.slice ao n ca, .int .i64 D.q, .int .i64 N] w2 fun e w' => ∃ g c, e = .returned (.slice (some ⟨g, 0, none⟩) N D.q) ∧ Row g D.q c w' ∧ Perm' D.q c ∧ Below w2.heap.size w2 w') := fun N hN w2 hb2 => by
    refine (places_any (HA.out.1.below hb2) (by omega) D.q N (by omega) (by omega) hN).mono ?_
    rintro e w' ⟨g, c, h1, _, h2, h3, h4⟩
    exact ⟨g, c, h1, h2, h3, h4⟩
  have HNu : Hid (∀ K : Nat, K ≤ 64 → ∀ w2, Below w.heap.size w w2 → Calls Try.prog 10 #[.slice ao n ca, .int .i64 3, .int .i64 D.q, .int .i64 K] w2 fun e w' => ∃ co cc u, e = .returned (.slice co K cc) ∧ Arg co K cc u w' ∧ Blw D.q K u ∧ Below w2.heap.size w2 w') := fun K hK w2 hb2 => by
    refine (numbers_any (HA.out.1.below hb2) (by omega) 3 D.q K (by omega) (by omega) (by omega) (by omega)).mono ?_
    rintro e w' ⟨v, u, rfl, ho, hbl, hb⟩
    obtain ⟨co, cc, rfl, hA⟩ := ho.argL
    exact ⟨co, cc, u, rfl, hA.arg (by omega), hbl, hb⟩
  have hnb : ¬ (256 : Int) < (n : Int) := by omega
  clear hD hDq hN0 ha hq hx hk hNe hl ht
  go_enter Try.func3, Try.ntmps3
  go_wp2_with fail
  refine (HS.out w).mono ?_
  rintro e w1 ⟨rfl, hb1⟩
  have HB1 : Hid (Below w.heap.size w w1) := hb1
  clear hb1
  go_wp2_with fail
  refine (HP1.out w1).mono ?_
  rintro e w' ⟨rfl, hw⟩
  have hw := hw.symm
  subst hw
  by_cases hNq : D.q < N1
  · have hNi : ((D.q : Nat) : Int) < (N1 : Int) := by omega
    have hNN : 1 ≤ D.q ∧ D.q ≤ 64 ∧ D.q ≤ D.q := by omega
    obtain ⟨K, hK1, hK2, K0, hwK, hPk⟩ := HK.out D.q hNN.1 hNN.2.1
    have HPk : Hid (∀ w : World, Calls Try.prog 8 #[.int .i64 k, .int .i64 (D.q : Nat)] w fun e w' => e = .returned (.int .i64 K0) ∧ w' = w) := hPk
    clear hPk
    go_wp2_with fail
    refine (HPk.out w1).mono ?_
    rintro e w' ⟨rfl, hw⟩
    have hw := hw.symm
    subst hw
    go_wp2_with fail
    refine (HPl.out D.q hNN.2.2 w1 HB1.out).mono ?_
    rintro e w2 ⟨gx, c, rfl, hrow2, hperm, hb2⟩
    have H2 : Hid (Below w.heap.size w w2 ∧ Sl (some ⟨gx, 0, none⟩) D.q c w2 ∧ LtB (some ⟨gx, 0, none⟩) w2.heap.size ∧ (∀ i, i < D.q → c i < D.q) ∧ ∀ i j, i < D.q → j < D.q → i ≠ j → c i ≠ c j) := by
      refine ⟨bel_up' HB1.out hb2, hrow2.sl hNN.2.2, fun a ha => by cases ha; exact hrow2.lt, fun i hi => hperm.1 i (by omega), fun i j hi hj hij => ?_⟩
      rcases Nat.lt_or_ge i j with h | h
      · exact hperm.2 i j h (by omega)
      · exact fun e => hperm.2 j i (by omega) (by omega) e.symm
    clear hrow2 hperm hb2
    go_wp2_with fail
    refine (HNu.out K (by omega) w2 H2.out.1).mono ?_
    rintro e w3 ⟨uo, uc, u, rfl, hA3, hbl3, hb3⟩
    obtain ⟨a, hae⟩ : ∃ a, a = zc K u := ⟨_, rfl⟩
    have H3 : Hid (Below w2.heap.size w2 w3 ∧ Below w.heap.size w w3 ∧ Arg uo K uc u w3 ∧ zl K u = zl K (fun j => ((a j : Nat) : Int)) ∧ El D a ∧ Bd K a ∧ Sl uo K a w3) := by
      have h1 := blw_chk hbl3 (show K ≤ 128 by omega)
      exact ⟨hb3, bel_up' H2.out.1 hb3, hA3, by rw [hae]; exact blw_zl' hbl3, by rw [hae]; exact zc_el (fld HA.out.2.1) h1, by rw [hae]; exact zc_bd K u, by rw [hae]; exact zc_sl h1 hA3.sl⟩
    clear hA3 hbl3 hb3 hae
    go_wp2_with fail
    refine (encode_new HA.out.2.1 hNN.1 hNN.2.1 hNN.2.2 H2.out.2.2.2.1 H2.out.2.2.2.2 (H2.out.2.1.below H3.out.1 H2.out.2.2.1) (H2.out.2.2.1.mono H3.out.1.size) hK1 hK2 H3.out.2.2.2.2.1 H3.out.2.2.2.2.2.2 H3.out.2.2.1.lt).mono ?_
    rintro e w5 ⟨g5, rfl, hg5, hrow5, hb5⟩
    have H5 : Hid (MnS D D.q 0 0 0 g5 w3.heap.size (fun i => D.ev a (c i) K) (fun i => ((D.ev a (c i) K : Nat) : Int)) w3 w5) := by
      have F' := fld HA.out.2.1
      refine ⟨RowZ.of hrow5, fun j hj => absurd hj (by omega), fun j _ _ => ⟨by omega, by have := ev_lt F' a (c j) K; omega⟩, fun j _ _ _ => rfl, rfl, by omega, hb5, hg5⟩
    clear hrow5 hb5
    obtain ⟨X1, hX1⟩ : ∃ X1, X1 = D.q - K + 1 := ⟨_, rfl⟩
    obtain ⟨lost, hlost, hPl2⟩ := HPi.out l X1 HA.out.2.2.1 (by omega) (by omega)
    have HPl2 : Hid (∀ w : World, Calls Try.prog 8 #[.int .i64 l, .int .i64 (X1 : Nat)] w fun e w' => e = .returned (.int .i64 (lost : Nat)) ∧ w' = w) := hPl2
    obtain ⟨X2, hX2⟩ : ∃ X2, X2 = (D.q - K - lost) / 2 + 1 := ⟨_, rfl⟩
    obtain ⟨T, hTx, hPl3⟩ := HPi.out t X2 HA.out.2.2.2 (by omega) (by omega)
    have HPl3 : Hid (∀ w : World, Calls Try.prog 8 #[.int .i64 t, .int .i64 (X2 : Nat)] w fun e w' => e = .returned (.int .i64 (T : Nat)) ∧ w' = w) := hPl3
    have hX1w : ((D.q : Nat) : Int) - (K : Int) + 1 = (X1 : Int) := by omega
    obtain ⟨X3, hX3⟩ : ∃ X3, X3 = (D.q - K - lost) / 2 := ⟨_, rfl⟩
    have hX3w : Int.tdiv (((D.q : Nat) : Int) - (K : Int) - (lost : Int)) 2 = (X3 : Int) := by
      rw [Int.tdiv_eq_ediv_of_nonneg (by omega)]; omega
    have hX2w : (X3 : Int) + 1 = (X2 : Int) := by omega
    have hwX2 : IntKind.i64.wrap (X2 : Int) = (X2 : Int) := wrap_ka (by omega) (by omega)
    have hwX1 : IntKind.i64.wrap (X1 : Int) = (X1 : Int) := wrap_ka (by omega) (by omega)
    have hlT : lost + T ≤ D.q := by omega
    have hlT2 : 2 * T + lost + K ≤ D.q := by omega
    have hlo64 : lost ≤ 64 := by omega
    have hT64 : T ≤ 64 := by omega
    have hX364 : X3 ≤ 64 := by omega
    have hX164 : X1 ≤ 65 := by omega
    clear hPl2 hPl3 hX1 hX2 hX3 hlost hTx
    have hnn : ((D.q : Int) != (D.q : Int)) = false := by simp
    go_wp2_with fail
    refine (HPl2.out w5).mono ?_
    rintro e w' ⟨rfl, hw⟩
    have hw := hw.symm
    subst hw
    go_wp2_with fail
    refine (HPl3.out w5).mono ?_
    rintro e w' ⟨rfl, hw⟩
    have hw := hw.symm
    subst hw
    go_wp2
    go_loopw [17] (fun vi wx => ∃ (i : Nat) (y : Nat → Int), i ≤ lost ∧ vi = .int .i64 (i : Nat) ∧ Hid (RowZ g5 D.q y wx ∧ (∀ j, j < i → y j = -1) ∧ (∀ j, i ≤ j → y j = ((D.ev a (c j) K : Nat) : Int)) ∧ Below w3.heap.size w3 wx)) (fun vi _ => lost - (intOf vi).toNat)
    case atStart => exact ⟨0, _, by omega, rfl, H5.out.row, fun j hj => absurd hj (by omega), fun j _ => rfl, H5.out.bel⟩
    case round =>
      obtain ⟨i, y, hi, rfl, HI⟩ := hrel
      rename World => wA
      by_cases hlt : i < lost
      · have hib : (i : Int) < (lost : Int) := by omega
        have hin : (i : Int) < ((D.q : Nat) : Int) := by omega
        have hi0 : (0 : Int) ≤ (i : Int) := by omega
        have hcc := HI.out.1.cell i (by omega)
        have hff := HI.out.1.free i
        have HR : Hid (RowZ g5 D.q (fun j => if j = i then -1 else y j) (wA.setCell ⟨g5, i, none⟩ (.int .i64 (-1))) ∧ (∀ j, j < i + 1 → (if j = i then (-1 : Int) else y j) = -1) ∧ (∀ j, i + 1 ≤ j → (if j = i then (-1 : Int) else y j) = ((D.ev a (c j) K : Nat) : Int)) ∧ Below w3.heap.size w3 (wA.setCell ⟨g5, i, none⟩ (.int .i64 (-1)))) := by
          refine ⟨HI.out.1.store i (-1) (fun j _ => rfl), fun j hj => ?_, fun j hj => ?_, HI.out.2.2.2.setCell H5.out.ge _⟩
          · by_cases e : j = i
            · rw [if_pos e]
            · rw [if_neg e]; exact HI.out.2.1 j (by omega)
          · rw [if_neg (by omega)]; exact HI.out.2.2.1 j (by omega)
        go_wp2
        go_roundw
        case rel => exact ⟨i + 1, _, by omega, by go_num, HR.out⟩
        case measure => simp [intOf]; omega
      · have hib : ¬ (i : Int) < (lost : Int) := by omega
        have hie : lost = i := by omega
        subst hie
        have HM0 : Hid (MnS D D.q lost lost 0 g5 w3.heap.size (fun i => D.ev a (c i) K) y w3 wA) := by
          have F' := fld HA.out.2.1
          refine ⟨HI.out.1, HI.out.2.1, fun j h1 _ => ?_, fun j h1 _ _ => HI.out.2.2.1 j h1, ?_, by omega, HI.out.2.2.2, H5.out.ge⟩
          · rw [HI.out.2.2.1 j h1]
            exact ⟨by omega, by have := ev_lt F' a (c j) K; omega⟩
          · exact (ct_non lost (fun j hj => by rw [HI.out.2.1 j hj]; rfl)).symm
        clear HI
        go_wp2
        go_loopw [18, 19] (fun vo vi wx => ∃ (i off : Nat) (y : Nat → Int), lost ≤ i ∧ i ≤ lost + T ∧ off ≤ 64 ∧ vo = .int .i64 (off : Nat) ∧ vi = .int .i64 (i : Nat) ∧ Hid (MnS D D.q lost i off g5 w3.heap.size (fun i => D.ev a (c i) K) y w3 wx)) (fun _ vi _ => lost + T - (intOf vi).toNat)
        case atStart => exact ⟨lost, 0, y, Nat.le_refl _, by omega, by omega, rfl, rfl, HM0.out⟩
        case round =>
          clear HM0
          obtain ⟨i, off, y, hli, hi, hoff, rfl, rfl, HI⟩ := hrel
          rename World => wB
          by_cases hlt2 : i < lost + T
          · have hib2 : (i : Int) < (lost : Int) + (T : Int) := by omega
            have hin : (i : Int) < ((D.q : Nat) : Int) := by omega
            have hi0 : (0 : Int) ≤ (i : Int) := by omega
            obtain ⟨j20, hj20⟩ : ∃ j20, j20 = 20 + i := ⟨_, rfl⟩
            have hj20w : 20 + (i : Int) = (j20 : Int) := by omega
            have hj64 : j20 ≤ 200 := by omega
            have hwj : IntKind.i64.wrap (j20 : Int) = (j20 : Int) := wrap_ka (by omega) (by omega)
            have HRaw : Hid (Calls Try.prog 12 #[.slice ao n ca, .int .i64 (j20 : Nat)] wB fun e w' => (∃ r, e = .returned (.int .i64 r) ∧ I64 r) ∧ ∃ k, w' = wB.drewN k) := raw_any (HA.out.1.below (bel_up' H3.out.2.1 HI.out.bel)) (by omega) j20 (by omega)
            clear hj20
            go_wp2_with fail
            refine HRaw.out.mono ?_
            rintro e w6 ⟨⟨r, rfl, hr64⟩, d6, hw6⟩
            have H6 : Hid (Below wB.heap.size wB w6) := by rw [hw6]; exact below_drewN2 (Below.refl _ _) d6
            clear hw6
            obtain ⟨v, hvq, hPv⟩ := HPi.out r D.q hr64 (by omega) (by omega)
            have HPv : Hid (∀ w : World, Calls Try.prog 8 #[.int .i64 r, .int .i64 (D.q : Nat)] w fun e w' => e = .returned (.int .i64 (v : Nat)) ∧ w' = w) := hPv
            clear hPv
            go_wp2_with fail
            refine (HPv.out w6).mono ?_
            rintro e w' ⟨rfl, hw⟩
            have hw := hw.symm
            subst hw
            have hst := HI.out.step H6.out hli (by omega) hvq
            have hrow6 := HI.out.row.below H6.out (by obtain ⟨cap, f, h1, _⟩ := HI.out.row; exact h1.lt)
            have hcc := hrow6.cell i (by omega)
            have hff := hrow6.free i
            have hfew := hst.few
            obtain ⟨yv, hyv⟩ : ∃ yv, yv = y i := ⟨_, rfl⟩
            rw [← hyv] at hcc hst
            rw [← hyv] at hfew
            clear hyv hrow6
            by_cases hvy : ((v : Nat) : Int) = yv
            · have hvz : (((v : Nat) : Int) != yv) = false := by rw [hvy]; simp
              rw [if_pos hvy, Nat.add_zero] at hst
              have HR : Hid (MnS D D.q lost (i + 1) off g5 w3.heap.size (fun i => D.ev a (c i) K) (fun j => if j = i then ((v : Nat) : Int) else y j) w3 (w6.setCell ⟨g5, i, none⟩ (.int .i64 ((v : Nat) : Int)))) := hst
              clear hst hvy hfew
              go_wp2
              go_roundw
              case rel => exact ⟨i + 1, off, _, by omega, by omega, by omega, rfl, by go_num, HR.out⟩
              case measure => simp [intOf]; omega
            · have hvz : (((v : Nat) : Int) != yv) = true := bne_iff_ne.2 hvy
              rw [if_neg hvy] at hst hfew
              have HR : Hid (MnS D D.q lost (i + 1) (off + 1) g5 w3.heap.size (fun i => D.ev a (c i) K) (fun j => if j = i then ((v : Nat) : Int) else y j) w3 (w6.setCell ⟨g5, i, none⟩ (.int .i64 ((v : Nat) : Int)))) := hst
              clear hst hvy
              go_wp2
              go_roundw
              case rel => exact ⟨i + 1, off + 1, _, by omega, by omega, by omega, by go_num, by go_num, HR.out⟩
              case measure => simp [intOf]; omega
          · have hib2 : ¬ (i : Int) < (lost : Int) + (T : Int) := by omega
            have hie2 : i = lost + T := by omega
            rw [hie2] at HI
            obtain ⟨m, c', y', hH, hNr, hofs⟩ := HI.out.near hlT hlT2 H2.out.2.2.2.1 H2.out.2.2.2.2 H3.out.2.2.2.2.1 H3.out.2.2.2.2.2.1
            have HH : Hid (Heard D D.q c y m c' y' ∧ NearH D m K c' y' a ∧ ofs D K m c' y' a = off) := ⟨hH, hNr, hofs⟩
            have HW : Hid (∀ wx, Below wB.heap.size wB wx → Arg (some ⟨gx, 0, none⟩) D.q D.q (fun j => ((c j : Nat) : Int)) wx ∧ Arg (some ⟨g5, 0, none⟩) D.q D.q y wx ∧ Calls Try.prog 54 #[.int .i64 D.q, .slice (some ⟨gx, 0, none⟩) D.q D.q, .int .i64 (K : Nat), .slice (some ⟨g5, 0, none⟩) D.q D.q] wx fun e w' => e = .returned (.int .i64 0) ∧ Below wx.heap.size wx w') := fun wx hb => by
              have hb2 := bel_up' H3.out.1 (bel_up' HI.out.bel hb)
              have hrz := HI.out.row.below hb (by obtain ⟨cap, f, h1, _⟩ := HI.out.row; exact h1.lt)
              have h1 : Arg (some ⟨gx, 0, none⟩) D.q D.q (fun j => ((c j : Nat) : Int)) wx := ⟨(H2.out.2.1.below hb2 H2.out.2.2.1).z, H2.out.2.2.1.mono hb2.size, by omega, fun e => (by cases e), hNN.2.2, by omega⟩
              have h2 : Arg (some ⟨g5, 0, none⟩) D.q D.q y wx := ⟨fun j hj => ⟨g5, 0, rfl, by rw [Nat.zero_add]; exact hrz.cell j hj⟩, fun x hx => by cases hx; obtain ⟨cap, f, h1, _⟩ := hrz; exact h1.lt, by omega, fun e => (by cases e), Nat.le_refl _, by omega⟩
              refine ⟨h1, h2, ?_⟩
              have h := word_any HA.out.2.1 (K : Nat) h1 h2
              rw [wchk_fine hNN.1 hNN.2.1 hK1 hK2 H2.out.2.2.2.1 H2.out.2.2.2.2 (wok_all HI.out)] at h
              exact h
            have HSo : Hid (∀ wx, Below wB.heap.size wB wx → Calls Try.prog 13 #[.int .i64 D.q, .slice (some ⟨gx, 0, none⟩) D.q D.q, .int .i64 (K : Nat), .slice (some ⟨g5, 0, none⟩) D.q D.q] wx fun e w' => Below wx.heap.size wx w' ∧ ∃ vo vc, e = .returned (.tuple #[.slice vo K vc, .int .i64 (off : Nat), .bool true, .int .i64 0]) ∧ SliceI (.slice vo K vc) (zl K fun j => ((a j : Nat) : Int)) w' ∧ LtB vo w'.heap.size) := fun wx hb => by
              obtain ⟨h1, h2, h3⟩ := HW.out wx hb
              refine (solve_ok HA.out.2.1 h1 h2 hNN.2.1 hK1 hK2 h3 HH.out.1).mono ?_
              rintro e w' ⟨hb', ⟨b, hb1, v, rfl, hv⟩ | ⟨hno, _⟩⟩
              · have e := hb1.one HA.out.2.1 HH.out.1 HH.out.2.1
                subst e
                rw [HH.out.2.2]
                obtain ⟨vo, vc, rfl, hva⟩ := hv.arg (by omega)
                exact ⟨hb', vo, vc, rfl, hv.sliceI (by omega), hva.lt⟩
              · exact absurd HH.out.2.1 (hno a)
            have HEu : Hid (∀ wx, Below wB.heap.size wB wx → Calls Try.prog 14 #[.int .i64 D.q, .slice (some ⟨gx, 0, none⟩) D.q D.q, .int .i64 (K : Nat), .slice (some ⟨g5, 0, none⟩) D.q D.q] wx fun e w' => Below wx.heap.size wx w' ∧ ∃ vo vc, e = .returned (.tuple #[.slice vo K vc, .int .i64 (off : Nat), .bool true, .int .i64 0]) ∧ SliceI (.slice vo K vc) (zl K fun j => ((a j : Nat) : Int)) w' ∧ LtB vo w'.heap.size) := fun wx hb => by
              obtain ⟨h1, h2, h3⟩ := HW.out wx hb
              refine (euclid_ok HA.out.2.1 h1 h2 hNN.2.1 hK1 hK2 h3 HH.out.1).mono ?_
              rintro e w' ⟨hb', ⟨b, hb1, v, rfl, hv⟩ | ⟨hno, _⟩⟩
              · have e := hb1.one HA.out.2.1 HH.out.1 HH.out.2.1
                subst e
                rw [HH.out.2.2]
                obtain ⟨vo, vc, rfl, hva⟩ := hv.arg (by omega)
                exact ⟨hb', vo, vc, rfl, hv.sliceI (by omega), hva.lt⟩
              · exact absurd HH.out.2.1 (hno a)
            have HB3 : Hid (Below w3.heap.size w3 wB) := HI.out.bel
            clear hH hNr hofs hie2 HI
            go_wp2_with fail
            refine (HSo.out wB (Below.refl _ _)).mono ?_
            rintro e w7 ⟨hb7, so, sc, rfl, hs7, hl7⟩
            have H7 : Hid (Below wB.heap.size wB w7 ∧ KI (.slice so K sc) (zl K fun j => ((a j : Nat) : Int)) w7) := ⟨hb7, hs7, fun k hk => by cases so with | none => cases hk | some x => (have hk : some x.block = some k := hk; cases hk; exact hl7 x rfl)⟩
            clear hb7 hs7 hl7
            go_wp2_with fail
            refine (HEu.out w7 H7.out.1).mono ?_
            rintro e w8 ⟨hb8, eo, ec, rfl, hs8, _⟩
            have H8 : Hid (Below w.heap.size w w8 ∧ SliceI (.slice so K sc) (zl K fun j => ((a j : Nat) : Int)) w8 ∧ SliceI (.slice eo K ec) (zl K fun j => ((a j : Nat) : Int)) w8 ∧ SliceI (.slice uo K uc) (zl K fun j => ((a j : Nat) : Int)) w8) := by
              have hb38 := bel_up' HB3.out (bel_up' H7.out.1 hb8)
              refine ⟨bel_up' H3.out.2.1 hb38, (H7.out.2.below hb8).1, hs8, ?_⟩
              rw [← H3.out.2.2.2.1]
              exact arg_sliceI (H3.out.2.2.1.below hb38) (Nat.le_refl _)
            clear hb8 hs8
            have HS1 : Hid (Calls Try.prog 15 #[.slice so K sc, .slice uo K uc] w8 fun e w' => e = .returned (.bool true) ∧ ∃ n, w' = w8.drewN n) := by
              have h := same_any H8.out.2.1 H8.out.2.2.2
              rw [decide_eq_true rfl] at h; exact h
            have HS2 : Hid (∀ d, Calls Try.prog 15 #[.slice eo K ec, .slice uo K uc] (w8.drewN d) fun e w' => e = .returned (.bool true) ∧ ∃ n, w' = (w8.drewN d).drewN n) := fun d => by
              have h := same_any (H8.out.2.2.1.drewN d) (H8.out.2.2.2.drewN d)
              rw [decide_eq_true rfl] at h; exact h
            have hoo : ((off : Int) == (off : Int)) = true := by simp
            go_wp2_with fail
            refine HS1.out.mono ?_
            rintro e w9 ⟨rfl, d9, hw9⟩
            subst hw9
            go_wp2_with fail
            refine (HS2.out d9).mono ?_
            rintro e w10 ⟨rfl, d10, hw10⟩
            have H10 : Hid (Below w.heap.size w w10) := by rw [hw10]; exact below_drewN2 (below_drewN2 H8.out.1 d9) d10
            clear hw10
            go_wp2
            go_ret
            exact ⟨rfl, H10.out⟩
  · have hNi : ¬ ((D.q : Nat) : Int) < (N1 : Int) := by omega
    have hNN : 1 ≤ N1 ∧ N1 ≤ 64 ∧ N1 ≤ D.q := by omega
    obtain ⟨K, hK1, hK2, K0, hwK, hPk⟩ := HK.out N1 hNN.1 hNN.2.1
    have HPk : Hid (∀ w : World, Calls Try.prog 8 #[.int .i64 k, .int .i64 (N1 : Nat)] w fun e w' => e = .returned (.int .i64 K0) ∧ w' = w) := hPk
    clear hPk
    go_wp2_with fail
    refine (HPk.out w1).mono ?_
    rintro e w' ⟨rfl, hw⟩
    have hw := hw.symm
    subst hw
    go_wp2_with fail
    refine (HPl.out N1 hNN.2.2 w1 HB1.out).mono ?_
    rintro e w2 ⟨gx, c, rfl, hrow2, hperm, hb2⟩
    have H2 : Hid (Below w.heap.size w w2 ∧ Sl (some ⟨gx, 0, none⟩) N1 c w2 ∧ LtB (some ⟨gx, 0, none⟩) w2.heap.size ∧ (∀ i, i < N1 → c i < D.q) ∧ ∀ i j, i < N1 → j < N1 → i ≠ j → c i ≠ c j) := by
      refine ⟨bel_up' HB1.out hb2, hrow2.sl hNN.2.2, fun a ha => by cases ha; exact hrow2.lt, fun i hi => hperm.1 i (by omega), fun i j hi hj hij => ?_⟩
      rcases Nat.lt_or_ge i j with h | h
      · exact hperm.2 i j h (by omega)
      · exact fun e => hperm.2 j i (by omega) (by omega) e.symm
    clear hrow2 hperm hb2
    go_wp2_with fail
    refine (HNu.out K (by omega) w2 H2.out.1).mono ?_
    rintro e w3 ⟨uo, uc, u, rfl, hA3, hbl3, hb3⟩
    obtain ⟨a, hae⟩ : ∃ a, a = zc K u := ⟨_, rfl⟩
    have H3 : Hid (Below w2.heap.size w2 w3 ∧ Below w.heap.size w w3 ∧ Arg uo K uc u w3 ∧ zl K u = zl K (fun j => ((a j : Nat) : Int)) ∧ El D a ∧ Bd K a ∧ Sl uo K a w3) := by
      have h1 := blw_chk hbl3 (show K ≤ 128 by omega)
      exact ⟨hb3, bel_up' H2.out.1 hb3, hA3, by rw [hae]; exact blw_zl' hbl3, by rw [hae]; exact zc_el (fld HA.out.2.1) h1, by rw [hae]; exact zc_bd K u, by rw [hae]; exact zc_sl h1 hA3.sl⟩
    clear hA3 hbl3 hb3 hae
    go_wp2_with fail
    refine (encode_new HA.out.2.1 hNN.1 hNN.2.1 hNN.2.2 H2.out.2.2.2.1 H2.out.2.2.2.2 (H2.out.2.1.below H3.out.1 H2.out.2.2.1) (H2.out.2.2.1.mono H3.out.1.size) hK1 hK2 H3.out.2.2.2.2.1 H3.out.2.2.2.2.2.2 H3.out.2.2.1.lt).mono ?_
    rintro e w5 ⟨g5, rfl, hg5, hrow5, hb5⟩
    have H5 : Hid (MnS D N1 0 0 0 g5 w3.heap.size (fun i => D.ev a (c i) K) (fun i => ((D.ev a (c i) K : Nat) : Int)) w3 w5) := by
      have F' := fld HA.out.2.1
      refine ⟨RowZ.of hrow5, fun j hj => absurd hj (by omega), fun j _ _ => ⟨by omega, by have := ev_lt F' a (c j) K; omega⟩, fun j _ _ _ => rfl, rfl, by omega, hb5, hg5⟩
    clear hrow5 hb5
    obtain ⟨X1, hX1⟩ : ∃ X1, X1 = N1 - K + 1 := ⟨_, rfl⟩
    obtain ⟨lost, hlost, hPl2⟩ := HPi.out l X1 HA.out.2.2.1 (by omega) (by omega)
    have HPl2 : Hid (∀ w : World, Calls Try.prog 8 #[.int .i64 l, .int .i64 (X1 : Nat)] w fun e w' => e = .returned (.int .i64 (lost : Nat)) ∧ w' = w) := hPl2
    obtain ⟨X2, hX2⟩ : ∃ X2, X2 = (N1 - K - lost) / 2 + 1 := ⟨_, rfl⟩
    obtain ⟨T, hTx, hPl3⟩ := HPi.out t X2 HA.out.2.2.2 (by omega) (by omega)
    have HPl3 : Hid (∀ w : World, Calls Try.prog 8 #[.int .i64 t, .int .i64 (X2 : Nat)] w fun e w' => e = .returned (.int .i64 (T : Nat)) ∧ w' = w) := hPl3
    have hX1w : ((N1 : Nat) : Int) - (K : Int) + 1 = (X1 : Int) := by omega
    obtain ⟨X3, hX3⟩ : ∃ X3, X3 = (N1 - K - lost) / 2 := ⟨_, rfl⟩
    have hX3w : Int.tdiv (((N1 : Nat) : Int) - (K : Int) - (lost : Int)) 2 = (X3 : Int) := by
      rw [Int.tdiv_eq_ediv_of_nonneg (by omega)]; omega
    have hX2w : (X3 : Int) + 1 = (X2 : Int) := by omega
    have hwX2 : IntKind.i64.wrap (X2 : Int) = (X2 : Int) := wrap_ka (by omega) (by omega)
    have hwX1 : IntKind.i64.wrap (X1 : Int) = (X1 : Int) := wrap_ka (by omega) (by omega)
    have hlT : lost + T ≤ N1 := by omega
    have hlT2 : 2 * T + lost + K ≤ N1 := by omega
    have hlo64 : lost ≤ 64 := by omega
    have hT64 : T ≤ 64 := by omega
    have hX364 : X3 ≤ 64 := by omega
    have hX164 : X1 ≤ 65 := by omega
    clear hPl2 hPl3 hX1 hX2 hX3 hlost hTx
    have hnn : ((N1 : Int) != (N1 : Int)) = false := by simp
    go_wp2_with fail
    refine (HPl2.out w5).mono ?_
    rintro e w' ⟨rfl, hw⟩
    have hw := hw.symm
    subst hw
    go_wp2_with fail
    refine (HPl3.out w5).mono ?_
    rintro e w' ⟨rfl, hw⟩
    have hw := hw.symm
    subst hw
    go_wp2
    go_loopw [17] (fun vi wx => ∃ (i : Nat) (y : Nat → Int), i ≤ lost ∧ vi = .int .i64 (i : Nat) ∧ Hid (RowZ g5 N1 y wx ∧ (∀ j, j < i → y j = -1) ∧ (∀ j, i ≤ j → y j = ((D.ev a (c j) K : Nat) : Int)) ∧ Below w3.heap.size w3 wx)) (fun vi _ => lost - (intOf vi).toNat)
    case atStart => exact ⟨0, _, by omega, rfl, H5.out.row, fun j hj => absurd hj (by omega), fun j _ => rfl, H5.out.bel⟩
    case round =>
      obtain ⟨i, y, hi, rfl, HI⟩ := hrel
      rename World => wA
      by_cases hlt : i < lost
      · have hib : (i : Int) < (lost : Int) := by omega
        have hin : (i : Int) < ((N1 : Nat) : Int) := by omega
        have hi0 : (0 : Int) ≤ (i : Int) := by omega
        have hcc := HI.out.1.cell i (by omega)
        have hff := HI.out.1.free i
        have HR : Hid (RowZ g5 N1 (fun j => if j = i then -1 else y j) (wA.setCell ⟨g5, i, none⟩ (.int .i64 (-1))) ∧ (∀ j, j < i + 1 → (if j = i then (-1 : Int) else y j) = -1) ∧ (∀ j, i + 1 ≤ j → (if j = i then (-1 : Int) else y j) = ((D.ev a (c j) K : Nat) : Int)) ∧ Below w3.heap.size w3 (wA.setCell ⟨g5, i, none⟩ (.int .i64 (-1)))) := by
          refine ⟨HI.out.1.store i (-1) (fun j _ => rfl), fun j hj => ?_, fun j hj => ?_, HI.out.2.2.2.setCell H5.out.ge _⟩
          · by_cases e : j = i
            · rw [if_pos e]
            · rw [if_neg e]; exact HI.out.2.1 j (by omega)
          · rw [if_neg (by omega)]; exact HI.out.2.2.1 j (by omega)
        go_wp2
        go_roundw
        case rel => exact ⟨i + 1, _, by omega, by go_num, HR.out⟩
        case measure => simp [intOf]; omega
      · have hib : ¬ (i : Int) < (lost : Int) := by omega
        have hie : lost = i := by omega
        subst hie
        have HM0 : Hid (MnS D N1 lost lost 0 g5 w3.heap.size (fun i => D.ev a (c i) K) y w3 wA) := by
          have F' := fld HA.out.2.1
          refine ⟨HI.out.1, HI.out.2.1, fun j h1 _ => ?_, fun j h1 _ _ => HI.out.2.2.1 j h1, ?_, by omega, HI.out.2.2.2, H5.out.ge⟩
          · rw [HI.out.2.2.1 j h1]
            exact ⟨by omega, by have := ev_lt F' a (c j) K; omega⟩
          · exact (ct_non lost (fun j hj => by rw [HI.out.2.1 j hj]; rfl)).symm
        clear HI
        go_wp2
        go_loopw [18, 19] (fun vo vi wx => ∃ (i off : Nat) (y : Nat → Int), lost ≤ i ∧ i ≤ lost + T ∧ off ≤ 64 ∧ vo = .int .i64 (off : Nat) ∧ vi = .int .i64 (i : Nat) ∧ Hid (MnS D N1 lost i off g5 w3.heap.size (fun i => D.ev a (c i) K) y w3 wx)) (fun _ vi _ => lost + T - (intOf vi).toNat)
        case atStart => exact ⟨lost, 0, y, Nat.le_refl _, by omega, by omega, rfl, rfl, HM0.out⟩
        case round =>
          clear HM0
          obtain ⟨i, off, y, hli, hi, hoff, rfl, rfl, HI⟩ := hrel
          rename World => wB
          by_cases hlt2 : i < lost + T
          · have hib2 : (i : Int) < (lost : Int) + (T : Int) := by omega
            have hin : (i : Int) < ((N1 : Nat) : Int) := by omega
            have hi0 : (0 : Int) ≤ (i : Int) := by omega
            obtain ⟨j20, hj20⟩ : ∃ j20, j20 = 20 + i := ⟨_, rfl⟩
            have hj20w : 20 + (i : Int) = (j20 : Int) := by omega
            have hj64 : j20 ≤ 200 := by omega
            have hwj : IntKind.i64.wrap (j20 : Int) = (j20 : Int) := wrap_ka (by omega) (by omega)
            have HRaw : Hid (Calls Try.prog 12 #[.slice ao n ca, .int .i64 (j20 : Nat)] wB fun e w' => (∃ r, e = .returned (.int .i64 r) ∧ I64 r) ∧ ∃ k, w' = wB.drewN k) := raw_any (HA.out.1.below (bel_up' H3.out.2.1 HI.out.bel)) (by omega) j20 (by omega)
            clear hj20
            go_wp2_with fail
            refine HRaw.out.mono ?_
            rintro e w6 ⟨⟨r, rfl, hr64⟩, d6, hw6⟩
            have H6 : Hid (Below wB.heap.size wB w6) := by rw [hw6]; exact below_drewN2 (Below.refl _ _) d6
            clear hw6
            obtain ⟨v, hvq, hPv⟩ := HPi.out r D.q hr64 (by omega) (by omega)
            have HPv : Hid (∀ w : World, Calls Try.prog 8 #[.int .i64 r, .int .i64 (D.q : Nat)] w fun e w' => e = .returned (.int .i64 (v : Nat)) ∧ w' = w) := hPv
            clear hPv
            go_wp2_with fail
            refine (HPv.out w6).mono ?_
            rintro e w' ⟨rfl, hw⟩
            have hw := hw.symm
            subst hw
            have hst := HI.out.step H6.out hli (by omega) hvq
            have hrow6 := HI.out.row.below H6.out (by obtain ⟨cap, f, h1, _⟩ := HI.out.row; exact h1.lt)
            have hcc := hrow6.cell i (by omega)
            have hff := hrow6.free i
            have hfew := hst.few
            obtain ⟨yv, hyv⟩ : ∃ yv, yv = y i := ⟨_, rfl⟩
            rw [← hyv] at hcc hst
            rw [← hyv] at hfew
            clear hyv hrow6
            by_cases hvy : ((v : Nat) : Int) = yv
            · have hvz : (((v : Nat) : Int) != yv) = false := by rw [hvy]; simp
              rw [if_pos hvy, Nat.add_zero] at hst
              have HR : Hid (MnS D N1 lost (i + 1) off g5 w3.heap.size (fun i => D.ev a (c i) K) (fun j => if j = i then ((v : Nat) : Int) else y j) w3 (w6.setCell ⟨g5, i, none⟩ (.int .i64 ((v : Nat) : Int)))) := hst
              clear hst hvy hfew
              go_wp2
              go_roundw
              case rel => exact ⟨i + 1, off, _, by omega, by omega, by omega, rfl, by go_num, HR.out⟩
              case measure => simp [intOf]; omega
            · have hvz : (((v : Nat) : Int) != yv) = true := bne_iff_ne.2 hvy
              rw [if_neg hvy] at hst hfew
              have HR : Hid (MnS D N1 lost (i + 1) (off + 1) g5 w3.heap.size (fun i => D.ev a (c i) K) (fun j => if j = i then ((v : Nat) : Int) else y j) w3 (w6.setCell ⟨g5, i, none⟩ (.int .i64 ((v : Nat) : Int)))) := hst
              clear hst hvy
              go_wp2
              go_roundw
              case rel => exact ⟨i + 1, off + 1, _, by omega, by omega, by omega, by go_num, by go_num, HR.out⟩
              case measure => simp [intOf]; omega
          · have hib2 : ¬ (i : Int) < (lost : Int) + (T : Int) := by omega
            have hie2 : i = lost + T := by omega
            rw [hie2] at HI
            obtain ⟨m, c', y', hH, hNr, hofs⟩ := HI.out.near hlT hlT2 H2.out.2.2.2.1 H2.out.2.2.2.2 H3.out.2.2.2.2.1 H3.out.2.2.2.2.2.1
            have HH : Hid (Heard D N1 c y m c' y' ∧ NearH D m K c' y' a ∧ ofs D K m c' y' a = off) := ⟨hH, hNr, hofs⟩
            have HW : Hid (∀ wx, Below wB.heap.size wB wx → Arg (some ⟨gx, 0, none⟩) N1 D.q (fun j => ((c j : Nat) : Int)) wx ∧ Arg (some ⟨g5, 0, none⟩) N1 N1 y wx ∧ Calls Try.prog 54 #[.int .i64 D.q, .slice (some ⟨gx, 0, none⟩) N1 D.q, .int .i64 (K : Nat), .slice (some ⟨g5, 0, none⟩) N1 N1] wx fun e w' => e = .returned (.int .i64 0) ∧ Below wx.heap.size wx w') := fun wx hb => by
              have hb2 := bel_up' H3.out.1 (bel_up' HI.out.bel hb)
              have hrz := HI.out.row.below hb (by obtain ⟨cap, f, h1, _⟩ := HI.out.row; exact h1.lt)
              have h1 : Arg (some ⟨gx, 0, none⟩) N1 D.q (fun j => ((c j : Nat) : Int)) wx := ⟨(H2.out.2.1.below hb2 H2.out.2.2.1).z, H2.out.2.2.1.mono hb2.size, by omega, fun e => (by cases e), hNN.2.2, by omega⟩
              have h2 : Arg (some ⟨g5, 0, none⟩) N1 N1 y wx := ⟨fun j hj => ⟨g5, 0, rfl, by rw [Nat.zero_add]; exact hrz.cell j hj⟩, fun x hx => by cases hx; obtain ⟨cap, f, h1, _⟩ := hrz; exact h1.lt, by omega, fun e => (by cases e), Nat.le_refl _, by omega⟩
              refine ⟨h1, h2, ?_⟩
              have h := word_any HA.out.2.1 (K : Nat) h1 h2
              rw [wchk_fine hNN.1 hNN.2.1 hK1 hK2 H2.out.2.2.2.1 H2.out.2.2.2.2 (wok_all HI.out)] at h
              exact h
            have HSo : Hid (∀ wx, Below wB.heap.size wB wx → Calls Try.prog 13 #[.int .i64 D.q, .slice (some ⟨gx, 0, none⟩) N1 D.q, .int .i64 (K : Nat), .slice (some ⟨g5, 0, none⟩) N1 N1] wx fun e w' => Below wx.heap.size wx w' ∧ ∃ vo vc, e = .returned (.tuple #[.slice vo K vc, .int .i64 (off : Nat), .bool true, .int .i64 0]) ∧ SliceI (.slice vo K vc) (zl K fun j => ((a j : Nat) : Int)) w' ∧ LtB vo w'.heap.size) := fun wx hb => by
              obtain ⟨h1, h2, h3⟩ := HW.out wx hb
              refine (solve_ok HA.out.2.1 h1 h2 hNN.2.1 hK1 hK2 h3 HH.out.1).mono ?_
              rintro e w' ⟨hb', ⟨b, hb1, v, rfl, hv⟩ | ⟨hno, _⟩⟩
              · have e := hb1.one HA.out.2.1 HH.out.1 HH.out.2.1
                subst e
                rw [HH.out.2.2]
                obtain ⟨vo, vc, rfl, hva⟩ := hv.arg (by omega)
                exact ⟨hb', vo, vc, rfl, hv.sliceI (by omega), hva.lt⟩
              · exact absurd HH.out.2.1 (hno a)
            have HEu : Hid (∀ wx, Below wB.heap.size wB wx → Calls Try.prog 14 #[.int .i64 D.q, .slice (some ⟨gx, 0, none⟩) N1 D.q, .int .i64 (K : Nat), .slice (some ⟨g5, 0, none⟩) N1 N1] wx fun e w' => Below wx.heap.size wx w' ∧ ∃ vo vc, e = .returned (.tuple #[.slice vo K vc, .int .i64 (off : Nat), .bool true, .int .i64 0]) ∧ SliceI (.slice vo K vc) (zl K fun j => ((a j : Nat) : Int)) w' ∧ LtB vo w'.heap.size) := fun wx hb => by
              obtain ⟨h1, h2, h3⟩ := HW.out wx hb
              refine (euclid_ok HA.out.2.1 h1 h2 hNN.2.1 hK1 hK2 h3 HH.out.1).mono ?_
              rintro e w' ⟨hb', ⟨b, hb1, v, rfl, hv⟩ | ⟨hno, _⟩⟩
              · have e := hb1.one HA.out.2.1 HH.out.1 HH.out.2.1
                subst e
                rw [HH.out.2.2]
                obtain ⟨vo, vc, rfl, hva⟩ := hv.arg (by omega)
                exact ⟨hb', vo, vc, rfl, hv.sliceI (by omega), hva.lt⟩
              · exact absurd HH.out.2.1 (hno a)
            have HB3 : Hid (Below w3.heap.size w3 wB) := HI.out.bel
            clear hH hNr hofs hie2 HI
            go_wp2_with fail
            refine (HSo.out wB (Below.refl _ _)).mono ?_
            rintro e w7 ⟨hb7, so, sc, rfl, hs7, hl7⟩
            have H7 : Hid (Below wB.heap.size wB w7 ∧ KI (.slice so K sc) (zl K fun j => ((a j : Nat) : Int)) w7) := ⟨hb7, hs7, fun k hk => by cases so with | none => cases hk | some x => (have hk : some x.block = some k := hk; cases hk; exact hl7 x rfl)⟩
            clear hb7 hs7 hl7
            go_wp2_with fail
            refine (HEu.out w7 H7.out.1).mono ?_
            rintro e w8 ⟨hb8, eo, ec, rfl, hs8, _⟩
            have H8 : Hid (Below w.heap.size w w8 ∧ SliceI (.slice so K sc) (zl K fun j => ((a j : Nat) : Int)) w8 ∧ SliceI (.slice eo K ec) (zl K fun j => ((a j : Nat) : Int)) w8 ∧ SliceI (.slice uo K uc) (zl K fun j => ((a j : Nat) : Int)) w8) := by
              have hb38 := bel_up' HB3.out (bel_up' H7.out.1 hb8)
              refine ⟨bel_up' H3.out.2.1 hb38, (H7.out.2.below hb8).1, hs8, ?_⟩
              rw [← H3.out.2.2.2.1]
              exact arg_sliceI (H3.out.2.2.1.below hb38) (Nat.le_refl _)
            clear hb8 hs8
            have HS1 : Hid (Calls Try.prog 15 #[.slice so K sc, .slice uo K uc] w8 fun e w' => e = .returned (.bool true) ∧ ∃ n, w' = w8.drewN n) := by
              have h := same_any H8.out.2.1 H8.out.2.2.2
              rw [decide_eq_true rfl] at h; exact h
            have HS2 : Hid (∀ d, Calls Try.prog 15 #[.slice eo K ec, .slice uo K uc] (w8.drewN d) fun e w' => e = .returned (.bool true) ∧ ∃ n, w' = (w8.drewN d).drewN n) := fun d => by
              have h := same_any (H8.out.2.2.1.drewN d) (H8.out.2.2.2.drewN d)
              rw [decide_eq_true rfl] at h; exact h
            have hoo : ((off : Int) == (off : Int)) = true := by simp
            go_wp2_with fail
            refine HS1.out.mono ?_
            rintro e w9 ⟨rfl, d9, hw9⟩
            subst hw9
            go_wp2_with fail
            refine (HS2.out d9).mono ?_
            rintro e w10 ⟨rfl, d10, hw10⟩
            have H10 : Hid (Below w.heap.size w w10) := by rw [hw10]; exact below_drewN2 (below_drewN2 H8.out.1 d9) d10
            clear hw10
            go_wp2
            go_ret
            exact ⟨rfl, H10.out⟩
end Go.Proofs.Ytcgmllamiaflcaa
