/- Texts of ours, one behind the other: K6 K7. -/
import Derived.Test.YtbpeahhhkcljeaaZL12
import Derived.Test.YtbpeahhhkcljeaaZI4
import Derived.Test.YtbpeahhhkcljeaaZI18
/- Codes out of raw numbers (Few, CodeOf). -/
namespace Go.Proofs.Ytbpeahhhkcljeaa
open Go.RowKit Go.Sort

theorem fewR_le {q i k : Nat} (hq : 1 ≤ q) (h : i ≤ k) : q ^ i ≤ q ^ k := Nat.pow_le_pow_right hq h
/-- What Few tells. -/
def FewP (q k : Nat) (w : World) (e : Ending) (w' : World) : Prop := ∃ b, e = .returned (.bool b) ∧ (b = true ↔ q ^ k ≤ 4096) ∧ w' = w
set_option maxHeartbeats 2000000 in
theorem fewR_any (q k : Nat) (hq : 1 ≤ q) (hq2 : q ≤ 64) (hk : k ≤ 1000000) (w : World) :
    Calls Try.prog 84 #[.int .i64 (q : Nat), .int .i64 (k : Nat)] w (FewP q k w) := by
  go_enter Try.func84, Try.ntmps84
  go_wp2
  go_loopw [5, 6] (fun vn vi wr => ∃ i x : Nat, i ≤ k ∧ vi = .int .i64 i ∧ vn = .int .i64 (x : Nat) ∧ x ≤ 4096 ∧ Hid (x = q ^ i) ∧ wr = w) (fun _ vi _ => k - (intOf vi).toNat)
  case atStart => exact ⟨0, 1, by omega, rfl, rfl, by omega, by show 1 = q ^ 0; simp, rfl⟩
  case round =>
    obtain ⟨i, x, hi, rfl, rfl, hx, HX, hw⟩ := hrel
    have hw := hw.symm
    subst hw
    by_cases hlt : i < k
    · have hib : (i : Int) < (k : Int) := by omega
      obtain ⟨y, hy⟩ : ∃ y, y = x * q := ⟨_, rfl⟩
      have hy2 : y ≤ 4096 * 64 := by rw [hy]; exact Nat.mul_le_mul hx hq2
      have hwr : IntKind.i64.wrap ((x : Int) * (q : Int)) = (y : Int) := wrap_to (by rw [hy]; simp) (by omega)
      have HY : Hid (y = q ^ (i + 1)) := by show y = _; rw [hy, HX.out, Nat.pow_succ]
      clear hy
      by_cases hf : y ≤ 4096
      · have hfb : ¬ (y : Int) > 4096 := by omega
        have hfb2 : ¬ (4096 : Int) < (y : Int) := by omega
        go_wp2
        go_roundw
        case rel => exact ⟨i + 1, y, by omega, by go_num, by first | rfl | simp [hwr], hf, HY.out, by first | rfl | trivial⟩
        case measure => simp [intOf]; omega
      · have hfb : (y : Int) > 4096 := by omega
        have hfb2 : (4096 : Int) < (y : Int) := by omega
        have HNo : Hid (¬ q ^ k ≤ 4096) := by
          show ¬ _
          have := fewR_le hq (show i + 1 ≤ k by omega)
          rw [← HY.out] at this
          omega
        go_wp2
        go_ret
        exact ⟨false, rfl, ⟨fun h => Bool.noConfusion h, fun h => absurd h HNo.out⟩, rfl⟩
    · have hib : ¬ (i : Int) < (k : Int) := by omega
      have hie : i = k := by omega
      subst hie
      have HYes : Hid (q ^ i ≤ 4096) := by show q ^ i ≤ 4096; rw [← HX.out]; exact hx
      go_wp2
      go_ret
      exact ⟨true, rfl, ⟨fun _ => HYes.out, fun _ => rfl⟩, rfl⟩

theorem blw_mchk6 {D : FD} {m c : Nat} {Z : Nat → Nat → Int} (hm : m ≤ 64) (hc0 : 1 ≤ c) (hc : c ≤ 64) (h : ∀ i, i < m → Blw D.q c (Z i)) : D.mchk m (fun _ => c) Z = 0 := by
  refine mchk_of hm (fun i hi => ?_)
  unfold FD.mrow
  rw [if_neg (by omega), if_neg (by omega), if_pos]
  refine allHas_iff.2 (fun j hj => ?_)
  have := h i hi j hj
  unfold FD.has
  rw [decide_eq_true_eq]; exact this
theorem pick_nat6 {m : Int} {k : Nat} (hk : 0 < k) : ∃ M : Nat, pick m (k : Int) = (M : Int) ∧ M < k := by
  have h1 := pick_lo m (k : Int) (by omega)
  have h2 := pick_hi m (k : Int) (by omega)
  exact ⟨(pick m (k : Int)).toNat, by omega, by omega⟩
/-- Rows of raw numbers are rows of a code. -/
theorem MkS.cdz {D : FD} {base n r : Nat} {v : Value} {vs : Nat → Value} {Z : Nat → Nat → Int} {w : World} (h : MkS base D.q n r v vs Z w) (hr : r ≤ 64) (hn1 : 1 ≤ n) (hn : n ≤ 64) : ∃ mo mc, v = .slice mo r mc ∧ CdZ D mo r n (fun j => slA (vs j)) (fun _ => n) (fun j => slC (vs j)) Z w := by
  obtain ⟨mo, mc, rfl, hz⟩ := h.matZ (by omega)
  exact ⟨mo, mc, rfl, hz, blw_mchk6 hr hn1 hn h.blw, fun _ => rfl, hn1, hn⟩
/-- The sizes of which CodeOf takes one. -/
theorem small_field : ∀ P : Nat, P < 6 → ∃ D ∈ fieldsL, ([2, 2, 3, 4, 5, 8] : List Nat).getD P 0 = D.q ∧ D.q ≤ 8 := by
  have h : ([2, 2, 3, 4, 5, 8] : List Nat).all (fun z => fieldsL.any fun D => D.q == z) = true := by decide +kernel
  intro P hP
  have hm : ([2, 2, 3, 4, 5, 8] : List Nat).getD P 0 ∈ ([2, 2, 3, 4, 5, 8] : List Nat) ∧ ([2, 2, 3, 4, 5, 8] : List Nat).getD P 0 ≤ 8 := by
    have : P = 0 ∨ P = 1 ∨ P = 2 ∨ P = 3 ∨ P = 4 ∨ P = 5 := by omega
    rcases this with rfl | rfl | rfl | rfl | rfl | rfl <;> decide
  have h2 := List.all_eq_true.1 h _ hm.1
  obtain ⟨D, hD, he⟩ := List.any_eq_true.1 h2
  have he := eq_of_beq he
  exact ⟨D, hD, he.symm, by rw [he]; exact hm.2⟩
end Go.Proofs.Ytbpeahhhkcljeaa

/- Codes in hand: what was told is handed in again (Sum, Meet, Make, Dual). -/
namespace Go.Proofs.Ytbpeahhhkcljeaa
open Go.RowKit Go.Sort

/-- A code that can be handed in, of the rows M. -/
def Cod (D : FD) (n : Nat) (ao : Option Addr) (m : Nat) (M : Nat → Nat → Nat) (w : World) : Prop := ∃ A N C Z, CdZ D ao m n A N C Z w ∧ ∀ i, i < m → mzc N Z i = M i
theorem Cod.below {D : FD} {n m : Nat} {ao : Option Addr} {M : Nat → Nat → Nat} {w w' : World} (h : Cod D n ao m M w) (hb : Below w.heap.size w w') : Cod D n ao m M w' := by
  obtain ⟨A, N, C, Z, h1, h2⟩ := h
  exact ⟨A, N, C, Z, h1.below hb, h2⟩
theorem Cod.rows {D : FD} (F : Fld D) {n m : Nat} {ao : Option Addr} {M : Nat → Nat → Nat} {w : World} (h : Cod D n ao m M w) : m ≤ 64 ∧ (1 ≤ n ∧ n ≤ 64) ∧ ∀ i, i < m → El D (M i) ∧ Bd n (M i) := by
  obtain ⟨A, N, C, Z, h1, h2⟩ := h
  obtain ⟨g1, g2, g3, _⟩ := h1.rows F
  exact ⟨g1, ⟨h1.n1, h1.n64⟩, fun i hi => by rw [← h2 i hi]; exact ⟨g2 i hi, g3 i hi⟩⟩
theorem MV.cod {D : FD} {B n k : Nat} {ro : Option Addr} {rc : Nat} {R : Nat → Nat → Nat} {w : World} (h : MV B (.slice ro k rc) k n R w) (hn1 : 1 ≤ n) (hn : n ≤ 64) (hk : k ≤ 64) (he : ∀ i, i < k → El D (R i)) (hb : ∀ i, i < k → Bd n (R i)) : Cod D n ro k R w := by
  obtain ⟨A, C, hc⟩ := (h.rlz (by omega)).cdz (D := D) hn1 hn hk he
  exact ⟨A, _, C, _, hc, fun i hi => mzc_rows hb i hi⟩
theorem Cod.chk {D : FD} (hD : D ∈ fieldsL) {n m : Nat} (ca : Nat) {ao : Option Addr} {M : Nat → Nat → Nat} {w : World} (h : Cod D n ao m M w) (wx : World) (hx : Below w.heap.size w wx) :
    Calls Try.prog 26 #[.agg #[.int .i64 D.q, .int .i64 (n : Nat), .slice ao m ca]] wx fun x w' => x = .returned (.int .i64 0) ∧ Below wx.heap.size wx w' := by
  obtain ⟨A, N, C, Z, h1, _⟩ := h.below hx
  have e : D.cchk (n : Nat) m N Z = 0 := by
    have a1 := h1.n1
    have a2 := h1.n64
    unfold FD.cchk
    rw [if_neg (by omega), h1.chk, if_neg (fun h => h rfl), if_neg]
    rintro ⟨b1, b2⟩
    exact b2 (by rw [h1.wd b1])
  have := ccheck_any hD (ca := ca) (n : Nat) h1.mat (h1.few (fld hD))
  rw [e] at this
  exact this
theorem Red.of_eq {D : FD} {n m k : Nat} {M M' R : Nat → Nat → Nat} (h : Red D n m M k R) (e : ∀ i, i < m → M i = M' i) : Red D n m M' k R := by
  obtain ⟨p, h1, h2⟩ := h
  exact ⟨p, h1, fun v => (h2 v).trans (rows_congr e v)⟩
theorem Cod.make {D : FD} (hD : D ∈ fieldsL) {n m : Nat} (ca : Nat) {ao : Option Addr} {M : Nat → Nat → Nat} {w : World} (h : Cod D n ao m M w) :
    Calls Try.prog 24 #[.agg #[.int .i64 D.q, .int .i64 (n : Nat), .slice ao m ca]] w fun x w' => ∃ k R ro rc, x = .returned (.tuple #[.agg #[.int .i64 D.q, .int .i64 (n : Nat), .slice ro k rc], .int .i64 0]) ∧ (Cod D n ro k R w' ∧ RL (.slice ro k rc) k n R w') ∧ Red D n m M k R ∧ Below w.heap.size w w' := by
  have hr := h.rows (fld hD)
  have hc := h.chk hD ca
  obtain ⟨A, N, C, Z, h1, h2⟩ := h
  refine (cMake_ok hD h1 hc).mono ?_
  rintro x w' ⟨k, R, ro, rc, rfl, hmv, hred, hb⟩
  have hkn := hred.le
  exact ⟨k, R, ro, rc, rfl, ⟨hmv.cod hr.2.1.1 hr.2.1.2 (by omega) hred.rows.1 hred.rows.2, hmv.rl⟩, hred.of_eq h2, hb⟩
theorem Cod.dual {D : FD} (hD : D ∈ fieldsL) {n m : Nat} (ca : Nat) {ao : Option Addr} {M : Nat → Nat → Nat} {w : World} (h : Cod D n ao m M w) :
    Calls Try.prog 25 #[.agg #[.int .i64 D.q, .int .i64 (n : Nat), .slice ao m ca]] w fun x w' => ∃ k R ro rc, x = .returned (.tuple #[.agg #[.int .i64 D.q, .int .i64 (n : Nat), .slice ro k rc], .int .i64 0]) ∧ (Cod D n ro k R w' ∧ RL (.slice ro k rc) k n R w') ∧ Dul D n m M k R ∧ Below w.heap.size w w' := by
  have hr := h.rows (fld hD)
  have hc := h.chk hD ca
  obtain ⟨A, N, C, Z, h1, h2⟩ := h
  refine (cDual_ok hD h1 hc).mono ?_
  rintro x w' ⟨k, R, ro, rc, rfl, hmv, hdu, hb⟩
  have hkn := hdu.le
  exact ⟨k, R, ro, rc, rfl, ⟨hmv.cod hr.2.1.1 hr.2.1.2 (by omega) hdu.rows.1 hdu.rows.2, hmv.rl⟩, hdu.of_spn (fun v => rows_congr h2 v), hb⟩
theorem Cod.chkBoth {D : FD} (hD : D ∈ fieldsL) {n m m' : Nat} (ca cb : Nat) {ao bo : Option Addr} {M M' : Nat → Nat → Nat} {w : World} (h : Cod D n ao m M w) (h' : Cod D n bo m' M' w) (wx : World) (hx : Below w.heap.size w wx) :
    Calls Try.prog 79 #[.agg #[.int .i64 D.q, .int .i64 (n : Nat), .slice ao m ca], .agg #[.int .i64 D.q, .int .i64 (n : Nat), .slice bo m' cb]] wx fun x w' => x = .returned (.int .i64 0) ∧ Below wx.heap.size wx w' := by
  refine (checkBoth_any 0 0 D.q D.q (n : Nat) (n : Nat) (fun wy hy => h.chk hD ca wy (bel_up' hx hy)) (fun wy hy => h'.chk hD cb wy (bel_up' hx hy))).mono ?_
  rintro x w' ⟨rfl, hb⟩
  exact ⟨by rw [cboth, if_neg (fun h => h rfl), if_neg (fun h => h rfl), if_neg (by simp)], hb⟩
theorem apr_congr {m m' : Nat} {A A' B B' : Nat → Nat → Nat} (ha : ∀ i, i < m → A i = A' i) (hb : ∀ i, i < m' → B i = B' i) : ∀ i, i < m + m' → apr m A B i = apr m A' B' i := fun i hi => by
  unfold apr
  by_cases e : i < m
  · rw [if_pos e, if_pos e, ha i e]
  · rw [if_neg e, if_neg e, hb (i - m) (by omega)]
theorem Cod.sum {D : FD} (hD : D ∈ fieldsL) {n m m' : Nat} (ca cb : Nat) {ao bo : Option Addr} {M M' : Nat → Nat → Nat} {w : World} (h : Cod D n ao m M w) (h' : Cod D n bo m' M' w) :
    Calls Try.prog 34 #[.agg #[.int .i64 D.q, .int .i64 (n : Nat), .slice ao m ca], .agg #[.int .i64 D.q, .int .i64 (n : Nat), .slice bo m' cb]] w fun x w' => ∃ k R ro rc, x = .returned (.tuple #[.agg #[.int .i64 D.q, .int .i64 (n : Nat), .slice ro k rc], .int .i64 0]) ∧ (Cod D n ro k R w' ∧ RL (.slice ro k rc) k n R w') ∧ Red D n (m + m') (apr m M M') k R ∧ Below w.heap.size w w' := by
  have hr := h.rows (fld hD)
  have hc := h.chkBoth hD ca cb h'
  obtain ⟨A, N, C, Z, h1, h2⟩ := h
  obtain ⟨A', N', C', Z', h1', h2'⟩ := h'
  refine (cSum_ok hD h1 h1' hc).mono ?_
  rintro x w' ⟨k, R, ro, rc, rfl, hmv, hred, hb⟩
  have hkn := hred.le
  exact ⟨k, R, ro, rc, rfl, ⟨hmv.cod hr.2.1.1 hr.2.1.2 (by omega) hred.rows.1 hred.rows.2, hmv.rl⟩, hred.of_eq (apr_congr h2 h2'), hb⟩
/-- A code's variable, newly made. -/
theorem box_at (q n : Int) (v : Value) (w : World) : Below w.heap.size w (w.alloc (.cells #[.int .i64 q, .int .i64 n, v] 43)) ∧ CB w.heap.size q n v (w.alloc (.cells #[.int .i64 q, .int .i64 n, v] 43)) ∧ (w.alloc (.cells #[.int .i64 q, .int .i64 n, v] 43)).heap.size = w.heap.size + 1 :=
  ⟨(Below.refl _ _).alloc (Nat.le_refl _) _, CB.new _ _ _ _, by simp⟩
end Go.Proofs.Ytbpeahhhkcljeaa
