/- Texts of ours, one behind the other: K6 K7 K8 W12 K9 E7. -/
import Derived.Test.YtppggchhkckobaaGreatZX18
import Derived.Test.YtppggchhkckobaaGreatZI3
import Derived.Test.YtppggchhkckobaaGreatZI18
import Derived.Test.YtppggchhkckobaaGreatZI5
import Derived.Test.YtppggchhkckobaaGreatZS3
import Derived.Test.YtppggchhkckobaaGreatZS11
import Derived.Test.YtppggchhkckobaaGreatZI25
/- Codes out of raw numbers (Few, CodeOf). -/
namespace Go.Proofs.YtppggchhkckobaaGreat
open Go.RowKit Go.Sort

theorem fewR_le {q i k : Nat} (hq : 1 ≤ q) (h : i ≤ k) : q ^ i ≤ q ^ k := Nat.pow_le_pow_right hq h
/-- What Few tells. -/
def FewP (q k : Nat) (w : World) (e : Ending) (w' : World) : Prop := ∃ b, e = .returned (.bool b) ∧ (b = true ↔ q ^ k ≤ 4096) ∧ w' = w
set_option maxHeartbeats 2000000 in
theorem fewR_any (q k : Nat) (hq : 1 ≤ q) (hq2 : q ≤ 64) (hk : k ≤ 1000000) (w : World) :
    Calls Tryz.prog 28 #[.int .i64 (q : Nat), .int .i64 (k : Nat)] w (FewP q k w) := by
  go_enter Tryz.func28, Tryz.ntmps28
  go_wp2
  go_loopw [5, 6] (fun vn vi wr => ∃ i x : Nat, i ≤ k ∧ vi = .int .i64 i ∧ vn = .int .i64 (x : Nat) ∧ x ≤ 4096 ∧ Hid (x = q ^ i) ∧ wr = w) (fun _ vi _ => k - (intOf vi).toNat)
  case atStart => exact ⟨0, 1, by omega, rfl, rfl, by omega, by show 1 = q ^ 0; simp, rfl⟩
  case round =>
    obtain ⟨i, x, hi, rfl, rfl, hx, HX, hw⟩ := hrel
    have hw := hw.symm
    subst hw
    by_cases hlt : i < k
    · have hib : (i : Int) < (k : Int) := by omega
      obtain ⟨y, hy⟩ : ∃ y, y = x * q := ⟨_, rfl⟩
      have hy2 : y ≤ 4096 * 64 := by rw [hy]; exact Nat.mul_le_mul hx hq2
      have hwr : IntKind.i64.wrap ((x : Int) * (q : Int)) = (y : Int) := wrap_to (by rw [hy]; simp) (by omega)
      have HY : Hid (y = q ^ (i + 1)) := by show y = _; rw [hy, HX.out, Nat.pow_succ]
      clear hy
      by_cases hf : y ≤ 4096
      · have hfb : ¬ (y : Int) > 4096 := by omega
        have hfb2 : ¬ (4096 : Int) < (y : Int) := by omega
        go_wp2
        go_roundw
        case rel => exact ⟨i + 1, y, by omega, by go_num, by first | rfl | simp [hwr], hf, HY.out, by first | rfl | trivial⟩
        case measure => simp [intOf]; omega
      · have hfb : (y : Int) > 4096 := by omega
        have hfb2 : (4096 : Int) < (y : Int) := by omega
        have HNo : Hid (¬ q ^ k ≤ 4096) := by
          show ¬ _
          have := fewR_le hq (show i + 1 ≤ k by omega)
          rw [← HY.out] at this
          omega
        go_wp2
        go_ret
        exact ⟨false, rfl, ⟨fun h => Bool.noConfusion h, fun h => absurd h HNo.out⟩, rfl⟩
    · have hib : ¬ (i : Int) < (k : Int) := by omega
      have hie : i = k := by omega
      subst hie
      have HYes : Hid (q ^ i ≤ 4096) := by show q ^ i ≤ 4096; rw [← HX.out]; exact hx
      go_wp2
      go_ret
      exact ⟨true, rfl, ⟨fun _ => HYes.out, fun _ => rfl⟩, rfl⟩

end Go.Proofs.YtppggchhkckobaaGreat

/- Codes in hand: what was told is handed in again (Sum, Meet, Make, Dual). -/
namespace Go.Proofs.YtppggchhkckobaaGreat
open Go.RowKit Go.Sort

/-- A code that can be handed in, of the rows M. -/
def Cod (D : FD) (n : Nat) (ao : Option Addr) (m : Nat) (M : Nat → Nat → Nat) (w : World) : Prop := ∃ A N C Z, CdZ D ao m n A N C Z w ∧ ∀ i, i < m → mzc N Z i = M i
theorem Cod.below {D : FD} {n m : Nat} {ao : Option Addr} {M : Nat → Nat → Nat} {w w' : World} (h : Cod D n ao m M w) (hb : Below w.heap.size w w') : Cod D n ao m M w' := by
  obtain ⟨A, N, C, Z, h1, h2⟩ := h
  exact ⟨A, N, C, Z, h1.below hb, h2⟩
theorem Cod.rows {D : FD} (F : Fld D) {n m : Nat} {ao : Option Addr} {M : Nat → Nat → Nat} {w : World} (h : Cod D n ao m M w) : m ≤ 64 ∧ (1 ≤ n ∧ n ≤ 64) ∧ ∀ i, i < m → El D (M i) ∧ Bd n (M i) := by
  obtain ⟨A, N, C, Z, h1, h2⟩ := h
  obtain ⟨g1, g2, g3, _⟩ := h1.rows F
  exact ⟨g1, ⟨h1.n1, h1.n64⟩, fun i hi => by rw [← h2 i hi]; exact ⟨g2 i hi, g3 i hi⟩⟩
theorem MV.cod {D : FD} {B n k : Nat} {ro : Option Addr} {rc : Nat} {R : Nat → Nat → Nat} {w : World} (h : MV B (.slice ro k rc) k n R w) (hn1 : 1 ≤ n) (hn : n ≤ 64) (hk : k ≤ 64) (he : ∀ i, i < k → El D (R i)) (hb : ∀ i, i < k → Bd n (R i)) : Cod D n ro k R w := by
  obtain ⟨A, C, hc⟩ := (h.rlz (by omega)).cdz (D := D) hn1 hn hk he
  exact ⟨A, _, C, _, hc, fun i hi => mzc_rows hb i hi⟩
theorem Cod.chk {D : FD} (hD : D ∈ fieldsL) {n m : Nat} (ca : Nat) {ao : Option Addr} {M : Nat → Nat → Nat} {w : World} (h : Cod D n ao m M w) (wx : World) (hx : Below w.heap.size w wx) :
    Calls Tryz.prog 96 #[.agg #[.int .i64 D.q, .int .i64 (n : Nat), .slice ao m ca]] wx fun x w' => x = .returned (.int .i64 0) ∧ Below wx.heap.size wx w' := by
  obtain ⟨A, N, C, Z, h1, _⟩ := h.below hx
  have e : D.cchk (n : Nat) m N Z = 0 := by
    have a1 := h1.n1
    have a2 := h1.n64
    unfold FD.cchk
    rw [if_neg (by omega), h1.chk, if_neg (fun h => h rfl), if_neg]
    rintro ⟨b1, b2⟩
    exact b2 (by rw [h1.wd b1])
  have := ccheck_any hD (ca := ca) (n : Nat) h1.mat (h1.few (fld hD))
  rw [e] at this
  exact this
theorem Red.of_eq {D : FD} {n m k : Nat} {M M' R : Nat → Nat → Nat} (h : Red D n m M k R) (e : ∀ i, i < m → M i = M' i) : Red D n m M' k R := by
  obtain ⟨p, h1, h2⟩ := h
  exact ⟨p, h1, fun v => (h2 v).trans (rows_congr e v)⟩
/-- A code's variable, newly made. -/
theorem box_at (q n : Int) (v : Value) (w : World) : Below w.heap.size w (w.alloc (.cells #[.int .i64 q, .int .i64 n, v] 35)) ∧ CB w.heap.size q n v (w.alloc (.cells #[.int .i64 q, .int .i64 n, v] 35)) ∧ (w.alloc (.cells #[.int .i64 q, .int .i64 n, v] 35)).heap.size = w.heap.size + 1 :=
  ⟨(Below.refl _ _).alloc (Nat.le_refl _) _, CB.new _ _ _ _, by simp⟩
end Go.Proofs.YtppggchhkckobaaGreat

/- Codes out of raw numbers (CodeOf). -/
namespace Go.Proofs.YtppggchhkckobaaGreat
open Go.RowKit Go.Sort

end Go.Proofs.YtppggchhkckobaaGreat

/- A region that draws its order: one of two operations comes next. No Go text here. -/
namespace Go.Proofs.YtppggchhkckobaaGreat
open Go

end Go.Proofs.YtppggchhkckobaaGreat

/- Codes in hand: Encode, Has; words of a code and of its dual. -/
namespace Go.Proofs.YtppggchhkckobaaGreat
open Go.RowKit Go.Sort

/-- A word that was told: it can be handed in again. -/
def Wrd (n : Nat) (v : Nat → Nat) (gr c : Nat) (w : World) : Prop := Row gr n v w ∧ n ≤ c ∧ c ≤ 9223372036854775807
theorem Wrd.below {n gr c : Nat} {v : Nat → Nat} {w w' : World} (h : Wrd n v gr c w) (hb : Below w.heap.size w w') : Wrd n v gr c w' := ⟨h.1.below hb h.1.lt, h.2⟩
theorem Wrd.arg {n gr c : Nat} {v : Nat → Nat} {w : World} (h : Wrd n v gr c w) (hn : n ≤ 1000) : Arg (some ⟨gr, 0, none⟩) n c (fun i => ((v i : Nat) : Int)) w :=
  ⟨slz_of (h.1.sl (Nat.le_refl _)), fun x hx => by cases hx; exact h.1.lt, by omega, (fun e => by cases e), h.2.1, h.2.2⟩
theorem enw_spn {D : FD} (F : Fld D) {R : Nat → Nat → Nat} {z : Nat → Nat} {K : Nat} (hR : ∀ i, i < K → El D (R i)) : ∀ k, k ≤ K → Spn D (RowsOf K R) (enw D R z k)
  | 0, _ => spn_nil D _
  | k + 1, h => spn_add F (enw_spn F hR k (by omega)) (spn_scale F _ (spn_mem F (hR k (by omega)) ⟨k, by omega, rfl⟩))
theorem blw_nchk {D : FD} {k : Nat} {y : Nat → Int} (h : Blw D.q k y) : D.nchk k y (k : Nat) = 0 := by
  unfold FD.nchk
  rw [if_neg (fun h => h rfl), if_neg]
  rw [anyB_no k (fun j hj => ?_)]
  · intro e; cases e
  · have hh : D.has (y j) = true := by
      have := h j hj
      unfold FD.has
      rw [decide_eq_true_eq]; exact this
    rw [hh]; rfl
theorem Cod.has {D : FD} (hD : D ∈ fieldsL) {n m gr c : Nat} (ca : Nat) {ao : Option Addr} {M : Nat → Nat → Nat} {v : Nat → Nat} {w : World} (h : Cod D n ao m M w) (hW : Wrd n v gr c w) (hv : El D v) (hs : Spn D (RowsOf m M) v) {k : Nat} {R : Nat → Nat → Nat} (hdu : Dul D n m M k R) :
    Calls Tryz.prog 27 #[.agg #[.int .i64 D.q, .int .i64 (n : Nat), .slice ao m ca], .slice (some ⟨gr, 0, none⟩) n c] w fun x w' => x = .returned (.tuple #[.bool true, .int .i64 0]) ∧ Below w.heap.size w w' := by
  have hr := h.rows (fld hD)
  have hc := h.chk hD ca
  obtain ⟨_, hbd, hd0⟩ := (hdu.back (fld hD) hr.2.2 v).1 hs
  obtain ⟨A, N, C, Z, h1, h2⟩ := h
  have hdu2 : Dul D n m (mzc N Z) k R := hdu.of_spn (fun u => rows_congr (fun i hi => (h2 i hi).symm) u)
  have hk : D.nchk n (fun i => ((v i : Nat) : Int)) (n : Nat) = 0 := blw_nchk (fun j _ => ⟨by omega, by have := hv j; omega⟩)
  have hz : zc n (fun i => ((v i : Nat) : Int)) = v := by
    funext j
    unfold zc
    by_cases e : j < n
    · rw [if_pos e, Int.toNat_natCast]
    · rw [if_neg e, hbd j (by omega)]
  refine (cHas_ok D.q (n : Nat) (k := k) (v := fun i => dot D (R i) v n) (by have := hdu.le; omega) (fun wx hx => ?_)).mono ?_
  · have := cSyn_ok hD (h1.below hx) ((hW.below hx).arg (by omega)) hdu2 hk (fun wy hy => hc wy (bel_up' hx hy))
    rw [hz] at this
    exact this
  · rintro x w' ⟨rfl, hb⟩
    refine ⟨?_, hb⟩
    have h0 : ct (fun i => !decide (((dot D (R i) v n : Nat) : Int) = 0)) k = 0 := ct_none k (fun i hi => by
      have e := hd0 i hi
      simp [e])
    rw [h0]
    rfl
end Go.Proofs.YtppggchhkckobaaGreat

/- TopDual: the walk of the statement, whatever raw numbers it is given. -/
namespace Go.Proofs.YtppggchhkckobaaGreat
open Go.RowKit Go.Sort

theorem Dul.red {D : FD} {n m k : Nat} {M R : Nat → Nat → Nat} (h : Dul D n m M k R) {m' : Nat} {M' : Nat → Nat → Nat} (hs : ∀ v, Spn D (RowsOf k R) v ↔ Spn D (RowsOf m' M') v) : Red D n m' M' k R := by
  obtain ⟨_, _, _, p, _, _, q1, _⟩ := h
  exact ⟨p, q1, hs⟩
/-- The dual's own one form. -/
theorem Dul.own {D : FD} {n m k : Nat} {M R : Nat → Nat → Nat} (h : Dul D n m M k R) : Red D n k R k R := h.red (fun _ => Iff.rfl)

end Go.Proofs.YtppggchhkckobaaGreat
