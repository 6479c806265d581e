/- Texts of ours, one behind the other: I36 K6 K7 I37 S19 I38 I39 I40 I41 I42 I43 I44 S20 KA1 KA2 KA3 KA4 KA5 KA6 KA7 S23 S24 S25 S27 S28 KD1 W13 KD2 KD3 KD4 KD5 KD6 KD7 KD8 KD9. -/
import Derived.Test.YtpgldgicblhjiaaZI21
import Derived.Test.YtpgldgicblhjiaaZL12
import Derived.Test.YtpgldgicblhjiaaZI3
import Derived.Test.YtpgldgicblhjiaaZI12
import Derived.Test.YtpgldgicblhjiaaZT1
import Derived.Test.YtpgldgicblhjiaaZW4
import Derived.Test.YtpgldgicblhjiaaZQ1
import Derived.Test.YtpgldgicblhjiaaZV7
import Derived.Test.YtpgldgicblhjiaaZA1
import Derived.Test.YtpgldgicblhjiaaZR3
import Derived.Test.YtpgldgicblhjiaaZM3
import Derived.Test.YtpgldgicblhjiaaZN1
import Derived.Deep.CutBlock
import Derived.Deep.DeepCutAuto
import Derived.Test.YtpgldgicblhjiaaZR9
/- Shorten, with its check. -/
namespace Go.Proofs.Ytpgldgicblhjiaa
open Go.RowKit Go.Sort

/-- The one form of the words that are 0 at place a, without it. -/
def ShR (D : FD) (N1 a m : Nat) (M : Nat → Nat → Nat) (k : Nat) (R : Nat → Nat → Nat) : Prop := ∃ p, RRE D N1 k R p ∧ ∀ u, Spn D (RowsOf k R) u ↔ El D u ∧ Bd N1 u ∧ Spn D (RowsOf m M) (wi a u)
theorem ShR.uniq {D : FD} (F : Fld D) {N1 a m k k' : Nat} {M R R' : Nat → Nat → Nat} (h : ShR D N1 a m M k R) (h' : ShR D N1 a m M k' R') : k = k' ∧ ∀ i, i < k → R i = R' i := by
  obtain ⟨p, h1, h2⟩ := h
  obtain ⟨p', h1', h2'⟩ := h'
  exact Red.uniq F (m := k) (M := R) (m' := k') (M' := R') ⟨p, h1, fun _ => Iff.rfl⟩ ⟨p', h1', fun _ => Iff.rfl⟩ (fun v => (h2 v).trans (h2' v).symm)
theorem ShR.le {D : FD} {N1 a m k : Nat} {M R : Nat → Nat → Nat} (h : ShR D N1 a m M k R) : k ≤ N1 := by
  obtain ⟨p, h1, h2⟩ := h
  exact Red.le (m := k) (M := R) ⟨p, h1, fun _ => Iff.rfl⟩

end Go.Proofs.Ytpgldgicblhjiaa

/- Codes out of raw numbers (Few, CodeOf). -/
namespace Go.Proofs.Ytpgldgicblhjiaa
open Go.RowKit Go.Sort

theorem fewR_le {q i k : Nat} (hq : 1 ≤ q) (h : i ≤ k) : q ^ i ≤ q ^ k := Nat.pow_le_pow_right hq h
/-- What Few tells. -/
def FewP (q k : Nat) (w : World) (e : Ending) (w' : World) : Prop := ∃ b, e = .returned (.bool b) ∧ (b = true ↔ q ^ k ≤ 4096) ∧ w' = w
set_option maxHeartbeats 2000000 in
theorem fewR_any (q k : Nat) (hq : 1 ≤ q) (hq2 : q ≤ 64) (hk : k ≤ 1000000) (w : World) :
    Calls Try.prog 32 #[.int .i64 (q : Nat), .int .i64 (k : Nat)] w (FewP q k w) := by
  go_enter Try.func32, Try.ntmps32
  go_wp2
  go_loopw [5, 6] (fun vn vi wr => ∃ i x : Nat, i ≤ k ∧ vi = .int .i64 i ∧ vn = .int .i64 (x : Nat) ∧ x ≤ 4096 ∧ Hid (x = q ^ i) ∧ wr = w) (fun _ vi _ => k - (intOf vi).toNat)
  case atStart => exact ⟨0, 1, by omega, rfl, rfl, by omega, by show 1 = q ^ 0; simp, rfl⟩
  case round =>
    obtain ⟨i, x, hi, rfl, rfl, hx, HX, hw⟩ := hrel
    have hw := hw.symm
    subst hw
    by_cases hlt : i < k
    · have hib : (i : Int) < (k : Int) := by omega
      obtain ⟨y, hy⟩ : ∃ y, y = x * q := ⟨_, rfl⟩
      have hy2 : y ≤ 4096 * 64 := by rw [hy]; exact Nat.mul_le_mul hx hq2
      have hwr : IntKind.i64.wrap ((x : Int) * (q : Int)) = (y : Int) := wrap_to (by rw [hy]; simp) (by omega)
      have HY : Hid (y = q ^ (i + 1)) := by show y = _; rw [hy, HX.out, Nat.pow_succ]
      clear hy
      by_cases hf : y ≤ 4096
      · have hfb : ¬ (y : Int) > 4096 := by omega
        have hfb2 : ¬ (4096 : Int) < (y : Int) := by omega
        go_wp2
        go_roundw
        case rel => exact ⟨i + 1, y, by omega, by go_num, by first | rfl | simp [hwr], hf, HY.out, by first | rfl | trivial⟩
        case measure => simp [intOf]; omega
      · have hfb : (y : Int) > 4096 := by omega
        have hfb2 : (4096 : Int) < (y : Int) := by omega
        have HNo : Hid (¬ q ^ k ≤ 4096) := by
          show ¬ _
          have := fewR_le hq (show i + 1 ≤ k by omega)
          rw [← HY.out] at this
          omega
        go_wp2
        go_ret
        exact ⟨false, rfl, ⟨fun h => Bool.noConfusion h, fun h => absurd h HNo.out⟩, rfl⟩
    · have hib : ¬ (i : Int) < (k : Int) := by omega
      have hie : i = k := by omega
      subst hie
      have HYes : Hid (q ^ i ≤ 4096) := by show q ^ i ≤ 4096; rw [← HX.out]; exact hx
      go_wp2
      go_ret
      exact ⟨true, rfl, ⟨fun _ => HYes.out, fun _ => rfl⟩, rfl⟩

theorem blw_mchk6 {D : FD} {m c : Nat} {Z : Nat → Nat → Int} (hm : m ≤ 64) (hc0 : 1 ≤ c) (hc : c ≤ 64) (h : ∀ i, i < m → Blw D.q c (Z i)) : D.mchk m (fun _ => c) Z = 0 := by
  refine mchk_of hm (fun i hi => ?_)
  unfold FD.mrow
  rw [if_neg (by omega), if_neg (by omega), if_pos]
  refine allHas_iff.2 (fun j hj => ?_)
  have := h i hi j hj
  unfold FD.has
  rw [decide_eq_true_eq]; exact this
/-- Rows of raw numbers are rows of a code. -/
theorem MkS.cdz {D : FD} {base n r : Nat} {v : Value} {vs : Nat → Value} {Z : Nat → Nat → Int} {w : World} (h : MkS base D.q n r v vs Z w) (hr : r ≤ 64) (hn1 : 1 ≤ n) (hn : n ≤ 64) : ∃ mo mc, v = .slice mo r mc ∧ CdZ D mo r n (fun j => slA (vs j)) (fun _ => n) (fun j => slC (vs j)) Z w := by
  obtain ⟨mo, mc, rfl, hz⟩ := h.matZ (by omega)
  exact ⟨mo, mc, rfl, hz, blw_mchk6 hr hn1 hn h.blw, fun _ => rfl, hn1, hn⟩
end Go.Proofs.Ytpgldgicblhjiaa

/- Codes in hand: what was told is handed in again (Sum, Meet, Make, Dual). -/
namespace Go.Proofs.Ytpgldgicblhjiaa
open Go.RowKit Go.Sort

/-- A code that can be handed in, of the rows M. -/
def Cod (D : FD) (n : Nat) (ao : Option Addr) (m : Nat) (M : Nat → Nat → Nat) (w : World) : Prop := ∃ A N C Z, CdZ D ao m n A N C Z w ∧ ∀ i, i < m → mzc N Z i = M i
theorem Cod.below {D : FD} {n m : Nat} {ao : Option Addr} {M : Nat → Nat → Nat} {w w' : World} (h : Cod D n ao m M w) (hb : Below w.heap.size w w') : Cod D n ao m M w' := by
  obtain ⟨A, N, C, Z, h1, h2⟩ := h
  exact ⟨A, N, C, Z, h1.below hb, h2⟩
theorem Cod.rows {D : FD} (F : Fld D) {n m : Nat} {ao : Option Addr} {M : Nat → Nat → Nat} {w : World} (h : Cod D n ao m M w) : m ≤ 64 ∧ (1 ≤ n ∧ n ≤ 64) ∧ ∀ i, i < m → El D (M i) ∧ Bd n (M i) := by
  obtain ⟨A, N, C, Z, h1, h2⟩ := h
  obtain ⟨g1, g2, g3, _⟩ := h1.rows F
  exact ⟨g1, ⟨h1.n1, h1.n64⟩, fun i hi => by rw [← h2 i hi]; exact ⟨g2 i hi, g3 i hi⟩⟩
theorem MV.cod {D : FD} {B n k : Nat} {ro : Option Addr} {rc : Nat} {R : Nat → Nat → Nat} {w : World} (h : MV B (.slice ro k rc) k n R w) (hn1 : 1 ≤ n) (hn : n ≤ 64) (hk : k ≤ 64) (he : ∀ i, i < k → El D (R i)) (hb : ∀ i, i < k → Bd n (R i)) : Cod D n ro k R w := by
  obtain ⟨A, C, hc⟩ := (h.rlz (by omega)).cdz (D := D) hn1 hn hk he
  exact ⟨A, _, C, _, hc, fun i hi => mzc_rows hb i hi⟩
theorem Cod.chk {D : FD} (hD : D ∈ fieldsL) {n m : Nat} (ca : Nat) {ao : Option Addr} {M : Nat → Nat → Nat} {w : World} (h : Cod D n ao m M w) (wx : World) (hx : Below w.heap.size w wx) :
    Calls Try.prog 45 #[.agg #[.int .i64 D.q, .int .i64 (n : Nat), .slice ao m ca]] wx fun x w' => x = .returned (.int .i64 0) ∧ Below wx.heap.size wx w' := by
  obtain ⟨A, N, C, Z, h1, _⟩ := h.below hx
  have e : D.cchk (n : Nat) m N Z = 0 := by
    have a1 := h1.n1
    have a2 := h1.n64
    unfold FD.cchk
    rw [if_neg (by omega), h1.chk, if_neg (fun h => h rfl), if_neg]
    rintro ⟨b1, b2⟩
    exact b2 (by rw [h1.wd b1])
  have := ccheck_any hD (ca := ca) (n : Nat) h1.mat (h1.few (fld hD))
  rw [e] at this
  exact this
theorem Red.of_eq {D : FD} {n m k : Nat} {M M' R : Nat → Nat → Nat} (h : Red D n m M k R) (e : ∀ i, i < m → M i = M' i) : Red D n m M' k R := by
  obtain ⟨p, h1, h2⟩ := h
  exact ⟨p, h1, fun v => (h2 v).trans (rows_congr e v)⟩
theorem Cod.make {D : FD} (hD : D ∈ fieldsL) {n m : Nat} (ca : Nat) {ao : Option Addr} {M : Nat → Nat → Nat} {w : World} (h : Cod D n ao m M w) :
    Calls Try.prog 22 #[.agg #[.int .i64 D.q, .int .i64 (n : Nat), .slice ao m ca]] w fun x w' => ∃ k R ro rc, x = .returned (.tuple #[.agg #[.int .i64 D.q, .int .i64 (n : Nat), .slice ro k rc], .int .i64 0]) ∧ (Cod D n ro k R w' ∧ RL (.slice ro k rc) k n R w') ∧ Red D n m M k R ∧ Below w.heap.size w w' := by
  have hr := h.rows (fld hD)
  have hc := h.chk hD ca
  obtain ⟨A, N, C, Z, h1, h2⟩ := h
  refine (cMake_ok hD h1 hc).mono ?_
  rintro x w' ⟨k, R, ro, rc, rfl, hmv, hred, hb⟩
  have hkn := hred.le
  exact ⟨k, R, ro, rc, rfl, ⟨hmv.cod hr.2.1.1 hr.2.1.2 (by omega) hred.rows.1 hred.rows.2, hmv.rl⟩, hred.of_eq h2, hb⟩
theorem Cod.dual {D : FD} (hD : D ∈ fieldsL) {n m : Nat} (ca : Nat) {ao : Option Addr} {M : Nat → Nat → Nat} {w : World} (h : Cod D n ao m M w) :
    Calls Try.prog 19 #[.agg #[.int .i64 D.q, .int .i64 (n : Nat), .slice ao m ca]] w fun x w' => ∃ k R ro rc, x = .returned (.tuple #[.agg #[.int .i64 D.q, .int .i64 (n : Nat), .slice ro k rc], .int .i64 0]) ∧ (Cod D n ro k R w' ∧ RL (.slice ro k rc) k n R w') ∧ Dul D n m M k R ∧ Below w.heap.size w w' := by
  have hr := h.rows (fld hD)
  have hc := h.chk hD ca
  obtain ⟨A, N, C, Z, h1, h2⟩ := h
  refine (cDual_ok hD h1 hc).mono ?_
  rintro x w' ⟨k, R, ro, rc, rfl, hmv, hdu, hb⟩
  have hkn := hdu.le
  exact ⟨k, R, ro, rc, rfl, ⟨hmv.cod hr.2.1.1 hr.2.1.2 (by omega) hdu.rows.1 hdu.rows.2, hmv.rl⟩, hdu.of_spn (fun v => rows_congr h2 v), hb⟩
end Go.Proofs.Ytpgldgicblhjiaa

/- A row less another, wherever they lie (the reference's less). -/
namespace Go.Proofs.Ytpgldgicblhjiaa
open Go.RowKit Go.Sort

end Go.Proofs.Ytpgldgicblhjiaa

/- Plain mathematics: words with one number more, so that all together are 0. No Go text here. -/
namespace Go.Proofs.Ytpgldgicblhjiaa

end Go.Proofs.Ytpgldgicblhjiaa

/- Words that are 0 at a place, without it (the reference's Shortened). -/
namespace Go.Proofs.Ytpgldgicblhjiaa
open Go.RowKit Go.Sort

/-- The row that is not 0 there, if one was met. -/
def OneV (va : Nat → Value) (M : Nat → Nat → Nat) (a i : Nat) (v : Value) : Prop := match shF M a i with
  | none => v = .slice none 0 0
  | some f => v = va f
theorem OneV.none {va : Nat → Value} {M : Nat → Nat → Nat} {a i : Nat} {v : Value} (h : OneV va M a i v) (e : shF M a i = none) : v = .slice none 0 0 := by unfold OneV at h; rw [e] at h; exact h
theorem OneV.some {va : Nat → Value} {M : Nat → Nat → Nat} {a i f : Nat} {v : Value} (h : OneV va M a i v) (e : shF M a i = some f) : v = va f := by unfold OneV at h; rw [e] at h; exact h
theorem OneV.stay {va : Nat → Value} {M : Nat → Nat → Nat} {a i : Nat} {v : Value} (h : OneV va M a i v) (e : shF M a (i + 1) = shF M a i) : OneV va M a (i + 1) v := by unfold OneV at h ⊢; rw [e]; exact h
end Go.Proofs.Ytpgldgicblhjiaa

/- Words with one number more (the reference's Extended). -/
namespace Go.Proofs.Ytpgldgicblhjiaa
open Go.RowKit Go.Sort

end Go.Proofs.Ytpgldgicblhjiaa

/- Extend (the program's). -/
namespace Go.Proofs.Ytpgldgicblhjiaa
open Go.RowKit Go.Sort

end Go.Proofs.Ytpgldgicblhjiaa

/- CodeSays: a code without a place, shortened, extended (the law's helper codeTurned). -/
namespace Go.Proofs.Ytpgldgicblhjiaa
open Go.RowKit Go.Sort

/-- A code that the reference tells, where S says 0: of K's one form. -/
def ToldR (S q : Int) (nn base : Nat) (K : Nat → (Nat → Nat → Nat) → Prop) (qa na : Int) (o : Option Addr) (k c : Nat) (w : World) : Prop := S = 0 → qa = q ∧ na = ((nn + 1 : Nat) : Int) ∧ k ≤ 64 ∧ ∃ R, LLs base (.slice o k c) (rl k nn R) w ∧ K k R
/-- A code that the program tells. -/
def ToldP (S q : Int) (nn : Nat) (K : Nat → (Nat → Nat → Nat) → Prop) (qa na : Int) (o : Option Addr) (k c : Nat) (w : World) : Prop := (S = 0 → qa = q ∧ na = ((nn + 1 : Nat) : Int) ∧ k ≤ 64 ∧ ∃ R, RL (.slice o k c) k (nn + 1) R w ∧ K k R) ∧ (S ≠ 0 → qa = 0 ∧ na = 0 ∧ o = none ∧ k = 0 ∧ c = 0)
theorem ToldR.below {S q : Int} {nn base : Nat} {K : Nat → (Nat → Nat → Nat) → Prop} {qa na : Int} {o : Option Addr} {k c : Nat} {w w' : World} (h : ToldR S q nn base K qa na o k c w) (hb : Below w.heap.size w w') : ToldR S q nn base K qa na o k c w' := fun e => by
  obtain ⟨h1, h2, h3, R, h4, h5⟩ := h e
  exact ⟨h1, h2, h3, R, h4.below hb (Nat.le_refl _), h5⟩
theorem ToldR.laid {S q : Int} {nn base : Nat} {K : Nat → (Nat → Nat → Nat) → Prop} {qa na : Int} {o : Option Addr} {k c b : Nat} {w : World} (h : ToldR S q nn base K qa na o k c w) (ht : RBt b w) (x y : Int) (u : Value) : ToldR S q nn base K qa na o k c (laid w b x y u) := fun e => by
  obtain ⟨h1, h2, h3, R, h4, h5⟩ := h e
  exact ⟨h1, h2, h3, R, h4.laid ht x y u, h5⟩
theorem ToldP.below {S q : Int} {nn : Nat} {K : Nat → (Nat → Nat → Nat) → Prop} {qa na : Int} {o : Option Addr} {k c : Nat} {w w' : World} (h : ToldP S q nn K qa na o k c w) (hb : Below w.heap.size w w') : ToldP S q nn K qa na o k c w' := ⟨fun e => by
  obtain ⟨h1, h2, h3, R, h4, h5⟩ := h.1 e
  exact ⟨h1, h2, h3, R, h4.below hb, h5⟩, h.2⟩
end Go.Proofs.Ytpgldgicblhjiaa

/- CodeSays: codeTurned, where there is an error and where there is none. -/
namespace Go.Proofs.Ytpgldgicblhjiaa
open Go.RowKit Go.Sort

end Go.Proofs.Ytpgldgicblhjiaa

/- CodeSays: the walk, the ways of an error and of a code joined. -/
namespace Go.Proofs.Ytpgldgicblhjiaa
open Go.RowKit Go.Sort

/-- A code's variable that holds what the reference tells, or nothing. -/
def ToldZ (S q : Int) (nn base : Nat) (K : Nat → (Nat → Nat → Nat) → Prop) (qa na : Int) (o : Option Addr) (k c : Nat) (w : World) : Prop := ToldR S q nn base K qa na o k c w ∧ (S ≠ 0 → qa = 0 ∧ na = 0 ∧ o = none ∧ k = 0 ∧ c = 0)
theorem ToldZ.below {S q : Int} {nn base : Nat} {K : Nat → (Nat → Nat → Nat) → Prop} {qa na : Int} {o : Option Addr} {k c : Nat} {w w' : World} (h : ToldZ S q nn base K qa na o k c w) (hb : Below w.heap.size w w') : ToldZ S q nn base K qa na o k c w' := ⟨h.1.below hb, h.2⟩

end Go.Proofs.Ytpgldgicblhjiaa

/- CodeSays: whatever is handed in. -/
namespace Go.Proofs.Ytpgldgicblhjiaa
open Go.RowKit Go.Sort

end Go.Proofs.Ytpgldgicblhjiaa

/- Plain mathematics: how many sets there are; Krawtchouk's numbers. No Go text here. -/
namespace Go.Proofs.Ytpgldgicblhjiaa

end Go.Proofs.Ytpgldgicblhjiaa

/- Weights: powers and numbers of sets (the program's power, over). -/
namespace Go.Proofs.Ytpgldgicblhjiaa
open Go.RowKit

end Go.Proofs.Ytpgldgicblhjiaa

/- Weights: Krawtchouk's numbers (the program's krawtchouk). -/
namespace Go.Proofs.Ytpgldgicblhjiaa
open Go.RowKit

end Go.Proofs.Ytpgldgicblhjiaa

/- Weights: Krawtchouk's numbers (the reference's Kraw). -/
namespace Go.Proofs.Ytpgldgicblhjiaa
open Go.RowKit

/-- Whole numbers, below 0 too, in a row of the call's own. -/
def RowZ (g N : Nat) (z : Nat → Int) (w : World) : Prop := ∃ cap f, RowF g cap 3 f w ∧ N ≤ cap ∧ ∀ k, k < N → f k = .int .i64 (z k)
theorem RowZ.of {g N : Nat} {c : Nat → Nat} {w : World} (h : Row g N c w) : RowZ g N (fun k => ((c k : Nat) : Int)) w := by
  obtain ⟨cap, f, h1, h2, h3⟩ := h
  exact ⟨cap, f, h1, h2, h3⟩
theorem RowZ.cell {g N : Nat} {z : Nat → Int} {w : World} (h : RowZ g N z w) (k : Nat) (hk : k < N) : w.cell? ⟨g, k, none⟩ = some (.int .i64 (z k)) := by
  obtain ⟨cap, f, h1, h2, h3⟩ := h
  rw [h1.cell k (by omega), h3 k hk]
theorem RowZ.free {g N : Nat} {z : Nat → Int} {w : World} (h : RowZ g N z w) (k : Nat) : w.frozen? ⟨g, k, none⟩ = false := by
  obtain ⟨cap, f, h1, h2, h3⟩ := h
  exact h1.free k
theorem RowZ.store {g N : Nat} {z y : Nat → Int} {w : World} (h : RowZ g N z w) (k : Nat) (v : Int) (hd : ∀ j, j < N → y j = if j = k then v else z j) : RowZ g N y (w.setCell ⟨g, k, none⟩ (.int .i64 v)) := by
  obtain ⟨cap, f, h1, h2, h3⟩ := h
  refine ⟨cap, _, h1.store k _, h2, fun j hj => ?_⟩
  unfold upd
  rw [hd j hj]
  by_cases e : j = k
  · rw [if_pos e, if_pos e]
  · rw [if_neg e, if_neg e, h3 j hj]
theorem RowZ.congr {g N : Nat} {z y : Nat → Int} {w : World} (h : RowZ g N z w) (e : ∀ k, k < N → z k = y k) : RowZ g N y w := by
  obtain ⟨cap, f, h1, h2, h3⟩ := h
  exact ⟨cap, f, h1, h2, fun k hk => by rw [h3 k hk, e k hk]⟩
theorem RowZ.below {g N B : Nat} {z : Nat → Int} {w w' : World} (h : RowZ g N z w) (hb : Below B w w') (hB : g < B) : RowZ g N z w' := by
  obtain ⟨cap, f, h1, h2, h3⟩ := h
  exact ⟨cap, f, h1.below hb hB, h2, h3⟩
end Go.Proofs.Ytpgldgicblhjiaa

/- Weights: what is said of a size and a length, on both sides (Check, CountMay). -/
namespace Go.Proofs.Ytpgldgicblhjiaa
open Go.RowKit

end Go.Proofs.Ytpgldgicblhjiaa

/- Weights: sums and looks by closures (the program's times, found, outside; Shows' closures). -/
namespace Go.Proofs.Ytpgldgicblhjiaa
open Go.RowKit Go.Sort

end Go.Proofs.Ytpgldgicblhjiaa

/- Weights: what Shows asks of its closures (outside, found, Shows$1, Shows$1$1, Shows$2, checkDistance). -/
namespace Go.Proofs.Ytpgldgicblhjiaa
open Go.RowKit Go.Sort

/-- The boxes of Shows that its closures read. -/
structure ShB (Bf Bq Bn q n : Nat) (ao : Option Addr) (cap : Nat) (f : Nat → Int) (w : World) : Prop where
  cf : w.cell? ⟨Bf, 0, none⟩ = some (.slice ao (n + 1) cap)
  cq : w.cell? ⟨Bq, 0, none⟩ = some (.int .i64 (q : Nat))
  cn : w.cell? ⟨Bn, 0, none⟩ = some (.int .i64 (n : Nat))
  sl : SlZ ao (n + 1) f w
  lf : Bf < w.heap.size
  lq : Bq < w.heap.size
  ln : Bn < w.heap.size
  la : LtB ao w.heap.size
theorem ShB.below {Bf Bq Bn q n : Nat} {ao : Option Addr} {cap : Nat} {f : Nat → Int} {w w' : World} (h : ShB Bf Bq Bn q n ao cap f w) (hb : Below w.heap.size w w') : ShB Bf Bq Bn q n ao cap f w' :=
  ⟨((bcell hb).1 Bf 0 h.lf).trans h.cf, ((bcell hb).1 Bq 0 h.lq).trans h.cq, ((bcell hb).1 Bn 0 h.ln).trans h.cn, h.sl.below hb h.la, Nat.lt_of_lt_of_le h.lf hb.size, Nat.lt_of_lt_of_le h.lq hb.size, Nat.lt_of_lt_of_le h.ln hb.size, h.la.mono hb.size⟩

end Go.Proofs.Ytpgldgicblhjiaa

/- Weights: Shows of the program. -/
namespace Go.Proofs.Ytpgldgicblhjiaa
open Go.RowKit Go.Sort

end Go.Proofs.Ytpgldgicblhjiaa

/- Plain mathematics: sets that are great and meet little are few (Johnson). No Go text here. -/
namespace Go.Proofs.Ytpgldgicblhjiaa

theorem ct_mono {p p' : Nat → Bool} : ∀ n, (∀ i, i < n → p i = true → p' i = true) → ct p n ≤ ct p' n
  | 0, _ => Nat.le_refl _
  | n + 1, h => by
    have h1 := ct_mono n (fun i hi => h i (by omega))
    have h2 := h n (by omega)
    show ct p n + (if p n = true then 1 else 0) ≤ ct p' n + if p' n = true then 1 else 0
    by_cases e : p n = true
    · rw [if_pos e, if_pos (h2 e)]; omega
    · rw [if_neg e]; omega
end Go.Proofs.Ytpgldgicblhjiaa

/- Plain mathematics of Sudan's sum: a message that agrees at many places makes it nought. No Go text here. -/
namespace Go.Proofs.Ytpgldgicblhjiaa
open Go.RowKit Go.Sort

/-- Horner's way. -/
def hrn (D : FD) (A : Nat → Nat) (y m : Nat) : Nat → Nat
  | 0 => 0
  | r + 1 => D.ad (D.mul (hrn D A y m r) y) (A (m - 1 - r))
end Go.Proofs.Ytpgldgicblhjiaa

/- Plain mathematics of Sudan's sum, second part: the curve of a message that agrees at t places is nought. No Go text here. -/
namespace Go.Proofs.Ytpgldgicblhjiaa
open Go.RowKit Go.Sort

end Go.Proofs.Ytpgldgicblhjiaa

/- Plain mathematics of words that are mended: one near message; what meets the equations; the error locator. No Go text here. -/
namespace Go.Proofs.Ytpgldgicblhjiaa
open Go.RowKit Go.Sort

theorem ct_or (p q : Nat → Bool) : ∀ n, ct (fun i => p i || q i) n ≤ ct p n + ct q n
  | 0 => Nat.le_refl _
  | n + 1 => by
    have := ct_or p q n
    show ct (fun i => p i || q i) n + (if (p n || q n) = true then 1 else 0) ≤ ct p n + (if p n = true then 1 else 0) + (ct q n + if q n = true then 1 else 0)
    cases p n <;> cases q n <;> simp <;> omega
/-- At how many places a message's word differs. -/
def ofs (D : FD) (k n : Nat) (xs y a : Nat → Nat) : Nat := ct (fun i => !decide (D.ev a (xs i) k = y i)) n
/-- Two near messages are one. -/
theorem near_one {D : FD} (F : Fld D) {xs y a b : Nat → Nat} {n k : Nat} (hk : k ≤ n) (hx : ∀ i, i < n → xs i < D.q) (hne : ∀ i j, i < n → j < n → i ≠ j → xs i ≠ xs j) (ha : El D a) (hb : El D b) (hba : Bd k a) (hbb : Bd k b) (h1 : 2 * ofs D k n xs y a ≤ n - k) (h2 : 2 * ofs D k n xs y b ≤ n - k) : a = b := by
  refine Classical.byContradiction fun h => ?_
  have h3 := far_apart F hx hne ha hb hba hbb h
  have h4 : ct (fun i => !decide (D.ev a (xs i) k = D.ev b (xs i) k)) n ≤ ct (fun i => !decide (D.ev a (xs i) k = y i) || !decide (D.ev b (xs i) k = y i)) n := ct_mono n fun i _ he => by
    by_cases e1 : D.ev a (xs i) k = y i
    · by_cases e2 : D.ev b (xs i) k = y i
      · rw [e1, e2] at he
        simp at he
      · simp [e2]
    · simp [e1]
  have h5 := ct_or (fun i => !decide (D.ev a (xs i) k = y i)) (fun i => !decide (D.ev b (xs i) k = y i)) n
  unfold ofs at h1 h2
  omega
/-- Whatever meets the equations is the message times its second part. -/
theorem key_eq {D : FD} (F : Fld D) {xs y a N E : Nat → Nat} {n k wr M : Nat} (hM1 : k + wr ≤ M) (hM2 : M + wr ≤ n) (hx : ∀ i, i < n → xs i < D.q) (hne : ∀ i j, i < n → j < n → i ≠ j → xs i ≠ xs j) (hN : El D N) (hbN : Bd M N) (hE : El D E) (hbE : Bd (wr + 1) E) (ho : ofs D k n xs y a ≤ wr) (he : ∀ i, i < n → D.ev N (xs i) M = D.mul (y i) (D.ev E (xs i) (wr + 1))) : N = pmul D k a E := by
  have hd : El D (psub D N (pmul D k a E)) := el_sub F hN (el_mul F _ _ _)
  have hpb : Bd (k + wr) (pmul D k a E) := by
    have := pmul_bd F (a := a) hbE k
    rw [show k + (wr + 1) - 1 = k + wr by omega] at this
    exact this
  have hbd : Bd M (psub D N (pmul D k a E)) := fun j hj => by
    show D.sb (N j) (pmul D k a E j) = 0
    rw [hbN j hj, hpb j (by omega), sb_self F (zero_lt' F)]
  refine psub_eq_nil F hN (el_mul F _ _ _) (Classical.byContradiction fun h0 => ?_)
  have h1 := few_roots F hx hne M hd hbd h0
  have h2 : ct (fun i => decide (D.ev a (xs i) k = y i)) n ≤ ct (fun i => decide (D.ev (psub D N (pmul D k a E)) (xs i) M = 0)) n := ct_mono n fun i hi hc => by
    have hc : D.ev a (xs i) k = y i := of_decide_eq_true hc
    refine decide_eq_true ?_
    have e1 : D.ev (pmul D k a E) (xs i) M = D.mul (y i) (D.ev E (xs i) (wr + 1)) := by
      rw [ev_from F (xs i) hpb hM1, ← ev_from F (xs i) hpb (show k + wr ≤ k + (wr + 1) by omega), ev_mul F (xs i) hbE hE k (k + (wr + 1)) (Nat.le_refl _), hc]
    rw [ev_sub F (xs i) hN (el_mul F _ _ _), he i hi, e1, sb_self F (F.mul_lt _ _)]
  have h3 := ct_not (fun i => decide (D.ev a (xs i) k = y i)) n
  unfold ofs at ho
  omega

end Go.Proofs.Ytpgldgicblhjiaa

/- Plain mathematics of Euclid's way to mend a word: what stays as it goes on; what stands at its end. No Go text here. -/
namespace Go.Proofs.Ytpgldgicblhjiaa
open Go.RowKit Go.Sort

/-- What stays: A, B the last two remainders; S, T what the second polynomial is multiplied by. -/
structure Euc (D : FD) (n : Nat) (xs y : Nat → Nat) (A B S T : Nat → Nat) (lA lB lS lT : Nat) : Prop where
  eA : El D A
  eB : El D B
  eS : El D S
  eT : El D T
  tA : Trd lA A
  tB : Trd lB B
  bS : Bd lS S
  tT : Trd lT T
  lt : lB < lA
  ls : lS < lT
  sum : lT + lA = n + 2
  atA : ∀ i, i < n → ∀ N, lA ≤ N → ∀ M, lS ≤ M → D.ev A (xs i) N = D.mul (y i) (D.ev S (xs i) M)
  atB : ∀ i, i < n → ∀ N, lB ≤ N → ∀ M, lT ≤ M → D.ev B (xs i) N = D.mul (y i) (D.ev T (xs i) M)
/-- One step further: A = Q B + C. -/
theorem Euc.step {D : FD} (F : Fld D) {n : Nat} {xs y A B S T Q C : Nat → Nat} {lA lB lS lT lQ lC : Nat} (h : Euc D n xs y A B S T lA lB lS lT) (tQ : Trd lQ Q) (eC : El D C) (tC : Trd lC C) (hC : lC < lB) (hA : A = padd D (pmul D lQ Q B) C) (hl : lQ + lB = lA + 1) :
    Euc D n xs y B C T (psub D S (pmul D lQ Q T)) lB lC lT (lQ + lT - 1) := by
  have hq2 : 2 ≤ lQ := by have := h.lt; omega
  have hT1 : 1 ≤ lT := by have := h.ls; omega
  have hbQT : Bd (lQ + lT - 1) (pmul D lQ Q T) := pmul_bd F h.tT.1 lQ
  have htop : pmul D lQ Q T (lQ + lT - 2) ≠ 0 := by
    obtain ⟨q1, rfl⟩ : ∃ q1, lQ = q1 + 1 := ⟨lQ - 1, by omega⟩
    obtain ⟨t1, rfl⟩ : ∃ t1, lT = t1 + 1 := ⟨lT - 1, by omega⟩
    have e := pmul_top F (a := Q) (n := q1) h.tT.1
    rw [show q1 + 1 + (t1 + 1) - 2 = q1 + t1 by omega, e]
    intro hz
    have hQ1 : Q q1 ≠ 0 := by have := tQ.2 (by omega); rwa [Nat.add_sub_cancel] at this
    have hT2 : T t1 ≠ 0 := by have := h.tT.2 (by omega); rwa [Nat.add_sub_cancel] at this
    exact hT2 (mul_cancel F hQ1 (h.eT _) (zero_lt' F) (by rw [hz, mul0 F]))
  have hS0 : ∀ j, lT ≤ j → S j = 0 := fun j hj => h.bS j (by have := h.ls; omega)
  refine ⟨h.eB, eC, h.eT, el_sub F h.eS (el_mul F _ _ _), h.tB, tC, h.tT.1, ⟨fun j hj => ?_, fun _ => ?_⟩, hC, by omega, by have := h.sum; omega, h.atB, fun i hi N hN M hM => ?_⟩
  · show D.sb (S j) (pmul D lQ Q T j) = 0
    rw [hS0 j (by omega), hbQT j hj, sb_self F (zero_lt' F)]
  · show D.sb (S (lQ + lT - 1 - 1)) (pmul D lQ Q T (lQ + lT - 1 - 1)) ≠ 0
    rw [hS0 _ (by omega), show lQ + lT - 1 - 1 = lQ + lT - 2 by omega]
    intro hz
    exact htop (sb_eq_zero F (zero_lt' F) (el_mul F _ _ _ _) hz).symm
  · -- at a place
    have hbB : Bd (lQ + lB - 1) (pmul D lQ Q B) := pmul_bd F h.tB.1 lQ
    have e1 : D.ev A (xs i) (lQ + lB) = D.ad (D.mul (D.ev Q (xs i) lQ) (D.ev B (xs i) lB)) (D.ev C (xs i) (lQ + lB)) := by
      rw [hA, ev_add F (xs i) (el_mul F _ _ _) eC, ev_mul F (xs i) h.tB.1 h.eB lQ (lQ + lB) (Nat.le_refl _)]
    have e2 := h.atA i hi (lQ + lB) (by omega) lT (by have := h.ls; omega)
    have e3 := h.atB i hi lB (Nat.le_refl _) lT (Nat.le_refl _)
    have e4 : D.ev C (xs i) N = D.ev C (xs i) (lQ + lB) := by
      rw [ev_from F (xs i) tC.1 hN, ev_from F (xs i) tC.1 (show lC ≤ lQ + lB by omega)]
    have hbT' : Bd (lQ + lT - 1) (psub D S (pmul D lQ Q T)) := fun j hj => by
      show D.sb (S j) (pmul D lQ Q T j) = 0
      rw [hS0 j (by omega), hbQT j hj, sb_self F (zero_lt' F)]
    have e5 : D.ev (psub D S (pmul D lQ Q T)) (xs i) M = D.sb (D.ev S (xs i) lT) (D.mul (D.ev Q (xs i) lQ) (D.ev T (xs i) lT)) := by
      rw [ev_from F (xs i) hbT' hM, ← ev_from F (xs i) hbT' (show lQ + lT - 1 ≤ lQ + lT by omega), ev_sub F (xs i) h.eS (el_mul F _ _ _), ev_mul F (xs i) h.tT.1 h.eT lQ (lQ + lT) (Nat.le_refl _), ev_from F (xs i) h.bS (show lS ≤ lQ + lT by have := h.ls; omega), ev_from F (xs i) h.bS (show lS ≤ lT by have := h.ls; omega)]
    have hS := ev_lt F S (xs i) lT
    have hQT := F.mul_lt (D.ev Q (xs i) lQ) (D.ev T (xs i) lT)
    have hCv := ev_lt F C (xs i) (lQ + lB)
    rw [e4, e5, mul_sb F hS hQT]
    -- C = A - Q B
    have e6 : D.ad (D.mul (D.ev Q (xs i) lQ) (D.mul (y i) (D.ev T (xs i) lT))) (D.ev C (xs i) (lQ + lB)) = D.mul (y i) (D.ev S (xs i) lT) := by
      rw [← e3, ← e1, e2]
    have e7 : D.mul (y i) (D.mul (D.ev Q (xs i) lQ) (D.ev T (xs i) lT)) = D.mul (D.ev Q (xs i) lQ) (D.mul (y i) (D.ev T (xs i) lT)) := by
      rw [← F.mul_assoc, F.mul_comm (y i), F.mul_assoc]
    rw [e7, ← e6, ad_comm F, sb_ad F hCv (F.mul_lt _ _)]
/-- Where it ends, the last remainder is the message times what stands beside it. -/
theorem Euc.last {D : FD} (F : Fld D) {n k : Nat} {xs y A B S T a : Nat → Nat} {lA lB lS lT : Nat} (h : Euc D n xs y A B S T lA lB lS lT) (hk : k ≤ n) (hA : n + k + 2 ≤ 2 * lA) (hB : 2 * lB < n + k + 2) (hx : ∀ i, i < n → xs i < D.q) (hne : ∀ i j, i < n → j < n → i ≠ j → xs i ≠ xs j) (ho : 2 * ofs D k n xs y a ≤ n - k) : B = pmul D k a T := by
  obtain ⟨wr, hwr⟩ : ∃ wr, wr = (n - k) / 2 := ⟨_, rfl⟩
  have h1 : lT ≤ wr + 1 := by have := h.sum; omega
  refine key_eq F (a := a) (y := y) (M := n - wr) (wr := wr) (by omega) (by omega) hx hne h.eB (fun j hj => h.tB.1 j (by omega)) h.eT (fun j hj => h.tT.1 j (by omega)) (by omega) (fun i hi => ?_)
  exact h.atB i hi (n - wr) (by omega) (wr + 1) h1
end Go.Proofs.Ytpgldgicblhjiaa

/- The program's reed: quotient, spare. -/
namespace Go.Proofs.Ytpgldgicblhjiaa
open Go.RowKit Go.Sort

end Go.Proofs.Ytpgldgicblhjiaa

/- A region that draws its order and whose late operations, which wait for all that read, write what others read. No Go text here. -/
namespace Go.Proofs.Ytpgldgicblhjiaa
open Go

end Go.Proofs.Ytpgldgicblhjiaa

/- The program's reed: hear (printed by make/kd2.py). -/
namespace Go.Proofs.Ytpgldgicblhjiaa
open Go.RowKit Go.Sort

/-- What a step of hear reads. -/
def hrR (B bx ox i : Nat) (vx vy : Value) (x : Int) (w : World) : Prop := w.cell? ⟨B, 2, none⟩ = some vx ∧ w.cell? ⟨B, 3, none⟩ = some vy ∧ w.cell? ⟨bx, ox + i, none⟩ = some (.int .i64 x)
/-- The numbers of a list at places where nothing is lost. -/
def hrL (z y : Nat → Int) : Nat → List Int
  | 0 => []
  | r + 1 => if y r = -1 then hrL z y r else hrL z y r ++ [z r]
/-- The cells of what was heard. -/
def hbx (F : Nat) (k : Int) (vx vy : Value) : Nat → Value := fun j => if j = 0 then .pointer (some ⟨F, 0, none⟩) else if j = 1 then .int .i64 k else if j = 2 then vx else vy
end Go.Proofs.Ytpgldgicblhjiaa

/- The program's reed: noughtAt. -/
namespace Go.Proofs.Ytpgldgicblhjiaa
open Go.RowKit Go.Sort

end Go.Proofs.Ytpgldgicblhjiaa

/- The program's reed: byDivisors. -/
namespace Go.Proofs.Ytpgldgicblhjiaa
open Go.RowKit Go.Sort

end Go.Proofs.Ytpgldgicblhjiaa

/- The program's reed: the walk of byDivisors. -/
namespace Go.Proofs.Ytpgldgicblhjiaa
open Go.RowKit Go.Sort

end Go.Proofs.Ytpgldgicblhjiaa

/- The program's reed: equation (the row of one place). -/
namespace Go.Proofs.Ytpgldgicblhjiaa
open Go.RowKit Go.Sort

end Go.Proofs.Ytpgldgicblhjiaa

/- What was heard of a word: numbers and places, as functions. -/
namespace Go.Proofs.Ytpgldgicblhjiaa
open Go.RowKit Go.Sort

/-- What hear tells, as functions. -/
structure Heard (D : FD) (n : Nat) (c : Nat → Nat) (y : Nat → Int) (m : Nat) (c' y' : Nat → Nat) : Prop where
  lx : hrL (fun i => ((c i : Nat) : Int)) y n = zl m fun j => ((c' j : Nat) : Int)
  ly : hrL y y n = zl m fun j => ((y' j : Nat) : Int)
  le : m ≤ n
  cq : ∀ j, j < m → c' j < D.q
  ne : ∀ i j, i < m → j < m → i ≠ j → c' i ≠ c' j
  yq : ∀ j, j < m → y' j < D.q
  many : m = ct (fun i => !decide (y i = -1)) n
  ofs : ∀ k a, ofs D k m c' y' a = ct (fun i => !decide (y i = -1) && !decide (((D.ev a (c i) k : Nat) : Int) = y i)) n
end Go.Proofs.Ytpgldgicblhjiaa

/- The program's reed: mend (printed by make/kd8.py). -/
namespace Go.Proofs.Ytpgldgicblhjiaa
open Go.RowKit Go.Sort

/-- A message is near what was heard. -/
def NearH (D : FD) (m k : Nat) (c y a : Nat → Nat) : Prop := El D a ∧ Bd k a ∧ k ≤ m ∧ 2 * ofs D k m c y a ≤ m - k
end Go.Proofs.Ytpgldgicblhjiaa

/- The program's reed: Euclid. -/
namespace Go.Proofs.Ytpgldgicblhjiaa
open Go.RowKit Go.Sort

/-- Two near messages are one. -/
theorem NearH.one {D : FD} (hD : D ∈ fieldsL) {n m k : Nat} {c c' y' a b : Nat → Nat} {y : Nat → Int} (hH : Heard D n c y m c' y') (ha : NearH D m k c' y' a) (hb : NearH D m k c' y' b) : a = b :=
  Go.Proofs.Ytpgldgicblhjiaa.near_one (fld hD) ha.2.2.1 hH.cq hH.ne ha.1 hb.1 ha.2.1 hb.2.1 ha.2.2.2 hb.2.2.2
end Go.Proofs.Ytpgldgicblhjiaa
