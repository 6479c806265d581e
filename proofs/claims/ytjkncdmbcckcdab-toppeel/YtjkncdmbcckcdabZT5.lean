/- Texts of ours, one behind the other: T5 T6 T7 T8 T3 X1 X2 X3 X4. -/
import Derived.Test.YtjkncdmbcckcdabZS2
import Derived.Shelf.Abstract
/- The reference's matrices: which may be (MatrixMay). -/
namespace Go.Proofs.Ytjkncdmbcckcdab
open Go.RowKit Go.Sort

/-- A matrix that is handed in: m lists of whatever length. -/
structure MatZ (ao : Option Addr) (m : Nat) (A : Nat → Option Addr) (N C : Nat → Nat) (Z : Nat → Nat → Int) (w : World) : Prop where
  cell : ∀ i, i < m → ∃ b off, ao = some ⟨b, off, none⟩ ∧ w.cell? ⟨b, off + i, none⟩ = some (.slice (A i) (N i) (C i))
  sl : ∀ i, i < m → SlZ (A i) (N i) (Z i) w
  le : ∀ i, i < m → N i ≤ C i
  cap : ∀ i, i < m → C i ≤ 9223372036854775807
  nil : ∀ i, i < m → A i = none → C i = 0
  few : ∀ i, i < m → N i ≤ 1000000
theorem MatZ.below {ao : Option Addr} {m : Nat} {A : Nat → Option Addr} {N C : Nat → Nat} {Z : Nat → Nat → Int} {w w' : World} (h : MatZ ao m A N C Z w) (hb : Below w.heap.size w w') : MatZ ao m A N C Z w' :=
  ⟨fun i hi => by
    obtain ⟨b, off, e, hc⟩ := h.cell i hi
    exact ⟨b, off, e, ((bcell hb).1 b (off + i) (cell_lt hc)).trans hc⟩, fun i hi => slz_below (h.sl i hi) hb, h.le, h.cap, h.nil, h.few⟩
/-- What is said of a row of n numbers, where the first row has n0. -/
def FD.mrow (D : FD) (n0 n : Nat) (z : Nat → Int) : Int := if n ≠ n0 ∨ n = 0 then 3 else if 64 < n then 4 else if D.allHas z n = true then 0 else 2
def FD.mchks (D : FD) (N : Nat → Nat) (Z : Nat → Nat → Int) : Nat → Int
  | 0 => 0
  | k + 1 => if D.mchks N Z k = 0 then D.mrow (N 0) (N k) (Z k) else D.mchks N Z k
/-- What is said of a matrix. -/
def FD.mchk (D : FD) (m : Nat) (N : Nat → Nat) (Z : Nat → Nat → Int) : Int := if 64 < m then 4 else D.mchks N Z m
theorem mchks_keep {D : FD} {N : Nat → Nat} {Z : Nat → Nat → Int} {e : Int} (he : e ≠ 0) {r : Nat} (h : D.mchks N Z r = e) : ∀ d, D.mchks N Z (r + d) = e
  | 0 => h
  | d + 1 => by rw [← Nat.add_assoc, FD.mchks, mchks_keep he h d, if_neg he]
theorem mchks_to {D : FD} {N : Nat → Nat} {Z : Nat → Nat → Int} {e : Int} (he : e ≠ 0) {r m : Nat} (h0 : D.mchks N Z r = 0) (hr : r < m) (hm : ¬ 64 < m) (h : D.mrow (N 0) (N r) (Z r) = e) : D.mchk m N Z = e := by
  unfold FD.mchk
  rw [if_neg hm]
  have h1 : D.mchks N Z (r + 1) = e := by rw [FD.mchks, if_pos h0, h]
  have := mchks_keep he h1 (m - (r + 1))
  rwa [show r + 1 + (m - (r + 1)) = m from by omega] at this
theorem mrow_zero {D : FD} {n0 n : Nat} {z : Nat → Int} (h : D.mrow n0 n z = 0) : n = n0 ∧ 1 ≤ n ∧ n ≤ 64 ∧ D.allHas z n = true := by
  unfold FD.mrow at h
  by_cases h1 : n ≠ n0 ∨ n = 0
  · rw [if_pos h1] at h; cases h
  · rw [if_neg h1] at h
    by_cases h2 : 64 < n
    · rw [if_pos h2] at h; cases h
    · rw [if_neg h2] at h
      by_cases h3 : D.allHas z n = true
      · exact ⟨by omega, by omega, by omega, h3⟩
      · rw [if_neg h3] at h; cases h
theorem mchks_zero {D : FD} {N : Nat → Nat} {Z : Nat → Nat → Int} : ∀ {k : Nat}, D.mchks N Z k = 0 → ∀ i, i < k → D.mrow (N 0) (N i) (Z i) = 0
  | 0, _, i, hi => by omega
  | k + 1, h, i, hi => by
    rw [FD.mchks] at h
    by_cases h0 : D.mchks N Z k = 0
    · rw [if_pos h0] at h
      by_cases e : i = k
      · rw [e]; exact h
      · exact mchks_zero h0 i (by omega)
    · rw [if_neg h0] at h; exact absurd h h0
/-- The numbers of a matrix that may be. -/
def mzc (N : Nat → Nat) (Z : Nat → Nat → Int) : Nat → Nat → Nat := fun i => zc (N i) (Z i)
theorem mchk_rows {D : FD} (F : Fld D) {ao : Option Addr} {m : Nat} {A : Nat → Option Addr} {N C : Nat → Nat} {Z : Nat → Nat → Int} {w : World} (h : D.mchk m N Z = 0) (hA : MatZ ao m A N C Z w) (hm : 0 < m) :
    m ≤ 64 ∧ ∃ n, N 0 = n + 1 ∧ n < 64 ∧ (∀ i, i < m → N i = n + 1 ∧ El D (mzc N Z i) ∧ Bd (n + 1) (mzc N Z i)) ∧ MatR ao m n (mzc N Z) w := by
  unfold FD.mchk at h
  by_cases h64 : 64 < m
  · rw [if_pos h64] at h; cases h
  · rw [if_neg h64] at h
    have hrow := mchks_zero h
    have h0 := mrow_zero (hrow 0 hm)
    obtain ⟨n, hn⟩ : ∃ n, N 0 = n + 1 := ⟨N 0 - 1, by omega⟩
    have key : ∀ i, i < m → N i = n + 1 ∧ D.chk (N i) (Z i) = 0 := fun i hi => by
      have h1 := mrow_zero (hrow i hi)
      refine ⟨by omega, ?_⟩
      unfold FD.chk
      rw [if_neg (by omega), if_pos h1.2.2.2]
    refine ⟨by omega, n, hn, by omega, fun i hi => ⟨(key i hi).1, zc_el F (key i hi).2, by have := zc_bd (N i) (Z i); rw [(key i hi).1] at this; unfold mzc; rw [(key i hi).1]; exact this⟩, fun i hi => ?_⟩
    obtain ⟨b, off, e, hc⟩ := hA.cell i hi
    have hk := key i hi
    have hsl := zc_sl hk.2 (hA.sl i hi)
    refine ⟨b, off, _, e, hc, A i, C i, by rw [hk.1], ?_, ?_, hA.nil i hi, by have := hA.le i hi; omega, hA.cap i hi⟩
    · have : Sl (A i) (N i) (zc (N i) (Z i)) w := hsl
      rw [hk.1] at this
      unfold mzc; rw [hk.1]; exact this
    · intro x hx
      obtain ⟨b', off', e', hc'⟩ := hA.sl i hi 0 (by omega)
      rw [hx] at e'
      cases e'
      exact cell_lt hc'

end Go.Proofs.Ytjkncdmbcckcdab

/- The reference's matrices: Reduce's regions that draw their order, each by itself. -/
namespace Go.Proofs.Ytjkncdmbcckcdab
open Go.RowKit Go.Sort

end Go.Proofs.Ytjkncdmbcckcdab

/- The reference's matrices: Reduce's regions that draw their order, each by itself. -/
namespace Go.Proofs.Ytjkncdmbcckcdab
open Go.RowKit Go.Sort

end Go.Proofs.Ytjkncdmbcckcdab

/- The reference's matrices: Reduce's regions that draw their order, each by itself. -/
namespace Go.Proofs.Ytjkncdmbcckcdab
open Go.RowKit Go.Sort

end Go.Proofs.Ytjkncdmbcckcdab

/- The reference's matrices: the one form of what rows span (Reduce). -/
namespace Go.Proofs.Ytjkncdmbcckcdab
open Go.RowKit Go.Sort

end Go.Proofs.Ytjkncdmbcckcdab

/- The program's matrices: how many columns there are (width), which row may stand (checkRow), which matrix may be (Check). -/
namespace Go.Proofs.Ytjkncdmbcckcdab
open Go.RowKit

set_option maxHeartbeats 2000000 in
set_option maxRecDepth 100000 in
theorem width_any {ao : Option Addr} {m ca : Nat} {A : Nat → Option Addr} {N C : Nat → Nat} {Z : Nat → Nat → Int} {w : World} (h : MatZ ao m A N C Z w) :
    Calls Try.prog 52 #[.slice ao m ca] w fun e w' => e = .returned (.int .i64 ((if m = 0 then 0 else N 0 : Nat) : Int)) ∧ w' = w := by
  have HS : Hid (MatZ ao m A N C Z w) := h
  clear h
  by_cases hm : m = 0
  · subst hm
    go_enter Try.func52, Try.ntmps52
    go_wp2
    go_ret
    exact ⟨rfl, rfl⟩
  · obtain ⟨b, off, rfl, hc⟩ := HS.out.cell 0 (by omega)
    rw [Nat.add_zero] at hc
    have hf := HS.out.few 0 (by omega)
    have hm0 : (0 : Int) < (m : Int) := by omega
    have hz : ((m : Int) == 0) = false := by rw [beq_eq_false_iff_ne]; omega
    rw [if_neg hm]
    obtain ⟨N0, hN0⟩ : ∃ N0, N0 = N 0 := ⟨_, rfl⟩
    rw [← hN0] at hc hf ⊢
    clear hN0
    go_enter Try.func52, Try.ntmps52
    go_wp2
    go_ret
    exact ⟨rfl, rfl⟩

end Go.Proofs.Ytjkncdmbcckcdab

/- The program's matrices: how many columns there are (width), which row may stand (checkRow), which matrix may be (Check). -/
namespace Go.Proofs.Ytjkncdmbcckcdab
open Go.RowKit

set_option maxHeartbeats 2000000 in
set_option maxRecDepth 100000 in
theorem hasnt_any {D : FD} {F T B : Nat} {g : Nat → Value} {w : World} (h : FAt F T D g w) (hc : w.cell? ⟨B, 0, none⟩ = some (.pointer (some ⟨F, 0, none⟩))) (x : Int) :
    Calls Try.prog 63 #[.int .i64 x, .pointer (some ⟨B, 0, none⟩)] w fun e w' => e = .returned (.bool (!D.has x)) ∧ w' = w := by
  have HS : Hid (FAt F T D g w) := h
  clear h
  obtain ⟨y, hy⟩ : ∃ y, y = D.has x := ⟨_, rfl⟩
  have HC : Hid (Calls Try.prog 38 #[.pointer (some ⟨F, 0, none⟩), .int .i64 x] w fun e w' => e = .returned (.bool y) ∧ w' = w) := by
    show Calls _ _ _ _ _
    rw [hy]; exact has_any HS.out x
  rw [← hy]
  clear hy
  go_enter Try.func63, Try.ntmps63
  go_wp2_with (go_at_call 38; refine HC.out.mono ?_; rintro e w' ⟨rfl, hw⟩; have hw := hw.symm; subst hw)
  go_ret
  exact ⟨rfl, rfl⟩

end Go.Proofs.Ytjkncdmbcckcdab

/- The library's search with a function value: where the first number is of which it holds; which row may stand in a matrix (checkRow). -/
namespace Go.Proofs.Ytjkncdmbcckcdab
open Go.RowKit

set_option maxHeartbeats 2000000 in
set_option maxRecDepth 100000 in
theorem indexInts_any {gf : Nat} {lb : Array Value} (eg : ∀ args w, (callFunc gf args).run Try.prog w = .ok (.enter gf args) w) {ao : Option Addr} {n cap : Nat} {z : Nat → Int} {p : Nat → Bool} {w : World}
    (hs : SlZ ao n z w) (hn : n ≤ 1000000) (hp : ∀ j, j < n → Calls Try.prog gf (#[.int .i64 (z j)] ++ lb) w fun e w' => e = .returned (.bool (p j)) ∧ w' = w) :
    Calls Try.prog 55 #[.slice ao n cap, .func (.func gf) #[] lb] w fun e w' => w' = w ∧ ((∃ i : Nat, i < n ∧ p i = true ∧ (∀ j, j < i → p j = false) ∧ e = .returned (.int .i64 i)) ∨ ((∀ j, j < n → p j = false) ∧ e = .returned (.int .i64 (-1)))) := by
  have HS : Hid (SlZ ao n z w ∧ ∀ j, j < n → Calls Try.prog gf (#[.int .i64 (z j)] ++ lb) w fun e w' => e = .returned (.bool (p j)) ∧ w' = w) := ⟨hs, hp⟩
  clear hs hp
  go_enter Try.func55, Try.ntmps55
  go_wp2
  go_loopw [5, 8] (fun _ i wr => ∃ r : Nat, r ≤ n ∧ i = .int .i64 r ∧ Hid (∀ j, j < r → p j = false) ∧ wr = w) (fun _ i _ => n - (intOf i).toNat)
  case atStart => exact ⟨0, by omega, rfl, (show Hid _ from fun j hj => by omega), rfl⟩
  case round =>
    obtain ⟨r, hr, rfl, HH, rfl⟩ := hrel
    by_cases hlt : r < n
    · obtain ⟨b, off, rfl, hcz⟩ := HS.out.1 r hlt
      have hib : (r : Int) < (n : Int) := by omega
      have hcall := HS.out.2 r hlt
      by_cases hh : p r = true
      · have HV : Hid (p r = true) := hh
        rw [hh] at hcall
        clear hh
        go_wp2_with (go_at_fn gf; refine hcall.mono ?_; rintro e w' ⟨rfl, hw⟩; have hw := hw.symm; subst hw)
        go_ret
        exact ⟨rfl, Or.inl ⟨r, hlt, HV.out, HH.out, rfl⟩⟩
      · have hh' : p r = false := by simpa using hh
        have HV : Hid (∀ j, j < r + 1 → p j = false) := fun j hj => by
          by_cases e : j = r
          · rw [e]; exact hh'
          · exact HH.out j (by omega)
        rw [hh'] at hcall
        clear hh hh'
        go_wp2_with (go_at_fn gf; refine hcall.mono ?_; rintro e w' ⟨rfl, hw⟩; have hw := hw.symm; subst hw)
        go_roundw
        case rel => exact ⟨r + 1, by omega, by go_num, HV.out, by first | rfl | trivial⟩
        case measure => simp [intOf]; omega
    · have HV : Hid (∀ j, j < n → p j = false) := fun j hj => HH.out j (by omega)
      go_wp2
      go_ret
      exact ⟨rfl, Or.inr ⟨HV.out, rfl⟩⟩
end Go.Proofs.Ytjkncdmbcckcdab

/- The program's matrices: which row may stand (checkRow), which matrix may be (Check), over which field (over). -/
namespace Go.Proofs.Ytjkncdmbcckcdab
open Go.RowKit

theorem enters_hasnt : ∀ args w, (callFunc 63 args).run Try.prog w = .ok (.enter 63 args) w :=
  enters_of Try.func63 (by kernel_rfl) rfl

set_option maxHeartbeats 2000000 in
set_option maxRecDepth 100000 in
theorem containsHas_any {D : FD} {F T B : Nat} {g : Nat → Value} {ao : Option Addr} {n cap : Nat} {z : Nat → Int} {w : World} (h : FAt F T D g w) (hc : w.cell? ⟨B, 0, none⟩ = some (.pointer (some ⟨F, 0, none⟩))) (hs : SlZ ao n z w) (hn : n ≤ 1000000) :
    Calls Try.prog 36 #[.slice ao n cap, .func (.func 63) #[] #[.pointer (some ⟨B, 0, none⟩)]] w fun e w' => e = .returned (.bool (!D.allHas z n)) ∧ w' = w := by
  have HS : Hid (∀ cap, Calls Try.prog 55 #[.slice ao n cap, .func (.func 63) #[] #[.pointer (some ⟨B, 0, none⟩)]] w fun e w' => w' = w ∧ ∃ i : Int, e = .returned (.int .i64 i) ∧ decide (0 ≤ i) = !D.allHas z n) := fun cap => by
    have hp : ∀ j, j < n → Calls Try.prog 63 (#[.int .i64 (z j)] ++ #[.pointer (some ⟨B, 0, none⟩)]) w fun e w' => e = .returned (.bool (!D.has (z j))) ∧ w' = w := fun j _ => by
      have e : (#[Value.int .i64 (z j)] ++ #[Value.pointer (some ⟨B, 0, none⟩)] : Array Value) = #[.int .i64 (z j), .pointer (some ⟨B, 0, none⟩)] := rfl
      rw [e]
      exact hasnt_any h hc (z j)
    refine (indexInts_any (cap := cap) (p := fun j => !D.has (z j)) enters_hasnt hs hn hp).mono ?_
    rintro e w' ⟨rfl, ⟨i, hi, hpi, _, rfl⟩ | ⟨ha, rfl⟩⟩
    · refine ⟨rfl, _, rfl, ?_⟩
      have h1 : D.allHas z n = false := by
        rw [← Bool.not_eq_true]
        intro e
        have h2 := allHas_iff.1 e i hi
        have hpi' : (!D.has (z i)) = true := hpi
        rw [h2] at hpi'
        cases hpi'
      rw [h1]
      simp
    · refine ⟨rfl, _, rfl, ?_⟩
      have h1 : D.allHas z n = true := allHas_iff.2 fun j hj => by
        have h2 : (!D.has (z j)) = false := ha j hj
        simpa using h2
      rw [h1]
      rfl
  clear h hc hs
  obtain ⟨y, hy⟩ : ∃ y, y = !D.allHas z n := ⟨_, rfl⟩
  rw [← hy]
  have HY : Hid (y = !D.allHas z n) := hy
  clear hy
  go_enter Try.func36, Try.ntmps36
  go_wp2_with (go_at_call 55; refine (HS.out _).mono ?_; rintro e w' ⟨hw, i, rfl, hi⟩; rw [← HY.out] at hi; have hw := hw.symm; subst hw)
  go_ret
  exact ⟨by first | rfl | simp_all, rfl⟩

set_option maxHeartbeats 2000000 in
set_option maxRecDepth 100000 in
theorem checkRow_any {D : FD} {F T : Nat} {g : Nat → Value} {ao : Option Addr} {n cap n0 : Nat} {z : Nat → Int} {w : World} (h : FAt F T D g w) (hT : T < w.heap.size) (hs : SlZ ao n z w) (hn : n ≤ 1000000) (hn0 : n0 ≤ 1000000) :
    Calls Try.prog 48 #[.pointer (some ⟨F, 0, none⟩), .slice ao n cap, .int .i64 n0] w fun e w' => e = .returned (.int .i64 (D.mrow n0 n z)) ∧ Below w.heap.size w w' := by
  have HS : Hid (FAt F T D g (w.alloc (.cells #[.pointer (some ⟨F, 0, none⟩)] 47)) ∧ SlZ ao n z (w.alloc (.cells #[.pointer (some ⟨F, 0, none⟩)] 47)) ∧ Below w.heap.size w (w.alloc (.cells #[.pointer (some ⟨F, 0, none⟩)] 47))) := by
    have hb : Below w.heap.size w (w.alloc (.cells #[.pointer (some ⟨F, 0, none⟩)] 47)) := (Below.refl _ _).alloc (Nat.le_refl _) _
    exact ⟨h.below hb h.ltF hT, slz_below hs hb, hb⟩
  clear h hs hT
  by_cases h1 : n = n0
  · subst h1
    by_cases h2 : n = 0
    · have HV : Hid (D.mrow n n z = 3) := by show _ = _; unfold FD.mrow; rw [if_pos (Or.inr h2)]
      subst h2
      go_enter Try.func48, Try.ntmps48
      go_wp2
      go_ret
      exact ⟨ret_int (by rw [HV.out]), HS.out.2.2⟩
    · have h2z : ((n : Int) == 0) = false := by rw [beq_eq_false_iff_ne]; omega
      by_cases h3 : 64 < n
      · have HV : Hid (D.mrow n n z = 4) := by show _ = _; unfold FD.mrow; rw [if_neg (by omega), if_pos h3]
        have h3z : (64 : Int) < (n : Int) := by omega
        go_enter Try.func48, Try.ntmps48
        go_wp2
        go_ret
        exact ⟨ret_int (by rw [HV.out]), HS.out.2.2⟩
      · have h3z : ¬ (64 : Int) < (n : Int) := by omega
        obtain ⟨y, hy⟩ : ∃ y, y = D.allHas z n := ⟨_, rfl⟩
        have HC : Hid (∀ cap, Calls Try.prog 36 #[.slice ao n cap, .func (.func 63) #[] #[.pointer (some ⟨w.heap.size, 0, none⟩)]] (w.alloc (.cells #[.pointer (some ⟨F, 0, none⟩)] 47)) fun e w' => e = .returned (.bool (!y)) ∧ w' = w.alloc (.cells #[.pointer (some ⟨F, 0, none⟩)] 47)) := fun cap => by
          rw [hy]; exact containsHas_any HS.out.1 (by simp) HS.out.2.1 hn
        have HV : Hid (D.mrow n n z = if y = true then 0 else 2) := by show _ = _; unfold FD.mrow; rw [if_neg (by omega), if_neg h3, hy]
        clear hy
        cases y
        · go_enter Try.func48, Try.ntmps48
          go_wp2_with (go_at_call 36; refine (HC.out _).mono ?_; rintro e w' ⟨rfl, rfl⟩)
          go_ret
          exact ⟨ret_int (by rw [HV.out]; rfl), HS.out.2.2⟩
        · go_enter Try.func48, Try.ntmps48
          go_wp2_with (go_at_call 36; refine (HC.out _).mono ?_; rintro e w' ⟨rfl, rfl⟩)
          go_ret
          exact ⟨ret_int (by rw [HV.out]; rfl), HS.out.2.2⟩
  · have HV : Hid (D.mrow n0 n z = 3) := by show _ = _; unfold FD.mrow; rw [if_pos (Or.inl h1)]
    have h1z : ((n : Int) != (n0 : Int)) = true := by rw [bne_iff_ne]; omega
    go_enter Try.func48, Try.ntmps48
    go_wp2
    go_ret
    exact ⟨ret_int (by rw [HV.out]), HS.out.2.2⟩
end Go.Proofs.Ytjkncdmbcckcdab
