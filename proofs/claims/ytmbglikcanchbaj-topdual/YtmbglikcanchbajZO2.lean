/- Texts of ours, one behind the other: O2 O3 L11 L12 U23 H1 H2 H3 H4 K4 S8 Y1 Y2 Y3 S9 S10 S11 Z1 Z2 Z3. -/
import Derived.Test.YtmbglikcanchbajZL10
import Derived.Test.YtmbglikcanchbajZT2
import Derived.Test.YtmbglikcanchbajZX18
import Derived.Test.YtmbglikcanchbajZS4
import Derived.Test.YtmbglikcanchbajZV7
import Derived.Test.YtmbglikcanchbajZN1
import Derived.Test.YtmbglikcanchbajZX17
import Derived.Test.YtmbglikcanchbajZR10
import Derived.Test.YtmbglikcanchbajZL1
/- A list of lists of numbers that a statement is given, opened. -/
namespace Go.Proofs.Ytmbglikcanchbaj
open Go.ChangeShapes Go.WideShapes Go.ChangeAt Go.RowKit

/-- A matrix that is handed in: m lists of whatever length. -/
structure MatO (ao : Option Addr) (m : Nat) (A : Nat → Option Addr) (N C : Nat → Nat) (Z : Nat → Nat → Int) (w : World) : Prop where
  cell : ∀ i, i < m → ∃ b off, ao = some ⟨b, off, none⟩ ∧ w.cell? ⟨b, off + i, none⟩ = some (.slice (A i) (N i) (C i))
  sl : ∀ i, i < m → SlZ (A i) (N i) (Z i) w
  le : ∀ i, i < m → N i ≤ C i
  cap : ∀ i, i < m → C i ≤ 9223372036854775807
  nil : ∀ i, i < m → A i = none → C i = 0
theorem MatO.matZ {ao : Option Addr} {m : Nat} {A : Nat → Option Addr} {N C : Nat → Nat} {Z : Nat → Nat → Int} {w : World} (h : MatO ao m A N C Z w) (hf : ∀ i, i < m → N i ≤ 1000000) : MatZ ao m A N C Z w := ⟨h.cell, h.sl, h.le, h.cap, h.nil, hf⟩

end Go.Proofs.Ytmbglikcanchbaj

/- How heavy a list of lists is that a statement is given. -/
namespace Go.Proofs.Ytmbglikcanchbaj
open Go.RowKit Go.Sort

end Go.Proofs.Ytmbglikcanchbaj

/- MatrixSays: lists of lists held against one another; how heavy a matrix is; are all numbers elements. -/
namespace Go.Proofs.Ytmbglikcanchbaj
open Go.RowKit Go.Sort

theorem sl_sliceI {x : Option Addr} {n cx : Nat} {c : Nat → Nat} {w : World} (h : Sl x n c w) (hn : n ≤ 1000000) : SliceI (.slice x n cx) (zl n fun j => ((c j : Nat) : Int)) w := by
  by_cases h0 : n = 0
  · subst h0
    exact Or.inl ⟨rfl, x, cx, rfl⟩
  · obtain ⟨b, off, e, _⟩ := h 0 (by omega)
    refine Or.inr ⟨fun e => ?_, by rw [zl_len]; exact hn, b, off, cx, by rw [zl_len, e], fun j hj => ?_⟩
    · have := congrArg List.length e
      rw [zl_len] at this
      exact h0 this
    · rw [zl_len] at hj
      obtain ⟨b', off', e', hc⟩ := h j hj
      rw [e] at e'
      cases e'
      rw [zl_getD n _ j hj]; exact hc

set_option maxHeartbeats 2000000 in
set_option maxRecDepth 100000 in
theorem sameAll_rl {va vb : Value} {k n : Nat} {R : Nat → Nat → Nat} {w : World} (ha : RL va k n R w) (hb : RL vb k n R w) (hk : k ≤ 1000000) (hn : n ≤ 1000000) :
    Calls Try.prog 36 #[va, vb] w fun e w' => e = .returned (.bool true) ∧ ∃ n, w' = w.drewN n := by
  obtain ⟨ao, ca, rfl, ha⟩ := ha
  obtain ⟨bo, cb, rfl, hb⟩ := hb
  have HC : Hid ((∀ i, i < k → ∃ b off x cx, ao = some ⟨b, off, none⟩ ∧ w.cell? ⟨b, off + i, none⟩ = some (.slice x n cx) ∧ Sl x n (R i) w) ∧ ∀ i, i < k → ∃ b off x cx, bo = some ⟨b, off, none⟩ ∧ w.cell? ⟨b, off + i, none⟩ = some (.slice x n cx) ∧ Sl x n (R i) w) := ⟨ha, hb⟩
  clear ha hb
  go_enter Try.func36, Try.ntmps36
  go_wp2
  go_loopw [5] (fun i wr => ∃ r : Nat, r ≤ k ∧ i = .int .i64 r ∧ ∃ n, wr = w.drewN n) (fun i _ => k - (intOf i).toNat)
  case atStart => exact ⟨0, by omega, rfl, 0, rfl⟩
  case round =>
    obtain ⟨r, hr, rfl, d, rfl⟩ := hrel
    by_cases hlt : r < k
    · obtain ⟨b, off, x, cx, rfl, hc, hs⟩ := HC.out.1 r hlt
      obtain ⟨b', off', x', cx', rfl, hc', hs'⟩ := HC.out.2 r hlt
      have HS : Hid (∀ k, Calls Try.prog 23 #[.slice x n cx, .slice x' n cx'] (w.drewN (d + k)) fun e w' => e = .returned (.bool true) ∧ ∃ m, w' = w.drewN (d + m)) := fun k => by
        refine (same_any (w := w.drewN (d + k)) ((sl_sliceI hs hn).drewN _) ((sl_sliceI hs' hn).drewN _)).mono ?_
        rintro e w' ⟨rfl, m, rfl⟩
        exact ⟨by rw [decide_eq_true rfl], k + m, by rw [World.drewN_drewN, Nat.add_assoc]⟩
      have hib : (r : Int) < (k : Int) := by omega
      have hib0 : (0 : Int) ≤ (r : Int) := by omega
      clear hs hs'
      go_wp2
      go_big_quiet (first | (go_at_call 23; exact HS.out _))
      go_wp2
      go_roundw
      case rel => exact ⟨r + 1, by omega, by go_num, _, by first | rfl | rw [World.drewN_drewN]⟩
      case measure => simp [intOf]; omega
    · go_wp2
      go_ret
      exact ⟨rfl, _, rfl⟩

end Go.Proofs.Ytmbglikcanchbaj

/- MatrixSays: inverses. -/
namespace Go.Proofs.Ytmbglikcanchbaj
open Go.RowKit Go.Sort

theorem mchk_of {D : FD} {m : Nat} {N : Nat → Nat} {Z : Nat → Nat → Int} (hm : m ≤ 64) (h : ∀ i, i < m → D.mrow (N 0) (N i) (Z i) = 0) : D.mchk m N Z = 0 := by
  have key : ∀ k, k ≤ m → D.mchks N Z k = 0 := fun k => by
    induction k with
    | zero => intro _; rfl
    | succ k ih =>
      intro hk
      rw [FD.mchks, ih (by omega)]
      simp [h k (by omega)]
  unfold FD.mchk
  rw [if_neg (by omega)]
  exact key m (Nat.le_refl _)
theorem InvR.matZ {G2 m : Nat} {h : Nat → Nat} {R : Nat → Nat → Nat} {w : World} (H : InvR G2 m h R w) (hm : m ≤ 64) : MatZ (some ⟨G2, 0, none⟩) m (fun i => some ⟨h i, m, none⟩) (fun _ => m) (fun _ => m) (fun i c => ((R i (m + c) : Nat) : Int)) w :=
  ⟨fun i hi => ⟨G2, 0, rfl, by rw [Nat.zero_add]; exact (H i hi).1⟩, fun i hi => (H i hi).2, fun i _ => Nat.le_refl _, fun i _ => (by omega), (fun i _ e => by cases e), fun i _ => (by omega)⟩
theorem InvR.mchk {D : FD} {m : Nat} {R : Nat → Nat → Nat} (hm0 : 0 < m) (hm : m ≤ 64) (he : ∀ i, i < m → El D (R i)) : D.mchk m (fun _ => m) (fun i c => ((R i (m + c) : Nat) : Int)) = 0 := by
  refine mchk_of hm (fun i hi => ?_)
  unfold FD.mrow
  rw [if_neg (by omega), if_neg (by omega), if_pos]
  exact allHas_iff.2 (fun j _ => has_of_lt (he i hi (m + j)))

end Go.Proofs.Ytmbglikcanchbaj

/- The program's polynomials: a sum with an empty list, wherever that lies. -/
namespace Go.Proofs.Ytmbglikcanchbaj
open Go.RowKit Go.Sort

end Go.Proofs.Ytmbglikcanchbaj

/- Curves (lists.Curve): what both sides reckon; the calls that they make. -/
namespace Go.Proofs.Ytmbglikcanchbaj
open Go.RowKit Go.Sort

theorem OwnP.arg {base n : Nat} {v : Value} {c : Nat → Nat} {w : World} (h : OwnP base v n c w) (hn : n ≤ 1000000) : ∃ so sc, v = .slice so n sc ∧ Arg so n sc (fun j => ((c j : Nat) : Int)) w := by
  obtain ⟨so, sc, rfl, h1, h2, _, h4, h5, h6⟩ := h.open
  exact ⟨so, sc, rfl, h6, h4, hn, h5, h1, h2⟩
theorem MatZ.arg {ao : Option Addr} {m : Nat} {A : Nat → Option Addr} {N C : Nat → Nat} {Z : Nat → Nat → Int} {w : World} (h : MatZ ao m A N C Z w) {j : Nat} (hj : j < m) (hN : N j ≠ 0) : Arg (A j) (N j) (C j) (Z j) w := by
  refine ⟨h.sl j hj, fun x hx => ?_, h.few j hj, h.nil j hj, h.le j hj, h.cap j hj⟩
  obtain ⟨b, off, e, hc⟩ := h.sl j hj 0 (by omega)
  rw [hx] at e
  cases e
  exact cell_lt hc
end Go.Proofs.Ytmbglikcanchbaj

/- Curves: the program's, and the reference's. -/
namespace Go.Proofs.Ytmbglikcanchbaj
open Go.RowKit Go.Sort

end Go.Proofs.Ytmbglikcanchbaj

/- Curves: the reference's. -/
namespace Go.Proofs.Ytmbglikcanchbaj
open Go.RowKit Go.Sort

end Go.Proofs.Ytmbglikcanchbaj

/- ListsCurve: the walk of the statement, whatever it is given. -/
namespace Go.Proofs.Ytmbglikcanchbaj
open Go.RowKit Go.Sort

end Go.Proofs.Ytmbglikcanchbaj

/- Matrices out of raw numbers (MatrixOf). -/
namespace Go.Proofs.Ytmbglikcanchbaj
open Go.RowKit Go.Sort

def slA (v : Value) : Option Addr := match v with | .slice a _ _ => a | _ => none
def slC (v : Value) : Nat := match v with | .slice _ _ c => c | _ => 0
/-- i lists of c numbers below q, in a list of the call's own. -/
structure MkS (base q c i : Nat) (v : Value) (vs : Nat → Value) (Z : Nat → Nat → Int) (w : World) : Prop where
  own : OwnV base v (vl i vs) w
  row : ∀ j, j < i → OwnI base (vs j) (zl c (Z j)) w
  blw : ∀ j, j < i → Blw q c (Z j)
theorem MkS.below {base q c i : Nat} {v : Value} {vs : Nat → Value} {Z : Nat → Nat → Int} {w w' : World} (h : MkS base q c i v vs Z w) (hb : Below w.heap.size w w') : MkS base q c i v vs Z w' :=
  ⟨h.own.below hb (Nat.le_refl _), fun j hj => (h.row j hj).below hb (fun k hk => ((h.row j hj).lt k hk).2), h.blw⟩
theorem MkS.push {base q c i : Nat} {v v' u : Value} {vs : Nat → Value} {Z : Nat → Nat → Int} {y : Nat → Int} {w w' : World} (h : MkS base q c i v vs Z w) (hu : OwnI base u (zl c y) w) (hy : Blw q c y) (ho : OwnV base v' (vl i vs ++ [u]) w') (hg : w.grownBy w' v.ownBlock) :
    MkS base q c (i + 1) v' (fun j => if j = i then u else vs j) (fun j => if j = i then y else Z j) w' := by
  refine ⟨?_, fun j hj => ?_, fun j hj => ?_⟩
  · have e : vl (i + 1) (fun j => if j = i then u else vs j) = vl i vs ++ [u] := by
      unfold vl
      rw [List.range_succ, List.map_append]
      congr 1
      · exact List.map_congr_left (fun j hj => by rw [if_neg (by have := List.mem_range.1 hj; omega)])
      · simp
    rw [e]; exact ho
  · by_cases e : j = i
    · simp only [if_pos e]; exact hu.kept hg (hu.apart h.own)
    · simp only [if_neg e]; exact (h.row j (by omega)).kept hg ((h.row j (by omega)).apart h.own)
  · by_cases e : j = i
    · simp only [if_pos e]; exact hy
    · simp only [if_neg e]; exact h.blw j (by omega)
theorem MkS.matZ {base q c i : Nat} {v : Value} {vs : Nat → Value} {Z : Nat → Nat → Int} {w : World} (h : MkS base q c i v vs Z w) (hc : c ≤ 1000000) : ∃ mo mc, v = .slice mo i mc ∧ MatZ mo i (fun j => slA (vs j)) (fun _ => c) (fun j => slC (vs j)) Z w := by
  obtain ⟨mo, mc, hv, _, _, _, hcell⟩ := h.own.open
  rw [vl_len] at hv
  have key : ∀ j, j < i → ∃ so sc, vs j = .slice so c sc ∧ ArgL so c sc (Z j) w := fun j hj => (h.row j hj).argL
  refine ⟨mo, mc, hv, ⟨fun j hj => ?_, fun j hj => ?_, fun j hj => ?_, fun j hj => ?_, fun j hj => ?_, fun j _ => hc⟩⟩
  · obtain ⟨g, e, hc, _⟩ := hcell j (vs j) (vl_get i vs j hj)
    obtain ⟨so, sc, e2, _⟩ := key j hj
    refine ⟨g, 0, e, ?_⟩
    rw [Nat.zero_add, hc, e2]; rfl
  · obtain ⟨so, sc, e2, ha⟩ := key j hj
    simp only [e2, slA]; exact ha.sl
  · obtain ⟨so, sc, e2, ha⟩ := key j hj
    simp only [e2, slC]; exact ha.le
  · obtain ⟨so, sc, e2, ha⟩ := key j hj
    simp only [e2, slC]; exact ha.cap
  · obtain ⟨so, sc, e2, ha⟩ := key j hj
    simp only [e2, slA, slC]; exact ha.nil

set_option maxHeartbeats 4000000 in
set_option maxRecDepth 100000 in
theorem matrixOf_any {ao : Option Addr} {n ca : Nat} {z : Nat → Int} {w : World} (h : Arg ao n ca z w) (hn : n ≤ 1000) (f q r c : Nat) (hf : f ≤ 1000) (hq : 1 ≤ q) (hq2 : q ≤ 100000) (hr : r ≤ 100) (hc : c ≤ 100) :
    Calls Try.prog 16 #[.slice ao n ca, .int .i64 f, .int .i64 q, .int .i64 r, .int .i64 c] w fun e w' => ∃ v vs Z, e = .returned v ∧ MkS w.heap.size q c r v vs Z w' ∧ Below w.heap.size w w' := by
  have HA : Hid (Arg ao n ca z w) := h
  clear h
  go_enter Try.func16, Try.ntmps16
  go_wp2
  go_loopw [11, 12] (fun v vi wr => ∃ (i : Nat) (vs : Nat → Value) (Z : Nat → Nat → Int), i ≤ r ∧ vi = .int .i64 i ∧ Hid (MkS w.heap.size q c i v vs Z wr ∧ Below w.heap.size w wr)) (fun _ vi _ => r - (intOf vi).toNat)
  case atStart => exact ⟨0, fun _ => undef, fun _ _ => 0, by omega, rfl, ⟨OwnV.nil _ _, fun j hj => absurd hj (by omega), fun j hj => absurd hj (by omega)⟩, Below.refl _ _⟩
  case round =>
    obtain ⟨i, vs, Z, hi, rfl, HG⟩ := hrel
    rename World => wA
    by_cases hlt : i < r
    · have hib : (i : Int) < (r : Int) := by omega
      obtain ⟨ic, hic⟩ : ∃ ic, ic = i * c := ⟨_, rfl⟩
      have hic2 : ic ≤ 10000 := by
        rw [hic]
        have := Nat.mul_le_mul (show i ≤ 100 by omega) hc
        omega
      have hw1 : IntKind.i64.wrap ((i : Int) * (c : Int)) = (ic : Int) := wrap_to (by rw [hic]; simp) (by omega)
      obtain ⟨fi, hfi⟩ : ∃ fi, fi = f + ic := ⟨_, rfl⟩
      have hw2 : IntKind.i64.wrap ((f : Int) + (ic : Int)) = (fi : Int) := wrap_to (by omega) (by omega)
      have HN : Hid (Calls Try.prog 12 #[.slice ao n ca, .int .i64 fi, .int .i64 q, .int .i64 c] wA fun e w' => ∃ bo cb y, e = .returned (.slice bo c cb) ∧ OwnI wA.heap.size (.slice bo c cb) (zl c y) w' ∧ Blw q c y ∧ Below wA.heap.size wA w') := by
        refine (numbers_any (HA.out.below HG.out.2) hn fi q c (by omega) hq hq2 (by omega)).mono ?_
        rintro e w' ⟨v, y, rfl, ho, hbl, hb⟩
        obtain ⟨bo, cb, rfl, _⟩ := ho.argL
        exact ⟨bo, cb, y, rfl, ho, hbl, hb⟩
      clear hic hfi
      go_wp2_with fail
      refine HN.out.mono ?_
      rintro e w2 ⟨bo, cb, y, rfl, ho2, hbl2, hb2⟩
      have hs2 := hb2.size
      have hsA := HG.out.2.size
      have H2 : Hid (MkS w.heap.size q c i u11 vs Z w2 ∧ OwnI w.heap.size (.slice bo c cb) (zl c y) w2 ∧ Blw q c y ∧ Below w.heap.size w w2) := ⟨HG.out.1.below hb2, ho2.mono hsA, hbl2, bel_up' HG.out.2 hb2⟩
      have hll : (vl i vs).length ≤ 1000000 := by rw [vl_len]; omega
      clear ho2 hbl2 hb2 HN
      go_wp2_with (at_builtin; refine append_sl rfl _ _ rfl w.heap.size u11 (vl i vs) rfl (H2.out.1.own.below ((Below.refl _ _).alloc (Nat.le_refl _) _) (Nat.le_refl _)) ⟨w2.heap.size, 0, none⟩ 1 (.slice bo c cb) rfl rfl (by rw [cell_of_row _ _ _ _ _ (0, 0) (two_new _)]; rfl) hll (by simp; omega) ?_; intro v' w6 hown6 hg6)
      have hal : Below w2.heap.size w2 (w2.alloc (.cells #[.slice bo c cb] 22)) := (Below.refl _ _).alloc (Nat.le_refl _) _
      have HR : Hid (MkS w.heap.size q c (i + 1) v' (fun j => if j = i then .slice bo c cb else vs j) (fun j => if j = i then y else Z j) w6 ∧ Below w.heap.size w w6) := by
        have ho := H2.out.1.below hal
        exact ⟨ho.push (H2.out.2.1.below hal (fun k hk => (H2.out.2.1.lt k hk).2)) H2.out.2.2.1 hown6 hg6, (bel_up' H2.out.2.2.2 hal).grown hg6 (by simp; omega) (fun k hk => ho.own.open_ge k hk)⟩
      clear hown6 hg6 hal
      go_roundw
      case rel => exact ⟨i + 1, _, _, by omega, by go_num, HR.out⟩
      case measure => simp [intOf]; omega
    · have hib : ¬ (i : Int) < (r : Int) := by omega
      have hie : r = i := by omega
      subst hie
      go_wp2
      go_ret
      exact ⟨_, rfl, ⟨vs, Z, HG.out.1⟩, HG.out.2⟩
end Go.Proofs.Ytmbglikcanchbaj

/- Plain mathematics: the shortest rule of a list (Berlekamp and Massey). -/
namespace Go.Proofs.Ytmbglikcanchbaj

/-- The rule C of length L holds for the first N numbers of s. -/
def Gen (D : FD) (s C : Nat → Nat) (L N : Nat) : Prop := ∀ t, L ≤ t → t < N → pmul D (L + 1) C s t = 0
/-- A rule of length L. -/
structure Rul (D : FD) (C : Nat → Nat) (L : Nat) : Prop where
  el : El D C
  bd : Bd (L + 1) C
  one : C 0 = 1
/-- The state when i numbers are seen: the rule, its length; an older rule, what it missed. -/
structure BMS (D : FD) (s : Nat → Nat) (i : Nat) (C : Nat → Nat) (lc L : Nat) (O : Nat → Nat) (lo b : Nat) : Prop where
  rul : Rul D C L
  bdc : Bd lc C
  lcL : lc ≤ L + 1
  lc1 : 1 ≤ lc
  le : L ≤ i
  gen : Gen D s C L i
  min : ∀ C' L', Rul D C' L' → Gen D s C' L' i → L ≤ L'
  elo : El D O
  bdo : Bd lo O
  loL : lo ≤ i + 1 - L
  bq : b < D.q
  b0 : b ≠ 0
  old : L = 0 ∨ (1 ≤ i ∧ (∀ t, i - L ≤ t → t + 1 < i → pmul D lo O s t = 0) ∧ pmul D lo O s (i - 1) = b)
end Go.Proofs.Ytmbglikcanchbaj

/- The program's rules (reed): trim, missed, less. -/
namespace Go.Proofs.Ytmbglikcanchbaj
open Go.RowKit Go.Sort

end Go.Proofs.Ytmbglikcanchbaj

/- The program's rules (reed): the shortest one (shortest, Massey). -/
namespace Go.Proofs.Ytmbglikcanchbaj
open Go.RowKit Go.Sort

theorem Arg.drewN {ao : Option Addr} {n cap : Nat} {z : Nat → Int} {w : World} (h : Arg ao n cap z w) (k : Nat) : Arg ao n cap z (w.drewN k) := ⟨h.sl, h.lt, h.few, h.nil, h.le, h.cap⟩

end Go.Proofs.Ytmbglikcanchbaj

/- The program's Massey; lists that are far too long. -/
namespace Go.Proofs.Ytmbglikcanchbaj
open Go.RowKit Go.Sort

end Go.Proofs.Ytmbglikcanchbaj

/- Equations that can be met, and the rules of shorter length. -/
namespace Go.Proofs.Ytmbglikcanchbaj
open Go.RowKit Go.Sort

/-- The sum of the products, place by place. -/
def dt (D : FD) (u v : Nat → Nat) : Nat → Nat
  | 0 => 0
  | n + 1 => D.ad (dt D u v n) (D.mul (u n) (v n))
end Go.Proofs.Ytmbglikcanchbaj

/- Lists that a rule makes: the shortest rule of enough of them makes the rest. -/
namespace Go.Proofs.Ytmbglikcanchbaj
open Go.RowKit Go.Sort

/-- Each number from the place n on is that sum of those ahead. -/
def Made (D : FD) (c : Nat → Nat) (n : Nat) (s : Nat → Nat) (N : Nat) : Prop := ∀ t, n ≤ t → t < N → s t = dt D c (fun k => s (t - 1 - k)) n
end Go.Proofs.Ytmbglikcanchbaj

/- A polynomial that is not nought has fewer roots than coefficients; words of few coefficients are far apart. -/
namespace Go.Proofs.Ytmbglikcanchbaj
open Go.RowKit Go.Sort

/-- How many of the first n. -/
def ct (p : Nat → Bool) : Nat → Nat
  | 0 => 0
  | n + 1 => ct p n + if p n = true then 1 else 0
theorem ct_none {p : Nat → Bool} : ∀ n, (∀ i, i < n → p i = false) → ct p n = 0
  | 0, _ => rfl
  | n + 1, h => by
    show ct p n + (if p n = true then 1 else 0) = 0
    rw [ct_none n (fun i hi => h i (by omega)), h n (by omega)]; rfl
end Go.Proofs.Ytmbglikcanchbaj

/- The program's words (reed): values, Check and Encode where all may be. -/
namespace Go.Proofs.Ytmbglikcanchbaj
open Go.RowKit Go.Sort

end Go.Proofs.Ytmbglikcanchbaj

/- Places and a dimension: may they be? The program's Check, the reference's ReedMay, whatever they are given. -/
namespace Go.Proofs.Ytmbglikcanchbaj
open Go.RowKit Go.Sort

end Go.Proofs.Ytmbglikcanchbaj

/- The reference's ReedMay, whatever it is given. -/
namespace Go.Proofs.Ytmbglikcanchbaj
open Go.RowKit Go.Sort

end Go.Proofs.Ytmbglikcanchbaj
