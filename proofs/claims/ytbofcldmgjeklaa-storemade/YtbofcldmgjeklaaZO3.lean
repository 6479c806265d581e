/- Texts of ours, one behind the other: O3 L11 L12 L13 L14 L15 L16 L17 L18 L19 U23 H1 H2 H3 H4 K4 K5 S8 Y1 Y2 Y3 S9 Y4 W10. -/
import Derived.Test.YtbofcldmgjeklaaZX17
import Derived.Test.YtbofcldmgjeklaaZL10
import Derived.Test.YtbofcldmgjeklaaZX12
import Derived.Test.YtbofcldmgjeklaaZU22
import Derived.Maps.AppendAt
import Derived.Deep.AppendLies
import Derived.Test.YtbofcldmgjeklaaZW9
/- How heavy a list of lists is that a statement is given. -/
namespace Go.Proofs.Ytbofcldmgjeklaa
open Go.RowKit Go.Sort

/-- The lists' number, and the lengths of the first i, added up to where it is above 6,000. -/
def hvs (N : Nat → Nat) (m : Nat) : Nat → Nat
  | 0 => m
  | i + 1 => if hvs N m i ≤ 6000 then hvs N m i + N i else hvs N m i
theorem hvs_stay {N : Nat → Nat} {m i : Nat} (h : ¬ hvs N m i ≤ 6000) : ∀ d, hvs N m (i + d) = hvs N m i
  | 0 => rfl
  | d + 1 => by
    show (if hvs N m (i + d) ≤ 6000 then hvs N m (i + d) + N (i + d) else hvs N m (i + d)) = _
    rw [hvs_stay h d, if_neg h]
theorem hvs_few {N : Nat → Nat} {m : Nat} : ∀ i, hvs N m i ≤ 6000 → m ≤ 6000 ∧ ∀ j, j < i → N j ≤ 6000
  | 0, h => ⟨h, fun j hj => by omega⟩
  | i + 1, h => by
    by_cases e : hvs N m i ≤ 6000
    · have h' : (if hvs N m i ≤ 6000 then hvs N m i + N i else hvs N m i) ≤ 6000 := h
      rw [if_pos e] at h'
      have ih := hvs_few i e
      refine ⟨ih.1, fun j hj => ?_⟩
      by_cases e2 : j = i
      · rw [e2]; omega
      · exact ih.2 j (by omega)
    · have h' : (if hvs N m i ≤ 6000 then hvs N m i + N i else hvs N m i) ≤ 6000 := h
      rw [if_neg e] at h'
      exact absurd h' e

set_option maxHeartbeats 2000000 in
set_option maxRecDepth 100000 in
theorem heavy_any {ao : Option Addr} {m ca : Nat} {A : Nat → Option Addr} {N C : Nat → Nat} {w : World} (hc : ∀ i, i < m → ∃ b off, ao = some ⟨b, off, none⟩ ∧ w.cell? ⟨b, off + i, none⟩ = some (.slice (A i) (N i) (C i))) (hm : m ≤ 17592186044416) (hN : ∀ i, i < m → N i ≤ 17592186044416) :
    Calls Try.prog 7 #[.slice ao m ca] w fun r w' => r = .returned (.bool (decide (6000 < hvs N m m))) ∧ w' = w := by
  have HC : Hid ((∀ i, i < m → ∃ b off, ao = some ⟨b, off, none⟩ ∧ w.cell? ⟨b, off + i, none⟩ = some (.slice (A i) (N i) (C i))) ∧ ∀ i, i < m → N i ≤ 17592186044416) := ⟨hc, hN⟩
  clear hc hN
  go_enter Try.func7, Try.ntmps7
  go_wp2
  go_loopw [3, 4] (fun vn vi wr => ∃ (s i : Nat), i ≤ m ∧ vn = .int .i64 s ∧ vi = .int .i64 i ∧ s ≤ 17592186044416 + 17592186044416 ∧ Hid (s = hvs N m i) ∧ wr = w) (fun _ vi _ => m - (intOf vi).toNat)
  case atStart => exact ⟨m, 0, by omega, rfl, rfl, by omega, (show Hid _ from rfl), rfl⟩
  case round =>
    obtain ⟨s, i, hi, rfl, rfl, hs, HG, hw⟩ := hrel
    have hw := hw.symm
    subst hw
    by_cases hlt : i < m
    · have hib : (i : Int) < (m : Int) := by omega
      by_cases h6 : s ≤ 6000
      · have h6b : (s : Int) ≤ 6000 := by omega
        obtain ⟨b, off, rfl, hcl⟩ := HC.out.1 i hlt
        have hNi := HC.out.2 i hlt
        obtain ⟨x, hx⟩ : ∃ x, x = N i := ⟨_, rfl⟩
        rw [← hx] at hcl hNi
        have HV : Hid (s + x = hvs N m (i + 1)) := by
          show s + x = if hvs N m i ≤ 6000 then hvs N m i + N i else hvs N m i
          rw [← HG.out, if_pos h6, hx]
        clear hx
        go_wp2
        go_roundw
        case rel => exact ⟨s + x, i + 1, by omega, by go_num, by go_num, by omega, HV.out, by first | rfl | trivial⟩
        case measure => simp [intOf]; omega
      · have h6b : ¬ (s : Int) ≤ 6000 := by omega
        have h6c : (6000 : Int) < (s : Int) := by omega
        have HV : Hid (decide (6000 < hvs N m m) = true) := by
          show _ = _
          have h1 := hvs_stay (N := N) (m := m) (i := i) (by rw [← HG.out]; exact h6) (m - i)
          rw [show i + (m - i) = m from by omega] at h1
          rw [decide_eq_true_eq, h1, ← HG.out]; omega
        clear h6
        go_wp2
        go_ret
        exact ⟨by rw [HV.out]; rfl, rfl⟩
    · have hib : ¬ (i : Int) < (m : Int) := by omega
      have hie : m = i := by omega
      subst hie
      by_cases h6 : s ≤ 6000
      · have h6c : ¬ (6000 : Int) < (s : Int) := by omega
        have HV : Hid (decide (6000 < hvs N m m) = false) := by
          show _ = _
          rw [decide_eq_false_iff_not, ← HG.out]; omega
        clear h6
        go_wp2
        go_ret
        exact ⟨by rw [HV.out]; rfl, rfl⟩
      · have h6c : (6000 : Int) < (s : Int) := by omega
        have HV : Hid (decide (6000 < hvs N m m) = true) := by
          show _ = _
          rw [decide_eq_true_eq, ← HG.out]; omega
        clear h6
        go_wp2
        go_ret
        exact ⟨by rw [HV.out]; rfl, rfl⟩
end Go.Proofs.Ytbofcldmgjeklaa

/- MatrixSays: lists of lists held against one another; how heavy a matrix is; are all numbers elements. -/
namespace Go.Proofs.Ytbofcldmgjeklaa
open Go.RowKit Go.Sort

theorem sl_sliceI {x : Option Addr} {n cx : Nat} {c : Nat → Nat} {w : World} (h : Sl x n c w) (hn : n ≤ 1000000) : SliceI (.slice x n cx) (zl n fun j => ((c j : Nat) : Int)) w := by
  by_cases h0 : n = 0
  · subst h0
    exact Or.inl ⟨rfl, x, cx, rfl⟩
  · obtain ⟨b, off, e, _⟩ := h 0 (by omega)
    refine Or.inr ⟨fun e => ?_, by rw [zl_len]; exact hn, b, off, cx, by rw [zl_len, e], fun j hj => ?_⟩
    · have := congrArg List.length e
      rw [zl_len] at this
      exact h0 this
    · rw [zl_len] at hj
      obtain ⟨b', off', e', hc⟩ := h j hj
      rw [e] at e'
      cases e'
      rw [zl_getD n _ j hj]; exact hc

set_option maxHeartbeats 4000000 in
set_option maxRecDepth 100000 in
theorem relements_any {D : FD} (gen : Nat) (v : Value) {ao : Option Addr} {n ca : Nat} {z : Nat → Int} {w : World} (hn : n ≤ 1000000) (hA : SlZ ao n z w) :
    Calls Try.prog 13 #[.agg #[.int .i64 D.q, .int .i64 D.p, .int .i64 D.m, .int .i64 gen, v], .slice ao n ca] w fun e w' => e = .returned (.bool (D.allHas z n)) ∧ Below w.heap.size w w' := by
  have hbl : Below w.heap.size w (w.alloc (.cells #[.int .i64 D.q, .int .i64 D.p, .int .i64 D.m, .int .i64 gen, v] 31)) := (Below.refl _ _).alloc (Nat.le_refl _) _
  have HS : Hid (SlZ ao n z w ∧ Box w.heap.size D gen v (w.alloc (.cells #[.int .i64 D.q, .int .i64 D.p, .int .i64 D.m, .int .i64 gen, v] 31)) ∧ Below w.heap.size w (w.alloc (.cells #[.int .i64 D.q, .int .i64 D.p, .int .i64 D.m, .int .i64 gen, v] 31))) := ⟨hA, box_new D gen _ w, hbl⟩
  clear hA hbl
  go_enter Try.func13, Try.ntmps13
  go_wp2
  go_loopw [5] (fun i wr => ∃ r : Nat, r ≤ n ∧ i = .int .i64 r ∧ Hid (Box w.heap.size D gen v wr ∧ Below w.heap.size w wr ∧ D.allHas z r = true) ∧ w.heap.size < wr.heap.size) (fun i _ => n - (intOf i).toNat)
  case atStart => exact ⟨0, by omega, rfl, ⟨HS.out.2.1, HS.out.2.2, rfl⟩, by simp⟩
  case round =>
    obtain ⟨r, hr, rfl, HG, hsz⟩ := hrel
    rename World => wr
    by_cases hlt : r < n
    · obtain ⟨b, off, rfl, hcl⟩ := (slz_below HS.out.1 HG.out.2.1) r hlt
      obtain ⟨x, hx⟩ : ∃ x, x = z r := ⟨_, rfl⟩
      rw [← hx] at hcl
      have z1 : (0 : Int) ≤ (r : Int) := by omega
      have z2 : (r : Int) < (n : Int) := by omega
      have k0 := cell_regrown HG.out.1.c0
      have k1 := cell_regrown HG.out.1.c1
      have k2 := cell_regrown HG.out.1.c2
      have k3 := cell_regrown HG.out.1.c3
      have k4 := cell_regrown HG.out.1.c4
      have k5 := cell_regrown hcl
      have HC : Hid (∀ d os, Calls Try.prog 41 #[.agg #[.int .i64 D.q, .int .i64 D.p, .int .i64 D.m, .int .i64 gen, v], .int .i64 x] (grow (redrawn wr d) os) fun e w'' => e = .returned (.bool (D.has x)) ∧ ∃ p : Regrown, w'' = grow (redrawn wr p.d) p.os) := fun d os => Calls.regrown_of (rhas_any D gen v x (grow (redrawn wr d) os))
      by_cases hh : D.has x = true
      · rw [hh] at HC
        have HH : Hid (D.allHas z (r + 1) = true) := by
          show (D.allHas z r && D.has (z r)) = true
          rw [HG.out.2.2, ← hx, hh]; rfl
        clear hx hcl hh
        go_wp2
        refine wp_region_quiet_below (by kernel_rfl) (by kernel_rfl) ?_
        repeat (go_big_quiet_step (first | (go_at_call 41; exact HC.out _ _)))
        refine wpQuiet_nil ?_
        intro _ hw'
        obtain ⟨⟨dq, osq⟩, hw''⟩ := hw'
        subst hw''
        have hb := below_regrown wr dq osq
        have HR : Hid (Box w.heap.size D gen v (grow (redrawn wr dq) osq) ∧ Below w.heap.size w (grow (redrawn wr dq) osq)) := ⟨HG.out.1.below hb hsz, bel_up HG.out.2.1 hb⟩
        have hs := hb.size
        clear hb k0 k1 k2 k3 k4 k5 HC
        go_wp2
        go_roundw
        case rel => exact ⟨r + 1, by omega, by go_num, ⟨HR.out.1, HR.out.2, HH.out⟩, by omega⟩
        case measure => simp [intOf]; omega
      · have hh' : D.has x = false := by simpa using hh
        rw [hh'] at HC
        have HH : Hid (D.allHas z n = false) := by
          show _ = _
          cases h : D.allHas z n with
          | false => rfl
          | true => exact absurd (by rw [hx]; exact allHas_iff.1 h r hlt) hh
        clear hx hcl hh hh'
        go_wp2
        refine wp_region_quiet_below (by kernel_rfl) (by kernel_rfl) ?_
        repeat (go_big_quiet_step (first | (go_at_call 41; exact HC.out _ _)))
        refine wpQuiet_nil ?_
        intro _ hw'
        obtain ⟨⟨dq, osq⟩, hw''⟩ := hw'
        subst hw''
        have hb := below_regrown wr dq osq
        have HR : Hid (Below w.heap.size w (grow (redrawn wr dq) osq)) := bel_up HG.out.2.1 hb
        clear hb k0 k1 k2 k3 k4 k5 HC
        go_wp2
        go_ret
        exact ⟨by rw [HH.out]; rfl, HR.out⟩
    · have hre : n = r := by omega
      subst hre
      have HH : Hid (D.allHas z n = true) := HG.out.2.2
      go_wp2
      go_ret
      exact ⟨by rw [HH.out]; rfl, HG.out.2.1⟩
end Go.Proofs.Ytbofcldmgjeklaa

/- MatrixSays: inverses. -/
namespace Go.Proofs.Ytbofcldmgjeklaa
open Go.RowKit Go.Sort

theorem mchk_of {D : FD} {m : Nat} {N : Nat → Nat} {Z : Nat → Nat → Int} (hm : m ≤ 64) (h : ∀ i, i < m → D.mrow (N 0) (N i) (Z i) = 0) : D.mchk m N Z = 0 := by
  have key : ∀ k, k ≤ m → D.mchks N Z k = 0 := fun k => by
    induction k with
    | zero => intro _; rfl
    | succ k ih =>
      intro hk
      rw [FD.mchks, ih (by omega)]
      simp [h k (by omega)]
  unfold FD.mchk
  rw [if_neg (by omega)]
  exact key m (Nat.le_refl _)
theorem InvR.matZ {G2 m : Nat} {h : Nat → Nat} {R : Nat → Nat → Nat} {w : World} (H : InvR G2 m h R w) (hm : m ≤ 64) : MatZ (some ⟨G2, 0, none⟩) m (fun i => some ⟨h i, m, none⟩) (fun _ => m) (fun _ => m) (fun i c => ((R i (m + c) : Nat) : Int)) w :=
  ⟨fun i hi => ⟨G2, 0, rfl, by rw [Nat.zero_add]; exact (H i hi).1⟩, fun i hi => (H i hi).2, fun i _ => Nat.le_refl _, fun i _ => (by omega), (fun i _ e => by cases e), fun i _ => (by omega)⟩
theorem InvR.mchk {D : FD} {m : Nat} {R : Nat → Nat → Nat} (hm0 : 0 < m) (hm : m ≤ 64) (he : ∀ i, i < m → El D (R i)) : D.mchk m (fun _ => m) (fun i c => ((R i (m + c) : Nat) : Int)) = 0 := by
  refine mchk_of hm (fun i hi => ?_)
  unfold FD.mrow
  rw [if_neg (by omega), if_neg (by omega), if_pos]
  exact allHas_iff.2 (fun j _ => has_of_lt (he i hi (m + j)))

end Go.Proofs.Ytbofcldmgjeklaa

/- MatrixSays: one matrix (matrixOne), where it may not be, and where it has no row. -/
namespace Go.Proofs.Ytbofcldmgjeklaa
open Go.RowKit Go.Sort

end Go.Proofs.Ytbofcldmgjeklaa

/- MatrixSays: one matrix that may be: what the calls on both sides tell, in one form. -/
namespace Go.Proofs.Ytbofcldmgjeklaa
open Go.RowKit Go.Sort

/-- A matrix that may be, of at least one row; its reduced form; the rows for its free columns, and their reduced form. -/
structure MOk (D : FD) (ao : Option Addr) (m n : Nat) (A : Nat → Option Addr) (N C : Nat → Nat) (Z : Nat → Nat → Int) (w : World) (k : Nat) (R : Nat → Nat → Nat) (p : Nat → Nat) (k2 : Nat) (R2 : Nat → Nat → Nat) (p2 : Nat → Nat) : Prop where
  hD : D ∈ fieldsL
  mat : MatZ ao m A N C Z w
  chk : D.mchk m N Z = 0
  pos : 0 < m
  m64 : m ≤ 64
  n64 : n < 64
  wd : N 0 = n + 1
  el : ∀ i, i < m → El D (mzc N Z i) ∧ Bd (n + 1) (mzc N Z i)
  km : k ≤ m
  rre : RRE D (n + 1) k R p
  spn : ∀ v, Spn D (RowsOf k R) v ↔ Spn D (RowsOf m (mzc N Z)) v
  km2 : k2 ≤ nct k p (n + 1)
  rre2 : RRE D (n + 1) k2 R2 p2
  spn2 : ∀ v, Spn D (RowsOf k2 R2) v ↔ Spn D (RowsOf (nct k p (n + 1)) (nul D R p k (n + 1))) v
theorem MOk.below {D : FD} {ao : Option Addr} {m n : Nat} {A : Nat → Option Addr} {N C : Nat → Nat} {Z : Nat → Nat → Int} {w w' : World} {k : Nat} {R : Nat → Nat → Nat} {p : Nat → Nat} {k2 : Nat} {R2 : Nat → Nat → Nat} {p2 : Nat → Nat} (h : MOk D ao m n A N C Z w k R p k2 R2 p2) (hb : Below w.heap.size w w') : MOk D ao m n A N C Z w' k R p k2 R2 p2 :=
  ⟨h.hD, h.mat.below hb, h.chk, h.pos, h.m64, h.n64, h.wd, h.el, h.km, h.rre, h.spn, h.km2, h.rre2, h.spn2⟩
theorem MOk.matR {D : FD} {ao : Option Addr} {m n : Nat} {A : Nat → Option Addr} {N C : Nat → Nat} {Z : Nat → Nat → Int} {w : World} {k : Nat} {R : Nat → Nat → Nat} {p : Nat → Nat} {k2 : Nat} {R2 : Nat → Nat → Nat} {p2 : Nat → Nat} (h : MOk D ao m n A N C Z w k R p k2 R2 p2) : MatR ao m n (mzc N Z) w := by
  obtain ⟨_, n', h2, _, _, h5⟩ := mchk_rows (fld h.hD) h.chk h.mat h.pos
  have : n' = n := by have := h.wd; omega
  rw [← this]; exact h5
theorem RL.open {v : Value} {k n : Nat} {R : Nat → Nat → Nat} {w : World} (h : RL v k n R w) : ∃ ao ca, v = .slice ao k ca := by
  obtain ⟨ao, ca, e, _⟩ := h
  exact ⟨ao, ca, e⟩
theorem KI.open {v : Value} {k : Nat} {z : Nat → Int} {w : World} (h : KI v (zl k z) w) : ∃ ao ca, v = .slice ao k ca := by
  rcases h.1 with ⟨e, ao, ca, rfl⟩ | ⟨_, _, b, off, ca, rfl, _⟩
  · have := congrArg List.length e
    rw [zl_len] at this
    have : k = 0 := this
    subst this
    exact ⟨ao, ca, rfl⟩
  · rw [zl_len]; exact ⟨_, _, rfl⟩


end Go.Proofs.Ytbofcldmgjeklaa

/- MatrixSays: one matrix (matrixOne) that may be. -/
namespace Go.Proofs.Ytbofcldmgjeklaa
open Go.RowKit Go.Sort

theorem KI.same {va vb : Value} {l : List Int} {w : World} (ha : KI va l w) (hb : KI vb l w) :
    Calls Try.prog 68 #[va, vb] w fun e w' => e = .returned (.bool true) ∧ Below w.heap.size w w' := by
  refine (same_any ha.1 hb.1).mono ?_
  rintro e w' ⟨rfl, d, rfl⟩
  exact ⟨by rw [decide_eq_true rfl], ⟨rfl, rfl, rfl, Nat.le_refl _, fun _ _ => rfl⟩⟩

end Go.Proofs.Ytbofcldmgjeklaa

/- MatrixSays: one matrix (matrixOne) without a row. -/
namespace Go.Proofs.Ytbofcldmgjeklaa
open Go.RowKit Go.Sort

end Go.Proofs.Ytbofcldmgjeklaa

/- MatrixSays: the walk of the statement, whatever it is given. -/
namespace Go.Proofs.Ytbofcldmgjeklaa
open Go.RowKit Go.Sort

end Go.Proofs.Ytbofcldmgjeklaa

/- MatrixSays: the walk of the statement, whatever it is given. -/
namespace Go.Proofs.Ytbofcldmgjeklaa
open Go.RowKit Go.Sort

end Go.Proofs.Ytbofcldmgjeklaa

/- MatrixSays: the walk of the statement, whatever it is given: all cases. -/
namespace Go.Proofs.Ytbofcldmgjeklaa
open Go.RowKit Go.Sort

end Go.Proofs.Ytbofcldmgjeklaa

/- The program's polynomials: a sum with an empty list, wherever that lies. -/
namespace Go.Proofs.Ytbofcldmgjeklaa
open Go.RowKit Go.Sort

end Go.Proofs.Ytbofcldmgjeklaa

/- Curves (lists.Curve): what both sides reckon; the calls that they make. -/
namespace Go.Proofs.Ytbofcldmgjeklaa
open Go.RowKit Go.Sort

theorem OwnP.arg {base n : Nat} {v : Value} {c : Nat → Nat} {w : World} (h : OwnP base v n c w) (hn : n ≤ 1000000) : ∃ so sc, v = .slice so n sc ∧ Arg so n sc (fun j => ((c j : Nat) : Int)) w := by
  obtain ⟨so, sc, rfl, h1, h2, _, h4, h5, h6⟩ := h.open
  exact ⟨so, sc, rfl, h6, h4, hn, h5, h1, h2⟩
theorem MatZ.arg {ao : Option Addr} {m : Nat} {A : Nat → Option Addr} {N C : Nat → Nat} {Z : Nat → Nat → Int} {w : World} (h : MatZ ao m A N C Z w) {j : Nat} (hj : j < m) (hN : N j ≠ 0) : Arg (A j) (N j) (C j) (Z j) w := by
  refine ⟨h.sl j hj, fun x hx => ?_, h.few j hj, h.nil j hj, h.le j hj, h.cap j hj⟩
  obtain ⟨b, off, e, hc⟩ := h.sl j hj 0 (by omega)
  rw [hx] at e
  cases e
  exact cell_lt hc
end Go.Proofs.Ytbofcldmgjeklaa

/- Curves: the program's, and the reference's. -/
namespace Go.Proofs.Ytbofcldmgjeklaa
open Go.RowKit Go.Sort

end Go.Proofs.Ytbofcldmgjeklaa

/- Curves: the reference's. -/
namespace Go.Proofs.Ytbofcldmgjeklaa
open Go.RowKit Go.Sort

end Go.Proofs.Ytbofcldmgjeklaa

/- ListsCurve: the walk of the statement, whatever it is given. -/
namespace Go.Proofs.Ytbofcldmgjeklaa
open Go.RowKit Go.Sort

end Go.Proofs.Ytbofcldmgjeklaa

/- Matrices out of raw numbers (MatrixOf). -/
namespace Go.Proofs.Ytbofcldmgjeklaa
open Go.RowKit Go.Sort

def slA (v : Value) : Option Addr := match v with | .slice a _ _ => a | _ => none
def slC (v : Value) : Nat := match v with | .slice _ _ c => c | _ => 0
/-- i lists of c numbers below q, in a list of the call's own. -/
structure MkS (base q c i : Nat) (v : Value) (vs : Nat → Value) (Z : Nat → Nat → Int) (w : World) : Prop where
  own : OwnV base v (vl i vs) w
  row : ∀ j, j < i → OwnI base (vs j) (zl c (Z j)) w
  blw : ∀ j, j < i → Blw q c (Z j)
theorem MkS.below {base q c i : Nat} {v : Value} {vs : Nat → Value} {Z : Nat → Nat → Int} {w w' : World} (h : MkS base q c i v vs Z w) (hb : Below w.heap.size w w') : MkS base q c i v vs Z w' :=
  ⟨h.own.below hb (Nat.le_refl _), fun j hj => (h.row j hj).below hb (fun k hk => ((h.row j hj).lt k hk).2), h.blw⟩
theorem MkS.push {base q c i : Nat} {v v' u : Value} {vs : Nat → Value} {Z : Nat → Nat → Int} {y : Nat → Int} {w w' : World} (h : MkS base q c i v vs Z w) (hu : OwnI base u (zl c y) w) (hy : Blw q c y) (ho : OwnV base v' (vl i vs ++ [u]) w') (hg : w.grownBy w' v.ownBlock) :
    MkS base q c (i + 1) v' (fun j => if j = i then u else vs j) (fun j => if j = i then y else Z j) w' := by
  refine ⟨?_, fun j hj => ?_, fun j hj => ?_⟩
  · have e : vl (i + 1) (fun j => if j = i then u else vs j) = vl i vs ++ [u] := by
      unfold vl
      rw [List.range_succ, List.map_append]
      congr 1
      · exact List.map_congr_left (fun j hj => by rw [if_neg (by have := List.mem_range.1 hj; omega)])
      · simp
    rw [e]; exact ho
  · by_cases e : j = i
    · simp only [if_pos e]; exact hu.kept hg (hu.apart h.own)
    · simp only [if_neg e]; exact (h.row j (by omega)).kept hg ((h.row j (by omega)).apart h.own)
  · by_cases e : j = i
    · simp only [if_pos e]; exact hy
    · simp only [if_neg e]; exact h.blw j (by omega)
theorem MkS.matZ {base q c i : Nat} {v : Value} {vs : Nat → Value} {Z : Nat → Nat → Int} {w : World} (h : MkS base q c i v vs Z w) (hc : c ≤ 1000000) : ∃ mo mc, v = .slice mo i mc ∧ MatZ mo i (fun j => slA (vs j)) (fun _ => c) (fun j => slC (vs j)) Z w := by
  obtain ⟨mo, mc, hv, _, _, _, hcell⟩ := h.own.open
  rw [vl_len] at hv
  have key : ∀ j, j < i → ∃ so sc, vs j = .slice so c sc ∧ ArgL so c sc (Z j) w := fun j hj => (h.row j hj).argL
  refine ⟨mo, mc, hv, ⟨fun j hj => ?_, fun j hj => ?_, fun j hj => ?_, fun j hj => ?_, fun j hj => ?_, fun j _ => hc⟩⟩
  · obtain ⟨g, e, hc, _⟩ := hcell j (vs j) (vl_get i vs j hj)
    obtain ⟨so, sc, e2, _⟩ := key j hj
    refine ⟨g, 0, e, ?_⟩
    rw [Nat.zero_add, hc, e2]; rfl
  · obtain ⟨so, sc, e2, ha⟩ := key j hj
    simp only [e2, slA]; exact ha.sl
  · obtain ⟨so, sc, e2, ha⟩ := key j hj
    simp only [e2, slC]; exact ha.le
  · obtain ⟨so, sc, e2, ha⟩ := key j hj
    simp only [e2, slC]; exact ha.cap
  · obtain ⟨so, sc, e2, ha⟩ := key j hj
    simp only [e2, slA, slC]; exact ha.nil

end Go.Proofs.Ytbofcldmgjeklaa

/- MatrixMade: the walk of the statement, whatever raw numbers it is given. -/
namespace Go.Proofs.Ytbofcldmgjeklaa
open Go.RowKit Go.Sort

end Go.Proofs.Ytbofcldmgjeklaa

/- Plain mathematics: the shortest rule of a list (Berlekamp and Massey). -/
namespace Go.Proofs.Ytbofcldmgjeklaa

/-- The rule C of length L holds for the first N numbers of s. -/
def Gen (D : FD) (s C : Nat → Nat) (L N : Nat) : Prop := ∀ t, L ≤ t → t < N → pmul D (L + 1) C s t = 0
/-- A rule of length L. -/
structure Rul (D : FD) (C : Nat → Nat) (L : Nat) : Prop where
  el : El D C
  bd : Bd (L + 1) C
  one : C 0 = 1
/-- The state when i numbers are seen: the rule, its length; an older rule, what it missed. -/
structure BMS (D : FD) (s : Nat → Nat) (i : Nat) (C : Nat → Nat) (lc L : Nat) (O : Nat → Nat) (lo b : Nat) : Prop where
  rul : Rul D C L
  bdc : Bd lc C
  lcL : lc ≤ L + 1
  lc1 : 1 ≤ lc
  le : L ≤ i
  gen : Gen D s C L i
  min : ∀ C' L', Rul D C' L' → Gen D s C' L' i → L ≤ L'
  elo : El D O
  bdo : Bd lo O
  loL : lo ≤ i + 1 - L
  bq : b < D.q
  b0 : b ≠ 0
  old : L = 0 ∨ (1 ≤ i ∧ (∀ t, i - L ≤ t → t + 1 < i → pmul D lo O s t = 0) ∧ pmul D lo O s (i - 1) = b)
end Go.Proofs.Ytbofcldmgjeklaa

/- The program's rules (reed): trim, missed, less. -/
namespace Go.Proofs.Ytbofcldmgjeklaa
open Go.RowKit Go.Sort

end Go.Proofs.Ytbofcldmgjeklaa

/- The program's rules (reed): the shortest one (shortest, Massey). -/
namespace Go.Proofs.Ytbofcldmgjeklaa
open Go.RowKit Go.Sort

theorem OwnI.argN {base : Nat} {v : Value} {n : Nat} {c : Nat → Nat} {w : World} (h : OwnI base v (zl n fun j => ((c j : Nat) : Int)) w) (hn : n ≤ 1000000) : ∃ so sc, v = .slice so n sc ∧ Arg so n sc (fun j => ((c j : Nat) : Int)) w := by
  obtain ⟨so, sc, e, ha⟩ := h.argL
  exact ⟨so, sc, e, ha.arg hn⟩
theorem row_arg {g n : Nat} {c : Nat → Nat} {w : World} (h : Row g n c w) (hn : n ≤ 1000000) : Arg (some ⟨g, 0, none⟩) n n (fun j => ((c j : Nat) : Int)) w :=
  ⟨h.sl (Nat.le_refl _), fun x hx => (by cases hx; exact h.lt), hn, fun e => (by cases e), Nat.le_refl _, by omega⟩
theorem Arg.drewN {ao : Option Addr} {n cap : Nat} {z : Nat → Int} {w : World} (h : Arg ao n cap z w) (k : Nat) : Arg ao n cap z (w.drewN k) := ⟨h.sl, h.lt, h.few, h.nil, h.le, h.cap⟩

end Go.Proofs.Ytbofcldmgjeklaa

/- The program's Massey; lists that are far too long. -/
namespace Go.Proofs.Ytbofcldmgjeklaa
open Go.RowKit Go.Sort

end Go.Proofs.Ytbofcldmgjeklaa

/- Equations that can be met, and the rules of shorter length. -/
namespace Go.Proofs.Ytbofcldmgjeklaa
open Go.RowKit Go.Sort

/-- The sum of the products, place by place. -/
def dt (D : FD) (u v : Nat → Nat) : Nat → Nat
  | 0 => 0
  | n + 1 => D.ad (dt D u v n) (D.mul (u n) (v n))
theorem dt_lt {D : FD} (F : Fld D) (u v : Nat → Nat) : ∀ n, dt D u v n < D.q
  | 0 => zero_lt' F
  | n + 1 => ad_lt F (dt_lt F u v n) (F.mul_lt _ _)
theorem dt_nil {D : FD} (F : Fld D) (v : Nat → Nat) : ∀ n, dt D pnil v n = 0
  | 0 => rfl
  | n + 1 => by
    show D.ad (dt D pnil v n) (D.mul 0 (v n)) = 0
    rw [dt_nil F v n, zmul F, ad_zero F (zero_lt' F)]
theorem dt_add {D : FD} (F : Fld D) {u u' : Nat → Nat} (v : Nat → Nat) (hu : El D u) (hu' : El D u') : ∀ n, dt D (padd D u u') v n = D.ad (dt D u v n) (dt D u' v n)
  | 0 => (ad_zero F (zero_lt' F)).symm
  | n + 1 => by
    show D.ad (dt D (padd D u u') v n) (D.mul (D.ad (u n) (u' n)) (v n)) = _
    rw [dt_add F v hu hu' n, ad_mul F (hu n) (hu' n), ad4 F (dt_lt F _ _ _) (dt_lt F _ _ _) (F.mul_lt _ _) (F.mul_lt _ _)]
    rfl
theorem dt_scale {D : FD} (F : Fld D) (s : Nat) (u v : Nat → Nat) : ∀ n, dt D (pscale D s u) v n = D.mul s (dt D u v n)
  | 0 => (mul0 F s).symm
  | n + 1 => by
    show D.ad (dt D (pscale D s u) v n) (D.mul (D.mul s (u n)) (v n)) = D.mul s (D.ad (dt D u v n) (D.mul (u n) (v n)))
    rw [dt_scale F s u v n, F.mul_assoc, mul_ad F (dt_lt F _ _ _) (F.mul_lt _ _)]
theorem dt_same {D : FD} {u v v' : Nat → Nat} : ∀ n, (∀ j, j < n → v j = v' j) → dt D u v n = dt D u v' n
  | 0, _ => rfl
  | n + 1, h => by
    show D.ad (dt D u v n) (D.mul (u n) (v n)) = D.ad (dt D u v' n) (D.mul (u n) (v' n))
    rw [dt_same n (fun j hj => h j (by omega)), h n (by omega)]
theorem dt_put {D : FD} (F : Fld D) {u v : Nat → Nat} {a c : Nat} (hv : v a = 0) : ∀ n, a < n → dt D u (fun j => if j = a then c else v j) n = D.ad (dt D u v n) (D.mul (u a) c)
  | 0, h => absurd h (by omega)
  | n + 1, h => by
    show D.ad (dt D u (fun j => if j = a then c else v j) n) (D.mul (u n) (if n = a then c else v n)) = D.ad (D.ad (dt D u v n) (D.mul (u n) (v n))) (D.mul (u a) c)
    by_cases e : n = a
    · subst e
      rw [if_pos rfl, hv, mul0 F, ad_zero F (dt_lt F _ _ _), dt_same n (v' := v) (fun j hj => if_neg (by omega))]
    · rw [if_neg e, dt_put F hv n (by omega), ad_assoc F (dt_lt F _ _ _) (F.mul_lt _ _) (F.mul_lt _ _), ad_assoc F (dt_lt F _ _ _) (F.mul_lt _ _) (F.mul_lt _ _), ad_comm F (D.mul (u a) c)]
theorem slx_none {R : Nat → Nat → Nat} {p : Nat → Nat} {n j : Nat} : ∀ r, (∀ i, i < r → p i ≠ j) → slx R p n r j = 0
  | 0, _ => rfl
  | r + 1, h => by
    show (if j = p r then R r n else slx R p n r j) = 0
    rw [if_neg (fun e => h r (by omega) e.symm), slx_none r (fun i hi => h i (by omega))]
theorem slx_el {D : FD} (F : Fld D) {R : Nat → Nat → Nat} {p : Nat → Nat} {n : Nat} : ∀ r, (∀ i, i < r → El D (R i)) → El D (slx R p n r)
  | 0, _ => fun _ => zero_lt' F
  | r + 1, h => fun j => by
    show (if j = p r then R r n else slx R p n r j) < D.q
    split
    · exact h r (by omega) n
    · exact slx_el F r (fun i hi => h i (by omega)) j
theorem dt_slx {D : FD} (F : Fld D) {n k : Nat} {R : Nat → Nat → Nat} {p : Nat → Nat} (h : RRE D (n + 1) k R p) (hp : ∀ i, i < k → p i ≠ n) (i : Nat) (hi : i < k) : ∀ r, r ≤ k → dt D (R i) (slx R p n r) n = if i < r then R i n else 0
  | 0, _ => by
    rw [if_neg (by omega)]
    have e : ∀ n, dt D (R i) (slx R p n 0) n = 0 := fun n => by
      have : ∀ m, dt D (R i) (slx R p n 0) m = 0 := fun m => by
        induction m with
        | zero => rfl
        | succ m ih =>
          show D.ad (dt D (R i) (slx R p n 0) m) (D.mul (R i m) 0) = 0
          rw [ih, mul0 F, ad_zero F (zero_lt' F)]
      exact this n
    exact e n
  | r + 1, hr => by
    have hpr : p r < n := by have := h.lt r (by omega); have := hp r (by omega); omega
    have e := dt_put F (u := R i) (v := slx R p n r) (a := p r) (c := R r n) (slx_none r (fun j hj => by have := h.mono j r hj (by omega); omega)) n hpr
    have e2 : slx R p n (r + 1) = fun j => if j = p r then R r n else slx R p n r j := rfl
    rw [e2, e, dt_slx F h hp i hi r (by omega)]
    by_cases e3 : i = r
    · subst e3
      rw [if_neg (by omega), if_pos (by omega), h.one i hi, omul F (h.el i hi n), zero_ad F (h.el i hi n)]
    · rw [h.zero i r hi (by omega) e3, zmul F]
      by_cases e4 : i < r
      · rw [if_pos e4, if_pos (by omega), ad_zero F (h.el i hi n)]
      · rw [if_neg e4, if_neg (by omega), ad_zero F (zero_lt' F)]
/-- What the reduced equations say is a solution. -/
theorem slx_solves {D : FD} (F : Fld D) {m n k : Nat} {R M : Nat → Nat → Nat} {p b : Nat → Nat} (h : RRE D (n + 1) k R p) (hp : ∀ i, i < k → p i ≠ n) (hel : ∀ i, i < m → El D (M i)) (hb : ∀ i, i < m → b i < D.q) (hs : ∀ v, Spn D (RowsOf k R) v ↔ Spn D (RowsOf m (aug n M b)) v) (i : Nat) (hi : i < m) : dt D (M i) (slx R p n k) n = b i := by
  have h1 : Spn D (RowsOf k R) (aug n M b i) := (hs _).2 (spn_mem F (aug_el (hel i hi) (hb i hi)) ⟨i, hi, rfl⟩)
  have h2 : El D (aug n M b i) ∧ dt D (aug n M b i) (slx R p n k) n = aug n M b i n := by
    refine spn_ind (Q := fun v => El D v ∧ dt D v (slx R p n k) n = v n) ⟨el_nil F, dt_nil F _ _⟩ ?_ ?_ ?_ h1
    · rintro u v ⟨a1, a2⟩ ⟨b1, b2⟩
      refine ⟨el_add F a1 b1, ?_⟩
      rw [dt_add F _ a1 b1, a2, b2]; rfl
    · rintro s v ⟨a1, a2⟩
      refine ⟨el_scale F _ _, ?_⟩
      rw [dt_scale F, a2]; rfl
    · rintro v ⟨j, hj, rfl⟩
      refine ⟨h.el j hj, ?_⟩
      rw [dt_slx F h hp j hj k (Nat.le_refl _), if_pos hj]
  have h3 := h2.2
  have e1 : ∀ r, r ≤ n → dt D (aug n M b i) (slx R p n k) r = dt D (M i) (slx R p n k) r := fun r => by
    induction r with
    | zero => intro _; rfl
    | succ r ih =>
      intro hr
      show D.ad (dt D (aug n M b i) (slx R p n k) r) (D.mul (aug n M b i r) _) = D.ad (dt D (M i) (slx R p n k) r) (D.mul (M i r) _)
      rw [ih (by omega)]
      have : aug n M b i r = M i r := if_neg (by omega)
      rw [this]
  rw [e1 n (Nat.le_refl _)] at h3
  rw [h3]
  exact if_pos rfl
end Go.Proofs.Ytbofcldmgjeklaa

/- The reference's Rules: does the rule hold? -/
namespace Go.Proofs.Ytbofcldmgjeklaa
open Go.RowKit Go.Sort

end Go.Proofs.Ytbofcldmgjeklaa

/- 'append' of one number, and where its list lies then. -/
namespace Go.Proofs.Ytbofcldmgjeklaa
open Go.RowKit Go.Sort

/-- The same, at a step of a region that draws its order. -/
theorem step_append_int_at {ops : Array Oper} {o : Oper} {a : Act} {w : World} {K : Act → World → Prop} {Q : Exit → Act → World → Prop} {E : Prop} (hgd : o.guard = none) (s x : Operand)
    (ho : o.op = .call { callee := .builtin .append, args := #[s, x], argTypes := #[22, 22] })
    (base : Nat) (v : Value) (l : List Int) (hs : a.eval s = v) (hown : OwnI base v l w) (ad : Addr) (c : Nat) (y : Int) (hx : a.eval x = .slice (some ad) 1 c) (hcell : w.cell? ad = some (.int .i64 y))
    (hlen : l.length ≤ 1000000) (hbase : base ≤ w.heap.size)
    (h : ∀ g cap w', OwnI base (.slice (some ⟨g, 0, none⟩) (l.length + 1) cap) (l ++ [y]) w' → w.grownBy w' v.ownBlock → (Value.ownBlock (.slice (some ⟨g, 0, none⟩) (l.length + 1) cap) = v.ownBlock ∨ Value.ownBlock (.slice (some ⟨g, 0, none⟩) (l.length + 1) cap) = some w.heap.size) → K (a.put o.dst (.slice (some ⟨g, 0, none⟩) (l.length + 1) cap)) w') :
    if Region.wanted o (yielded ops a.tmps) = true then Oper.wp Try.prog o a w K Q else E := by
  obtain ⟨i0, hi, hz0, hz1, hz2⟩ := info_parts Try.infoInt
  refine step_append_lies w hgd s x 22 ho base 3 i0 (.int .i64 0) 1 8 Try.underlying22 hi hz0 hz1 hz2 rfl (by decide) v l.length _ hs hown ad 1 c [.int .i64 y] hx rfl ?_ ?_ (by omega) ?_ ?_ hbase _ rfl ?_
  · intro j u hj
    match j, hj with
    | 0, hj =>
      simp at hj; subst hj
      have : ad.add 0 = ad := by cases ad with | mk b o s => cases s <;> simp [Addr.add]
      rw [this]; exact hcell
  · intro u hu; simp at hu; subst hu; rfl
  · unfold maxLen; omega
  · omega
  · intro g cap w' hown' hgrow hat _
    refine h g cap w' ?_ hgrow ?_
    · unfold OwnI
      rw [List.map_append, List.length_append]
      exact hown'
    · rcases hat with e | e
      · exact Or.inl e.symm
      · exact Or.inr (by rw [e]; rfl)
end Go.Proofs.Ytbofcldmgjeklaa
