/- Texts of ours, one behind the other: O2 O3 L11 L12 L13 L14 U23. -/
import Derived.Test.YtpccbiinfdppnadZL10
import Derived.Test.YtpccbiinfdppnadZT2
import Derived.Test.YtpccbiinfdppnadZX18
/- A list of lists of numbers that a statement is given, opened. -/
namespace Go.Proofs.Ytpccbiinfdppnad
open Go.ChangeShapes Go.WideShapes Go.ChangeAt Go.RowKit

theorem Try.cellsSl : Try.prog.cellsOf 22 = 1 := by kernel_rfl
theorem Try.bytesSl : Try.prog.bytesOf 22 = 24 := by kernel_rfl

/-- A matrix that is handed in: m lists of whatever length. -/
structure MatO (ao : Option Addr) (m : Nat) (A : Nat → Option Addr) (N C : Nat → Nat) (Z : Nat → Nat → Int) (w : World) : Prop where
  cell : ∀ i, i < m → ∃ b off, ao = some ⟨b, off, none⟩ ∧ w.cell? ⟨b, off + i, none⟩ = some (.slice (A i) (N i) (C i))
  sl : ∀ i, i < m → SlZ (A i) (N i) (Z i) w
  le : ∀ i, i < m → N i ≤ C i
  cap : ∀ i, i < m → C i ≤ 9223372036854775807
  nil : ∀ i, i < m → A i = none → C i = 0
theorem MatO.matZ {ao : Option Addr} {m : Nat} {A : Nat → Option Addr} {N C : Nat → Nat} {Z : Nat → Nat → Int} {w : World} (h : MatO ao m A N C Z w) (hf : ∀ i, i < m → N i ≤ 1000000) : MatZ ao m A N C Z w := ⟨h.cell, h.sl, h.le, h.cap, h.nil, hf⟩

theorem spot_none {w : World} {a : Addr} {v : Value} (h : w.cell? a = some v) : a.spot = none := by
  obtain ⟨b, off, spot⟩ := a
  cases spot with
  | none => rfl
  | some s =>
    exfalso
    simp only [World.cell?] at h
    split at h <;> simp at h

/-- How long a list of lists may be, and its lists. -/
def RowsD {H : Type} (m ca : Nat) (C : Nat → Nat) (d : DataW H) : Prop := (d = .nil ∧ m = 0 ∧ ca = 0) ∨ ∃ es sp, d = .slice es sp ∧ es.length = m ∧ es.length + sp.length = ca ∧ ∀ i, i < m → ∃ di, es[i]? = some di ∧ ((di = .nil ∧ C i = 0) ∨ ∃ e2 s2, di = .slice e2 s2 ∧ e2.length + s2.length = C i)

set_option maxRecDepth 100000 in
theorem open_rows {H : Type} {enc : TypeId × Value → H} {W : World} {base : Nat} {v : Value} {d : DataW H} {p : List MemPlace} (hok : Value.okWide Try.prog W .any base 41 v)
    (h : DataW.Trod enc Try.prog W 0 (fun _ => true) true 41 v d p) :
    ∃ ao m ca A N C Z, v = .slice ao m ca ∧ MatO ao m A N C Z W ∧ m ≤ ca ∧ RowsD m ca C d := by
  obtain ⟨a0, len, cap, rfl⟩ := okWide_slice Try.underlying41 hok
  obtain ⟨fuel, hf⟩ := h
  rcases DataW.trod_slice Try.underlying41 hf with ⟨hcs, hx⟩ | ⟨a, len', cap', elems, rest, n, _, hcs, hx, hb, hl, hm, hlen, hel, hsp, hns⟩
  · simp [Value.cells] at hcs
    obtain ⟨rfl, rfl, rfl⟩ := hcs
    simp only [Prod.mk.injEq] at hx
    exact ⟨none, 0, 0, fun _ => none, fun _ => 0, fun _ => 0, fun _ _ => 0, rfl, ⟨fun i hi => by omega, fun i hi => by omega, fun i hi => by omega, fun i hi => by omega, fun i hi => by omega⟩, Nat.le_refl _, Or.inl ⟨hx.1, rfl, rfl⟩⟩
  · simp [Value.cells] at hcs
    obtain ⟨rfl, rfl, rfl⟩ := hcs
    simp only [Prod.mk.injEq] at hx
    have key : ∀ i, ∃ x : Option Addr × Nat × Nat × (Nat → Int), i < len → (∃ b off, some a = some ⟨b, off, none⟩ ∧ W.cell? ⟨b, off + i, none⟩ = some (.slice x.1 x.2.1 x.2.2.1)) ∧ SlZ x.1 x.2.1 x.2.2.2 W ∧ x.2.1 ≤ x.2.2.1 ∧ x.2.2.1 ≤ 9223372036854775807 ∧ (x.1 = none → x.2.2.1 = 0) ∧
        ∃ di, (elems.map (·.1))[i]? = some di ∧ ((di = .nil ∧ x.2.2.1 = 0) ∨ ∃ e2 s2, di = .slice e2 s2 ∧ e2.length + s2.length = x.2.2.1) := fun i => by
      by_cases hi : i < len
      · have hE := hel i hi
        rw [Try.cellsSl, Nat.mul_one] at hE
        have hy : ∃ y, elems[i]? = some y := ⟨elems[i]'(by omega), List.getElem?_eq_getElem _⟩
        obtain ⟨y, hy⟩ := hy
        rw [hy, Option.bind_eq_some_iff] at hE
        obtain ⟨cs', hcs', hyt⟩ := hE
        have haddr : ∀ u, cs' = [u] → ∃ b off, some a = some (⟨b, off, none⟩ : Addr) ∧ W.cell? ⟨b, off + i, none⟩ = some u := fun u hu => by
          rw [hu] at hcs'
          have hc := cell_of_cells?_one hcs'
          obtain ⟨b, off, spot⟩ := a
          by_cases h0 : i = 0
          · subst h0
            have e : (⟨b, off, spot⟩ : Addr).add 0 = ⟨b, off, spot⟩ := rfl
            rw [e] at hc
            have hs : spot = none := spot_none hc
            subst hs
            exact ⟨b, off, rfl, hc⟩
          · have hsp0 : spot = none := by
              have h00 := hel 0 (by omega)
              rw [Try.cellsSl, Nat.mul_one] at h00
              have hy0 : ∃ y, elems[0]? = some y := ⟨elems[0]'(by omega), List.getElem?_eq_getElem _⟩
              obtain ⟨y0, hy0⟩ := hy0
              rw [hy0, Option.bind_eq_some_iff] at h00
              obtain ⟨c0, hc0, _⟩ := h00
              obtain ⟨_, hl0, hr0⟩ := World.cells?_some hc0
              have h1 := hr0 0 (by omega)
              have hne : ∃ v, W.cell? ⟨b, off, spot⟩ = some v := by
                rw [List.getElem?_eq_getElem (by omega)] at h1
                exact ⟨_, h1⟩
              obtain ⟨v, hv⟩ := hne
              exact spot_none hv
            subst hsp0
            rw [add_off] at hc
            exact ⟨b, off, rfl, hc⟩
        rcases open_ints Try.underlying22 Try.underlying3 Try.cellsInt hyt with ⟨hc1, hy1⟩ | ⟨a', l', c', zs, hc1, _, hl1, hm1, hz1, hy1, hcell1, _⟩
        · refine ⟨(none, 0, 0, fun _ => 0), fun _ => ⟨haddr _ hc1, (fun j hj => absurd hj (Nat.not_lt_zero _)), Nat.le_refl _, Nat.zero_le _, (fun _ => rfl), .nil, ?_, Or.inl ⟨rfl, rfl⟩⟩⟩
          rw [List.getElem?_map, hy, hy1]; rfl
        · simp only [if_true] at hz1
          refine ⟨(some a', l', c', fun j => zs.getD j 0), fun _ => ⟨haddr _ hc1, fun j hj => ?_, hl1, hm1, (fun e => by cases e), .slice (lits .i64 (zs.take l')) (lits .i64 (zs.drop l')), (by rw [List.getElem?_map, hy, hy1]; rfl), Or.inr ⟨_, _, rfl, ?_⟩⟩⟩
          · obtain ⟨b, off, spot⟩ := a'
            have h0 := hcell1 0 (by have : j < l' := hj; omega)
            have e : (⟨b, off, spot⟩ : Addr).add 0 = ⟨b, off, spot⟩ := rfl
            rw [e] at h0
            have hs : spot = none := spot_none h0
            subst hs
            have h1 := hcell1 j (by have : j < l' := hj; omega)
            rw [add_off] at h1
            exact ⟨b, off, rfl, h1⟩
          · simp [lits]
            omega
      · exact ⟨(none, 0, 0, fun _ => 0), fun h => absurd h hi⟩
    obtain ⟨f, hf'⟩ := Classical.axiomOfChoice key
    refine ⟨some a, len, cap, fun i => (f i).1, fun i => (f i).2.1, fun i => (f i).2.2.1, fun i => (f i).2.2.2, rfl, ⟨fun i hi => (hf' i hi).1, fun i hi => (hf' i hi).2.1, fun i hi => (hf' i hi).2.2.1, fun i hi => (hf' i hi).2.2.2.1, fun i hi => (hf' i hi).2.2.2.2.1⟩, hl, Or.inr ⟨_, _, hx.1, by rw [List.length_map, hlen], ?_, fun i hi => (hf' i hi).2.2.2.2.2⟩⟩
    rw [List.length_map, List.length_map, hlen, (hsp rfl).1]
    omega
/-- No list of lists that is handed in takes more than the form's own reach, nor do its lists. -/
theorem sized_rows {H : Type} {ts : List TypeId} {ds : List (DataW H)} {d : DataW H} {m ca j : Nat} {C : Nat → Nat} (h : (DataW.weightsEach Try.prog ts ds).all (· ≤ reachBytes) = true) (ht : ts[j]? = some 41) (hd : ds[j]? = some d)
    (hc : RowsD m ca C d) : ca ≤ 17592186044416 ∧ ∀ i, i < m → C i ≤ 17592186044416 := by
  rcases hc with ⟨_, rfl, rfl⟩ | ⟨es, sp, rfl, hm, hca, hrow⟩
  · exact ⟨by omega, fun i hi => by omega⟩
  · have h1 := sized_slice h ht hd Try.underlying41
    rw [Try.bytesSl] at h1
    unfold reachBytes at h1
    refine ⟨by omega, fun i hi => ?_⟩
    obtain ⟨di, hdi, hdi2⟩ := hrow i hi
    rcases hdi2 with ⟨_, h0⟩ | ⟨e2, s2, rfl, h2⟩
    · omega
    · have hall : ∀ (l : List (DataW H)) (k : Nat), l[k]? = some (.slice e2 s2) → (e2.length + s2.length) * Try.prog.bytesOf 3 ∈ DataW.weightsAll Try.prog 22 l := fun l => by
        induction l with
        | nil => intro k hk; simp at hk
        | cons x xs ih =>
          intro k hk
          unfold DataW.weightsAll
          rw [List.mem_append]
          cases k with
          | zero =>
            simp at hk
            subst hk
            left
            simp [DataW.weights, Try.underlying22]
          | succ k => exact Or.inr (ih k (by simpa using hk))
      have hmem := DataW.weights_mem_each (P := Try.prog) ht hd ((e2.length + s2.length) * Try.prog.bytesOf 3) (by
        simp only [DataW.weights, Try.underlying41]
        exact List.mem_cons_of_mem _ (List.mem_append.2 (Or.inl (hall es i hdi))))
      have := List.all_eq_true.1 h _ hmem
      rw [Try.bytesInt] at this
      unfold reachBytes at this
      simp at this
      omega
end Go.Proofs.Ytpccbiinfdppnad

/- How heavy a list of lists is that a statement is given. -/
namespace Go.Proofs.Ytpccbiinfdppnad
open Go.RowKit Go.Sort

/-- The lists' number, and the lengths of the first i, added up to where it is above 6,000. -/
def hvs (N : Nat → Nat) (m : Nat) : Nat → Nat
  | 0 => m
  | i + 1 => if hvs N m i ≤ 6000 then hvs N m i + N i else hvs N m i
theorem hvs_stay {N : Nat → Nat} {m i : Nat} (h : ¬ hvs N m i ≤ 6000) : ∀ d, hvs N m (i + d) = hvs N m i
  | 0 => rfl
  | d + 1 => by
    show (if hvs N m (i + d) ≤ 6000 then hvs N m (i + d) + N (i + d) else hvs N m (i + d)) = _
    rw [hvs_stay h d, if_neg h]
theorem hvs_few {N : Nat → Nat} {m : Nat} : ∀ i, hvs N m i ≤ 6000 → m ≤ 6000 ∧ ∀ j, j < i → N j ≤ 6000
  | 0, h => ⟨h, fun j hj => by omega⟩
  | i + 1, h => by
    by_cases e : hvs N m i ≤ 6000
    · have h' : (if hvs N m i ≤ 6000 then hvs N m i + N i else hvs N m i) ≤ 6000 := h
      rw [if_pos e] at h'
      have ih := hvs_few i e
      refine ⟨ih.1, fun j hj => ?_⟩
      by_cases e2 : j = i
      · rw [e2]; omega
      · exact ih.2 j (by omega)
    · have h' : (if hvs N m i ≤ 6000 then hvs N m i + N i else hvs N m i) ≤ 6000 := h
      rw [if_neg e] at h'
      exact absurd h' e

set_option maxHeartbeats 2000000 in
set_option maxRecDepth 100000 in
theorem heavy_any {ao : Option Addr} {m ca : Nat} {A : Nat → Option Addr} {N C : Nat → Nat} {w : World} (hc : ∀ i, i < m → ∃ b off, ao = some ⟨b, off, none⟩ ∧ w.cell? ⟨b, off + i, none⟩ = some (.slice (A i) (N i) (C i))) (hm : m ≤ 17592186044416) (hN : ∀ i, i < m → N i ≤ 17592186044416) :
    Calls Try.prog 25 #[.slice ao m ca] w fun r w' => r = .returned (.bool (decide (6000 < hvs N m m))) ∧ w' = w := by
  have HC : Hid ((∀ i, i < m → ∃ b off, ao = some ⟨b, off, none⟩ ∧ w.cell? ⟨b, off + i, none⟩ = some (.slice (A i) (N i) (C i))) ∧ ∀ i, i < m → N i ≤ 17592186044416) := ⟨hc, hN⟩
  clear hc hN
  go_enter Try.func25, Try.ntmps25
  go_wp2
  go_loopw [3, 4] (fun vn vi wr => ∃ (s i : Nat), i ≤ m ∧ vn = .int .i64 s ∧ vi = .int .i64 i ∧ s ≤ 17592186044416 + 17592186044416 ∧ Hid (s = hvs N m i) ∧ wr = w) (fun _ vi _ => m - (intOf vi).toNat)
  case atStart => exact ⟨m, 0, by omega, rfl, rfl, by omega, (show Hid _ from rfl), rfl⟩
  case round =>
    obtain ⟨s, i, hi, rfl, rfl, hs, HG, hw⟩ := hrel
    have hw := hw.symm
    subst hw
    by_cases hlt : i < m
    · have hib : (i : Int) < (m : Int) := by omega
      by_cases h6 : s ≤ 6000
      · have h6b : (s : Int) ≤ 6000 := by omega
        obtain ⟨b, off, rfl, hcl⟩ := HC.out.1 i hlt
        have hNi := HC.out.2 i hlt
        obtain ⟨x, hx⟩ : ∃ x, x = N i := ⟨_, rfl⟩
        rw [← hx] at hcl hNi
        have HV : Hid (s + x = hvs N m (i + 1)) := by
          show s + x = if hvs N m i ≤ 6000 then hvs N m i + N i else hvs N m i
          rw [← HG.out, if_pos h6, hx]
        clear hx
        go_wp2
        go_roundw
        case rel => exact ⟨s + x, i + 1, by omega, by go_num, by go_num, by omega, HV.out, by first | rfl | trivial⟩
        case measure => simp [intOf]; omega
      · have h6b : ¬ (s : Int) ≤ 6000 := by omega
        have h6c : (6000 : Int) < (s : Int) := by omega
        have HV : Hid (decide (6000 < hvs N m m) = true) := by
          show _ = _
          have h1 := hvs_stay (N := N) (m := m) (i := i) (by rw [← HG.out]; exact h6) (m - i)
          rw [show i + (m - i) = m from by omega] at h1
          rw [decide_eq_true_eq, h1, ← HG.out]; omega
        clear h6
        go_wp2
        go_ret
        exact ⟨by rw [HV.out]; rfl, rfl⟩
    · have hib : ¬ (i : Int) < (m : Int) := by omega
      have hie : m = i := by omega
      subst hie
      by_cases h6 : s ≤ 6000
      · have h6c : ¬ (6000 : Int) < (s : Int) := by omega
        have HV : Hid (decide (6000 < hvs N m m) = false) := by
          show _ = _
          rw [decide_eq_false_iff_not, ← HG.out]; omega
        clear h6
        go_wp2
        go_ret
        exact ⟨by rw [HV.out]; rfl, rfl⟩
      · have h6c : (6000 : Int) < (s : Int) := by omega
        have HV : Hid (decide (6000 < hvs N m m) = true) := by
          show _ = _
          rw [decide_eq_true_eq, ← HG.out]; omega
        clear h6
        go_wp2
        go_ret
        exact ⟨by rw [HV.out]; rfl, rfl⟩
end Go.Proofs.Ytpccbiinfdppnad

/- MatrixSays: lists of lists held against one another; how heavy a matrix is; are all numbers elements. -/
namespace Go.Proofs.Ytpccbiinfdppnad
open Go.RowKit Go.Sort

theorem sl_sliceI {x : Option Addr} {n cx : Nat} {c : Nat → Nat} {w : World} (h : Sl x n c w) (hn : n ≤ 1000000) : SliceI (.slice x n cx) (zl n fun j => ((c j : Nat) : Int)) w := by
  by_cases h0 : n = 0
  · subst h0
    exact Or.inl ⟨rfl, x, cx, rfl⟩
  · obtain ⟨b, off, e, _⟩ := h 0 (by omega)
    refine Or.inr ⟨fun e => ?_, by rw [zl_len]; exact hn, b, off, cx, by rw [zl_len, e], fun j hj => ?_⟩
    · have := congrArg List.length e
      rw [zl_len] at this
      exact h0 this
    · rw [zl_len] at hj
      obtain ⟨b', off', e', hc⟩ := h j hj
      rw [e] at e'
      cases e'
      rw [zl_getD n _ j hj]; exact hc

set_option maxHeartbeats 2000000 in
set_option maxRecDepth 100000 in
theorem sameAll_rl {va vb : Value} {k n : Nat} {R : Nat → Nat → Nat} {w : World} (ha : RL va k n R w) (hb : RL vb k n R w) (hk : k ≤ 1000000) (hn : n ≤ 1000000) :
    Calls Try.prog 52 #[va, vb] w fun e w' => e = .returned (.bool true) ∧ ∃ n, w' = w.drewN n := by
  obtain ⟨ao, ca, rfl, ha⟩ := ha
  obtain ⟨bo, cb, rfl, hb⟩ := hb
  have HC : Hid ((∀ i, i < k → ∃ b off x cx, ao = some ⟨b, off, none⟩ ∧ w.cell? ⟨b, off + i, none⟩ = some (.slice x n cx) ∧ Sl x n (R i) w) ∧ ∀ i, i < k → ∃ b off x cx, bo = some ⟨b, off, none⟩ ∧ w.cell? ⟨b, off + i, none⟩ = some (.slice x n cx) ∧ Sl x n (R i) w) := ⟨ha, hb⟩
  clear ha hb
  go_enter Try.func52, Try.ntmps52
  go_wp2
  go_loopw [5] (fun i wr => ∃ r : Nat, r ≤ k ∧ i = .int .i64 r ∧ ∃ n, wr = w.drewN n) (fun i _ => k - (intOf i).toNat)
  case atStart => exact ⟨0, by omega, rfl, 0, rfl⟩
  case round =>
    obtain ⟨r, hr, rfl, d, rfl⟩ := hrel
    by_cases hlt : r < k
    · obtain ⟨b, off, x, cx, rfl, hc, hs⟩ := HC.out.1 r hlt
      obtain ⟨b', off', x', cx', rfl, hc', hs'⟩ := HC.out.2 r hlt
      have HS : Hid (∀ k, Calls Try.prog 64 #[.slice x n cx, .slice x' n cx'] (w.drewN (d + k)) fun e w' => e = .returned (.bool true) ∧ ∃ m, w' = w.drewN (d + m)) := fun k => by
        refine (same_any (w := w.drewN (d + k)) ((sl_sliceI hs hn).drewN _) ((sl_sliceI hs' hn).drewN _)).mono ?_
        rintro e w' ⟨rfl, m, rfl⟩
        exact ⟨by rw [decide_eq_true rfl], k + m, by rw [World.drewN_drewN, Nat.add_assoc]⟩
      have hib : (r : Int) < (k : Int) := by omega
      have hib0 : (0 : Int) ≤ (r : Int) := by omega
      clear hs hs'
      go_wp2
      go_big_quiet (first | (go_at_call 64; exact HS.out _))
      go_wp2
      go_roundw
      case rel => exact ⟨r + 1, by omega, by go_num, _, by first | rfl | rw [World.drewN_drewN]⟩
      case measure => simp [intOf]; omega
    · go_wp2
      go_ret
      exact ⟨rfl, _, rfl⟩

set_option maxHeartbeats 2000000 in
theorem lists_rl {va vb : Value} {k n : Nat} {R : Nat → Nat → Nat} {w : World} (ha : RL va k n R w) (hb : RL vb k n R w) (hk : k ≤ 1000000) (hn : n ≤ 1000000) :
    Calls Try.prog 21 #[va, .int .i64 0, vb, .int .i64 0] w fun r w' => r = .returned (.bool true) ∧ ∃ n, w' = w.drewN n := by
  have H : Hid (RL va k n R w ∧ RL vb k n R w) := ⟨ha, hb⟩
  clear ha hb
  go_enter Try.func21, Try.ntmps21
  go_wp2_with fail
  refine (sameAll_rl H.out.1 H.out.2 hk hn).mono ?_
  rintro e w' ⟨rfl, n, rfl⟩
  go_wp2
  go_ret
  exact ⟨rfl, _, rfl⟩

set_option maxHeartbeats 4000000 in
set_option maxRecDepth 100000 in
theorem relements_any {D : FD} (gen : Nat) (v : Value) {ao : Option Addr} {n ca : Nat} {z : Nat → Int} {w : World} (hn : n ≤ 1000000) (hA : SlZ ao n z w) :
    Calls Try.prog 11 #[.agg #[.int .i64 D.q, .int .i64 D.p, .int .i64 D.m, .int .i64 gen, v], .slice ao n ca] w fun e w' => e = .returned (.bool (D.allHas z n)) ∧ Below w.heap.size w w' := by
  have hbl : Below w.heap.size w (w.alloc (.cells #[.int .i64 D.q, .int .i64 D.p, .int .i64 D.m, .int .i64 gen, v] 28)) := (Below.refl _ _).alloc (Nat.le_refl _) _
  have HS : Hid (SlZ ao n z w ∧ Box w.heap.size D gen v (w.alloc (.cells #[.int .i64 D.q, .int .i64 D.p, .int .i64 D.m, .int .i64 gen, v] 28)) ∧ Below w.heap.size w (w.alloc (.cells #[.int .i64 D.q, .int .i64 D.p, .int .i64 D.m, .int .i64 gen, v] 28))) := ⟨hA, box_new D gen _ w, hbl⟩
  clear hA hbl
  go_enter Try.func11, Try.ntmps11
  go_wp2
  go_loopw [5] (fun i wr => ∃ r : Nat, r ≤ n ∧ i = .int .i64 r ∧ Hid (Box w.heap.size D gen v wr ∧ Below w.heap.size w wr ∧ D.allHas z r = true) ∧ w.heap.size < wr.heap.size) (fun i _ => n - (intOf i).toNat)
  case atStart => exact ⟨0, by omega, rfl, ⟨HS.out.2.1, HS.out.2.2, rfl⟩, by simp⟩
  case round =>
    obtain ⟨r, hr, rfl, HG, hsz⟩ := hrel
    rename World => wr
    by_cases hlt : r < n
    · obtain ⟨b, off, rfl, hcl⟩ := (slz_below HS.out.1 HG.out.2.1) r hlt
      obtain ⟨x, hx⟩ : ∃ x, x = z r := ⟨_, rfl⟩
      rw [← hx] at hcl
      have z1 : (0 : Int) ≤ (r : Int) := by omega
      have z2 : (r : Int) < (n : Int) := by omega
      have k0 := cell_regrown HG.out.1.c0
      have k1 := cell_regrown HG.out.1.c1
      have k2 := cell_regrown HG.out.1.c2
      have k3 := cell_regrown HG.out.1.c3
      have k4 := cell_regrown HG.out.1.c4
      have k5 := cell_regrown hcl
      have HC : Hid (∀ d os, Calls Try.prog 29 #[.agg #[.int .i64 D.q, .int .i64 D.p, .int .i64 D.m, .int .i64 gen, v], .int .i64 x] (grow (redrawn wr d) os) fun e w'' => e = .returned (.bool (D.has x)) ∧ ∃ p : Regrown, w'' = grow (redrawn wr p.d) p.os) := fun d os => Calls.regrown_of (rhas_any D gen v x (grow (redrawn wr d) os))
      by_cases hh : D.has x = true
      · rw [hh] at HC
        have HH : Hid (D.allHas z (r + 1) = true) := by
          show (D.allHas z r && D.has (z r)) = true
          rw [HG.out.2.2, ← hx, hh]; rfl
        clear hx hcl hh
        go_wp2
        refine wp_region_quiet_below (by kernel_rfl) (by kernel_rfl) ?_
        repeat (go_big_quiet_step (first | (go_at_call 29; exact HC.out _ _)))
        refine wpQuiet_nil ?_
        intro _ hw'
        obtain ⟨⟨dq, osq⟩, hw''⟩ := hw'
        subst hw''
        have hb := below_regrown wr dq osq
        have HR : Hid (Box w.heap.size D gen v (grow (redrawn wr dq) osq) ∧ Below w.heap.size w (grow (redrawn wr dq) osq)) := ⟨HG.out.1.below hb hsz, bel_up HG.out.2.1 hb⟩
        have hs := hb.size
        clear hb k0 k1 k2 k3 k4 k5 HC
        go_wp2
        go_roundw
        case rel => exact ⟨r + 1, by omega, by go_num, ⟨HR.out.1, HR.out.2, HH.out⟩, by omega⟩
        case measure => simp [intOf]; omega
      · have hh' : D.has x = false := by simpa using hh
        rw [hh'] at HC
        have HH : Hid (D.allHas z n = false) := by
          show _ = _
          cases h : D.allHas z n with
          | false => rfl
          | true => exact absurd (by rw [hx]; exact allHas_iff.1 h r hlt) hh
        clear hx hcl hh hh'
        go_wp2
        refine wp_region_quiet_below (by kernel_rfl) (by kernel_rfl) ?_
        repeat (go_big_quiet_step (first | (go_at_call 29; exact HC.out _ _)))
        refine wpQuiet_nil ?_
        intro _ hw'
        obtain ⟨⟨dq, osq⟩, hw''⟩ := hw'
        subst hw''
        have hb := below_regrown wr dq osq
        have HR : Hid (Below w.heap.size w (grow (redrawn wr dq) osq)) := bel_up HG.out.2.1 hb
        clear hb k0 k1 k2 k3 k4 k5 HC
        go_wp2
        go_ret
        exact ⟨by rw [HH.out]; rfl, HR.out⟩
    · have hre : n = r := by omega
      subst hre
      have HH : Hid (D.allHas z n = true) := HG.out.2.2
      go_wp2
      go_ret
      exact ⟨by rw [HH.out]; rfl, HG.out.2.1⟩
end Go.Proofs.Ytpccbiinfdppnad

/- MatrixSays: inverses. -/
namespace Go.Proofs.Ytpccbiinfdppnad
open Go.RowKit Go.Sort

theorem mchk_of {D : FD} {m : Nat} {N : Nat → Nat} {Z : Nat → Nat → Int} (hm : m ≤ 64) (h : ∀ i, i < m → D.mrow (N 0) (N i) (Z i) = 0) : D.mchk m N Z = 0 := by
  have key : ∀ k, k ≤ m → D.mchks N Z k = 0 := fun k => by
    induction k with
    | zero => intro _; rfl
    | succ k ih =>
      intro hk
      rw [FD.mchks, ih (by omega)]
      simp [h k (by omega)]
  unfold FD.mchk
  rw [if_neg (by omega)]
  exact key m (Nat.le_refl _)
theorem InvR.matZ {G2 m : Nat} {h : Nat → Nat} {R : Nat → Nat → Nat} {w : World} (H : InvR G2 m h R w) (hm : m ≤ 64) : MatZ (some ⟨G2, 0, none⟩) m (fun i => some ⟨h i, m, none⟩) (fun _ => m) (fun _ => m) (fun i c => ((R i (m + c) : Nat) : Int)) w :=
  ⟨fun i hi => ⟨G2, 0, rfl, by rw [Nat.zero_add]; exact (H i hi).1⟩, fun i hi => (H i hi).2, fun i _ => Nat.le_refl _, fun i _ => (by omega), (fun i _ e => by cases e), fun i _ => (by omega)⟩
theorem InvR.mchk {D : FD} {m : Nat} {R : Nat → Nat → Nat} (hm0 : 0 < m) (hm : m ≤ 64) (he : ∀ i, i < m → El D (R i)) : D.mchk m (fun _ => m) (fun i c => ((R i (m + c) : Nat) : Int)) = 0 := by
  refine mchk_of hm (fun i hi => ?_)
  unfold FD.mrow
  rw [if_neg (by omega), if_neg (by omega), if_pos]
  exact allHas_iff.2 (fun j _ => has_of_lt (he i hi (m + j)))

end Go.Proofs.Ytpccbiinfdppnad

/- MatrixSays: one matrix (matrixOne), where it may not be, and where it has no row. -/
namespace Go.Proofs.Ytpccbiinfdppnad
open Go.RowKit Go.Sort

end Go.Proofs.Ytpccbiinfdppnad

/- MatrixSays: one matrix that may be: what the calls on both sides tell, in one form. -/
namespace Go.Proofs.Ytpccbiinfdppnad
open Go.RowKit Go.Sort

/-- A matrix that may be, of at least one row; its reduced form; the rows for its free columns, and their reduced form. -/
structure MOk (D : FD) (ao : Option Addr) (m n : Nat) (A : Nat → Option Addr) (N C : Nat → Nat) (Z : Nat → Nat → Int) (w : World) (k : Nat) (R : Nat → Nat → Nat) (p : Nat → Nat) (k2 : Nat) (R2 : Nat → Nat → Nat) (p2 : Nat → Nat) : Prop where
  hD : D ∈ fieldsL
  mat : MatZ ao m A N C Z w
  chk : D.mchk m N Z = 0
  pos : 0 < m
  m64 : m ≤ 64
  n64 : n < 64
  wd : N 0 = n + 1
  el : ∀ i, i < m → El D (mzc N Z i) ∧ Bd (n + 1) (mzc N Z i)
  km : k ≤ m
  rre : RRE D (n + 1) k R p
  spn : ∀ v, Spn D (RowsOf k R) v ↔ Spn D (RowsOf m (mzc N Z)) v
  km2 : k2 ≤ nct k p (n + 1)
  rre2 : RRE D (n + 1) k2 R2 p2
  spn2 : ∀ v, Spn D (RowsOf k2 R2) v ↔ Spn D (RowsOf (nct k p (n + 1)) (nul D R p k (n + 1))) v
theorem mok_ex {D : FD} (hD : D ∈ fieldsL) {ao : Option Addr} {m : Nat} {A : Nat → Option Addr} {N C : Nat → Nat} {Z : Nat → Nat → Int} {w : World} (ha : MatZ ao m A N C Z w) (h0 : D.mchk m N Z = 0) (hm : 0 < m) : ∃ n k R p k2 R2 p2, MOk D ao m n A N C Z w k R p k2 R2 p2 := by
  obtain ⟨h1, n, h2, h3, h4, h5⟩ := mchk_rows (fld hD) h0 ha hm
  obtain ⟨k, R, p, a1, a2, a3⟩ := rre_ex hD (m := m) (n := n + 1) (R := mzc N Z) (fun i hi => (h4 i hi).2.1) (fun i hi => (h4 i hi).2.2)
  obtain ⟨k2, R2, p2, b1, b2, b3⟩ := rre_ex hD (m := nct k p (n + 1)) (n := n + 1) (R := nul D R p k (n + 1)) (fun i _ => nul_el (fld hD) a2.el _ _) (fun i hi => nul_bd a2.lt hi)
  exact ⟨n, k, R, p, k2, R2, p2, hD, ha, h0, hm, h1, h3, h2, fun i hi => (h4 i hi).2, a1, a2, a3, b1, b2, b3⟩
theorem MOk.below {D : FD} {ao : Option Addr} {m n : Nat} {A : Nat → Option Addr} {N C : Nat → Nat} {Z : Nat → Nat → Int} {w w' : World} {k : Nat} {R : Nat → Nat → Nat} {p : Nat → Nat} {k2 : Nat} {R2 : Nat → Nat → Nat} {p2 : Nat → Nat} (h : MOk D ao m n A N C Z w k R p k2 R2 p2) (hb : Below w.heap.size w w') : MOk D ao m n A N C Z w' k R p k2 R2 p2 :=
  ⟨h.hD, h.mat.below hb, h.chk, h.pos, h.m64, h.n64, h.wd, h.el, h.km, h.rre, h.spn, h.km2, h.rre2, h.spn2⟩
theorem MOk.matR {D : FD} {ao : Option Addr} {m n : Nat} {A : Nat → Option Addr} {N C : Nat → Nat} {Z : Nat → Nat → Int} {w : World} {k : Nat} {R : Nat → Nat → Nat} {p : Nat → Nat} {k2 : Nat} {R2 : Nat → Nat → Nat} {p2 : Nat → Nat} (h : MOk D ao m n A N C Z w k R p k2 R2 p2) : MatR ao m n (mzc N Z) w := by
  obtain ⟨_, n', h2, _, _, h5⟩ := mchk_rows (fld h.hD) h.chk h.mat h.pos
  have : n' = n := by have := h.wd; omega
  rw [← this]; exact h5
theorem RL.open {v : Value} {k n : Nat} {R : Nat → Nat → Nat} {w : World} (h : RL v k n R w) : ∃ ao ca, v = .slice ao k ca := by
  obtain ⟨ao, ca, e, _⟩ := h
  exact ⟨ao, ca, e⟩
theorem KI.open {v : Value} {k : Nat} {z : Nat → Int} {w : World} (h : KI v (zl k z) w) : ∃ ao ca, v = .slice ao k ca := by
  rcases h.1 with ⟨e, ao, ca, rfl⟩ | ⟨_, _, b, off, ca, rfl, _⟩
  · have := congrArg List.length e
    rw [zl_len] at this
    have : k = 0 := this
    subst this
    exact ⟨ao, ca, rfl⟩
  · rw [zl_len]; exact ⟨_, _, rfl⟩


theorem c_rred {D : FD} {ao : Option Addr} {m n ca : Nat} {A : Nat → Option Addr} {N C : Nat → Nat} {Z : Nat → Nat → Int} {w : World} {k : Nat} {R : Nat → Nat → Nat} {p : Nat → Nat} {k2 : Nat} {R2 : Nat → Nat → Nat} {p2 : Nat → Nat} (h : MOk D ao m n A N C Z w k R p k2 R2 p2) (gen gm cm : Nat) (hM : ModAt D (.slice (some ⟨gm, 0, none⟩) (D.m + 1) cm) D.md w) :
    Calls Try.prog 73 #[.agg #[.int .i64 D.q, .int .i64 D.p, .int .i64 D.m, .int .i64 gen, .slice (some ⟨gm, 0, none⟩) (D.m + 1) cm], .slice ao m ca] w fun e w' => ∃ ro rc po pc, e = .returned (.tuple #[.slice ro k rc, .slice po k pc]) ∧ RL (.slice ro k rc) k (n + 1) R w' ∧ KI (.slice po k pc) (zl k fun j => ((p j : Nat) : Int)) w' ∧ Below w.heap.size w w' := by
  have h1 := h.m64
  have h2 := h.n64
  refine (rreduce_any h.hD gen gm cm (by omega) (by omega) h.el h.matR hM).mono ?_
  rintro e w' ⟨vr, vp, k', R', p', rfl, hk', hvr, hvp, hR', hS', _, hb⟩
  obtain ⟨rfl, he⟩ := rre_uniq (fld h.hD) hR' h.rre (fun v => (hS' v).trans (h.spn v).symm)
  have hrl := hvr.rl.congr (fun i hi => (he i hi).2)
  obtain ⟨ro, rc, rfl⟩ := hrl.open
  have hki : KI vp (zl k' fun j => ((p j : Nat) : Int)) w' := by
    have h3 := hvp.ki (by rw [zl_len]; omega)
    rw [zl_congr (y := fun j => ((p j : Nat) : Int)) (fun j hj => by rw [(he j hj).1])] at h3
    exact h3
  obtain ⟨po, pc, rfl⟩ := hki.open
  exact ⟨ro, rc, po, pc, rfl, hrl, hki, hb⟩
theorem c_rnull {D : FD} {ao : Option Addr} {m n ca : Nat} {A : Nat → Option Addr} {N C : Nat → Nat} {Z : Nat → Nat → Int} {w : World} {k : Nat} {R : Nat → Nat → Nat} {p : Nat → Nat} {k2 : Nat} {R2 : Nat → Nat → Nat} {p2 : Nat → Nat} (h : MOk D ao m n A N C Z w k R p k2 R2 p2) (gen gm cm : Nat) (hM : ModAt D (.slice (some ⟨gm, 0, none⟩) (D.m + 1) cm) D.md w) :
    Calls Try.prog 54 #[.agg #[.int .i64 D.q, .int .i64 D.p, .int .i64 D.m, .int .i64 gen, .slice (some ⟨gm, 0, none⟩) (D.m + 1) cm], .slice ao m ca, .int .i64 (N 0 : Nat)] w fun e w' => ∃ lo lc, e = .returned (.slice lo (nct k p (n + 1)) lc) ∧ RL (.slice lo (nct k p (n + 1)) lc) (nct k p (n + 1)) (n + 1) R2 w' ∧ k2 = nct k p (n + 1) ∧ Below w.heap.size w w' := by
  have h1 := h.m64
  have h2 := h.n64
  refine (rnull_any h.hD gen gm cm h.wd (by omega) (by omega) h.el h.matR hM).mono ?_
  rintro e w' ⟨v, k', R', p', R2', p2', rfl, hk', hR', hS', hll, hR2, hS2, hb⟩
  rw [h.wd] at hR' hll hR2 hS2
  obtain ⟨rfl, he⟩ := rre_uniq (fld h.hD) hR' h.rre (fun v => (hS' v).trans (h.spn v).symm)
  have hc : nct k' p' (n + 1) = nct k' p (n + 1) := nct_congr (fun i hi => (he i hi).1) _
  have hn : nul D R' p' k' (n + 1) = nul D R p k' (n + 1) := nul_congr he _
  rw [hc] at hll hR2 hS2
  rw [hn] at hS2
  obtain ⟨hk2, he2⟩ := rre_uniq (fld h.hD) hR2 h.rre2 (fun v => (hS2 v).trans (h.spn2 v).symm)
  have hrl := hll.rl.congr (fun i hi => (he2 i hi).2)
  obtain ⟨lo, lc, rfl⟩ := hrl.open
  exact ⟨lo, lc, rfl, hrl, hk2.symm, hb⟩
theorem c_null {D : FD} {ao : Option Addr} {m n ca : Nat} {A : Nat → Option Addr} {N C : Nat → Nat} {Z : Nat → Nat → Int} {w : World} {k : Nat} {R : Nat → Nat → Nat} {p : Nat → Nat} {k2 : Nat} {R2 : Nat → Nat → Nat} {p2 : Nat → Nat} (h : MOk D ao m n A N C Z w k R p k2 R2 p2) :
    Calls Try.prog 57 #[.int .i64 D.q, .slice ao m ca] w fun e w' => ∃ lo lc, e = .returned (.tuple #[.slice lo (nct k p (n + 1)) lc, .int .i64 0]) ∧ (k2 = nct k p (n + 1) → RL (.slice lo (nct k p (n + 1)) lc) (nct k p (n + 1)) (n + 1) R2 w') ∧ Below w.heap.size w w' := by
  have h1 := h.m64
  refine (mnull_any h.hD h.mat (by omega)).mono ?_
  rintro e w' ⟨hb, hr⟩
  rcases hr with ⟨h0, _⟩ | ⟨_, v, k', R', p', k2', R2', p2', W, rfl, _, hW, hR', hS', hrl, hk2, hR2, hS2⟩
  · exact absurd h.chk h0
  · have hWe : W = n + 1 := by rw [hW h.pos, h.wd]
    subst hWe
    obtain ⟨rfl, he⟩ := rre_uniq (fld h.hD) hR' h.rre (fun v => (hS' v).trans (h.spn v).symm)
    have hc : nct k' p' (n + 1) = nct k' p (n + 1) := nct_congr (fun i hi => (he i hi).1) _
    have hn : nul D R' p' k' (n + 1) = nul D R p k' (n + 1) := nul_congr he _
    rw [hc] at hrl hk2 hS2
    rw [hn] at hS2
    obtain ⟨hk2e, he2⟩ := rre_uniq (fld h.hD) hR2 h.rre2 (fun v => (hS2 v).trans (h.spn2 v).symm)
    obtain ⟨lo, lc, rfl⟩ := hrl.open
    exact ⟨lo, lc, rfl, fun e => hrl.congr (fun i hi => (he2 i (by omega)).2), hb⟩
end Go.Proofs.Ytpccbiinfdppnad

/- The program's polynomials: a sum with an empty list, wherever that lies. -/
namespace Go.Proofs.Ytpccbiinfdppnad
open Go.RowKit Go.Sort

theorem chk_nil (D : FD) (z : Nat → Int) : D.chk 0 z = 0 := by
  unfold FD.chk
  rw [if_neg (by omega)]; rfl
set_option maxHeartbeats 2000000 in
set_option maxRecDepth 100000 in
theorem check_nil {D : FD} (hD : D ∈ fieldsL) (ao : Option Addr) (cap : Nat) (w : World) :
    Calls Try.prog 30 #[.int .i64 D.q, .slice ao 0 cap] w fun e w' => e = .returned (.int .i64 0) ∧ Below w.heap.size w w' := by
  have HS : Hid (D ∈ fieldsL) := hD
  clear hD
  go_enter Try.func30, Try.ntmps30
  go_wp2_with fail
  refine (new_any HS.out w).mono ?_
  rintro e w1 ⟨F, T, g, rfl, hat, hF, hT, hb1⟩
  have HA : Hid (Below w.heap.size w w1) := hb1
  clear hat hF hT hb1
  go_wp2
  refine wp_loop_rounds 1 ?_
  rw [rounds_succ]
  go_wp2
  go_ret
  exact ⟨rfl, HA.out⟩

set_option maxHeartbeats 4000000 in
set_option maxRecDepth 100000 in
theorem over_nil {D : FD} (hD : D ∈ fieldsL) {ao bo : Option Addr} {n ca cb : Nat} {z : Nat → Int} {w : World} (ha : Arg ao n ca z w) (h0 : D.chk n z = 0) :
    Calls Try.prog 87 #[.int .i64 D.q, .slice (some ⟨w.heap.size, 0, none⟩) 2 2] (w.alloc (.cells #[.slice ao n ca, .slice bo 0 cb] 22)) fun e w' => Below w.heap.size w w' ∧
      ∃ F T f, e = .returned (.tuple #[.pointer (some ⟨F, 0, none⟩), .int .i64 0]) ∧ FAt F T D f w' ∧ w.heap.size ≤ F ∧ w.heap.size ≤ T := by
  have hbl : Below w.heap.size w (w.alloc (.cells #[.slice ao n ca, .slice bo 0 cb] 22)) := (Below.refl _ _).alloc (Nat.le_refl _) _
  obtain ⟨wa, hwa⟩ : ∃ wa, wa = w.alloc (.cells #[.slice ao n ca, .slice bo 0 cb] 22) := ⟨_, rfl⟩
  have c0 : wa.cell? ⟨w.heap.size, 0, none⟩ = some (.slice ao n ca) := by rw [hwa, cell_of_row _ _ _ _ _ (0, 0) (two_new _)]; rfl
  have c1 : wa.cell? ⟨w.heap.size, 1, none⟩ = some (.slice bo 0 cb) := by rw [hwa, cell_of_row _ _ _ _ _ (0, 0) (two_new _)]; rfl
  have hsa : wa.heap.size = w.heap.size + 1 := by rw [hwa]; simp
  rw [← hwa] at hbl ⊢
  have HS : Hid (D ∈ fieldsL ∧ Arg ao n ca z wa ∧ D.chk n z = 0 ∧ Below w.heap.size w wa) := ⟨hD, ha.below hbl, h0, hbl⟩
  have HC : Hid (∀ wx, Below wa.heap.size wa wx → wx.cell? ⟨w.heap.size, 1, none⟩ = some (.slice bo 0 cb)) := fun wx hx => ((bcell hx).1 _ _ (by omega)).trans c1
  have HK : Hid (Calls Try.prog 30 #[.int .i64 D.q, .slice ao n ca] wa fun e w' => e = .returned (.int .i64 0) ∧ Below wa.heap.size wa w') := by
    show Calls _ _ _ _ _
    have h := check_any (cap := ca) HS.out.1 HS.out.2.1.sl HS.out.2.1.lt HS.out.2.1.few
    rw [HS.out.2.2.1] at h; exact h
  clear hD ha h0 hwa hbl c1
  obtain ⟨G, hG⟩ : ∃ G, G = w.heap.size := ⟨_, rfl⟩
  rw [← hG] at c0 HC ⊢
  have HG : Hid (G = w.heap.size) := hG
  clear hG
  go_enter Try.func87, Try.ntmps87
  go_wp2
  refine wp_loop_rounds 3 ?_
  rw [rounds_succ]
  go_wp2_with fail
  refine HK.out.mono ?_
  rintro e w1 ⟨rfl, hb1⟩
  have hc1 := HC.out w1 hb1
  have H1 : Hid (Below wa.heap.size wa w1) := hb1
  clear hb1 c0
  go_wp2_with fail
  rw [rounds_succ]
  go_wp2_with fail
  refine (check_nil HS.out.1 _ _ _).mono ?_
  rintro e w2 ⟨rfl, hb2⟩
  have H2 : Hid (Below wa.heap.size wa w2) := bel_up' H1.out hb2
  clear hb2 hc1
  go_wp2_with fail
  rw [rounds_succ]
  go_wp2_with fail
  refine (new_any HS.out.1 w2).mono ?_
  rintro x w3 ⟨F, T, f, rfl, hat, hF, hT, hb3⟩
  have HA : Hid (FAt F T D f w3 ∧ w.heap.size ≤ F ∧ w.heap.size ≤ T ∧ Below w.heap.size w w3) := by
    have hs := H2.out.size
    exact ⟨hat, by omega, by omega, bel_up' HS.out.2.2.2 (bel_up' H2.out hb3)⟩
  clear hat hF hT hb3
  go_wp2
  go_ret2
  rw [HG.out]
  exact ⟨HA.out.2.2.2, F, T, f, rfl, HA.out.1, HA.out.2.1, HA.out.2.2.1⟩

set_option maxHeartbeats 4000000 in
set_option maxRecDepth 100000 in
theorem psum_nil {F T : Nat} {D : FD} (hD : D ∈ fieldsL) {w : World} {ao bo : Option Addr} {n ca cb : Nat} {a : Nat → Nat} (hn : n ≤ 1000) (ha : El D a) (hbn : Bd n a) (hA : Sl ao n a w) (hla : LtB ao w.heap.size) :
    Calls Try.prog 90 #[.pointer (some ⟨F, T, none⟩), .slice ao n ca, .slice bo 0 cb] w fun e w' =>
      ∃ v, e = .returned v ∧ OwnP w.heap.size v (dgn a n) a w' ∧ Below w.heap.size w w' := by
  have HF : Hid (D ∈ fieldsL ∧ Sl ao n a w ∧ El D a ∧ Bd n a ∧ LtB ao w.heap.size) := ⟨hD, hA, ha, hbn, hla⟩
  have hmax : (if (n : Int) < ((0 : Nat) : Int) then ((0 : Nat) : Int) else (n : Int)) = (n : Int) := by split <;> omega
  have hn0 : ¬ (n : Int) < 0 := by omega
  clear hD hA ha hbn hla
  go_enter Try.func90, Try.ntmps90
  go_wp2_with (first
    | (at_make; refine make_int rfl _ _ rfl _ n rfl rfl (by omega) (by omega) ?_; intro w1 hown1 hgrow1)
    | (show wpList _ _ _ (Oper.mk (some 18) _ _ _ _ _ :: _) _ _; (refine copy_int rfl _ _ rfl w.heap.size n n n ca ao rfl rfl pnil a (row_zeros hown1) (HF.out.2.1.below (below_grown hgrow1 (Nat.le_refl _) (fun k hk => by simp at hk)) HF.out.2.2.2.2) (Nat.le_refl _) w.heap.size w (below_grown hgrow1 (Nat.le_refl _) (fun k hk => by simp at hk)) (Nat.le_refl _) ?_); intro w2 hrow2 hb2))
  all_goals
    have HB1 : Hid (Below w.heap.size w w2 ∧ Row w.heap.size n a w2) := ⟨hb2, hrow2.congr (fun k hk => by show (if k < n then a k else pnil k) = a k; rw [if_pos hk])⟩
    clear hown1 hgrow1 hb2 hrow2
    refine wp_loop_rounds 1 ?_
    rw [rounds_succ]
    go_wp2_with fail
    refine (trim_any (HB1.out.2.sl (Nat.le_refl _)) (Nat.le_refl _) (by omega)).mono ?_
    rintro e w' ⟨rfl, k, rfl⟩
    go_wp2
    go_ret
    exact ⟨_, rfl, OwnP.of_row (HB1.out.2.drewN k) (dgn_le _ _) (dgn_le _ _) (by omega) (Nat.le_refl _), below_drewN2 HB1.out.1 _⟩

set_option maxHeartbeats 2000000 in
set_option maxRecDepth 100000 in
/-- A sum with an empty list, wherever that lies. -/
theorem padd_nil0 {D : FD} (hD : D ∈ fieldsL) {ao bo : Option Addr} {n ca cb : Nat} {z : Nat → Int} {w : World} (ha : Arg ao n ca z w) (h0 : D.chk n z = 0) :
    Calls Try.prog 60 #[.int .i64 D.q, .slice ao n ca, .slice bo 0 cb] w fun e w' => Below w.heap.size w w' ∧
      ∃ v, e = .returned (.tuple #[v, .int .i64 0]) ∧ OwnP w.heap.size v (dgn (zc n z) n) (zc n z) w' := by
  have HA : Hid (Arg ao n ca z w ∧ D.chk n z = 0 ∧ D ∈ fieldsL) := ⟨ha, h0, hD⟩
  clear ha h0 hD
  go_enter Try.func60, Try.ntmps60
  go_wp2_with fail
  refine (over_nil HA.out.2.2 HA.out.1 HA.out.2.1).mono ?_
  rintro e w1 ⟨hb1, F, T, f, rfl, hat, hF, hT⟩
  have HW : Hid (Below w.heap.size w w1) := hb1
  clear hat hF hT hb1
  go_wp2_with fail
  have a1 := HA.out.1.below HW.out
  refine (psum_nil HA.out.2.2 (by have := (chk_zero HA.out.2.1).1; omega) (zc_el (fld HA.out.2.2) HA.out.2.1) (zc_bd _ _) (zc_sl HA.out.2.1 a1.sl) a1.lt).mono ?_
  rintro e w2 ⟨v, rfl, hown, hb2⟩
  have hs := HW.out.size
  have HR : Hid (OwnP w.heap.size v (dgn (zc n z) n) (zc n z) w2 ∧ Below w.heap.size w w2) := ⟨hown.mono hs, bel_up HW.out hb2⟩
  clear hown hb2 a1
  go_wp2
  go_ret2
  exact ⟨HR.out.2, v, rfl, HR.out.1⟩

set_option maxHeartbeats 2000000 in
set_option maxRecDepth 100000 in
theorem polyMay_nil {D : FD} (hD : D ∈ fieldsL) (ao : Option Addr) (cap : Nat) (w : World) :
    Calls Try.prog 8 #[.int .i64 D.q, .slice ao 0 cap] w fun e w' => e = .returned (.int .i64 0) ∧ Below w.heap.size w w' := by
  have HS : Hid (D ∈ fieldsL) := hD
  clear hD
  go_enter Try.func8, Try.ntmps8
  go_wp2_with fail
  refine (rfield_sl HS.out w).mono ?_
  rintro e w1 ⟨gm, cm, rfl, _, hb1⟩
  have HA : Hid (Below w.heap.size w (w1.alloc (.cells #[.int .i64 D.q, .int .i64 D.p, .int .i64 D.m, .int .i64 D.gen, .slice (some ⟨gm, 0, none⟩) (D.m + 1) cm] 28))) := hb1.alloc hb1.size _
  clear hb1
  unfold rf
  go_wp2
  refine wp_loop_rounds 1 ?_
  rw [rounds_succ]
  go_wp2
  go_ret
  exact ⟨rfl, HA.out⟩

set_option maxHeartbeats 4000000 in
set_option maxRecDepth 100000 in
theorem rpadd_nil {D : FD} (hD : D ∈ fieldsL) (gen gm cm : Nat) {ao bo : Option Addr} {n ca cb : Nat} {a : Nat → Nat} {w : World} (hn : n ≤ 1000) (ha : El D a) (hA : Sl ao n a w) (hla : LtB ao w.heap.size) :
    Calls Try.prog 63 #[.agg #[.int .i64 D.q, .int .i64 D.p, .int .i64 D.m, .int .i64 gen, .slice (some ⟨gm, 0, none⟩) (D.m + 1) cm], .slice ao n ca, .slice bo 0 cb] w fun e w' => ∃ v, e = .returned v ∧ OwnP w.heap.size v (dgn a n) a w' ∧ Below w.heap.size w w' := by
  have HF : Hid (D ∈ fieldsL ∧ Sl ao n a w ∧ El D a ∧ LtB ao w.heap.size) := ⟨hD, hA, ha, hla⟩
  clear hD hA ha hla
  have HB0 : Hid (Box w.heap.size D gen (.slice (some ⟨gm, 0, none⟩) (D.m + 1) cm) (w.alloc (.cells #[.int .i64 D.q, .int .i64 D.p, .int .i64 D.m, .int .i64 gen, .slice (some ⟨gm, 0, none⟩) (D.m + 1) cm] 28))) := box_new D gen _ w
  go_enter Try.func63, Try.ntmps63
  go_wp2
  go_loopw [7, 8] (fun vl i wr => ∃ r : Nat, r ≤ n ∧ i = .int .i64 r ∧ OwnI (w.heap.size + 1) vl (NL r a) wr ∧ Box w.heap.size D gen (.slice (some ⟨gm, 0, none⟩) (D.m + 1) cm) wr ∧ Below w.heap.size w wr ∧ w.heap.size < wr.heap.size) (fun _ i _ => n - (intOf i).toNat)
  case atStart => exact ⟨0, by omega, rfl, OwnI.nil _ _, HB0.out, (Below.refl _ _).alloc (Nat.le_refl _) _, by simp⟩
  case round =>
    obtain ⟨r, hr, rfl, hown, hbox, hbel, hlt1⟩ := hrel
    rename World => wr
    obtain ⟨c0, c1, c2, c3, c4⟩ := hbox
    have HG : Hid (OwnI (w.heap.size + 1) u7 (NL r a) wr ∧ Box w.heap.size D gen (.slice (some ⟨gm, 0, none⟩) (D.m + 1) cm) wr ∧ Below w.heap.size w wr) := ⟨hown, ⟨c0, c1, c2, c3, c4⟩, hbel⟩
    clear hown hbel
    have HC : Hid (∀ w3 : World, Calls Try.prog 36 #[.agg #[.int .i64 D.q, .int .i64 D.p, .int .i64 D.m, .int .i64 gen, .slice (some ⟨gm, 0, none⟩) (D.m + 1) cm], .int .i64 (a r : Nat), .int .i64 0] w3 fun e w' => e = .returned (.int .i64 (a r : Nat)) ∧ Below w3.heap.size w3 w') :=
      fun w3 => by
        have h := radd_nat HF.out.1 gen (.slice (some ⟨gm, 0, none⟩) (D.m + 1) cm) (a r) 0 (HF.out.2.2.1 r) (zero_lt' (fld HF.out.1)) w3
        rw [show sumD D.p D.q (a r) 0 = a r from ad_zero (fld HF.out.1) (HF.out.2.2.1 r)] at h
        exact h
    by_cases h1 : r < n
    · have hib : (r : Int) < (n : Int) := by omega
      have hib0 : (0 : Int) ≤ (r : Int) := by omega
      obtain ⟨ba, offa, rfl, hca⟩ := (HF.out.2.1.below HG.out.2.2 HF.out.2.2.2) r h1
      go_wp2_with (first
        | (go_at_call 36; refine (HC.out _).mono ?_; rintro e w2 ⟨rfl, hb2⟩; have hs2 := hb2.size; have HG2 : Hid (OwnI (w.heap.size + 1) u7 (NL r a) w2 ∧ Box w.heap.size D gen (.slice (some ⟨gm, 0, none⟩) (D.m + 1) cm) w2 ∧ Below w.heap.size w w2) := ⟨HG.out.1.below hb2 (fun k hk => (HG.out.1.lt k hk).2), HG.out.2.1.below hb2 hlt1, bel_up' HG.out.2.2 hb2⟩)
        | (at_builtin; refine append_int rfl _ _ rfl (w.heap.size + 1) _ (NL r a) rfl (HG2.out.1.alloc _) ⟨_, 0, none⟩ 1 (a r : Nat) rfl (by simp) (by rw [NL_len]; omega) (by simp; omega) ?_; intro v3 w3 hown3 hgrow3))
      have HE : Hid (OwnI (w.heap.size + 1) v3 (NL (r + 1) a) w3 ∧ Box w.heap.size D gen (.slice (some ⟨gm, 0, none⟩) (D.m + 1) cm) w3 ∧ Below w.heap.size w w3 ∧ w.heap.size < w3.heap.size) := by
        have hb3 : Below (w.heap.size + 1) w2 w3 := ((Below.refl _ _).alloc (by omega) _).grown hgrow3 (by simp; omega) (fun k hk => (HG2.out.1.lt k hk).1)
        refine ⟨by rw [NL_succ]; exact hown3, HG2.out.2.1.below (B := w.heap.size + 1) hb3 (by omega), HG2.out.2.2.trans (hb3.mono (by omega)), by have := hb3.size; omega⟩
      clear hown3 hgrow3
      go_roundw
      case rel => exact ⟨r + 1, by omega, by go_num, HE.out⟩
      case measure => simp [intOf]; omega
    · have hre : n = r := by omega
      subst hre
      have hib : ¬ (n : Int) < (n : Int) := by omega
      have hib2 : ¬ (n : Int) < 0 := by omega
      have HO : Hid (OwnP (w.heap.size + 1) u7 n a wr) := HG.out.1.ownP
      obtain ⟨lo, lc, hlv, h3, h4, _, h6, h7, h8⟩ := HO.out.open
      subst hlv
      have HT : Hid (Calls Try.prog 61 #[.slice lo n lc] wr fun e w' => ∃ v, e = .returned v ∧ OwnP wr.heap.size v (dgn a n) a w' ∧ Below wr.heap.size wr w') := rtrim_any h8 h3 h4 h7 h6 (by omega)
      clear h3 h4 h6 h7 h8
      go_wp2_with fail
      refine HT.out.mono ?_
      rintro e w2 ⟨v, rfl, hown, hb2⟩
      have HR : Hid (OwnP w.heap.size v (dgn a n) a w2 ∧ Below w.heap.size w w2) := ⟨hown.mono (by omega), bel_up' HG.out.2.2 hb2⟩
      clear hown hb2
      go_wp2
      go_ret
      exact ⟨v, rfl, HR.out.1, HR.out.2⟩
end Go.Proofs.Ytpccbiinfdppnad
