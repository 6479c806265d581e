/- Polar: Best where it answers. -/
import Derived.Test.YtbfkacnpbelmlaaZKS11
import Derived.Test.YtbfkacnpbelmlaaZI14
import Derived.Shelf.Slices.In.SortNone
namespace Go.Proofs.Ytbfkacnpbelmlaa
open Go.Shelf Go.RowKit Go.Lib Go.Sort

theorem sortS0 (p : Option Addr) (cap : Nat) (w : World) : Calls Try.prog 31 #[.slice p 0 cap] w fun e w' => e = .returned (.tuple #[]) ∧ w' = w := Any.slices_Sort_int_none lay189 p cap w
theorem isort_all {base : Nat} {v : Value} {l : List Int} {w : World} (ho : OwnI base v l w) (hl : l.length ≤ 64) :
    Calls Try.prog 31 #[v] w fun e w' => e = .returned (.tuple #[]) ∧ OwnI base v (l.mergeSort fun x y => decide (x ≤ y)) w' ∧ ∀ B u, Below B u w → B ≤ base → Below B u w' := by
  by_cases h : l = []
  · subst h
    obtain ⟨ao, ca, rfl, _⟩ := ho.argOf (n := 0) rfl
    refine (sortS0 ao ca w).mono ?_
    rintro e w' ⟨rfl, rfl⟩
    exact ⟨rfl, by rw [List.mergeSort_nil]; exact ho, fun _ _ h _ => h⟩
  · have hl1 : 1 ≤ l.length := by
      cases l with
      | nil => exact absurd rfl h
      | cons x r => simp
    obtain ⟨g0, c0, e0, hbg, _⟩ := ho.at h
    subst e0
    refine (isort_any ho rfl hl hl1).mono ?_
    rintro e w' ⟨rfl, h1, h2⟩
    exact ⟨rfl, h1, fun B u hb hB => h2 B u hb (by omega)⟩
theorem bel_down {A B : Nat} {u v : World} (h : Below B u v) (hA : A ≤ B) : Below A u v := ⟨h.os, h.tape, h.output, h.size, fun k hk => h.block k (by omega)⟩
theorem srt_len (m : Nat) : ∀ k, (srt m k).length = k
  | 0 => rfl
  | k + 1 => by
    show (srt m k ++ [_]).length = _
    rw [List.length_append, srt_len m k]; rfl
theorem srt_zl {m k N : Nat} (hk : k ≤ N) : zl k (fun i => (intL (srt m N)).getD i 0) = intL (srt m k) := by
  have hp := srt_pre m (N - k) k
  rw [Nat.add_sub_cancel' hk] at hp
  obtain ⟨r, hr⟩ := hp
  have e := list_zl (intL (srt m k))
  have el : (intL (srt m k)).length = k := by unfold intL; rw [List.length_map, srt_len]
  rw [el] at e
  rw [e]
  refine zl_congr (fun j hj => ?_)
  rw [← hr]
  unfold intL
  rw [List.map_append, List.getD_eq_getElem?_getD, List.getElem?_append_left (by rw [List.length_map, srt_len]; exact hj), List.getD_eq_getElem?_getD]

set_option maxHeartbeats 2000000 in
set_option maxRecDepth 100000 in
theorem best_ok {m k : Nat} (hm : m ≤ 5) (hk : k ≤ 2 ^ m) (w : World) :
    Calls Try.prog 9 #[.int .i64 (m : Nat), .int .i64 (k : Nat)] w fun e w' => ∃ v, e = .returned (.tuple #[v, .int .i64 0]) ∧ OwnI w.heap.size v (flt (srt m k) (2 ^ m)) w' ∧ Below w.heap.size w w' := by
  obtain ⟨N, hN⟩ : ∃ N, N = 2 ^ m := ⟨_, rfl⟩
  have hN1 : 1 ≤ N := by rw [hN]; exact Nat.pow_pos (by omega)
  have hN2 : N ≤ 32 := by rw [hN]; exact Nat.le_trans (Nat.pow_le_pow_right (by omega) hm) (by decide)
  have HC : Hid (Calls Try.prog 7 #[.int .i64 (m : Nat)] w fun e w' => ∃ b o ca, e = .returned (.tuple #[.slice (some ⟨b, o, none⟩) N ca, .int .i64 0]) ∧ (∀ i, i < N → w'.cell? ⟨b, o + i, none⟩ = some (.int .i64 ((lss m).getD i 0 : Nat))) ∧ Below w.heap.size w w') := by
    refine (chances_ok hm w).mono ?_
    rintro e w' ⟨v, rfl, h1, h2⟩
    obtain ⟨ao, ca, rfl, hA⟩ := h1.argOf (n := N) (by rw [lsI_len hm, hN])
    obtain ⟨b, o, rfl, _⟩ := hA.sl 0 hN1
    refine ⟨b, o, ca, rfl, fun i hi => ?_, h2⟩
    obtain ⟨b2, o2, e2, q⟩ := hA.sl i hi
    cases e2
    rw [q]
    exact congrArg (fun z => some (Value.int .i64 z)) (lsI_nat m i)
  rw [← hN] at hk ⊢
  have HM : Hid (m ≤ 5 ∧ N = 2 ^ m) := ⟨hm, hN⟩
  clear hN hm
  have hk0 : ¬ (k : Int) < 0 := by omega
  have hkN : ¬ (N : Int) < (k : Int) := by omega
  go_enter Try.func9, Try.ntmps9
  go_wp2_with fail
  refine HC.out.mono ?_
  rintro e w1 ⟨b, o, ca, rfl, hch, hb⟩
  have H1 : Hid ((∀ i, i < N → w1.cell? ⟨b, o + i, none⟩ = some (.int .i64 ((lss m).getD i 0 : Nat))) ∧ Below w.heap.size w w1) := ⟨hch, hb⟩
  have hs1 := hb.size
  clear hch hb HC
  go_wp2_with (at_make; refine make_int rfl _ _ rfl _ N rfl rfl rfl (by omega) ?_; intro w3 hown3 hgrow3)
  obtain ⟨W2, hW2⟩ : ∃ W2, W2 = w1.alloc (.cells #[.slice (some ⟨b, o, none⟩) N ca] 22) := ⟨_, rfl⟩
  rw [← hW2] at hown3 hgrow3
  have hsW : W2.heap.size = w1.heap.size + 1 := by rw [hW2]; simp
  have hrz0 := rowE_zeros hown3
  rw [hsW] at hrz0
  have hB3 : Below W2.heap.size W2 w3 := below_grown hgrow3 (Nat.le_refl _) (fun k hk => by cases hk)
  have hB2 : Below w1.heap.size w1 W2 := by rw [hW2]; exact (Below.refl _ _).alloc (Nat.le_refl _) _
  have hc2 : W2.cell? ⟨w1.heap.size, 0, none⟩ = some (.slice (some ⟨b, o, none⟩) N ca) := by rw [hW2]; simp
  obtain ⟨cb, hcb⟩ : ∃ cb, cb = w1.heap.size := ⟨_, rfl⟩
  obtain ⟨g, hg⟩ : ∃ g, g = cb + 1 := ⟨_, rfl⟩
  have HI0 : Hid (RowE g N (fun _ => 0) w3 ∧ (w3.cell? ⟨cb, 0, none⟩ = some (.slice (some ⟨b, o, none⟩) N ca) ∧ ∀ i, i < N → w3.cell? ⟨b, o + i, none⟩ = some (.int .i64 ((lss m).getD i 0 : Nat))) ∧ (b < cb ∧ g = cb + 1 ∧ w.heap.size ≤ cb) ∧ Below w.heap.size w w3) := by
    have hbl : b < w1.heap.size := cell_lt (H1.out.1 0 hN1)
    refine ⟨by rw [hg, hcb]; exact hrz0, ⟨?_, fun i hi => ?_⟩, ⟨by omega, hg, by omega⟩, ?_⟩
    · rw [hcb]; exact (hB3.cell (p := ⟨w1.heap.size, 0, none⟩) (by show w1.heap.size < _; omega)).trans hc2
    · exact (hB3.cell (p := ⟨b, o + i, none⟩) (by show b < _; omega)).trans ((hB2.cell (p := ⟨b, o + i, none⟩) hbl).trans (H1.out.1 i hi))
    · exact bel_up' (bel_up' H1.out.2 hB2) hB3
  try rw [← hcb]
  try rw [← hg]
  clear hW2 hown3 hgrow3 hsW hrz0 hB3 hB2 hc2 hcb hg H1 hs1
  go_loopw [32] (fun vi wr => ∃ (t : Nat) (oo : Nat → Int), t ≤ N ∧ vi = .int .i64 (t : Nat) ∧ Hid (RowE g N oo wr ∧ (∀ j, j < t → oo j = ((j : Nat) : Int)) ∧ Below g w3 wr)) (fun vi _ => N - (intOf vi).toNat)
  case atStart => exact ⟨0, _, by omega, rfl, HI0.out.1, fun j hj => absurd hj (by omega), Below.refl _ _⟩
  case round =>
    obtain ⟨t, oo, ht, rfl, HG⟩ := hrel
    rename World => wr
    by_cases hlt : t < N
    · have hib : (t : Int) < (N : Int) := by omega
      have hib0 : (0 : Int) ≤ (t : Int) := by omega
      have hc0 := RowF.cell HG.out.1 t hlt
      have hf0 := RowF.free HG.out.1 t
      obtain ⟨o0, ho0⟩ : ∃ o0, o0 = oo t := ⟨_, rfl⟩
      rw [← ho0] at hc0
      clear ho0
      have HS2 : Hid (RowE g N (fun j => if j = t then (t : Int) else oo j) (wr.setCell ⟨g, t, none⟩ (.int .i64 (t : Nat))) ∧ (∀ j, j < t + 1 → (fun j => if j = t then (t : Int) else oo j) j = ((j : Nat) : Int)) ∧ Below g w3 (wr.setCell ⟨g, t, none⟩ (.int .i64 (t : Nat)))) := by
        refine ⟨RowE.store HG.out.1 t _, fun i hi => ?_, HG.out.2.2.setCell (Nat.le_refl _) _⟩
        show (if i = t then (t : Int) else oo i) = _
        by_cases e : i = t
        · rw [if_pos e, e]
        · rw [if_neg e]; exact HG.out.2.1 i (by omega)
      go_wp2
      go_roundw
      case rel => exact ⟨t + 1, _, by omega, by go_num, HS2.out⟩
      case measure => simp [intOf]; omega
    · have hib : ¬ (t : Int) < (N : Int) := by omega
      have HS : Hid (Calls Try.prog 26 #[.slice (some ⟨g, 0, none⟩) N N, .func (.func 27) #[] #[.pointer (some ⟨cb, 0, none⟩)]] wr fun e w' => e = .returned (.tuple #[]) ∧ OwnI w.heap.size (.slice (some ⟨g, 0, none⟩) N N) (intL (srt m N)) w' ∧ ∀ B u, Below B u wr → B ≤ g → Below B u w') := by
        have h := HG.out.1.own (base := w.heap.size) (by have := HI0.out.2.2.1; omega) (by omega)
        rw [zl_congr (y := fun i => ((i : Nat) : Int)) (fun j hj => HG.out.2.1 j (by omega))] at h
        obtain ⟨q1, q2, q3⟩ := HI0.out.2.2.1
        exact bsort_any HM.out.1 HM.out.2 h ((HG.out.2.2.cell (p := ⟨cb, 0, none⟩) (by show cb < g; omega)).trans HI0.out.2.1.1) (fun i hi => (HG.out.2.2.cell (p := ⟨b, o + i, none⟩) (by show b < g; omega)).trans (HI0.out.2.1.2 i hi)) (by omega) (by omega)
      have HBr : Hid (Below w.heap.size w wr ∧ w.heap.size ≤ g) := by
        obtain ⟨q1, q2, q3⟩ := HI0.out.2.2.1
        exact ⟨HI0.out.2.2.2.trans (bel_down HG.out.2.2 (by omega)), by omega⟩
      clear HG HI0
      go_wp2_with fail
      refine HS.out.mono ?_
      rintro e w4 ⟨rfl, hown4, hbel4⟩
      have H4 : Hid (SlZ (some ⟨g, 0, none⟩) k (fun i => (intL (srt m N)).getD i 0) w4 ∧ g < w4.heap.size ∧ Below w.heap.size w w4) := by
        have el : (intL (srt m N)).length = N := by unfold intL; rw [List.length_map, srt_len]
        obtain ⟨g4, c4, e4, _, hlt4, hat4, _⟩ := hown4.at (by intro e; rw [e] at el; simp at el; omega)
        rw [el] at e4
        cases e4
        refine ⟨fun i hi => ⟨g, 0, rfl, ?_⟩, hlt4, hbel4 _ _ HBr.out.1 HBr.out.2⟩
        rw [Nat.zero_add]; exact hat4 i (by omega)
      have HCl : Hid (Calls Try.prog 30 #[.slice (some ⟨g, 0, none⟩) k N] w4 fun e w' => ∃ v, e = .returned v ∧ OwnI w4.heap.size v (intL (srt m k)) w' ∧ Below w4.heap.size w4 w') := by
        have h := cloneI_any (cap := N) H4.out.1 (by omega) H4.out.2.1
        rw [srt_zl hk] at h
        exact h
      clear hown4 hbel4 HS HBr
      have hkN2 : (k : Int) ≤ (N : Int) := by omega
      have hk02 : (0 : Int) ≤ (k : Int) := by omega
      go_wp2_with fail
      refine HCl.out.mono ?_
      rintro e w5 ⟨v5, rfl, hown5, hb5⟩
      have HF : Hid (Calls Try.prog 31 #[v5] w5 fun e w' => e = .returned (.tuple #[]) ∧ OwnI w.heap.size v5 (flt (srt m k) N) w' ∧ Below w.heap.size w w') := by
        refine (isort_all hown5 (by unfold intL; rw [List.length_map, srt_len]; omega)).mono ?_
        rintro e w' ⟨rfl, h1, h2⟩
        rw [flt_sort HM.out.1 (by have := HM.out.2; omega), ← HM.out.2] at h1
        exact ⟨rfl, h1.mono H4.out.2.2.size, h2 _ _ (bel_up' H4.out.2.2 hb5) H4.out.2.2.size⟩
      clear hown5 hb5 HCl H4
      go_wp2_with fail
      refine HF.out.mono ?_
      rintro e w6 ⟨rfl, h1, h2⟩
      have H6 : Hid (OwnI w.heap.size v5 (flt (srt m k) N) w6 ∧ Below w.heap.size w w6) := ⟨h1, h2⟩
      clear h1 h2 HF
      go_wp2
      go_ret2
      exact ⟨v5, rfl, H6.out⟩
end Go.Proofs.Ytbfkacnpbelmlaa
