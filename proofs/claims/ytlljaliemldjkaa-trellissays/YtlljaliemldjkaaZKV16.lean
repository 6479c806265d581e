/- Trellises: shares (printed by make/kv16.py). -/
import Derived.Test.YtlljaliemldjkaaZKV15
import Derived.Laws.Rows
import Derived.Laws.Tables
namespace Go.Proofs.Ytlljaliemldjkaa
open Go.RowKit Go.Sort

/-- The cells of a share: all, and of each bit those in which it is 1. -/
def shA (s : Nat → Nat) : Array Value := ((List.range 21).map fun i => Value.int .i64 ((s i : Nat) : Int)).toArray
def shV (s : Nat → Nat) : Value := .agg (shA s)
theorem shA_size (s : Nat → Nat) : (shA s).size = 21 := by unfold shA; simp
theorem shA_at (s : Nat → Nat) {i : Nat} (hi : i < 21) : (shA s)[i]? = some (.int .i64 ((s i : Nat) : Int)) := by
  unfold shA
  rw [List.getElem?_toArray, List.getElem?_map, List.getElem?_range hi]
  rfl
theorem shA_congr {s t : Nat → Nat} (h : ∀ i, i < 21 → s i = t i) : shA s = shA t := by
  unfold shA
  rw [List.map_congr_left fun i hi => by rw [h i (List.mem_range.1 hi)]]
theorem shA_put (s : Nat → Nat) (i v : Nat) : (shA s).setIfInBounds i (.int .i64 ((v : Nat) : Int)) = shA (fun j => if j = i then v else s j) := by
  apply Array.ext_getElem?
  intro j
  by_cases hj : j < 21
  · rw [shA_at _ hj, Array.getElem?_setIfInBounds, shA_at s hj]
    by_cases e : i = j
    · rw [if_pos e, if_pos (by rw [shA_size]; omega), if_pos e.symm]
    · rw [if_neg e, if_neg (fun c => e c.symm)]
  · rw [Array.getElem?_eq_none (by rw [Array.size_setIfInBounds, shA_size]; omega), Array.getElem?_eq_none (by rw [shA_size]; omega)]
theorem shA_zero : (#[.int .i64 0, .int .i64 0, .int .i64 0, .int .i64 0, .int .i64 0, .int .i64 0, .int .i64 0, .int .i64 0, .int .i64 0, .int .i64 0, .int .i64 0, .int .i64 0, .int .i64 0, .int .i64 0, .int .i64 0, .int .i64 0, .int .i64 0, .int .i64 0, .int .i64 0, .int .i64 0, .int .i64 0] : Array Value) = shA (fun _ => 0) := by kernel_rfl
theorem shA_all (s : Nat → Nat) : (shA s).all (·.oneCell') = true := by
  unfold shA
  rw [List.all_toArray, List.all_map]
  exact List.all_eq_true.2 fun i _ => rfl
/-- A variable that holds a share. -/
def Sh (b : Nat) (s : Nat → Nat) (w : World) : Prop := w.heap[b]? = some (.cells (shA s) 68 (0, 0))
theorem Sh.cell {b : Nat} {s : Nat → Nat} {w : World} (h : Sh b s w) {i : Nat} (hi : i < 21) : w.cell? ⟨b, i, none⟩ = some (.int .i64 ((s i : Nat) : Int)) := by rw [cell_of_row _ _ _ _ _ (0, 0) h]; exact shA_at s hi
theorem Sh.free {b : Nat} {s : Nat → Nat} {w : World} (h : Sh b s w) (i : Nat) : w.frozen? ⟨b, i, none⟩ = false := frozen_of_row _ _ _ _ _ h
theorem Sh.new (s : Nat → Nat) (w : World) : Sh w.heap.size s (w.alloc (.cells (shA s) 68)) := World.alloc_heap_new w _
theorem Sh.alloc {b : Nat} {s : Nat → Nat} {w : World} (h : Sh b s w) (o : Obj) : Sh b s (w.alloc o) := (Below.heap_alloc _ _ _ (lt_of_block h)).trans h
theorem Sh.below {b : Nat} {s : Nat → Nat} {w w' : World} (h : Sh b s w) (hb : Below w.heap.size w w') : Sh b s w' := (hb.block b (lt_of_block h)).trans h
theorem Sh.oth {b b' : Nat} {s : Nat → Nat} {w : World} (h : Sh b s w) (hne : b ≠ b') (i : Nat) (v : Value) : Sh b s (w.setCell ⟨b', i, none⟩ v) := (Below.heap_setCell _ _ _ _ hne).trans h
theorem Sh.put {b : Nat} {s : Nat → Nat} {w : World} (h : Sh b s w) (i v : Nat) : Sh b (fun j => if j = i then v else s j) (w.setCell ⟨b, i, none⟩ (.int .i64 ((v : Nat) : Int))) := by
  unfold Sh
  rw [heap_setCell_same w b i _ _ _ h, shA_put]
theorem Sh.congr {b : Nat} {s t : Nat → Nat} {w : World} (h : Sh b s w) (e : ∀ i, i < 21 → s i = t i) : Sh b t w := by unfold Sh; rw [← shA_congr e]; exact h
theorem Sh.row {b : Nat} {s : Nat → Nat} {w : World} (h : Sh b s w) (t : Nat → Nat) : Sh b t (w.setRow b (shA t)) := setRow_heap _ _ _ _ _ _ h
theorem Sh.rowO {b b' : Nat} {s : Nat → Nat} {w : World} (h : Sh b s w) (hne : b ≠ b') (cs : Array Value) : Sh b s (w.setRow b' cs) := (setRow_other _ _ _ _ hne).trans h
theorem und_sh : ∃ l, Try.prog.underlying 68 = some (.struct l) := by
  have h : (match Try.prog.underlying 68 with | some (.struct _) => true | _ => false) = true := by kernel_rfl
  cases hq : Try.prog.underlying 68 with
  | none => rw [hq] at h; cases h
  | some d =>
    rw [hq] at h
    cases d <;> first | exact ⟨_, rfl⟩ | cases h
theorem inf_sh (s : Nat → Nat) : (Try.prog.info? 68).map (·.size) = some (shA s).size := by rw [shA_size]; kernel_rfl
theorem sh_store (w : World) (g : Nat) (s t : Nat → Nat) (h : Sh g s w) : (storeCells ⟨g, 0, none⟩ (shA t).toList).run Try.prog w = .ok () (w.setRow g (shA t)) := by
  have := run_storeCells_from (P := Try.prog) g 68 (shA t).toList 0 (shA s) w h (by simp [shA_size]) (fun v hv => (Array.all_eq_true_iff_forall_mem.1 (shA_all t)) v (by simpa using hv))
  simpa using this
theorem setRow_bel {B g : Nat} {w w' : World} (h : Below B w w') (hg : B ≤ g) (cs : Array Value) : Below B w (w'.setRow g cs) :=
  ⟨h.os, h.tape, h.output, by simpa [World.setRow] using h.size, fun k hk => (setRow_other w' g k cs (by omega)).trans (h.block k hk)⟩

set_option maxHeartbeats 4000000 in
set_option maxRecDepth 100000 in
theorem shpow_any {a k : Nat} (ha : a ≤ 4) (hk : k ≤ 3) (w : World) : Calls Try.prog 42 #[.int .i64 (a : Nat), .int .i64 (k : Nat)] w fun e w' => e = .returned (.int .i64 (a ^ k : Nat)) ∧ w' = w := by
  obtain ⟨r, hr⟩ : ∃ r, r = a ^ k := ⟨_, rfl⟩
  have HR : Hid (r = a ^ k) := hr
  rw [← hr]
  clear hr
  go_enter Try.func42, Try.ntmps42
  go_wp2
  go_loopw [5, 7] (fun vo vi wr => ∃ o i : Nat, vo = .int .i64 (o : Nat) ∧ vi = .int .i64 (i : Nat) ∧ i ≤ k ∧ o ≤ 64 ∧ Hid (o = a ^ i ∧ wr = w)) (fun _ vi _ => k - (intOf vi).toNat)
  case atStart => exact ⟨1, 0, rfl, rfl, by omega, by omega, (Nat.pow_zero a).symm, rfl⟩
  case round =>
    obtain ⟨o, i, rfl, rfl, hi, ho, HI⟩ := hrel
    have hw := HI.out.2.symm
    subst hw
    by_cases hlt : i < k
    · have hib : (i : Int) < (k : Int) := by omega
      obtain ⟨o2, ho2⟩ : ∃ o2, o2 = o * a := ⟨_, rfl⟩
      have HO : Hid (o2 = a ^ (i + 1)) := by show o2 = _; rw [Nat.pow_succ, ← HI.out.1, ho2]
      have ho64 : o2 ≤ 64 := by
        rw [HO.out]
        exact Nat.le_trans (Nat.pow_le_pow_left ha (i + 1)) (Nat.le_trans (Nat.pow_le_pow_right (n := 4) (by omega) (show i + 1 ≤ 3 by omega)) (by decide))
      have hz : (o : Int) * (a : Int) = (o2 : Int) := by rw [ho2]; exact (Int.natCast_mul o a).symm
      have hw2 : IntKind.i64.wrap (o2 : Int) = (o2 : Int) := wrap_to (by omega) (by omega)
      clear ho2
      go_wp2
      go_roundw
      case rel => exact ⟨o2, i + 1, by first | rfl | go_num, by go_num, by omega, ho64, HO.out, by first | rfl | trivial⟩
      case measure => simp [intOf]; omega
    · have hib : ¬ (i : Int) < (k : Int) := by omega
      have hie : i = k := by omega
      have HE : Hid (o = r) := by show o = r; rw [HI.out.1, HR.out, hie]
      clear hie
      go_wp2
      go_ret
      exact ⟨by rw [HE.out]; rfl, rfl⟩

set_option maxHeartbeats 8000000 in
set_option maxRecDepth 100000 in
theorem shtimes_any {s : Nat → Nat} {m : Nat} (hb : ∀ i, i < 21 → s i * m < 4611686018427387904) (w : World) : Calls Try.prog 41 #[shV s, .int .i64 (m : Nat)] w fun e w' => e = .returned (shV fun i => s i * m) ∧ Below w.heap.size w w' := by
  obtain ⟨d, hu⟩ := und_sh
  have HB0 : Hid (∀ i, i < 21 → s i * m < 4611686018427387904) := hb
  obtain ⟨w2, hw2⟩ : ∃ w2, w2 = (w.alloc (.cells (shA s) 68)).alloc (.cells (shA fun _ => 0) 68) := ⟨_, rfl⟩
  obtain ⟨B, hB⟩ : ∃ B, B = w.heap.size := ⟨_, rfl⟩
  have H2 : Hid (Sh B s w2 ∧ Sh (B + 1) (fun _ => 0) w2 ∧ Below B w w2) := by
    rw [hw2, hB]
    have h1 := Sh.new s w
    have h2 := Sh.new (fun _ => 0) (w.alloc (.cells (shA s) 68))
    rw [World.size_alloc] at h2
    exact ⟨h1.alloc _, h2, ((Below.refl _ _).alloc (Nat.le_refl _) _).alloc (by simp) _⟩
  show Calls Try.prog 41 #[.agg (shA s), .int .i64 (m : Nat)] w _
  obtain ⟨v0, hv0⟩ : ∃ v0, v0 = s 0 := ⟨_, rfl⟩
  obtain ⟨p0, hp0⟩ : ∃ p0, p0 = v0 * m := ⟨_, rfl⟩
  have hz0 : (v0 : Int) * (m : Int) = (p0 : Int) := by rw [hp0]; exact (Int.natCast_mul v0 m).symm
  have hpb : p0 < 4611686018427387904 := by rw [hp0, hv0]; exact hb 0 (by omega)
  have hpw : IntKind.i64.wrap (p0 : Int) = (p0 : Int) := by rw [IntWalk.i64_left]; exact IntWalk.wrap64_in _ ⟨by omega, by omega⟩
  have c0 : w2.cell? ⟨B, 0, none⟩ = some (.int .i64 (v0 : Nat)) := by rw [hv0]; exact H2.out.1.cell (by omega)
  have f0 := H2.out.1.free 0
  have hz := shA_zero
  rw [hw2, hB] at c0 f0
  have HV0 : Hid (v0 = s 0 ∧ p0 = v0 * m) := ⟨hv0, hp0⟩
  clear hb hv0 hp0
  go_enter Try.func41, Try.ntmps41
  go_wp2
  rw [shA_put]
  obtain ⟨w3, hw3⟩ : ∃ w3, w3 = (w.alloc (.cells (shA fun j => if j = 0 then p0 else s j) 68)).alloc (.cells (shA fun _ => 0) 68) := ⟨_, rfl⟩
  have H3 : Hid (Sh B (fun j => if j < 0 + 1 then s j * m else s j) w3 ∧ Sh (B + 1) (fun _ => 0) w3 ∧ Below B w w3) := by
    rw [hw3, hB]
    have h1 := Sh.new (fun j => if j = 0 then p0 else s j) w
    have h2 := Sh.new (fun _ => 0) (w.alloc (.cells (shA fun j => if j = 0 then p0 else s j) 68))
    rw [World.size_alloc] at h2
    refine ⟨(h1.alloc _).congr (fun j hj => ?_), h2, ((Below.refl _ _).alloc (Nat.le_refl _) _).alloc (by simp) _⟩
    by_cases e : j = 0
    · rw [if_pos e, if_pos (by omega), e, HV0.out.2, HV0.out.1]
    · rw [if_neg e, if_neg (by omega)]
  rw [← hw3, ← hB]
  have HB : Hid (B = w.heap.size) := hB
  clear HV0 hw3 hw2 c0 f0 H2 hz0 hpb hpw hB
  go_loopw [11] (fun vi wr => ∃ i : Nat, vi = .int .i64 (i : Nat) ∧ i ≤ 20 ∧ Hid (Sh B (fun j => if j < i + 1 then s j * m else s j) wr ∧ Sh (B + 1) (fun _ => 0) wr ∧ Below B w wr)) (fun vi _ => 20 - (intOf vi).toNat)
  case atStart => exact ⟨0, rfl, by omega, H3.out⟩
  case round =>
    obtain ⟨i, rfl, hi, HI⟩ := hrel
    rename World => wr
    by_cases hlt : i < 20
    · have hib : (i : Int) < 20 := by omega
      have hib0 : (0 : Int) ≤ (i : Int) := by omega
      obtain ⟨v, hv⟩ : ∃ v, v = s (1 + i) := ⟨_, rfl⟩
      obtain ⟨p, hp⟩ : ∃ p, p = v * m := ⟨_, rfl⟩
      have hzv : (v : Int) * (m : Int) = (p : Int) := by rw [hp]; exact (Int.natCast_mul v m).symm
      have hpb : p < 4611686018427387904 := by rw [hp, hv]; exact HB0.out (1 + i) (by omega)
      have hpw : IntKind.i64.wrap (p : Int) = (p : Int) := by rw [IntWalk.i64_left]; exact IntWalk.wrap64_in _ ⟨by omega, by omega⟩
      have hc : wr.cell? ⟨B, 1 + i, none⟩ = some (.int .i64 (v : Nat)) := by
        have h := HI.out.1.cell (i := 1 + i) (by omega)
        rw [if_neg (by omega)] at h
        rw [hv]; exact h
      have hf := HI.out.1.free (1 + i)
      obtain ⟨ws, hws⟩ : ∃ ws, ws = wr.setCell ⟨B, 1 + i, none⟩ (.int .i64 (p : Nat)) := ⟨_, rfl⟩
      have HS : Hid (Sh B (fun j => if j < i + 1 + 1 then s j * m else s j) ws ∧ Sh (B + 1) (fun _ => 0) ws ∧ Below B w ws) := by
        rw [hws]
        refine ⟨(HI.out.1.put (1 + i) p).congr (fun j hj => ?_), HI.out.2.1.oth (by omega) _ _, HI.out.2.2.setCell (Nat.le_refl _) _⟩
        by_cases e : j = 1 + i
        · rw [if_pos e, if_pos (by omega), e, hp, hv]
        · rw [if_neg e]
          by_cases e2 : j < i + 1
          · rw [if_pos e2, if_pos (by omega)]
          · rw [if_neg e2, if_neg (by omega)]
      clear hv hp
      go_wp2
      try rw [← hws]
      go_roundw
      case rel => exact ⟨i + 1, by go_num, by omega, HS.out⟩
      case measure => simp [intOf]; omega
    · have hib : ¬ (i : Int) < 20 := by omega
      have hie : i = 20 := by omega
      have h1 : Sh B (fun j => s j * m) wr := HI.out.1.congr (fun j hj => by rw [if_pos (by omega)])
      have hst := sh_store wr (B + 1) (fun _ => 0) (fun j => s j * m) HI.out.2.1
      have HE : Hid (Sh (B + 1) (fun j => s j * m) (wr.setRow (B + 1) (shA fun j => s j * m)) ∧ Below B w (wr.setRow (B + 1) (shA fun j => s j * m))) := ⟨HI.out.2.1.row _, setRow_bel HI.out.2.2 (by omega) _⟩
      have hsz := inf_sh (fun j => s j * m)
      go_wp2_with (refine wpList_load_row rfl 68 _ rfl B rfl 68 (shA fun j => s j * m) (0, 0) (.struct d) h1 hu rfl hsz ?_)
      refine bodyPost_ret (results_cell_row rfl _ _ (B + 1) 68 (shA fun j => s j * m) (0, 0) (.struct d) rfl HE.out.1 hu rfl hsz) rfl ?_
      exact ⟨rfl, by rw [← HB.out]; exact HE.out.2⟩
end Go.Proofs.Ytlljaliemldjkaa
