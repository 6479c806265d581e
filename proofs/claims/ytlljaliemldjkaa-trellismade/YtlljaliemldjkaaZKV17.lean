/- Trellises: shares, added. -/
import Derived.Test.YtlljaliemldjkaaZKV16
import Derived.Deep.MidRow
namespace Go.Proofs.Ytlljaliemldjkaa
open Go.RowKit Go.Sort

/-- The cells behind the first. -/
def shL (s : Nat → Nat) : List Value := (List.range 20).map fun i => Value.int .i64 ((s (1 + i) : Nat) : Int)
theorem shL_len (s : Nat → Nat) : (shL s).length = 20 := by unfold shL; simp
theorem shL_at (s : Nat → Nat) {i : Nat} (hi : i < 20) : (shL s)[i]? = some (.int .i64 ((s (1 + i) : Nat) : Int)) := by
  unfold shL
  rw [List.getElem?_map, List.getElem?_range hi]
  rfl
theorem Sh.mid {b : Nat} {s : Nat → Nat} {w : World} (h : Sh b s w) : w.rangeAt b 1 (shL s) := fun j v hv => by
  have hj : j < 20 := by have := (List.getElem?_eq_some_iff.1 hv).1; rw [shL_len] at this; exact this
  rw [shL_at s hj] at hv
  rw [h.cell (by omega), ← hv]
theorem und_sh20 : Try.prog.underlying 66 = some (.array 20 3) := by kernel_rfl
theorem inf_sh20 (s : Nat → Nat) : (Try.prog.info? 66).map (·.size) = some (shL s).length := by rw [shL_len]; kernel_rfl

theorem idx20 {l : List Value} {i : Nat} {v : Value} (hi : i < 20) (h : l[i]? = some v) (w : World) : (Instr.index 66 (.agg l.toArray) (.int .i64 (i : Nat))).run Try.prog w = .ok v w := by
  have hs : (sizeOf 3).run Try.prog w = .ok 1 w := by kernel_rfl
  simp [Instr.index, asIntOf, Sem.run_bind, run_underlying und_sh20 w, hs, part, h]
  intro c
  omega

set_option maxHeartbeats 8000000 in
set_option maxRecDepth 100000 in
theorem shplus_any {s t : Nat → Nat} (hb : ∀ i, i < 21 → s i + t i < 4611686018427387904) (w : World) : Calls Try.prog 44 #[shV s, shV t] w fun e w' => e = .returned (shV fun i => s i + t i) ∧ Below w.heap.size w w' := by
  obtain ⟨d, hu⟩ := und_sh
  have HB0 : Hid (∀ i, i < 21 → s i + t i < 4611686018427387904) := hb
  obtain ⟨B, hB⟩ : ∃ B, B = w.heap.size := ⟨_, rfl⟩
  obtain ⟨w2, hw2⟩ : ∃ w2, w2 = ((w.alloc (.cells (shA s) 68)).alloc (.cells (shA t) 68)).alloc (.cells (shA fun _ => 0) 68) := ⟨_, rfl⟩
  have hnew : ∀ u : Nat → Nat, Hid (Sh B u (((w.alloc (.cells (shA u) 68)).alloc (.cells (shA t) 68)).alloc (.cells (shA fun _ => 0) 68)) ∧ Sh (B + 1) t (((w.alloc (.cells (shA u) 68)).alloc (.cells (shA t) 68)).alloc (.cells (shA fun _ => 0) 68)) ∧ Sh (B + 1 + 1) (fun _ => 0) (((w.alloc (.cells (shA u) 68)).alloc (.cells (shA t) 68)).alloc (.cells (shA fun _ => 0) 68)) ∧ Below B w (((w.alloc (.cells (shA u) 68)).alloc (.cells (shA t) 68)).alloc (.cells (shA fun _ => 0) 68))) := fun u => by
    rw [hB]
    have h1 := Sh.new u w
    have h2 := Sh.new t (w.alloc (.cells (shA u) 68))
    have h3 := Sh.new (fun _ => 0) ((w.alloc (.cells (shA u) 68)).alloc (.cells (shA t) 68))
    rw [World.size_alloc, World.size_alloc] at h3
    rw [World.size_alloc] at h2
    exact ⟨(h1.alloc _).alloc _, h2.alloc _, h3, (((Below.refl _ _).alloc (Nat.le_refl _) _).alloc (by simp) _).alloc (by simp; omega) _⟩
  have HN : Hid (∀ u : Nat → Nat, _) := hnew
  obtain ⟨v0, hv0⟩ : ∃ v0, v0 = s 0 := ⟨_, rfl⟩
  obtain ⟨t0, ht0⟩ : ∃ t0, t0 = t 0 := ⟨_, rfl⟩
  obtain ⟨p0, hp0⟩ : ∃ p0, p0 = v0 + t0 := ⟨_, rfl⟩
  have hz0 : (v0 : Int) + (t0 : Int) = (p0 : Int) := by omega
  have hpb : p0 < 4611686018427387904 := by rw [hp0, hv0, ht0]; exact hb 0 (by omega)
  have hpw : IntKind.i64.wrap (p0 : Int) = (p0 : Int) := by rw [IntWalk.i64_left]; exact IntWalk.wrap64_in _ ⟨by omega, by omega⟩
  have c0 : w2.cell? ⟨B, 0, none⟩ = some (.int .i64 (v0 : Nat)) := by rw [hv0, hw2]; exact (hnew s).out.1.cell (by omega)
  have c1 : w2.cell? ⟨B + 1, 0, none⟩ = some (.int .i64 (t0 : Nat)) := by rw [ht0, hw2]; exact (hnew s).out.2.1.cell (by omega)
  have f0 : w2.frozen? ⟨B, 0, none⟩ = false := by rw [hw2]; exact (hnew s).out.1.free 0
  have hz := shA_zero
  rw [hw2, hB] at c0 c1 f0
  have HV0 : Hid (v0 = s 0 ∧ t0 = t 0 ∧ p0 = v0 + t0) := ⟨hv0, ht0, hp0⟩
  have hmid := ((hnew (fun j => if j = 0 then p0 else s j)).out.2.1).mid
  rw [hB] at hmid
  rw [← shA_put] at hmid
  have hsz2 := inf_sh20 t
  clear hb hv0 ht0 hp0 hnew
  show Calls Try.prog 44 #[.agg (shA s), .agg (shA t)] w _
  go_enter Try.func44, Try.ntmps44
  go_wp2_with (refine wpList_load_mid rfl 66 _ rfl (w.heap.size + 1) 1 rfl (shL t) (.array 20 3) hmid und_sh20 rfl hsz2 ?_)
  rw [shA_put]
  obtain ⟨w3, hw3⟩ : ∃ w3, w3 = ((w.alloc (.cells (shA fun j => if j = 0 then p0 else s j) 68)).alloc (.cells (shA t) 68)).alloc (.cells (shA fun _ => 0) 68) := ⟨_, rfl⟩
  have H3 : Hid (Sh B (fun j => if j < 0 + 1 then s j + t j else s j) w3 ∧ Sh (B + 1 + 1) (fun _ => 0) w3 ∧ Below B w w3) := by
    rw [hw3]
    have h := (HN.out (fun j => if j = 0 then p0 else s j)).out
    refine ⟨h.1.congr (fun j hj => ?_), h.2.2.1, h.2.2.2⟩
    by_cases e : j = 0
    · rw [if_pos e, if_pos (by omega), e, HV0.out.2.2, HV0.out.1, HV0.out.2.1]
    · rw [if_neg e, if_neg (by omega)]
  rw [← hw3, ← hB]
  have HB : Hid (B = w.heap.size) := hB
  clear HV0 hw3 hw2 c0 c1 f0 HN hz0 hpb hpw hB hmid hsz2
  go_loopw [15] (fun vi wr => ∃ i : Nat, vi = .int .i64 (i : Nat) ∧ i ≤ 20 ∧ Hid (Sh B (fun j => if j < i + 1 then s j + t j else s j) wr ∧ Sh (B + 1 + 1) (fun _ => 0) wr ∧ Below B w wr)) (fun vi _ => 20 - (intOf vi).toNat)
  case atStart => exact ⟨0, rfl, by omega, H3.out⟩
  case round =>
    obtain ⟨i, rfl, hi, HI⟩ := hrel
    rename World => wr
    by_cases hlt : i < 20
    · have hib : (i : Int) < 20 := by omega
      have hib0 : (0 : Int) ≤ (i : Int) := by omega
      obtain ⟨v, hv⟩ : ∃ v, v = s (1 + i) := ⟨_, rfl⟩
      obtain ⟨u, hu'⟩ : ∃ u, u = t (1 + i) := ⟨_, rfl⟩
      obtain ⟨p, hp⟩ : ∃ p, p = v + u := ⟨_, rfl⟩
      have hzv : (v : Int) + (u : Int) = (p : Int) := by omega
      have hpb : p < 4611686018427387904 := by rw [hp, hv, hu']; exact HB0.out (1 + i) (by omega)
      have hpw : IntKind.i64.wrap (p : Int) = (p : Int) := by rw [IntWalk.i64_left]; exact IntWalk.wrap64_in _ ⟨by omega, by omega⟩
      have hc : wr.cell? ⟨B, 1 + i, none⟩ = some (.int .i64 (v : Nat)) := by
        have h := HI.out.1.cell (i := 1 + i) (by omega)
        rw [if_neg (by omega)] at h
        rw [hv]; exact h
      have hcu : (shL t)[i]? = some (.int .i64 (u : Nat)) := by rw [hu']; exact shL_at t hlt
      have hix := idx20 hlt hcu wr
      have hf := HI.out.1.free (1 + i)
      obtain ⟨ws, hws⟩ : ∃ ws, ws = wr.setCell ⟨B, 1 + i, none⟩ (.int .i64 (p : Nat)) := ⟨_, rfl⟩
      have HS : Hid (Sh B (fun j => if j < i + 1 + 1 then s j + t j else s j) ws ∧ Sh (B + 1 + 1) (fun _ => 0) ws ∧ Below B w ws) := by
        rw [hws]
        refine ⟨(HI.out.1.put (1 + i) p).congr (fun j hj => ?_), HI.out.2.1.oth (by omega) _ _, HI.out.2.2.setCell (Nat.le_refl _) _⟩
        by_cases e : j = 1 + i
        · rw [if_pos e, if_pos (by omega), e, hp, hv, hu']
        · rw [if_neg e]
          by_cases e2 : j < i + 1
          · rw [if_pos e2, if_pos (by omega)]
          · rw [if_neg e2, if_neg (by omega)]
      clear hv hp hu'
      go_wp2
      try rw [← hws]
      go_roundw
      case rel => exact ⟨i + 1, by go_num, by omega, HS.out⟩
      case measure => simp [intOf]; omega
    · have hib : ¬ (i : Int) < 20 := by omega
      have hie : i = 20 := by omega
      have h1 : Sh B (fun j => s j + t j) wr := HI.out.1.congr (fun j hj => by rw [if_pos (by omega)])
      have hst := sh_store wr (B + 1 + 1) (fun _ => 0) (fun j => s j + t j) HI.out.2.1
      have HE : Hid (Sh (B + 1 + 1) (fun j => s j + t j) (wr.setRow (B + 1 + 1) (shA fun j => s j + t j)) ∧ Below B w (wr.setRow (B + 1 + 1) (shA fun j => s j + t j))) := ⟨HI.out.2.1.row _, setRow_bel HI.out.2.2 (by omega) _⟩
      have hsz := inf_sh (fun j => s j + t j)
      go_wp2_with (refine wpList_load_row rfl 68 _ rfl B rfl 68 (shA fun j => s j + t j) (0, 0) (.struct d) h1 hu rfl hsz ?_)
      refine bodyPost_ret (results_cell_row rfl _ _ (B + 1 + 1) 68 (shA fun j => s j + t j) (0, 0) (.struct d) rfl HE.out.1 hu rfl hsz) rfl ?_
      exact ⟨rfl, by rw [← HB.out]; exact HE.out.2⟩
end Go.Proofs.Ytlljaliemldjkaa
