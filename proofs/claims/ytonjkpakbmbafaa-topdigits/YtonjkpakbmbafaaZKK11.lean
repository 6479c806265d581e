/- Signs that check: signBy, kind 4. -/
import Derived.Test.YtonjkpakbmbafaaZKK8
namespace Go.Proofs.Ytonjkpakbmbafaa
open Go.RowKit Go.Maps

set_option maxHeartbeats 8000000 in
set_option maxRecDepth 100000 in
theorem signBy_4 {cs : Array Value} (hT : TabD cs) (s : ByteArray) (w : World) (hs : s.size ≤ 1000000) :
    Calls Try.prog 57 #[.agg cs, .int .i64 4, .string s] w fun e w' => e = .returned (.tuple #[.string (sgR 4 s), .int .i64 (sgE 4 s)]) ∧ Below w.heap.size w w' := by
  obtain ⟨dd, hu⟩ := und_tab
  obtain ⟨w1, hw1⟩ : ∃ w1, w1 = w.alloc (.cells cs 95) := ⟨_, rfl⟩
  have hb1 : Below w.heap.size w w1 := by rw [hw1]; exact (Below.refl _ _).alloc (Nat.le_refl _) _
  have hz1 : w1.heap.size = w.heap.size + 1 := by rw [hw1]; show (w.heap.push _).size = _; simp
  have hg1 : w1.heap[w.heap.size]? = some (.cells cs 95 (0, 0)) := by rw [hw1]; exact heap_new w _
  have HF : Hid (TabD cs ∧ Below w.heap.size w w1 ∧ w1.heap.size = w.heap.size + 1 ∧ w1.heap[w.heap.size]? = some (.cells cs 95 (0, 0))) := ⟨hT, hb1, hz1, hg1⟩
  clear hT hb1 hz1 hg1
  obtain ⟨R, hR⟩ : ∃ R, R = sgR 4 s := ⟨_, rfl⟩
  obtain ⟨E, hE⟩ : ∃ E, E = sgE 4 s := ⟨_, rfl⟩
  rw [← hR, ← hE]
  go_enter Try.func57, Try.ntmps57
  go_wp2_with fail
  rw [← hw1]
  clear hw1
  refine (rules_any w1).mono ?_
  rintro e w2 ⟨rfl, hown, hb2⟩
  have hlk := look_rul hown (k := 4) (by omega) (by omega)
  replace hlk : (Instr.lookup 101 (.map (some w1.heap.size)) (.int .i64 4) true).run Try.prog w2 = .ok (.tuple #[.agg #[.int .i64 1, .int .i64 64, .func (Fn.func 86) #[] #[]], .bool true]) w2 := hlk
  have HB : Hid (Below w.heap.size w w2 ∧ w2.heap[w.heap.size]? = some (.cells cs 95 (0, 0))) := ⟨HF.out.2.1.trans ⟨hb2.os, hb2.tape, hb2.output, hb2.size, fun k hk => hb2.block k (by have := HF.out.2.2.1; omega)⟩, by rw [hb2.block _ (by have := HF.out.2.2.1; omega)]; exact HF.out.2.2.2⟩
  clear hown hb2
  have hrange : sgl 4 = 1 ∧ sgh 4 = 64 := ⟨rfl, rfl⟩
  by_cases c1 : s.size < 1
  · have i1 : (s.size : Int) < 1 := by omega
    have HV : Hid (E = 6 ∧ R = ⟨#[]⟩) := by
      have h6 : sgE 4 s = 6 := by unfold sgE; rw [if_pos (by rw [hrange.1, hrange.2]; omega)]
      exact ⟨by rw [hE, h6], by rw [hR]; unfold sgR; rw [if_neg (by rw [h6]; decide)]⟩
    clear hE hR hrange c1
    go_wp2
    go_ret2
    exact ⟨by rw [HV.out.1, HV.out.2]; rfl, HB.out.1.alloc HB.out.1.size _⟩
  have i1 : ¬ (s.size : Int) < 1 := by omega
  by_cases c2 : 64 < s.size
  · have i2 : (64 : Int) < (s.size : Int) := by omega
    have HV : Hid (E = 6 ∧ R = ⟨#[]⟩) := by
      have h6 : sgE 4 s = 6 := by unfold sgE; rw [if_pos (by rw [hrange.1, hrange.2]; omega)]
      exact ⟨by rw [hE, h6], by rw [hR]; unfold sgR; rw [if_neg (by rw [h6]; decide)]⟩
    clear hE hR hrange c1 c2
    go_wp2
    go_ret2
    exact ⟨by rw [HV.out.1, HV.out.2]; rfl, HB.out.1.alloc HB.out.1.size _⟩
  have i2 : ¬ (64 : Int) < (s.size : Int) := by omega
  have hE2 : sgE 4 s = if dgs s s.size = true then 0 else 11 := by unfold sgE; rw [if_neg (by rw [hrange.1, hrange.2]; omega)]
  have HE : Hid (E = (if dgs s s.size = true then 0 else 11) ∧ R = if (if dgs s s.size = true then (0 : Int) else 11) = 0 then sgS (sgn 4 s.size (tdg s)) else ⟨#[]⟩) := ⟨by rw [hE, hE2], by rw [hR]; unfold sgR; rw [hE2]⟩
  have HS : Hid (s.size ≤ 64) := by show s.size ≤ 64; omega
  clear hE hR hrange hE2
  go_wp2_with fail
  obtain ⟨w3, hw3⟩ : ∃ w3, w3 = w2.alloc (.cells #[.int .i64 1, .int .i64 64, .func (Fn.func 86) #[] #[]] 99) := ⟨_, rfl⟩
  rw [← hw3]
  have hz3 : w3.heap.size = w2.heap.size + 1 := by rw [hw3]; show (w2.heap.push _).size = _; simp
  have h3c : w3.heap[w2.heap.size]? = some (.cells #[.int .i64 1, .int .i64 64, .func (Fn.func 86) #[] #[]] 99 (0, 0)) := by rw [hw3]; exact heap_new w2 _
  have h3t : w3.heap[w.heap.size]? = some (.cells cs 95 (0, 0)) := by rw [hw3, Below.heap_alloc w2 _ _ (lt_of_block HB.out.2)]; exact HB.out.2
  have hb3 : Below w.heap.size w w3 := by rw [hw3]; exact HB.out.1.alloc HB.out.1.size _
  have HW : Hid (w3.heap.size = w2.heap.size + 1 ∧ w3.heap[w2.heap.size]? = some (.cells #[.int .i64 1, .int .i64 64, .func (Fn.func 86) #[] #[]] 99 (0, 0)) ∧ w3.heap[w.heap.size]? = some (.cells cs 95 (0, 0)) ∧ Below w.heap.size w w3) := ⟨hz3, h3c, h3t, hb3⟩
  clear hw3 hz3 h3c h3t hb3 hlk
  refine (read_any s w3 (by have := HS.out; omega)).mono ?_
  rintro e w4 ⟨hrd, hb4⟩
  have hb5 : Below w.heap.size w w4 := HW.out.2.2.2.trans ⟨hb4.os, hb4.tape, hb4.output, hb4.size, fun k hk => hb4.block k (by have := HW.out.2.2.2.size; omega)⟩
  rcases hrd with ⟨hdg, g, rfl, hrz, hgw⟩ | ⟨hdg, rfl⟩
  · have hg4 : w4.heap[w.heap.size]? = some (.cells cs 95 (0, 0)) := by rw [hb4.block _ (lt_of_block HW.out.2.2.1)]; exact HW.out.2.2.1
    have hc4 : w4.cell? ⟨w2.heap.size, 2, none⟩ = some (.func (Fn.func 86) #[] #[]) := by
      rw [cell_of_row _ _ _ _ _ (0, 0) (by rw [hb4.block _ (lt_of_block HW.out.2.1)]; exact HW.out.2.1)]; rfl
    obtain ⟨v, hv⟩ : ∃ v, v = sgV s.size (tdg s) := ⟨_, rfl⟩
    have hv10 : v ≤ sgx 4 := by rw [hv]; exact sgn_le (k := 4) (tdg_lt hdg)
    replace hv10 : v ≤ 9 := hv10
    have HV : Hid (E = 0 ∧ R = sgS v) := by
      have h := HE.out
      rw [if_pos hdg, if_pos rfl] at h
      exact ⟨h.1, by rw [h.2, hv]; rfl⟩
    have HC : Hid (Calls Try.prog 86 #[.slice (some ⟨g, 0, none⟩) s.size s.size, .agg cs] w4 fun e w' => e = .returned (.int .i64 (v : Nat)) ∧ Below w4.heap.size w4 w') := by
      rw [hv]; exact verhoeff_any HF.out.1 hrz.slK (tdg_lt hdg) HS.out
    have hi := inf_tab HF.out.1.size
    obtain ⟨v1, hv1⟩ : ∃ v1, v1 = v + 1 := ⟨_, rfl⟩
    have wv : IntKind.i64.wrap ((v : Int) + 1) = (v1 : Int) := wrpT (by omega) (by omega)
    have HB5 : Hid (Below w.heap.size w w4) := hb5
    have HV1 : Hid (v1 = v + 1) := hv1
    have hv1a : (v : Int) ≤ (v1 : Int) := by omega
    have hv1b : (v1 : Int) ≤ 11 := by omega
    clear hv hv1 hdg hrz hgw hb4 hb5
    go_wp2_with fail
    refine wp_load_row 95 _ rfl w.heap.size rfl 95 cs (0, 0) (.struct dd) hg4 hu rfl hi ?_
    go_wp2_with fail
    refine HC.out.mono ?_
    rintro e w6 ⟨rfl, hb6⟩
    have HB6 : Hid (Below w.heap.size w w6) := HB5.out.trans ⟨hb6.os, hb6.tape, hb6.output, hb6.size, fun k hk => hb6.block k (by have := HB5.out.size; omega)⟩
    clear hb6
    go_wp2
    go_ret2
    exact ⟨by rw [HV.out.1, HV.out.2]; unfold sgS; rw [← HV1.out]; rfl, HB6.out⟩
  · have HV : Hid (E = 11 ∧ R = ⟨#[]⟩) := by
      have h := HE.out
      rw [if_neg (by rw [hdg]; decide), if_neg (by decide)] at h
      exact h
    have HB5 : Hid (Below w.heap.size w w4) := hb5
    clear hb4 hb5 hdg
    go_wp2
    go_ret2
    exact ⟨by rw [HV.out.1, HV.out.2]; rfl, HB5.out⟩
end Go.Proofs.Ytonjkpakbmbafaa
