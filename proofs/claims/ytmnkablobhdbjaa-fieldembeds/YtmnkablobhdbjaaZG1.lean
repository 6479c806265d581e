/- The walk of the statement FieldEmbeds. -/
import Derived.Test.YtmnkablobhdbjaaZB8
namespace Go.Proofs.Ytmnkablobhdbjaa
open Go.RowKit

/-! ### What two answers with lists are held together by -/
set_option maxHeartbeats 2000000 in
theorem list_err (e : Int) (he : e ≠ 0) (w : World) :
    Calls Try.prog 45 #[.slice none 0 0, .int .i64 e, .slice none 0 0, .int .i64 e] w fun r w' => r = .returned (.bool true) ∧ w' = w := by
  have h1 : (e != 0) = true := bne_iff_ne.2 he
  go_enter Try.func45, Try.ntmps45
  go_wp2
  go_ret
  exact ⟨rfl, rfl⟩

set_option maxHeartbeats 2000000 in
theorem list_same {va vb : Value} {l : List Int} {w : World} (ha : SliceI va l w) (hb : SliceI vb l w) :
    Calls Try.prog 45 #[va, .int .i64 0, vb, .int .i64 0] w fun r w' => r = .returned (.bool true) ∧ ∃ n, w' = w.drewN n := by
  have H : Hid (SliceI va l w ∧ SliceI vb l w) := ⟨ha, hb⟩
  clear ha hb
  go_enter Try.func45, Try.ntmps45
  go_wp2_with fail
  refine (same_any H.out.1 H.out.2).mono ?_
  rintro e w' ⟨rfl, n, rfl⟩
  rw [decide_eq_true rfl]
  go_wp2
  go_ret
  exact ⟨rfl, _, rfl⟩

theorem embL_len (D E : FD) : (D.embL E).length = E.q := by simp [FD.embL]

set_option maxHeartbeats 2000000 in
theorem fieldEmbeds_err (q gr e : Int) (he : e ≠ 0) (w : World)
    (h1 : Calls Try.prog 43 #[.int .i64 q, .int .i64 gr] w fun r w' => r = .returned (.tuple #[.slice none 0 0, .int .i64 e]) ∧ Below w.heap.size w w')
    (h2 : ∀ w, Calls Try.prog 44 #[.int .i64 q, .int .i64 gr] w fun r w' => r = .returned (.tuple #[.slice none 0 0, .int .i64 e]) ∧ Below w.heap.size w w') :
    Calls Try.prog 5 #[.int .i64 q, .int .i64 gr] w fun r w' => r = .returned (.bool true) ∧ Below w.heap.size w w' := by
  have H1 : Hid (Calls Try.prog 43 #[.int .i64 q, .int .i64 gr] w fun r w' => r = .returned (.tuple #[.slice none 0 0, .int .i64 e]) ∧ Below w.heap.size w w') := h1
  have H2 : Hid (∀ w, Calls Try.prog 44 #[.int .i64 q, .int .i64 gr] w fun r w' => r = .returned (.tuple #[.slice none 0 0, .int .i64 e]) ∧ Below w.heap.size w w') := h2
  clear h1 h2
  go_enter Try.func5, Try.ntmps5
  go_wp2_with fail
  refine H1.out.mono ?_
  rintro r w1 ⟨rfl, hb1⟩
  have HB1 : Hid (Below w.heap.size w w1) := hb1
  clear hb1
  go_wp2_with fail
  refine (H2.out w1).mono ?_
  rintro r w2 ⟨rfl, hb2⟩
  have HB2 : Hid (Below w.heap.size w w2) := bel_up HB1.out hb2
  clear hb2
  go_wp2_with fail
  refine (list_err e he w2).mono ?_
  rintro r w3 ⟨rfl, hw⟩
  have hw := hw.symm
  subst hw
  go_wp2
  go_ret
  exact ⟨rfl, HB2.out⟩

set_option maxHeartbeats 2000000 in
theorem fieldEmbeds_ok {D E : FD} (hD : D ∈ fieldsL) (hE : E ∈ fieldsL) (h : E.p = D.p ∧ D.m % E.m = 0) (w : World) :
    Calls Try.prog 5 #[.int .i64 E.q, .int .i64 D.q] w fun r w' => r = .returned (.bool true) ∧ Below w.heap.size w w' := by
  have HN : Hid (D ∈ fieldsL ∧ E ∈ fieldsL ∧ E.p = D.p ∧ D.m % E.m = 0) := ⟨hD, hE, h⟩
  have hq64 := (fld hE).q64
  have hlen := embL_len D E
  clear h hE hD
  go_enter Try.func5, Try.ntmps5
  go_wp2_with fail
  refine (embed_any HN.out.1 HN.out.2.1 w HN.out.2.2).mono ?_
  rintro r w1 ⟨va, rfl, ho1, hb1⟩
  have HB1 : Hid (OwnI w.heap.size va (D.embL E) w1 ∧ Below w.heap.size w w1) := ⟨ho1, hb1⟩
  clear ho1 hb1
  go_wp2_with fail
  refine (rembed_any HN.out.1 HN.out.2.1 w1 HN.out.2.2).mono ?_
  rintro r w2 ⟨vb, rfl, ho2, hb2⟩
  have HB2 : Hid (SliceI va (D.embL E) w2 ∧ SliceI vb (D.embL E) w2 ∧ Below w.heap.size w w2) :=
    ⟨(HB1.out.1.below hb2 (fun k hk => (HB1.out.1.lt k hk).2)).slice (by omega), ho2.slice (by omega), bel_up HB1.out.2 hb2⟩
  clear ho2 hb2 HB1
  go_wp2_with fail
  refine (list_same HB2.out.1 HB2.out.2.1).mono ?_
  rintro r w3 ⟨rfl, n, rfl⟩
  go_wp2
  go_ret
  exact ⟨rfl, below_drewN2 HB2.out.2.2 _⟩

theorem fieldEmbeds_walk (q gr : Int) (w : World) :
    Calls Try.prog 5 #[.int .i64 q, .int .i64 gr] w fun r w' => r = .returned (.bool true) ∧ Below w.heap.size w w' := by
  by_cases h : ∃ E ∈ fieldsL, (E.q : Int) = q
  · obtain ⟨E, hE, rfl⟩ := h
    by_cases h : ∃ D ∈ fieldsL, (D.q : Int) = gr
    · obtain ⟨D, hD, rfl⟩ := h
      by_cases h : E.p = D.p ∧ D.m % E.m = 0
      · exact fieldEmbeds_ok hD hE h w
      · exact fieldEmbeds_err _ _ 3 (by omega) w (embed_form hD hE w h) (fun w => rembed_form hD hE w h)
    · have h' : ∀ D ∈ fieldsL, (D.q : Int) ≠ gr := fun D hD e => h ⟨D, hD, e⟩
      exact fieldEmbeds_err _ _ 1 (by omega) w (embed_great hE gr w h') (fun w => rembed_none2 hE gr w h')
  · have h' : ∀ D ∈ fieldsL, (D.q : Int) ≠ q := fun D hD e => h ⟨D, hD, e⟩
    exact fieldEmbeds_err _ _ 1 (by omega) w ((embed_small q gr w h').mono fun e w' ⟨h1, h2⟩ => ⟨h1, by rw [h2]; exact Below.refl _ _⟩) (fun w => rembed_none1 q gr w h')
end Go.Proofs.Ytmnkablobhdbjaa
