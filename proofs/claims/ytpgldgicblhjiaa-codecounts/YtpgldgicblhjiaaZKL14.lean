/- Texts of ours, one behind the other: KL14 KL15 KL16 KL17. -/
import Derived.Test.YtpgldgicblhjiaaZI12
import Derived.Test.YtpgldgicblhjiaaZI36
import Derived.Test.YtpgldgicblhjiaaZKL9
import Derived.Test.YtpgldgicblhjiaaZKL8
import Derived.Test.YtpgldgicblhjiaaZKL10
import Derived.Test.YtpgldgicblhjiaaZL1
import Derived.Test.YtpgldgicblhjiaaZX18
import Derived.Test.YtpgldgicblhjiaaZR9
/- The reference's WeightsMay. -/
namespace Go.Proofs.Ytpgldgicblhjiaa
open Go.RowKit Go.Sort

theorem run_fieldRows (a b : Value) (ro : Option Addr) (k rc : Nat) (w : World) : (Instr.field 24 (.agg #[a, b, .slice ro k rc]) 2).run Try.prog w = .ok (.slice ro k rc) w := by
  simp [Instr.field, go_sem, underlying, part, asAgg]
attribute [local go_sem] run_fieldRows

set_option maxHeartbeats 8000000 in
set_option maxRecDepth 100000 in
theorem rweightsMay_err (e : Int) (he : e ≠ 0) (q n : Int) {ao : Option Addr} {m ca : Nat} {w : World}
    (hC : ∀ wx, Below w.heap.size w wx → Calls Try.prog 31 #[.agg #[.int .i64 q, .int .i64 n, .slice ao m ca]] wx fun x w' => x = .returned (.int .i64 e) ∧ Below wx.heap.size wx w') :
    Calls Try.prog 7 #[.agg #[.int .i64 q, .int .i64 n, .slice ao m ca]] w fun x w' => x = .returned (.int .i64 e) ∧ Below w.heap.size w w' := by
  obtain ⟨w0, hw0⟩ : ∃ w0, w0 = w.alloc (.cells #[.int .i64 q, .int .i64 n, .slice ao m ca] 24) := ⟨_, rfl⟩
  have hb0 : Below w.heap.size w w0 := by rw [hw0]; exact (Below.refl _ _).alloc (Nat.le_refl _) _
  have HS : Hid (Calls Try.prog 31 #[.agg #[.int .i64 q, .int .i64 n, .slice ao m ca]] w0 fun x w' => x = .returned (.int .i64 e) ∧ Below w0.heap.size w0 w') := hC w0 hb0
  have hcb0 : CB w.heap.size q n (.slice ao m ca) w0 := by rw [hw0]; exact CB.new _ _ _ _
  have HB0 : Hid (Below w.heap.size w w0 ∧ CB w.heap.size q n (.slice ao m ca) w0) := ⟨hb0, hcb0⟩
  obtain ⟨q0, q1, q2⟩ := hcb0
  rw [hw0] at q0 q1 q2
  have hz : (e == 0) = false := by rw [beq_eq_false_iff_ne]; exact he
  clear hb0 hC he
  go_enter Try.func7, Try.ntmps7
  go_wp2_with fail
  rw [← hw0]
  clear hw0 q0 q1 q2
  refine HS.out.mono ?_
  rintro x w1 ⟨rfl, hb1⟩
  have HB1 : Hid (Below w.heap.size w w1) := bel_up' HB0.out.1 hb1
  clear hb1
  go_wp2
  go_big_quiet (fail)
  go_wp2
  go_ret
  exact ⟨rfl, below_drewN2 HB1.out _⟩

/-- What it tells of a code that may be. -/
def WmP (D : FD) (n m : Nat) (M : Nat → Nat → Nat) (w : World) (x : Ending) (w' : World) : Prop := ∃ k R, Red D n m M k R ∧ x = .returned (.int .i64 (if D.q ^ k ≤ 4096 then 0 else 4)) ∧ Below w.heap.size w w'

set_option maxHeartbeats 8000000 in
set_option maxRecDepth 100000 in
theorem rweightsMay_ok {D : FD} (hD : D ∈ fieldsL) {ao : Option Addr} {m n n1 ca : Nat} {M : Nat → Nat → Nat} {w : World} (hm : m ≤ 1000) (hn : n ≤ 64) (hnn : n = n1 + 1) (hel : ∀ i, i < m → El D (M i) ∧ Bd (n1 + 1) (M i)) (hA : MatR ao m n1 M w)
    (hC : ∀ wx, Below w.heap.size w wx → Calls Try.prog 31 #[.agg #[.int .i64 D.q, .int .i64 (n : Nat), .slice ao m ca]] wx fun x w' => x = .returned (.int .i64 0) ∧ Below wx.heap.size wx w') :
    Calls Try.prog 7 #[.agg #[.int .i64 D.q, .int .i64 (n : Nat), .slice ao m ca]] w (WmP D n m M w) := by
  obtain ⟨w0, hw0⟩ : ∃ w0, w0 = w.alloc (.cells #[.int .i64 D.q, .int .i64 (n : Nat), .slice ao m ca] 24) := ⟨_, rfl⟩
  have hb0 : Below w.heap.size w w0 := by rw [hw0]; exact (Below.refl _ _).alloc (Nat.le_refl _) _
  have HS : Hid (Calls Try.prog 31 #[.agg #[.int .i64 D.q, .int .i64 (n : Nat), .slice ao m ca]] w0 fun x w' => x = .returned (.int .i64 0) ∧ Below w0.heap.size w0 w') := hC w0 hb0
  have hcb0 : CB w.heap.size D.q n (.slice ao m ca) w0 := by rw [hw0]; exact CB.new _ _ _ _
  have HB0 : Hid (Below w.heap.size w w0 ∧ CB w.heap.size D.q n (.slice ao m ca) w0 ∧ MatR ao m n1 M w0) := ⟨hb0, hcb0, hA.below hb0⟩
  have HF : Hid (D ∈ fieldsL ∧ n = n1 + 1 ∧ ∀ i, i < m → El D (M i) ∧ Bd (n1 + 1) (M i)) := ⟨hD, hnn, hel⟩
  obtain ⟨q0, q1, q2⟩ := hcb0
  rw [hw0] at q0 q1 q2
  have h64 := (fld hD).q64
  have h2q := (fld hD).q2
  clear hb0 hC hD hnn hel hA
  go_enter Try.func7, Try.ntmps7
  go_wp2_with fail
  rw [← hw0]
  clear hw0 q0 q1 q2
  refine HS.out.mono ?_
  rintro x w1 ⟨rfl, hb1⟩
  have HB1 : Hid (Below w.heap.size w w1 ∧ MatR ao m n1 M w1) := ⟨bel_up' HB0.out.1 hb1, HB0.out.2.2.below hb1⟩
  obtain ⟨p0, p1, p2⟩ := HB0.out.2.1.keep hb1
  have HCl : Hid (∀ wx, Below w1.heap.size w1 wx → wx.cell? ⟨w.heap.size, 0, none⟩ = some (.int .i64 (D.q : Nat)) ∧ wx.cell? ⟨w.heap.size, 1, none⟩ = some (.int .i64 (n : Nat)) ∧ wx.cell? ⟨w.heap.size, 2, none⟩ = some (.slice ao m ca)) := fun wx hx => by
    obtain ⟨a0, a1, a2⟩ := (HB0.out.2.1.keep hb1).keep hx
    exact ⟨a0, a1, a2⟩
  have HMd : Hid (∀ wx, Below w1.heap.size w1 wx → Calls Try.prog 33 #[.agg #[.int .i64 D.q, .int .i64 (n : Nat), .slice ao m ca]] wx fun e w' => ∃ k R ro rc, e = .returned (.agg #[.int .i64 D.q, .int .i64 (n : Nat), .slice ro k rc]) ∧ LLs wx.heap.size (.slice ro k rc) (rl k n1 R) w' ∧ Red D n m M k R ∧ Below wx.heap.size wx w') := fun wx hx => made_any HF.out.1 hm hn HF.out.2.1 HF.out.2.2 (HB1.out.2.below hx)
  have hbc : Below w1.heap.size w1 w1 := Below.refl _ _
  clear hb1
  go_wp2
  go_region_held3 (fun w' => w'.cell? ⟨w.heap.size, 0, none⟩ = some (.int .i64 (D.q : Nat)) ∧ w'.cell? ⟨w.heap.size, 1, none⟩ = some (.int .i64 (n : Nat)) ∧ w'.cell? ⟨w.heap.size, 2, none⟩ = some (.slice ao m ca))
    (first | go_keep | exact HCl.out _ (by first | exact hbc | exact hbc.drew))
    (first
      | (go_at_call 33; refine (HMd.out _ (by first | exact hbc | exact hbc.drew)).mono ?_; rintro e w2 ⟨k, R, ro, rc, rfl, hll, hred, hb2⟩; have hkn := hred.le; replace hbc := bel_up' (by first | exact hbc | exact hbc.drew) hb2)
      | (go_at_call 32; refine (fewR_any D.q k (by omega) h64 (by omega) _).mono ?_; rintro e w3 ⟨bb, rfl, hfq, hw⟩; subst hw))
  have HR : Hid (Red D n m M k R ∧ (bb = true ↔ D.q ^ k ≤ 4096)) := ⟨hred, hfq⟩
  clear hll hred hfq hb2
  cases bb with
  | true =>
    go_wp2
    go_ret
    exact ⟨k, R, HR.out.1, by rw [if_pos (HR.out.2.1 (by trivial))]; rfl, bel_up' HB1.out.1 hbc⟩
  | false =>
    go_wp2
    go_ret
    exact ⟨k, R, HR.out.1, by rw [if_neg (fun h => by have h2 := HR.out.2.2 h; cases h2)]; rfl, bel_up' HB1.out.1 hbc⟩
end Go.Proofs.Ytpgldgicblhjiaa

/- code.Nearest of no code, of a code with too many words, of no word. -/
namespace Go.Proofs.Ytpgldgicblhjiaa
open Go.RowKit Go.Sort Go.Shelf

set_option maxHeartbeats 8000000 in
set_option maxRecDepth 100000 in
theorem nearest_err (e : Int) (he : e ≠ 0) (q n : Int) {ao : Option Addr} {m ca my cy : Nat} {yo : Option Addr} {w : World}
    (hC : ∀ wx, Below w.heap.size w wx → Calls Try.prog 36 #[.agg #[.int .i64 q, .int .i64 n, .slice ao m ca]] wx fun x w' => x = .returned (.tuple #[.agg #[.int .i64 0, .int .i64 0, .slice none 0 0], .int .i64 e]) ∧ Below wx.heap.size wx w') :
    Calls Try.prog 15 #[.agg #[.int .i64 q, .int .i64 n, .slice ao m ca], .slice yo my cy] w fun x w' => x = .returned (.tuple #[.slice none 0 0, .int .i64 0, .int .i64 e]) ∧ Below w.heap.size w w' := by
  obtain ⟨w0, hw0⟩ : ∃ w0, w0 = (w.alloc (.cells #[.int .i64 q, .int .i64 n, .slice ao m ca] 24)).alloc (.cells #[.slice yo my cy] 25) := ⟨_, rfl⟩
  have hb0 : Below w.heap.size w w0 := by rw [hw0]; exact ((Below.refl _ _).alloc (Nat.le_refl _) _).alloc (by simp) _
  have HS : Hid (Calls Try.prog 36 #[.agg #[.int .i64 q, .int .i64 n, .slice ao m ca]] w0 fun x w' => x = .returned (.tuple #[.agg #[.int .i64 0, .int .i64 0, .slice none 0 0], .int .i64 e]) ∧ Below w0.heap.size w0 w') := hC w0 hb0
  have hz : (e != 0) = true := by rw [bne_iff_ne]; exact he
  refine callsIn_wide.1 (callsIn_of_wp_marks (n := 0) Try.func15 rfl trivial ?_ rfl)
  refine wpIn_wide.2 ?_
  simp only [Try.ntmps15, List.size_toArray, List.length_cons, List.length_nil, Nat.reduceAdd, Nat.reduceSub, Array.replicate_succ, Array.replicate_zero, List.push_toArray, List.append_toArray, List.nil_append, List.cons_append]
  go_wp2_with fail
  rw [← hw0]
  have HB0 : Hid (Below w.heap.size w w0 ∧ RB w.heap.size w0) := ⟨hb0, by rw [hw0]; exact (RB.new (.int .i64 q) (.int .i64 n) (.slice ao m ca) w).keep ((Below.refl _ _).alloc (Nat.le_refl _) (.cells #[.slice yo my cy] 25))⟩
  clear hw0 hb0 hC he
  refine HS.out.mono ?_
  rintro x w1 ⟨rfl, hb1⟩
  have H1 : Hid (Below w.heap.size w w1 ∧ RB w.heap.size w1) := ⟨below_two' HB0.out.1 hb1, HB0.out.2.keep hb1⟩
  clear hb1
  obtain ⟨⟨x0, c0⟩, ⟨x1, c1⟩, ⟨x2, c2⟩, f0, f1, f2⟩ := H1.out.2
  obtain ⟨w2, hw2⟩ : ∃ w2, w2 = laid w1 w.heap.size 0 0 (.slice none 0 0) := ⟨_, rfl⟩
  have HB : Hid (Below w.heap.size w w2) := by rw [hw2]; exact laid_below H1.out.1 (Nat.le_refl _) _ _ _
  unfold laid at hw2
  go_wp2
  rw [← hw2]
  refine ⟨.tuple #[.slice none 0 0, .int .i64 0, .int .i64 e], by simp [results, Try.results15, go_sem], ?_⟩
  exact ⟨rfl, HB.out⟩

/-- What Nearest tells of a code that may be and no word of it. -/
def NeE (D : FD) (n m : Nat) (M : Nat → Nat → Nat) (e : Int) (w : World) (x : Ending) (w' : World) : Prop :=
  ∃ k R, Red D n m M k R ∧ Below w.heap.size w w' ∧ ((D.q ^ k ≤ 4096 ∧ x = .returned (.tuple #[.slice none 0 0, .int .i64 0, .int .i64 e])) ∨
    (¬ D.q ^ k ≤ 4096 ∧ x = .returned (.tuple #[.slice none 0 0, .int .i64 0, .int .i64 4])))

set_option maxHeartbeats 8000000 in
set_option maxRecDepth 100000 in
theorem nearest_num {D : FD} (hD : D ∈ fieldsL) {ao yo : Option Addr} {m n my ca cy : Nat} {M : Nat → Nat → Nat} {y : Nat → Int} {w : World} {e : Int} (hE : e = D.nchk my y n) (he : e ≠ 0) (hA : Arg yo my cy y w)
    (hS : ∀ wx, Below w.heap.size w wx → Calls Try.prog 36 #[.agg #[.int .i64 D.q, .int .i64 (n : Nat), .slice ao m ca]] wx (SmP D n m M wx)) :
    Calls Try.prog 15 #[.agg #[.int .i64 D.q, .int .i64 (n : Nat), .slice ao m ca], .slice yo my cy] w (NeE D n m M e w) := by
  obtain ⟨w0, hw0⟩ : ∃ w0, w0 = (w.alloc (.cells #[.int .i64 D.q, .int .i64 (n : Nat), .slice ao m ca] 24)).alloc (.cells #[.slice yo my cy] 25) := ⟨_, rfl⟩
  have hb0 : Below w.heap.size w w0 := by rw [hw0]; exact ((Below.refl _ _).alloc (Nat.le_refl _) _).alloc (by simp) _
  have HS : Hid (Calls Try.prog 36 #[.agg #[.int .i64 D.q, .int .i64 (n : Nat), .slice ao m ca]] w0 (SmP D n m M w0)) := hS w0 hb0
  have hrb0 : RB w.heap.size w0 := by
    rw [hw0]
    have h := (RB.new (.int .i64 D.q) (.int .i64 (n : Nat)) (.slice ao m ca) w).keep ((Below.refl _ _).alloc (Nat.le_refl _) (.cells #[.slice yo my cy] 25))
    exact h
  have hyb0 : w0.cell? ⟨w.heap.size + 1, 0, none⟩ = some (.slice yo my cy) := by
    have h := World.cell?_alloc_new (w := w.alloc (.cells #[.int .i64 D.q, .int .i64 (n : Nat), .slice ao m ca] 24)) #[.slice yo my cy] 25 0
    rw [show (w.alloc (.cells #[.int .i64 D.q, .int .i64 (n : Nat), .slice ao m ca] 24)).heap.size = w.heap.size + 1 by simp] at h
    rw [hw0]; exact h
  have HB0 : Hid (Below w.heap.size w w0 ∧ RB w.heap.size w0 ∧ w0.cell? ⟨w.heap.size + 1, 0, none⟩ = some (.slice yo my cy) ∧ w0.heap.size = w.heap.size + 2) := ⟨hb0, hrb0, hyb0, by rw [hw0]; simp⟩
  have HA : Hid (D ∈ fieldsL ∧ Arg yo my cy y w ∧ e = D.nchk my y n) := ⟨hD, hA, hE⟩
  have hFl := fld hD
  have hz : (e != 0) = true := by rw [bne_iff_ne]; exact he
  have HE0 : Hid (e ≠ 0) := he
  clear hS hA hE he hrb0 hyb0
  refine callsIn_wide.1 (callsIn_of_wp_marks (n := 0) Try.func15 rfl trivial ?_ rfl)
  refine wpIn_wide.2 ?_
  simp only [Try.ntmps15, List.size_toArray, List.length_cons, List.length_nil, Nat.reduceAdd, Nat.reduceSub, Array.replicate_succ, Array.replicate_zero, List.push_toArray, List.append_toArray, List.nil_append, List.cons_append]
  go_wp2_with fail
  rw [← hw0]
  clear hw0 hb0
  refine HS.out.mono ?_
  rintro x w1 ⟨k, R, hred, hb1, hx⟩
  have H1 : Hid (Below w.heap.size w w1 ∧ RB w.heap.size w1 ∧ Red D n m M k R ∧ w0.heap.size ≤ w1.heap.size ∧ w1.cell? ⟨w.heap.size + 1, 0, none⟩ = some (.slice yo my cy)) := ⟨below_two' HB0.out.1 hb1, HB0.out.2.1.keep hb1, hred, hb1.size, ((bcell hb1).1 _ 0 (cell_lt HB0.out.2.2.1)).trans HB0.out.2.2.1⟩
  clear hred hb1
  obtain ⟨⟨x0, c0⟩, ⟨x1, c1⟩, ⟨x2, c2⟩, f0, f1, f2⟩ := H1.out.2.1
  rcases hx with ⟨hfew, ro, rc, hkr, hmv, rfl⟩ | ⟨hmany, rfl⟩
  · obtain ⟨w2, hw2⟩ : ∃ w2, w2 = laid w1 w.heap.size D.q n (.slice ro k rc) := ⟨_, rfl⟩
    have H2 : Hid (CB w.heap.size D.q n (.slice ro k rc) w2 ∧ MV w0.heap.size (.slice ro k rc) k n R w2 ∧ Below w.heap.size w w2 ∧ w2.cell? ⟨w.heap.size + 1, 0, none⟩ = some (.slice yo my cy) ∧ w2.heap.size = w1.heap.size) := by
      have h9 := HB0.out.2.2.2
      rw [hw2]
      refine ⟨laid_cb H1.out.2.1 _ _ _, laid_mv hmv (by omega) _ _ _, laid_below H1.out.1 (Nat.le_refl _) _ _ _, ?_, by simp [laid, World.setCell]⟩
      have e := laid_heap w1 w.heap.size D.q n (.slice ro k rc) (g := w.heap.size + 1) (by omega)
      have h8 := H1.out.2.2.2.2
      unfold World.cell? at h8 ⊢
      rw [e]; exact h8
    have HKR : Hid (D.q ^ k ≤ 4096 ∧ k ≤ rc ∧ rc ≤ 1000000) := ⟨hfew, hkr⟩
    obtain ⟨e0, e1, e2⟩ := H2.out.1
    have e3 := H2.out.2.2.2.1
    rw [hw2] at e0 e1 e2 e3
    unfold laid at e0 e1 e2 e3 hw2
    have HNm : Hid (Calls Try.prog 41 #[.int .i64 D.q, .slice yo my cy, .int .i64 (n : Nat)] w2 fun x w' => x = .returned (.tuple #[.pointer none, .int .i64 e]) ∧ Below w2.heap.size w2 w') := by have h := HA.out.2.2; rw [h]; exact cnum_err HA.out.1 (HA.out.2.1.below H2.out.2.2.1) (by rw [← h]; exact HE0.out)
    clear hmv hfew hkr
    go_wp2_with fail
    rw [← hw2]
    clear hw2 e0 e1 e2 e3 c0 c1 c2 f0 f1 f2
    refine HNm.out.mono ?_
    rintro x w3 ⟨rfl, hb3⟩
    have HB3 : Hid (Below w.heap.size w w3) := bel_up' H2.out.2.2.1 hb3
    clear hb3
    go_wp2
    refine ⟨.tuple #[.slice none 0 0, .int .i64 0, .int .i64 e], by simp [results, Try.results15, go_sem], ?_⟩
    exact ⟨k, R, H1.out.2.2.1, HB3.out, Or.inl ⟨HKR.out.1, rfl⟩⟩
  · have HM : Hid (¬ D.q ^ k ≤ 4096) := hmany
    obtain ⟨w2, hw2⟩ : ∃ w2, w2 = laid w1 w.heap.size 0 0 (.slice none 0 0) := ⟨_, rfl⟩
    have HB : Hid (Below w.heap.size w w2) := by rw [hw2]; exact laid_below H1.out.1 (Nat.le_refl _) _ _ _
    unfold laid at hw2
    go_wp2
    rw [← hw2]
    refine ⟨.tuple #[.slice none 0 0, .int .i64 0, .int .i64 4], by simp [results, Try.results15, go_sem], ?_⟩
    exact ⟨k, R, H1.out.2.2.1, HB.out, Or.inr ⟨HM.out, rfl⟩⟩
end Go.Proofs.Ytpgldgicblhjiaa

/- CodeCounts of what is too heavy, and of no code. -/
namespace Go.Proofs.Ytpgldgicblhjiaa
open Go.RowKit Go.Sort

set_option maxHeartbeats 8000000 in
set_option maxRecDepth 100000 in
theorem cc_heavy (q n : Int) {ao yo : Option Addr} {m ca my cy : Nat} {bh : Bool} {w : World} (hHv : ∀ wx, Below w.heap.size w wx → Calls Try.prog 6 #[.slice ao m ca] wx fun r w' => r = .returned (.bool bh) ∧ w' = wx) (hh : bh = true ∨ 100 < my) :
    Calls Try.prog 3 #[.agg #[.int .i64 q, .int .i64 n, .slice ao m ca], .slice yo my cy] w fun r w' => r = .returned (.bool true) ∧ Below w.heap.size w w' := by
  obtain ⟨w0, hw0⟩ : ∃ w0, w0 = w.alloc (.cells #[.int .i64 q, .int .i64 n, .slice ao m ca] 24) := ⟨_, rfl⟩
  have hb0 : Below w.heap.size w w0 := by rw [hw0]; exact (Below.refl _ _).alloc (Nat.le_refl _) _
  have HW : Hid (Below w.heap.size w w0 ∧ CB w.heap.size q n (.slice ao m ca) w0) := ⟨hb0, by rw [hw0]; exact CB.new _ _ _ _⟩
  have HHv : Hid _ := hHv
  clear hHv hb0
  go_enter Try.func3, Try.ntmps3
  go_wp2_with fail
  rw [← hw0]
  clear hw0
  refine (HHv.out _ HW.out.1).mono ?_
  rintro r w' ⟨rfl, hw⟩
  have hw := hw.symm
  subst hw
  obtain ⟨q0, q1, q2⟩ := HW.out.2
  cases bh with
  | true =>
    go_wp2
    go_ret
    exact ⟨rfl, HW.out.1⟩
  | false =>
    have hl2 : (100 : Int) < (my : Int) := by
      rcases hh with h | h
      · cases h
      · omega
    go_wp2
    go_ret
    exact ⟨rfl, HW.out.1⟩

set_option maxHeartbeats 8000000 in
set_option maxRecDepth 100000 in
theorem cc_err (e : Int) (he : e ≠ 0) (q n : Int) {ao yo : Option Addr} {m ca my cy : Nat} {w : World} (hmy : my ≤ 100) (hHv : ∀ wx, Below w.heap.size w wx → Calls Try.prog 6 #[.slice ao m ca] wx fun r w' => r = .returned (.bool false) ∧ w' = wx)
    (hWm : ∀ wx, Below w.heap.size w wx → Calls Try.prog 7 #[.agg #[.int .i64 q, .int .i64 n, .slice ao m ca]] wx fun x w' => x = .returned (.int .i64 e) ∧ Below wx.heap.size wx w')
    (hCw : ∀ wx, Below w.heap.size w wx → Calls Try.prog 9 #[.agg #[.int .i64 q, .int .i64 n, .slice ao m ca]] wx fun x w' => x = .returned (.tuple #[.slice none 0 0, .int .i64 e]) ∧ Below wx.heap.size wx w')
    (hCd : ∀ wx, Below w.heap.size w wx → Calls Try.prog 10 #[.agg #[.int .i64 q, .int .i64 n, .slice ao m ca]] wx fun x w' => x = .returned (.tuple #[.int .i64 0, .int .i64 e]) ∧ Below wx.heap.size wx w')
    (hCn : ∀ wx, Below w.heap.size w wx → Calls Try.prog 15 #[.agg #[.int .i64 q, .int .i64 n, .slice ao m ca], .slice yo my cy] wx fun x w' => x = .returned (.tuple #[.slice none 0 0, .int .i64 0, .int .i64 e]) ∧ Below wx.heap.size wx w') :
    Calls Try.prog 3 #[.agg #[.int .i64 q, .int .i64 n, .slice ao m ca], .slice yo my cy] w fun r w' => r = .returned (.bool true) ∧ Below w.heap.size w w' := by
  obtain ⟨w0, hw0⟩ : ∃ w0, w0 = w.alloc (.cells #[.int .i64 q, .int .i64 n, .slice ao m ca] 24) := ⟨_, rfl⟩
  have hb0 : Below w.heap.size w w0 := by rw [hw0]; exact (Below.refl _ _).alloc (Nat.le_refl _) _
  have HW : Hid (Below w.heap.size w w0 ∧ CB w.heap.size q n (.slice ao m ca) w0) := ⟨hb0, by rw [hw0]; exact CB.new _ _ _ _⟩
  have HHv : Hid _ := hHv
  have HWm : Hid _ := hWm
  have HCw : Hid _ := hCw
  have HCd : Hid _ := hCd
  have HCn : Hid _ := hCn
  have HE : Hid (e ≠ 0) := he
  have hz1 : (e == 0) = false := by rw [beq_eq_false_iff_ne]; exact he
  have hz2 : (e != 0) = true := by rw [bne_iff_ne]; exact he
  have hl : ¬ (100 : Int) < (my : Int) := by omega
  clear hWm hCw hCd hCn he
  clear hHv hb0
  go_enter Try.func3, Try.ntmps3
  go_wp2_with fail
  rw [← hw0]
  clear hw0
  refine (HHv.out _ HW.out.1).mono ?_
  rintro r w' ⟨rfl, hw⟩
  have hw := hw.symm
  subst hw
  obtain ⟨q0, q1, q2⟩ := HW.out.2
  have H0 := HW
  go_wp2_with fail
  refine (HWm.out _ H0.out.1).mono ?_
  rintro x w1 ⟨rfl, hb1⟩
  have H1 : Hid (Below w.heap.size w w1 ∧ CB w.heap.size q n (.slice ao m ca) w1) := ⟨bel_up' H0.out.1 hb1, H0.out.2.keep hb1⟩
  clear hb1 q0 q1 q2
  obtain ⟨q0, q1, q2⟩ := H1.out.2
  go_wp2_with fail
  refine (HCw.out _ H1.out.1).mono ?_
  rintro x w2 ⟨rfl, hb2⟩
  have H2 : Hid (Below w.heap.size w w2 ∧ CB w.heap.size q n (.slice ao m ca) w2) := ⟨bel_up' H1.out.1 hb2, H1.out.2.keep hb2⟩
  clear hb2 q0 q1 q2
  obtain ⟨q0, q1, q2⟩ := H2.out.2
  go_wp2_with fail
  refine (HCd.out _ H2.out.1).mono ?_
  rintro x w3 ⟨rfl, hb3⟩
  have H3 : Hid (Below w.heap.size w w3 ∧ CB w.heap.size q n (.slice ao m ca) w3) := ⟨bel_up' H2.out.1 hb3, H2.out.2.keep hb3⟩
  clear hb3 q0 q1 q2
  obtain ⟨q0, q1, q2⟩ := H3.out.2
  go_wp2_with fail
  refine (list_err e HE.out _).mono ?_
  rintro x w' ⟨rfl, hw⟩
  have hw := hw.symm
  subst hw
  go_wp2_with fail
  refine (rleast_nil _).mono ?_
  rintro x w' ⟨rfl, hw⟩
  have hw := hw.symm
  subst hw
  go_wp2_with fail
  refine (num_err e HE.out 0 _).mono ?_
  rintro x w' ⟨rfl, hw⟩
  have hw := hw.symm
  subst hw
  go_wp2_with fail
  refine (HCn.out _ H3.out.1).mono ?_
  rintro x w4 ⟨rfl, hb4⟩
  have H4 : Hid (Below w.heap.size w w4 ∧ CB w.heap.size q n (.slice ao m ca) w4) := ⟨bel_up' H3.out.1 hb4, H3.out.2.keep hb4⟩
  clear hb4 q0 q1 q2
  obtain ⟨q0, q1, q2⟩ := H4.out.2
  go_wp2
  go_ret
  exact ⟨by simp, H4.out.1⟩

end Go.Proofs.Ytpgldgicblhjiaa

/- CodeCounts of a code that may be, and no word. -/
namespace Go.Proofs.Ytpgldgicblhjiaa
open Go.RowKit Go.Sort

set_option maxHeartbeats 8000000 in
set_option maxRecDepth 100000 in
theorem cc_word (e : Int) (he : e ≠ 0) (q n : Int) {ao yo : Option Addr} {m ca my cy n2 : Nat} {c : Nat → Nat} {w : World} (hmy : my ≤ 100) (hn2 : n2 ≤ 65) (hHv : ∀ wx, Below w.heap.size w wx → Calls Try.prog 6 #[.slice ao m ca] wx fun r w' => r = .returned (.bool false) ∧ w' = wx)
    (hWm : ∀ wx, Below w.heap.size w wx → Calls Try.prog 7 #[.agg #[.int .i64 q, .int .i64 n, .slice ao m ca]] wx fun x w' => x = .returned (.int .i64 0) ∧ Below wx.heap.size wx w')
    (hRw : ∀ wx, Below w.heap.size w wx → Calls Try.prog 8 #[.agg #[.int .i64 q, .int .i64 n, .slice ao m ca]] wx fun x w' => ∃ g, x = .returned (.slice (some ⟨g, 0, none⟩) n2 n2) ∧ Row g n2 c w' ∧ Below wx.heap.size wx w')
    (hCw : ∀ wx, Below w.heap.size w wx → Calls Try.prog 9 #[.agg #[.int .i64 q, .int .i64 n, .slice ao m ca]] wx fun x w' => ∃ g, x = .returned (.tuple #[.slice (some ⟨g, 0, none⟩) n2 n2, .int .i64 0]) ∧ Row g n2 c w' ∧ Below wx.heap.size wx w')
    (hCd : ∀ wx, Below w.heap.size w wx → Calls Try.prog 10 #[.agg #[.int .i64 q, .int .i64 n, .slice ao m ca]] wx fun x w' => ∃ d, Lwt c n2 d ∧ x = .returned (.tuple #[.int .i64 (d : Nat), .int .i64 0]) ∧ Below wx.heap.size wx w')
    (hRm : ∀ wx, Below w.heap.size w wx → Calls Try.prog 14 #[.agg #[.int .i64 q, .int .i64 n, .slice ao m ca], .slice yo my cy] wx fun x w' => x = .returned (.int .i64 e) ∧ Below wx.heap.size wx w')
    (hCn : ∀ wx, Below w.heap.size w wx → Calls Try.prog 15 #[.agg #[.int .i64 q, .int .i64 n, .slice ao m ca], .slice yo my cy] wx fun x w' => x = .returned (.tuple #[.slice none 0 0, .int .i64 0, .int .i64 e]) ∧ Below wx.heap.size wx w') :
    Calls Try.prog 3 #[.agg #[.int .i64 q, .int .i64 n, .slice ao m ca], .slice yo my cy] w fun r w' => r = .returned (.bool true) ∧ Below w.heap.size w w' := by
  obtain ⟨w0, hw0⟩ : ∃ w0, w0 = w.alloc (.cells #[.int .i64 q, .int .i64 n, .slice ao m ca] 24) := ⟨_, rfl⟩
  have hb0 : Below w.heap.size w w0 := by rw [hw0]; exact (Below.refl _ _).alloc (Nat.le_refl _) _
  have HW : Hid (Below w.heap.size w w0 ∧ CB w.heap.size q n (.slice ao m ca) w0) := ⟨hb0, by rw [hw0]; exact CB.new _ _ _ _⟩
  have HHv : Hid _ := hHv
  have HWm : Hid _ := hWm
  have HRw : Hid _ := hRw
  have HCw : Hid _ := hCw
  have HCd : Hid _ := hCd
  have HRm : Hid _ := hRm
  have HCn : Hid _ := hCn
  have hl : ¬ (100 : Int) < (my : Int) := by omega
  clear hWm hRw hCw hCd hRm hCn
  have hz1 : (e == 0) = false := by rw [beq_eq_false_iff_ne]; exact he
  have hz2 : (e != 0) = true := by rw [bne_iff_ne]; exact he
  clear he
  clear hHv hb0
  go_enter Try.func3, Try.ntmps3
  go_wp2_with fail
  rw [← hw0]
  clear hw0
  refine (HHv.out _ HW.out.1).mono ?_
  rintro r w' ⟨rfl, hw⟩
  have hw := hw.symm
  subst hw
  obtain ⟨q0, q1, q2⟩ := HW.out.2
  have H0 := HW
  go_wp2_with fail
  refine (HWm.out _ H0.out.1).mono ?_
  rintro x w1 ⟨rfl, hb1⟩
  have H1 : Hid (Below w.heap.size w w1 ∧ CB w.heap.size q n (.slice ao m ca) w1) := ⟨bel_up' H0.out.1 hb1, H0.out.2.keep hb1⟩
  clear hb1 q0 q1 q2
  obtain ⟨q0, q1, q2⟩ := H1.out.2
  go_wp2_with fail
  refine (HRw.out _ H1.out.1).mono ?_
  rintro x w2 ⟨g1, rfl, hr2, hb2⟩
  have H2 : Hid (Below w.heap.size w w2 ∧ CB w.heap.size q n (.slice ao m ca) w2) := ⟨bel_up' H1.out.1 hb2, H1.out.2.keep hb2⟩
  clear hb2 q0 q1 q2
  obtain ⟨q0, q1, q2⟩ := H2.out.2
  go_wp2_with fail
  refine (HCw.out _ H2.out.1).mono ?_
  rintro x w3 ⟨g2, rfl, hr3, hb3⟩
  have H3 : Hid (Below w.heap.size w w3 ∧ CB w.heap.size q n (.slice ao m ca) w3) := ⟨bel_up' H2.out.1 hb3, H2.out.2.keep hb3⟩
  have hr2 := hr2.below hb3 hr2.lt
  clear hb3 q0 q1 q2
  obtain ⟨q0, q1, q2⟩ := H3.out.2
  go_wp2_with fail
  refine (HCd.out _ H3.out.1).mono ?_
  rintro x w4 ⟨d, hd, rfl, hb4⟩
  have H4 : Hid (Below w.heap.size w w4 ∧ CB w.heap.size q n (.slice ao m ca) w4) := ⟨bel_up' H3.out.1 hb4, H3.out.2.keep hb4⟩
  have HD : Hid (Row g1 n2 c w4 ∧ Row g2 n2 c w4 ∧ Lwt c n2 d) := ⟨hr2.below hb4 hr2.lt, hr3.below hb4 hr3.lt, hd⟩
  clear hr2 hr3 hd
  clear hb4 q0 q1 q2
  obtain ⟨q0, q1, q2⟩ := H4.out.2
  go_wp2_with fail
  refine (list_same (sl_sliceI (HD.out.2.1.sl (Nat.le_refl _)) (by omega)) (sl_sliceI (HD.out.1.sl (Nat.le_refl _)) (by omega))).mono ?_
  rintro x w5 ⟨rfl, nd, hw5⟩
  have H5 : Hid (Below w.heap.size w w5 ∧ CB w.heap.size q n (.slice ao m ca) w5 ∧ Row g1 n2 c w5) := by rw [hw5]; exact ⟨below_drewN2 H4.out.1 _, H4.out.2.keep (below_drewN2 (Below.refl _ _) _), HD.out.1.drewN nd⟩
  clear hw5 q0 q1 q2
  obtain ⟨q0, q1, q2⟩ := H5.out.2.1
  go_wp2_with fail
  refine (rleast_any H5.out.2.2 (by omega)).mono ?_
  rintro x w' ⟨d', hd', rfl, hw⟩
  have hw := hw.symm
  subst hw
  have hdd := hd'.uniq HD.out.2.2
  subst hdd
  clear hd'
  go_wp2_with fail
  refine (num_same _ _).mono ?_
  rintro x w' ⟨rfl, hw⟩
  have hw := hw.symm
  subst hw
  have H5 : Hid (Below w.heap.size w w5 ∧ CB w.heap.size q n (.slice ao m ca) w5) := ⟨H5.out.1, H5.out.2.1⟩
  go_wp2_with fail
  refine (HRm.out _ H5.out.1).mono ?_
  rintro x w6 ⟨rfl, hb6⟩
  have H6 : Hid (Below w.heap.size w w6 ∧ CB w.heap.size q n (.slice ao m ca) w6) := ⟨bel_up' H5.out.1 hb6, H5.out.2.keep hb6⟩
  clear hb6 q0 q1 q2
  obtain ⟨q0, q1, q2⟩ := H6.out.2
  go_wp2_with fail
  refine (HCn.out _ H6.out.1).mono ?_
  rintro x w7 ⟨rfl, hb7⟩
  have H7 : Hid (Below w.heap.size w w7 ∧ CB w.heap.size q n (.slice ao m ca) w7) := ⟨bel_up' H6.out.1 hb7, H6.out.2.keep hb7⟩
  clear hb7 q0 q1 q2
  obtain ⟨q0, q1, q2⟩ := H7.out.2
  go_wp2
  go_ret
  exact ⟨by simp, H7.out.1⟩

end Go.Proofs.Ytpgldgicblhjiaa
