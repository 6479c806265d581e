/- Codes: one form and the dual, of the reference (Made, DualOf). -/
import Derived.Test.YtbpeahhhkcljeaaZI11
import Derived.Test.YtbpeahhhkcljeaaZI1
import Derived.Test.YtbpeahhhkcljeaaZS4
namespace Go.Proofs.Ytbpeahhhkcljeaa
open Go.RowKit Go.Sort

/-- Block b holds a code's cells. -/
def RBt (b : Nat) (w : World) : Prop := ∃ cs, w.heap[b]? = some (.cells cs 43 (0, 0))
theorem RBt.new (cs : Array Value) (w : World) : RBt w.heap.size (w.alloc (.cells cs 43)) := ⟨cs, two_new _⟩
theorem RBt.keep {b : Nat} {w w' : World} (h : RBt b w) (hb : Below w.heap.size w w') : RBt b w' := by
  obtain ⟨cs, h⟩ := h
  exact ⟨cs, by rw [hb.block b (lt_of_block h)]; exact h⟩
theorem Row.notCode {g N b : Nat} {c : Nat → Nat} {w : World} (h : Row g N c w) (ht : RBt b w) : g ≠ b := by
  obtain ⟨cap, f, ⟨cs, h1, _⟩, _⟩ := h
  obtain ⟨ds, h2⟩ := ht
  intro e
  rw [e, h2] at h1
  simp at h1
theorem OwnV.notCode {base b : Nat} {v : Value} {l : List Value} {w : World} (h : OwnV base v l w) (ht : RBt b w) : ∀ g, v.ownBlock = some g → g ≠ b := by
  intro g hg e
  rcases h.2 with ⟨h1, _⟩ | ⟨g', cap, cur, hv, _, hh, _⟩
  · rw [h1] at hg; cases hg
  · rw [hv] at hg
    have hg : some g' = some g := hg
    cases hg
    obtain ⟨ds, h2⟩ := ht
    rw [e, h2] at hh
    simp at hh
theorem OwnV.same {base : Nat} {v : Value} {l : List Value} {w w' : World} (h : OwnV base v l w) (hb : ∀ g, v.ownBlock = some g → w'.heap[g]? = w.heap[g]?) : OwnV base v l w' := by
  obtain ⟨h1, h2⟩ := h
  refine ⟨h1, ?_⟩
  rcases h2 with h2 | ⟨g, cap, cur, hv, hg, hh, r⟩
  · exact Or.inl h2
  · exact Or.inr ⟨g, cap, cur, hv, hg, by rw [hb g (by rw [hv]; rfl)]; exact hh, r⟩
theorem LLs.slc {base : Nat} {v : Value} {L : List (Nat × (Nat → Nat))} {w : World} (h : LLs base v L w) : ∃ ao cap, v = .slice ao L.length cap := by
  obtain ⟨l, h1, h2⟩ := h
  obtain ⟨ao, cap, e, _⟩ := h1.open
  rw [h2.1] at e
  exact ⟨ao, cap, e⟩
theorem LLs.laid {base b : Nat} {v : Value} {L : List (Nat × (Nat → Nat))} {w : World} (h : LLs base v L w) (ht : RBt b w) (q n : Int) (u : Value) : LLs base v L (laid w b q n u) := by
  obtain ⟨l, h1, h2⟩ := h
  refine ⟨l, h1.same (fun g hg => laid_heap w b q n u (h1.notCode ht g hg)), h2.1, fun j x p hx hp => ?_⟩
  obtain ⟨g, cap, e, a1, a2, hr⟩ := h2.2 j x p hx hp
  exact ⟨g, cap, e, a1, a2, hr.other (laid_heap w b q n u (hr.notCode ht))⟩

set_option maxHeartbeats 4000000 in
set_option maxRecDepth 100000 in
theorem made_any {D : FD} (hD : D ∈ fieldsL) {ao : Option Addr} {m n n1 ca : Nat} {M : Nat → Nat → Nat} {w : World} (hm : m ≤ 1000) (hn : n ≤ 64) (hnn : n = n1 + 1) (hel : ∀ i, i < m → El D (M i) ∧ Bd (n1 + 1) (M i)) (hA : MatR ao m n1 M w) :
    Calls Try.prog 22 #[.agg #[.int .i64 D.q, .int .i64 (n : Nat), .slice ao m ca]] w fun e w' => ∃ k R ro rc, e = .returned (.agg #[.int .i64 D.q, .int .i64 (n : Nat), .slice ro k rc]) ∧ LLs w.heap.size (.slice ro k rc) (rl k n1 R) w' ∧ Red D n m M k R ∧ Below w.heap.size w w' := by
  obtain ⟨w0, hw0⟩ : ∃ w0, w0 = (w.alloc (.cells #[.int .i64 D.q, .int .i64 (n : Nat), .slice ao m ca] 43)).alloc (.cells #[.int .i64 0, .int .i64 0, .slice none 0 0] 43) := ⟨_, rfl⟩
  have HW : Hid (Below w.heap.size w w0 ∧ CB w.heap.size D.q n (.slice ao m ca) w0 ∧ RB (w.heap.size + 1) w0 ∧ RBt (w.heap.size + 1) w0 ∧ w0.heap.size = w.heap.size + 2) := by
    obtain ⟨h1, h2, _, h4⟩ := two_boxes D.q n 0 0 (.slice ao m ca) (.slice none 0 0) w
    have hs1 : (w.alloc (.cells #[.int .i64 D.q, .int .i64 (n : Nat), .slice ao m ca] 43)).heap.size = w.heap.size + 1 := by simp
    have h5 := RB.new (.int .i64 0) (.int .i64 0) (.slice none 0 0) (w.alloc (.cells #[.int .i64 D.q, .int .i64 (n : Nat), .slice ao m ca] 43))
    have h6 := RBt.new #[.int .i64 0, .int .i64 0, .slice none 0 0] (w.alloc (.cells #[.int .i64 D.q, .int .i64 (n : Nat), .slice ao m ca] 43))
    rw [hs1] at h5 h6
    rw [hw0]; exact ⟨h1, h2, h5, h6, h4⟩
  have HA : Hid (D ∈ fieldsL ∧ (∀ i, i < m → El D (M i) ∧ Bd (n1 + 1) (M i)) ∧ MatR ao m n1 M w ∧ n = n1 + 1) := ⟨hD, hel, hA, hnn⟩
  have hn1 : n1 ≤ 900 := by omega
  clear hD hel hA hnn
  go_enter Try.func22, Try.ntmps22
  go_wp2_with fail
  rw [← hw0]
  clear hw0
  refine (rfield_sl HA.out.1 w0).mono ?_
  rintro e w1 ⟨gm, cm, rfl, hmod, hb1⟩
  unfold rf
  obtain ⟨wb, hwb⟩ : ∃ wb, wb = w1.alloc (.cells #[.int .i64 D.q, .int .i64 D.p, .int .i64 D.m, .int .i64 D.gen, .slice (some ⟨gm, 0, none⟩) (D.m + 1) cm] 28) := ⟨_, rfl⟩
  have hbb : Below w1.heap.size w1 wb := by rw [hwb]; exact (Below.refl _ _).alloc (Nat.le_refl _) _
  have H1 : Hid (Below w.heap.size w wb ∧ CB w.heap.size D.q n (.slice ao m ca) wb ∧ RB (w.heap.size + 1) wb ∧ RBt (w.heap.size + 1) wb ∧ ModAt D (.slice (some ⟨gm, 0, none⟩) (D.m + 1) cm) D.md wb ∧ w.heap.size + 2 ≤ wb.heap.size) := by
    have hb2 := bel_up' hb1 hbb
    exact ⟨bel_up' HW.out.1 hb2, HW.out.2.1.keep hb2, HW.out.2.2.1.keep hb2, HW.out.2.2.2.1.keep hb2, hmod.below hbb, by have := hb2.size; have := HW.out.2.2.2.2; omega⟩
  have hcb1 := HW.out.2.1.keep hb1
  obtain ⟨a0, a1, a2⟩ := hcb1
  have hlt := cell_lt a0
  have hlt : w.heap.size < w1.heap.size := hlt
  clear hmod hb1 hbb
  go_wp2_with fail
  rw [← hwb]
  clear hwb a0 a1 a2
  refine (rreduce_any HA.out.1 D.gen gm cm hm (by omega) HA.out.2.1 (HA.out.2.2.1.below H1.out.1) H1.out.2.2.2.2.1).mono ?_
  rintro e w2 ⟨vr, vp, k, R, p, rfl, hk, hvr, hvp, hre, hsp, _, hb2⟩
  obtain ⟨ro, rc, hv⟩ := hvr.slc
  rw [rl_len] at hv
  subst hv
  have H2 : Hid (LLs wb.heap.size (.slice ro k rc) (rl k n1 R) w2 ∧ Red D n m M k R ∧ Below w.heap.size w w2 ∧ CB w.heap.size D.q n (.slice ao m ca) w2 ∧ RB (w.heap.size + 1) w2 ∧ RBt (w.heap.size + 1) w2) := by
    refine ⟨hvr, ⟨p, ?_, hsp⟩, bel_up' H1.out.1 hb2, H1.out.2.1.keep hb2, H1.out.2.2.1.keep hb2, H1.out.2.2.2.1.keep hb2⟩
    rw [HA.out.2.2.2]; exact hre
  clear hk hvr hvp hre hsp hb2
  have hcb2 := H2.out.2.2.2.1
  obtain ⟨a0, a1, a2⟩ := hcb2
  obtain ⟨⟨x0, c0⟩, ⟨x1, c1⟩, ⟨x2, c2⟩, f0, f1, f2⟩ := H2.out.2.2.2.2.1
  go_wp2
  obtain ⟨w3, hw3⟩ : ∃ w3, w3 = laid w2 (w.heap.size + 1) D.q n (.slice ro k rc) := ⟨_, rfl⟩
  have H3 : Hid (CB (w.heap.size + 1) D.q n (.slice ro k rc) w3 ∧ LLs w.heap.size (.slice ro k rc) (rl k n1 R) w3 ∧ Below w.heap.size w w3) := by
    have := H1.out.2.2.2.2.2
    rw [hw3]; exact ⟨laid_cb H2.out.2.2.2.2.1 _ _ _, (H2.out.1.laid H2.out.2.2.2.2.2 _ _ _).mono (by omega), laid_below H2.out.2.2.1 (by omega) _ _ _⟩
  unfold laid at hw3
  rw [← hw3]
  clear hw3 c0 c1 c2 f0 f1 f2 a0 a1 a2
  obtain ⟨c0, c1, c2⟩ := H3.out.1
  refine bodyPost_ret (v := .agg #[.int .i64 D.q, .int .i64 (n : Nat), .slice ro k rc]) (by simp [results, Try.results22, go_sem, c0, c1, c2]) rfl ?_
  exact ⟨_, R, _, _, rfl, H3.out.2.1, H2.out.2.1, H3.out.2.2⟩
/-- What DualOf reads. -/
def duF (b c : Nat) (D : FD) (n : Nat) (v : Value) (gm cm : Nat) (wx : World) : Prop := CB b D.q n v wx ∧ Box c D D.gen (.slice (some ⟨gm, 0, none⟩) (D.m + 1) cm) wx
set_option maxHeartbeats 4000000 in
set_option maxRecDepth 100000 in
theorem dualOf_any {D : FD} (hD : D ∈ fieldsL) {ao : Option Addr} {m n n1 ca : Nat} {M : Nat → Nat → Nat} {w : World} (hm : m ≤ 1000) (hn : n ≤ 64) (hnn : n = n1 + 1) (hel : ∀ i, i < m → El D (M i) ∧ Bd (n1 + 1) (M i)) (hA : MatR ao m n1 M w) :
    Calls Try.prog 23 #[.agg #[.int .i64 D.q, .int .i64 (n : Nat), .slice ao m ca]] w fun e w' => ∃ k R ro rc, e = .returned (.agg #[.int .i64 D.q, .int .i64 (n : Nat), .slice ro k rc]) ∧ LLs w.heap.size (.slice ro k rc) (rl k n1 R) w' ∧ Dul D n m M k R ∧ Below w.heap.size w w' := by
  obtain ⟨w0, hw0⟩ : ∃ w0, w0 = (w.alloc (.cells #[.int .i64 D.q, .int .i64 (n : Nat), .slice ao m ca] 43)).alloc (.cells #[.int .i64 0, .int .i64 0, .slice none 0 0] 43) := ⟨_, rfl⟩
  have HW : Hid (Below w.heap.size w w0 ∧ CB w.heap.size D.q n (.slice ao m ca) w0 ∧ RB (w.heap.size + 1) w0 ∧ RBt (w.heap.size + 1) w0 ∧ w0.heap.size = w.heap.size + 2) := by
    obtain ⟨h1, h2, _, h4⟩ := two_boxes D.q n 0 0 (.slice ao m ca) (.slice none 0 0) w
    have hs1 : (w.alloc (.cells #[.int .i64 D.q, .int .i64 (n : Nat), .slice ao m ca] 43)).heap.size = w.heap.size + 1 := by simp
    have h5 := RB.new (.int .i64 0) (.int .i64 0) (.slice none 0 0) (w.alloc (.cells #[.int .i64 D.q, .int .i64 (n : Nat), .slice ao m ca] 43))
    have h6 := RBt.new #[.int .i64 0, .int .i64 0, .slice none 0 0] (w.alloc (.cells #[.int .i64 D.q, .int .i64 (n : Nat), .slice ao m ca] 43))
    rw [hs1] at h5 h6
    rw [hw0]; exact ⟨h1, h2, h5, h6, h4⟩
  have HA : Hid (D ∈ fieldsL ∧ (∀ i, i < m → El D (M i) ∧ Bd (n1 + 1) (M i)) ∧ MatR ao m n1 M w ∧ n = n1 + 1) := ⟨hD, hel, hA, hnn⟩
  have hn1 : n1 ≤ 900 := by omega
  clear hD hel hA hnn
  go_enter Try.func23, Try.ntmps23
  go_wp2_with fail
  rw [← hw0]
  clear hw0
  refine (rfield_sl HA.out.1 w0).mono ?_
  rintro e w1 ⟨gm, cm, rfl, hmod, hb1⟩
  unfold rf
  obtain ⟨wb, hwb⟩ : ∃ wb, wb = w1.alloc (.cells #[.int .i64 D.q, .int .i64 D.p, .int .i64 D.m, .int .i64 D.gen, .slice (some ⟨gm, 0, none⟩) (D.m + 1) cm] 28) := ⟨_, rfl⟩
  have hbb : Below w1.heap.size w1 wb := by rw [hwb]; exact (Below.refl _ _).alloc (Nat.le_refl _) _
  have H1 : Hid (Below w.heap.size w wb ∧ CB w.heap.size D.q n (.slice ao m ca) wb ∧ RB (w.heap.size + 1) wb ∧ RBt (w.heap.size + 1) wb ∧ ModAt D (.slice (some ⟨gm, 0, none⟩) (D.m + 1) cm) D.md wb ∧ w.heap.size + 2 ≤ wb.heap.size ∧ Box w1.heap.size D D.gen (.slice (some ⟨gm, 0, none⟩) (D.m + 1) cm) wb) := by
    have hb2 := bel_up' hb1 hbb
    exact ⟨bel_up' HW.out.1 hb2, HW.out.2.1.keep hb2, HW.out.2.2.1.keep hb2, HW.out.2.2.2.1.keep hb2, hmod.below hbb, by have := hb2.size; have := HW.out.2.2.2.2; omega, by rw [hwb]; exact box_new D D.gen _ w1⟩
  have hcb1 := HW.out.2.1.keep hb1
  obtain ⟨a0, a1, a2⟩ := hcb1
  have hlt := cell_lt a0
  have hlt : w.heap.size < w1.heap.size := hlt
  clear hmod hb1 hbb a0 a1 a2
  have HK5 : Hid (∀ wx, Below wb.heap.size wb wx → duF w.heap.size w1.heap.size D n (.slice ao m ca) gm cm wx) := fun wx hx => ⟨H1.out.2.1.keep hx, H1.out.2.2.2.2.2.2.below (B := wb.heap.size) hx (by rw [hwb]; simp)⟩
  go_wp2
  rw [← hwb]
  clear hwb
  have hS5 := HK5.out _ (Below.refl wb.heap.size wb).drew
  refine wp_region_noPanic ?_
  refine wp_region_X (S := duF w.heap.size w1.heap.size D n (.slice ao m ca) gm cm) 11 (by kernel_rfl) ?_
  refine wpAnyX_take (i := 0) (v := ?_) (by rw [List.getElem?_toArray]; rfl) (by kernel_rfl) (by kernel_rfl) (by kernel_rfl) (by kernel_rfl) (fun _ _ _ h => h) hS5 (Or.inl ⟨by rfl, ?_⟩) ?_
  rotate_left
  · intro wz hSz; obtain ⟨⟨z0, z1, z2⟩, ⟨y0, y1, y2, y3, y4⟩⟩ := hSz; go_simp; first | done | with_reducible rfl
  try simp only [Act.put, List.setIfInBounds_toArray, List.set_cons_zero, List.set_cons_succ]
  refine wpAnyX_take (i := 1) (v := ?_) (by rw [List.getElem?_toArray]; rfl) (by kernel_rfl) (by kernel_rfl) (by kernel_rfl) (by kernel_rfl) (fun _ _ _ h => h) hS5 (Or.inl ⟨by rfl, ?_⟩) ?_
  rotate_left
  · intro wz hSz; obtain ⟨⟨z0, z1, z2⟩, ⟨y0, y1, y2, y3, y4⟩⟩ := hSz; go_simp; first | done | with_reducible rfl
  try simp only [Act.put, List.setIfInBounds_toArray, List.set_cons_zero, List.set_cons_succ]
  refine wpAnyX_take (i := 2) (v := ?_) (by rw [List.getElem?_toArray]; rfl) (by kernel_rfl) (by kernel_rfl) (by kernel_rfl) (by kernel_rfl) (fun _ _ _ h => h) hS5 (Or.inl ⟨by rfl, ?_⟩) ?_
  rotate_left
  · intro wz hSz; obtain ⟨⟨z0, z1, z2⟩, ⟨y0, y1, y2, y3, y4⟩⟩ := hSz; go_simp; first | done | with_reducible rfl
  try simp only [Act.put, List.setIfInBounds_toArray, List.set_cons_zero, List.set_cons_succ]
  refine wpAnyX_take (i := 3) (v := ?_) (by rw [List.getElem?_toArray]; rfl) (by kernel_rfl) (by kernel_rfl) (by kernel_rfl) (by kernel_rfl) (fun _ _ _ h => h) hS5 (Or.inl ⟨by rfl, ?_⟩) ?_
  rotate_left
  · intro wz hSz; obtain ⟨⟨z0, z1, z2⟩, ⟨y0, y1, y2, y3, y4⟩⟩ := hSz; go_simp; first | done | with_reducible rfl
  try simp only [Act.put, List.setIfInBounds_toArray, List.set_cons_zero, List.set_cons_succ]
  refine wpAnyX_take (i := 4) (v := ?_) (by rw [List.getElem?_toArray]; rfl) (by kernel_rfl) (by kernel_rfl) (by kernel_rfl) (by kernel_rfl) (fun _ _ _ h => h) hS5 (Or.inl ⟨by rfl, ?_⟩) ?_
  rotate_left
  · intro wz hSz; obtain ⟨⟨z0, z1, z2⟩, ⟨y0, y1, y2, y3, y4⟩⟩ := hSz; go_simp; first | done | with_reducible rfl
  try simp only [Act.put, List.setIfInBounds_toArray, List.set_cons_zero, List.set_cons_succ]
  refine wpAnyX_take (i := 5) (v := ?_) (by rw [List.getElem?_toArray]; rfl) (by kernel_rfl) (by kernel_rfl) (by kernel_rfl) (by kernel_rfl) (fun _ _ _ h => h) hS5 (Or.inl ⟨by rfl, ?_⟩) ?_
  rotate_left
  · intro wz hSz; obtain ⟨⟨z0, z1, z2⟩, ⟨y0, y1, y2, y3, y4⟩⟩ := hSz; go_simp; first | done | with_reducible rfl
  try simp only [Act.put, List.setIfInBounds_toArray, List.set_cons_zero, List.set_cons_succ]
  refine wpAnyX_take (i := 6) (v := ?_) (by rw [List.getElem?_toArray]; rfl) (by kernel_rfl) (by kernel_rfl) (by kernel_rfl) (by kernel_rfl) (fun _ _ _ h => h) hS5 (Or.inl ⟨by rfl, ?_⟩) ?_
  rotate_left
  · intro wz hSz; obtain ⟨⟨z0, z1, z2⟩, ⟨y0, y1, y2, y3, y4⟩⟩ := hSz; go_simp; first | done | with_reducible rfl
  try simp only [Act.put, List.setIfInBounds_toArray, List.set_cons_zero, List.set_cons_succ]
  refine wpAnyX_take (i := 7) (v := ?_) (by rw [List.getElem?_toArray]; rfl) (by kernel_rfl) (by kernel_rfl) (by kernel_rfl) (by kernel_rfl) (fun _ _ _ h => h) hS5 (Or.inl ⟨by rfl, ?_⟩) ?_
  rotate_left
  · intro wz hSz; obtain ⟨⟨z0, z1, z2⟩, ⟨y0, y1, y2, y3, y4⟩⟩ := hSz; go_simp; first | done | with_reducible rfl
  try simp only [Act.put, List.setIfInBounds_toArray, List.set_cons_zero, List.set_cons_succ]
  refine wpAnyX_take (i := 8) (v := ?_) (by rw [List.getElem?_toArray]; rfl) (by kernel_rfl) (by kernel_rfl) (by kernel_rfl) (by kernel_rfl) (fun _ _ _ h => h) hS5 (Or.inl ⟨by rfl, ?_⟩) ?_
  rotate_left
  · intro wz hSz; obtain ⟨⟨z0, z1, z2⟩, ⟨y0, y1, y2, y3, y4⟩⟩ := hSz; go_simp; first | done | with_reducible rfl
  try simp only [Act.put, List.setIfInBounds_toArray, List.set_cons_zero, List.set_cons_succ]
  have hd1 := (Below.refl wb.heap.size wb).drew
  refine wpAnyX_one (i := 9) (by kernel_rfl) (by rw [List.getElem?_toArray]; rfl) (fun K hK => ?_)
  have HK : Hid _ := hK
  clear hK
  go_simp
  refine (rnull_any HA.out.1 D.gen gm cm HA.out.2.2.2 hm hn1 HA.out.2.1 (HA.out.2.2.1.below (bel_up' H1.out.1 hd1)) (H1.out.2.2.2.2.1.below hd1)).mono ?_
  rintro e w2 ⟨v2, k0, R0, p0, R, p2, rfl, _, hre, hsp, hvr, hre2, hsp2, hb2⟩
  obtain ⟨k, hk⟩ : ∃ k, k = nct k0 p0 n := ⟨_, rfl⟩
  rw [← hk] at hvr
  obtain ⟨ro, rc, hv⟩ := hvr.slc
  rw [rl_len] at hv
  subst hv
  have H2 : Hid (LLs wb.heap.size (.slice ro k rc) (rl k n1 R) w2 ∧ Dul D n m M k R ∧ Below w.heap.size w w2 ∧ RB (w.heap.size + 1) w2 ∧ RBt (w.heap.size + 1) w2 ∧ Below wb.heap.size wb w2) := by
    have hbb := bel_up' hd1 hb2
    refine ⟨hvr, ⟨k0, R0, p0, p2, hre, hsp, ?_, ?_, hk⟩, bel_up' H1.out.1 hbb, H1.out.2.2.1.keep hbb, H1.out.2.2.2.1.keep hbb, hbb⟩
    · rw [hk]; exact hre2
    · rw [hk]; exact hsp2
  clear hvr hre hsp hre2 hsp2 hb2 hd1 hk
  refine HK.out _ _ (fun _ => HK5.out _ H2.out.2.2.2.2.2) ?_
  clear HK K
  try simp only [Act.put, List.setIfInBounds_toArray, List.set_cons_zero, List.set_cons_succ]
  refine wpAnyX_one (i := 10) (by kernel_rfl) (by rw [List.getElem?_toArray]; rfl) (fun K hK => ?_)
  have HK : Hid _ := hK
  clear hK
  go_simp
  refine HK.out _ _ (fun _ => HK5.out _ H2.out.2.2.2.2.2) ?_
  clear HK K
  try simp only [Act.put, List.setIfInBounds_toArray, List.set_cons_zero, List.set_cons_succ]
  obtain ⟨⟨x0, c0⟩, ⟨x1, c1⟩, ⟨x2, c2⟩, f0, f1, f2⟩ := H2.out.2.2.2.1
  refine wpAnyX_one (i := 11) (by kernel_rfl) (by rw [List.getElem?_toArray]; rfl) (fun K hK => ?_)
  have HK : Hid _ := hK
  clear hK
  go_simp
  refine HK.out _ _ (fun h => absurd rfl h) ?_
  clear HK K
  try simp only [Act.put, List.setIfInBounds_toArray, List.set_cons_zero, List.set_cons_succ]
  refine wpAnyX_done (by kernel_rfl) (NoPanic.normal ?_)
  go_wp2
  obtain ⟨w3, hw3⟩ : ∃ w3, w3 = laid w2 (w.heap.size + 1) D.q n (.slice ro k rc) := ⟨_, rfl⟩
  have H3 : Hid (CB (w.heap.size + 1) D.q n (.slice ro k rc) w3 ∧ LLs w.heap.size (.slice ro k rc) (rl k n1 R) w3 ∧ Below w.heap.size w w3) := by
    have := H1.out.2.2.2.2.2.1
    rw [hw3]; exact ⟨laid_cb H2.out.2.2.2.1 _ _ _, (H2.out.1.laid H2.out.2.2.2.2.1 _ _ _).mono (by omega), laid_below H2.out.2.2.1 (by omega) _ _ _⟩
  unfold laid at hw3
  rw [← hw3]
  clear hw3 c0 c1 c2 f0 f1 f2
  obtain ⟨c0, c1, c2⟩ := H3.out.1
  refine bodyPost_ret (v := .agg #[.int .i64 D.q, .int .i64 (n : Nat), .slice ro k rc]) (by simp [results, Try.results23, go_sem, c0, c1, c2]) rfl ?_
  exact ⟨_, R, _, _, rfl, H3.out.2.1, H2.out.2.1, H3.out.2.2⟩
end Go.Proofs.Ytbpeahhhkcljeaa
