/- Texts of ours, one behind the other: I34 I35. -/
import Derived.Test.YtbpeahhhkcljeaaZS17
/- A code without a place (the program's puncture). -/
namespace Go.Proofs.Ytbpeahhhkcljeaa
open Go.RowKit Go.Sort

set_option maxHeartbeats 16000000 in
set_option maxRecDepth 100000 in
theorem cpunct_any {D : FD} (hD : D ∈ fieldsL) {ao : Option Addr} {m n n2 ca a : Nat} {A : Nat → Option Addr} {N C : Nat → Nat} {Z : Nat → Nat → Int} {w : World} (h : CdZ D ao m n A N C Z w) (hnn : n = n2 + 2) (ha : a < n) :
    Calls Try.prog 104 #[.agg #[.int .i64 D.q, .int .i64 (n : Nat), .slice ao m ca], .int .i64 (a : Nat)] w fun e w' => ∃ k R ro rc, e = .returned (.agg #[.int .i64 D.q, .int .i64 (n2 + 1 : Nat), .slice ro k rc]) ∧ MV w.heap.size (.slice ro k rc) k (n2 + 1) R w' ∧ Red D (n2 + 1) m (fun i => wo a (mzc N Z i)) k R ∧ Below w.heap.size w w' := by
  obtain ⟨w0, hw0⟩ : ∃ w0, w0 = (w.alloc (.cells #[.int .i64 D.q, .int .i64 (n : Nat), .slice ao m ca] 43)).alloc (.cells #[.int .i64 0, .int .i64 0, .slice none 0 0] 43) := ⟨_, rfl⟩
  have HW : Hid (Below w.heap.size w w0 ∧ CB w.heap.size D.q n (.slice ao m ca) w0 ∧ RB (w.heap.size + 1) w0 ∧ w0.heap.size = w.heap.size + 2) := by
    obtain ⟨h1, h2, h3, h4⟩ := two_boxes D.q n 0 0 (.slice ao m ca) (.slice none 0 0) w
    have h6 := RBt.new #[.int .i64 0, .int .i64 0, .slice none 0 0] (w.alloc (.cells #[.int .i64 D.q, .int .i64 (n : Nat), .slice ao m ca] 43))
    rw [show (w.alloc (.cells #[.int .i64 D.q, .int .i64 (n : Nat), .slice ao m ca] 43)).heap.size = w.heap.size + 1 by simp] at h6
    rw [hw0]; exact ⟨h1, h2, RB.of h3 h6, h4⟩
  have hm := (h.rows (fld hD)).1
  have hn := h.n64
  have HA : Hid (D ∈ fieldsL ∧ CdZ D ao m n A N C Z w ∧ n = n2 + 2 ∧ a < n) := ⟨hD, h, hnn, ha⟩
  obtain ⟨N1, hN1⟩ : ∃ N1, N1 = n2 + 1 := ⟨_, rfl⟩
  rw [← hN1]
  have HSub : Hid (((n : Nat) : Int) - 1 = ((N1 : Nat) : Int) ∧ N1 = n2 + 1) := ⟨by omega, hN1⟩
  have hN1b : N1 + 1 = n := by omega
  have hsize : w0.heap.size = w.heap.size + 2 := HW.out.2.2.2
  clear hD h hnn hN1
  go_enter Try.func104, Try.ntmps104
  have hcb0 := HW.out.2.1
  rw [hw0] at hcb0
  obtain ⟨p0, p1, p2⟩ := hcb0
  go_wp2_with (at_make; refine make_sls rfl _ _ rfl _ m rfl rfl rfl (by omega) ?_; intro w3 hrow3 hgrow3; rw [← hw0] at hrow3 hgrow3; have hb3 : Below w0.heap.size w0 w3 := below_grown hgrow3 (Nat.le_refl _) (fun k hk => by simp at hk); have hcb3 := HW.out.2.1.keep hb3; obtain ⟨c0', c1', c2'⟩ := hcb3)
  have H3 : Hid (RS D (w.heap.size + 1 + 1) m N1 0 (fun _ => pnil) (fun _ => none) (fun _ => 0) w3 ∧ Below w0.heap.size w0 w3) := ⟨⟨⟨_, by rw [hsize] at hrow3; exact hrow3, fun a ha => absurd ha (by omega)⟩, fun a ha => absurd ha (by omega), fun a ha => absurd ha (by omega), fun a ha => absurd ha (by omega), fun a ha => absurd ha (by omega), fun a ha => absurd ha (by omega), fun a ha => absurd ha (by omega), fun a ha => absurd ha (by omega)⟩, hb3⟩
  obtain ⟨G, hG⟩ : ∃ G, G = w.heap.size + 1 + 1 := ⟨_, rfl⟩
  have hG0 : w0.heap.size ≤ G := by omega
  rw [← hG] at H3 ⊢
  clear hrow3 hgrow3 hb3 c0' c1' c2' p0 p1 p2 hw0 hG
  go_loopw [15] (fun vi wr => ∃ (i : Nat) (X : Nat → Option Addr) (Cc : Nat → Nat), i ≤ m ∧ vi = .int .i64 i ∧ Hid (RS D G m N1 i (fun i => wo a (mzc N Z i)) X Cc wr ∧ Below w0.heap.size w0 wr)) (fun vi _ => m - (intOf vi).toNat)
  case atStart => exact ⟨0, fun _ => none, fun _ => 0, by omega, rfl, ⟨H3.out.1.outer, fun a ha => absurd ha (by omega), fun a ha => absurd ha (by omega), fun a ha => absurd ha (by omega), fun a ha => absurd ha (by omega), fun a ha => absurd ha (by omega), fun a ha => absurd ha (by omega), fun a ha => absurd ha (by omega)⟩, H3.out.2⟩
  case round =>
    clear H3
    obtain ⟨i, X, Cc, hi, rfl, HG⟩ := hrel
    rename World => wA
    by_cases hlt : i < m
    · have hib : (i : Int) < (m : Int) := by omega
      have hib0 : (0 : Int) ≤ (i : Int) := by omega
      have hbA : Below w.heap.size w wA := bel_up' HW.out.1 HG.out.2
      obtain ⟨bb, ob, cx, hbo, hcr, hsl, hltB, hnil, hle, hcap⟩ := (HA.out.2.1.below hbA).row (fld HA.out.1) i hlt
      subst hbo
      obtain ⟨X0, hX0⟩ : ∃ X0, X0 = A i := ⟨_, rfl⟩
      rw [← hX0] at hcr hsl hltB hnil
      obtain ⟨bx, ox, hx, _⟩ := hsl 0 (by omega)
      subst hx
      have h0 : (0 : Int) ≤ (a : Int) := by omega
      have h1 : (a : Int) ≤ (cx : Int) := by omega
      have h2 : (0 : Int) ≤ (a : Int) + 1 := by omega
      have h3 : (a : Int) + 1 ≤ (n : Int) := by omega
      have h4 : (n : Int) ≤ (cx : Int) := by omega
      have hwr : IntKind.i64.wrap ((a : Int) + 1) = (a : Int) + 1 := by rw [IntKind.wrap_i64]; omega
      have htn : ((a : Int) + 1).toNat = a + 1 := by omega
      have HX : Hid (Sl (some ⟨bx, ox, none⟩) n (mzc N Z i) wA ∧ LtB (some ⟨bx, ox, none⟩) wA.heap.size ∧ Below w.heap.size w wA) := ⟨hsl, hltB, hbA⟩
      clear hX0 hsl hltB hnil hbA
      by_cases hca : cx = a + 1
      · have HNA : Hid (n = a + 1) := by show n = a + 1; omega
        subst hca
        have h1' : (a : Int) ≤ (a : Int) + 1 := by omega
        have h4' : (n : Int) ≤ (a : Int) + 1 := by omega
        go_wp2
        refine wp_region_noPanic ?_
        refine wp_region_X (S := fun _ => True) 12 (by kernel_rfl) ?_
        refine wpAnyX_take (i := 0) (v := ?_) (by rw [List.getElem?_toArray]; rfl) (by kernel_rfl) (by kernel_rfl) (by kernel_rfl) (by kernel_rfl) (fun _ _ _ h => h) True.intro (Or.inl ⟨by rfl, ?_⟩) ?_
        rotate_left
        · intro wz hSz; go_simp; first | done | with_reducible rfl | (simp only [hwr, htn, h2, h3, Nat.sub_self, if_true, if_false, and_self]; first | done | with_reducible rfl)
        try simp only [Act.put, List.setIfInBounds_toArray, List.set_cons_zero, List.set_cons_succ]
        refine wpAnyX_take (i := 1) (v := ?_) (by rw [List.getElem?_toArray]; rfl) (by kernel_rfl) (by kernel_rfl) (by kernel_rfl) (by kernel_rfl) (fun _ _ _ h => h) True.intro (Or.inl ⟨by rfl, ?_⟩) ?_
        rotate_left
        · intro wz hSz; go_simp; first | done | with_reducible rfl | (simp only [hwr, htn, h2, h3, Nat.sub_self, if_true, if_false, and_self]; first | done | with_reducible rfl)
        try simp only [Act.put, List.setIfInBounds_toArray, List.set_cons_zero, List.set_cons_succ]
        refine wpAnyX_take (i := 2) (v := ?_) (by rw [List.getElem?_toArray]; rfl) (by kernel_rfl) (by kernel_rfl) (by kernel_rfl) (by kernel_rfl) (fun _ _ _ h => h) True.intro (Or.inl ⟨by rfl, ?_⟩) ?_
        rotate_left
        · intro wz hSz; go_simp; first | done | with_reducible rfl | (simp only [hwr, htn, h2, h3, Nat.sub_self, if_true, if_false, and_self]; first | done | with_reducible rfl)
        try simp only [Act.put, List.setIfInBounds_toArray, List.set_cons_zero, List.set_cons_succ]
        refine wpAnyX_take (i := 3) (v := ?_) (by rw [List.getElem?_toArray]; rfl) (by kernel_rfl) (by kernel_rfl) (by kernel_rfl) (by kernel_rfl) (fun _ _ _ h => h) True.intro (Or.inl ⟨by rfl, ?_⟩) ?_
        rotate_left
        · intro wz hSz; go_simp; first | done | with_reducible rfl | (simp only [hwr, htn, h2, h3, Nat.sub_self, if_true, if_false, and_self]; first | done | with_reducible rfl)
        try simp only [Act.put, List.setIfInBounds_toArray, List.set_cons_zero, List.set_cons_succ]
        refine wpAnyX_take (i := 4) (v := ?_) (by rw [List.getElem?_toArray]; rfl) (by kernel_rfl) (by kernel_rfl) (by kernel_rfl) (by kernel_rfl) (fun _ _ _ h => h) True.intro (Or.inl ⟨by rfl, ?_⟩) ?_
        rotate_left
        · intro wz hSz; go_simp; first | done | with_reducible rfl | (simp only [hwr, htn, h2, h3, Nat.sub_self, if_true, if_false, and_self]; first | done | with_reducible rfl)
        try simp only [Act.put, List.setIfInBounds_toArray, List.set_cons_zero, List.set_cons_succ]
        refine wpAnyX_take (i := 5) (v := ?_) (by rw [List.getElem?_toArray]; rfl) (by kernel_rfl) (by kernel_rfl) (by kernel_rfl) (by kernel_rfl) (fun _ _ _ h => h) True.intro (Or.inl ⟨by rfl, ?_⟩) ?_
        rotate_left
        · intro wz hSz; go_simp; first | done | with_reducible rfl | (simp only [hwr, htn, h2, h3, Nat.sub_self, if_true, if_false, and_self]; first | done | with_reducible rfl)
        try simp only [Act.put, List.setIfInBounds_toArray, List.set_cons_zero, List.set_cons_succ]
        refine wpAnyX_take (i := 6) (v := ?_) (by rw [List.getElem?_toArray]; rfl) (by kernel_rfl) (by kernel_rfl) (by kernel_rfl) (by kernel_rfl) (fun _ _ _ h => h) True.intro (Or.inl ⟨by rfl, ?_⟩) ?_
        rotate_left
        · intro wz hSz; go_simp; first | done | with_reducible rfl | (simp only [hwr, htn, h2, h3, Nat.sub_self, if_true, if_false, and_self]; first | done | with_reducible rfl)
        try simp only [Act.put, List.setIfInBounds_toArray, List.set_cons_zero, List.set_cons_succ]
        refine wpAnyX_take (i := 7) (v := ?_) (by rw [List.getElem?_toArray]; rfl) (by kernel_rfl) (by kernel_rfl) (by kernel_rfl) (by kernel_rfl) (fun _ _ _ h => h) True.intro (Or.inl ⟨by rfl, ?_⟩) ?_
        rotate_left
        · intro wz hSz; go_simp; first | done | with_reducible rfl | (simp only [hwr, htn, h2, h3, Nat.sub_self, if_true, if_false, and_self]; first | done | with_reducible rfl)
        try simp only [Act.put, List.setIfInBounds_toArray, List.set_cons_zero, List.set_cons_succ]
        refine wpAnyX_take (i := 8) (v := ?_) (by rw [List.getElem?_toArray]; rfl) (by kernel_rfl) (by kernel_rfl) (by kernel_rfl) (by kernel_rfl) (fun _ _ _ h => h) True.intro (Or.inl ⟨by rfl, ?_⟩) ?_
        rotate_left
        · intro wz hSz; go_simp; first | done | with_reducible rfl | (simp only [hwr, htn, h2, h3, Nat.sub_self, if_true, if_false, and_self]; first | done | with_reducible rfl)
        try simp only [Act.put, List.setIfInBounds_toArray, List.set_cons_zero, List.set_cons_succ]
        refine wpAnyX_one (i := 9) (by kernel_rfl) (by rw [List.getElem?_toArray]; rfl) (fun K hK => ?_)
        have HK : Hid _ := hK
        clear hK
        go_simp
        obtain ⟨we, hwe⟩ : ∃ we, we = (wA.alloc (.cells #[.slice (some ⟨bx, ox, none⟩) a (a + 1), .slice (some ⟨bx, ox, none⟩) 0 0] 23)).drew := ⟨_, rfl⟩
        have HE : Hid (Below wA.heap.size wA we ∧ TwoL wA.heap.size a (n - (a + 1)) (fun j => ((mzc N Z i j : Nat) : Int)) (fun j => ((mzc N Z i (a + 1 + j) : Nat) : Int)) we) := by
          have hb : Below wA.heap.size wA we := by rw [hwe]; exact ((Below.refl _ _).alloc (Nat.le_refl _) _).drew
          refine ⟨hb, ⟨fun r hr => ?_⟩⟩
          have hlx := HX.out.2.1
          have hS := HX.out.1.below hb hlx
          have hly : bx < we.heap.size := Nat.lt_of_lt_of_le (hlx _ rfl) hb.size
          rcases Nat.lt_or_ge r 1 with h | h
          · have e : r = 0 := by omega
            subst e
            exact ⟨_, a, a + 1, fun j => ((mzc N Z i j : Nat) : Int), by rw [hwe]; simp, fun j hj => hS j (by omega), (fun y hy => by cases hy; exact hly), (fun e => by cases e), by show 0 + a = a; omega, List.nil_append _⟩
          · have e : r = 1 := by omega
            subst e
            refine ⟨(some ⟨bx, ox, none⟩), 0, 0, fun j => ((mzc N Z i (a + 1 + j) : Nat) : Int), by rw [hwe]; simp, ?_, (fun y hy => by cases hy; exact hly), (fun e => by cases e), by have := HNA.out; show a + 0 = a + (n - (a + 1)); omega, by show zl a _ ++ zl 0 _ = zl a _ ++ zl (n - (a + 1)) _; rw [show n - (a + 1) = 0 by have := HNA.out; omega]⟩
            exact fun j hj => absurd hj (by omega)
        rw [← hwe]
        refine HK.out _ _ (fun _ => True.intro) ?_
        clear HK K hwe
        try simp only [Act.put, List.setIfInBounds_toArray, List.set_cons_zero, List.set_cons_succ]
        refine wpAnyX_one (i := 10) (by kernel_rfl) (by rw [List.getElem?_toArray]; rfl) (fun K hK => ?_)
        have HK : Hid _ := hK
        clear hK
        go_simp
        refine (concat2 HE.out.2 (by omega)).mono ?_
        rintro e w5 ⟨v5, rfl, ho5, hb5⟩
        rw [zl_wo a n _ ha, show n - 1 = n2 + 1 by have := HSub.out.2; omega] at ho5
        obtain ⟨g5, c5, hv5, hc51, hc52, hrow5⟩ := own_elm ho5
        have hg5 := (ho5.lt g5 (by rw [hv5]; rfl)).1
        have hv5' : v5 = .slice (some ⟨g5, 0, none⟩) N1 c5 := by rw [hv5, HSub.out.2]
        have hbA5 : Below wA.heap.size wA w5 := bel_up' HE.out.1 hb5
        have hltG := HG.out.1.ltG
        have hszE := HE.out.1.size
        have H5 : Hid (RS D G m N1 i (fun i => wo a (mzc N Z i)) X Cc w5 ∧ Below w0.heap.size w0 w5 ∧ Row g5 N1 (wo a (mzc N Z i)) w5 ∧ g5 ≠ G ∧ N1 ≤ c5 ∧ c5 ≤ 9223372036854775807) := ⟨HG.out.1.below hbA5, bel_up' HG.out.2 hbA5, by rw [HSub.out.2]; exact hrow5, by omega, by rw [HSub.out.2]; exact hc51, hc52⟩
        subst hv5'
        clear hv5 hc51 hc52 hrow5 hg5 ho5 hb5 hbA5 hszE
        refine HK.out _ _ (fun _ => True.intro) ?_
        clear HK K
        try simp only [Act.put, List.setIfInBounds_toArray, List.set_cons_zero, List.set_cons_succ]
        refine wpAnyX_one (i := 11) (by kernel_rfl) (by rw [List.getElem?_toArray]; rfl) (fun K hK => ?_)
        have HK : Hid _ := hK
        clear hK
        go_simp
        refine HK.out _ _ (fun _ => True.intro) ?_
        clear HK K
        try simp only [Act.put, List.setIfInBounds_toArray, List.set_cons_zero, List.set_cons_succ]
        obtain ⟨⟨u5, hcG⟩, hfG⟩ := H5.out.1.free i hlt
        refine wpAnyX_one (i := 12) (by kernel_rfl) (by rw [List.getElem?_toArray]; rfl) (fun K hK => ?_)
        have HK : Hid _ := hK
        clear hK
        go_simp
        refine HK.out _ _ (fun h => absurd rfl h) ?_
        clear HK K
        try simp only [Act.put, List.setIfInBounds_toArray, List.set_cons_zero, List.set_cons_succ]
        refine wpAnyX_done (by kernel_rfl) (NoPanic.normal ?_)
        have H6 : Hid (RS D G m N1 (i + 1) (fun i => wo a (mzc N Z i)) (fun b => if b = i then some ⟨g5, 0, none⟩ else X b) (fun b => if b = i then c5 else Cc b) (w5.setCell ⟨G, i, none⟩ (.slice (some ⟨g5, 0, none⟩) N1 c5)) ∧ Below w0.heap.size w0 (w5.setCell ⟨G, i, none⟩ (.slice (some ⟨g5, 0, none⟩) N1 c5))) := by
          have hp := H5.out.1.put (i' := i + 1) (a0 := i) (fun b h1 h2 => by omega) (H5.out.2.2.1.sl (Nat.le_refl _)) (fun y hy => by cases hy; exact H5.out.2.2.1.lt) (fun e => by cases e) H5.out.2.2.2.2.1 H5.out.2.2.2.2.2 (fun y hy => by cases hy; exact H5.out.2.2.2.1) (wo_el (a := a) ((HA.out.2.1.rows (fld HA.out.1)).2.1 i hlt))
          rw [show (fun b => if b = i then wo a (mzc N Z i) else wo a (mzc N Z b)) = fun i => wo a (mzc N Z i) by funext b; by_cases e : b = i; rw [if_pos e, e]; rw [if_neg e]] at hp
          exact ⟨hp, H5.out.2.1.setCell (show w0.heap.size ≤ G from hG0) _⟩
        clear hcG hfG
        go_wp2
        go_roundw
        case rel => exact ⟨i + 1, _, _, by omega, by go_num, H6.out⟩
        case measure => simp [intOf]; omega
      · skip
        go_wp2
        refine wp_region_noPanic ?_
        refine wp_region_X (S := fun _ => True) 12 (by kernel_rfl) ?_
        refine wpAnyX_take (i := 0) (v := ?_) (by rw [List.getElem?_toArray]; rfl) (by kernel_rfl) (by kernel_rfl) (by kernel_rfl) (by kernel_rfl) (fun _ _ _ h => h) True.intro (Or.inl ⟨by rfl, ?_⟩) ?_
        rotate_left
        · intro wz hSz; go_simp; first | done | with_reducible rfl | (simp only [hwr, htn, h2, h3, hca, if_true, if_false, and_self]; first | done | with_reducible rfl)
        try simp only [Act.put, List.setIfInBounds_toArray, List.set_cons_zero, List.set_cons_succ]
        refine wpAnyX_take (i := 1) (v := ?_) (by rw [List.getElem?_toArray]; rfl) (by kernel_rfl) (by kernel_rfl) (by kernel_rfl) (by kernel_rfl) (fun _ _ _ h => h) True.intro (Or.inl ⟨by rfl, ?_⟩) ?_
        rotate_left
        · intro wz hSz; go_simp; first | done | with_reducible rfl | (simp only [hwr, htn, h2, h3, hca, if_true, if_false, and_self]; first | done | with_reducible rfl)
        try simp only [Act.put, List.setIfInBounds_toArray, List.set_cons_zero, List.set_cons_succ]
        refine wpAnyX_take (i := 2) (v := ?_) (by rw [List.getElem?_toArray]; rfl) (by kernel_rfl) (by kernel_rfl) (by kernel_rfl) (by kernel_rfl) (fun _ _ _ h => h) True.intro (Or.inl ⟨by rfl, ?_⟩) ?_
        rotate_left
        · intro wz hSz; go_simp; first | done | with_reducible rfl | (simp only [hwr, htn, h2, h3, hca, if_true, if_false, and_self]; first | done | with_reducible rfl)
        try simp only [Act.put, List.setIfInBounds_toArray, List.set_cons_zero, List.set_cons_succ]
        refine wpAnyX_take (i := 3) (v := ?_) (by rw [List.getElem?_toArray]; rfl) (by kernel_rfl) (by kernel_rfl) (by kernel_rfl) (by kernel_rfl) (fun _ _ _ h => h) True.intro (Or.inl ⟨by rfl, ?_⟩) ?_
        rotate_left
        · intro wz hSz; go_simp; first | done | with_reducible rfl | (simp only [hwr, htn, h2, h3, hca, if_true, if_false, and_self]; first | done | with_reducible rfl)
        try simp only [Act.put, List.setIfInBounds_toArray, List.set_cons_zero, List.set_cons_succ]
        refine wpAnyX_take (i := 4) (v := ?_) (by rw [List.getElem?_toArray]; rfl) (by kernel_rfl) (by kernel_rfl) (by kernel_rfl) (by kernel_rfl) (fun _ _ _ h => h) True.intro (Or.inl ⟨by rfl, ?_⟩) ?_
        rotate_left
        · intro wz hSz; go_simp; first | done | with_reducible rfl | (simp only [hwr, htn, h2, h3, hca, if_true, if_false, and_self]; first | done | with_reducible rfl)
        try simp only [Act.put, List.setIfInBounds_toArray, List.set_cons_zero, List.set_cons_succ]
        refine wpAnyX_take (i := 5) (v := ?_) (by rw [List.getElem?_toArray]; rfl) (by kernel_rfl) (by kernel_rfl) (by kernel_rfl) (by kernel_rfl) (fun _ _ _ h => h) True.intro (Or.inl ⟨by rfl, ?_⟩) ?_
        rotate_left
        · intro wz hSz; go_simp; first | done | with_reducible rfl | (simp only [hwr, htn, h2, h3, hca, if_true, if_false, and_self]; first | done | with_reducible rfl)
        try simp only [Act.put, List.setIfInBounds_toArray, List.set_cons_zero, List.set_cons_succ]
        refine wpAnyX_take (i := 6) (v := ?_) (by rw [List.getElem?_toArray]; rfl) (by kernel_rfl) (by kernel_rfl) (by kernel_rfl) (by kernel_rfl) (fun _ _ _ h => h) True.intro (Or.inl ⟨by rfl, ?_⟩) ?_
        rotate_left
        · intro wz hSz; go_simp; first | done | with_reducible rfl | (simp only [hwr, htn, h2, h3, hca, if_true, if_false, and_self]; first | done | with_reducible rfl)
        try simp only [Act.put, List.setIfInBounds_toArray, List.set_cons_zero, List.set_cons_succ]
        refine wpAnyX_take (i := 7) (v := ?_) (by rw [List.getElem?_toArray]; rfl) (by kernel_rfl) (by kernel_rfl) (by kernel_rfl) (by kernel_rfl) (fun _ _ _ h => h) True.intro (Or.inl ⟨by rfl, ?_⟩) ?_
        rotate_left
        · intro wz hSz; go_simp; first | done | with_reducible rfl | (simp only [hwr, htn, h2, h3, hca, if_true, if_false, and_self]; first | done | with_reducible rfl)
        try simp only [Act.put, List.setIfInBounds_toArray, List.set_cons_zero, List.set_cons_succ]
        refine wpAnyX_take (i := 8) (v := ?_) (by rw [List.getElem?_toArray]; rfl) (by kernel_rfl) (by kernel_rfl) (by kernel_rfl) (by kernel_rfl) (fun _ _ _ h => h) True.intro (Or.inl ⟨by rfl, ?_⟩) ?_
        rotate_left
        · intro wz hSz; go_simp; first | done | with_reducible rfl | (simp only [hwr, htn, h2, h3, hca, if_true, if_false, and_self]; first | done | with_reducible rfl)
        try simp only [Act.put, List.setIfInBounds_toArray, List.set_cons_zero, List.set_cons_succ]
        refine wpAnyX_one (i := 9) (by kernel_rfl) (by rw [List.getElem?_toArray]; rfl) (fun K hK => ?_)
        have HK : Hid _ := hK
        clear hK
        go_simp
        obtain ⟨we, hwe⟩ : ∃ we, we = (wA.alloc (.cells #[.slice (some ⟨bx, ox, none⟩) a cx, .slice (some ⟨bx, ox + (a + 1), none⟩) (n - (a + 1)) (cx - (a + 1))] 23)).drew := ⟨_, rfl⟩
        have HE : Hid (Below wA.heap.size wA we ∧ TwoL wA.heap.size a (n - (a + 1)) (fun j => ((mzc N Z i j : Nat) : Int)) (fun j => ((mzc N Z i (a + 1 + j) : Nat) : Int)) we) := by
          have hb : Below wA.heap.size wA we := by rw [hwe]; exact ((Below.refl _ _).alloc (Nat.le_refl _) _).drew
          refine ⟨hb, ⟨fun r hr => ?_⟩⟩
          have hlx := HX.out.2.1
          have hS := HX.out.1.below hb hlx
          have hly : bx < we.heap.size := Nat.lt_of_lt_of_le (hlx _ rfl) hb.size
          rcases Nat.lt_or_ge r 1 with h | h
          · have e : r = 0 := by omega
            subst e
            exact ⟨_, a, cx, fun j => ((mzc N Z i j : Nat) : Int), by rw [hwe]; simp, fun j hj => hS j (by omega), (fun y hy => by cases hy; exact hly), (fun e => by cases e), by show 0 + a = a; omega, List.nil_append _⟩
          · have e : r = 1 := by omega
            subst e
            refine ⟨(some ⟨bx, ox + (a + 1), none⟩), (n - (a + 1)), (cx - (a + 1)), fun j => ((mzc N Z i (a + 1 + j) : Nat) : Int), by rw [hwe]; simp, ?_, (fun y hy => by cases hy; exact hly), (fun e => by cases e), by show a + (n - (a + 1)) = a + (n - (a + 1)); rfl, rfl⟩
            intro j hj
            obtain ⟨b1, o1, e1, hc1⟩ := hS (a + 1 + j) (by omega)
            cases e1
            exact ⟨bx, ox + (a + 1), rfl, by rw [show ox + (a + 1) + j = ox + (a + 1 + j) by omega]; exact hc1⟩
        rw [← hwe]
        refine HK.out _ _ (fun _ => True.intro) ?_
        clear HK K hwe
        try simp only [Act.put, List.setIfInBounds_toArray, List.set_cons_zero, List.set_cons_succ]
        refine wpAnyX_one (i := 10) (by kernel_rfl) (by rw [List.getElem?_toArray]; rfl) (fun K hK => ?_)
        have HK : Hid _ := hK
        clear hK
        go_simp
        refine (concat2 HE.out.2 (by omega)).mono ?_
        rintro e w5 ⟨v5, rfl, ho5, hb5⟩
        rw [zl_wo a n _ ha, show n - 1 = n2 + 1 by have := HSub.out.2; omega] at ho5
        obtain ⟨g5, c5, hv5, hc51, hc52, hrow5⟩ := own_elm ho5
        have hg5 := (ho5.lt g5 (by rw [hv5]; rfl)).1
        have hv5' : v5 = .slice (some ⟨g5, 0, none⟩) N1 c5 := by rw [hv5, HSub.out.2]
        have hbA5 : Below wA.heap.size wA w5 := bel_up' HE.out.1 hb5
        have hltG := HG.out.1.ltG
        have hszE := HE.out.1.size
        have H5 : Hid (RS D G m N1 i (fun i => wo a (mzc N Z i)) X Cc w5 ∧ Below w0.heap.size w0 w5 ∧ Row g5 N1 (wo a (mzc N Z i)) w5 ∧ g5 ≠ G ∧ N1 ≤ c5 ∧ c5 ≤ 9223372036854775807) := ⟨HG.out.1.below hbA5, bel_up' HG.out.2 hbA5, by rw [HSub.out.2]; exact hrow5, by omega, by rw [HSub.out.2]; exact hc51, hc52⟩
        subst hv5'
        clear hv5 hc51 hc52 hrow5 hg5 ho5 hb5 hbA5 hszE
        refine HK.out _ _ (fun _ => True.intro) ?_
        clear HK K
        try simp only [Act.put, List.setIfInBounds_toArray, List.set_cons_zero, List.set_cons_succ]
        refine wpAnyX_one (i := 11) (by kernel_rfl) (by rw [List.getElem?_toArray]; rfl) (fun K hK => ?_)
        have HK : Hid _ := hK
        clear hK
        go_simp
        refine HK.out _ _ (fun _ => True.intro) ?_
        clear HK K
        try simp only [Act.put, List.setIfInBounds_toArray, List.set_cons_zero, List.set_cons_succ]
        obtain ⟨⟨u5, hcG⟩, hfG⟩ := H5.out.1.free i hlt
        refine wpAnyX_one (i := 12) (by kernel_rfl) (by rw [List.getElem?_toArray]; rfl) (fun K hK => ?_)
        have HK : Hid _ := hK
        clear hK
        go_simp
        refine HK.out _ _ (fun h => absurd rfl h) ?_
        clear HK K
        try simp only [Act.put, List.setIfInBounds_toArray, List.set_cons_zero, List.set_cons_succ]
        refine wpAnyX_done (by kernel_rfl) (NoPanic.normal ?_)
        have H6 : Hid (RS D G m N1 (i + 1) (fun i => wo a (mzc N Z i)) (fun b => if b = i then some ⟨g5, 0, none⟩ else X b) (fun b => if b = i then c5 else Cc b) (w5.setCell ⟨G, i, none⟩ (.slice (some ⟨g5, 0, none⟩) N1 c5)) ∧ Below w0.heap.size w0 (w5.setCell ⟨G, i, none⟩ (.slice (some ⟨g5, 0, none⟩) N1 c5))) := by
          have hp := H5.out.1.put (i' := i + 1) (a0 := i) (fun b h1 h2 => by omega) (H5.out.2.2.1.sl (Nat.le_refl _)) (fun y hy => by cases hy; exact H5.out.2.2.1.lt) (fun e => by cases e) H5.out.2.2.2.2.1 H5.out.2.2.2.2.2 (fun y hy => by cases hy; exact H5.out.2.2.2.1) (wo_el (a := a) ((HA.out.2.1.rows (fld HA.out.1)).2.1 i hlt))
          rw [show (fun b => if b = i then wo a (mzc N Z i) else wo a (mzc N Z b)) = fun i => wo a (mzc N Z i) by funext b; by_cases e : b = i; rw [if_pos e, e]; rw [if_neg e]] at hp
          exact ⟨hp, H5.out.2.1.setCell (show w0.heap.size ≤ G from hG0) _⟩
        clear hcG hfG
        go_wp2
        go_roundw
        case rel => exact ⟨i + 1, _, _, by omega, by go_num, H6.out⟩
        case measure => simp [intOf]; omega
    · have hib : ¬ (i : Int) < (m : Int) := by omega
      have hie : m = i := by omega
      subst hie
      have HZ : Hid (CdZ D (some ⟨G, 0, none⟩) m N1 X (fun _ => N1) Cc (fun b c => ((wo a (mzc N Z b) c : Nat) : Int)) wA) := HG.out.1.cdz (by have := HSub.out.2; omega) (by omega) (by omega)
      obtain ⟨p0, p1, p2⟩ := HW.out.2.1.keep HG.out.2
      go_wp2_with fail
      rw [HSub.out.1]
      refine (oneForm_any HA.out.1 HZ.out).mono ?_
      rintro e w2 ⟨k, R, ro, rc, rfl, hmv, hred, hb2⟩
      have H2 : Hid (MV wA.heap.size (.slice ro k rc) k N1 R w2 ∧ Red D N1 m (fun i => wo a (mzc N Z i)) k R ∧ Below w.heap.size w w2 ∧ RB (w.heap.size + 1) w2 ∧ w.heap.size + 2 ≤ wA.heap.size) := by
        have hbb := bel_up' HG.out.2 hb2
        refine ⟨hmv, ?_, bel_up' HW.out.1 hbb, HW.out.2.2.1.keep hbb, by have := HG.out.2.size; omega⟩
        obtain ⟨p, r1, r2⟩ := hred
        refine ⟨p, r1, fun v => (r2 v).trans (rows_congr (fun i hi => ?_) v)⟩
        refine mzc_rows (R := fun i => wo a (mzc N Z i)) (fun b hb => ?_) i hi
        have h2 := wo_bd HA.out.2.2.2 ((HA.out.2.1.rows (fld HA.out.1)).2.2.1 b hb)
        rw [show n - 1 = N1 by omega] at h2
        exact h2
      clear hmv hred hb2 p0 p1 p2
      obtain ⟨⟨x0, c0⟩, ⟨x1, c1⟩, ⟨x2, c2⟩, f0, f1, f2⟩ := H2.out.2.2.2.1
      go_wp2
      obtain ⟨w3, hw3⟩ : ∃ w3, w3 = laid w2 (w.heap.size + 1) D.q (N1 : Nat) (.slice ro k rc) := ⟨_, rfl⟩
      have H3 : Hid (CB (w.heap.size + 1) D.q (N1 : Nat) (.slice ro k rc) w3 ∧ MV w.heap.size (.slice ro k rc) k N1 R w3 ∧ Below w.heap.size w w3) := by
        have := H2.out.2.2.2.2
        rw [hw3]; exact ⟨laid_cb H2.out.2.2.2.1 _ _ _, (laid_mv H2.out.1 (by omega) _ _ _).mono (by omega), laid_below H2.out.2.2.1 (by omega) _ _ _⟩
      unfold laid at hw3
      rw [← hw3]
      clear hw3 c0 c1 c2 f0 f1 f2
      obtain ⟨c0, c1, c2⟩ := H3.out.1
      refine bodyPost_ret (v := .agg #[.int .i64 D.q, .int .i64 (N1 : Nat), .slice ro k rc]) (by simp [results, Try.results104, go_sem, c0, c1, c2]) rfl ?_
      exact ⟨_, R, _, _, rfl, H3.out.2.1, H2.out.2.1, H3.out.2.2⟩
end Go.Proofs.Ytbpeahhhkcljeaa

/- Puncture, with its check. -/
namespace Go.Proofs.Ytbpeahhhkcljeaa
open Go.RowKit Go.Sort

set_option maxHeartbeats 4000000 in
set_option maxRecDepth 100000 in
theorem cPuncture_ok {D : FD} (hD : D ∈ fieldsL) {ao : Option Addr} {m n n2 ca a : Nat} {A : Nat → Option Addr} {N C : Nat → Nat} {Z : Nat → Nat → Int} {w : World} (ha : CdZ D ao m n A N C Z w) (hnn : n = n2 + 2) (hpl : a < n)
    (hC : ∀ wx, Below w.heap.size w wx → Calls Try.prog 103 #[.agg #[.int .i64 D.q, .int .i64 (n : Nat), .slice ao m ca], .int .i64 (a : Nat)] wx fun x w' => x = .returned (.int .i64 0) ∧ Below wx.heap.size wx w') :
    Calls Try.prog 76 #[.agg #[.int .i64 D.q, .int .i64 (n : Nat), .slice ao m ca], .int .i64 (a : Nat)] w fun x w' => ∃ k R ro rc, x = .returned (.tuple #[.agg #[.int .i64 D.q, .int .i64 (n2 + 1 : Nat), .slice ro k rc], .int .i64 0]) ∧ MV w.heap.size (.slice ro k rc) k (n2 + 1) R w' ∧ Red D (n2 + 1) m (fun i => wo a (mzc N Z i)) k R ∧ Below w.heap.size w w' := by
  obtain ⟨w0, hw0⟩ : ∃ w0, w0 = (w.alloc (.cells #[.int .i64 D.q, .int .i64 (n : Nat), .slice ao m ca] 43)).alloc (.cells #[.int .i64 0, .int .i64 0, .slice none 0 0] 43) := ⟨_, rfl⟩
  have HW : Hid (Below w.heap.size w w0 ∧ RB (w.heap.size + 1) w0 ∧ CB w.heap.size D.q n (.slice ao m ca) w0 ∧ w0.heap.size = w.heap.size + 2) := by
    obtain ⟨h1, h2, h3, h4⟩ := two_boxes D.q n 0 0 (.slice ao m ca) (.slice none 0 0) w
    have h6 := RBt.new #[.int .i64 0, .int .i64 0, .slice none 0 0] (w.alloc (.cells #[.int .i64 D.q, .int .i64 (n : Nat), .slice ao m ca] 43))
    rw [show (w.alloc (.cells #[.int .i64 D.q, .int .i64 (n : Nat), .slice ao m ca] 43)).heap.size = w.heap.size + 1 by simp] at h6
    rw [hw0]; exact ⟨h1, RB.of h3 h6, h2, by simp⟩
  obtain ⟨N1, hN1⟩ : ∃ N1, N1 = n2 + 1 := ⟨_, rfl⟩
  rw [← hN1]
  have HP : Hid (∀ wx, Below w.heap.size w wx → Calls Try.prog 104 #[.agg #[.int .i64 D.q, .int .i64 (n : Nat), .slice ao m ca], .int .i64 (a : Nat)] wx fun e w' => ∃ k R ro rc, e = .returned (.agg #[.int .i64 D.q, .int .i64 (N1 : Nat), .slice ro k rc]) ∧ MV wx.heap.size (.slice ro k rc) k N1 R w' ∧ Red D N1 m (fun i => wo a (mzc N Z i)) k R ∧ Below wx.heap.size wx w') := fun wx hx => by
    rw [hN1]; exact cpunct_any hD (ha.below hx) hnn hpl
  have HC : Hid _ := hC
  clear hD ha hC hN1 hnn hpl
  go_enter Try.func76, Try.ntmps76
  go_wp2_with fail
  rw [← hw0]
  clear hw0
  refine (HC.out _ HW.out.1).mono ?_
  rintro x w1 ⟨rfl, hb1⟩
  have H1 : Hid (Below w.heap.size w w1 ∧ RB (w.heap.size + 1) w1 ∧ CB w.heap.size D.q n (.slice ao m ca) w1 ∧ w.heap.size + 2 ≤ w1.heap.size) := ⟨bel_up' HW.out.1 hb1, HW.out.2.1.keep hb1, HW.out.2.2.1.keep hb1, by have := hb1.size; have := HW.out.2.2.2; omega⟩
  clear hb1
  have hcb1 := H1.out.2.2.1
  obtain ⟨a0, a1, a2⟩ := hcb1
  go_wp2_with fail
  refine (HP.out _ H1.out.1).mono ?_
  rintro x w2 ⟨k, R, ro, rc, rfl, hmv, hred, hb2⟩
  have H2 : Hid (MV w1.heap.size (.slice ro k rc) k N1 R w2 ∧ Red D N1 m (fun i => wo a (mzc N Z i)) k R ∧ Below w.heap.size w w2 ∧ RB (w.heap.size + 1) w2) := ⟨hmv, hred, bel_up' H1.out.1 hb2, H1.out.2.1.keep hb2⟩
  clear hmv hred hb2 a0 a1 a2
  obtain ⟨⟨x0, c0⟩, ⟨x1, c1⟩, ⟨x2, c2⟩, f0, f1, f2⟩ := H2.out.2.2.2
  go_wp2
  obtain ⟨w3, hw3⟩ : ∃ w3, w3 = laid w2 (w.heap.size + 1) D.q (N1 : Nat) (.slice ro k rc) := ⟨_, rfl⟩
  have H3 : Hid (CB (w.heap.size + 1) D.q (N1 : Nat) (.slice ro k rc) w3 ∧ MV w.heap.size (.slice ro k rc) k N1 R w3 ∧ Below w.heap.size w w3) := by
    have := H1.out.2.2.2
    rw [hw3]; exact ⟨laid_cb H2.out.2.2.2 _ _ _, (laid_mv H2.out.1 (by omega) _ _ _).mono (by omega), laid_below H2.out.2.2.1 (by omega) _ _ _⟩
  unfold laid at hw3
  rw [← hw3]
  clear hw3 c0 c1 c2 f0 f1 f2
  obtain ⟨c0, c1, c2⟩ := H3.out.1
  refine bodyPost_ret (v := .tuple #[.agg #[.int .i64 D.q, .int .i64 (N1 : Nat), .slice ro k rc], .int .i64 0]) (by simp [results, Try.results76, go_sem, c0, c1, c2]) rfl ?_
  exact ⟨_, R, _, _, rfl, H3.out.2.1, H2.out.2.1, H3.out.2.2⟩
end Go.Proofs.Ytbpeahhhkcljeaa
