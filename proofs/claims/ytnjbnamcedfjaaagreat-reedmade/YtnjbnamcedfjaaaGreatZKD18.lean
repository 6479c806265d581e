/- The reference's Values; what Encode, Solve and Euclid say of wrong input; recovers (printed by make/kd18.py). -/
import Derived.Test.YtnjbnamcedfjaaaGreatZKD16
import Derived.Test.YtnjbnamcedfjaaaGreatZZ4
import Derived.Test.YtnjbnamcedfjaaaGreatZL1
namespace Go.Proofs.YtnjbnamcedfjaaaGreat
open Go.RowKit Go.Sort

def RvI (D : FD) (a c : Nat → Nat) (n k : Nat) (wa : World) (vl vi : Value) (wx : World) : Prop := ∃ i : Nat, i ≤ n ∧ vi = .int .i64 (i : Nat) ∧ Hid (OwnI wa.heap.size vl (zl i fun j => ((D.ev a (c j) k : Nat) : Int)) wx ∧ Below wa.heap.size wa wx)
set_option maxHeartbeats 8000000 in
set_option maxRecDepth 100000 in
theorem rvals_any {D : FD} (hD : D ∈ fieldsL) (gen gm cm : Nat) {xo ao : Option Addr} {n cx k ca : Nat} {c a : Nat → Nat} {w : World} (hn : n ≤ 64) (hk : k ≤ 128) (hX : Sl xo n c w) (hA : Sl ao k a w) (hlx : LtB xo w.heap.size) (hla : LtB ao w.heap.size) (hx : ∀ i, i < n → c i < D.q) (ha : El D a) (hM : ModAt D (.slice (some ⟨gm, 0, none⟩) (D.m + 1) cm) D.md w) :
    Calls Tryz.prog 9 #[.agg #[.int .i64 D.q, .int .i64 D.p, .int .i64 D.m, .int .i64 gen, .slice (some ⟨gm, 0, none⟩) (D.m + 1) cm], .slice xo n cx, .slice ao k ca] w fun e w' => ∃ v, e = .returned v ∧ OwnI w.heap.size v (zl n fun j => ((D.ev a (c j) k : Nat) : Int)) w' ∧ Below w.heap.size w w' := by
  obtain ⟨wa, hwa⟩ : ∃ wa, wa = w.alloc (.cells #[.int .i64 D.q, .int .i64 D.p, .int .i64 D.m, .int .i64 gen, .slice (some ⟨gm, 0, none⟩) (D.m + 1) cm] 28) := ⟨_, rfl⟩
  have hba : Below w.heap.size w wa := by rw [hwa]; exact (Below.refl _ _).alloc (Nat.le_refl _) _
  have HF : Hid (D ∈ fieldsL ∧ Sl xo n c wa ∧ Sl ao k a wa ∧ LtB xo wa.heap.size ∧ LtB ao wa.heap.size ∧ (∀ i, i < n → c i < D.q) ∧ El D a ∧ ModAt D (.slice (some ⟨gm, 0, none⟩) (D.m + 1) cm) D.md wa ∧ Below w.heap.size w wa) := ⟨hD, hX.below hba hlx, hA.below hba hla, hlx.mono hba.size, hla.mono hba.size, hx, ha, hM.below hba, hba⟩
  have HX : Hid (Box w.heap.size D gen (.slice (some ⟨gm, 0, none⟩) (D.m + 1) cm) wa ∧ wa.heap.size = w.heap.size + 1) := ⟨by rw [hwa]; exact box_new D gen _ w, by rw [hwa]; simp⟩
  clear hD hX hA hlx hla hx ha hM hba
  go_enter Tryz.func9, Tryz.ntmps9
  go_wp2
  rw [← hwa]
  clear hwa
  go_loopw [7, 8] (fun vl vi wx => RvI D a c n k wa vl vi wx) (fun _ vi _ => n - (intOf vi).toNat)
  case atStart => exact ⟨0, by omega, rfl, OwnI.nil _ _, Below.refl _ _⟩
  case round =>
    obtain ⟨i, hi, rfl, HJ⟩ := hrel
    rename World => wB
    by_cases hlt : i < n
    · have hib : (i : Int) < (n : Int) := by omega
      have hi0 : (0 : Int) ≤ (i : Int) := by omega
      obtain ⟨bx, ox, hxo, hcx0⟩ := (HF.out.2.1.below HJ.out.2 HF.out.2.2.2.1) i hlt
      obtain ⟨x, hx⟩ : ∃ x, x = c i := ⟨_, rfl⟩
      rw [← hx] at hcx0
      subst hxo
      obtain ⟨pm, hpm⟩ : ∃ pm, pm = D.ev a x k := ⟨_, rfl⟩
      obtain ⟨wA, hwA⟩ : ∃ wA, wA = wa := ⟨_, rfl⟩
      rw [← hwA] at HJ
      have hcxa : wA.cell? ⟨bx, ox + i, none⟩ = some (.int .i64 ((x : Nat) : Int)) := by
        obtain ⟨bx', ox', e, h2⟩ := HF.out.2.1 i hlt
        cases e
        rw [hwA, hx]; exact h2
      have HCx : Hid (∀ wx, Below wA.heap.size wA wx → RcS w.heap.size D gen gm cm bx (ox + i) (x : Nat) wx ∧ True) := fun wx hb => by
        rw [hwA] at hb hcxa
        have hbx := HX.out.1.below (B := wa.heap.size) hb (by have := HX.out.2; omega)
        exact ⟨⟨hbx.c0, hbx.c1, hbx.c2, hbx.c3, hbx.c4, ((bcell hb).1 bx (ox + i) (cell_lt hcxa)).trans hcxa⟩, trivial⟩
      have HM1 : Hid (∀ wx, Below wA.heap.size wA wx → Calls Tryz.prog 16 #[.agg #[.int .i64 D.q, .int .i64 D.p, .int .i64 D.m, .int .i64 gen, .slice (some ⟨gm, 0, none⟩) (D.m + 1) cm], .slice ao k ca, .int .i64 (x : Nat)] wx fun e w' => e = .returned (.int .i64 (pm : Nat)) ∧ Below wx.heap.size wx w') := fun wx hb => by
        rw [hwA] at hb
        have hxq : x < D.q := by rw [hx]; exact HF.out.2.2.2.2.2.1 i hlt
        have h := rpat_any HF.out.1 gen gm cm (cap := ca) hxq (by omega) HF.out.2.2.2.2.2.2.1 (HF.out.2.2.2.2.1.mono hb.size) (HF.out.2.2.1.below hb HF.out.2.2.2.2.1) (HF.out.2.2.2.2.2.2.2.1.below hb)
        rw [val_is (fld HF.out.1) x k HF.out.2.2.2.2.2.2.1 hxq, ← hpm] at h
        exact h
      have HP : Hid (pm = D.ev a (c i) k) := by show _ = _; rw [hpm, hx]
      have hsB := HJ.out.2.size
      clear hx hpm hcx0 hcxa
      obtain ⟨q0, q1, q2, q3, q4, q5⟩ := (HCx.out wB HJ.out.2).1
      go_upto_region 5 with fail
      clear q0 q1 q2 q3 q4 q5
      refine wp_region_noPanic ?_
      have hS0 := (HCx.out wB.drew (HJ.out.2.trans ((Below.refl _ _).drew.mono hsB))).1
      refine wp_region_L (S := RcS w.heap.size D gen gm cm bx (ox + i) (x : Nat)) [] (by kernel_rfl) ?_
      refine wpAnyL_take (i := 0) (v := ?_) (by rw [List.getElem?_toArray]; rfl) (by decide +kernel) (by decide +kernel) (by decide +kernel) (by decide +kernel) (by decide +kernel) (fun _ _ _ h => h) hS0 (Or.inl ⟨by rfl, ?_⟩) ?_
      rotate_left
      · intro wz hSz; obtain ⟨z0, z1, z2, z3, z4, z5⟩ := hSz; go_simp; first | done | with_reducible rfl
      try simp only [Act.put, List.setIfInBounds_toArray, List.set_cons_zero, List.set_cons_succ]
      refine wpAnyL_take (i := 1) (v := ?_) (by rw [List.getElem?_toArray]; rfl) (by decide +kernel) (by decide +kernel) (by decide +kernel) (by decide +kernel) (by decide +kernel) (fun _ _ _ h => h) hS0 (Or.inl ⟨by rfl, ?_⟩) ?_
      rotate_left
      · intro wz hSz; obtain ⟨z0, z1, z2, z3, z4, z5⟩ := hSz; go_simp; first | done | with_reducible rfl
      try simp only [Act.put, List.setIfInBounds_toArray, List.set_cons_zero, List.set_cons_succ]
      refine wpAnyL_take (i := 2) (v := ?_) (by rw [List.getElem?_toArray]; rfl) (by decide +kernel) (by decide +kernel) (by decide +kernel) (by decide +kernel) (by decide +kernel) (fun _ _ _ h => h) hS0 (Or.inl ⟨by rfl, ?_⟩) ?_
      rotate_left
      · intro wz hSz; obtain ⟨z0, z1, z2, z3, z4, z5⟩ := hSz; go_simp; first | done | with_reducible rfl
      try simp only [Act.put, List.setIfInBounds_toArray, List.set_cons_zero, List.set_cons_succ]
      refine wpAnyL_take (i := 3) (v := ?_) (by rw [List.getElem?_toArray]; rfl) (by decide +kernel) (by decide +kernel) (by decide +kernel) (by decide +kernel) (by decide +kernel) (fun _ _ _ h => h) hS0 (Or.inl ⟨by rfl, ?_⟩) ?_
      rotate_left
      · intro wz hSz; obtain ⟨z0, z1, z2, z3, z4, z5⟩ := hSz; go_simp; first | done | with_reducible rfl
      try simp only [Act.put, List.setIfInBounds_toArray, List.set_cons_zero, List.set_cons_succ]
      refine wpAnyL_take (i := 4) (v := ?_) (by rw [List.getElem?_toArray]; rfl) (by decide +kernel) (by decide +kernel) (by decide +kernel) (by decide +kernel) (by decide +kernel) (fun _ _ _ h => h) hS0 (Or.inl ⟨by rfl, ?_⟩) ?_
      rotate_left
      · intro wz hSz; obtain ⟨z0, z1, z2, z3, z4, z5⟩ := hSz; go_simp; first | done | with_reducible rfl
      try simp only [Act.put, List.setIfInBounds_toArray, List.set_cons_zero, List.set_cons_succ]
      refine wpAnyL_take (i := 5) (v := ?_) (by rw [List.getElem?_toArray]; rfl) (by decide +kernel) (by decide +kernel) (by decide +kernel) (by decide +kernel) (by decide +kernel) (fun _ _ _ h => h) hS0 (Or.inl ⟨by rfl, ?_⟩) ?_
      rotate_left
      · intro wz hSz; obtain ⟨z0, z1, z2, z3, z4, z5⟩ := hSz; go_simp; first | done | with_reducible rfl
      try simp only [Act.put, List.setIfInBounds_toArray, List.set_cons_zero, List.set_cons_succ]
      refine wpAnyL_take (i := 6) (v := ?_) (by rw [List.getElem?_toArray]; rfl) (by decide +kernel) (by decide +kernel) (by decide +kernel) (by decide +kernel) (by decide +kernel) (fun _ _ _ h => h) hS0 (Or.inl ⟨by rfl, ?_⟩) ?_
      rotate_left
      · intro wz hSz; obtain ⟨z0, z1, z2, z3, z4, z5⟩ := hSz; go_simp; first | done | with_reducible rfl
      try simp only [Act.put, List.setIfInBounds_toArray, List.set_cons_zero, List.set_cons_succ]
      refine wpAnyL_one (i := 7) (by kernel_rfl) (by rw [List.getElem?_toArray]; rfl) (fun K hK => ?_)
      have HK : Hid _ := hK
      clear hK
      go_simp
      refine (HM1.out wB.drew (HJ.out.2.trans ((Below.refl _ _).drew.mono hsB))).mono ?_
      rintro e w4 ⟨rfl, hb4⟩
      have H4 : Hid (Below wB.heap.size wB w4) := bel_up' (Below.refl _ _).drew hb4
      have hS4 := (HCx.out w4 (HJ.out.2.trans (H4.out.mono hsB))).1
      clear hb4
      refine HK.out _ _ (fun _ => hS4) ?_
      clear HK K
      try simp only [Act.put, List.setIfInBounds_toArray, List.set_cons_zero, List.set_cons_succ]
      refine wpAnyL_one (i := 8) (by kernel_rfl) (by rw [List.getElem?_toArray]; rfl) (fun K hK => ?_)
      have HK : Hid _ := hK
      clear hK
      go_simp
      obtain ⟨w5, hw5⟩ : ∃ w5, w5 = w4.alloc (.cells #[.int .i64 (pm : Nat)] 3) := ⟨_, rfl⟩
      have G5 : Hid (Below wB.heap.size wB w5 ∧ w5.cell? ⟨w4.heap.size, 0, none⟩ = some (.int .i64 ((pm : Nat) : Int))) := by
        rw [hw5]; exact ⟨H4.out.alloc H4.out.size _, by simp⟩
      have hS5 := (HCx.out w5 (HJ.out.2.trans (G5.out.1.mono hsB))).1
      first | rw [← hw5] | skip
      refine HK.out _ _ (fun _ => hS5) ?_
      clear HK K
      try simp only [Act.put, List.setIfInBounds_toArray, List.set_cons_zero, List.set_cons_succ]
      clear hw5
      refine wpAnyL_one (i := 9) (by kernel_rfl) (by rw [List.getElem?_toArray]; rfl) (fun K hK => ?_)
      have HK : Hid _ := hK
      clear hK
      refine step_append_int_at (by rfl) _ _ (by rfl) wA.heap.size _ (zl i fun j => ((D.ev a (c j) k : Nat) : Int)) (by rfl) (HJ.out.1.below G5.out.1 (fun b hb => (HJ.out.1.lt b hb).2)) ⟨w4.heap.size, 0, none⟩ 1 (pm : Nat) (by rfl) G5.out.2 (by rw [zl_len]; omega) (by have := G5.out.1.size; omega) ?_
      intro g6 c6 w6 hown6 hgrow6 hat6
      have H6 : Hid (OwnI wA.heap.size (.slice (some ⟨g6, 0, none⟩) ((zl i fun j => ((D.ev a (c j) k : Nat) : Int)).length + 1) c6) ((zl i fun j => ((D.ev a (c j) k : Nat) : Int)) ++ [((pm : Nat) : Int)]) w6 ∧ Below wA.heap.size wA w6) := ⟨hown6, (HJ.out.2.trans (G5.out.1.mono hsB)).grown hgrow6 (by have := G5.out.1.size; omega) (fun b hb => (HJ.out.1.lt b hb).1)⟩
      have hS6 := (HCx.out w6 H6.out.2).1
      clear hown6 hgrow6 hat6
      refine HK.out _ _ (fun _ => hS6) ?_
      clear HK K
      try simp only [Act.put, List.setIfInBounds_toArray, List.set_cons_zero, List.set_cons_succ]
      refine wpAnyL_take (i := 10) (v := ?_) (by rw [List.getElem?_toArray]; rfl) (by decide +kernel) (by decide +kernel) (by decide +kernel) (by decide +kernel) (by decide +kernel) (fun _ _ _ h => h) hS6 (Or.inl ⟨by rfl, ?_⟩) ?_
      rotate_left
      · intro wz hSz; obtain ⟨z0, z1, z2, z3, z4, z5⟩ := hSz; go_simp; first | done | with_reducible rfl
      try simp only [Act.put, List.setIfInBounds_toArray, List.set_cons_zero, List.set_cons_succ]
      refine wpAnyL_done (by kernel_rfl) (NoPanic.normal ?_)
      clear hS0 hS4 hS5 hS6
      have HR : Hid (RvI D a c n k wa (.slice (some ⟨g6, 0, none⟩) ((zl i fun j => ((D.ev a (c j) k : Nat) : Int)).length + 1) c6) (.int .i64 ((i : Nat) + 1 : Int)) w6) := by
        refine ⟨i + 1, by omega, rfl, ?_, by rw [← hwA]; exact H6.out.2⟩
        rw [zl_succ, ← HP.out, ← hwA]
        exact H6.out.1
      clear hwA
      go_wp2
      go_roundw
      case rel => exact HR.out
      case measure => simp [intOf]; omega
    · have hib : ¬ (i : Int) < (n : Int) := by omega
      have hie : n = i := by omega
      subst hie
      have HR : Hid (OwnI w.heap.size u7 (zl n fun j => ((D.ev a (c j) k : Nat) : Int)) wB ∧ Below w.heap.size w wB) := ⟨HJ.out.1.mono HF.out.2.2.2.2.2.2.2.2.size, bel_up' HF.out.2.2.2.2.2.2.2.2 HJ.out.2⟩
      go_wp2
      go_ret
      exact ⟨_, rfl, HR.out⟩

set_option maxHeartbeats 2000000 in
set_option maxRecDepth 100000 in
theorem encode_e1 (q e : Int) (he : e ≠ 0) {xo ao : Option Addr} {n cx k ca : Nat} {w : World} (hC : Calls Tryz.prog 17 #[.int .i64 q, .slice xo n cx, .int .i64 (k : Nat)] w fun x w' => x = .returned (.int .i64 e) ∧ Below w.heap.size w w') :
    Calls Tryz.prog 22 #[.int .i64 q, .slice xo n cx, .slice ao k ca] w fun x w' => x = .returned (.tuple #[.slice none 0 0, .int .i64 e]) ∧ Below w.heap.size w w' := by
  have HC : Hid (Calls Tryz.prog 17 #[.int .i64 q, .slice xo n cx, .int .i64 (k : Nat)] w fun x w' => x = .returned (.int .i64 e) ∧ Below w.heap.size w w') := hC
  have hz : (e != 0) = true := bne_iff_ne.2 he
  clear hC he
  go_enter Tryz.func22, Tryz.ntmps22
  go_wp2_with fail
  refine HC.out.mono ?_
  rintro x w1 ⟨rfl, hb1⟩
  go_wp2
  go_ret2
  exact ⟨rfl, hb1⟩
set_option maxHeartbeats 2000000 in
set_option maxRecDepth 100000 in
theorem encode_e2 (q e : Int) (he : e ≠ 0) {xo ao : Option Addr} {n cx k ca : Nat} {w : World} (hC : Calls Tryz.prog 17 #[.int .i64 q, .slice xo n cx, .int .i64 (k : Nat)] w fun x w' => x = .returned (.int .i64 0) ∧ Below w.heap.size w w') (hP : ∀ w1, Below w.heap.size w w1 → Calls Tryz.prog 34 #[.int .i64 q, .slice ao k ca] w1 fun x w' => x = .returned (.int .i64 e) ∧ Below w1.heap.size w1 w') :
    Calls Tryz.prog 22 #[.int .i64 q, .slice xo n cx, .slice ao k ca] w fun x w' => x = .returned (.tuple #[.slice none 0 0, .int .i64 e]) ∧ Below w.heap.size w w' := by
  have HC : Hid (Calls Tryz.prog 17 #[.int .i64 q, .slice xo n cx, .int .i64 (k : Nat)] w fun x w' => x = .returned (.int .i64 0) ∧ Below w.heap.size w w') := hC
  have HP : Hid (∀ w1, Below w.heap.size w w1 → Calls Tryz.prog 34 #[.int .i64 q, .slice ao k ca] w1 fun x w' => x = .returned (.int .i64 e) ∧ Below w1.heap.size w1 w') := hP
  have hz : (e != 0) = true := bne_iff_ne.2 he
  clear hC hP he
  go_enter Tryz.func22, Tryz.ntmps22
  go_wp2_with fail
  refine HC.out.mono ?_
  rintro x w1 ⟨rfl, hb1⟩
  have H1 : Hid (Below w.heap.size w w1) := hb1
  clear hb1
  go_wp2_with fail
  refine (HP.out w1 H1.out).mono ?_
  rintro x w2 ⟨rfl, hb2⟩
  have H2 : Hid (Below w.heap.size w w2) := bel_up' H1.out hb2
  clear hb2
  go_wp2
  go_ret2
  exact ⟨rfl, H2.out⟩
set_option maxHeartbeats 2000000 in
set_option maxRecDepth 100000 in
theorem mend_e (q e k : Int) (he : e ≠ 0) {xo yo : Option Addr} {n cx m cy : Nat} {u : Value} {w : World} (hC : Calls Tryz.prog 19 #[.int .i64 q, .slice xo n cx, .int .i64 k, .slice yo m cy] w fun x w' => x = .returned (.int .i64 e) ∧ Below w.heap.size w w') :
    Calls Tryz.prog 47 #[.int .i64 q, .slice xo n cx, .int .i64 k, .slice yo m cy, u] w fun x w' => x = .returned (.tuple #[.slice none 0 0, .int .i64 0, .bool false, .int .i64 e]) ∧ Below w.heap.size w w' := by
  have HC : Hid (Calls Tryz.prog 19 #[.int .i64 q, .slice xo n cx, .int .i64 k, .slice yo m cy] w fun x w' => x = .returned (.int .i64 e) ∧ Below w.heap.size w w') := hC
  have hz : (e != 0) = true := bne_iff_ne.2 he
  clear hC he
  go_enter Tryz.func47, Tryz.ntmps47
  go_wp2_with fail
  refine HC.out.mono ?_
  rintro x w1 ⟨rfl, hb1⟩
  go_wp2
  refine bodyPost_ret (results_four rfl _ _ _) rfl ?_
  exact ⟨rfl, hb1⟩
set_option maxHeartbeats 2000000 in
set_option maxRecDepth 100000 in
theorem solve_e (q e k : Int) (he : e ≠ 0) {xo yo : Option Addr} {n cx m cy : Nat} {w : World} (hC : Calls Tryz.prog 19 #[.int .i64 q, .slice xo n cx, .int .i64 k, .slice yo m cy] w fun x w' => x = .returned (.int .i64 e) ∧ Below w.heap.size w w') :
    Calls Tryz.prog 37 #[.int .i64 q, .slice xo n cx, .int .i64 k, .slice yo m cy] w fun x w' => x = .returned (.tuple #[.slice none 0 0, .int .i64 0, .bool false, .int .i64 e]) ∧ Below w.heap.size w w' := by
  have HM : Hid (Calls Tryz.prog 47 #[.int .i64 q, .slice xo n cx, .int .i64 k, .slice yo m cy, .func (.func 48) #[] #[]] w fun x w' => x = .returned (.tuple #[.slice none 0 0, .int .i64 0, .bool false, .int .i64 e]) ∧ Below w.heap.size w w') := mend_e q e k he hC
  clear hC he
  go_enter Tryz.func37, Tryz.ntmps37
  go_wp2_with fail
  refine HM.out.mono ?_
  rintro x w1 ⟨rfl, hb1⟩
  go_wp2
  refine bodyPost_ret (results_four rfl _ _ _) rfl ?_
  exact ⟨rfl, hb1⟩
set_option maxHeartbeats 2000000 in
set_option maxRecDepth 100000 in
theorem euclid_e (q e k : Int) (he : e ≠ 0) {xo yo : Option Addr} {n cx m cy : Nat} {w : World} (hC : Calls Tryz.prog 19 #[.int .i64 q, .slice xo n cx, .int .i64 k, .slice yo m cy] w fun x w' => x = .returned (.int .i64 e) ∧ Below w.heap.size w w') :
    Calls Tryz.prog 38 #[.int .i64 q, .slice xo n cx, .int .i64 k, .slice yo m cy] w fun x w' => x = .returned (.tuple #[.slice none 0 0, .int .i64 0, .bool false, .int .i64 e]) ∧ Below w.heap.size w w' := by
  have HM : Hid (Calls Tryz.prog 47 #[.int .i64 q, .slice xo n cx, .int .i64 k, .slice yo m cy, .func (.func 49) #[] #[]] w fun x w' => x = .returned (.tuple #[.slice none 0 0, .int .i64 0, .bool false, .int .i64 e]) ∧ Below w.heap.size w w') := mend_e q e k he hC
  clear hC he
  go_enter Tryz.func38, Tryz.ntmps38
  go_wp2_with fail
  refine HM.out.mono ?_
  rintro x w1 ⟨rfl, hb1⟩
  go_wp2
  refine bodyPost_ret (results_four rfl _ _ _) rfl ?_
  exact ⟨rfl, hb1⟩
/-- Both lists are empty. -/
theorem same_nil (ao bo : Option Addr) (ca cb : Nat) (w : World) : Calls Tryz.prog 36 #[.slice ao 0 ca, .slice bo 0 cb] w fun e w' => e = .returned (.bool true) ∧ ∃ n, w' = w.drewN n := by
  have h := same_any (la := []) (lb := []) (Or.inl ⟨rfl, ao, ca, rfl⟩ : SliceI (.slice ao 0 ca) [] w) (Or.inl ⟨rfl, bo, cb, rfl⟩ : SliceI (.slice bo 0 cb) [] w)
  rw [decide_eq_true rfl] at h
  exact h
set_option maxHeartbeats 4000000 in
set_option maxRecDepth 100000 in
theorem recovers_e (q e k : Int) (he : e ≠ 0) {xo yo : Option Addr} {n cx m cy : Nat} {w : World} (hR : Calls Tryz.prog 20 #[.int .i64 q, .slice xo n cx, .int .i64 k, .slice yo m cy] w fun x w' => x = .returned (.int .i64 e) ∧ Below w.heap.size w w')
    (hC : ∀ w1, Below w.heap.size w w1 → Calls Tryz.prog 19 #[.int .i64 q, .slice xo n cx, .int .i64 k, .slice yo m cy] w1 fun x w' => x = .returned (.int .i64 e) ∧ Below w1.heap.size w1 w') :
    Calls Tryz.prog 24 #[.int .i64 q, .slice xo n cx, .int .i64 k, .slice yo m cy] w fun x w' => x = .returned (.bool true) ∧ Below w.heap.size w w' := by
  have HR : Hid (Calls Tryz.prog 20 #[.int .i64 q, .slice xo n cx, .int .i64 k, .slice yo m cy] w fun x w' => x = .returned (.int .i64 e) ∧ Below w.heap.size w w') := hR
  have HS : Hid (∀ w1, Below w.heap.size w w1 → Calls Tryz.prog 37 #[.int .i64 q, .slice xo n cx, .int .i64 k, .slice yo m cy] w1 fun x w' => x = .returned (.tuple #[.slice none 0 0, .int .i64 0, .bool false, .int .i64 e]) ∧ Below w1.heap.size w1 w') := fun w1 h => solve_e q e k he (hC w1 h)
  have HU : Hid (∀ w1, Below w.heap.size w w1 → Calls Tryz.prog 38 #[.int .i64 q, .slice xo n cx, .int .i64 k, .slice yo m cy] w1 fun x w' => x = .returned (.tuple #[.slice none 0 0, .int .i64 0, .bool false, .int .i64 e]) ∧ Below w1.heap.size w1 w') := fun w1 h => euclid_e q e k he (hC w1 h)
  have hz : (e == 0) = false := beq_eq_false_iff_ne.2 he
  have hze : (e != e) = false := by simp
  clear hR hC he
  go_enter Tryz.func24, Tryz.ntmps24
  go_wp2_with fail
  refine HR.out.mono ?_
  rintro x w1 ⟨rfl, hb1⟩
  have H1 : Hid (Below w.heap.size w w1) := hb1
  clear hb1
  go_wp2_with fail
  refine (HS.out w1 H1.out).mono ?_
  rintro x w2 ⟨rfl, hb2⟩
  have H2 : Hid (Below w.heap.size w w2) := bel_up' H1.out hb2
  clear hb2
  go_wp2_with fail
  refine (HU.out w2 H2.out).mono ?_
  rintro x w3 ⟨rfl, hb3⟩
  have H3 : Hid (Below w.heap.size w w3) := bel_up' H2.out hb3
  clear hb3
  go_wp2_with fail
  refine (same_nil none none 0 0 w3).mono ?_
  rintro x w4 ⟨rfl, d4, hw4⟩
  subst hw4
  go_wp2_with fail
  refine (same_nil none none 0 0 _).mono ?_
  rintro x w5 ⟨rfl, d5, hw5⟩
  have H5 : Hid (Below w.heap.size w w5) := by rw [hw5]; exact below_drewN2 (below_drewN2 H3.out d4) d5
  clear hw5
  go_wp2
  go_ret
  exact ⟨rfl, H5.out⟩
set_option maxHeartbeats 8000000 in
set_option maxRecDepth 100000 in
theorem recovers_ok {D : FD} (hD : D ∈ fieldsL) {xo yo : Option Addr} {n cx cy k : Nat} {c : Nat → Nat} {y : Nat → Int} {w : World} (hX : Arg xo n cx (fun j => ((c j : Nat) : Int)) w) (hY : Arg yo n cy y w) (hn : n ≤ 64) (hk1 : 1 ≤ k) (hk : k ≤ n) (hc : ∀ i, i < n → c i < D.q) (hne : ∀ i j, i < n → j < n → i ≠ j → c i ≠ c j) (hy : ∀ i, i < n → y i = -1 ∨ D.has (y i) = true) (h0 : D.wchk n (fun j => ((c j : Nat) : Int)) (k : Nat) n y = 0) :
    Calls Tryz.prog 24 #[.int .i64 D.q, .slice xo n cx, .int .i64 (k : Nat), .slice yo n cy] w fun x w' => x = .returned (.bool true) ∧ Below w.heap.size w w' := by
  obtain ⟨m, c', y', hH⟩ := heard_ex (D := D) (y := y) hc hne hy
  have HW : Hid (∀ w1, Below w.heap.size w w1 → Calls Tryz.prog 19 #[.int .i64 D.q, .slice xo n cx, .int .i64 (k : Nat), .slice yo n cy] w1 fun x w' => x = .returned (.int .i64 0) ∧ Below w1.heap.size w1 w') := fun w1 hb => by
    have h := word_any hD (k : Nat) (hX.below hb) (hY.below hb)
    rw [h0] at h; exact h
  have HR : Hid (Calls Tryz.prog 20 #[.int .i64 D.q, .slice xo n cx, .int .i64 (k : Nat), .slice yo n cy] w fun x w' => x = .returned (.int .i64 0) ∧ Below w.heap.size w w') := by
    have h := reedWord_any hD (k : Nat) hX hY
    rw [h0] at h; exact h
  have HS : Hid (∀ w1, Below w.heap.size w w1 → Calls Tryz.prog 37 #[.int .i64 D.q, .slice xo n cx, .int .i64 (k : Nat), .slice yo n cy] w1 (MendP D m k c' y' w1)) := fun w1 hb => solve_ok hD (hX.below hb) (hY.below hb) hn hk1 hk (HW.out w1 hb) hH
  have HU : Hid (∀ w1, Below w.heap.size w w1 → Calls Tryz.prog 38 #[.int .i64 D.q, .slice xo n cx, .int .i64 (k : Nat), .slice yo n cy] w1 (MendP D m k c' y' w1)) := fun w1 hb => euclid_ok hD (hX.below hb) (hY.below hb) hn hk1 hk (HW.out w1 hb) hH
  have HFd : Hid (∀ w1, Calls Tryz.prog 8 #[.int .i64 D.q] w1 fun e w' => ∃ gm cm, e = .returned (.tuple #[.agg #[.int .i64 D.q, .int .i64 D.p, .int .i64 D.m, .int .i64 D.gen, .slice (some ⟨gm, 0, none⟩) (D.m + 1) cm], .int .i64 0]) ∧ ModAt D (.slice (some ⟨gm, 0, none⟩) (D.m + 1) cm) D.md w' ∧ Below w1.heap.size w1 w') := fun w1 => rfield_sl hD w1
  have HRc : Hid (∀ gm cm w1, Below w.heap.size w w1 → ModAt D (.slice (some ⟨gm, 0, none⟩) (D.m + 1) cm) D.md w1 → Calls Tryz.prog 39 #[.agg #[.int .i64 D.q, .int .i64 D.p, .int .i64 D.m, .int .i64 D.gen, .slice (some ⟨gm, 0, none⟩) (D.m + 1) cm], .slice xo n cx, .int .i64 (k : Nat), .slice yo n cy] w1 (RecP D m k c' y' w1)) := fun gm cm w1 hb hM => recovered_any hD D.gen gm cm (hX.below hb) (hY.below hb) hn hk1 hk hc hH hM
  have HH : Hid (D ∈ fieldsL ∧ Heard D n c y m c' y') := ⟨hD, hH⟩
  clear hD hX hY hc hne hy h0 hH
  go_enter Tryz.func24, Tryz.ntmps24
  go_wp2_with fail
  refine HR.out.mono ?_
  rintro x w1 ⟨rfl, hb1⟩
  have H1 : Hid (Below w.heap.size w w1) := hb1
  clear hb1
  by_cases hnr : ∃ a, NearH D m k c' y' a
  · obtain ⟨a, hna⟩ := hnr
    obtain ⟨O1, hO1⟩ : ∃ O1, O1 = ofs D k m c' y' a := ⟨_, rfl⟩
    have key : ∀ w1 (e : Ending) w', MendP D m k c' y' w1 e w' → Below w1.heap.size w1 w' ∧ ∃ vo vc, e = .returned (.tuple #[.slice vo k vc, .int .i64 (O1 : Nat), .bool true, .int .i64 0]) ∧ KI (.slice vo k vc) (zl k fun j => ((a j : Nat) : Int)) w' := fun w1 e w' h => by
      obtain ⟨hb, ⟨b, hb1, v, rfl, hv⟩ | ⟨hno, _⟩⟩ := h
      · have e := hb1.one HH.out.1 HH.out.2 hna
        subst e
        obtain ⟨vo, vc, rfl, _⟩ := hv.arg (by omega)
        exact ⟨hb, vo, vc, by rw [hO1], hv.ki (by omega)⟩
      · exact absurd hna (hno a)
    have HS2 : Hid (∀ w1, Below w.heap.size w w1 → Calls Tryz.prog 37 #[.int .i64 D.q, .slice xo n cx, .int .i64 (k : Nat), .slice yo n cy] w1 fun e w' => Below w1.heap.size w1 w' ∧ ∃ vo vc, e = .returned (.tuple #[.slice vo k vc, .int .i64 (O1 : Nat), .bool true, .int .i64 0]) ∧ KI (.slice vo k vc) (zl k fun j => ((a j : Nat) : Int)) w') := fun w1 hb => (HS.out w1 hb).mono (key w1)
    have HU2 : Hid (∀ w1, Below w.heap.size w w1 → Calls Tryz.prog 38 #[.int .i64 D.q, .slice xo n cx, .int .i64 (k : Nat), .slice yo n cy] w1 fun e w' => Below w1.heap.size w1 w' ∧ ∃ vo vc, e = .returned (.tuple #[.slice vo k vc, .int .i64 (O1 : Nat), .bool true, .int .i64 0]) ∧ KI (.slice vo k vc) (zl k fun j => ((a j : Nat) : Int)) w') := fun w1 hb => (HU.out w1 hb).mono (key w1)
    have HRc2 : Hid (∀ gm cm w1, Below w.heap.size w w1 → ModAt D (.slice (some ⟨gm, 0, none⟩) (D.m + 1) cm) D.md w1 → Calls Tryz.prog 39 #[.agg #[.int .i64 D.q, .int .i64 D.p, .int .i64 D.m, .int .i64 D.gen, .slice (some ⟨gm, 0, none⟩) (D.m + 1) cm], .slice xo n cx, .int .i64 (k : Nat), .slice yo n cy] w1 fun e w' => Below w1.heap.size w1 w' ∧ ∃ vo vc, e = .returned (.tuple #[.slice vo k vc, .int .i64 (O1 : Nat), .bool true]) ∧ KI (.slice vo k vc) (zl k fun j => ((a j : Nat) : Int)) w') := fun gm cm w1 hb hM => by
      refine (HRc.out gm cm w1 hb hM).mono ?_
      rintro e w' ⟨hb, ⟨b, hb1, v, rfl, hv⟩ | ⟨hno, _⟩⟩
      · have e := hb1.one HH.out.1 HH.out.2 hna
        subst e
        obtain ⟨vo, vc, rfl, _⟩ := OwnI.argN hv (by omega)
        exact ⟨hb, vo, vc, by rw [hO1], OwnI.ki hv (by rw [zl_len]; omega)⟩
      · exact absurd hna (hno a)
    have hoo : ((O1 : Int) == (O1 : Int)) = true := by simp
    clear hna hO1 HS HU HRc key
    go_wp2_with fail
    refine (HS2.out w1 H1.out).mono ?_
    rintro x w2 ⟨hb2, so, sc, rfl, hs2⟩
    have H2 : Hid (Below w.heap.size w w2 ∧ KI (.slice so k sc) (zl k fun j => ((a j : Nat) : Int)) w2) := ⟨bel_up' H1.out hb2, hs2⟩
    clear hb2 hs2
    go_wp2_with fail
    refine (HU2.out w2 H2.out.1).mono ?_
    rintro x w3 ⟨hb3, eo, ec, rfl, hs3⟩
    have H3 : Hid (Below w.heap.size w w3 ∧ KI (.slice so k sc) (zl k fun j => ((a j : Nat) : Int)) w3 ∧ KI (.slice eo k ec) (zl k fun j => ((a j : Nat) : Int)) w3) := ⟨bel_up' H2.out.1 hb3, H2.out.2.below hb3, hs3⟩
    clear hb3 hs3
    go_wp2_with fail
    refine (HFd.out w3).mono ?_
    rintro x w4 ⟨gm, cm, rfl, hM4, hb4⟩
    obtain ⟨w5, hw5⟩ : ∃ w5, w5 = w4.alloc (.cells #[.int .i64 D.q, .int .i64 D.p, .int .i64 D.m, .int .i64 D.gen, .slice (some ⟨gm, 0, none⟩) (D.m + 1) cm] 28) := ⟨_, rfl⟩
    have H5 : Hid (Below w3.heap.size w3 w5 ∧ ModAt D (.slice (some ⟨gm, 0, none⟩) (D.m + 1) cm) D.md w5) := by
      have hb5 : Below w4.heap.size w4 w5 := by rw [hw5]; exact (Below.refl _ _).alloc (Nat.le_refl _) _
      exact ⟨bel_up' hb4 hb5, hM4.below hb5⟩
    clear hM4 hb4
    go_wp2_with fail
    rw [← hw5]
    clear hw5
    refine (HRc2.out gm cm w5 (bel_up' H3.out.1 H5.out.1) H5.out.2).mono ?_
    rintro x w6 ⟨hb6, ro, rc, rfl, hs6⟩
    have H6 : Hid (Below w.heap.size w w6 ∧ SliceI (.slice so k sc) (zl k fun j => ((a j : Nat) : Int)) w6 ∧ SliceI (.slice eo k ec) (zl k fun j => ((a j : Nat) : Int)) w6 ∧ SliceI (.slice ro k rc) (zl k fun j => ((a j : Nat) : Int)) w6) := ⟨bel_up' (bel_up' H3.out.1 H5.out.1) hb6, ((H3.out.2.1.below H5.out.1).below hb6).1, ((H3.out.2.2.below H5.out.1).below hb6).1, hs6.1⟩
    clear hb6 hs6
    have HS1 : Hid (Calls Tryz.prog 36 #[.slice so k sc, .slice ro k rc] w6 fun e w' => e = .returned (.bool true) ∧ ∃ n, w' = w6.drewN n) := by
      have h := same_any H6.out.2.1 H6.out.2.2.2
      rw [decide_eq_true rfl] at h; exact h
    have HS3 : Hid (∀ d, Calls Tryz.prog 36 #[.slice eo k ec, .slice ro k rc] (w6.drewN d) fun e w' => e = .returned (.bool true) ∧ ∃ n, w' = (w6.drewN d).drewN n) := fun d => by
      have h := same_any (H6.out.2.2.1.drewN d) (H6.out.2.2.2.drewN d)
      rw [decide_eq_true rfl] at h; exact h
    go_wp2_with fail
    refine HS1.out.mono ?_
    rintro x w7 ⟨rfl, d7, hw7⟩
    subst hw7
    go_wp2_with fail
    refine (HS3.out d7).mono ?_
    rintro x w8 ⟨rfl, d8, hw8⟩
    have H8 : Hid (Below w.heap.size w w8) := by rw [hw8]; exact below_drewN2 (below_drewN2 H6.out.1 d7) d8
    clear hw8
    go_wp2
    go_ret
    exact ⟨rfl, H8.out⟩
  · have hno : ∀ a, ¬ NearH D m k c' y' a := fun a h => hnr ⟨a, h⟩
    have key : ∀ w1 (e : Ending) w', MendP D m k c' y' w1 e w' → e = .returned (.tuple #[.slice none 0 0, .int .i64 0, .bool false, .int .i64 0]) ∧ Below w1.heap.size w1 w' := fun w1 e w' h => by
      obtain ⟨hb, ⟨b, hb1, _⟩ | ⟨_, he⟩⟩ := h
      · exact absurd hb1 (hno b)
      · exact ⟨he, hb⟩
    have HS2 : Hid (∀ w1, Below w.heap.size w w1 → Calls Tryz.prog 37 #[.int .i64 D.q, .slice xo n cx, .int .i64 (k : Nat), .slice yo n cy] w1 fun e w' => e = .returned (.tuple #[.slice none 0 0, .int .i64 0, .bool false, .int .i64 0]) ∧ Below w1.heap.size w1 w') := fun w1 hb => (HS.out w1 hb).mono (key w1)
    have HU2 : Hid (∀ w1, Below w.heap.size w w1 → Calls Tryz.prog 38 #[.int .i64 D.q, .slice xo n cx, .int .i64 (k : Nat), .slice yo n cy] w1 fun e w' => e = .returned (.tuple #[.slice none 0 0, .int .i64 0, .bool false, .int .i64 0]) ∧ Below w1.heap.size w1 w') := fun w1 hb => (HU.out w1 hb).mono (key w1)
    have HRc2 : Hid (∀ gm cm w1, Below w.heap.size w w1 → ModAt D (.slice (some ⟨gm, 0, none⟩) (D.m + 1) cm) D.md w1 → Calls Tryz.prog 39 #[.agg #[.int .i64 D.q, .int .i64 D.p, .int .i64 D.m, .int .i64 D.gen, .slice (some ⟨gm, 0, none⟩) (D.m + 1) cm], .slice xo n cx, .int .i64 (k : Nat), .slice yo n cy] w1 fun e w' => e = .returned (.tuple #[.slice none 0 0, .int .i64 0, .bool false]) ∧ Below w1.heap.size w1 w') := fun gm cm w1 hb hM => by
      refine (HRc.out gm cm w1 hb hM).mono ?_
      rintro e w' ⟨hb, ⟨b, hb1, _⟩ | ⟨_, he⟩⟩
      · exact absurd hb1 (hno b)
      · exact ⟨he, hb⟩
    clear hnr hno HS HU HRc key
    go_wp2_with fail
    refine (HS2.out w1 H1.out).mono ?_
    rintro x w2 ⟨rfl, hb2⟩
    have H2 : Hid (Below w.heap.size w w2) := bel_up' H1.out hb2
    clear hb2
    go_wp2_with fail
    refine (HU2.out w2 H2.out).mono ?_
    rintro x w3 ⟨rfl, hb3⟩
    have H3 : Hid (Below w.heap.size w w3) := bel_up' H2.out hb3
    clear hb3
    go_wp2_with fail
    refine (HFd.out w3).mono ?_
    rintro x w4 ⟨gm, cm, rfl, hM4, hb4⟩
    obtain ⟨w5, hw5⟩ : ∃ w5, w5 = w4.alloc (.cells #[.int .i64 D.q, .int .i64 D.p, .int .i64 D.m, .int .i64 D.gen, .slice (some ⟨gm, 0, none⟩) (D.m + 1) cm] 28) := ⟨_, rfl⟩
    have H5 : Hid (Below w3.heap.size w3 w5 ∧ ModAt D (.slice (some ⟨gm, 0, none⟩) (D.m + 1) cm) D.md w5) := by
      have hb5 : Below w4.heap.size w4 w5 := by rw [hw5]; exact (Below.refl _ _).alloc (Nat.le_refl _) _
      exact ⟨bel_up' hb4 hb5, hM4.below hb5⟩
    clear hM4 hb4
    go_wp2_with fail
    rw [← hw5]
    clear hw5
    refine (HRc2.out gm cm w5 (bel_up' H3.out H5.out.1) H5.out.2).mono ?_
    rintro x w6 ⟨rfl, hb6⟩
    have H6 : Hid (Below w.heap.size w w6) := bel_up' (bel_up' H3.out H5.out.1) hb6
    clear hb6
    go_wp2_with fail
    refine (same_nil none none 0 0 w6).mono ?_
    rintro x w7 ⟨rfl, d7, hw7⟩
    subst hw7
    go_wp2_with fail
    refine (same_nil none none 0 0 _).mono ?_
    rintro x w8 ⟨rfl, d8, hw8⟩
    have H8 : Hid (Below w.heap.size w w8) := by rw [hw8]; exact below_drewN2 (below_drewN2 H6.out d7) d8
    clear hw8
    go_wp2
    go_ret
    exact ⟨rfl, H8.out⟩
end Go.Proofs.YtnjbnamcedfjaaaGreat
