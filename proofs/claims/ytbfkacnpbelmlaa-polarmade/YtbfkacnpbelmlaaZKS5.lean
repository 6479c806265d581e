/- Polar: the reference's Losses. -/
import Derived.Test.YtbfkacnpbelmlaaZKS3
import Derived.Test.YtbfkacnpbelmlaaZKA3
import Derived.Test.YtbfkacnpbelmlaaZZ5
import Derived.Test.YtbfkacnpbelmlaaZL10
namespace Go.Proofs.Ytbfkacnpbelmlaa
open Go.RowKit Go.Sort

theorem alc2 (w : World) (a b : Value) (t : TypeId) : (w.alloc (.cells #[a, b] t)).cell? ⟨w.heap.size, 0, none⟩ = some a ∧ (w.alloc (.cells #[a, b] t)).cell? ⟨w.heap.size, 1, none⟩ = some b := by constructor <;> simp

/-- 'append' of some numbers, at a step of a region that draws its order. -/
theorem step_append_intsP {ops : Array Oper} {o : Oper} {a : Act} {w : World} {K : Act → World → Prop} {Q : Exit → Act → World → Prop} {E : Prop} (hgd : o.guard = none) (s x : Operand)
    (ho : o.op = .call { callee := .builtin .append, args := #[s, x], argTypes := #[22, 22] })
    (base : Nat) (v : Value) (l : List Int) (hs : a.eval s = v) (hown : OwnI base v l w) (ad : Addr) (n sc : Nat) (z : Nat → Int) (hx : a.eval x = .slice (some ad) n sc) (hS : SlZ (some ad) n z w)
    (hn : l.length + n ≤ 1000000) (hbase : base ≤ w.heap.size)
    (h : ∀ v' w', OwnI base v' (l ++ zl n z) w' → w.grownBy w' v.ownBlock → K (a.put o.dst v') w') : if Region.wanted o (yielded ops a.tmps) = true then Oper.wp Try.prog o a w K Q else E := by
  have hw : Region.wanted o (yielded ops a.tmps) = true := by simp [Region.wanted, hgd]
  rw [if_pos hw]
  obtain ⟨i0, hi, hz0, hz1, hz2⟩ := info_parts Try.infoInt
  refine wp_append_own w s x 22 ho base 3 i0 (.int .i64 0) 1 8 Try.underlying22 hi hz0 hz1 hz2 rfl (by decide) v l.length _ hs hown ad n sc ((zl n z).map (Value.int .i64)) hx (by rw [List.length_map, zl_len]; omega) ?_ ?_ ?_ ?_ hbase ?_
  · intro j u hj
    have hj' : j < n := by
      have := (List.getElem?_eq_some_iff.1 hj).1
      rwa [List.length_map, zl_len] at this
    rw [List.getElem?_map, zl_get n z j hj'] at hj
    cases hj
    obtain ⟨b, off, e, hc⟩ := hS j hj'
    cases e
    rw [add_off]; exact hc
  · intro u hu
    obtain ⟨k, _, rfl⟩ := List.mem_map.1 hu
    rfl
  · unfold maxLen; omega
  · omega
  · intro v' w' hown' hgrow _
    refine h v' w' ?_ hgrow
    unfold OwnI
    rw [List.map_append, List.length_append, zl_len]
    exact hown'

set_option maxHeartbeats 8000000 in
set_option maxRecDepth 100000 in
theorem losses_zero (w : World) :
    Calls Try.prog 6 #[.int .i64 0] w fun e w' => ∃ v, e = .returned v ∧ OwnI w.heap.size v (lsI 0) w' ∧ Below w.heap.size w w' := by
    have H0 : Hid (OwnI w.heap.size (.slice (some ⟨w.heap.size, 0, none⟩) 1 1) (lsI 0) (w.alloc (.cells #[.int .i64 1] 3)) ∧ Below w.heap.size w (w.alloc (.cells #[.int .i64 1] 3))) := ⟨ownI_lit w [1] (by decide), (Below.refl _ _).alloc (Nat.le_refl _) _⟩
    go_enter Try.func6, Try.ntmps6
    go_wp2
    go_ret
    exact ⟨_, rfl, H0.out⟩

set_option maxHeartbeats 8000000 in
set_option maxRecDepth 100000 in
theorem losses_step {m : Nat} (hm : m + 1 ≤ 5) (w : World) (hL : Calls Try.prog 6 #[.int .i64 (m : Nat)] w fun e w' => ∃ v, e = .returned v ∧ OwnI w.heap.size v (lsI m) w' ∧ Below w.heap.size w w') :
    Calls Try.prog 6 #[.int .i64 (m + 1 : Nat)] w fun e w' => ∃ v, e = .returned v ∧ OwnI w.heap.size v (lsI (m + 1)) w' ∧ Below w.heap.size w w' := by
    have HL : Hid (Calls Try.prog 6 #[.int .i64 (m : Nat)] w fun e w' => ∃ v, e = .returned v ∧ OwnI w.heap.size v (lsI m) w' ∧ Below w.heap.size w w') := hL
    clear hL
    have hm4 : m ≤ 4 := by omega
    obtain ⟨M, hM⟩ : ∃ M, M = m + 1 := ⟨_, rfl⟩
    have hMi : (M : Int) - 1 = (m : Int) := by omega
    have hMz : ((M : Int) == 0) = false := by rw [beq_eq_false_iff_ne]; omega
    have hM5 : M ≤ 5 := by omega
    obtain ⟨P, hP⟩ : ∃ P, P = 2 ^ m := ⟨_, rfl⟩
    have hP16 : P ≤ 16 := by rw [hP]; exact pow16 hm4
    have hPi : (2 : Int) ^ m = (P : Int) := by rw [hP]; simp
    have hPw : IntKind.u64.wrap (P : Int) = (P : Int) := wrap_u64 (by omega)
    obtain ⟨A, hA⟩ : ∃ A, A = 2 ^ P := ⟨_, rfl⟩
    have hAb : A ≤ 65536 := by rw [hA, hP]; exact pow2p hm4
    have hAi : (2 : Int) ^ P = (A : Int) := by rw [hA]; simp
    have hAw : IntKind.i64.wrap (A : Int) = (A : Int) := wrap_to rfl (by omega)
    have hst := lsI_step (show m < 5 by omega) hA hP
    obtain ⟨l, hl⟩ : ∃ l, l = lsI m := ⟨_, rfl⟩
    obtain ⟨l2, hl2⟩ : ∃ l2, l2 = lsI (m + 1) := ⟨_, rfl⟩
    rw [← hl, ← hl2] at hst
    rw [← hl] at HL
    rw [← hl2]
    have HE : Hid (hvi (A : Int) l = l2 ∧ l.length = P ∧ ∀ i, i < P → 0 ≤ l.getD i 0 ∧ l.getD i 0 ≤ 65536) := hst
    clear hst hl hl2
    rw [← hM]
    have HMe : Hid (M = m + 1) := hM
    clear hM hP hA
    go_enter Try.func6, Try.ntmps6
    go_wp2_with fail
    refine HL.out.mono ?_
    rintro e w1 ⟨v1, rfl, ho1, hb1⟩
    obtain ⟨ao, ca, hv, hA1⟩ := ho1.argOf HE.out.2.1
    subst hv
    obtain ⟨x, hx⟩ : ∃ x : Nat → Int, x = fun i => l.getD i 0 := ⟨_, rfl⟩
    rw [← hx] at hA1
    have H1 : Hid (ArgL ao P ca x w1 ∧ Below w.heap.size w w1 ∧ (∀ i, i < P → 0 ≤ x i ∧ x i ≤ 65536) ∧ hvi (A : Int) (zl P x) = l2) := ⟨hA1, hb1, by rw [hx]; exact HE.out.2.2, by rw [hx, ← HE.out.2.1, ← list_zl]; exact HE.out.1⟩
    clear ho1 hb1 hA1 hx HL
    go_wp2
    go_loopw [5, 6] (fun vs vi wr => ∃ t : Nat, t ≤ P ∧ vi = .int .i64 (t : Nat) ∧ Hid (OwnI w1.heap.size vs (hvi (A : Int) (zl t x)) wr ∧ Below w1.heap.size w1 wr)) (fun _ vi _ => P - (intOf vi).toNat)
    case atStart => exact ⟨0, by omega, rfl, OwnI.nil _ _, Below.refl _ _⟩
    case round =>
      obtain ⟨t, ht, rfl, HG⟩ := hrel
      rename World => wr
      have hsz := HG.out.2.size
      by_cases hlt : t < P
      · have hib : (t : Int) < (P : Int) := by omega
        have hib0 : (0 : Int) ≤ (t : Int) := by omega
        obtain ⟨v, hv⟩ : ∃ v : Nat, (v : Int) = x t := ⟨(x t).toNat, by have := (H1.out.2.2.1 t hlt).1; omega⟩
        have hvb : v ≤ 65536 := by have := (H1.out.2.2.1 t hlt).2; omega
        obtain ⟨b1, o1, e1, q1⟩ := H1.out.1.sl t hlt
        have l1 := H1.out.1.lt _ e1
        have c1 : wr.cell? ⟨b1, o1 + t, none⟩ = some (.int .i64 (v : Nat)) := by rw [hv]; exact (HG.out.2.cell (p := ⟨b1, o1 + t, none⟩) l1).trans q1
        obtain ⟨V2, hV2⟩ : ∃ V2, V2 = 2 * v := ⟨_, rfl⟩
        have hV2i : (2 : Int) * (v : Int) = (V2 : Int) := by omega
        obtain ⟨P2, hP2⟩ : ∃ P2, P2 = V2 * A := ⟨_, rfl⟩
        have hP2i : (V2 : Int) * (A : Int) = (P2 : Int) := by rw [hP2]; simp
        have hP2b : P2 ≤ 8589934592 := by rw [hP2]; exact Nat.le_trans (Nat.mul_le_mul (show V2 ≤ 131072 by omega) hAb) (by decide)
        obtain ⟨Q2, hQ2⟩ : ∃ Q2, Q2 = v * v := ⟨_, rfl⟩
        have hQi : (v : Int) * (v : Int) = (Q2 : Int) := by rw [hQ2]; simp
        have hQb : Q2 ≤ 4294967296 := by rw [hQ2]; exact Nat.le_trans (Nat.mul_le_mul hvb hvb) (by decide)
        have hV2b : V2 ≤ 131072 := by omega
        have HE2 : Hid (hvi (A : Int) (zl (t + 1) x) = hvi (A : Int) (zl t x) ++ zl 2 (fun j => if j = 0 then (P2 : Int) - (Q2 : Int) else (Q2 : Int)) ∧ (hvi (A : Int) (zl t x)).length ≤ 128) := by
          refine ⟨?_, by rw [hvi_len, zl_len]; omega⟩
          rw [zl_succ, hvi_snoc, ← hv, hV2i, hP2i, hQi]
          rfl
        subst e1
        have hl1 : b1 < w1.heap.size := l1
        have hq1 : w1.cell? ⟨b1, o1 + t, none⟩ = some (.int .i64 (v : Nat)) := by rw [hv]; exact q1
        clear hv hV2 hP2 hQ2 q1 l1
        have hV2w : IntKind.i64.wrap (V2 : Int) = (V2 : Int) := wrap_to rfl (by omega)
        have hP2w : IntKind.i64.wrap (P2 : Int) = (P2 : Int) := wrap_to rfl (by omega)
        have hQw : IntKind.i64.wrap (Q2 : Int) = (Q2 : Int) := wrap_to rfl (by omega)
        have hDw : IntKind.i64.wrap ((P2 : Int) - (Q2 : Int)) = (P2 : Int) - (Q2 : Int) := wrap_ka (by omega) (by omega)
        have hS0 : wr.drew.cell? ⟨b1, o1 + t, none⟩ = some (.int .i64 (v : Nat)) := c1
        have F0 : Hid (OwnI w1.heap.size u5 (hvi (A : Int) (zl t x)) wr.drew ∧ Below w1.heap.size w1 wr.drew) := ⟨HG.out.1.drewN 1, HG.out.2.drew⟩
        go_upto_region 9 with fail
        refine wp_region_noPanic ?_
        refine wp_region_L (S := fun wx => wx.cell? ⟨b1, o1 + t, none⟩ = some (.int .i64 (v : Nat))) [] (by kernel_rfl) ?_
        obtain ⟨x0, hx0⟩ : ∃ x0, x0 = wr.drew := ⟨_, rfl⟩
        have hsx0 : w1.heap.size ≤ x0.heap.size := by rw [hx0]; exact hsz
        rw [← hx0] at F0 hS0
        rw [← hx0]
        clear hx0
        refine wpAnyL_take (i := 0) (v := ?_) (by rw [List.getElem?_toArray]; rfl) (by decide +kernel) (by decide +kernel) (by decide +kernel) (by decide +kernel) (by decide +kernel) (fun _ _ _ h => h) hS0 (Or.inl ⟨by rfl, ?_⟩) ?_
        rotate_left
        · intro wz hSz; have z0 : wz.cell? ⟨b1, o1 + t, none⟩ = some (.int .i64 (v : Nat)) := hSz; go_simp; (try simp only [hV2w, hP2w, hQw, hDw]); first | done | with_reducible rfl | rfl
        try simp only [Act.put, List.setIfInBounds_toArray, List.set_cons_zero, List.set_cons_succ]
        refine wpAnyL_take (i := 1) (v := ?_) (by rw [List.getElem?_toArray]; rfl) (by decide +kernel) (by decide +kernel) (by decide +kernel) (by decide +kernel) (by decide +kernel) (fun _ _ _ h => h) hS0 (Or.inl ⟨by rfl, ?_⟩) ?_
        rotate_left
        · intro wz hSz; have z0 : wz.cell? ⟨b1, o1 + t, none⟩ = some (.int .i64 (v : Nat)) := hSz; go_simp; (try simp only [hV2w, hP2w, hQw, hDw]); first | done | with_reducible rfl | rfl
        try simp only [Act.put, List.setIfInBounds_toArray, List.set_cons_zero, List.set_cons_succ]
        refine wpAnyL_take (i := 2) (v := ?_) (by rw [List.getElem?_toArray]; rfl) (by decide +kernel) (by decide +kernel) (by decide +kernel) (by decide +kernel) (by decide +kernel) (fun _ _ _ h => h) hS0 (Or.inl ⟨by rfl, ?_⟩) ?_
        rotate_left
        · intro wz hSz; have z0 : wz.cell? ⟨b1, o1 + t, none⟩ = some (.int .i64 (v : Nat)) := hSz; go_simp; (try simp only [hV2w, hP2w, hQw, hDw]); first | done | with_reducible rfl | rfl
        try simp only [Act.put, List.setIfInBounds_toArray, List.set_cons_zero, List.set_cons_succ]
        refine wpAnyL_take (i := 3) (v := ?_) (by rw [List.getElem?_toArray]; rfl) (by decide +kernel) (by decide +kernel) (by decide +kernel) (by decide +kernel) (by decide +kernel) (fun _ _ _ h => h) hS0 (Or.inl ⟨by rfl, ?_⟩) ?_
        rotate_left
        · intro wz hSz; have z0 : wz.cell? ⟨b1, o1 + t, none⟩ = some (.int .i64 (v : Nat)) := hSz; go_simp; (try simp only [hV2w, hP2w, hQw, hDw]); first | done | with_reducible rfl | rfl
        try simp only [Act.put, List.setIfInBounds_toArray, List.set_cons_zero, List.set_cons_succ]
        refine wpAnyL_take (i := 4) (v := ?_) (by rw [List.getElem?_toArray]; rfl) (by decide +kernel) (by decide +kernel) (by decide +kernel) (by decide +kernel) (by decide +kernel) (fun _ _ _ h => h) hS0 (Or.inl ⟨by rfl, ?_⟩) ?_
        rotate_left
        · intro wz hSz; have z0 : wz.cell? ⟨b1, o1 + t, none⟩ = some (.int .i64 (v : Nat)) := hSz; go_simp; (try simp only [hV2w, hP2w, hQw, hDw]); first | done | with_reducible rfl | rfl
        try simp only [Act.put, List.setIfInBounds_toArray, List.set_cons_zero, List.set_cons_succ]
        refine wpAnyL_take (i := 5) (v := ?_) (by rw [List.getElem?_toArray]; rfl) (by decide +kernel) (by decide +kernel) (by decide +kernel) (by decide +kernel) (by decide +kernel) (fun _ _ _ h => h) hS0 (Or.inl ⟨by rfl, ?_⟩) ?_
        rotate_left
        · intro wz hSz; have z0 : wz.cell? ⟨b1, o1 + t, none⟩ = some (.int .i64 (v : Nat)) := hSz; go_simp; (try simp only [hV2w, hP2w, hQw, hDw]); first | done | with_reducible rfl | rfl
        try simp only [Act.put, List.setIfInBounds_toArray, List.set_cons_zero, List.set_cons_succ]
        refine wpAnyL_take (i := 6) (v := ?_) (by rw [List.getElem?_toArray]; rfl) (by decide +kernel) (by decide +kernel) (by decide +kernel) (by decide +kernel) (by decide +kernel) (fun _ _ _ h => h) hS0 (Or.inl ⟨by rfl, ?_⟩) ?_
        rotate_left
        · intro wz hSz; have z0 : wz.cell? ⟨b1, o1 + t, none⟩ = some (.int .i64 (v : Nat)) := hSz; go_simp; (try simp only [hV2w, hP2w, hQw, hDw]); first | done | with_reducible rfl | rfl
        try simp only [Act.put, List.setIfInBounds_toArray, List.set_cons_zero, List.set_cons_succ]
        refine wpAnyL_take (i := 7) (v := ?_) (by rw [List.getElem?_toArray]; rfl) (by decide +kernel) (by decide +kernel) (by decide +kernel) (by decide +kernel) (by decide +kernel) (fun _ _ _ h => h) hS0 (Or.inl ⟨by rfl, ?_⟩) ?_
        rotate_left
        · intro wz hSz; have z0 : wz.cell? ⟨b1, o1 + t, none⟩ = some (.int .i64 (v : Nat)) := hSz; go_simp; (try simp only [hV2w, hP2w, hQw, hDw]); first | done | with_reducible rfl | rfl
        try simp only [Act.put, List.setIfInBounds_toArray, List.set_cons_zero, List.set_cons_succ]
        refine wpAnyL_take (i := 8) (v := ?_) (by rw [List.getElem?_toArray]; rfl) (by decide +kernel) (by decide +kernel) (by decide +kernel) (by decide +kernel) (by decide +kernel) (fun _ _ _ h => h) hS0 (Or.inl ⟨by rfl, ?_⟩) ?_
        rotate_left
        · intro wz hSz; have z0 : wz.cell? ⟨b1, o1 + t, none⟩ = some (.int .i64 (v : Nat)) := hSz; go_simp; (try simp only [hV2w, hP2w, hQw, hDw]); first | done | with_reducible rfl | rfl
        try simp only [Act.put, List.setIfInBounds_toArray, List.set_cons_zero, List.set_cons_succ]
        refine wpAnyL_take (i := 9) (v := ?_) (by rw [List.getElem?_toArray]; rfl) (by decide +kernel) (by decide +kernel) (by decide +kernel) (by decide +kernel) (by decide +kernel) (fun _ _ _ h => h) hS0 (Or.inl ⟨by rfl, ?_⟩) ?_
        rotate_left
        · intro wz hSz; have z0 : wz.cell? ⟨b1, o1 + t, none⟩ = some (.int .i64 (v : Nat)) := hSz; go_simp; (try simp only [hV2w, hP2w, hQw, hDw]); first | done | with_reducible rfl | rfl
        try simp only [Act.put, List.setIfInBounds_toArray, List.set_cons_zero, List.set_cons_succ]
        refine wpAnyL_take (i := 10) (v := ?_) (by rw [List.getElem?_toArray]; rfl) (by decide +kernel) (by decide +kernel) (by decide +kernel) (by decide +kernel) (by decide +kernel) (fun _ _ _ h => h) hS0 (Or.inl ⟨by rfl, ?_⟩) ?_
        rotate_left
        · intro wz hSz; have z0 : wz.cell? ⟨b1, o1 + t, none⟩ = some (.int .i64 (v : Nat)) := hSz; go_simp; (try simp only [hV2w, hP2w, hQw, hDw]); first | done | with_reducible rfl | rfl
        try simp only [Act.put, List.setIfInBounds_toArray, List.set_cons_zero, List.set_cons_succ]
        refine wpAnyL_take (i := 11) (v := ?_) (by rw [List.getElem?_toArray]; rfl) (by decide +kernel) (by decide +kernel) (by decide +kernel) (by decide +kernel) (by decide +kernel) (fun _ _ _ h => h) hS0 (Or.inl ⟨by rfl, ?_⟩) ?_
        rotate_left
        · intro wz hSz; have z0 : wz.cell? ⟨b1, o1 + t, none⟩ = some (.int .i64 (v : Nat)) := hSz; go_simp; (try simp only [hV2w, hP2w, hQw, hDw]); first | done | with_reducible rfl | rfl
        try simp only [Act.put, List.setIfInBounds_toArray, List.set_cons_zero, List.set_cons_succ]
        refine wpAnyL_take (i := 12) (v := ?_) (by rw [List.getElem?_toArray]; rfl) (by decide +kernel) (by decide +kernel) (by decide +kernel) (by decide +kernel) (by decide +kernel) (fun _ _ _ h => h) hS0 (Or.inl ⟨by rfl, ?_⟩) ?_
        rotate_left
        · intro wz hSz; have z0 : wz.cell? ⟨b1, o1 + t, none⟩ = some (.int .i64 (v : Nat)) := hSz; go_simp; (try simp only [hV2w, hP2w, hQw, hDw]); first | done | with_reducible rfl | rfl
        try simp only [Act.put, List.setIfInBounds_toArray, List.set_cons_zero, List.set_cons_succ]
        refine wpAnyL_take (i := 13) (v := ?_) (by rw [List.getElem?_toArray]; rfl) (by decide +kernel) (by decide +kernel) (by decide +kernel) (by decide +kernel) (by decide +kernel) (fun _ _ _ h => h) hS0 (Or.inl ⟨by rfl, ?_⟩) ?_
        rotate_left
        · intro wz hSz; have z0 : wz.cell? ⟨b1, o1 + t, none⟩ = some (.int .i64 (v : Nat)) := hSz; go_simp; (try simp only [hV2w, hP2w, hQw, hDw]); first | done | with_reducible rfl | rfl
        try simp only [Act.put, List.setIfInBounds_toArray, List.set_cons_zero, List.set_cons_succ]
        refine wpAnyL_take (i := 14) (v := ?_) (by rw [List.getElem?_toArray]; rfl) (by decide +kernel) (by decide +kernel) (by decide +kernel) (by decide +kernel) (by decide +kernel) (fun _ _ _ h => h) hS0 (Or.inl ⟨by rfl, ?_⟩) ?_
        rotate_left
        · intro wz hSz; have z0 : wz.cell? ⟨b1, o1 + t, none⟩ = some (.int .i64 (v : Nat)) := hSz; go_simp; (try simp only [hV2w, hP2w, hQw, hDw]); first | done | with_reducible rfl | rfl
        try simp only [Act.put, List.setIfInBounds_toArray, List.set_cons_zero, List.set_cons_succ]
        refine wpAnyL_take (i := 15) (v := ?_) (by rw [List.getElem?_toArray]; rfl) (by decide +kernel) (by decide +kernel) (by decide +kernel) (by decide +kernel) (by decide +kernel) (fun _ _ _ h => h) hS0 (Or.inl ⟨by rfl, ?_⟩) ?_
        rotate_left
        · intro wz hSz; have z0 : wz.cell? ⟨b1, o1 + t, none⟩ = some (.int .i64 (v : Nat)) := hSz; go_simp; (try simp only [hV2w, hP2w, hQw, hDw]); first | done | with_reducible rfl | rfl
        try simp only [Act.put, List.setIfInBounds_toArray, List.set_cons_zero, List.set_cons_succ]
        refine wpAnyL_take (i := 16) (v := ?_) (by rw [List.getElem?_toArray]; rfl) (by decide +kernel) (by decide +kernel) (by decide +kernel) (by decide +kernel) (by decide +kernel) (fun _ _ _ h => h) hS0 (Or.inl ⟨by rfl, ?_⟩) ?_
        rotate_left
        · intro wz hSz; have z0 : wz.cell? ⟨b1, o1 + t, none⟩ = some (.int .i64 (v : Nat)) := hSz; go_simp; (try simp only [hV2w, hP2w, hQw, hDw]); first | done | with_reducible rfl | rfl
        try simp only [Act.put, List.setIfInBounds_toArray, List.set_cons_zero, List.set_cons_succ]
        refine wpAnyL_take (i := 17) (v := ?_) (by rw [List.getElem?_toArray]; rfl) (by decide +kernel) (by decide +kernel) (by decide +kernel) (by decide +kernel) (by decide +kernel) (fun _ _ _ h => h) hS0 (Or.inl ⟨by rfl, ?_⟩) ?_
        rotate_left
        · intro wz hSz; have z0 : wz.cell? ⟨b1, o1 + t, none⟩ = some (.int .i64 (v : Nat)) := hSz; go_simp; (try simp only [hV2w, hP2w, hQw, hDw]); first | done | with_reducible rfl | rfl
        try simp only [Act.put, List.setIfInBounds_toArray, List.set_cons_zero, List.set_cons_succ]
        refine wpAnyL_take (i := 18) (v := ?_) (by rw [List.getElem?_toArray]; rfl) (by decide +kernel) (by decide +kernel) (by decide +kernel) (by decide +kernel) (by decide +kernel) (fun _ _ _ h => h) hS0 (Or.inl ⟨by rfl, ?_⟩) ?_
        rotate_left
        · intro wz hSz; have z0 : wz.cell? ⟨b1, o1 + t, none⟩ = some (.int .i64 (v : Nat)) := hSz; go_simp; (try simp only [hV2w, hP2w, hQw, hDw]); first | done | with_reducible rfl | rfl
        try simp only [Act.put, List.setIfInBounds_toArray, List.set_cons_zero, List.set_cons_succ]
        refine wpAnyL_take (i := 19) (v := ?_) (by rw [List.getElem?_toArray]; rfl) (by decide +kernel) (by decide +kernel) (by decide +kernel) (by decide +kernel) (by decide +kernel) (fun _ _ _ h => h) hS0 (Or.inl ⟨by rfl, ?_⟩) ?_
        rotate_left
        · intro wz hSz; have z0 : wz.cell? ⟨b1, o1 + t, none⟩ = some (.int .i64 (v : Nat)) := hSz; go_simp; (try simp only [hV2w, hP2w, hQw, hDw]); first | done | with_reducible rfl | rfl
        try simp only [Act.put, List.setIfInBounds_toArray, List.set_cons_zero, List.set_cons_succ]
        refine wpAnyL_take (i := 20) (v := ?_) (by rw [List.getElem?_toArray]; rfl) (by decide +kernel) (by decide +kernel) (by decide +kernel) (by decide +kernel) (by decide +kernel) (fun _ _ _ h => h) hS0 (Or.inl ⟨by rfl, ?_⟩) ?_
        rotate_left
        · intro wz hSz; have z0 : wz.cell? ⟨b1, o1 + t, none⟩ = some (.int .i64 (v : Nat)) := hSz; go_simp; (try simp only [hV2w, hP2w, hQw, hDw]); first | done | with_reducible rfl | rfl
        try simp only [Act.put, List.setIfInBounds_toArray, List.set_cons_zero, List.set_cons_succ]
        refine wpAnyL_take (i := 21) (v := ?_) (by rw [List.getElem?_toArray]; rfl) (by decide +kernel) (by decide +kernel) (by decide +kernel) (by decide +kernel) (by decide +kernel) (fun _ _ _ h => h) hS0 (Or.inl ⟨by rfl, ?_⟩) ?_
        rotate_left
        · intro wz hSz; have z0 : wz.cell? ⟨b1, o1 + t, none⟩ = some (.int .i64 (v : Nat)) := hSz; go_simp; (try simp only [hV2w, hP2w, hQw, hDw]); first | done | with_reducible rfl | rfl
        try simp only [Act.put, List.setIfInBounds_toArray, List.set_cons_zero, List.set_cons_succ]
        refine wpAnyL_take (i := 22) (v := ?_) (by rw [List.getElem?_toArray]; rfl) (by decide +kernel) (by decide +kernel) (by decide +kernel) (by decide +kernel) (by decide +kernel) (fun _ _ _ h => h) hS0 (Or.inl ⟨by rfl, ?_⟩) ?_
        rotate_left
        · intro wz hSz; have z0 : wz.cell? ⟨b1, o1 + t, none⟩ = some (.int .i64 (v : Nat)) := hSz; go_simp; (try simp only [hV2w, hP2w, hQw, hDw]); first | done | with_reducible rfl | rfl
        try simp only [Act.put, List.setIfInBounds_toArray, List.set_cons_zero, List.set_cons_succ]
        refine wpAnyL_take (i := 23) (v := ?_) (by rw [List.getElem?_toArray]; rfl) (by decide +kernel) (by decide +kernel) (by decide +kernel) (by decide +kernel) (by decide +kernel) (fun _ _ _ h => h) hS0 (Or.inl ⟨by rfl, ?_⟩) ?_
        rotate_left
        · intro wz hSz; have z0 : wz.cell? ⟨b1, o1 + t, none⟩ = some (.int .i64 (v : Nat)) := hSz; go_simp; (try simp only [hV2w, hP2w, hQw, hDw]); first | done | with_reducible rfl | rfl
        try simp only [Act.put, List.setIfInBounds_toArray, List.set_cons_zero, List.set_cons_succ]
        refine wpAnyL_take (i := 24) (v := ?_) (by rw [List.getElem?_toArray]; rfl) (by decide +kernel) (by decide +kernel) (by decide +kernel) (by decide +kernel) (by decide +kernel) (fun _ _ _ h => h) hS0 (Or.inl ⟨by rfl, ?_⟩) ?_
        rotate_left
        · intro wz hSz; have z0 : wz.cell? ⟨b1, o1 + t, none⟩ = some (.int .i64 (v : Nat)) := hSz; go_simp; (try simp only [hV2w, hP2w, hQw, hDw]); first | done | with_reducible rfl | rfl
        try simp only [Act.put, List.setIfInBounds_toArray, List.set_cons_zero, List.set_cons_succ]
        refine wpAnyL_take (i := 25) (v := ?_) (by rw [List.getElem?_toArray]; rfl) (by decide +kernel) (by decide +kernel) (by decide +kernel) (by decide +kernel) (by decide +kernel) (fun _ _ _ h => h) hS0 (Or.inl ⟨by rfl, ?_⟩) ?_
        rotate_left
        · intro wz hSz; have z0 : wz.cell? ⟨b1, o1 + t, none⟩ = some (.int .i64 (v : Nat)) := hSz; go_simp; (try simp only [hV2w, hP2w, hQw, hDw]); first | done | with_reducible rfl | rfl
        try simp only [Act.put, List.setIfInBounds_toArray, List.set_cons_zero, List.set_cons_succ]
        refine wpAnyL_take (i := 26) (v := ?_) (by rw [List.getElem?_toArray]; rfl) (by decide +kernel) (by decide +kernel) (by decide +kernel) (by decide +kernel) (by decide +kernel) (fun _ _ _ h => h) hS0 (Or.inl ⟨by rfl, ?_⟩) ?_
        rotate_left
        · intro wz hSz; have z0 : wz.cell? ⟨b1, o1 + t, none⟩ = some (.int .i64 (v : Nat)) := hSz; go_simp; (try simp only [hV2w, hP2w, hQw, hDw]); first | done | with_reducible rfl | rfl
        try simp only [Act.put, List.setIfInBounds_toArray, List.set_cons_zero, List.set_cons_succ]
        refine wpAnyL_one (i := 27) (by kernel_rfl) (by rw [List.getElem?_toArray]; rfl) (fun K9 hK => ?_)
        have HK : Hid _ := hK
        clear hK
        go_simp
        obtain ⟨x1, hx1⟩ : ∃ x1, x1 = x0.alloc (.cells #[.int .i64 ((P2 : Int) - (Q2 : Int)), .int .i64 (Q2 : Nat)] 3) := ⟨_, rfl⟩
        obtain ⟨gT, hgT⟩ : ∃ gT, gT = x0.heap.size := ⟨_, rfl⟩
        have F1 : Hid (OwnI w1.heap.size u5 (hvi (A : Int) (zl t x)) x1 ∧ Below w1.heap.size w1 x1 ∧ SlZ (some ⟨gT, 0, none⟩) 2 (fun j => if j = 0 then (P2 : Int) - (Q2 : Int) else (Q2 : Int)) x1) := by
          rw [hx1, hgT]
          refine ⟨F0.out.1.alloc _, F0.out.2.alloc hsx0 _, fun j hj => ⟨_, 0, rfl, ?_⟩⟩
          have : j = 0 ∨ j = 1 := by omega
          rcases this with rfl | rfl
          · exact (alc2 x0 _ _ _).1
          · exact (alc2 x0 _ _ _).2
        have hS1 : x1.cell? ⟨b1, o1 + t, none⟩ = some (.int .i64 (v : Nat)) := by
          have hb : Below x0.heap.size x0 x1 := by rw [hx1]; exact (Below.refl _ _).alloc (Nat.le_refl _) _
          exact (hb.cell (p := ⟨b1, o1 + t, none⟩) (cell_lt hS0)).trans hS0
        have hsx1 : w1.heap.size ≤ x1.heap.size := F1.out.2.1.size
        try rw [← hx1]
        try rw [← hgT]
        have HK2 := HK.out
        clear hx1 hgT
        refine HK2 _ _ (fun _ => hS1) ?_
        clear HK2 HK K9
        try simp only [Act.put, List.setIfInBounds_toArray, List.set_cons_zero, List.set_cons_succ]
        refine wpAnyL_one (i := 28) (by kernel_rfl) (by rw [List.getElem?_toArray]; rfl) (fun K9 hK => ?_)
        have HK : Hid _ := hK
        clear hK
        refine step_append_intsP (by rfl) _ _ (by rfl) w1.heap.size u5 (hvi (A : Int) (zl t x)) (by rfl) F1.out.1 ⟨gT, 0, none⟩ 2 2 (fun j => if j = 0 then (P2 : Int) - (Q2 : Int) else (Q2 : Int)) (by rfl) F1.out.2.2 (by have := HE2.out.2; omega) hsx1 ?_
        intro v3 w3 hown3 hgrow3
        have HY : Hid (OwnI w1.heap.size v3 (hvi (A : Int) (zl (t + 1) x)) w3 ∧ Below w1.heap.size w1 w3) := by
          refine ⟨?_, F1.out.2.1.grown hgrow3 hsx1 (fun k hk => (F1.out.1.lt k hk).1)⟩
          rw [HE2.out.1]; exact hown3
        have hS3 : w3.cell? ⟨b1, o1 + t, none⟩ = some (.int .i64 (v : Nat)) := (HY.out.2.cell (p := ⟨b1, o1 + t, none⟩) hl1).trans hq1
        clear hown3 hgrow3
        refine HK.out _ _ (fun _ => hS3) ?_
        clear HK K9
        try simp only [Act.put, List.setIfInBounds_toArray, List.set_cons_zero, List.set_cons_succ]
        refine wpAnyL_take (i := 29) (v := ?_) (by rw [List.getElem?_toArray]; rfl) (by decide +kernel) (by decide +kernel) (by decide +kernel) (by decide +kernel) (by decide +kernel) (fun _ _ _ h => h) hS3 (Or.inl ⟨by rfl, ?_⟩) ?_
        rotate_left
        · intro wz hSz; have z0 : wz.cell? ⟨b1, o1 + t, none⟩ = some (.int .i64 (v : Nat)) := hSz; go_simp; (try simp only [hV2w, hP2w, hQw, hDw]); first | done | with_reducible rfl | rfl
        try simp only [Act.put, List.setIfInBounds_toArray, List.set_cons_zero, List.set_cons_succ]
        refine wpAnyL_done (by kernel_rfl) (NoPanic.normal ?_)
        clear hS0 hS1 hS3 c1
        go_wp2
        go_roundw
        case rel => exact ⟨t + 1, by omega, by go_num, HY.out⟩
        case measure => simp [intOf]; omega
      · have hib : ¬ (t : Int) < (P : Int) := by omega
        have hie : t = P := by omega
        subst hie
        have HF : Hid (∃ v, u5 = v ∧ OwnI w.heap.size v l2 wr ∧ Below w.heap.size w wr) := ⟨_, rfl, by rw [← H1.out.2.2.2]; exact HG.out.1.mono H1.out.2.1.size, bel_up' H1.out.2.1 HG.out.2⟩
        go_wp2
        go_ret
        obtain ⟨v9, rfl, h9⟩ := HF.out
        exact ⟨_, rfl, h9⟩
theorem losses_any {m : Nat} (hm : m ≤ 5) (w : World) :
    Calls Try.prog 6 #[.int .i64 (m : Nat)] w fun e w' => ∃ v, e = .returned v ∧ OwnI w.heap.size v (lsI m) w' ∧ Below w.heap.size w w' := by
  induction m with
  | zero => exact losses_zero w
  | succ m ih => exact losses_step hm w (ih (by omega))
end Go.Proofs.Ytbfkacnpbelmlaa
