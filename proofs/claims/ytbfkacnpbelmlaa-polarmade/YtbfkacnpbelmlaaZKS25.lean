/- Polar: the reference's PolarRead, of one number. -/
import Derived.Test.YtbfkacnpbelmlaaZKS24
import Derived.Test.YtbfkacnpbelmlaaZKS5
import Derived.Test.YtbfkacnpbelmlaaZR5
namespace Go.Proofs.Ytbfkacnpbelmlaa
open Go.RowKit Go.Sort

theorem rp_slI {ao : Option Addr} {n cap : Nat} {z : Nat → Int} {w : World} (h : SlZ ao n z w) (hn : n ≤ 1000000) : SliceI (.slice ao n cap) (zl n z) w := by
  by_cases h0 : n = 0
  · subst h0
    exact Or.inl ⟨rfl, ao, cap, rfl⟩
  · obtain ⟨b, off, rfl, _⟩ := h 0 (by omega)
    refine Or.inr ⟨fun e => ?_, by rw [zl_len]; exact hn, b, off, cap, by rw [zl_len], fun j hj => ?_⟩
    · have := congrArg List.length e
      rw [zl_len] at this
      exact h0 this
    · rw [zl_len] at hj
      obtain ⟨b', off', e, hc⟩ := h j hj
      cases e
      rw [zl_getD n z j hj]; exact hc
/-- 'append' of some numbers, and where the list lies then. -/
theorem append_ints_at {ops : Array Oper} {rest : List Oper} {o : Oper} {a : Act} {w : World} {Q : Exit → Act → World → Prop} (hgd : o.guard = none) (s x : Operand)
    (ho : o.op = .call { callee := .builtin .append, args := #[s, x], argTypes := #[22, 22] })
    (base : Nat) (v : Value) (l : List Int) (hs : a.eval s = v) (hown : OwnI base v l w) (ad : Addr) (n sc : Nat) (z : Nat → Int) (hx : a.eval x = .slice (some ad) n sc) (hS : SlZ (some ad) n z w)
    (hn : l.length + n ≤ 1000000) (hbase : base ≤ w.heap.size)
    (h : ∀ v' w', OwnI base v' (l ++ zl n z) w' → w.grownBy w' v.ownBlock → (v'.ownBlock = v.ownBlock ∨ v'.ownBlock = some w.heap.size) → wpList Try.prog ops Q rest (a.put o.dst v') w') : wpList Try.prog ops Q (o :: rest) a w := by
  obtain ⟨i0, hi, hz0, hz1, hz2⟩ := info_parts Try.infoInt
  refine wpList_append_own_at _ hgd s x 22 ho base 3 i0 (.int .i64 0) 1 8 Try.underlying22 hi hz0 hz1 hz2 rfl (by decide) v l.length _ hs hown ad n sc ((zl n z).map (Value.int .i64)) hx (by rw [List.length_map, zl_len]; omega) ?_ ?_ ?_ ?_ hbase ?_
  · intro j u hj
    have hj' : j < n := by
      have := (List.getElem?_eq_some_iff.1 hj).1
      rwa [List.length_map, zl_len] at this
    rw [List.getElem?_map, zl_get n z j hj'] at hj
    cases hj
    obtain ⟨b, off, e, hc⟩ := hS j hj'
    cases e
    rw [add_off]; exact hc
  · intro u hu
    obtain ⟨k, _, rfl⟩ := List.mem_map.1 hu
    rfl
  · unfold maxLen; omega
  · omega
  · intro v' w' hown' hgrow _ hat
    refine h v' w' ?_ hgrow hat
    unfold OwnI
    rw [List.map_append, List.length_append, zl_len]
    exact hown'
/-- What PolarRead answers. -/
def RrQ (N : Nat) (w : World) (o : Option ((Nat → Int) × (Nat → Int))) (e : Ending) (w' : World) : Prop :=
  Below w.heap.size w w' ∧ ∃ va vs, e = .returned (.tuple #[va, vs, .bool o.isSome]) ∧ ∀ r, o = some r → OwnI w.heap.size va (zl N r.1) w' ∧ OwnI w.heap.size vs (zl N r.2) w'
theorem results_3t {fn : Func} {t u v : Tmp} (h : fn.results = #[.tmp t, .tmp u, .tmp v]) (tmps : Array Value) (P : Program) (w : World) :
    (results fn tmps).run P w = .ok (.tuple #[tmps.getD t undef, tmps.getD u undef, tmps.getD v undef]) w := by
  simp [results, h]
theorem two_one (w : World) (a : Int) : OwnI w.heap.size (.slice (some ⟨w.heap.size, 0, none⟩) 1 1) [a] ((w.alloc (.cells #[.int .i64 a] 3)).alloc (.cells #[.int .i64 a] 3)) ∧ OwnI w.heap.size (.slice (some ⟨w.heap.size + 1, 0, none⟩) 1 1) [a] ((w.alloc (.cells #[.int .i64 a] 3)).alloc (.cells #[.int .i64 a] 3)) := by
  refine ⟨(ownI_lit w [a] (by simp)).alloc _, ?_⟩
  have h := ownI_lit (w.alloc (.cells #[.int .i64 a] 3)) [a] (by simp)
  have e : (w.alloc (.cells #[.int .i64 a] 3)).heap.size = w.heap.size + 1 := by simp
  rw [e] at h
  exact h.mono (by omega)

theorem two_bel (w : World) (n : Nat) (o1 o2 : Obj) : Below w.heap.size w (((w.drewN n).alloc o1).alloc o2) := by
  have h : Below w.heap.size w (w.drewN n) := bel_drewN (Below.refl _ _) n
  have h1 : Below w.heap.size w ((w.drewN n).alloc o1) := h.alloc (Nat.le_refl _) _
  exact h1.alloc h1.size _

set_option maxHeartbeats 4000000 in
set_option maxRecDepth 100000 in
theorem rread_zero {k fc q b off c : Nat} {fo : Option Addr} {p x : Nat → Int} {w : World} (hk : k ≤ 64) (hP : Prt b off 1 x w) (hf : SlZ fo k p w) :
    Calls Try.prog 35 #[.slice (some ⟨b, off, none⟩) 1 c, .slice fo k fc, .int .i64 (q : Nat)] w
      (RrQ 1 w (rdp (fun j => decide ((j : Int) ∈ zl k p)) 0 q x)) := by
  have hc : w.cell? ⟨b, off, none⟩ = some (.int .i64 (x 0)) := hP.2.1 0 (by omega)
  have hbt := hP.2.2 0 (by omega)
  obtain ⟨o, ho⟩ : ∃ o, o = rdp (fun j : Nat => decide ((j : Int) ∈ zl k p)) 0 q x := ⟨_, rfl⟩
  rw [← ho]
  have ho : o = (if decide ((q : Int) ∈ zl k p) = true then (if x 0 = -1 then none else some (x, x)) else (if x 0 = 1 then none else some (fun _ => 0, fun _ => 0))) := ho
  obtain ⟨t, ht⟩ : ∃ t, t = decide ((q : Int) ∈ zl k p) := ⟨_, rfl⟩
  have HI : Hid (Calls Try.prog 48 #[.int .i64 (q : Nat), .slice fo k fc] w fun e w' => e = .returned (.bool t) ∧ ∃ n, w' = w.drewN n) := by rw [ht]; exact in_any _ (rp_slI hf (by omega))
  rw [← ht] at ho
  obtain ⟨a, ha⟩ : ∃ a, a = x 0 := ⟨_, rfl⟩
  rw [← ha] at ho hc hbt
  have HX : Hid (a = x 0 ∧ Btl a) := ⟨ha, hbt⟩
  clear hP hf ht ha
  cases t with
  | true =>
    rw [if_pos rfl] at ho
    by_cases h1 : a = -1
    · rw [if_pos h1] at ho
      subst h1 ho
      go_enter Try.func35, Try.ntmps35
      go_wp2_with fail
      refine HI.out.mono ?_
      rintro e w1 ⟨rfl, n1, rfl⟩
      go_wp2
      refine bodyPost_ret (results_3t rfl _ _ _) rfl ?_
      exact ⟨two_bel w n1 _ _, _, _, rfl, fun r hr => by cases hr⟩
    · rw [if_neg h1] at ho
      have ha0 : (0 : Int) ≤ a := by rcases HX.out.2 with e | e | e <;> omega
      have HO : Hid (o = some (x, x)) := ho
      clear ho
      go_enter Try.func35, Try.ntmps35
      go_wp2_with fail
      refine HI.out.mono ?_
      rintro e w1 ⟨rfl, n1, rfl⟩
      go_wp2
      refine bodyPost_ret (results_3t rfl _ _ _) rfl ?_
      rw [HO.out]
      refine ⟨two_bel w n1 _ _, _, _, rfl, fun r hr => ?_⟩
      cases hr
      have e : zl 1 x = [a] := by rw [HX.out.1]; rfl
      rw [e]
      exact two_one (w.drewN n1) a
  | false =>
    rw [if_neg (by intro e; cases e)] at ho
    by_cases h1 : a = 1
    · rw [if_pos h1] at ho
      subst h1 ho
      go_enter Try.func35, Try.ntmps35
      go_wp2_with fail
      refine HI.out.mono ?_
      rintro e w1 ⟨rfl, n1, rfl⟩
      go_wp2
      refine bodyPost_ret (results_3t rfl _ _ _) rfl ?_
      exact ⟨bel_drewN (Below.refl _ _) n1, _, _, rfl, fun r hr => by cases hr⟩
    · rw [if_neg h1] at ho
      have h1b : (a == 1) = false := by rw [beq_eq_false_iff_ne]; exact h1
      have HO : Hid (o = some (fun _ => 0, fun _ => 0)) := ho
      clear ho
      go_enter Try.func35, Try.ntmps35
      go_wp2_with fail
      refine HI.out.mono ?_
      rintro e w1 ⟨rfl, n1, rfl⟩
      go_wp2
      refine bodyPost_ret (results_3t rfl _ _ _) rfl ?_
      rw [HO.out]
      refine ⟨two_bel w n1 _ _, _, _, rfl, fun r hr => ?_⟩
      cases hr
      exact two_one (w.drewN n1) 0
end Go.Proofs.Ytbfkacnpbelmlaa
