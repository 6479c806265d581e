/- Texts of ours, one behind the other: S92 S93 S94 S95. -/
import Derived.Test.YtbnkekeeceicaaaZS47
/- Nets: the fewest edges out of a set, by all sets; what all of these have. -/
namespace Go.Proofs.Ytbnkekeeceicaaa

theorem cpS_cg {n m : Nat} {F T : Nat → Nat} {S S' : Nat → Bool} (hN : Nt n m F T) (h : ∀ v, v < n → S v = S' v) : cpS m F T S = cpS m F T S' :=
  nf_cg m (fun i hi => by have h1 := hN.up i hi; have h2 := hN.lt i hi; rw [h _ (by omega : F i < n), h _ h2])
theorem cpS_le (m : Nat) (F T : Nat → Nat) (S : Nat → Bool) : cpS m F T S ≤ m := nf_top _ m
/-- Best and all, of the first r sets. -/
def cuB (m : Nat) (F T : Nat → Nat) (t : Nat) : Nat → Nat × Nat
  | 0 => (m + 1, 0)
  | r + 1 => if (2 * r + 1).testBit t = true then cuB m F T t r else if cpS m F T (2 * r + 1).testBit < (cuB m F T t r).1 then (cpS m F T (2 * r + 1).testBit, 2 * r + 1) else if cpS m F T (2 * r + 1).testBit = (cuB m F T t r).1 then ((cuB m F T t r).1, (cuB m F T t r).2 &&& (2 * r + 1)) else cuB m F T t r
theorem cuB_inv {m : Nat} {F T : Nat → Nat} {t k kb R : Nat} (hkt : kb.testBit t = false) (hck : cpS m F T kb.testBit = k) (hodd : kb % 2 = 1) (hkm : k ≤ m)
    (hall : ∀ r, r < R → (2 * r + 1).testBit t = false → k ≤ cpS m F T (2 * r + 1).testBit ∧ (cpS m F T (2 * r + 1).testBit = k → kb &&& (2 * r + 1) = kb)) :
    ∀ r, r ≤ R → k ≤ (cuB m F T t r).1 ∧ ((cuB m F T t r).1 = k → kb &&& (cuB m F T t r).2 = kb) ∧ (kb < 2 * r → (cuB m F T t r).1 = k ∧ (cuB m F T t r).2 &&& kb = (cuB m F T t r).2)
  | 0, _ => ⟨by show k ≤ m + 1; omega, fun h => absurd h (by show ¬ m + 1 = k; omega), fun h => absurd h (by omega)⟩
  | r + 1, hr => by
    obtain ⟨i1, i2, i3⟩ := cuB_inv hkt hck hodd hkm hall r (by omega)
    have ha := hall r (by omega)
    obtain ⟨p, hp⟩ : ∃ p, p = cuB m F T t r := ⟨_, rfl⟩
    obtain ⟨c, hc⟩ : ∃ c, c = cpS m F T (2 * r + 1).testBit := ⟨_, rfl⟩
    have e : cuB m F T t (r + 1) = if (2 * r + 1).testBit t = true then p else if c < p.1 then (c, 2 * r + 1) else if c = p.1 then (p.1, p.2 &&& (2 * r + 1)) else p := by rw [hp, hc]; rfl
    rw [← hp] at i1 i2 i3
    rw [← hc] at ha
    rw [e]
    by_cases ht : (2 * r + 1).testBit t = true
    · rw [if_pos ht]
      refine ⟨i1, i2, fun h => i3 ?_⟩
      have : kb ≠ 2 * r + 1 := fun q => by rw [q, ht] at hkt; cases hkt
      omega
    · rw [if_neg ht]
      have ht' : (2 * r + 1).testBit t = false := Bool.eq_false_iff.2 ht
      obtain ⟨a1, a2⟩ := ha ht'
      by_cases c1 : c < p.1
      · rw [if_pos c1]
        refine ⟨a1, a2, fun h => ?_⟩
        by_cases q : kb = 2 * r + 1
        · refine ⟨by show c = k; rw [hc, ← q]; exact hck, ?_⟩
          show (2 * r + 1) &&& kb = 2 * r + 1
          rw [q, Nat.and_self]
        · have := (i3 (by omega)).1; omega
      · rw [if_neg c1]
        by_cases c2 : c = p.1
        · rw [if_pos c2]
          refine ⟨i1, fun h => ?_, fun h => ?_⟩
          · have h : p.1 = k := h
            show kb &&& (p.2 &&& (2 * r + 1)) = kb
            rw [← Nat.and_assoc, i2 h, a2 (by omega)]
          · by_cases q : kb = 2 * r + 1
            · refine ⟨by show p.1 = k; rw [← c2, hc, ← q]; exact hck, ?_⟩
              show (p.2 &&& (2 * r + 1)) &&& kb = p.2 &&& (2 * r + 1)
              rw [q, Nat.and_assoc, Nat.and_self]
            · obtain ⟨b1, b2⟩ := i3 (by omega)
              refine ⟨b1, ?_⟩
              show (p.2 &&& (2 * r + 1)) &&& kb = p.2 &&& (2 * r + 1)
              rw [Nat.and_assoc, Nat.and_comm (2 * r + 1) kb, ← Nat.and_assoc, b2]
        · rw [if_neg c2]
          refine ⟨i1, i2, fun h => i3 ?_⟩
          have : kb ≠ 2 * r + 1 := fun q => by
            have : c = k := by rw [hc, ← q]; exact hck
            omega
          omega
/-- A set's number. -/
def bnm (S : Nat → Bool) : Nat → Nat
  | 0 => 0
  | n + 1 => if S n = true then 2 ^ n + bnm S n else bnm S n
theorem bnm_lt (S : Nat → Bool) : ∀ n, bnm S n < 2 ^ n
  | 0 => by show 0 < 1; omega
  | n + 1 => by
    have := bnm_lt S n
    show (if S n = true then 2 ^ n + bnm S n else bnm S n) < 2 ^ (n + 1)
    rw [Nat.pow_succ]
    split <;> omega
theorem bnm_bit (S : Nat → Bool) : ∀ n v, (bnm S n).testBit v = (decide (v < n) && S v)
  | 0, v => by show (0 : Nat).testBit v = _; rw [Nat.zero_testBit, decide_eq_false (by omega), Bool.false_and]
  | n + 1, v => by
    show (if S n = true then 2 ^ n + bnm S n else bnm S n).testBit v = _
    have hlt := bnm_lt S n
    rcases Nat.lt_trichotomy v n with h | h | h
    · rw [decide_eq_true (show v < n + 1 by omega), Bool.true_and]
      have ih := bnm_bit S n v
      rw [decide_eq_true h, Bool.true_and] at ih
      split
      · rw [Nat.testBit_two_pow_add_gt h]; exact ih
      · exact ih
    · subst h
      rw [decide_eq_true (show v < v + 1 by omega), Bool.true_and]
      have h0 : (bnm S v).testBit v = false := Nat.testBit_lt_two_pow hlt
      cases hs : S v with
      | true => rw [if_pos rfl, Nat.testBit_two_pow_add_eq, h0]; rfl
      | false => rw [if_neg (by decide)]; exact h0
    · rw [decide_eq_false (show ¬ v < n + 1 by omega), Bool.false_and]
      have h2 : (if S n = true then 2 ^ n + bnm S n else bnm S n) < 2 ^ v := Nat.lt_of_lt_of_le (bnm_lt S (n + 1)) (Nat.pow_le_pow_right (by omega) (by omega))
      exact Nat.testBit_lt_two_pow h2
/-- What Cuts tells, of a net and its flow. -/
theorem cuB_flow {n m : Nat} {F T : Nat → Nat} {us : Nat → Bool} {t k : Nat} {L : List Nat} {bt : Nat → Nat} (hN : Nt n m F T) (hn : 0 < n) (h : Flw m F T us t k) (hR : Rch m F T us L bt) (ht : t ∉ L) : cuB m F T t (2 ^ (n - 1)) = (k, bnm (inL L) n) := by
  obtain ⟨kb, hkb⟩ : ∃ kb, kb = bnm (inL L) n := ⟨_, rfl⟩
  have hbit : ∀ v, kb.testBit v = (decide (v < n) && inL L v) := fun v => by rw [hkb]; exact bnm_bit _ _ _
  have hc : cpS m F T kb.testBit = k := by
    rw [cpS_cg hN (S' := inL L) (fun v hv => by rw [hbit, decide_eq_true hv, Bool.true_and])]
    exact hR.tight hN hn h ht
  have hkt : kb.testBit t = false := by
    rw [hbit]
    cases c : inL L t with
    | false => rw [Bool.and_false]
    | true => exact absurd (inL_yes.1 c) ht
  have h0 : kb.testBit 0 = true := by rw [hbit, decide_eq_true hn, Bool.true_and]; exact inL_yes.2 hR.zero
  have hodd : kb % 2 = 1 := by rw [Nat.testBit_zero] at h0; simpa using h0
  have hlt : kb < 2 ^ n := by rw [hkb]; exact bnm_lt _ _
  have h2 : 2 * 2 ^ (n - 1) = 2 ^ n := by
    obtain ⟨d, rfl⟩ : ∃ d, n = d + 1 := ⟨n - 1, by omega⟩
    rw [Nat.add_sub_cancel, Nat.pow_succ]; omega
  have hkm : k ≤ m := by rw [← hc]; exact cpS_le _ _ _ _
  have hi := cuB_inv hkt hc hodd hkm (R := 2 ^ (n - 1)) (fun r _ hst => by
    have hs0 : (2 * r + 1).testBit 0 = true := by rw [Nat.testBit_zero]; simp
    refine ⟨h.le hN hn hs0 hst, fun hs => ?_⟩
    have hcl := h.tight hN hn hs0 hst hs
    apply Nat.eq_of_testBit_eq
    intro v
    rw [Nat.testBit_and, hbit]
    cases d : inL L v with
    | false => rw [Bool.and_false, Bool.false_and]
    | true => rw [hR.sub hs0 hcl (inL_yes.1 d), Bool.and_true]) _ (Nat.le_refl _)
  obtain ⟨_, i2, i3⟩ := hi
  obtain ⟨b1, b2⟩ := i3 (by omega)
  have b3 := i2 b1
  have e2 : (cuB m F T t (2 ^ (n - 1))).2 = kb := by rw [← b2, Nat.and_comm]; exact b3
  rw [← hkb, ← e2, ← b1]
end Go.Proofs.Ytbnkekeeceicaaa

/- Nets: a flow as ways; how far a way has come. -/
namespace Go.Proofs.Ytbnkekeeceicaaa

/-- Edges one behind the other, from x to t. -/
def Chn (F T : Nat → Nat) : Nat → List Nat → Nat → Prop
  | x, [], t => x = t
  | x, e :: l, t => F e = x ∧ Chn F T (T e) l t
theorem Chn.add {F T : Nat → Nat} {e : Nat} : ∀ {l : List Nat} {x y : Nat}, Chn F T x l y → F e = y → Chn F T x (l ++ [e]) (T e)
  | [], x, y, h, he => by
    have h : x = y := h
    exact ⟨by rw [h]; exact he, rfl⟩
  | a :: l, x, y, h, he => ⟨h.1, h.2.add he⟩
/-- What is left of a flow. -/
def rmn (us : Nat → Bool) (A : List Nat) : Nat → Bool := fun i => us i && !A.contains i
theorem rmn_add {us : Nat → Bool} {A : List Nat} {e : Nat} (he : rmn us A e = true) : rmn us (A ++ [e]) = tgl (rmn us A) e := by
  funext i
  unfold tgl
  by_cases c : i = e
  · rw [if_pos c, c, he]
    unfold rmn
    simp
  · rw [if_neg c]
    unfold rmn
    congr 1
    have : (A ++ [e]).contains i = A.contains i := by
      rw [Bool.eq_iff_iff, List.contains_iff_mem, List.contains_iff_mem, List.mem_append, List.mem_singleton]
      exact ⟨fun h => h.resolve_right c, Or.inl⟩
    rw [this]
/-- While ways are told: j are whole, one has come to x. -/
structure Wys (m : Nat) (F T : Nat → Nat) (us : Nat → Bool) (t k : Nat) (A : List Nat) (wy : Nat → Nat) (P : Nat → List Nat) (j : Nat) : Prop where
  nd : A.Nodup
  in' : ∀ e, e ∈ A → e < m ∧ us e = true
  of' : ∀ e i, e ∈ P i ↔ e ∈ A ∧ wy e = i
  ch : ∀ i, i < j → Chn F T 0 (P i) t
theorem Wys.none (m : Nat) (F T : Nat → Nat) (us : Nat → Bool) (t k : Nat) : Wys m F T us t k [] (fun _ => 0) (fun _ => []) 0 :=
  ⟨List.nodup_nil, fun e h => (by cases h), fun e i => ⟨fun h => (by cases h), fun h => (by cases h.1)⟩, fun i h => absurd h (by omega)⟩
/-- At x there is one edge more. -/
theorem way_on {m : Nat} {F T : Nat → Nat} {rm : Nat → Bool} {x t k : Nat} (h : Bal m F T rm x t k) (hx : x ≠ t) : ∃ e, e < m ∧ rm e = true ∧ F e = x := by
  have h1 := h x
  rw [if_neg hx, if_pos rfl] at h1
  have h2 : 0 < edN m F rm x := by omega
  obtain ⟨e, he, hp⟩ := nf_pos m h2
  simp only [Bool.and_eq_true, decide_eq_true_eq] at hp
  exact ⟨e, he, hp.1, hp.2⟩
theorem way_next {m : Nat} {F T : Nat → Nat} {us : Nat → Bool} {A : List Nat} {x t k e : Nat} (h : Bal m F T (rmn us A) x t k) (he : e < m) (hr : rmn us A e = true) (hf : F e = x) : Bal m F T (rmn us (A ++ [e])) (T e) t k := by
  have h1 := h.step he (by unfold frT; rw [hr, if_pos rfl]; exact hf)
  rw [rmn_add hr]
  have e2 : frF F T (rmn us A) e = T e := by unfold frF; rw [hr, if_pos rfl]
  rw [e2] at h1
  exact h1
theorem Flw.first {m : Nat} {F T : Nat → Nat} {us : Nat → Bool} {t k : Nat} (h : Flw m F T us t (k + 1)) : Bal m F T us 0 t k := fun v => by
  have h1 := h v
  by_cases c : v = 0
  · rw [if_pos c] at h1; rw [if_pos c, if_pos c]; omega
  · rw [if_neg c] at h1; rw [if_neg c, if_neg c]; omega
theorem Bal.last {m : Nat} {F T : Nat → Nat} {us : Nat → Bool} {t k : Nat} (h : Bal m F T us t t k) : Flw m F T us t k := fun v => by
  have h1 := h v
  by_cases c : v = t
  · rw [if_pos c, if_pos c] at h1; rw [if_pos c]; omega
  · rw [if_neg c, if_neg c] at h1; rw [if_neg c]; omega
/-- One edge more on way j. -/
theorem Wys.add {m : Nat} {F T : Nat → Nat} {us : Nat → Bool} {t k : Nat} {A : List Nat} {wy : Nat → Nat} {P : Nat → List Nat} {j e : Nat} (h : Wys m F T us t k A wy P j) (he : e < m) (hr : rmn us A e = true) :
    Wys m F T us t k (A ++ [e]) (fun i => if i = e then j else wy i) (fun i => if i = j then P j ++ [e] else P i) j := by
  unfold rmn at hr
  rw [Bool.and_eq_true] at hr
  have hn : e ∉ A := fun c => by rw [List.contains_iff_mem.2 c] at hr; cases hr.2
  refine ⟨?_, fun i hi => ?_, fun i q => ?_, fun i hi => ?_⟩
  · rw [List.nodup_append]
    exact ⟨h.nd, by simp, fun a ha b hb => by rw [List.mem_singleton.1 hb]; intro c; rw [c] at ha; exact hn ha⟩
  · rcases List.mem_append.1 hi with c | c
    · exact h.in' i c
    · rw [List.mem_singleton.1 c]; exact ⟨he, hr.1⟩
  · show i ∈ (if q = j then P j ++ [e] else P q) ↔ i ∈ A ++ [e] ∧ (if i = e then j else wy i) = q
    rw [List.mem_append, List.mem_singleton]
    by_cases c : q = j
    · rw [if_pos c, List.mem_append, List.mem_singleton, h.of' i j]
      by_cases d : i = e
      · rw [if_pos d]; exact ⟨fun _ => ⟨Or.inr d, c.symm⟩, fun _ => Or.inr d⟩
      · rw [if_neg d, c]
        exact ⟨fun x => x.elim (fun y => ⟨Or.inl y.1, y.2⟩) (fun y => absurd y d), fun x => Or.inl ⟨x.1.resolve_right d, x.2⟩⟩
    · rw [if_neg c, h.of' i q]
      by_cases d : i = e
      · rw [if_pos d]
        exact ⟨fun x => absurd (by rw [← d]; exact x.1) hn, fun x => absurd x.2.symm c⟩
      · rw [if_neg d]
        exact ⟨fun x => ⟨Or.inl x.1, x.2⟩, fun x => ⟨x.1.resolve_right d, x.2⟩⟩
  · show Chn F T 0 (if i = j then P j ++ [e] else P i) t
    rw [if_neg (by omega)]
    exact h.ch i hi
theorem Wys.next {m : Nat} {F T : Nat → Nat} {us : Nat → Bool} {t k : Nat} {A : List Nat} {wy : Nat → Nat} {P : Nat → List Nat} {j : Nat} (h : Wys m F T us t k A wy P j) (hc : Chn F T 0 (P j) t) : Wys m F T us t k A wy P (j + 1) :=
  ⟨h.nd, h.in', h.of', fun i hi => by
    by_cases c : i = j
    · rw [c]; exact hc
    · exact h.ch i (by omega)⟩
/-- How far a way has come: its last edge of some. -/
def lst (D : Nat → Bool) : List Nat → Option Nat
  | [] => none
  | e :: l => match lst D l with
    | some a => some a
    | none => if D e = true then some e else none
theorem lst_none {D : Nat → Bool} : ∀ {l : List Nat}, (∀ e, e ∈ l → D e = false) → lst D l = none
  | [], _ => rfl
  | e :: l, h => by
    show (match lst D l with | some a => some a | none => if D e = true then some e else none) = none
    rw [lst_none (fun a ha => h a (List.mem_cons_of_mem _ ha)), h e List.mem_cons_self]
    rfl
theorem lst_cg {D D' : Nat → Bool} : ∀ {l : List Nat}, (∀ e, e ∈ l → D e = D' e) → lst D l = lst D' l
  | [], _ => rfl
  | e :: l, h => by
    show (match lst D l with | some a => some a | none => if D e = true then some e else none) = (match lst D' l with | some a => some a | none => if D' e = true then some e else none)
    rw [lst_cg (fun a ha => h a (List.mem_cons_of_mem _ ha)), h e List.mem_cons_self]
theorem lst_in {D : Nat → Bool} {a : Nat} : ∀ {l : List Nat}, lst D l = some a → a ∈ l ∧ D a = true
  | [], h => by cases h
  | e :: l, h => by
    have h : (match lst D l with | some a => some a | none => if D e = true then some e else none) = some a := h
    cases q : lst D l with
    | some b =>
      rw [q] at h
      have h : some b = some a := h
      have := lst_in (a := b) q
      rw [Option.some.inj h] at this
      exact ⟨List.mem_cons_of_mem _ this.1, this.2⟩
    | none =>
      rw [q] at h
      by_cases c : D e = true
      · rw [if_pos c] at h
        have h := Option.some.inj h
        rw [← h]; exact ⟨List.mem_cons_self, c⟩
      · rw [if_neg c] at h; cases h
/-- All edges of a way begin behind its beginning. -/
theorem Chn.ge {m : Nat} {F T : Nat → Nat} (hup : ∀ i, i < m → F i < T i) : ∀ {l : List Nat} {x t : Nat}, (∀ e, e ∈ l → e < m) → Chn F T x l t → ∀ e, e ∈ l → x ≤ F e
  | [], _, _, _, _, _, he => by cases he
  | a :: l, x, t, hm, h, e, he => by
    rcases List.mem_cons.1 he with c | c
    · rw [c, h.1]; exact Nat.le_refl _
    · have h1 := Chn.ge hup (fun i hi => hm i (List.mem_cons_of_mem _ hi)) h.2 e c
      have h2 := hup a (hm a List.mem_cons_self)
      have h3 := h.1
      omega
/-- Where a way stands when its edge e comes. -/
theorem Chn.at' {m : Nat} {F T : Nat → Nat} (hup : ∀ i, i < m → F i < T i) {D : Nat → Bool} {e : Nat} : ∀ {l : List Nat} {x t : Nat}, (∀ e, e ∈ l → e < m) → Chn F T x l t → e ∈ l → (∀ a, a ∈ l → F a < F e → D a = true) → (∀ a, a ∈ l → F e ≤ F a → D a = false) → (F e = x ∧ lst D l = none) ∨ ∃ a, lst D l = some a ∧ T a = F e
  | [], _, _, _, _, he, _, _ => by cases he
  | b :: l, x, t, hm, h, he, h1, h2 => by
    have hbm := hm b List.mem_cons_self
    have hlm := fun i hi => hm i (List.mem_cons_of_mem b hi)
    have hge := Chn.ge hup hlm h.2
    have hub := hup b hbm
    by_cases c : e = b
    · subst c
      refine Or.inl ⟨h.1, lst_none (fun a ha => h2 a ha ?_)⟩
      rcases List.mem_cons.1 ha with d | d
      · rw [d]; exact Nat.le_refl _
      · have := hge a d; omega
    · have hel : e ∈ l := (List.mem_cons.1 he).resolve_left c
      have hDb : D b = true := h1 b List.mem_cons_self (by have := hge e hel; omega)
      right
      show ∃ a, (match lst D l with | some a => some a | none => if D b = true then some b else none) = some a ∧ T a = F e
      rcases Chn.at' hup hlm h.2 hel (fun a ha => h1 a (List.mem_cons_of_mem _ ha)) (fun a ha => h2 a (List.mem_cons_of_mem _ ha)) with ⟨d1, d2⟩ | ⟨a, d1, d2⟩
      · rw [d2]
        exact ⟨b, if_pos hDb, d1.symm⟩
      · rw [d1]
        exact ⟨a, rfl, d2⟩
/-- And when it has come. -/
theorem Chn.now {m : Nat} {F T : Nat → Nat} (hup : ∀ i, i < m → F i < T i) {D : Nat → Bool} {e : Nat} (hDe : D e = true) : ∀ {l : List Nat} {x t : Nat}, (∀ e, e ∈ l → e < m) → Chn F T x l t → e ∈ l → (∀ a, a ∈ l → a ≠ e → F e ≤ F a → D a = false) → lst D l = some e
  | [], _, _, _, _, he, _ => by cases he
  | b :: l, x, t, hm, h, he, h2 => by
    have hbm := hm b List.mem_cons_self
    have hlm := fun i hi => hm i (List.mem_cons_of_mem b hi)
    have hge := Chn.ge hup hlm h.2
    have hub := hup b hbm
    show (match lst D l with | some a => some a | none => if D b = true then some b else none) = some e
    by_cases c : e ∈ l
    · rw [Chn.now hup hDe hlm h.2 c (fun a ha => h2 a (List.mem_cons_of_mem _ ha))]
    · have hb : e = b := (List.mem_cons.1 he).resolve_right c
      subst hb
      rw [lst_none (fun a ha => h2 a (List.mem_cons_of_mem _ ha) (fun q => c (by rw [← q]; exact ha)) (by have := hge a ha; omega))]
      exact if_pos hDe
theorem lst_full {D : Nat → Bool} : ∀ {l : List Nat}, (∀ a, a ∈ l → D a = true) → lst D l = none → l = []
  | [], _, _ => rfl
  | b :: l, hD, h => by
    have h : (match lst D l with | some a => some a | none => if D b = true then some b else none) = none := h
    cases q : lst D l with
    | some a => rw [q] at h; cases h
    | none => rw [q] at h; rw [if_pos (hD b List.mem_cons_self)] at h; cases h
theorem Chn.fin {F T : Nat → Nat} {D : Nat → Bool} {a : Nat} : ∀ {l : List Nat} {x t : Nat}, Chn F T x l t → (∀ a, a ∈ l → D a = true) → lst D l = some a → T a = t
  | [], _, _, _, _, h => by cases h
  | b :: l, x, t, hc, hD, h => by
    have h : (match lst D l with | some a => some a | none => if D b = true then some b else none) = some a := h
    have hD2 := fun a ha => hD a (List.mem_cons_of_mem b ha)
    cases q : lst D l with
    | some c =>
      rw [q] at h
      have h : some c = some a := h
      rw [← Option.some.inj h]
      exact Chn.fin hc.2 hD2 q
    | none =>
      rw [q] at h
      have h : (if D b = true then some b else none) = some a := h
      rw [if_pos (hD b List.mem_cons_self)] at h
      have hab := Option.some.inj h
      have hl := lst_full hD2 q
      subst hl
      rw [← hab]
      exact hc.2
/-- At the end. -/
theorem Chn.end' {F T : Nat → Nat} {D : Nat → Bool} {l : List Nat} {x t : Nat} (h : Chn F T x l t) (hx : x ≠ t) (hD : ∀ a, a ∈ l → D a = true) : ∃ a, lst D l = some a ∧ T a = t := by
  cases q : lst D l with
  | some a => exact ⟨a, rfl, h.fin hD q⟩
  | none =>
    have hl := lst_full hD q
    subst hl
    exact absurd h hx
end Go.Proofs.Ytbnkekeeceicaaa

/- Sorting by turning two about: what stays, what comes out. -/
namespace Go.Proofs.Ytbnkekeeceicaaa

theorem ct_set {f : Nat → Bool} {i : Nat} {c : Bool} : ∀ m, i < m → ct (fun x => if x = i then c else f x) m + (if f i = true then 1 else 0) = ct f m + (if c = true then 1 else 0)
  | 0, h => absurd h (by omega)
  | m + 1, h => by
    show ct (fun x => if x = i then c else f x) m + (if (if m = i then c else f m) = true then 1 else 0) + _ = ct f m + (if f m = true then 1 else 0) + _
    by_cases e : m = i
    · rw [if_pos e, nf_cg (p := fun x => if x = i then c else f x) (q := f) m (fun x hx => if_neg (by omega)), e]
      omega
    · rw [if_neg e]
      have ih := ct_set (f := f) (i := i) (c := c) m (by omega)
      omega
/-- Two turned about. -/
def swq (p : Nat → Nat) (i j : Nat) : Nat → Nat := fun x => if x = i then p j else if x = j then p i else p x
theorem swq_ct {p : Nat → Nat} {i j m : Nat} (hi : i < m) (hj : j < m) (q : Nat → Bool) : ct (fun x => q (swq p i j x)) m = ct (fun x => q (p x)) m := by
  have e : ∀ x, x < m → q (swq p i j x) = if x = i then q (p j) else if x = j then q (p i) else q (p x) := fun x _ => by
    unfold swq
    split
    · rfl
    · split <;> rfl
  rw [nf_cg m e]
  have h1 := ct_set (f := fun x => if x = j then q (p i) else q (p x)) (i := i) (c := q (p j)) m hi
  have h2 := ct_set (f := fun x => q (p x)) (i := j) (c := q (p i)) m hj
  by_cases c : i = j
  · rw [c] at h1 h2 ⊢
    rw [if_pos rfl] at h1
    omega
  · rw [if_neg c] at h1
    omega
/-- The same numbers, and the same ones outside of a to b. -/
def Rng (m a b : Nat) (p p' : Nat → Nat) : Prop := (∀ x, ¬ (a ≤ x ∧ x < b) → p' x = p x) ∧ ∀ q : Nat → Bool, ct (fun x => q (p' x)) m = ct (fun x => q (p x)) m
theorem Rng.refl (m a b : Nat) (p : Nat → Nat) : Rng m a b p p := ⟨fun _ _ => rfl, fun _ => rfl⟩
theorem Rng.trans {m a b : Nat} {p p' p'' : Nat → Nat} (h : Rng m a b p p') (k : Rng m a b p' p'') : Rng m a b p p'' := ⟨fun x hx => (k.1 x hx).trans (h.1 x hx), fun q => (k.2 q).trans (h.2 q)⟩
theorem Rng.wide {m a b a' b' : Nat} {p p' : Nat → Nat} (h : Rng m a b p p') (ha : a' ≤ a) (hb : b ≤ b') : Rng m a' b' p p' := ⟨fun x hx => h.1 x (fun q => hx ⟨by omega, by omega⟩), h.2⟩
theorem Rng.swq {m a b i j : Nat} (p : Nat → Nat) (hi : a ≤ i ∧ i < b) (hj : a ≤ j ∧ j < b) (hb : b ≤ m) : Rng m a b p (Go.Proofs.Ytbnkekeeceicaaa.swq p i j) :=
  ⟨fun x hx => by unfold Go.Proofs.Ytbnkekeeceicaaa.swq; rw [if_neg (fun e => hx (by rw [e]; exact hi)), if_neg (fun e => hx (by rw [e]; exact hj))], fun q => swq_ct (by omega) (by omega) q⟩
/-- What all in a to b have they have behind it. -/
theorem Rng.all {m a b : Nat} {p p' : Nat → Nat} (h : Rng m a b p p') (hb : b ≤ m) (Q : Nat → Bool) (hQ : ∀ x, a ≤ x → x < b → Q (p x) = true) : ∀ x, a ≤ x → x < b → Q (p' x) = true := by
  have e := h.2 (fun v => !Q v)
  have h1 := nf_part (fun x => !Q (p' x)) (fun x => decide (a ≤ x ∧ x < b)) m
  have h2 := nf_part (fun x => !Q (p x)) (fun x => decide (a ≤ x ∧ x < b)) m
  have h3 : ct (fun x => (!Q (p' x)) && !decide (a ≤ x ∧ x < b)) m = ct (fun x => (!Q (p x)) && !decide (a ≤ x ∧ x < b)) m := nf_cg m (fun x _ => by
    by_cases c : a ≤ x ∧ x < b
    · rw [decide_eq_true c, Bool.not_true, Bool.and_false, Bool.and_false]
    · rw [h.1 x c])
  have h4 : ct (fun x => (!Q (p x)) && decide (a ≤ x ∧ x < b)) m = 0 := ct_none m (fun x _ => by
    by_cases c : a ≤ x ∧ x < b
    · rw [hQ x c.1 c.2]; rfl
    · rw [decide_eq_false c, Bool.and_false])
  have h5 : ct (fun x => (!Q (p' x)) && decide (a ≤ x ∧ x < b)) m = 0 := by
    have e' : ct (fun x => !Q (p' x)) m = ct (fun x => !Q (p x)) m := e
    omega
  intro x hx1 hx2
  have := nf_nil m h5 x (by omega)
  rw [decide_eq_true (show a ≤ x ∧ x < b from ⟨hx1, hx2⟩), Bool.and_true] at this
  simpa using this
/-- Rising from a to b. -/
def Sdd (K : Nat → Nat) (p : Nat → Nat) (a b : Nat) : Prop := ∀ i j, a ≤ i → i ≤ j → j < b → K (p i) ≤ K (p j)
theorem Sdd.sub {K p : Nat → Nat} {a b a' b' : Nat} (h : Sdd K p a b) (ha : a ≤ a') (hb : b' ≤ b) : Sdd K p a' b' := fun i j h1 h2 h3 => h i j (by omega) h2 (by omega)
theorem Sdd.cg {K p p' : Nat → Nat} {a b : Nat} (h : Sdd K p a b) (e : ∀ x, a ≤ x → x < b → p' x = p x) : Sdd K p' a b := fun i j h1 h2 h3 => by
  rw [e i h1 (by omega), e j (by omega) h3]; exact h i j h1 h2 h3
/-- Two that are rising, the first nowhere above the second. -/
theorem Sdd.join {K p : Nat → Nat} {a c b : Nat} (h1 : Sdd K p a c) (h2 : Sdd K p c b) (h : ∀ i j, a ≤ i → i < c → c ≤ j → j < b → K (p i) ≤ K (p j)) : Sdd K p a b := fun i j q1 q2 q3 => by
  by_cases d : j < c
  · exact h1 i j q1 q2 d
  · by_cases e : i < c
    · exact h i j q1 e (by omega) q3
    · exact h2 i j (by omega) q2 q3
/-- Turned about as long as needed, one by one: where it stood is free. -/
theorem Sdd.down {K p : Nat → Nat} {a i k : Nat} (h : ∀ x y, a ≤ x → x ≤ y → y ≤ i → x ≠ k → y ≠ k → K (p x) ≤ K (p y)) (hk : a < k) (hg : ∀ y, k < y → y ≤ i → K (p k) ≤ K (p y)) (hlt : K (p k) < K (p (k - 1))) :
    (∀ x y, a ≤ x → x ≤ y → y ≤ i → x ≠ k - 1 → y ≠ k - 1 → K (swq p k (k - 1) x) ≤ K (swq p k (k - 1) y)) ∧ (∀ y, k - 1 < y → y ≤ i → K (swq p k (k - 1) (k - 1)) ≤ K (swq p k (k - 1) y)) := by
  have s1 : swq p k (k - 1) k = p (k - 1) := by unfold swq; rw [if_pos rfl]
  have s2 : swq p k (k - 1) (k - 1) = p k := by unfold swq; rw [if_neg (by omega), if_pos rfl]
  have s3 : ∀ x, x ≠ k → x ≠ k - 1 → swq p k (k - 1) x = p x := fun x h1 h2 => by unfold swq; rw [if_neg h1, if_neg h2]
  refine ⟨fun x y h1 h2 h3 h4 h5 => ?_, fun y h1 h2 => ?_⟩
  · by_cases c : x = k
    · by_cases d : y = k
      · rw [c, d]; exact Nat.le_refl _
      · rw [c, s1, s3 y d h5]; exact h (k - 1) y (by omega) (by omega) h3 (by omega) d
    · by_cases d : y = k
      · rw [d, s1, s3 x c h4]; exact h x (k - 1) h1 (by omega) (by omega) c (by omega)
      · rw [s3 x c h4, s3 y d h5]; exact h x y h1 h2 h3 c d
  · rw [s2]
    by_cases d : y = k
    · rw [d, s1]; omega
    · rw [s3 y d (by omega)]; exact hg y (by omega) h2
theorem Sdd.stop {K p : Nat → Nat} {a i k : Nat} (h : ∀ x y, a ≤ x → x ≤ y → y ≤ i → x ≠ k → y ≠ k → K (p x) ≤ K (p y)) (hg : ∀ y, k < y → y ≤ i → K (p k) ≤ K (p y)) (hs : k = a ∨ K (p (k - 1)) ≤ K (p k)) : Sdd K p a (i + 1) := fun x y h1 h2 h3 => by
  by_cases c : x = k
  · by_cases d : y = k
    · rw [c, d]; exact Nat.le_refl _
    · rw [c]; exact hg y (by omega) (by omega)
  · by_cases d : y = k
    · rcases hs with e | e
      · omega
      · rw [d]
        by_cases z : x = k - 1
        · rw [z]; exact e
        · exact Nat.le_trans (h x (k - 1) h1 (by omega) (by omega) c (by omega)) e
    · exact h x y h1 h2 (by omega) c d
end Go.Proofs.Ytbnkekeeceicaaa

/- Sorting: parts of a row turned about. -/
namespace Go.Proofs.Ytbnkekeeceicaaa

/-- n from a on and n from b on turned about. -/
def swr (p : Nat → Nat) (a b n : Nat) : Nat → Nat := fun x => if a ≤ x ∧ x < a + n then p (x - a + b) else if b ≤ x ∧ x < b + n then p (x - b + a) else p x
theorem swr_zero (p : Nat → Nat) (a b : Nat) : swr p a b 0 = p := by
  funext x
  unfold swr
  rw [if_neg (by omega), if_neg (by omega)]
theorem swr_next {p : Nat → Nat} {a b i : Nat} (h : a + i < b) : swr p a b (i + 1) = swq (swr p a b i) (a + i) (b + i) := by
  funext x
  have s1 : swr p a b i (a + i) = p (a + i) := by unfold swr; rw [if_neg (by omega), if_neg (by omega)]
  have s2 : swr p a b i (b + i) = p (b + i) := by unfold swr; rw [if_neg (by omega), if_neg (by omega)]
  show swr p a b (i + 1) x = if x = a + i then swr p a b i (b + i) else if x = b + i then swr p a b i (a + i) else swr p a b i x
  rw [s1, s2]
  by_cases c : x = a + i
  · rw [if_pos c]
    unfold swr
    rw [if_pos (by omega), show x - a + b = b + i by omega]
  · rw [if_neg c]
    by_cases d : x = b + i
    · rw [if_pos d]
      unfold swr
      rw [if_neg (by omega), if_pos (by omega), show x - b + a = a + i by omega]
    · rw [if_neg d]
      unfold swr
      by_cases e1 : a ≤ x ∧ x < a + i
      · rw [if_pos (by omega), if_pos e1]
      · rw [if_neg (by omega), if_neg e1]
        by_cases e2 : b ≤ x ∧ x < b + i
        · rw [if_pos (by omega), if_pos e2]
        · rw [if_neg (by omega), if_neg e2]
theorem Rng.swr {m a b n lo hi : Nat} (p : Nat → Nat) (hab : a + n ≤ b) (hlo : lo ≤ a) (hhi : b + n ≤ hi) (hm : hi ≤ m) : ∀ i, i ≤ n → Rng m lo hi p (Go.Proofs.Ytbnkekeeceicaaa.swr p a b i)
  | 0, _ => by rw [swr_zero]; exact Rng.refl _ _ _ _
  | i + 1, h => by
    rw [swr_next (by omega)]
    exact (Rng.swr p hab hlo hhi hm i (by omega)).trans (Rng.swq _ ⟨by omega, by omega⟩ ⟨by omega, by omega⟩ hm)
/-- Two parts that lie beside each other, i up to m and j from it on, change places. -/
def rtd (p : Nat → Nat) (m i j : Nat) : Nat → Nat := fun x => if m - i ≤ x ∧ x < m - i + j then p (x + i) else if m - i + j ≤ x ∧ x < m + j then p (x - j) else p x
theorem rtd_less {p : Nat → Nat} {m i j : Nat} (hij : j < i) (him : i ≤ m) : rtd p m i j = rtd (swr p (m - i) m j) m (i - j) j := by
  funext x
  have e : m - (i - j) = m - i + j := by omega
  unfold rtd
  rw [e]
  by_cases c1 : m - i ≤ x ∧ x < m - i + j
  · rw [if_pos c1, if_neg (by omega), if_neg (by omega)]
    unfold swr
    rw [if_pos (by omega), show x - (m - i) + m = x + i by omega]
  · rw [if_neg c1]
    by_cases c2 : m - i + j ≤ x ∧ x < m - i + j + j
    · rw [if_pos (by omega), if_pos c2]
      unfold swr
      rw [if_neg (by omega), if_pos (by omega), show x + (i - j) - m + (m - i) = x - j by omega]
    · rw [if_neg c2]
      by_cases c3 : m - i + j ≤ x ∧ x < m + j
      · rw [if_pos c3, if_pos (by omega)]
        unfold swr
        rw [if_neg (by omega), if_neg (by omega)]
      · rw [if_neg c3, if_neg (by omega)]
        unfold swr
        rw [if_neg (by omega), if_neg (by omega)]
theorem rtd_more {p : Nat → Nat} {m i j : Nat} (hij : i < j) (him : i ≤ m) : rtd p m i j = rtd (swr p (m - i) (m + j - i) i) m i (j - i) := by
  funext x
  unfold rtd
  by_cases c1 : m - i ≤ x ∧ x < m - i + (j - i)
  · rw [if_pos (by omega), if_pos c1]
    unfold swr
    rw [if_neg (by omega), if_neg (by omega)]
  · rw [if_neg c1]
    by_cases c2 : m - i + (j - i) ≤ x ∧ x < m + (j - i)
    · rw [if_pos (by omega), if_pos c2]
      unfold swr
      rw [if_pos (by omega), show x - (j - i) - (m - i) + (m + j - i) = x + i by omega]
    · rw [if_neg c2]
      by_cases c3 : m + (j - i) ≤ x ∧ x < m + j
      · rw [if_neg (by omega), if_pos (by omega)]
        unfold swr
        rw [if_neg (by omega), if_pos (by omega), show x - (m + j - i) + (m - i) = x - j by omega]
      · rw [if_neg (by omega), if_neg (by omega)]
        unfold swr
        rw [if_neg (by omega), if_neg (by omega)]
theorem rtd_same {p : Nat → Nat} {m i : Nat} (him : i ≤ m) : rtd p m i i = swr p (m - i) m i := by
  funext x
  unfold rtd swr
  by_cases c1 : m - i ≤ x ∧ x < m - i + i
  · rw [if_pos c1, if_pos c1, show x - (m - i) + m = x + i by omega]
  · rw [if_neg c1, if_neg c1]
    by_cases c2 : m - i + i ≤ x ∧ x < m + i
    · rw [if_pos c2, if_pos (by omega), show x - m + (m - i) = x - i by omega]
    · rw [if_neg c2, if_neg (by omega)]
end Go.Proofs.Ytbnkekeeceicaaa
