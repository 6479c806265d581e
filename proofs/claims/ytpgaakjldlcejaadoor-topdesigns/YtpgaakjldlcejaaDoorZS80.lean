/- Sets of places as numbers: which blocks hold them, counted side by side; the words of a code as sets. No Go text here. -/
import Derived.Test.YtpgaakjldlcejaaDoorZS78
import Derived.Test.YtpgaakjldlcejaaDoorZS62
import Derived.Test.YtpgaakjldlcejaaDoorZKR4
namespace Go.Proofs.YtpgaakjldlcejaaDoor

theorem sub_iff (o s : Nat) : (o &&& s = s) ↔ ∀ i, s.testBit i = true → o.testBit i = true := by
  constructor
  · intro h i hi
    have : (o &&& s).testBit i = true := by rw [h]; exact hi
    rw [Nat.testBit_and, Bool.and_eq_true] at this
    exact this.1
  · intro h
    refine Nat.eq_of_testBit_eq fun i => ?_
    rw [Nat.testBit_and]
    cases hs : s.testBit i
    · simp
    · rw [h i hs]; rfl
theorem sub_more (o s v : Nat) : (o &&& (s ||| 2 ^ v) = (s ||| 2 ^ v)) ↔ (o &&& s = s ∧ o.testBit v = true) := by
  rw [sub_iff, sub_iff]
  constructor
  · intro h
    refine ⟨fun i hi => h i ?_, h v ?_⟩
    · rw [Nat.testBit_or, hi]; rfl
    · rw [Nat.testBit_or, Nat.testBit_two_pow_self, Bool.or_true]
  · rintro ⟨h1, h2⟩ i hi
    rw [Nat.testBit_or, Bool.or_eq_true] at hi
    rcases hi with hi | hi
    · exact h1 i hi
    · by_cases e : v = i
      · rw [← e]; exact h2
      · rw [Nat.testBit_two_pow_of_ne e] at hi; cases hi
theorem ct_one {p q : Nat → Bool} {c : Nat} (h : ∀ i, p i = (i == c || q i)) (hq : q c = false) : ∀ m, ct p m = ct q m + if c < m then 1 else 0
  | 0 => by rw [if_neg (by omega)]; rfl
  | m + 1 => by
    have ih := ct_one h hq m
    show ct p m + (if p m = true then 1 else 0) = ct q m + (if q m = true then 1 else 0) + (if c < m + 1 then 1 else 0)
    rw [ih]
    by_cases e : m = c
    · subst e
      have e1 : p m = true := by rw [h m]; simp
      have a : ¬ m < m := by omega
      have b : m < m + 1 := by omega
      rw [e1, hq]
      simp [a, b]
    · have e1 : p m = q m := by rw [h m, beq_eq_false_iff_ne.2 e, Bool.false_or]
      rw [e1]
      generalize (if q m = true then 1 else 0) = z
      by_cases hc : c < m
      · have b : c < m + 1 := by omega
        simp only [if_pos hc, if_pos b]; omega
      · have b : ¬ c < m + 1 := by omega
        simp only [if_neg hc, if_neg b]; omega
theorem odd_part : ∀ x : Nat, 0 < x → ∃ c m, x = 2 ^ c * (2 * m + 1) := fun x => by
  induction x using Nat.strongRecOn with
  | ind x ih =>
    intro hx
    by_cases h : x % 2 = 0
    · obtain ⟨c, m, e⟩ := ih (x / 2) (by omega) (by omega)
      refine ⟨c + 1, m, ?_⟩
      rw [Nat.pow_succ, Nat.mul_comm (2 ^ c) 2, Nat.mul_assoc, ← e]
      omega
    · exact ⟨0, x / 2, by rw [Nat.pow_zero, Nat.one_mul]; omega⟩
/-- Are just so many bits set? -/
def pcB : Nat → Nat → Bool
  | 0, x => Nat.beq x 0
  | k + 1, x => !(Nat.beq x 0) && pcB k (Nat.land x (x - 1))
theorem ct_no (m : Nat) : ct (fun i => (0 : Nat).testBit i) m = 0 := by
  induction m with
  | zero => rfl
  | succ m ih => show ct _ m + (if (0 : Nat).testBit m = true then 1 else 0) = 0; rw [ih, Nat.zero_testBit]; rfl
theorem pcB_ct {m : Nat} : ∀ k x, pcB k x = true → x < 2 ^ m → ct (fun i => x.testBit i) m = k
  | 0, x, h, _ => by
    rw [Nat.eq_of_beq_eq_true h]; exact ct_no m
  | k + 1, x, h, hx => by
    have h1 : (!(Nat.beq x 0) && pcB k (Nat.land x (x - 1))) = true := h
    rw [Bool.and_eq_true, Bool.not_eq_true'] at h1
    have h0 : 0 < x := by
      rcases Nat.eq_zero_or_pos x with e | e
      · rw [e] at h1; exact absurd h1.1 (by decide)
      · exact e
    obtain ⟨c, j, e⟩ := odd_part x h0
    have ey : Nat.land x (x - 1) = 2 ^ (c + 1) * j := low_off e
    have hle : 2 ^ (c + 1) * j ≤ x := by rw [← ey]; exact Nat.and_le_left
    have ih := pcB_ct k _ h1.2 (by rw [ey]; exact Nat.lt_of_le_of_lt hle hx)
    rw [ey] at ih
    have hb := low_bit e
    have hc : c < m := by
      have : 2 ^ c ≤ x := by rw [e]; exact Nat.le_mul_of_pos_right _ (by omega)
      exact (Nat.pow_lt_pow_iff_right (by omega)).1 (Nat.lt_of_le_of_lt this hx)
    rw [ct_one (q := fun i => (2 ^ (c + 1) * j).testBit i) (fun i => (hb i).1) (by
      cases q : (2 ^ (c + 1) * j).testBit c
      · rfl
      · have := (hb c).2 q; omega) m, ih, if_pos hc]
theorem lic_ct (f : Nat → Nat) (s : Nat) : ∀ m, lic f s m = ct (fun i => decide (f i &&& s = s)) m
  | 0 => rfl
  | m + 1 => by
    show lic f s m + (if f m &&& s = s then 1 else 0) = ct _ m + (if decide (f m &&& s = s) = true then 1 else 0)
    rw [lic_ct f s m]
    by_cases h : f m &&& s = s
    · rw [if_pos h, if_pos (by rw [decide_eq_true h])]
    · rw [if_neg h, if_neg (by rw [decide_eq_false h]; decide)]
theorem lic_list (f : Nat → Nat) (s : Nat) : ∀ m, lic f s m = ((List.range m).map f).countP fun o => decide (o &&& s = s)
  | 0 => rfl
  | m + 1 => by
    rw [List.range_succ, List.map_append, List.countP_append]
    show lic f s m + (if f m &&& s = s then 1 else 0) = _ + [f m].countP _
    rw [lic_list f s m, List.countP_singleton]
    by_cases h : f m &&& s = s
    · rw [if_pos h, if_pos (by rw [decide_eq_true h])]
    · rw [if_neg h, if_neg (by rw [decide_eq_false h]; decide)]
theorem lic_perm {f g : Nat → Nat} {m k : Nat} (h : ((List.range m).map f).Perm ((List.range k).map g)) (s : Nat) : lic f s m = lic g s k := by
  rw [lic_list, lic_list]; exact h.countP_eq _
/-- The sets that more places of a list of masks make, each tried. -/
def dcg (F : Nat → List Nat → Nat → Bool) (x : Nat) : Nat → Nat → List Nat → Bool
  | 0, _, _ => true
  | k + 1, v, ms => F (v + 1) ms.tail (Nat.land x (ms.headD 0)) && dcg F x k (v + 1) ms.tail
def dck (n lam : Nat) : Nat → Nat → List Nat → Nat → Bool
  | 0, _, _, x => pcB lam x
  | t + 1, v, ms, x => dcg (dck n lam t) x (n - t - v) v ms
/-- A mask tells of each block whether it has the place. -/
def MkO (f : Nat → Nat) (m n : Nat) (v : Nat) (ms : List Nat) : Prop := ∀ j, v + j < n → ∀ i, i < m → (ms.getD j 0).testBit i = (f i).testBit (v + j)
theorem MkO.tail {f : Nat → Nat} {m n v : Nat} {ms : List Nat} (h : MkO f m n v ms) : MkO f m n (v + 1) ms.tail := fun j hj i hi => by
  have := h (j + 1) (by omega) i hi
  rw [show v + 1 + j = v + (j + 1) by omega, ← this]
  cases ms with
  | nil => rfl
  | cons a l => rfl
def XiO (f : Nat → Nat) (m s x : Nat) : Prop := x < 2 ^ m ∧ ∀ i, i < m → x.testBit i = decide (f i &&& s = s)
theorem XiO.more {f : Nat → Nat} {m n v s x : Nat} {ms : List Nat} (h : XiO f m s x) (hm : MkO f m n v ms) (hv : v < n) : XiO f m (s ||| 2 ^ v) (Nat.land x (ms.headD 0)) := by
  have e0 : ms.headD 0 = ms.getD 0 0 := by cases ms <;> rfl
  refine ⟨Nat.lt_of_le_of_lt Nat.and_le_left h.1, fun i hi => ?_⟩
  show (x &&& ms.headD 0).testBit i = _
  rw [Nat.testBit_and, h.2 i hi, e0, hm 0 (by omega) i hi, Nat.add_zero]
  by_cases c : f i &&& s = s
  · by_cases d : (f i).testBit v = true
    · rw [decide_eq_true c, d, decide_eq_true ((sub_more _ _ _).2 ⟨c, d⟩)]; rfl
    · rw [decide_eq_false (fun q => d ((sub_more _ _ _).1 q).2), Bool.not_eq_true _ |>.mp d, Bool.and_false]
  · rw [decide_eq_false c, decide_eq_false (fun q => c ((sub_more _ _ _).1 q).1), Bool.false_and]
theorem dck_ok {f : Nat → Nat} {m n lam : Nat} : ∀ t v ms s x, dck n lam t v ms x = true → MkO f m n v ms → XiO f m s x → ∀ y ∈ sls n t v s, lic f y m = lam
  | 0, v, ms, s, x, h, _, hx, y, hy => by
    rw [List.mem_singleton.1 (show y ∈ [s] from hy), lic_ct]
    rw [← pcB_ct (m := m) lam x h hx.1]
    exact ct_same m (fun i hi => (hx.2 i hi).symm)
  | t + 1, v, ms, s, x, h, hm, hx, y, hy => by
    have go : ∀ k v ms, v + k ≤ n → dcg (dck n lam t) x k v ms = true → MkO f m n v ms → ∀ y ∈ sgo (sls n t) s k v, lic f y m = lam := fun k => by
      induction k with
      | zero => intro v ms _ _ _ y hy; cases hy
      | succ k ih =>
        intro v ms hv h hm y hy
        have h1 : (dck n lam t (v + 1) ms.tail (Nat.land x (ms.headD 0)) && dcg (dck n lam t) x k (v + 1) ms.tail) = true := h
        rw [Bool.and_eq_true] at h1
        rcases List.mem_append.1 (show y ∈ sls n t (v + 1) (s ||| 2 ^ v) ++ sgo (sls n t) s k (v + 1) from hy) with q | q
        · exact dck_ok t (v + 1) ms.tail (s ||| 2 ^ v) _ h1.1 hm.tail (hx.more hm (by omega)) y q
        · exact ih (v + 1) ms.tail (by omega) h1.2 hm.tail y q
    by_cases e : v + (n - t - v) ≤ n
    · exact go (n - t - v) v ms e h hm y hy
    · have e0 : n - t - v = 0 := by omega
      have hy2 : y ∈ sgo (sls n t) s (n - t - v) v := hy
      rw [e0] at hy2; cases hy2
theorem dsr_all {c : Nat → Nat} {k : Nat} : ∀ (L : List Nat) (x : Int), (∀ y ∈ L, c y = k) → (L ≠ [] ∨ x = (k : Int)) → (x < 0 ∨ x = (k : Int)) → dsr c L x = some ((k : Nat) : Int)
  | [], x, _, h, _ => by
    rcases h with h | h
    · exact absurd rfl h
    · show some x = _; rw [h]
  | y :: L, x, h, _, hx => by
    have hy := h y (List.mem_cons_self ..)
    show (if x < 0 ∨ (c y : Int) = x then dsr c L (c y) else none) = _
    rw [if_pos (by rcases hx with q | q; exact Or.inl q; exact Or.inr (by rw [hy, q])), hy]
    exact dsr_all L _ (fun z hz => h z (List.mem_cons_of_mem _ hz)) (Or.inr rfl) (Or.inr rfl)
/-! words as sets -/
def lst : List Nat → Nat
  | [] => 0
  | a :: l => (if a = 0 then 0 else 1) + 2 * lst l
theorem lst_bit : ∀ (l : List Nat) (i : Nat), (lst l).testBit i = (decide (i < l.length) && !decide (((lsf l i : Nat) : Int) = 0))
  | [], i => by show (0 : Nat).testBit i = _; rw [Nat.zero_testBit]; rfl
  | a :: l, 0 => by
    show ((if a = 0 then 0 else 1) + 2 * lst l).testBit 0 = _
    rw [Nat.testBit_zero]
    show decide (((if a = 0 then 0 else 1) + 2 * lst l) % 2 = 1) = (decide (0 < l.length + 1) && !decide (((a : Nat) : Int) = 0))
    by_cases e : a = 0
    · subst e
      rw [if_pos rfl, decide_eq_false (by omega), decide_eq_true (show (((0 : Nat) : Int)) = 0 from rfl)]; simp
    · rw [if_neg e, decide_eq_true (by omega), decide_eq_false (show ¬ ((a : Nat) : Int) = 0 by omega), decide_eq_true (by omega)]; rfl
  | a :: l, i + 1 => by
    show ((if a = 0 then 0 else 1) + 2 * lst l).testBit (i + 1) = (decide (i + 1 < l.length + 1) && !decide (((lsf l i : Nat) : Int) = 0))
    rw [Nat.testBit_succ]
    have e : ((if a = 0 then 0 else 1) + 2 * lst l) / 2 = lst l := by split <;> omega
    rw [e, lst_bit l i]
    by_cases c : i < l.length
    · rw [decide_eq_true c, decide_eq_true (show i + 1 < l.length + 1 by omega)]
    · rw [decide_eq_false c, decide_eq_false (show ¬ i + 1 < l.length + 1 by omega)]
theorem lst_nzs {l : List Nat} {n : Nat} (hl : l.length = n) : lst l = nzs (fun i => !decide (((lsf l i : Nat) : Int) = 0)) n := Nat.eq_of_testBit_eq fun i => by rw [lst_bit, nzs_bit, hl]
/-- The sets of all words of one weight, of rows added to one. -/
def gcl (q wt : Nat) : List (List Nat) → List Nat → List Nat
  | [], l => if Nat.beq (lwt l) wt then [lst l] else []
  | r :: rs, l => (List.range q).flatMap fun s => gcl q wt rs (lad q s l r)
theorem lac_congr {q : Nat} {m m' : Nat → Nat} : ∀ rs k l, (∀ i, k ≤ i → m i = m' i) → lac q m rs k l = lac q m' rs k l
  | [], _, _, _ => rfl
  | r :: rs, k, l, h => by
    show lac q m rs (k + 1) (lad q (m k) l r) = lac q m' rs (k + 1) (lad q (m' k) l r)
    rw [h k (Nat.le_refl _)]
    exact lac_congr rs (k + 1) _ (fun i hi => h i (by omega))
theorem gcl_mem {q wt x : Nat} (hq : 0 < q) : ∀ rs k l, x ∈ gcl q wt rs l ↔ ∃ m : Nat → Nat, (∀ i, m i < q) ∧ lwt (lac q m rs k l) = wt ∧ x = lst (lac q m rs k l)
  | [], k, l => by
    show x ∈ (if Nat.beq (lwt l) wt = true then [lst l] else []) ↔ ∃ m : Nat → Nat, (∀ i, m i < q) ∧ lwt l = wt ∧ x = lst l
    by_cases c : Nat.beq (lwt l) wt = true
    · rw [if_pos c, List.mem_singleton]
      exact ⟨fun h => ⟨fun _ => 0, fun _ => hq, Nat.eq_of_beq_eq_true c, h⟩, fun ⟨_, _, _, h⟩ => h⟩
    · rw [if_neg c]
      refine ⟨fun h => (by cases h), fun ⟨_, _, h, _⟩ => absurd ?_ c⟩
      rw [h]; exact Nat.beq_refl _
  | r :: rs, k, l => by
    show x ∈ ((List.range q).flatMap fun s => gcl q wt rs (lad q s l r)) ↔ _
    rw [List.mem_flatMap]
    constructor
    · rintro ⟨s, hs, h⟩
      obtain ⟨m, h1, h2, h3⟩ := (gcl_mem hq rs (k + 1) _).1 h
      have e : lac q (fun i => if i = k then s else m i) (r :: rs) k l = lac q m rs (k + 1) (lad q s l r) := by
        show lac q _ rs (k + 1) (lad q (if k = k then s else m k) l r) = _
        rw [if_pos rfl]
        exact lac_congr rs (k + 1) _ (fun i hi => by show (if i = k then s else m i) = m i; rw [if_neg (by omega)])
      refine ⟨fun i => if i = k then s else m i, fun i => ?_, by rw [e]; exact h2, by rw [e]; exact h3⟩
      show (if i = k then s else m i) < q
      split
      · exact List.mem_range.1 hs
      · exact h1 i
    · rintro ⟨m, h1, h2, h3⟩
      exact ⟨m k, List.mem_range.2 (h1 k), (gcl_mem hq rs (k + 1) _).2 ⟨m, h1, h2, h3⟩⟩
/-! quick looks at lists of numbers -/
def leqB : List Nat → List Nat → Bool
  | [], [] => true
  | a :: l, b :: m => Nat.beq a b && leqB l m
  | _, _ => false
theorem leqB_eq : ∀ {l m : List Nat}, leqB l m = true → l = m
  | [], [], _ => rfl
  | a :: l, b :: m, h => by
    have h1 : (Nat.beq a b && leqB l m) = true := h
    rw [Bool.and_eq_true] at h1
    rw [Nat.eq_of_beq_eq_true h1.1, leqB_eq h1.2]
  | [], _ :: _, h => by cases h
  | _ :: _, [], h => by cases h
def elB (x : Nat) : List Nat → Bool
  | [] => false
  | a :: l => Nat.beq a x || elB x l
theorem elB_mem {x : Nat} : ∀ {l : List Nat}, elB x l = true ↔ x ∈ l
  | [] => ⟨fun h => (by cases h), fun h => (by cases h)⟩
  | a :: l => by
    show (Nat.beq a x || elB x l) = true ↔ _
    rw [Bool.or_eq_true, elB_mem, List.mem_cons]
    constructor
    · rintro (h | h)
      · exact Or.inl (Nat.eq_of_beq_eq_true h).symm
      · exact Or.inr h
    · rintro (h | h)
      · exact Or.inl (by rw [h]; exact Nat.beq_refl _)
      · exact Or.inr h
def ndB : List Nat → Bool
  | [] => true
  | a :: l => !elB a l && ndB l
theorem ndB_nd : ∀ {l : List Nat}, ndB l = true → l.Nodup
  | [], _ => List.nodup_nil
  | a :: l, h => by
    have h1 : (!elB a l && ndB l) = true := h
    rw [Bool.and_eq_true, Bool.not_eq_true'] at h1
    refine List.nodup_cons.2 ⟨fun q => ?_, ndB_nd h1.2⟩
    rw [elB_mem.2 q] at h1
    cases h1.1
/-- A place's mask: which sets of a list have it. -/
def mkL (p : Nat) : List Nat → Nat
  | [] => 0
  | o :: l => o / 2 ^ p % 2 + 2 * mkL p l
theorem mkL_bit (p : Nat) : ∀ (l : List Nat) (i : Nat), (mkL p l).testBit i = (l.getD i 0).testBit p
  | [], i => by
    show (0 : Nat).testBit i = (0 : Nat).testBit p
    rw [Nat.zero_testBit, Nat.zero_testBit]
  | o :: l, 0 => by
    show (o / 2 ^ p % 2 + 2 * mkL p l).testBit 0 = o.testBit p
    rw [Nat.testBit_zero, Nat.testBit_eq_decide_div_mod_eq]
    have : (o / 2 ^ p % 2 + 2 * mkL p l) % 2 = o / 2 ^ p % 2 := by omega
    rw [this]
  | o :: l, i + 1 => by
    show (o / 2 ^ p % 2 + 2 * mkL p l).testBit (i + 1) = (l.getD i 0).testBit p
    rw [Nat.testBit_succ]
    have : (o / 2 ^ p % 2 + 2 * mkL p l) / 2 = mkL p l := by omega
    rw [this, mkL_bit p l i]
/-- A list whose sets make a design of each t up to five. -/
theorem dsg_of {O ms : List Nat} {n m lam t : Nat} (hms : leqB ((List.range n).map fun p => mkL p O) ms = true) (h : dck n lam t 0 ms (2 ^ m - 1) = true) : ∀ y ∈ sls n t 0 0, lic (fun i => O.getD i 0) y m = lam := by
  have hp : 0 < 2 ^ m := Nat.pow_pos (by omega)
  refine dck_ok t 0 ms 0 (2 ^ m - 1) h (fun j hj i _ => ?_) ⟨by omega, fun i hi => ?_⟩
  · rw [← leqB_eq hms, Nat.zero_add]
    have e : ((List.range n).map fun p => mkL p O).getD j 0 = mkL j O := by
      rw [List.getD_eq_getElem?_getD, List.getElem?_map, List.getElem?_range (by omega)]; rfl
    rw [e, mkL_bit]
  · rw [Nat.testBit_two_pow_sub_one, decide_eq_true hi, decide_eq_true (by simp)]
end Go.Proofs.YtpgaakjldlcejaaDoor
