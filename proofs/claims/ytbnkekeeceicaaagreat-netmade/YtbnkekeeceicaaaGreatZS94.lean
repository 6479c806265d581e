/- Texts of ours, one behind the other: S94 S95 S96 KW1 KW2. -/
import Derived.Test.YtbnkekeeceicaaaGreatZS47
import Derived.Test.YtbnkekeeceicaaaGreatZKF1
/- Sorting by turning two about: what stays, what comes out. -/
namespace Go.Proofs.YtbnkekeeceicaaaGreat

theorem ct_set {f : Nat → Bool} {i : Nat} {c : Bool} : ∀ m, i < m → ct (fun x => if x = i then c else f x) m + (if f i = true then 1 else 0) = ct f m + (if c = true then 1 else 0)
  | 0, h => absurd h (by omega)
  | m + 1, h => by
    show ct (fun x => if x = i then c else f x) m + (if (if m = i then c else f m) = true then 1 else 0) + _ = ct f m + (if f m = true then 1 else 0) + _
    by_cases e : m = i
    · rw [if_pos e, nf_cg (p := fun x => if x = i then c else f x) (q := f) m (fun x hx => if_neg (by omega)), e]
      omega
    · rw [if_neg e]
      have ih := ct_set (f := f) (i := i) (c := c) m (by omega)
      omega
/-- Two turned about. -/
def swq (p : Nat → Nat) (i j : Nat) : Nat → Nat := fun x => if x = i then p j else if x = j then p i else p x
theorem swq_ct {p : Nat → Nat} {i j m : Nat} (hi : i < m) (hj : j < m) (q : Nat → Bool) : ct (fun x => q (swq p i j x)) m = ct (fun x => q (p x)) m := by
  have e : ∀ x, x < m → q (swq p i j x) = if x = i then q (p j) else if x = j then q (p i) else q (p x) := fun x _ => by
    unfold swq
    split
    · rfl
    · split <;> rfl
  rw [nf_cg m e]
  have h1 := ct_set (f := fun x => if x = j then q (p i) else q (p x)) (i := i) (c := q (p j)) m hi
  have h2 := ct_set (f := fun x => q (p x)) (i := j) (c := q (p i)) m hj
  by_cases c : i = j
  · rw [c] at h1 h2 ⊢
    rw [if_pos rfl] at h1
    omega
  · rw [if_neg c] at h1
    omega
/-- The same numbers, and the same ones outside of a to b. -/
def Rng (m a b : Nat) (p p' : Nat → Nat) : Prop := (∀ x, ¬ (a ≤ x ∧ x < b) → p' x = p x) ∧ ∀ q : Nat → Bool, ct (fun x => q (p' x)) m = ct (fun x => q (p x)) m
theorem Rng.refl (m a b : Nat) (p : Nat → Nat) : Rng m a b p p := ⟨fun _ _ => rfl, fun _ => rfl⟩
theorem Rng.trans {m a b : Nat} {p p' p'' : Nat → Nat} (h : Rng m a b p p') (k : Rng m a b p' p'') : Rng m a b p p'' := ⟨fun x hx => (k.1 x hx).trans (h.1 x hx), fun q => (k.2 q).trans (h.2 q)⟩
theorem Rng.wide {m a b a' b' : Nat} {p p' : Nat → Nat} (h : Rng m a b p p') (ha : a' ≤ a) (hb : b ≤ b') : Rng m a' b' p p' := ⟨fun x hx => h.1 x (fun q => hx ⟨by omega, by omega⟩), h.2⟩
theorem Rng.swq {m a b i j : Nat} (p : Nat → Nat) (hi : a ≤ i ∧ i < b) (hj : a ≤ j ∧ j < b) (hb : b ≤ m) : Rng m a b p (Go.Proofs.YtbnkekeeceicaaaGreat.swq p i j) :=
  ⟨fun x hx => by unfold Go.Proofs.YtbnkekeeceicaaaGreat.swq; rw [if_neg (fun e => hx (by rw [e]; exact hi)), if_neg (fun e => hx (by rw [e]; exact hj))], fun q => swq_ct (by omega) (by omega) q⟩
/-- What all in a to b have they have behind it. -/
theorem Rng.all {m a b : Nat} {p p' : Nat → Nat} (h : Rng m a b p p') (hb : b ≤ m) (Q : Nat → Bool) (hQ : ∀ x, a ≤ x → x < b → Q (p x) = true) : ∀ x, a ≤ x → x < b → Q (p' x) = true := by
  have e := h.2 (fun v => !Q v)
  have h1 := nf_part (fun x => !Q (p' x)) (fun x => decide (a ≤ x ∧ x < b)) m
  have h2 := nf_part (fun x => !Q (p x)) (fun x => decide (a ≤ x ∧ x < b)) m
  have h3 : ct (fun x => (!Q (p' x)) && !decide (a ≤ x ∧ x < b)) m = ct (fun x => (!Q (p x)) && !decide (a ≤ x ∧ x < b)) m := nf_cg m (fun x _ => by
    by_cases c : a ≤ x ∧ x < b
    · rw [decide_eq_true c, Bool.not_true, Bool.and_false, Bool.and_false]
    · rw [h.1 x c])
  have h4 : ct (fun x => (!Q (p x)) && decide (a ≤ x ∧ x < b)) m = 0 := ct_none m (fun x _ => by
    by_cases c : a ≤ x ∧ x < b
    · rw [hQ x c.1 c.2]; rfl
    · rw [decide_eq_false c, Bool.and_false])
  have h5 : ct (fun x => (!Q (p' x)) && decide (a ≤ x ∧ x < b)) m = 0 := by
    have e' : ct (fun x => !Q (p' x)) m = ct (fun x => !Q (p x)) m := e
    omega
  intro x hx1 hx2
  have := nf_nil m h5 x (by omega)
  rw [decide_eq_true (show a ≤ x ∧ x < b from ⟨hx1, hx2⟩), Bool.and_true] at this
  simpa using this
/-- Rising from a to b. -/
def Sdd (K : Nat → Nat) (p : Nat → Nat) (a b : Nat) : Prop := ∀ i j, a ≤ i → i ≤ j → j < b → K (p i) ≤ K (p j)
theorem Sdd.sub {K p : Nat → Nat} {a b a' b' : Nat} (h : Sdd K p a b) (ha : a ≤ a') (hb : b' ≤ b) : Sdd K p a' b' := fun i j h1 h2 h3 => h i j (by omega) h2 (by omega)
theorem Sdd.cg {K p p' : Nat → Nat} {a b : Nat} (h : Sdd K p a b) (e : ∀ x, a ≤ x → x < b → p' x = p x) : Sdd K p' a b := fun i j h1 h2 h3 => by
  rw [e i h1 (by omega), e j (by omega) h3]; exact h i j h1 h2 h3
/-- Two that are rising, the first nowhere above the second. -/
theorem Sdd.join {K p : Nat → Nat} {a c b : Nat} (h1 : Sdd K p a c) (h2 : Sdd K p c b) (h : ∀ i j, a ≤ i → i < c → c ≤ j → j < b → K (p i) ≤ K (p j)) : Sdd K p a b := fun i j q1 q2 q3 => by
  by_cases d : j < c
  · exact h1 i j q1 q2 d
  · by_cases e : i < c
    · exact h i j q1 e (by omega) q3
    · exact h2 i j (by omega) q2 q3
/-- Turned about as long as needed, one by one: where it stood is free. -/
theorem Sdd.down {K p : Nat → Nat} {a i k : Nat} (h : ∀ x y, a ≤ x → x ≤ y → y ≤ i → x ≠ k → y ≠ k → K (p x) ≤ K (p y)) (hk : a < k) (hg : ∀ y, k < y → y ≤ i → K (p k) ≤ K (p y)) (hlt : K (p k) < K (p (k - 1))) :
    (∀ x y, a ≤ x → x ≤ y → y ≤ i → x ≠ k - 1 → y ≠ k - 1 → K (swq p k (k - 1) x) ≤ K (swq p k (k - 1) y)) ∧ (∀ y, k - 1 < y → y ≤ i → K (swq p k (k - 1) (k - 1)) ≤ K (swq p k (k - 1) y)) := by
  have s1 : swq p k (k - 1) k = p (k - 1) := by unfold swq; rw [if_pos rfl]
  have s2 : swq p k (k - 1) (k - 1) = p k := by unfold swq; rw [if_neg (by omega), if_pos rfl]
  have s3 : ∀ x, x ≠ k → x ≠ k - 1 → swq p k (k - 1) x = p x := fun x h1 h2 => by unfold swq; rw [if_neg h1, if_neg h2]
  refine ⟨fun x y h1 h2 h3 h4 h5 => ?_, fun y h1 h2 => ?_⟩
  · by_cases c : x = k
    · by_cases d : y = k
      · rw [c, d]; exact Nat.le_refl _
      · rw [c, s1, s3 y d h5]; exact h (k - 1) y (by omega) (by omega) h3 (by omega) d
    · by_cases d : y = k
      · rw [d, s1, s3 x c h4]; exact h x (k - 1) h1 (by omega) (by omega) c (by omega)
      · rw [s3 x c h4, s3 y d h5]; exact h x y h1 h2 h3 c d
  · rw [s2]
    by_cases d : y = k
    · rw [d, s1]; omega
    · rw [s3 y d (by omega)]; exact hg y (by omega) h2
theorem Sdd.stop {K p : Nat → Nat} {a i k : Nat} (h : ∀ x y, a ≤ x → x ≤ y → y ≤ i → x ≠ k → y ≠ k → K (p x) ≤ K (p y)) (hg : ∀ y, k < y → y ≤ i → K (p k) ≤ K (p y)) (hs : k = a ∨ K (p (k - 1)) ≤ K (p k)) : Sdd K p a (i + 1) := fun x y h1 h2 h3 => by
  by_cases c : x = k
  · by_cases d : y = k
    · rw [c, d]; exact Nat.le_refl _
    · rw [c]; exact hg y (by omega) (by omega)
  · by_cases d : y = k
    · rcases hs with e | e
      · omega
      · rw [d]
        by_cases z : x = k - 1
        · rw [z]; exact e
        · exact Nat.le_trans (h x (k - 1) h1 (by omega) (by omega) c (by omega)) e
    · exact h x y h1 h2 (by omega) c d
end Go.Proofs.YtbnkekeeceicaaaGreat

/- Sorting: parts of a row turned about. -/
namespace Go.Proofs.YtbnkekeeceicaaaGreat

/-- n from a on and n from b on turned about. -/
def swr (p : Nat → Nat) (a b n : Nat) : Nat → Nat := fun x => if a ≤ x ∧ x < a + n then p (x - a + b) else if b ≤ x ∧ x < b + n then p (x - b + a) else p x
theorem swr_zero (p : Nat → Nat) (a b : Nat) : swr p a b 0 = p := by
  funext x
  unfold swr
  rw [if_neg (by omega), if_neg (by omega)]
theorem swr_next {p : Nat → Nat} {a b i : Nat} (h : a + i < b) : swr p a b (i + 1) = swq (swr p a b i) (a + i) (b + i) := by
  funext x
  have s1 : swr p a b i (a + i) = p (a + i) := by unfold swr; rw [if_neg (by omega), if_neg (by omega)]
  have s2 : swr p a b i (b + i) = p (b + i) := by unfold swr; rw [if_neg (by omega), if_neg (by omega)]
  show swr p a b (i + 1) x = if x = a + i then swr p a b i (b + i) else if x = b + i then swr p a b i (a + i) else swr p a b i x
  rw [s1, s2]
  by_cases c : x = a + i
  · rw [if_pos c]
    unfold swr
    rw [if_pos (by omega), show x - a + b = b + i by omega]
  · rw [if_neg c]
    by_cases d : x = b + i
    · rw [if_pos d]
      unfold swr
      rw [if_neg (by omega), if_pos (by omega), show x - b + a = a + i by omega]
    · rw [if_neg d]
      unfold swr
      by_cases e1 : a ≤ x ∧ x < a + i
      · rw [if_pos (by omega), if_pos e1]
      · rw [if_neg (by omega), if_neg e1]
        by_cases e2 : b ≤ x ∧ x < b + i
        · rw [if_pos (by omega), if_pos e2]
        · rw [if_neg (by omega), if_neg e2]
theorem Rng.swr {m a b n lo hi : Nat} (p : Nat → Nat) (hab : a + n ≤ b) (hlo : lo ≤ a) (hhi : b + n ≤ hi) (hm : hi ≤ m) : ∀ i, i ≤ n → Rng m lo hi p (Go.Proofs.YtbnkekeeceicaaaGreat.swr p a b i)
  | 0, _ => by rw [swr_zero]; exact Rng.refl _ _ _ _
  | i + 1, h => by
    rw [swr_next (by omega)]
    exact (Rng.swr p hab hlo hhi hm i (by omega)).trans (Rng.swq _ ⟨by omega, by omega⟩ ⟨by omega, by omega⟩ hm)
/-- Two parts that lie beside each other, i up to m and j from it on, change places. -/
def rtd (p : Nat → Nat) (m i j : Nat) : Nat → Nat := fun x => if m - i ≤ x ∧ x < m - i + j then p (x + i) else if m - i + j ≤ x ∧ x < m + j then p (x - j) else p x
theorem rtd_less {p : Nat → Nat} {m i j : Nat} (hij : j < i) (him : i ≤ m) : rtd p m i j = rtd (swr p (m - i) m j) m (i - j) j := by
  funext x
  have e : m - (i - j) = m - i + j := by omega
  unfold rtd
  rw [e]
  by_cases c1 : m - i ≤ x ∧ x < m - i + j
  · rw [if_pos c1, if_neg (by omega), if_neg (by omega)]
    unfold swr
    rw [if_pos (by omega), show x - (m - i) + m = x + i by omega]
  · rw [if_neg c1]
    by_cases c2 : m - i + j ≤ x ∧ x < m - i + j + j
    · rw [if_pos (by omega), if_pos c2]
      unfold swr
      rw [if_neg (by omega), if_pos (by omega), show x + (i - j) - m + (m - i) = x - j by omega]
    · rw [if_neg c2]
      by_cases c3 : m - i + j ≤ x ∧ x < m + j
      · rw [if_pos c3, if_pos (by omega)]
        unfold swr
        rw [if_neg (by omega), if_neg (by omega)]
      · rw [if_neg c3, if_neg (by omega)]
        unfold swr
        rw [if_neg (by omega), if_neg (by omega)]
theorem rtd_more {p : Nat → Nat} {m i j : Nat} (hij : i < j) (him : i ≤ m) : rtd p m i j = rtd (swr p (m - i) (m + j - i) i) m i (j - i) := by
  funext x
  unfold rtd
  by_cases c1 : m - i ≤ x ∧ x < m - i + (j - i)
  · rw [if_pos (by omega), if_pos c1]
    unfold swr
    rw [if_neg (by omega), if_neg (by omega)]
  · rw [if_neg c1]
    by_cases c2 : m - i + (j - i) ≤ x ∧ x < m + (j - i)
    · rw [if_pos (by omega), if_pos c2]
      unfold swr
      rw [if_pos (by omega), show x - (j - i) - (m - i) + (m + j - i) = x + i by omega]
    · rw [if_neg c2]
      by_cases c3 : m + (j - i) ≤ x ∧ x < m + j
      · rw [if_neg (by omega), if_pos (by omega)]
        unfold swr
        rw [if_neg (by omega), if_pos (by omega), show x - (m + j - i) + (m - i) = x - j by omega]
      · rw [if_neg (by omega), if_neg (by omega)]
        unfold swr
        rw [if_neg (by omega), if_neg (by omega)]
theorem rtd_same {p : Nat → Nat} {m i : Nat} (him : i ≤ m) : rtd p m i i = swr p (m - i) m i := by
  funext x
  unfold rtd swr
  by_cases c1 : m - i ≤ x ∧ x < m - i + i
  · rw [if_pos c1, if_pos c1, show x - (m - i) + m = x + i by omega]
  · rw [if_neg c1, if_neg c1]
    by_cases c2 : m - i + i ≤ x ∧ x < m + i
    · rw [if_pos c2, if_pos (by omega), show x - m + (m - i) = x - i by omega]
    · rw [if_neg c2, if_neg (by omega)]
end Go.Proofs.YtbnkekeeceicaaaGreat

/- Sorting: two rising parts merged in their place. -/
namespace Go.Proofs.YtbnkekeeceicaaaGreat

/-- The first led to place k. -/
def shu (p : Nat → Nat) (a k : Nat) : Nat → Nat := fun x => if a ≤ x ∧ x < k then p (x + 1) else if x = k then p a else p x
theorem shu_zero (p : Nat → Nat) (a : Nat) : shu p a a = p := by
  funext x
  unfold shu
  rw [if_neg (by omega)]
  by_cases c : x = a
  · rw [if_pos c, c]
  · rw [if_neg c]
theorem shu_next {p : Nat → Nat} {a k : Nat} (h : a ≤ k) : shu p a (k + 1) = swq (shu p a k) k (k + 1) := by
  funext x
  have s1 : shu p a k k = p a := by unfold shu; rw [if_neg (by omega), if_pos rfl]
  have s2 : shu p a k (k + 1) = p (k + 1) := by unfold shu; rw [if_neg (by omega), if_neg (by omega)]
  show shu p a (k + 1) x = if x = k then shu p a k (k + 1) else if x = k + 1 then shu p a k k else shu p a k x
  rw [s1, s2]
  unfold shu
  by_cases c : x = k
  · rw [if_pos c, if_pos (by omega), c]
  · rw [if_neg c]
    by_cases d : x = k + 1
    · rw [if_pos d, if_neg (by omega), if_pos d]
    · rw [if_neg d]
      by_cases e : a ≤ x ∧ x < k
      · rw [if_pos e, if_pos (by omega), if_neg d]
      · rw [if_neg e, if_neg (by omega), if_neg d, if_neg c]
theorem shu_sdd {K p : Nat → Nat} {a b i : Nat} (hi : a + 1 ≤ i) (hib : i ≤ b) (hs : Sdd K p (a + 1) b) (h1 : ∀ x, a + 1 ≤ x → x < i → K (p x) < K (p a)) (h2 : ∀ x, i ≤ x → x < b → K (p a) ≤ K (p x)) : Sdd K (shu p a (i - 1)) a b := fun x y q1 q2 q3 => by
  unfold shu
  by_cases c : x < i - 1
  · rw [if_pos ⟨q1, c⟩]
    by_cases d : y < i - 1
    · rw [if_pos ⟨by omega, d⟩]; exact hs _ _ (by omega) (by omega) (by omega)
    · rw [if_neg (by omega)]
      by_cases e : y = i - 1
      · rw [if_pos e]; exact Nat.le_of_lt (h1 _ (by omega) (by omega))
      · rw [if_neg e]; exact Nat.le_trans (Nat.le_of_lt (h1 _ (by omega) (by omega))) (h2 y (by omega) q3)
  · rw [if_neg (by omega)]
    by_cases d : x = i - 1
    · rw [if_pos d, if_neg (by omega)]
      by_cases e : y = i - 1
      · rw [if_pos e]; exact Nat.le_refl _
      · rw [if_neg e]; exact h2 y (by omega) q3
    · rw [if_neg d, if_neg (by omega), if_neg (by omega)]; exact hs x y (by omega) q2 q3
/-- The last led down to place k. -/
def shd (p : Nat → Nat) (m k : Nat) : Nat → Nat := fun x => if k < x ∧ x ≤ m then p (x - 1) else if x = k then p m else p x
theorem shd_zero (p : Nat → Nat) (m : Nat) : shd p m m = p := by
  funext x
  unfold shd
  rw [if_neg (by omega)]
  by_cases c : x = m
  · rw [if_pos c, c]
  · rw [if_neg c]
theorem shd_next {p : Nat → Nat} {m k : Nat} (h : k ≤ m) (h0 : 0 < k) : shd p m (k - 1) = swq (shd p m k) k (k - 1) := by
  funext x
  have s1 : shd p m k k = p m := by unfold shd; rw [if_neg (by omega), if_pos rfl]
  have s2 : shd p m k (k - 1) = p (k - 1) := by unfold shd; rw [if_neg (by omega), if_neg (by omega)]
  show shd p m (k - 1) x = if x = k then shd p m k (k - 1) else if x = k - 1 then shd p m k k else shd p m k x
  rw [s1, s2]
  unfold shd
  by_cases c : x = k
  · rw [if_pos c, if_pos (by omega), c]
  · rw [if_neg c]
    by_cases d : x = k - 1
    · rw [if_pos d, if_neg (by omega), if_pos d]
    · rw [if_neg d]
      by_cases e : k < x ∧ x ≤ m
      · rw [if_pos e, if_pos (by omega), if_neg d]
      · rw [if_neg e, if_neg (by omega), if_neg d, if_neg c]
theorem shd_sdd {K p : Nat → Nat} {a m i : Nat} (hi : a ≤ i) (him : i ≤ m) (hs : Sdd K p a m) (h1 : ∀ x, a ≤ x → x < i → K (p x) ≤ K (p m)) (h2 : ∀ x, i ≤ x → x < m → K (p m) < K (p x)) : Sdd K (shd p m i) a (m + 1) := fun x y q1 q2 q3 => by
  unfold shd
  by_cases c : x < i
  · rw [if_neg (by omega), if_neg (by omega)]
    by_cases d : y < i
    · rw [if_neg (by omega), if_neg (by omega)]; exact hs x y q1 q2 (by omega)
    · by_cases e : y = i
      · rw [if_neg (by omega), if_pos e]; exact h1 x q1 c
      · rw [if_pos (by omega)]; exact hs x (y - 1) q1 (by omega) (by omega)
  · by_cases d : x = i
    · rw [if_neg (by omega), if_pos d]
      by_cases e : y = i
      · rw [if_neg (by omega), if_pos e]; exact Nat.le_refl _
      · rw [if_pos (by omega)]; exact Nat.le_of_lt (h2 (y - 1) (by omega) (by omega))
    · rw [if_pos (by omega), if_pos (by omega)]; exact hs _ _ (by omega) (by omega) (by omega)
/-- Where the two parts are cut: what lies left is nowhere above what lies right. -/
theorem sym_parts {K p : Nat → Nat} {a k b st en md : Nat} (hak : a ≤ st) (hst : st ≤ k) (hen : k ≤ en) (hb : en ≤ b) (hmd : st + en = md + k) (hU : Sdd K p a k) (hV : Sdd K p k b) (hA : a < st → en < b → K (p (st - 1)) ≤ K (p en)) (hB : st < k → k < en → K (p (en - 1)) ≤ K (p st)) :
    Sdd K (rtd p k (k - st) (en - k)) a st ∧ Sdd K (rtd p k (k - st) (en - k)) st md ∧ Sdd K (rtd p k (k - st) (en - k)) md en ∧ Sdd K (rtd p k (k - st) (en - k)) en b ∧ ∀ x y, a ≤ x → x < md → md ≤ y → y < b → K (rtd p k (k - st) (en - k) x) ≤ K (rtd p k (k - st) (en - k) y) := by
  have e1 : ∀ x, x < st → rtd p k (k - st) (en - k) x = p x := fun x hx => by unfold rtd; rw [if_neg (by omega), if_neg (by omega)]
  have e2 : ∀ x, st ≤ x → x < md → rtd p k (k - st) (en - k) x = p (x + (k - st)) := fun x h1 h2 => by unfold rtd; rw [if_pos (by omega)]
  have e3 : ∀ x, md ≤ x → x < en → rtd p k (k - st) (en - k) x = p (x - (en - k)) := fun x h1 h2 => by unfold rtd; rw [if_neg (by omega), if_pos (by omega)]
  have e4 : ∀ x, en ≤ x → rtd p k (k - st) (en - k) x = p x := fun x h1 => by unfold rtd; rw [if_neg (by omega), if_neg (by omega)]
  refine ⟨fun i j h1 h2 h3 => ?_, fun i j h1 h2 h3 => ?_, fun i j h1 h2 h3 => ?_, fun i j h1 h2 h3 => ?_, fun x y h1 h2 h3 h4 => ?_⟩
  · rw [e1 i (by omega), e1 j h3]; exact hU i j h1 h2 (by omega)
  · rw [e2 i h1 (by omega), e2 j (by omega) h3]; exact hV _ _ (by omega) (by omega) (by omega)
  · rw [e3 i h1 (by omega), e3 j (by omega) h3]; exact hU _ _ (by omega) (by omega) (by omega)
  · rw [e4 i h1, e4 j (by omega)]; exact hV _ _ (by omega) (by omega) (by omega)
  · by_cases c : x < st
    · rw [e1 x c]
      by_cases d : y < en
      · rw [e3 y h3 d]; exact hU _ _ h1 (by omega) (by omega)
      · rw [e4 y (by omega)]
        exact Nat.le_trans (hU x (st - 1) h1 (by omega) (by omega)) (Nat.le_trans (hA (by omega) (by omega)) (hV en y (by omega) (by omega) h4))
    · rw [e2 x (by omega) h2]
      by_cases d : y < en
      · rw [e3 y h3 d]
        exact Nat.le_trans (hV (x + (k - st)) (en - 1) (by omega) (by omega) (by omega)) (Nat.le_trans (hB (by omega) (by omega)) (hU st _ (by omega) (by omega) (by omega)))
      · rw [e4 y (by omega)]; exact hV _ _ (by omega) (by omega) h4
/-- The parts sorted, all is. -/
theorem sym_done {m a md b : Nat} {K p1 p2 p3 : Nat → Nat} (hb : b ≤ m) (hmd : md ≤ b) (h : ∀ x y, a ≤ x → x < md → md ≤ y → y < b → K (p1 x) ≤ K (p1 y)) (r2 : Rng m a md p1 p2) (s2 : Sdd K p2 a md) (r3 : Rng m md b p2 p3) (s3 : Sdd K p3 md b) : Sdd K p3 a b := by
  have e3 : ∀ x, x < md → p3 x = p2 x := fun x hx => r3.1 x (by omega)
  have e2 : ∀ y, md ≤ y → p2 y = p1 y := fun y hy => r2.1 y (by omega)
  have hL : ∀ x, a ≤ x → x < md → ∀ y, md ≤ y → y < b → K (p2 x) ≤ K (p1 y) := fun x h1 h2 y h3 h4 => by
    have := r2.all (by omega) (fun v => decide (K v ≤ K (p1 y))) (fun x q1 q2 => decide_eq_true (h x y q1 q2 h3 h4)) x h1 h2
    exact of_decide_eq_true this
  refine Sdd.join (c := md) (s2.cg (fun x _ hx => e3 x hx)) s3 (fun x y h1 h2 h3 h4 => ?_)
  rw [e3 x h2]
  have := r3.all hb (fun v => decide (K (p2 x) ≤ K v)) (fun y q1 q2 => decide_eq_true (by rw [e2 y q1]; exact hL x h1 h2 y q1 q2)) y h3 h4
  exact of_decide_eq_true this
end Go.Proofs.YtbnkekeeceicaaaGreat

/- Nets: a map of numbers that the call makes. -/
namespace Go.Proofs.YtbnkekeeceicaaaGreat
open Go.RowKit Go.Maps

/-- A map that has each number of a list, with another number. -/
structure MnD (D : DataW Value) (L : List Nat) (c : Nat → Int) : Prop where
  im : IsMap D
  yes : ∀ k, k ∈ L → D.atKey (.int .i64 (k : Nat)) (.lit (.int .i64 0)) = .lit (.int .i64 (c k))
  has : ∀ x : Int, Maps.has D (.int .i64 x) = true ↔ ∃ k ∈ L, x = ((k : Nat) : Int)
theorem MnD.nil (c : Nat → Int) : MnD (.map []) [] c := ⟨isMap_empty, fun k h => (by cases h), fun x => ⟨fun h => (by cases h), fun ⟨_, h, _⟩ => (by cases h)⟩⟩
theorem MnD.put {D : DataW Value} {L : List Nat} {c : Nat → Int} (h : MnD D L c) (k : Nat) (v : Int) : MnD (D.put (.int .i64 (k : Nat)) (.lit (.int .i64 v))) (L ++ [k]) (fun j => if j = k then v else c j) := by
  refine ⟨h.im.put _ _, fun j hj => ?_, fun x => ?_⟩
  · by_cases e : j = k
    · rw [if_pos e, e]; exact atKey_put_same h.im (ct_lit _) _ _
    · rw [if_neg e, atKey_put_other (by intro c; cases c; exact e (by omega))]
      exact h.yes j ((List.mem_append.1 hj).resolve_right (fun c => e (List.mem_singleton.1 c)))
  · by_cases e : x = ((k : Nat) : Int)
    · subst e
      exact ⟨fun _ => ⟨k, by simp, rfl⟩, fun _ => has_put_same h.im (ct_lit _) _⟩
    · rw [has_put_other (by intro c; cases c; exact e rfl), h.has x]
      constructor
      · rintro ⟨j, hj, rfl⟩; exact ⟨j, by simp [hj], rfl⟩
      · rintro ⟨j, hj, rfl⟩
        rcases List.mem_append.1 hj with c | c
        · exact ⟨j, c, rfl⟩
        · rw [List.mem_singleton.1 c] at e; exact absurd rfl e
theorem MnD.in' {D : DataW Value} {L : List Nat} {c : Nat → Int} (h : MnD D L c) {k : Nat} (hk : k ∈ L) : Maps.has D (.int .i64 ((k : Nat) : Int)) = true := (h.has _).2 ⟨k, hk, rfl⟩
theorem MnD.out' {D : DataW Value} {L : List Nat} {c : Nat → Int} (h : MnD D L c) {k : Nat} (hk : k ∉ L) : Maps.has D (.int .i64 ((k : Nat) : Int)) = false := by
  cases e : Maps.has D (.int .i64 ((k : Nat) : Int)) with
  | false => rfl
  | true =>
    obtain ⟨j, hj, q⟩ := (h.has _).1 e
    exact absurd (by rw [show k = j by omega]; exact hj) hk
/-- Such a map in memory. -/
def MapN (B : Nat) (L : List Nat) (c : Nat → Int) (w : World) : Prop := ∃ D : DataW Value, w.ownsMap Tryz.prog 3 (plainElem Tryz.prog 3) B L.length D ∧ MnD D L c
theorem MapN.same {B : Nat} {L : List Nat} {c : Nat → Int} {w w' : World} (h : MapN B L c w) (e : w'.heap[B]? = w.heap[B]?) : MapN B L c w' := by
  obtain ⟨D, ⟨es, clock, hb, Ft, hs, hD⟩, h2⟩ := h
  exact ⟨D, ⟨es, clock, e.trans hb, Ft, hs, hD⟩, h2⟩
theorem MapN.lt {B : Nat} {L : List Nat} {c : Nat → Int} {w : World} (h : MapN B L c w) : B < w.heap.size := by
  obtain ⟨D, ⟨es, clock, hb, _⟩, _⟩ := h
  exact lt_of_block hb
theorem MapN.below {B : Nat} {L : List Nat} {c : Nat → Int} {w w' : World} (h : MapN B L c w) (hb : Below w.heap.size w w') : MapN B L c w' := h.same (hb.block B h.lt)
end Go.Proofs.YtbnkekeeceicaaaGreat

/- Nets: a stream in memory; an edge as one way more can take it (free). -/
namespace Go.Proofs.YtbnkekeeceicaaaGreat
open Go.RowKit Go.Sort

/-- A stream's variable: its net, its node, which edges are used, how many ways. -/
structure StB (B ub n t k : Nat) (eo : Option Addr) (m ec : Nat) (us : Nat → Bool) (w : World) : Prop where
  blk : w.heap[B]? = some (.cells #[.int .i64 (n : Nat), .slice eo m ec, .int .i64 (t : Nat), .slice (some ⟨ub, 0, none⟩) m m, .int .i64 (k : Nat)] 56 (0, 0))
  row : RowF ub m 4 (fun j => .bool (us j)) w
  ne : B ≠ ub
theorem StB.c0 {B ub n t k : Nat} {eo : Option Addr} {m ec : Nat} {us : Nat → Bool} {w : World} (h : StB B ub n t k eo m ec us w) : w.cell? ⟨B, 0, none⟩ = some (.int .i64 (n : Nat)) := by rw [cell_of_row _ _ _ _ _ (0, 0) h.blk]; rfl
theorem StB.c1 {B ub n t k : Nat} {eo : Option Addr} {m ec : Nat} {us : Nat → Bool} {w : World} (h : StB B ub n t k eo m ec us w) : w.cell? ⟨B, 1, none⟩ = some (.slice eo m ec) := by rw [cell_of_row _ _ _ _ _ (0, 0) h.blk]; rfl
theorem StB.c2 {B ub n t k : Nat} {eo : Option Addr} {m ec : Nat} {us : Nat → Bool} {w : World} (h : StB B ub n t k eo m ec us w) : w.cell? ⟨B, 2, none⟩ = some (.int .i64 (t : Nat)) := by rw [cell_of_row _ _ _ _ _ (0, 0) h.blk]; rfl
theorem StB.c3 {B ub n t k : Nat} {eo : Option Addr} {m ec : Nat} {us : Nat → Bool} {w : World} (h : StB B ub n t k eo m ec us w) : w.cell? ⟨B, 3, none⟩ = some (.slice (some ⟨ub, 0, none⟩) m m) := by rw [cell_of_row _ _ _ _ _ (0, 0) h.blk]; rfl
theorem StB.c4 {B ub n t k : Nat} {eo : Option Addr} {m ec : Nat} {us : Nat → Bool} {w : World} (h : StB B ub n t k eo m ec us w) : w.cell? ⟨B, 4, none⟩ = some (.int .i64 (k : Nat)) := by rw [cell_of_row _ _ _ _ _ (0, 0) h.blk]; rfl
theorem StB.below {B ub n t k : Nat} {eo : Option Addr} {m ec : Nat} {us : Nat → Bool} {w w' : World} (h : StB B ub n t k eo m ec us w) (hb : Below w.heap.size w w') : StB B ub n t k eo m ec us w' :=
  ⟨(hb.block B (lt_of_block h.blk)).trans h.blk, h.row.other (hb.block ub (RowF.lt h.row)), h.ne⟩

theorem und_edg : ∃ l, Tryz.prog.underlying 53 = some (.struct l) := by
  have h : (match Tryz.prog.underlying 53 with | some (.struct _) => true | _ => false) = true := by kernel_rfl
  revert h
  cases Tryz.prog.underlying 53 with
  | none => intro h; cases h
  | some d => cases d <;> first | (intro _; exact ⟨_, rfl⟩) | (intro h; cases h)
theorem inf_edg (x y : Value) : (Tryz.prog.info? 53).map (·.size) = some (#[x, y] : Array Value).size := by show _ = some 2; kernel_rfl
theorem two_old {w : World} (o o' : Obj) : ((w.alloc o).alloc o').heap[w.heap.size]? = some o := (Below.heap_alloc _ _ _ (by simp)).trans (two_new o)
set_option maxHeartbeats 4000000 in
set_option maxRecDepth 100000 in
theorem sfree_any {B ub n t k : Nat} {eo : Option Addr} {m ec : Nat} {us : Nat → Bool} {F T : Nat → Nat} {e : Nat} {w : World} (hS : StB B ub n t k eo m ec us w) (hE : EdZ eo m (fun i => ((F i : Nat) : Int)) (fun i => ((T i : Nat) : Int)) w) (he : e < m) :
    Calls Tryz.prog 46 #[.pointer (some ⟨B, 0, none⟩), .int .i64 (e : Nat)] w fun r w' => r = .returned (.agg #[.int .i64 (frF F T us e : Nat), .int .i64 (frT F T us e : Nat)]) ∧ Below w.heap.size w w' := by
  obtain ⟨b, off, rfl, e0, e1⟩ := hE e he
  obtain ⟨x, hx⟩ : ∃ x, x = F e := ⟨_, rfl⟩
  obtain ⟨y, hy⟩ : ∃ y, y = T e := ⟨_, rfl⟩
  replace e0 : w.cell? ⟨b, off + e * 2, none⟩ = some (.int .i64 (x : Nat)) := by rw [hx]; exact e0
  replace e1 : w.cell? ⟨b, off + e * 2 + 1, none⟩ = some (.int .i64 (y : Nat)) := by rw [hy]; exact e1
  have c1 := hS.c1
  have c3 := hS.c3
  have cu := RowF.cell hS.row e he
  obtain ⟨u, hu⟩ : ∃ u, u = us e := ⟨_, rfl⟩
  replace cu : w.cell? ⟨ub, e, none⟩ = some (.bool u) := by rw [hu]; exact cu
  have heb : (e : Int) < (m : Int) := by omega
  have heb0 : (0 : Int) ≤ (e : Int) := by omega
  have HR : Hid (frF F T us e = (if u = true then y else x) ∧ frT F T us e = if u = true then x else y) := by unfold frF frT; rw [hu, hx, hy]; exact ⟨rfl, rfl⟩
  have hB := lt_of_block hS.blk
  have hub := RowF.lt hS.row
  have hbl := cell_lt e0
  clear hS hE hx hy hu
  go_enter Tryz.func46, Tryz.ntmps46
  obtain ⟨d, hd⟩ := und_edg
  cases u with
  | true =>
    go_wp2
    refine bodyPost_ret (results_cell_row rfl _ _ w.heap.size 53 #[.int .i64 (y : Nat), .int .i64 (x : Nat)] (0, 0) (.struct d) rfl (two_old _ _) hd rfl (inf_edg _ _)) rfl ?_
    refine ⟨by rw [HR.out.1, HR.out.2]; simp, ((Below.refl _ _).alloc (Nat.le_refl _) _).alloc (by simp) _⟩
  | false =>
    go_wp2
    refine bodyPost_ret (results_cell_row rfl _ _ w.heap.size 53 #[.int .i64 (x : Nat), .int .i64 (y : Nat)] (0, 0) (.struct d) rfl (two_old _ _) hd rfl (inf_edg _ _)) rfl ?_
    refine ⟨by rw [HR.out.1, HR.out.2]; simp, ((Below.refl _ _).alloc (Nat.le_refl _) _).alloc (by simp) _⟩
end Go.Proofs.YtbnkekeeceicaaaGreat
