/- Muller: Reed's majority tells a message's bits, where there are few errors. -/
import Derived.Test.YtmklnjkallhphaaZKO5
namespace Go.Proofs.Ytmklnjkallhphaa

/-- Without a monomial's own variables. -/
def rmv (s x : Nat) : Nat := x - (x &&& s)
/-- The sum over a monomial's places beside y, of the first n, less twos. -/
def csm (s y : Nat) (c : Nat → Nat) : Nat → Nat
  | 0 => 0
  | n + 1 => if rmv s n = y then (csm s y c n + c n) % 2 else csm s y c n
/-- A monomial's word. -/
def mof (t x : Nat) : Nat := if mon t x = true then 1 else 0
/-- All below n are so. -/
def alb (p : Nat → Bool) : Nat → Bool
  | 0 => true
  | n + 1 => p n && alb p n
theorem alb_at {p : Nat → Bool} : ∀ {n}, alb p n = true → ∀ i, i < n → p i = true
  | n + 1, h, i, hi => by
    have h' : (p n && alb p n) = true := h
    rw [Bool.and_eq_true] at h'
    by_cases e : i = n
    · rw [e]; exact h'.1
    · exact alb_at h'.2 i (by omega)
/-- The sums of monomials over a monomial's places. -/
def ckm (m : Nat) : Bool := alb (fun s => alb (fun y => y &&& s != 0 || (csm s y (mof s) (2 ^ m) == 1 && alb (fun t => mon s t || csm s y (mof t) (2 ^ m) == 0) (2 ^ m))) (2 ^ m)) (2 ^ m)
theorem ckm1 : ckm 1 = true := by decide +kernel
theorem ckm2 : ckm 2 = true := by decide +kernel
theorem ckm3 : ckm 3 = true := by decide +kernel
theorem ckm4 : ckm 4 = true := by decide +kernel
theorem ckm5 : ckm 5 = true := by decide +kernel
theorem ckm_all {m : Nat} (h1 : 1 ≤ m) (h : m ≤ 5) : ckm m = true := by
  have : m = 1 ∨ m = 2 ∨ m = 3 ∨ m = 4 ∨ m = 5 := by omega
  rcases this with rfl | rfl | rfl | rfl | rfl
  · exact ckm1
  · exact ckm2
  · exact ckm3
  · exact ckm4
  · exact ckm5
theorem csm_self {m s y : Nat} (h1 : 1 ≤ m) (h : m ≤ 5) (hs : s < 2 ^ m) (hy : y < 2 ^ m) (h0 : y &&& s = 0) : csm s y (mof s) (2 ^ m) = 1 := by
  have := alb_at (alb_at (ckm_all h1 h) s hs) y hy
  rw [h0] at this
  simp only [bne_self_eq_false, Bool.false_or, Bool.and_eq_true, beq_iff_eq] at this
  exact this.1
theorem csm_out {m s y t : Nat} (h1 : 1 ≤ m) (h : m ≤ 5) (hs : s < 2 ^ m) (hy : y < 2 ^ m) (ht : t < 2 ^ m) (h0 : y &&& s = 0) (hn : mon s t = false) : csm s y (mof t) (2 ^ m) = 0 := by
  have := alb_at (alb_at (ckm_all h1 h) s hs) y hy
  rw [h0] at this
  simp only [bne_self_eq_false, Bool.false_or, Bool.and_eq_true, beq_iff_eq] at this
  have := alb_at this.2 t ht
  rw [hn] at this
  simpa using this
theorem csm_lt (s y : Nat) {c : Nat → Nat} : ∀ n, csm s y c n < 2
  | 0 => by show 0 < 2; omega
  | n + 1 => by
    have := csm_lt s y (c := c) n
    show (if rmv s n = y then (csm s y c n + c n) % 2 else csm s y c n) < 2
    split <;> omega
theorem csm_add (s y : Nat) {a b c : Nat → Nat} : ∀ n, (∀ x, x < n → c x % 2 = (a x + b x) % 2) → csm s y c n = (csm s y a n + csm s y b n) % 2
  | 0, _ => rfl
  | n + 1, h => by
    have h1 := csm_add s y n (fun x hx => h x (by omega))
    have h2 := h n (by omega)
    show (if rmv s n = y then (csm s y c n + c n) % 2 else csm s y c n) = ((if rmv s n = y then (csm s y a n + a n) % 2 else csm s y a n) + (if rmv s n = y then (csm s y b n + b n) % 2 else csm s y b n)) % 2
    split <;> omega
theorem csm_nil (s y : Nat) : ∀ n, csm s y (fun _ => 0) n = 0
  | 0 => rfl
  | n + 1 => by
    show (if rmv s n = y then (csm s y (fun _ => 0) n + 0) % 2 else csm s y (fun _ => 0) n) = 0
    rw [csm_nil s y n]; split <;> rfl
theorem csm_congr (s y : Nat) {a b : Nat → Nat} : ∀ n, (∀ x, x < n → a x = b x) → csm s y a n = csm s y b n
  | 0, _ => rfl
  | n + 1, h => by
    show (if rmv s n = y then (csm s y a n + a n) % 2 else csm s y a n) = (if rmv s n = y then (csm s y b n + b n) % 2 else csm s y b n)
    rw [csm_congr s y n (fun x hx => h x (by omega)), h n (by omega)]
/-- Monomials in order: a later one lies in no elder one. -/
def MOrd (m : Nat) (l : List Nat) : Prop := (∀ i, i < l.length → l.getD i 0 < 2 ^ m) ∧ ∀ i j, i < j → j < l.length → mon (l.getD j 0) (l.getD i 0) = false
theorem mwv_step (l : List Nat) (g : Nat → Nat) (x i : Nat) : mwv l g x (i + 1) % 2 = (mwv l g x i + if g i = 1 then mof (l.getD i 0) x else 0) % 2 := by
  have := mwv_lt l g x i
  show (if g i = 1 ∧ mon (l.getD i 0) x = true then 1 - mwv l g x i else mwv l g x i) % 2 = _
  unfold mof
  by_cases h1 : g i = 1
  · by_cases h2 : mon (l.getD i 0) x = true
    · rw [if_pos ⟨h1, h2⟩, if_pos h1, if_pos h2]; omega
    · rw [if_neg (fun h => h2 h.2), if_pos h1, if_neg h2]; omega
  · rw [if_neg (fun h => h1 h.1), if_neg h1]; omega
/-- What elder monomials have at the places of a later one comes to nothing. -/
theorem csm_word {m : Nat} (h1 : 1 ≤ m) (h : m ≤ 5) {l : List Nat} (hl : MOrd m l) {y k : Nat} (g : Nat → Nat) (hk : k < l.length) (hy : y < 2 ^ m) (h0 : y &&& l.getD k 0 = 0) : ∀ i, i ≤ k → csm (l.getD k 0) y (fun x => mwv l g x i) (2 ^ m) = 0
  | 0, _ => csm_nil _ _ _
  | i + 1, hi => by
    rw [csm_add _ _ (a := fun x => mwv l g x i) (b := fun x => if g i = 1 then mof (l.getD i 0) x else 0) (2 ^ m) (fun x _ => mwv_step l g x i), csm_word h1 h hl g hk hy h0 i (by omega)]
    by_cases hg : g i = 1
    · have e : csm (l.getD k 0) y (fun x => if g i = 1 then mof (l.getD i 0) x else 0) (2 ^ m) = csm (l.getD k 0) y (mof (l.getD i 0)) (2 ^ m) := csm_congr _ _ _ (fun x _ => if_pos hg)
      rw [e, csm_out h1 h (hl.1 k hk) hy (hl.1 i (by omega)) h0 (hl.2 i k (by omega) hk)]
    · have e : csm (l.getD k 0) y (fun x => if g i = 1 then mof (l.getD i 0) x else 0) (2 ^ m) = csm (l.getD k 0) y (fun _ => 0) (2 ^ m) := csm_congr _ _ _ (fun x _ => if_neg hg)
      rw [e, csm_nil]
theorem csm_top {m : Nat} (h1 : 1 ≤ m) (h : m ≤ 5) {l : List Nat} (hl : MOrd m l) {y k : Nat} (g : Nat → Nat) (hk : k < l.length) (hy : y < 2 ^ m) (h0 : y &&& l.getD k 0 = 0) : csm (l.getD k 0) y (fun x => mwv l g x (k + 1)) (2 ^ m) = if g k = 1 then 1 else 0 := by
  rw [csm_add _ _ (a := fun x => mwv l g x k) (b := fun x => if g k = 1 then mof (l.getD k 0) x else 0) (2 ^ m) (fun x _ => mwv_step l g x k), csm_word h1 h hl g hk hy h0 k (Nat.le_refl _)]
  by_cases hg : g k = 1
  · have e : csm (l.getD k 0) y (fun x => if g k = 1 then mof (l.getD k 0) x else 0) (2 ^ m) = csm (l.getD k 0) y (mof (l.getD k 0)) (2 ^ m) := csm_congr _ _ _ (fun x _ => if_pos hg)
    rw [e, csm_self h1 h (hl.1 k hk) hy h0, if_pos hg]
  · have e : csm (l.getD k 0) y (fun x => if g k = 1 then mof (l.getD k 0) x else 0) (2 ^ m) = csm (l.getD k 0) y (fun _ => 0) (2 ^ m) := csm_congr _ _ _ (fun x _ => if_neg hg)
    rw [e, csm_nil, if_neg hg]
/-- How many of the first n are so. -/
def cnu (p : Nat → Bool) : Nat → Nat
  | 0 => 0
  | n + 1 => cnu p n + if p n = true then 1 else 0
theorem cnu_congr {p q : Nat → Bool} : ∀ n, (∀ x, x < n → p x = q x) → cnu p n = cnu q n
  | 0, _ => rfl
  | n + 1, h => by
    show cnu p n + (if p n = true then 1 else 0) = cnu q n + (if q n = true then 1 else 0)
    rw [cnu_congr n (fun x hx => h x (by omega)), h n (by omega)]
/-- Is it a place of noughts beside s, with odd sum? -/
def yes (s : Nat) (c : Nat → Nat) (P : Nat) (y : Nat) : Bool := decide (y &&& s = 0) && csm s y c P == 1
def nos (s : Nat) (c : Nat → Nat) (P : Nat) (y : Nat) : Bool := decide (y &&& s = 0) && !(csm s y c P == 1)
/-- By majority. -/
def maj (s : Nat) (c : Nat → Nat) (P : Nat) : Bool := decide (cnu (nos s c P) P < cnu (yes s c P) P)
theorem cnu_both (s : Nat) (c : Nat → Nat) (P : Nat) : ∀ n, cnu (yes s c P) n + cnu (nos s c P) n = cnu (fun y => decide (y &&& s = 0)) n
  | 0 => rfl
  | n + 1 => by
    have := cnu_both s c P n
    show cnu (yes s c P) n + (if yes s c P n = true then 1 else 0) + (cnu (nos s c P) n + if nos s c P n = true then 1 else 0) = cnu (fun y => decide (y &&& s = 0)) n + if decide (n &&& s = 0) = true then 1 else 0
    unfold yes nos at *
    cases hd : decide (n &&& s = 0) <;> cases hc : (csm s n c P == 1) <;> simp <;> omega
/-- How many are 1. -/
def wgt (c : Nat → Nat) : Nat → Nat
  | 0 => 0
  | n + 1 => wgt c n + if c n = 1 then 1 else 0
/-- The classes' sums, added up over y below Q. -/
def tot (s : Nat) (c : Nat → Nat) (n : Nat) : Nat → Nat
  | 0 => 0
  | Q + 1 => tot s c n Q + if Q &&& s = 0 then csm s Q c n else 0
theorem tot_step (s : Nat) (c : Nat → Nat) (n : Nat) (hc : c n < 2) : ∀ Q, tot s c (n + 1) Q ≤ tot s c n Q + if rmv s n < Q then c n else 0
  | 0 => by show 0 ≤ _; omega
  | Q + 1 => by
    have h := tot_step s c n hc Q
    show tot s c (n + 1) Q + (if Q &&& s = 0 then (if rmv s n = Q then (csm s Q c n + c n) % 2 else csm s Q c n) else 0) ≤ tot s c n Q + (if Q &&& s = 0 then csm s Q c n else 0) + if rmv s n < Q + 1 then c n else 0
    by_cases h1 : rmv s n = Q
    · rw [if_neg (show ¬ rmv s n < Q by omega)] at h
      rw [if_pos (show rmv s n < Q + 1 by omega), if_pos h1]
      split <;> omega
    · rw [if_neg h1]
      by_cases h2 : rmv s n < Q
      · rw [if_pos h2] at h; rw [if_pos (show rmv s n < Q + 1 by omega)]; omega
      · rw [if_neg h2] at h; rw [if_neg (show ¬ rmv s n < Q + 1 by omega)]; omega
theorem tot_le (s : Nat) (c : Nat → Nat) (Q : Nat) : ∀ n, (∀ x, x < n → c x < 2) → tot s c n Q ≤ wgt c n
  | 0, _ => by
    have : ∀ Q, tot s c 0 Q = 0 := fun Q => by
      induction Q with
      | zero => rfl
      | succ Q ih => show tot s c 0 Q + (if Q &&& s = 0 then 0 else 0) = 0; rw [ih]; split <;> rfl
    rw [this]; exact Nat.zero_le _
  | n + 1, h => by
    have h1 := tot_le s c Q n (fun x hx => h x (by omega))
    have h2 := tot_step s c n (h n (by omega)) Q
    have h3 := h n (by omega)
    show _ ≤ wgt c n + if c n = 1 then 1 else 0
    have : (if rmv s n < Q then c n else 0) ≤ if c n = 1 then 1 else 0 := by
      split <;> split <;> omega
    omega
theorem cnu_tot (s : Nat) (c : Nat → Nat) (P : Nat) : ∀ Q, cnu (yes s c P) Q = tot s c P Q
  | 0 => rfl
  | Q + 1 => by
    show cnu (yes s c P) Q + (if yes s c P Q = true then 1 else 0) = tot s c P Q + if Q &&& s = 0 then csm s Q c P else 0
    rw [cnu_tot s c P Q]
    have := csm_lt s Q (c := c) P
    unfold yes
    by_cases h1 : Q &&& s = 0
    · rw [if_pos h1]
      by_cases h2 : csm s Q c P = 1
      · simp [h1, h2]
      · have h3 : csm s Q c P = 0 := by omega
        simp [h1, h3]
    · rw [if_neg h1]; simp [h1]
/-- Few odd sums where little is wrong. -/
theorem yes_few (s : Nat) (e : Nat → Nat) (P : Nat) (he : ∀ x, x < P → e x < 2) : cnu (yes s e P) P ≤ wgt e P := by
  rw [cnu_tot]; exact tot_le s e P P he
def cfr (m : Nat) : Bool := alb (fun s => cnu (fun y => decide (y &&& s = 0)) (2 ^ m) == 2 ^ (m - pc s)) (2 ^ m)
theorem cfr_all {m : Nat} (h1 : 1 ≤ m) (h : m ≤ 5) : cfr m = true := by
  have : m = 1 ∨ m = 2 ∨ m = 3 ∨ m = 4 ∨ m = 5 := by omega
  rcases this with rfl | rfl | rfl | rfl | rfl <;> decide +kernel
theorem cnu_free {m s : Nat} (h1 : 1 ≤ m) (h : m ≤ 5) (hs : s < 2 ^ m) : cnu (fun y => decide (y &&& s = 0)) (2 ^ m) = 2 ^ (m - pc s) := by
  have := alb_at (cfr_all h1 h) s hs
  simpa using this
/-- The majority tells the coefficient. -/
theorem maj_tells {m : Nat} (h1 : 1 ≤ m) (h : m ≤ 5) {l : List Nat} (hl : MOrd m l) {k : Nat} {c g e : Nat → Nat} (hk : k < l.length) (he : ∀ x, x < 2 ^ m → e x < 2) (hc : ∀ x, x < 2 ^ m → c x % 2 = (mwv l g x (k + 1) + e x) % 2)
    (hw : 2 * wgt e (2 ^ m) < 2 ^ (m - pc (l.getD k 0))) : maj (l.getD k 0) c (2 ^ m) = decide (g k = 1) := by
  have hs := hl.1 k hk
  have hy : ∀ y, y < 2 ^ m → y &&& l.getD k 0 = 0 → csm (l.getD k 0) y c (2 ^ m) = ((if g k = 1 then 1 else 0) + csm (l.getD k 0) y e (2 ^ m)) % 2 := fun y hy h0 => by
    rw [csm_add _ _ (a := fun x => mwv l g x (k + 1)) (b := e) (2 ^ m) hc, csm_top h1 h hl g hk hy h0]
  have hf := yes_few (l.getD k 0) e (2 ^ m) he
  have hb := cnu_both (l.getD k 0) c (2 ^ m) (2 ^ m)
  rw [cnu_free h1 h hs] at hb
  unfold maj
  by_cases hg : g k = 1
  · have e1 : cnu (nos (l.getD k 0) c (2 ^ m)) (2 ^ m) = cnu (yes (l.getD k 0) e (2 ^ m)) (2 ^ m) := cnu_congr _ (fun y hyl => by
      unfold nos yes
      by_cases h0 : y &&& l.getD k 0 = 0
      · have := hy y hyl h0
        rw [if_pos hg] at this
        have h2 := csm_lt (l.getD k 0) y (c := e) (2 ^ m)
        rw [decide_eq_true h0, this]
        have : csm (l.getD k 0) y e (2 ^ m) = 0 ∨ csm (l.getD k 0) y e (2 ^ m) = 1 := by omega
        rcases this with h | h <;> rw [h] <;> rfl
      · rw [decide_eq_false h0]; rfl)
    rw [decide_eq_true hg, decide_eq_true]
    omega
  · have e1 : cnu (yes (l.getD k 0) c (2 ^ m)) (2 ^ m) = cnu (yes (l.getD k 0) e (2 ^ m)) (2 ^ m) := cnu_congr _ (fun y hyl => by
      unfold yes
      by_cases h0 : y &&& l.getD k 0 = 0
      · have := hy y hyl h0
        rw [if_neg hg] at this
        have h2 := csm_lt (l.getD k 0) y (c := e) (2 ^ m)
        rw [decide_eq_true h0, this]
        have : csm (l.getD k 0) y e (2 ^ m) = 0 ∨ csm (l.getD k 0) y e (2 ^ m) = 1 := by omega
        rcases this with h | h <;> rw [h] <;> rfl
      · rw [decide_eq_false h0]; rfl)
    rw [decide_eq_false hg, decide_eq_false]
    omega
/-- What is left of a word, the last j monomials taken away where the majority says so. -/
def mrs (l : List Nat) (P : Nat) (c : Nat → Nat) : Nat → Nat → Nat
  | 0 => c
  | j + 1 => if maj (l.getD (l.length - 1 - j) 0) (mrs l P c j) P = true then mad (l.getD (l.length - 1 - j) 0) (mrs l P c j) P else mrs l P c j
/-- The message's bit. -/
def dbt (l : List Nat) (P : Nat) (c : Nat → Nat) (i : Nat) : Nat := if maj (l.getD i 0) (mrs l P c (l.length - 1 - i)) P = true then 1 else 0
theorem dbt_lt (l : List Nat) (P : Nat) (c : Nat → Nat) (i : Nat) : dbt l P c i < 2 := by unfold dbt; split <;> omega
theorem mrs_lt {l : List Nat} {P : Nat} {c : Nat → Nat} (hc : ∀ x, x < P → c x < 2) : ∀ j x, x < P → mrs l P c j x < 2
  | 0, x, hx => hc x hx
  | j + 1, x, hx => by
    have := mrs_lt (l := l) hc j x hx
    show (if maj (l.getD (l.length - 1 - j) 0) (mrs l P c j) P = true then mad (l.getD (l.length - 1 - j) 0) (mrs l P c j) P else mrs l P c j) x < 2
    split
    · unfold mad; split <;> omega
    · exact this
theorem mrs_step {l : List Nat} {P : Nat} {c : Nat → Nat} (hc : ∀ x, x < P → c x < 2) {j x : Nat} (hx : x < P) (hj : j < l.length) : mrs l P c (j + 1) x % 2 = (mrs l P c j x + if dbt l P c (l.length - 1 - j) = 1 then mof (l.getD (l.length - 1 - j) 0) x else 0) % 2 := by
  have h := mrs_lt (l := l) hc j x hx
  have e : l.length - 1 - (l.length - 1 - j) = j := by omega
  show (if maj (l.getD (l.length - 1 - j) 0) (mrs l P c j) P = true then mad (l.getD (l.length - 1 - j) 0) (mrs l P c j) P else mrs l P c j) x % 2 = _
  unfold dbt
  rw [e]
  by_cases hm : maj (l.getD (l.length - 1 - j) 0) (mrs l P c j) P = true
  · rw [if_pos hm, if_pos hm, if_pos rfl]
    unfold mad mof
    by_cases h2 : mon (l.getD (l.length - 1 - j) 0) x = true
    · rw [if_pos ⟨hx, h2⟩, if_pos h2]; omega
    · rw [if_neg (fun h => h2 h.2), if_neg h2]; omega
  · rw [if_neg hm, if_neg hm, if_neg (by omega)]; omega
/-- What is left, and the message's word, are the word that came. -/
theorem mrs_all {l : List Nat} {P : Nat} {c : Nat → Nat} (hc : ∀ x, x < P → c x < 2) {x : Nat} (hx : x < P) : ∀ j, j ≤ l.length → (mrs l P c j x + mwv l (dbt l P c) x l.length) % 2 = (c x + mwv l (dbt l P c) x (l.length - j)) % 2
  | 0, _ => rfl
  | j + 1, hj => by
    have ih := mrs_all (l := l) hc hx j (by omega)
    have h1 := mrs_step (l := l) hc hx (j := j) (by omega)
    have h2 := mwv_step l (dbt l P c) x (l.length - 1 - j)
    rw [show l.length - 1 - j + 1 = l.length - j by omega] at h2
    rw [show l.length - (j + 1) = l.length - 1 - j by omega]
    omega
theorem mrs_end {l : List Nat} {P : Nat} {c : Nat → Nat} (hc : ∀ x, x < P → c x < 2) {x : Nat} (hx : x < P) : (mrs l P c l.length x + mwv l (dbt l P c) x l.length) % 2 = c x % 2 := by
  have := mrs_all (l := l) hc hx l.length (Nat.le_refl _)
  rw [Nat.sub_self] at this
  exact this
/-- Few errors are mended. -/
theorem mrs_mends {m r : Nat} (h1 : 1 ≤ m) (h : m ≤ 5) {l : List Nat} (hl : MOrd m l) (hp : ∀ i, i < l.length → pc (l.getD i 0) ≤ r) (hrm : r ≤ m) {c g e : Nat → Nat} (he : ∀ x, x < 2 ^ m → e x < 2) (hcb : ∀ x, x < 2 ^ m → c x < 2)
    (hc : ∀ x, x < 2 ^ m → c x % 2 = (mwv l g x l.length + e x) % 2) (hw : 2 * wgt e (2 ^ m) < 2 ^ (m - r)) (hg : ∀ i, i < l.length → g i < 2) :
    ∀ j, j ≤ l.length → (∀ x, x < 2 ^ m → mrs l (2 ^ m) c j x % 2 = (mwv l g x (l.length - j) + e x) % 2) ∧ ∀ i, l.length - j ≤ i → i < l.length → dbt l (2 ^ m) c i = g i
  | 0, _ => ⟨fun x hx => by rw [Nat.sub_zero]; exact hc x hx, fun i h1 h2 => by omega⟩
  | j + 1, hj => by
    obtain ⟨ih1, ih2⟩ := mrs_mends h1 h hl hp hrm he hcb hc hw hg j (by omega)
    obtain ⟨k, hk⟩ : ∃ k, k = l.length - 1 - j := ⟨_, rfl⟩
    have hkl : k < l.length := by omega
    have hj1 : l.length - j = k + 1 := by omega
    rw [hj1] at ih1
    have hpk := hp k hkl
    have hpw : 2 ^ (m - r) ≤ 2 ^ (m - pc (l.getD k 0)) := Nat.pow_le_pow_right (by omega) (by omega)
    have hm := maj_tells h1 h hl hkl he ih1 (by omega)
    have hbit : dbt l (2 ^ m) c k = g k := by
      unfold dbt
      rw [show l.length - 1 - k = j by omega, hm]
      have := hg k hkl
      by_cases hg1 : g k = 1
      · rw [decide_eq_true hg1, if_pos rfl, hg1]
      · rw [decide_eq_false hg1, if_neg (by decide)]; omega
    refine ⟨fun x hx => ?_, fun i hi1 hi2 => ?_⟩
    · have a1 := mrs_step (l := l) hcb hx (j := j) (by omega)
      rw [← hk, hbit] at a1
      have a2 := mwv_step l g x k
      have a3 := ih1 x hx
      rw [show l.length - (j + 1) = k by omega]
      have a4 : ∀ v : Nat, v = (if g k = 1 then mof (l.getD k 0) x else 0) → v < 2 := fun v hv => by
        rw [hv]; unfold mof; split
        · split <;> omega
        · omega
      have := a4 _ rfl
      omega
    · by_cases e : i = k
      · rw [e]; exact hbit
      · exact ih2 i (by omega) hi2
/-- The order of the lists. -/
def cor (m : Nat) : Bool := alb (fun j => decide ((mnl m (m + 1)).getD j 0 < 2 ^ m) && alb (fun i => !mon ((mnl m (m + 1)).getD j 0) ((mnl m (m + 1)).getD i 0)) j) (mnl m (m + 1)).length
theorem cor_all {m : Nat} (h1 : 1 ≤ m) (h : m ≤ 5) : cor m = true := by
  have : m = 1 ∨ m = 2 ∨ m = 3 ∨ m = 4 ∨ m = 5 := by omega
  rcases this with rfl | rfl | rfl | rfl | rfl <;> decide +kernel
theorem mnl_pre {m r : Nat} (hr : r ≤ m) : (mnl m (r + 1)).length ≤ (mnl m (m + 1)).length ∧ ∀ i, i < (mnl m (r + 1)).length → (mnl m (m + 1)).getD i 0 = (mnl m (r + 1)).getD i 0 := by
  obtain ⟨t, ht⟩ := pre_mnl m (r + 1) (m - r)
  rw [show r + 1 + (m - r) = m + 1 by omega] at ht
  rw [ht]
  refine ⟨by rw [List.length_append]; omega, fun i hi => ?_⟩
  rw [List.getD_eq_getElem?_getD, List.getD_eq_getElem?_getD, List.getElem?_append_left hi]
theorem mnl_ord {m r : Nat} (h1 : 1 ≤ m) (h : m ≤ 5) (hr : r ≤ m) : MOrd m (mnl m (r + 1)) := by
  obtain ⟨hlen, hpre⟩ := mnl_pre hr
  have hc := alb_at (cor_all h1 h)
  refine ⟨fun i hi => ?_, fun i j hij hj => ?_⟩
  · have := hc i (by omega)
    rw [Bool.and_eq_true, decide_eq_true_iff, hpre i hi] at this
    exact this.1
  · have := hc j (by omega)
    rw [Bool.and_eq_true] at this
    have := alb_at this.2 i hij
    rw [hpre i (by omega), hpre j hj] at this
    simpa using this
theorem mrw_pc (j : Nat) : ∀ c s, s ∈ mrw j c → pc s = j
  | 0, s, h => by cases h
  | c + 1, s, h => by
    have h' : s ∈ mrw j c ++ (if pc c = j then [c] else []) := h
    rw [List.mem_append] at h'
    rcases h' with e | e
    · exact mrw_pc j c s e
    · split at e
      · rename_i hp; rw [List.mem_singleton] at e; rw [e]; exact hp
      · cases e
theorem mnl_pc (m : Nat) : ∀ j s, s ∈ mnl m j → pc s < j
  | 0, s, h => by cases h
  | j + 1, s, h => by
    have h' : s ∈ mnl m j ++ mrw j (2 ^ m) := h
    rw [List.mem_append] at h'
    rcases h' with e | e
    · have := mnl_pc m j s e; omega
    · have := mrw_pc j _ s e; omega
theorem mnl_few {m r i : Nat} (hi : i < (mnl m (r + 1)).length) : pc ((mnl m (r + 1)).getD i 0) ≤ r := by
  have : (mnl m (r + 1)).getD i 0 ∈ mnl m (r + 1) := by
    rw [List.getD_eq_getElem?_getD, List.getElem?_eq_getElem hi]
    exact List.getElem_mem hi
  have := mnl_pc m (r + 1) _ this
  omega
/-- Whole: a word with few errors is mended. -/
theorem muller_mends {m r : Nat} (h1 : 1 ≤ m) (h : m ≤ 5) (hr : r ≤ m) {c g e : Nat → Nat} (he : ∀ x, x < 2 ^ m → e x < 2) (hcb : ∀ x, x < 2 ^ m → c x < 2)
    (hc : ∀ x, x < 2 ^ m → c x % 2 = (mwv (mnl m (r + 1)) g x (mnl m (r + 1)).length + e x) % 2) (hw : 2 * wgt e (2 ^ m) < 2 ^ (m - r)) (hg : ∀ i, i < (mnl m (r + 1)).length → g i < 2) :
    (∀ x, x < 2 ^ m → mrs (mnl m (r + 1)) (2 ^ m) c (mnl m (r + 1)).length x = e x) ∧ ∀ i, i < (mnl m (r + 1)).length → dbt (mnl m (r + 1)) (2 ^ m) c i = g i := by
  obtain ⟨a1, a2⟩ := mrs_mends h1 h (mnl_ord h1 h hr) (fun i hi => mnl_few hi) hr he hcb hc hw hg (mnl m (r + 1)).length (Nat.le_refl _)
  refine ⟨fun x hx => ?_, fun i hi => a2 i (by omega) hi⟩
  have b1 := a1 x hx
  have b2 := mrs_lt (l := mnl m (r + 1)) hcb (mnl m (r + 1)).length x hx
  have b3 := he x hx
  rw [Nat.sub_self] at b1
  have : mwv (mnl m (r + 1)) g x 0 = 0 := rfl
  omega
end Go.Proofs.Ytmklnjkallhphaa
