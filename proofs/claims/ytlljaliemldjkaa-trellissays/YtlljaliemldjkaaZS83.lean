/- Sums of what may be missing, in whatever order; all ways through a trellis at once. No Go text here. -/
import Derived.Test.YtlljaliemldjkaaZKU1
namespace Go.Proofs.Ytlljaliemldjkaa

/-- Two values that may be missing, met. -/
def opm {α : Type} (mt : α → α → α) : Option α → Option α → Option α
  | none, b => b
  | some a, none => some a
  | some a, some b => some (mt a b)
/-- It makes no difference in what order they meet. -/
structure Mts {α : Type} (mt : α → α → α) : Prop where
  comm : ∀ a b, mt a b = mt b a
  assoc : ∀ a b c, mt (mt a b) c = mt a (mt b c)
theorem opm_none {α : Type} (mt : α → α → α) (a : Option α) : opm mt a none = a := by cases a <;> rfl
theorem Mts.ocomm {α : Type} {mt : α → α → α} (h : Mts mt) (a b : Option α) : opm mt a b = opm mt b a := by
  cases a <;> cases b <;> first | rfl | (show some _ = some _; rw [h.comm])
theorem Mts.oassoc {α : Type} {mt : α → α → α} (h : Mts mt) (a b c : Option α) : opm mt (opm mt a b) c = opm mt a (opm mt b c) := by
  cases a <;> cases b <;> cases c <;> first | rfl | (show some _ = some _; rw [h.assoc])
theorem Mts.med {α : Type} {mt : α → α → α} (h : Mts mt) (a b c d : Option α) : opm mt (opm mt a b) (opm mt c d) = opm mt (opm mt a c) (opm mt b d) := by
  rw [h.oassoc, ← h.oassoc b c d, h.ocomm b c, h.oassoc c b d, ← h.oassoc]
/-- A sum over a list. -/
def gat {α β : Type} (mt : α → α → α) (f : β → Option α) (L : List β) : Option α := L.foldl (fun acc b => opm mt acc (f b)) none
theorem gat_nil {α β : Type} (mt : α → α → α) (f : β → Option α) : gat mt f [] = none := rfl
theorem gat_snoc {α β : Type} (mt : α → α → α) (f : β → Option α) (L : List β) (b : β) : gat mt f (L ++ [b]) = opm mt (gat mt f L) (f b) := by
  unfold gat; rw [List.foldl_append]; rfl
theorem gat_go {α β : Type} {mt : α → α → α} (h : Mts mt) (f : β → Option α) : ∀ (L : List β) (a : Option α), L.foldl (fun acc b => opm mt acc (f b)) a = opm mt a (gat mt f L)
  | [], a => (opm_none mt a).symm
  | b :: L, a => by
    show L.foldl _ (opm mt a (f b)) = opm mt a (L.foldl _ (opm mt none (f b)))
    rw [gat_go h f L, gat_go h f L, h.oassoc]; rfl
theorem gat_cons {α β : Type} {mt : α → α → α} (h : Mts mt) (f : β → Option α) (b : β) (L : List β) : gat mt f (b :: L) = opm mt (f b) (gat mt f L) := by
  show L.foldl _ (opm mt none (f b)) = _
  rw [gat_go h]; rfl
theorem gat_app {α β : Type} {mt : α → α → α} (h : Mts mt) (f : β → Option α) (A B : List β) : gat mt f (A ++ B) = opm mt (gat mt f A) (gat mt f B) := by
  show (A ++ B).foldl _ none = _
  rw [List.foldl_append]
  exact gat_go h f B _
theorem gat_perm {α β : Type} {mt : α → α → α} (h : Mts mt) (f : β → Option α) {A B : List β} (hp : A.Perm B) : gat mt f A = gat mt f B := by
  induction hp with
  | nil => rfl
  | cons x _ ih => rw [gat_cons h, gat_cons h, ih]
  | swap x y l => rw [gat_cons h, gat_cons h, gat_cons h, gat_cons h, ← h.oassoc, ← h.oassoc, h.ocomm (f y)]
  | trans _ _ h1 h2 => exact h1.trans h2
theorem gat_congr {α β : Type} {mt : α → α → α} {f g : β → Option α} : ∀ {L : List β}, (∀ b ∈ L, f b = g b) → gat mt f L = gat mt g L := fun {L} hL => by
  unfold gat
  generalize (none : Option α) = a
  induction L generalizing a with
  | nil => rfl
  | cons b L ih =>
    show L.foldl _ (opm mt a (f b)) = L.foldl _ (opm mt a (g b))
    rw [hL b (List.mem_cons_self ..)]
    exact ih (fun c hc => hL c (List.mem_cons_of_mem _ hc)) _
theorem gat_zero {α β : Type} {mt : α → α → α} (h : Mts mt) {f : β → Option α} : ∀ {L : List β}, (∀ b ∈ L, f b = none) → gat mt f L = none
  | [], _ => rfl
  | b :: L, hL => by rw [gat_cons h, hL b (List.mem_cons_self ..), gat_zero h (fun c hc => hL c (List.mem_cons_of_mem _ hc))]; rfl
theorem gat_flat {α β γ : Type} {mt : α → α → α} (h : Mts mt) (f : γ → Option α) (g : β → List γ) : ∀ L : List β, gat mt f (L.flatMap g) = gat mt (fun b => gat mt f (g b)) L
  | [] => rfl
  | b :: L => by rw [List.flatMap_cons, gat_app h, gat_cons h, gat_flat h f g L]
theorem gat_map {α β γ : Type} {mt : α → α → α} (h : Mts mt) (f : γ → Option α) (g : β → γ) : ∀ L : List β, gat mt f (L.map g) = gat mt (fun b => f (g b)) L
  | [] => rfl
  | b :: L => by rw [List.map_cons, gat_cons h, gat_cons h, gat_map h f g L]
theorem gat_add {α β : Type} {mt : α → α → α} (h : Mts mt) (f g : β → Option α) : ∀ B : List β, opm mt (gat mt f B) (gat mt g B) = gat mt (fun b => opm mt (f b) (g b)) B
  | [] => rfl
  | b :: B => by rw [gat_cons h, gat_cons h, gat_cons h, h.med, gat_add h f g B]
theorem gat_swap {α β γ : Type} {mt : α → α → α} (h : Mts mt) (f : β → γ → Option α) (B : List γ) : ∀ A : List β, gat mt (fun a => gat mt (fun b => f a b) B) A = gat mt (fun b => gat mt (fun a => f a b) A) B
  | [] => by
    symm
    exact gat_zero h (fun b _ => rfl)
  | a :: A => by
    rw [gat_cons h, gat_swap h f B A, gat_add h]
    exact gat_congr fun b _ => (gat_cons h (fun a => f a b) a A).symm
theorem gat_fil {α β : Type} {mt : α → α → α} (h : Mts mt) (f : β → Option α) (p : β → Bool) : ∀ {L : List β}, (∀ b ∈ L, p b = false → f b = none) → gat mt f (L.filter p) = gat mt f L
  | [], _ => rfl
  | b :: L, hL => by
    have ih := gat_fil h f p (L := L) (fun c hc => hL c (List.mem_cons_of_mem _ hc))
    cases hp : p b
    · rw [List.filter_cons_of_neg (by rw [hp]; decide), ih, gat_cons h, hL b (List.mem_cons_self ..) hp]; rfl
    · rw [List.filter_cons_of_pos hp, gat_cons h, gat_cons h, ih]
/-- A step that goes over a sum. -/
theorem gat_step {α β : Type} {mt : α → α → α} (h : Mts mt) {g : α → α} (hg : ∀ a b, g (mt a b) = mt (g a) (g b)) (f : β → Option α) : ∀ L : List β, (gat mt f L).map g = gat mt (fun b => (f b).map g) L
  | [] => rfl
  | b :: L => by
    rw [gat_cons h, gat_cons h, ← gat_step h hg f L]
    cases f b <;> cases gat mt f L <;> first | rfl | (show some _ = some _; rw [hg])
/-- Of a range just one counts. -/
theorem gat_one {α : Type} {mt : α → α → α} (h : Mts mt) {f : Nat → Option α} {c : Nat} : ∀ N, (∀ s, s < N → s ≠ c → f s = none) → gat mt f (List.range N) = if c < N then f c else none
  | 0, _ => by rw [if_neg (by omega)]; rfl
  | N + 1, hf => by
    rw [List.range_succ, gat_snoc, gat_one h N (fun s hs => hf s (by omega))]
    by_cases e : c = N
    · subst e
      rw [if_neg (by omega), if_pos (by omega)]; rfl
    · rw [hf N (by omega) (fun q => e q.symm), opm_none]
      by_cases q : c < N
      · rw [if_pos q, if_pos (by omega)]
      · rw [if_neg q, if_neg (by omega)]
/-- What stands by each state, a step on. -/
def nxF {α : Type} (mt : α → α → α) (M ch : Nat) (st : Nat → α → α) (F : Nat → Option α) (s' : Nat) : Option α :=
  gat mt (fun s => gat mt (fun b => if (2 * s + b) % 2 ^ M = s' then (F s).map (st (2 * s + b)) else none) (List.range ch)) (List.range (2 ^ M))
/-- How many bits may come. -/
def chc (n k : Nat) : Nat := if k < n then 2 else 1
/-- All that was seen, behind k steps. -/
def VL (n : Nat) : Nat → List Nat
  | 0 => [0]
  | k + 1 => (VL n k).flatMap fun x => (List.range (chc n k)).map fun b => 2 * x + b
def vlu' {α : Type} (M : Nat) (st : Nat → Nat → α → α) (a0 : α) : Nat → Nat → α
  | 0, _ => a0
  | k + 1, y => st k (y % 2 ^ (M + 1)) (vlu' M st a0 k (y / 2))
def thF {α : Type} (mt : α → α → α) (M n : Nat) (st : Nat → Nat → α → α) (a0 : α) : Nat → Nat → Option α
  | 0 => fun s => if s = 0 then some a0 else none
  | k + 1 => nxF mt M (chc n k) (st k) (thF mt M n st a0 k)
theorem low_two {M x b : Nat} (hb : b < 2) : 2 * (x % 2 ^ M) + b = (2 * x + b) % 2 ^ (M + 1) := by
  rw [Nat.pow_succ]
  have h0 : 0 < 2 ^ M := Nat.pow_pos (by omega)
  generalize 2 ^ M = P at *
  have h1 := Nat.div_add_mod x P
  have h2 := Nat.mod_lt x h0
  have e : 2 * x + b = (2 * (x % P) + b) + P * 2 * (x / P) := by
    have : P * 2 * (x / P) = 2 * (P * (x / P)) := by rw [Nat.mul_comm P 2, Nat.mul_assoc]
    omega
  have h3 : (2 * (x % P) + b + P * 2 * (x / P)) % (P * 2) = 2 * (x % P) + b := by
    rw [Nat.add_mul_mod_self_left]
    exact Nat.mod_eq_of_lt (by omega)
  rw [e]
  exact h3.symm
theorem chc_le (n k : Nat) : chc n k ≤ 2 := by unfold chc; split <;> omega
theorem thF_is {α : Type} {mt : α → α → α} (h : Mts mt) {M n : Nat} {st : Nat → Nat → α → α} (hs : ∀ k x a b, st k x (mt a b) = mt (st k x a) (st k x b)) (a0 : α) : ∀ k s, thF mt M n st a0 k s = gat mt (fun x => if x % 2 ^ M = s then some (vlu' M st a0 k x) else none) (VL n k)
  | 0, s => by
    show (if s = 0 then some a0 else none) = opm mt none (if 0 % 2 ^ M = s then some a0 else none)
    rw [Nat.zero_mod]
    by_cases e : s = 0
    · rw [if_pos e, if_pos e.symm]; rfl
    · rw [if_neg e, if_neg (fun q => e q.symm)]; rfl
  | k + 1, s' => by
    have h0 : 0 < 2 ^ M := Nat.pow_pos (by omega)
    show nxF mt M (chc n k) (st k) (thF mt M n st a0 k) s' = gat mt _ ((VL n k).flatMap _)
    rw [gat_flat h]
    unfold nxF
    have e1 : ∀ s, (gat mt (fun b => if (2 * s + b) % 2 ^ M = s' then (thF mt M n st a0 k s).map (st k (2 * s + b)) else none) (List.range (chc n k))) = gat mt (fun x => gat mt (fun b => if x % 2 ^ M = s ∧ (2 * s + b) % 2 ^ M = s' then some (st k (2 * s + b) (vlu' M st a0 k x)) else none) (List.range (chc n k))) (VL n k) := fun s => by
      rw [gat_swap h]
      refine gat_congr fun b _ => ?_
      by_cases c : (2 * s + b) % 2 ^ M = s'
      · rw [if_pos c, thF_is h hs a0 k s, gat_step h (hs k (2 * s + b))]
        refine gat_congr fun x _ => ?_
        by_cases d : x % 2 ^ M = s
        · rw [if_pos d, if_pos ⟨d, c⟩]; rfl
        · rw [if_neg d, if_neg (fun q => d q.1)]; rfl
      · rw [if_neg c]
        symm
        exact gat_zero h (fun x _ => if_neg (fun q => c q.2))
    rw [gat_congr (fun s _ => e1 s), gat_swap h]
    refine gat_congr fun x _ => ?_
    rw [gat_map h, gat_swap h]
    refine gat_congr fun b hb => ?_
    have hb2 : b < 2 := Nat.lt_of_lt_of_le (List.mem_range.1 hb) (chc_le n k)
    rw [gat_one h (c := x % 2 ^ M) (2 ^ M) (fun s _ hne => if_neg (fun q => hne q.1.symm)), if_pos (Nat.mod_lt _ h0), low_two hb2]
    have e2 : (2 * x + b) % 2 ^ (M + 1) % 2 ^ M = (2 * x + b) % 2 ^ M := Nat.mod_mod_of_dvd _ ⟨2, by rw [Nat.pow_succ]⟩
    rw [e2]
    have e3 : vlu' M st a0 (k + 1) (2 * x + b) = st k ((2 * x + b) % 2 ^ (M + 1)) (vlu' M st a0 k x) := by
      show st k ((2 * x + b) % 2 ^ (M + 1)) (vlu' M st a0 k ((2 * x + b) / 2)) = _
      rw [show (2 * x + b) / 2 = x by omega]
    rw [e3]
    by_cases c : (2 * x + b) % 2 ^ M = s'
    · rw [if_pos ⟨rfl, c⟩, if_pos c]
    · rw [if_neg (fun q => c q.2), if_neg c]
/-! what the ways are -/
theorem VL_low (n : Nat) : ∀ k, k ≤ n → VL n k = List.range (2 ^ k)
  | 0, _ => rfl
  | k + 1, hk => by
    show (VL n k).flatMap _ = _
    rw [VL_low n k (by omega)]
    have e : chc n k = 2 := by unfold chc; rw [if_pos (by omega)]
    rw [e, Nat.pow_succ]
    generalize 2 ^ k = N
    induction N with
    | zero => rfl
    | succ N ih =>
      rw [List.range_succ (n := N), List.flatMap_append, ih, Nat.add_mul, Nat.one_mul, List.range_succ (n := N * 2 + 1), List.range_succ (n := N * 2)]
      show _ ++ ([N].flatMap _) = _
      rw [List.append_assoc]
      congr 1
      show [2 * N + 0, 2 * N + 1] = [N * 2] ++ [N * 2 + 1]
      rw [Nat.mul_comm]; rfl
theorem VL_high (n : Nat) : ∀ d, VL n (n + d) = (List.range (2 ^ n)).map fun x => x * 2 ^ d
  | 0 => by
    rw [Nat.add_zero, VL_low n n (Nat.le_refl _)]
    refine ((List.map_id' _).symm.trans ?_)
    refine List.map_congr_left fun x _ => ?_
    rw [Nat.pow_zero, Nat.mul_one]
  | d + 1 => by
    show (VL n (n + d)).flatMap (fun x => (List.range (chc n (n + d))).map fun b => 2 * x + b) = _
    have e : chc n (n + d) = 1 := by unfold chc; rw [if_neg (by omega)]
    rw [e, VL_high n d, List.flatMap_map]
    have : ∀ L : List Nat, (L.flatMap fun a => (List.range 1).map fun b => 2 * (a * 2 ^ d) + b) = L.map fun x => x * 2 ^ (d + 1) := fun L => by
      induction L with
      | nil => rfl
      | cons a L ih =>
        rw [List.flatMap_cons, List.map_cons, ih]
        show [2 * (a * 2 ^ d) + 0] ++ _ = _
        rw [Nat.add_zero, Nat.pow_succ, ← Nat.mul_assoc a, Nat.mul_comm 2]; rfl
    exact this _
/-- At the end all messages have met. -/
theorem thF_end {α : Type} {mt : α → α → α} (h : Mts mt) {M n : Nat} {st : Nat → Nat → α → α} (hs : ∀ k x a b, st k x (mt a b) = mt (st k x a) (st k x b)) (a0 : α) : thF mt M n st a0 (n + M) 0 = gat mt (fun m => some (vlu' M st a0 (n + M) (m * 2 ^ M))) (List.range (2 ^ n)) := by
  rw [thF_is h hs, VL_high, gat_map h]
  refine gat_congr fun m _ => ?_
  rw [if_pos (Nat.mul_mod_left _ _)]
end Go.Proofs.Ytlljaliemldjkaa
