/- Trellises: a step, state by state, in whatever order the states come up. No Go text here. -/
import Derived.Test.YtlljaliemldjkaaZS83
namespace Go.Proofs.Ytlljaliemldjkaa

/-- What a state and a bit give to another state. -/
def cnF {α : Type} (M : Nat) (st : Nat → α → α) (F : Nat → Option α) (s' s b : Nat) : Option α := if (2 * s + b) % 2 ^ M = s' then (F s).map (st (2 * s + b)) else none
/-- What stands by a state where some have come up. -/
def pvF {α : Type} (mt : α → α → α) (M ch : Nat) (st : Nat → α → α) (F : Nat → Option α) (V : List Nat) (s' : Nat) : Option α := gat mt (fun s => gat mt (cnF M st F s' s) (List.range ch)) V
/-- And of one more some bits. -/
def pbF {α : Type} (mt : α → α → α) (M ch : Nat) (st : Nat → α → α) (F : Nat → Option α) (V : List Nat) (s b s' : Nat) : Option α := opm mt (pvF mt M ch st F V s') (gat mt (cnF M st F s' s) (List.range b))
theorem pbF_zero {α : Type} {mt : α → α → α} {M ch : Nat} {st : Nat → α → α} {F : Nat → Option α} (V : List Nat) (s s' : Nat) : pbF mt M ch st F V s 0 s' = pvF mt M ch st F V s' := opm_none _ _
theorem pbF_full {α : Type} {mt : α → α → α} {M ch : Nat} {st : Nat → α → α} {F : Nat → Option α} (V : List Nat) (s s' : Nat) : pbF mt M ch st F V s ch s' = pvF mt M ch st F (V ++ [s]) s' := by
  unfold pbF pvF; rw [gat_snoc]
theorem pbF_next {α : Type} {mt : α → α → α} (h : Mts mt) {M ch : Nat} {st : Nat → α → α} {F : Nat → Option α} (V : List Nat) (s b s' : Nat) : pbF mt M ch st F V s (b + 1) s' = opm mt (pbF mt M ch st F V s b s') (cnF M st F s' s b) := by
  unfold pbF; rw [List.range_succ, gat_snoc, h.oassoc]
theorem pbF_put {α : Type} {mt : α → α → α} (h : Mts mt) {M ch : Nat} {st : Nat → α → α} {F : Nat → Option α} (V : List Nat) {s b : Nat} {a : α} (hF : F s = some a) (s' : Nat) :
    pbF mt M ch st F V s (b + 1) s' = if s' = (2 * s + b) % 2 ^ M then opm mt (pbF mt M ch st F V s b s') (some (st (2 * s + b) a)) else pbF mt M ch st F V s b s' := by
  rw [pbF_next h]
  unfold cnF
  by_cases e : s' = (2 * s + b) % 2 ^ M
  · rw [if_pos e, if_pos e.symm, hF]; rfl
  · rw [if_neg e, if_neg (fun q => e q.symm), opm_none]
theorem pvF_end {α : Type} {mt : α → α → α} (h : Mts mt) {M ch : Nat} {st : Nat → α → α} {F : Nat → Option α} {V : List Nat} (hn : V.Nodup) (hs : ∀ k ∈ V, F k ≠ none) (ha : ∀ k, F k ≠ none → k ∈ V) (hk : ∀ k, F k ≠ none → k < 2 ^ M) (s' : Nat) : pvF mt M ch st F V s' = nxF mt M ch st F s' := by
  have hp : V.Perm ((List.range (2 ^ M)).filter fun s => (F s).isSome) := by
    refine (List.perm_ext_iff_of_nodup hn (List.nodup_range.filter _)).2 fun x => ?_
    rw [List.mem_filter, List.mem_range]
    constructor
    · intro hx
      have := hs x hx
      exact ⟨hk x this, by cases q : F x; exact absurd q this; rfl⟩
    · rintro ⟨_, hx⟩
      exact ha x (by intro q; rw [q] at hx; cases hx)
  unfold pvF
  rw [gat_perm h _ hp, gat_fil h]
  · rfl
  · intro s _ hq
    refine gat_zero h (fun b _ => ?_)
    unfold cnF
    cases q : F s
    · split <;> rfl
    · rw [q] at hq; cases hq
theorem cnF_key {α : Type} {M : Nat} {st : Nat → α → α} {F : Nat → Option α} {s' s b : Nat} (h : ¬ s' < 2 ^ M) : cnF M st F s' s b = none := by
  unfold cnF
  rw [if_neg]
  intro e
  exact h (by rw [← e]; exact Nat.mod_lt _ (Nat.pow_pos (by omega)))
theorem thF_key {α : Type} {mt : α → α → α} (h : Mts mt) {M n : Nat} {st : Nat → Nat → α → α} {a0 : α} : ∀ k s, thF mt M n st a0 k s ≠ none → s < 2 ^ M
  | 0, s, hs => by
    by_cases e : s = 0
    · rw [e]; exact Nat.pow_pos (by omega)
    · exact absurd (show (if s = 0 then some a0 else none) = none by rw [if_neg e]) hs
  | k + 1, s, hs => by
    by_cases e : s < 2 ^ M
    · exact e
    · exact absurd (gat_zero h (fun _ _ => gat_zero h (fun _ _ => cnF_key e))) hs
/-- A property that all values have. -/
theorem gat_all {α β : Type} {mt : α → α → α} (h : Mts mt) {P : α → Prop} (hm : ∀ a b, P a → P b → P (mt a b)) {f : β → Option α} : ∀ {L : List β} {a : α}, (∀ b ∈ L, ∀ c, f b = some c → P c) → gat mt f L = some a → P a
  | [], a, _, e => by cases e
  | b :: L, a, hL, e => by
    rw [gat_cons h] at e
    cases q1 : f b with
    | none =>
      rw [q1] at e
      exact gat_all h hm (fun c hc => hL c (List.mem_cons_of_mem _ hc)) (show gat mt f L = some a from e)
    | some x =>
      cases q2 : gat mt f L with
      | none =>
        rw [q1, q2] at e
        cases e
        exact hL b (List.mem_cons_self ..) _ q1
      | some y =>
        rw [q1, q2] at e
        cases e
        exact hm x y (hL b (List.mem_cons_self ..) _ q1) (gat_all h hm (fun c hc => hL c (List.mem_cons_of_mem _ hc)) q2)
theorem pbF_all {α : Type} {mt : α → α → α} (h : Mts mt) {M ch : Nat} {st : Nat → α → α} {F : Nat → Option α} {P P' : α → Prop} (hm : ∀ a b, P' a → P' b → P' (mt a b)) (hs : ∀ x a, P a → P' (st x a)) (hF : ∀ s a, F s = some a → P a) {V : List Nat} {s b s' : Nat} {a : α} (e : pbF mt M ch st F V s b s' = some a) : P' a := by
  have hc : ∀ s b c, cnF M st F s' s b = some c → P' c := fun s b c q => by
    unfold cnF at q
    by_cases e : (2 * s + b) % 2 ^ M = s'
    · rw [if_pos e] at q
      cases r : F s with
      | none => rw [r] at q; cases q
      | some d => rw [r] at q; cases q; exact hs _ d (hF s d r)
    · rw [if_neg e] at q; cases q
  have h1 : ∀ c, pvF mt M ch st F V s' = some c → P' c := fun c q => gat_all h hm (fun s _ d r => gat_all h hm (fun b _ d' r' => hc s b d' r') r) q
  have h2 : ∀ c, gat mt (cnF M st F s' s) (List.range b) = some c → P' c := fun c q => gat_all h hm (fun b _ d r => hc s b d r) q
  unfold pbF at e
  cases q1 : pvF mt M ch st F V s' with
  | none => rw [q1] at e; exact h2 a e
  | some x =>
    cases q2 : gat mt (cnF M st F s' s) (List.range b) with
    | none => rw [q1, q2] at e; cases e; exact h1 _ q1
    | some y => rw [q1, q2] at e; cases e; exact hm x y (h1 x q1) (h2 y q2)
theorem thF_all {α : Type} {mt : α → α → α} (h : Mts mt) {M n : Nat} {st : Nat → Nat → α → α} {a0 : α} {P : Nat → α → Prop} (h0 : P 0 a0) (hm : ∀ k a b, P k a → P k b → P k (mt a b)) (hs : ∀ k x a, P k a → P (k + 1) (st k x a)) : ∀ k s a, thF mt M n st a0 k s = some a → P k a
  | 0, s, a, e => by
    by_cases q : s = 0
    · have e2 : (if s = 0 then some a0 else none) = some a := e
      rw [if_pos q] at e2; cases e2; exact h0
    · have e2 : (if s = 0 then some a0 else none) = some a := e
      rw [if_neg q] at e2; cases e2
  | k + 1, s, a, e => by
    have e2 : pbF mt M (chc n k) (st k) (thF mt M n st a0 k) (List.range (2 ^ M)) 0 0 s = some a := by rw [pbF_zero]; exact e
    exact pbF_all h (hm (k + 1)) (fun x a ha => hs k x a ha) (fun s a r => thF_all h h0 hm hs k s a r) e2
end Go.Proofs.Ytlljaliemldjkaa
