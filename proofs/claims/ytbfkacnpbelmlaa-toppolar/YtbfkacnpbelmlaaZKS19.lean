/- Polar: what is read of a part (the mathematics of Decode). -/
import Derived.Test.YtbfkacnpbelmlaaZKS18
namespace Go.Proofs.Ytbfkacnpbelmlaa

/-- Two halves. -/
def jn (H : Nat) (a b : Nat → Int) (i : Nat) : Int := if i < H then a i else b (i - H)
/-- What two parts tell that should be alike. -/
def mtf (x y : Nat → Int) (i : Nat) : Int := if x i = -1 then y i else x i
/-- The bits of a part, and what was sent of it; none: it can't be told. -/
def rdp (fr : Nat → Bool) : Nat → Nat → (Nat → Int) → Option ((Nat → Int) × (Nat → Int))
  | 0, q, x => if fr q = true then (if x 0 = -1 then none else some (x, x)) else (if x 0 = 1 then none else some (fun _ => 0, fun _ => 0))
  | h + 1, q, x =>
    match rdp fr h q (fun i => psu (x i) (x (2 ^ h + i))) with
    | none => none
    | some p => if mtb (fun i => psu (x i) (p.2 i)) (fun i => x (2 ^ h + i)) (2 ^ h) = true then
        (match rdp fr h (q + 2 ^ h) (mtf (fun i => psu (x i) (p.2 i)) (fun i => x (2 ^ h + i))) with
        | none => none
        | some t => some (jn (2 ^ h) p.1 t.1, jn (2 ^ h) (fun i => psu (p.2 i) (t.2 i)) t.2)) else none
/-- A bit. -/
def Bt (v : Int) : Prop := v = 0 ∨ v = 1
theorem Bt.l {v : Int} (h : Bt v) : Btl v := Or.inr h
theorem psu_b {a b : Int} (ha : Bt a) (hb : Bt b) : Bt (psu a b) := by
  unfold psu Bt
  rcases ha with rfl | rfl <;> rcases hb with rfl | rfl <;> decide
theorem mtf_bt {x y : Nat → Int} {i : Nat} (ha : Btl (x i)) (hb : Btl (y i)) : Btl (mtf x y i) := by
  unfold mtf
  split
  · exact hb
  · exact ha
theorem jn_lo {H i : Nat} {a b : Nat → Int} (h : i < H) : jn H a b i = a i := if_pos h
theorem jn_hi {H : Nat} {a b : Nat → Int} (i : Nat) : jn H a b (H + i) = b i := by
  unfold jn
  rw [if_neg (by omega), Nat.add_sub_cancel_left]
theorem rdp_succ {fr : Nat → Bool} {h q : Nat} {x : Nat → Int} {r : (Nat → Int) × (Nat → Int)} (e : rdp fr (h + 1) q x = some r) :
    ∃ p t, rdp fr h q (fun i => psu (x i) (x (2 ^ h + i))) = some p ∧ mtb (fun i => psu (x i) (p.2 i)) (fun i => x (2 ^ h + i)) (2 ^ h) = true ∧ rdp fr h (q + 2 ^ h) (mtf (fun i => psu (x i) (p.2 i)) (fun i => x (2 ^ h + i))) = some t ∧ r = (jn (2 ^ h) p.1 t.1, jn (2 ^ h) (fun i => psu (p.2 i) (t.2 i)) t.2) := by
  unfold rdp at e
  cases h1 : rdp fr h q (fun i => psu (x i) (x (2 ^ h + i))) with
  | none => rw [h1] at e; cases e
  | some p =>
    rw [h1] at e
    dsimp only at e
    by_cases hm : mtb (fun i => psu (x i) (p.2 i)) (fun i => x (2 ^ h + i)) (2 ^ h) = true
    · rw [if_pos hm] at e
      cases h2 : rdp fr h (q + 2 ^ h) (mtf (fun i => psu (x i) (p.2 i)) (fun i => x (2 ^ h + i))) with
      | none => rw [h2] at e; cases e
      | some t => rw [h2] at e; cases e; exact ⟨p, t, rfl, hm, h2, rfl⟩
    · rw [if_neg hm] at e; cases e
theorem rdp_some {fr : Nat → Bool} {h q : Nat} {x : Nat → Int} {p t : (Nat → Int) × (Nat → Int)} (h1 : rdp fr h q (fun i => psu (x i) (x (2 ^ h + i))) = some p) (hm : mtb (fun i => psu (x i) (p.2 i)) (fun i => x (2 ^ h + i)) (2 ^ h) = true) (h2 : rdp fr h (q + 2 ^ h) (mtf (fun i => psu (x i) (p.2 i)) (fun i => x (2 ^ h + i))) = some t) :
    rdp fr (h + 1) q x = some (jn (2 ^ h) p.1 t.1, jn (2 ^ h) (fun i => psu (p.2 i) (t.2 i)) t.2) := by
  unfold rdp
  rw [h1]
  dsimp only
  rw [if_pos hm, h2]
theorem rdp_n1 {fr : Nat → Bool} {h q : Nat} {x : Nat → Int} (h1 : rdp fr h q (fun i => psu (x i) (x (2 ^ h + i))) = none) : rdp fr (h + 1) q x = none := by
  unfold rdp
  rw [h1]
theorem rdp_n2 {fr : Nat → Bool} {h q : Nat} {x : Nat → Int} {p : (Nat → Int) × (Nat → Int)} (h1 : rdp fr h q (fun i => psu (x i) (x (2 ^ h + i))) = some p) (hm : mtb (fun i => psu (x i) (p.2 i)) (fun i => x (2 ^ h + i)) (2 ^ h) = false) : rdp fr (h + 1) q x = none := by
  unfold rdp
  rw [h1]
  dsimp only
  rw [if_neg (by rw [hm]; intro e; cases e)]
theorem rdp_n3 {fr : Nat → Bool} {h q : Nat} {x : Nat → Int} {p : (Nat → Int) × (Nat → Int)} (h1 : rdp fr h q (fun i => psu (x i) (x (2 ^ h + i))) = some p) (hm : mtb (fun i => psu (x i) (p.2 i)) (fun i => x (2 ^ h + i)) (2 ^ h) = true) (h2 : rdp fr h (q + 2 ^ h) (mtf (fun i => psu (x i) (p.2 i)) (fun i => x (2 ^ h + i))) = none) : rdp fr (h + 1) q x = none := by
  unfold rdp
  rw [h1]
  dsimp only
  rw [if_pos hm, h2]
/-- What is told is bits. -/
theorem rdp_bt {fr : Nat → Bool} : ∀ {h q : Nat} {x : Nat → Int} {r : (Nat → Int) × (Nat → Int)}, rdp fr h q x = some r → (∀ i, i < 2 ^ h → Btl (x i)) → ∀ i, i < 2 ^ h → Bt (r.1 i) ∧ Bt (r.2 i)
  | 0, q, x, r, e, hx, i, hi => by
    have hi0 : i = 0 := by omega
    subst hi0
    unfold rdp at e
    by_cases hf : fr q = true
    · rw [if_pos hf] at e
      by_cases h0 : x 0 = -1
      · rw [if_pos h0] at e; cases e
      · rw [if_neg h0] at e; cases e
        have := (hx 0 (by omega)).resolve_left h0
        exact ⟨this, this⟩
    · rw [if_neg hf] at e
      by_cases h0 : x 0 = 1
      · rw [if_pos h0] at e; cases e
      · rw [if_neg h0] at e; cases e; exact ⟨Or.inl rfl, Or.inl rfl⟩
  | h + 1, q, x, r, e, hx, i, hi => by
    obtain ⟨p, t, h1, hm, h2, rfl⟩ := rdp_succ e
    rw [Nat.pow_succ] at hi hx
    have b1 := rdp_bt h1 (fun i hi => psu_bt (hx i (by omega)) (hx _ (by omega)))
    have b2 := rdp_bt h2 (fun i hi => mtf_bt (psu_bt (hx i (by omega)) (b1 i hi).2.l) (hx _ (by omega)))
    by_cases c : i < 2 ^ h
    · exact ⟨by dsimp only; rw [jn_lo c]; exact (b1 i c).1, by dsimp only; rw [jn_lo c]; exact psu_b (b1 i c).2 (b2 i c).2⟩
    · obtain ⟨j, rfl⟩ : ∃ j, i = 2 ^ h + j := ⟨i - 2 ^ h, by omega⟩
      exact ⟨by dsimp only; rw [jn_hi]; exact (b2 j (by omega)).1, by dsimp only; rw [jn_hi]; exact (b2 j (by omega)).2⟩
/-- A message: the bits at the free places. -/
def msl (fr : Nat → Bool) (a : Nat → Int) (q : Nat) : Nat → List Int
  | 0 => []
  | n + 1 => msl fr a q n ++ (if fr (q + n) = true then [a n] else [])
theorem msl_congr {fr : Nat → Bool} {a b : Nat → Int} {q : Nat} : ∀ n, (∀ i, i < n → a i = b i) → msl fr a q n = msl fr b q n
  | 0, _ => rfl
  | n + 1, h => by
    show msl fr a q n ++ _ = msl fr b q n ++ _
    rw [msl_congr n (fun i hi => h i (by omega)), h n (by omega)]
theorem msl_two {fr : Nat → Bool} {a : Nat → Int} {q H : Nat} : ∀ n, msl fr a q (H + n) = msl fr a q H ++ msl fr (fun i => a (H + i)) (q + H) n
  | 0 => by show msl fr a q H = msl fr a q H ++ []; rw [List.append_nil]
  | n + 1 => by
    show msl fr a q (H + n) ++ (if fr (q + (H + n)) = true then [a (H + n)] else []) = msl fr a q H ++ (msl fr (fun i => a (H + i)) (q + H) n ++ (if fr (q + H + n) = true then [a (H + n)] else []))
    rw [msl_two n, List.append_assoc, show q + (H + n) = q + H + n by omega]
theorem msl_jn {fr : Nat → Bool} {a b : Nat → Int} {q H : Nat} : msl fr (jn H a b) q (H + H) = msl fr a q H ++ msl fr b (q + H) H := by
  rw [msl_two, msl_congr H (b := a) (fun i hi => jn_lo hi), msl_congr H (a := fun i => jn H a b (H + i)) (b := b) (fun i _ => jn_hi i)]
theorem msl_len {fr : Nat → Bool} {a : Nat → Int} {q : Nat} : ∀ n, (msl fr a q n).length ≤ n
  | 0 => Nat.le_refl _
  | n + 1 => by
    show (msl fr a q n ++ (if fr (q + n) = true then [a n] else [])).length ≤ n + 1
    rw [List.length_append]
    have := msl_len (fr := fr) (a := a) (q := q) n
    split
    · show _ + 1 ≤ _; omega
    · show _ + 0 ≤ _; omega
theorem msl_is {fr : Nat → Bool} {a : Nat → Int} : ∀ n, msl fr a 0 n = ((List.range n).filter fr).map a
  | 0 => rfl
  | n + 1 => by
    show msl fr a 0 n ++ (if fr (0 + n) = true then [a n] else []) = _
    rw [msl_is n, List.range_succ, List.filter_append, List.map_append, Nat.zero_add]
    congr 1
    by_cases h : fr n = true
    · rw [if_pos h, List.filter_cons, if_pos h]; rfl
    · rw [if_neg h, List.filter_cons, if_neg h]; rfl
end Go.Proofs.Ytbfkacnpbelmlaa
