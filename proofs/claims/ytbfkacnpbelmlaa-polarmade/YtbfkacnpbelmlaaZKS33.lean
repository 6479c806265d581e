/- Polar: what PolarSays' calls answer; the whole walk of PolarSays. -/
import Derived.Test.YtbfkacnpbelmlaaZKS32a
import Derived.Test.YtbfkacnpbelmlaaZKS32b
import Derived.Test.YtbfkacnpbelmlaaZKS32c
import Derived.Test.YtbfkacnpbelmlaaZKS14
namespace Go.Proofs.Ytbfkacnpbelmlaa
open Go.RowKit Go.Sort

theorem tl_l {f : Nat} {args : Array Value} {l : List Int} {w : World} (h : Calls Try.prog f args w fun e w' => ∃ v, e = .returned v ∧ OwnI w.heap.size v l w' ∧ Below w.heap.size w w') (hl : l.length ≤ 1000) : Calls Try.prog f args w (TlL l w) :=
  h.mono fun _ _ ⟨v, he, ho, hb⟩ => ⟨v, he, ho.ki (by omega), hb⟩
theorem tl_z {f : Nat} {args : Array Value} {l : List Int} {w : World} (h : Calls Try.prog f args w fun e w' => ∃ v, e = .returned (.tuple #[v, .int .i64 0]) ∧ OwnI w.heap.size v l w' ∧ Below w.heap.size w w') (hl : l.length ≤ 1000) : Calls Try.prog f args w (TlZ l w) :=
  h.mono fun _ _ ⟨v, he, ho, hb⟩ => ⟨v, he, ho.ki (by omega), hb⟩
theorem tl_e {f : Nat} {args : Array Value} {E : Int} {w : World} (h : Calls Try.prog f args w fun e w' => e = .returned (.tuple #[.slice none 0 0, .int .i64 E]) ∧ w' = w) : Calls Try.prog f args w (TlE E w) :=
  h.mono fun _ _ ⟨he, hb⟩ => ⟨he, by rw [hb]; exact Below.refl _ _⟩
theorem pow32 {m N : Nat} (hm : m ≤ 5) (hN : N = 2 ^ m) : N ≤ 32 ∧ 1 ≤ N := by
  rw [hN]
  exact ⟨Nat.le_trans (Nat.pow_le_pow_right (by omega) hm) (by decide), Nat.pow_pos (by omega)⟩
/-- The bits of a list that has bits alone. -/
theorem bits_of {ao : Option Addr} {n : Nat} {z : Nat → Int} {w : World} (hs : SL ao n z w) (hb : allP isbt z n = true) : (∀ i, i < n → (z i).toNat < 2) ∧ SlZ ao n (fun i => (((z i).toNat : Nat) : Int)) w ∧ LtB ao w.heap.size := by
  have h : ∀ i, i < n → z i = 0 ∨ z i = 1 := fun i hi => of_decide_eq_true (allP_iff n hb i hi)
  refine ⟨fun i hi => by rcases h i hi with e | e <;> rw [e] <;> decide, fun i hi => ?_, hs.2⟩
  obtain ⟨b, off, e, q⟩ := hs.1 i hi
  refine ⟨b, off, e, ?_⟩
  rw [q]
  show some (Value.int .i64 (z i)) = some (Value.int .i64 (((z i).toNat : Nat) : Int))
  rcases h i hi with e | e <;> rw [e] <;> rfl
theorem best_zl {m N k : Nat} (hm : m ≤ 5) (hN : N = 2 ^ m) (hk : k ≤ N) (w : World) : Calls Try.prog 9 #[.int .i64 (m : Nat), .int .i64 (k : Nat)] w fun e w' => ∃ v, e = .returned (.tuple #[v, .int .i64 0]) ∧ OwnI w.heap.size v (zl k fun i => ((bpl m k i : Nat) : Int)) w' ∧ Below w.heap.size w w' := by
  rw [hN] at hk
  have h := best_ok hm hk w
  rw [flt_bpl hm hk] at h
  exact h
theorem bestOf_zl {m N k : Nat} (hm : m ≤ 5) (hN : N = 2 ^ m) (hk : k ≤ N) (w : World) : Calls Try.prog 8 #[.int .i64 (m : Nat), .int .i64 (k : Nat)] w fun e w' => ∃ v, e = .returned v ∧ OwnI w.heap.size v (zl k fun i => ((bpl m k i : Nat) : Int)) w' ∧ Below w.heap.size w w' := by
  rw [hN] at hk
  have h := bestOf_any hm hk w
  rw [flt_bpl hm hk] at h
  exact h
/-- What the calls of a word's length say. -/
theorem con_ne {m N n c : Nat} {ao : Option Addr} {z : Nat → Int} {w : World} (hm : m ≤ 5) (hN : N = 2 ^ m) (hs : SL ao n z w) (hn : n ≤ 100) (hne : n ≠ N) :
    ∀ w1, Below w.heap.size w w1 → Calls Try.prog 13 #[.int .i64 (m : Nat), .slice ao n c] w1 (TlE 6 w1) := fun w1 hb => by
  refine tl_e (ptrans_e2 hm hN (by decide) ?_)
  have h := bCheck_any (cap := c) (N : Int) (hs.below hb).1 (by omega)
  have e : bchk isbt n z (N : Int) = 6 := by unfold bchk; rw [if_pos (by omega)]
  rw [e] at h
  exact h
theorem con_may {m n c : Nat} {ao : Option Addr} {z : Nat → Int} {w : World} {F : Int} (hs : SL ao n z w) (hn : n ≤ 100) (hF : pmc (m : Int) n z = F) :
    ∀ w1, Below w.heap.size w w1 → Calls Try.prog 14 #[.int .i64 (m : Nat), .slice ao n c] w1 fun e w' => e = .returned (.int .i64 F) ∧ w' = w1 := fun w1 hb => by
  rw [← hF]
  exact polarMay_any (m : Int) (hs.below hb).1 (by omega)
theorem con_gtE {m N n c : Nat} {ao : Option Addr} {w : World} (hm : m ≤ 5) (hN : N = 2 ^ m) (hnN : N < n) :
    ∀ w1, Below w.heap.size w w1 → Calls Try.prog 16 #[.int .i64 (m : Nat), .slice ao n c] w1 (TlE 6 w1) := fun w1 _ => by
  rw [hN] at hnN
  exact penc_e1 (by decide) (best_cnt hm (Or.inr (by omega)) w1)
theorem con_badE {m N n c : Nat} {ao : Option Addr} {z : Nat → Int} {w : World} (hm : m ≤ 5) (hN : N = 2 ^ m) (hs : SL ao n z w) (hn : n ≤ N) (hb0 : allP isbt z n = false) :
    ∀ w1, Below w.heap.size w w1 → Calls Try.prog 16 #[.int .i64 (m : Nat), .slice ao n c] w1 (TlE 2 w1) := fun w1 hb => by
  refine penc_e2 ((best_zl hm hN hn w1).mono fun _ _ ⟨v, he, _, hb⟩ => ⟨v, he, hb⟩) (fun w2 hb2 => ?_)
  have h := bAll_any (cap := c) ((hs.below hb).below hb2).1 (by have := (pow32 hm hN).1; omega)
  rw [hb0] at h
  exact h
theorem con_okE {m N n c : Nat} {ao : Option Addr} {z : Nat → Int} {w : World} (hm : m ≤ 5) (hN : N = 2 ^ m) (hs : SL ao n z w) (hn : n ≤ N) (hb0 : allP isbt z n = true) :
    ∀ w1, Below w.heap.size w w1 → Calls Try.prog 16 #[.int .i64 (m : Nat), .slice ao n c] w1 (TlZ (zl N fun i => ((ptr m (pput (bpl m n) (fun i => (z i).toNat) n) i : Nat) : Int)) w1) := fun w1 hb => by
  have hs1 := hs.below hb
  have hf := bits_of hs1 hb0
  have hN2 := (pow32 hm hN).1
  refine tl_z (penc_ok hm hN hn (fun i hi => by rw [hN] at hn ⊢; exact bpl_lt hm hn i hi) hf.1 hf.2.1 hf.2.2 (best_zl hm hN hn w1) (fun w2 hb2 => ?_)) (by rw [zl_len]; omega)
  have h := bAll_any (cap := c) (hs1.below hb2).1 (by omega)
  rw [hb0] at h
  exact h
theorem con_okW {m N n c : Nat} {ao : Option Addr} {z : Nat → Int} {w : World} (hm : m ≤ 5) (hN : N = 2 ^ m) (hs : SL ao n z w) (hn : n ≤ N) (hb0 : allP isbt z n = true) :
    ∀ w1, Below w.heap.size w w1 → Calls Try.prog 15 #[.int .i64 (m : Nat), .slice ao n c] w1 (TlL (zl N fun i => ((ptr m (pput (bpl m n) (fun i => (z i).toNat) n) i : Nat) : Int)) w1) := fun w1 hb => by
  have hs1 := hs.below hb
  have hf := bits_of hs1 hb0
  have hN2 := (pow32 hm hN).1
  have h := polarWord_any (c := c) hm hN hn (fun i hi => by rw [hN] at hn ⊢; exact bpl_lt hm hn i hi) hf.1 hf.2.1 hf.2.2 (fun w1 => bestOf_zl hm hN hn w1)
  have e : (zl N fun i => ((psj (pput (bpl m n) (fun i => (z i).toNat) n) i N : Nat) : Int)) = zl N fun i => ((ptr m (pput (bpl m n) (fun i => (z i).toNat) n) i : Nat) : Int) := by
    rw [hN]
    exact zl_congr (fun i hi => by rw [ptr_psj m hm (fun j _ => pput_lt hf.1 j) i hi])
  rw [e] at h
  exact tl_l h (by rw [zl_len]; omega)
/-- A word of bits of the right length. -/
theorem con_eqB {m N c : Nat} {ao : Option Addr} {z : Nat → Int} {w : World} (hm : m ≤ 5) (hN : N = 2 ^ m) (hs : SL ao N z w) (hc1 : N ≤ c) (hc2 : c ≤ 9223372036854775807) (hb0 : allP isbt z N = true) :
    (∀ w1, Below w.heap.size w w1 → Calls Try.prog 13 #[.int .i64 (m : Nat), .slice ao N c] w1 (TlZ (zl N fun i => ((ptr m (fun i => (z i).toNat) i : Nat) : Int)) w1)) ∧
    ∀ w1, Below w.heap.size w w1 → Calls Try.prog 12 #[.slice ao N c] w1 (TlL (zl N fun i => ((ptr m (fun i => (z i).toNat) i : Nat) : Int)) w1) := by
  have hN2 := pow32 hm hN
  have hW : ∀ w1, Below w.heap.size w w1 → ∃ b off, ao = some ⟨b, off, none⟩ ∧ Wbt b off N (fun i => (z i).toNat) w1 := fun w1 hb => by
    have hf := bits_of (hs.below hb) hb0
    obtain ⟨b, off, e, _⟩ := hf.2.1 0 (by omega)
    refine ⟨b, off, e, hf.2.2 _ e, fun i hi => ?_, hf.1⟩
    obtain ⟨b', off', e', q⟩ := hf.2.1 i hi
    rw [e] at e'
    cases e'
    exact q
  refine ⟨fun w1 hb => ?_, fun w1 hb => ?_⟩
  · obtain ⟨b, off, rfl, h⟩ := hW w1 hb
    refine tl_z (ptrans_ok hm hN h hc1 hc2 ?_) (by rw [zl_len]; omega)
    have h2 := bCheck_any (cap := c) (N : Int) (hs.below hb).1 (by omega)
    have e : bchk isbt N z (N : Int) = 0 := by unfold bchk; rw [if_neg (fun h => h rfl), if_pos hb0]
    rw [e] at h2
    exact h2
  · obtain ⟨b, off, rfl, h⟩ := hW w1 hb
    have h2 := rpolar_any (c := c) h hN2.2 hN2.1
    have e : (zl N fun i => ((psj (fun i => (z i).toNat) i N : Nat) : Int)) = zl N fun i => ((ptr m (fun i => (z i).toNat) i : Nat) : Int) := by
      have h9 := h.2.2
      rw [hN] at h9 ⊢
      exact zl_congr (fun i hi => by rw [ptr_psj m hm h9 i hi])
    rw [e] at h2
    exact tl_l h2 (by rw [zl_len]; omega)
theorem con_eqX {m N c : Nat} {ao : Option Addr} {z : Nat → Int} {w : World} (hm : m ≤ 5) (hN : N = 2 ^ m) (hs : SL ao N z w) (hb0 : allP isbt z N = false) :
    ∀ w1, Below w.heap.size w w1 → Calls Try.prog 13 #[.int .i64 (m : Nat), .slice ao N c] w1 (TlE 2 w1) := fun w1 hb => by
  have hN2 := pow32 hm hN
  refine tl_e (ptrans_e2 hm hN (by decide) ?_)
  have h := bCheck_any (cap := c) (N : Int) (hs.below hb).1 (by omega)
  have e : bchk isbt N z (N : Int) = 2 := by unfold bchk; rw [if_neg (fun h => h rfl), if_neg (by rw [hb0]; intro e; cases e)]
  rw [e] at h
  exact h
theorem con_bits {N c : Nat} {ao : Option Addr} {z : Nat → Int} {w : World} {R : Bool} (hs : SL ao N z w) (hN : N ≤ 100) (hb0 : allP isbt z N = R) :
    ∀ w1, Below w.heap.size w w1 → Calls Try.prog 11 #[.slice ao N c, .bool false] w1 fun e w' => e = .returned (.bool R) ∧ w' = w1 := fun w1 hb => by
  rw [← hb0]
  exact rbits_any false (hs.below hb).1 (by omega)
/-- What is read, whatever the word is. -/
theorem con_reads {m N k n c : Nat} {ao : Option Addr} {z : Nat → Int} {w : World} (hm : m ≤ 5) (hN : N = 2 ^ m) (hk : k ≤ N) (hs : SL ao n z w) (hc1 : n ≤ c) (hc2 : c ≤ 9223372036854775807) (hn : n ≤ 100) :
    ∀ w1, Below w.heap.size w w1 → ∀ fo fc, SL fo k (fun i => ((bpl m k i : Nat) : Int)) w1 → Calls Try.prog 17 #[.int .i64 (m : Nat), .int .i64 (k : Nat), .slice ao n c, .slice fo k fc, .int .i64 0] w1 fun e w' => e = .returned (.bool true) ∧ Below w1.heap.size w1 w' := fun w1 hb fo fc hf => by
  have hN2 := pow32 hm hN
  have hs1 := hs.below hb
  have hB : ∀ w0, Calls Try.prog 9 #[.int .i64 (m : Nat), .int .i64 (k : Nat)] w0 fun x w' => ∃ l, ∃ v, x = .returned (.tuple #[v, .int .i64 0]) ∧ OwnI w0.heap.size v l w' ∧ Below w0.heap.size w0 w' := fun w0 => (best_zl hm hN hk w0).mono fun _ _ h => ⟨_, h⟩
  by_cases hne : n = N
  · subst hne
    cases hh : allP isht z n with
    | true =>
      obtain ⟨b, off, e, _⟩ := hs1.1 0 (by omega)
      subst e
      refine pReads_ok hm hN hk (x := z) ⟨hs1.2 _ rfl, fun i hi => ?_, fun i hi => of_decide_eq_true (p := z i = -1 ∨ z i = 0 ∨ z i = 1) (allP_iff n hh i hi)⟩ hc1 hc2 hf
      obtain ⟨b', off', e', q⟩ := hs1.1 i hi
      cases e'
      exact q
    | false =>
      refine pReads_e3 hm hN ?_ (dec_e2 hm hN (by decide) hB (fun w2 hb2 => ?_))
      · have h := rbits_any (cap := c) true hs1.1 (by omega)
        have e : allP (isbg true) z n = false := hh
        rw [e] at h
        exact h
      · have h := bHeard_any (cap := c) (n : Int) (hs1.below hb2).1 (by omega)
        have e : bchk isht n z (n : Int) = 2 := by unfold bchk; rw [if_neg (fun h => h rfl), if_neg (by rw [hh]; intro e; cases e)]
        rw [e] at h
        exact h
  · refine pReads_e2 hm hN hne (dec_e2 hm hN (by decide) hB (fun w2 hb2 => ?_))
    have h := bHeard_any (cap := c) (N : Int) (hs1.below hb2).1 (by omega)
    have e : bchk isht n z (N : Int) = 6 := by unfold bchk; rw [if_pos (by omega)]
    rw [e] at h
    exact h
set_option maxHeartbeats 2000000 in
set_option maxRecDepth 100000 in
theorem psays_long (m k : Int) {ao : Option Addr} {n c : Nat} (w : World) (hn : 100 < n) (_hn2 : n ≤ 17592186044416) :
    Calls Try.prog 3 #[.int .i64 m, .int .i64 k, .slice ao n c] w fun e w' => e = .returned (.bool true) ∧ Below w.heap.size w w' := by
  have h1 : (n : Int) > 100 := by omega
  have h2 : (100 : Int) < (n : Int) := by omega
  clear hn
  go_enter Try.func3, Try.ntmps3
  go_wp2
  go_ret
  exact ⟨rfl, Below.refl _ _⟩
theorem psays_bad {m : Int} (hm : m < 0 ∨ 5 < m) (k : Int) {ao : Option Addr} {n c : Nat} {z : Nat → Int} {w : World} (hs : SL ao n z w) (hn : n ≤ 100) :
    Calls Try.prog 3 #[.int .i64 m, .int .i64 k, .slice ao n c] w fun e w' => e = .returned (.bool true) ∧ Below w.heap.size w w' := by
  have h1 : ∀ w1, Below w.heap.size w w1 → Calls Try.prog 7 #[.int .i64 m] w1 (TlE 4 w1) := fun w1 _ => tl_e (chances_err hm w1)
  have h2 : ∀ w1, Below w.heap.size w w1 → Calls Try.prog 9 #[.int .i64 m, .int .i64 k] w1 (TlE 4 w1) := fun w1 _ => best_err hm w1
  have h3 : ∀ w1, Below w.heap.size w w1 → Calls Try.prog 13 #[.int .i64 m, .slice ao n c] w1 (TlE 4 w1) := fun w1 _ => tl_e (ptrans_e1 hm w1)
  have h4 : ∀ w1, Below w.heap.size w w1 → Calls Try.prog 14 #[.int .i64 m, .slice ao n c] w1 fun e w' => e = .returned (.int .i64 4) ∧ w' = w1 := fun w1 hb => by
    have h := polarMay_any (cap := c) m (hs.below hb).1 (by omega)
    have e : pmc m n z = 4 := if_pos hm
    rw [e] at h
    exact h
  have h5 : ∀ w1, Below w.heap.size w w1 → Calls Try.prog 16 #[.int .i64 m, .slice ao n c] w1 (TlE 4 w1) := fun w1 _ => penc_e1 (by decide) (best_err hm w1)
  have h6 : ∀ w1, Below w.heap.size w w1 → Calls Try.prog 17 #[.int .i64 m, .int .i64 k, .slice ao n c, .slice none 0 0, .int .i64 4] w1 fun e w' => e = .returned (.bool true) ∧ Below w1.heap.size w1 w' := fun w1 _ => pReads_e1 (by decide) (dec_e1 (by decide) (fun w0 => best_err hm w0))
  rcases hm with hm | hm
  · exact psays_lo hm hn h1 h2 h3 h4 h5 h6
  · exact psays_hi hm hn h1 h2 h3 h4 h5 h6
theorem psays_walk (m k : Int) {ao : Option Addr} {n c : Nat} {z : Nat → Int} {w : World} (ha : ArgL ao n c z w) (hn2 : n ≤ 17592186044416) :
    Calls Try.prog 3 #[.int .i64 m, .int .i64 k, .slice ao n c] w fun e w' => e = .returned (.bool true) ∧ Below w.heap.size w w' := by
  by_cases hn : 100 < n
  · exact psays_long m k w hn hn2
  have hn : n ≤ 100 := by omega
  have hs : SL ao n z w := ⟨ha.sl, ha.lt⟩
  by_cases hmb : m < 0 ∨ 5 < m
  · exact psays_bad hmb k hs hn
  obtain ⟨M, rfl⟩ : ∃ M : Nat, m = (M : Int) := ⟨m.toNat, by omega⟩
  have hm : M ≤ 5 := by omega
  obtain ⟨N, hN⟩ : ∃ N, N = 2 ^ M := ⟨_, rfl⟩
  have hN2 := pow32 hm hN
  have hlo : ∀ w1, Below w.heap.size w w1 → Calls Try.prog 6 #[.int .i64 (M : Nat)] w1 (TlL (lsI M) w1) := fun w1 _ => tl_l (losses_any hm w1) (by rw [lsI_len hm, ← hN]; omega)
  have hch : ∀ w1, Below w.heap.size w w1 → Calls Try.prog 7 #[.int .i64 (M : Nat)] w1 (TlZ (lsI M) w1) := fun w1 _ => tl_z (chances_ok hm w1) (by rw [lsI_len hm, ← hN]; omega)
  have hmay : ∀ F, (if N < n then (6 : Int) else if allP isbt z n = true then 0 else 2) = F → pmc (M : Int) n z = F := fun F e => by
    rw [← e]
    unfold pmc
    rw [if_neg (by omega), Int.toNat_natCast, ← hN]
  by_cases hkb : k < 0 ∨ (N : Int) < k
  · have hbe : ∀ w1, Below w.heap.size w w1 → Calls Try.prog 9 #[.int .i64 (M : Nat), .int .i64 k] w1 (TlE 6 w1) := fun w1 _ => best_cnt hm (by rw [← hN]; exact hkb) w1
    have hpr : ∀ w1, Below w.heap.size w w1 → Calls Try.prog 17 #[.int .i64 (M : Nat), .int .i64 k, .slice ao n c, .slice none 0 0, .int .i64 6] w1 fun e w' => e = .returned (.bool true) ∧ Below w1.heap.size w1 w' := fun w1 _ => pReads_e1 (by decide) (dec_e1 (by decide) (fun w0 => best_cnt hm (by rw [← hN]; exact hkb) w0))
    by_cases h1 : N < n
    · have hp := con_may (c := c) hs hn (hmay 6 (if_pos h1))
      rcases hkb with hk | hk
      · exact psays_oklogt hm hN hk hn h1 hlo hch hbe (con_ne hm hN hs hn (by omega)) hp (con_gtE hm hN h1) hpr
      · exact psays_okhigt hm hN hk hn h1 hlo hch hbe (con_ne hm hN hs hn (by omega)) hp (con_gtE hm hN h1) hpr
    · have hnN : n ≤ N := by omega
      cases hb : allP isbt z n with
      | true =>
        have hp := con_may (c := c) hs hn (hmay 0 (by rw [if_neg h1, if_pos hb]))
        by_cases h2 : n = N
        · subst h2
          have he := con_eqB hm hN hs ha.le ha.cap hb
          rcases hkb with hk | hk
          · exact psays_okloeqB hm hN hk hn rfl hlo hch hbe (con_bits hs hn hb) he.2 he.1 hp (con_okW hm hN hs hnN hb) (con_okE hm hN hs hnN hb) hpr
          · exact psays_okhieqB hm hN hk hn rfl hlo hch hbe (con_bits hs hn hb) he.2 he.1 hp (con_okW hm hN hs hnN hb) (con_okE hm hN hs hnN hb) hpr
        · rcases hkb with hk | hk
          · exact psays_okloltB hm hN hk hn (by omega) hlo hch hbe (con_ne hm hN hs hn h2) hp (con_okW hm hN hs hnN hb) (con_okE hm hN hs hnN hb) hpr
          · exact psays_okhiltB hm hN hk hn (by omega) hlo hch hbe (con_ne hm hN hs hn h2) hp (con_okW hm hN hs hnN hb) (con_okE hm hN hs hnN hb) hpr
      | false =>
        have hp := con_may (c := c) hs hn (hmay 2 (by rw [if_neg h1, if_neg (by rw [hb]; intro e; cases e)]))
        by_cases h2 : n = N
        · subst h2
          rcases hkb with hk | hk
          · exact psays_okloeqX hm hN hk hn rfl hlo hch hbe (con_bits hs hn hb) (con_eqX hm hN hs hb) hp (con_badE hm hN hs hnN hb) hpr
          · exact psays_okhieqX hm hN hk hn rfl hlo hch hbe (con_bits hs hn hb) (con_eqX hm hN hs hb) hp (con_badE hm hN hs hnN hb) hpr
        · rcases hkb with hk | hk
          · exact psays_okloltX hm hN hk hn (by omega) hlo hch hbe (con_ne hm hN hs hn h2) hp (con_badE hm hN hs hnN hb) hpr
          · exact psays_okhiltX hm hN hk hn (by omega) hlo hch hbe (con_ne hm hN hs hn h2) hp (con_badE hm hN hs hnN hb) hpr
  · obtain ⟨K, rfl⟩ : ∃ K : Nat, k = (K : Int) := ⟨k.toNat, by omega⟩
    have hk : K ≤ N := by omega
    have hbo : ∀ w1, Below w.heap.size w w1 → Calls Try.prog 8 #[.int .i64 (M : Nat), .int .i64 (K : Nat)] w1 fun e w' => ∃ fo fc, e = .returned (.slice fo K fc) ∧ SL fo K (fun i => ((bpl M K i : Nat) : Int)) w' ∧ Below w1.heap.size w1 w' := fun w1 _ => by
      refine (bestOf_zl hm hN hk w1).mono ?_
      rintro e w' ⟨v, rfl, ho, hb⟩
      obtain ⟨a1, c1, rfl, hA⟩ := ho.argL
      exact ⟨a1, c1, rfl, ⟨hA.sl, hA.lt⟩, hb⟩
    have hbe : ∀ w1, Below w.heap.size w w1 → Calls Try.prog 9 #[.int .i64 (M : Nat), .int .i64 (K : Nat)] w1 (TlZ (zl K fun i => ((bpl M K i : Nat) : Int)) w1) := fun w1 _ => tl_z (best_zl hm hN hk w1) (by rw [zl_len]; omega)
    have hpr := con_reads hm hN hk hs ha.le ha.cap hn
    by_cases h1 : N < n
    · have hp := con_may (c := c) hs hn (hmay 6 (if_pos h1))
      exact psays_okokgt hm hN hk hn h1 hlo hch hbo hbe (con_ne hm hN hs hn (by omega)) hp (con_gtE hm hN h1) hpr
    · have hnN : n ≤ N := by omega
      cases hb : allP isbt z n with
      | true =>
        have hp := con_may (c := c) hs hn (hmay 0 (by rw [if_neg h1, if_pos hb]))
        by_cases h2 : n = N
        · subst h2
          have he := con_eqB hm hN hs ha.le ha.cap hb
          exact psays_okokeqB hm hN hk hn rfl hlo hch hbo hbe (con_bits hs hn hb) he.2 he.1 hp (con_okW hm hN hs hnN hb) (con_okE hm hN hs hnN hb) hpr
        · exact psays_okokltB hm hN hk hn (by omega) hlo hch hbo hbe (con_ne hm hN hs hn h2) hp (con_okW hm hN hs hnN hb) (con_okE hm hN hs hnN hb) hpr
      | false =>
        have hp := con_may (c := c) hs hn (hmay 2 (by rw [if_neg h1, if_neg (by rw [hb]; intro e; cases e)]))
        by_cases h2 : n = N
        · subst h2
          exact psays_okokeqX hm hN hk hn rfl hlo hch hbo hbe (con_bits hs hn hb) (con_eqX hm hN hs hb) hp (con_badE hm hN hs hnN hb) hpr
        · exact psays_okokltX hm hN hk hn (by omega) hlo hch hbo hbe (con_ne hm hN hs hn h2) hp (con_badE hm hN hs hnN hb) hpr
end Go.Proofs.Ytbfkacnpbelmlaa
