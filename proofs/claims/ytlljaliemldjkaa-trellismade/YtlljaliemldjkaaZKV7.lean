/- Texts of ours, one behind the other: KV7 KV8. -/
import Derived.Test.YtlljaliemldjkaaZKV6
import Derived.Test.YtlljaliemldjkaaZS83
import Derived.RangeFuncRecord
/- Trellises: how many signs are turned; choices; the better of two ways. -/
namespace Go.Proofs.Ytlljaliemldjkaa
open Go.RowKit Go.Sort

theorem ct_up (p : Nat → Bool) : ∀ n, ct p n ≤ n
  | 0 => Nat.le_refl 0
  | n + 1 => by
    show ct p n + (if p n = true then 1 else 0) ≤ n + 1
    have := ct_up p n
    split <;> omega
/-- How many of the signs of one step are other. -/
def trn (z : Nat → Nat) (R : Nat) (y : Nat → Int) (k x : Nat) : Nat := ct (fun j => !decide (((sgb (z j) x : Nat) : Int) = y (k * R + j))) R
theorem trn_le (z : Nat → Nat) (R : Nat) (y : Nat → Int) (k x : Nat) : trn z R y k x ≤ R := ct_up _ _

set_option maxHeartbeats 8000000 in
set_option maxRecDepth 100000 in
theorem tturn_any {ao so : Option Addr} {R ca l sc k x : Nat} {z : Nat → Nat} {y : Nat → Int} {w : World} (hX : RlZ ao R z w) (hY : SlZ so l y w) (hl : l ≤ 1000) (hk : (k + 1) * R ≤ l) (hx : x < 1073741824) :
    Calls Try.prog 36 #[.slice ao R ca, .slice so l sc, .int .i64 (k : Nat), .int .i64 (x : Nat)] w fun e w' => e = .returned (.int .i64 (trn z R y k x : Nat)) ∧ ∃ d, w' = w.drewN d := by
  have HX : Hid (RlZ ao R z w ∧ SlZ so l y w) := ⟨hX, hY⟩
  have hR3 := hX.few
  have hR1 := hX.one
  obtain ⟨p, hp⟩ : ∃ p : Nat → Bool, p = fun j => !decide (((sgb (z j) x : Nat) : Int) = y (k * R + j)) := ⟨_, rfl⟩
  have HP : Hid (trn z R y k x = ct p R ∧ ∀ j, p j = !decide (((sgb (z j) x : Nat) : Int) = y (k * R + j))) := ⟨by show ct _ R = _; rw [hp], fun j => by rw [hp]⟩
  obtain ⟨kr, hkr⟩ : ∃ kr, kr = k * R := ⟨_, rfl⟩
  have hkl : kr + R ≤ l := by rw [hkr]; rw [Nat.add_mul, Nat.one_mul] at hk; exact hk
  have hmul : (k : Int) * (R : Int) = (kr : Int) := by rw [hkr]; simp
  have hkw : IntKind.i64.wrap (kr : Int) = (kr : Int) := wrap_to rfl (by omega)
  have HK : Hid (kr = k * R) := hkr
  clear hX hY hp hk hkr
  go_enter Try.func36, Try.ntmps36
  go_wp2
  go_loopw [9, 14] (fun vm vi wr => ∃ i m : Nat, vm = .int .i64 (m : Nat) ∧ vi = .int .i64 (i : Nat) ∧ i ≤ R ∧ m ≤ i ∧ Hid (m = ct p i ∧ ∃ d, wr = w.drewN d)) (fun _ vi _ => R - (intOf vi).toNat)
  case atStart => exact ⟨0, 0, rfl, rfl, by omega, by omega, rfl, 0, rfl⟩
  case round =>
    obtain ⟨i, m, rfl, rfl, hi, hm, HI⟩ := hrel
    rename World => wr
    by_cases hlt : i < R
    · have hib : (i : Int) < (R : Int) := by omega
      have hib0 : (0 : Int) ≤ (i : Int) := by omega
      obtain ⟨d0, hd0⟩ := HI.out.2
      obtain ⟨b, off, e1, hc1⟩ := HX.out.1.sl i hlt
      obtain ⟨v, hv⟩ : ∃ v, v = z i := ⟨_, rfl⟩
      replace hc1 : wr.cell? ⟨b, off + i, none⟩ = some (.int .i64 (v : Nat)) := by rw [hd0, hv]; exact hc1
      have hvb : v ≤ 31 := by rw [hv]; exact HX.out.1.hi i hlt
      obtain ⟨q, hq⟩ : ∃ q, q = kr + i := ⟨_, rfl⟩
      have hqi : (kr : Int) + (i : Int) = (q : Int) := by omega
      have hqw : IntKind.i64.wrap (q : Int) = (q : Int) := wrap_to rfl (by omega)
      have hql : q < l := by omega
      have hqb : (q : Int) < (l : Int) := by omega
      have hqb0 : (0 : Int) ≤ (q : Int) := by omega
      obtain ⟨b2, off2, e2, hc2⟩ := HX.out.2 q hql
      obtain ⟨s, hs⟩ : ∃ s, s = y q := ⟨_, rfl⟩
      replace hc2 : wr.cell? ⟨b2, off2 + q, none⟩ = some (.int .i64 s) := by rw [hd0, hs]; exact hc2
      obtain ⟨t, ht⟩ : ∃ t, t = sgb v x := ⟨_, rfl⟩
      have HSg : Hid (∀ wx, Calls Try.prog 28 #[.int .i64 (v : Nat), .int .i64 (x : Nat)] wx fun e w' => e = .returned (.int .i64 (t : Nat)) ∧ w' = wx) := fun wx => by rw [ht]; exact tsign_any hvb hx wx
      have HJ : Hid (∀ i, ∃ j, wr.drewN i = w.drewN j) := fun i => ⟨d0 + i, by rw [hd0, World.drewN_drewN]⟩
      have hpi : p i = !decide ((t : Int) = s) := by rw [HP.out.2 i, ht, hv, hs, hq, HK.out]
      subst e1
      subst e2
      by_cases e : (t : Int) = s
      · have hz : ((t : Int) != s) = false := by rw [e]; simp
        have HV : Hid (m = ct p (i + 1)) := by
          show m = ct p i + if p i = true then 1 else 0
          rw [← HI.out.1, hpi, decide_eq_true e]; rfl
        clear e hv hq hs ht hd0 hpi
        go_wp2
        go_big_quiet (first | (go_at_call 28; exact Calls.quiet_of_same (HSg.out _)))
        go_wp2
        go_roundw
        case rel => exact ⟨i + 1, m, rfl, by go_num, by omega, by omega, HV.out, HJ.out _⟩
        case measure => simp [intOf]; omega
      · have hz : ((t : Int) != s) = true := by rw [bne_iff_ne]; exact e
        have HV : Hid (m + 1 = ct p (i + 1)) := by
          show m + 1 = ct p i + if p i = true then 1 else 0
          rw [← HI.out.1, hpi, decide_eq_false e]; rfl
        clear e hv hq hs ht hd0 hpi
        go_wp2
        go_big_quiet (first | (go_at_call 28; exact Calls.quiet_of_same (HSg.out _)))
        go_wp2
        go_roundw
        case rel => exact ⟨i + 1, m + 1, by go_num, by go_num, by omega, by omega, HV.out, HJ.out _⟩
        case measure => simp [intOf]; omega
    · have hib : ¬ (i : Int) < (R : Int) := by omega
      have hie : i = R := by omega
      subst hie
      go_wp2
      go_ret
      exact ⟨by rw [HP.out.1, ← HI.out.1]; rfl, HI.out.2⟩
set_option maxHeartbeats 1000000 in
theorem choices_any (k n : Nat) (w : World) : Calls Try.prog 51 #[.int .i64 (k : Nat), .int .i64 (n : Nat)] w fun e w' => e = .returned (.int .i64 (chc n k : Nat)) ∧ w' = w := by
  by_cases h : k < n
  · have hi : (k : Int) < (n : Int) := by omega
    have HV : Hid (chc n k = 2) := by show (if k < n then 2 else 1) = 2; rw [if_pos h]
    go_enter Try.func51, Try.ntmps51
    go_wp2
    go_ret
    exact ⟨by rw [HV.out]; rfl, rfl⟩
  · have hi : ¬ (k : Int) < (n : Int) := by omega
    have HV : Hid (chc n k = 1) := by show (if k < n then 2 else 1) = 1; rw [if_neg h]
    go_enter Try.func51, Try.ntmps51
    go_wp2
    go_ret
    exact ⟨by rw [HV.out]; rfl, rfl⟩
end Go.Proofs.Ytlljaliemldjkaa

/- Trellises: ways. -/
namespace Go.Proofs.Ytlljaliemldjkaa
open Go.RowKit Go.Sort

/-- A way, as it is handed on. -/
def wyV (p : Nat × Nat) : Value := .agg #[.int .i64 (p.1 : Nat), .int .i64 (p.2 : Nat)]
/-- The better of two. -/
def wyB (p q : Nat × Nat) : Nat × Nat := if q.1 < p.1 ∨ (q.1 = p.1 ∧ q.2 < p.2) then q else p
theorem wy_mts : Mts wyB := by
  constructor
  · rintro ⟨a, b⟩ ⟨c, d⟩
    unfold wyB
    by_cases h1 : c < a ∨ (c = a ∧ d < b)
    · rw [if_pos h1, if_neg (by show ¬ (a < c ∨ (a = c ∧ b < d)); omega)]
    · rw [if_neg h1]
      by_cases h2 : a < c ∨ (a = c ∧ b < d)
      · rw [if_pos h2]
      · rw [if_neg h2]
        have : a = c ∧ b = d := by
          have h1' : ¬ (c < a ∨ (c = a ∧ d < b)) := h1
          omega
        rw [this.1, this.2]
  · rintro ⟨a, b⟩ ⟨c, d⟩ ⟨e, f⟩
    unfold wyB
    by_cases h1 : c < a ∨ (c = a ∧ d < b)
    · rw [if_pos h1]
      by_cases h2 : e < c ∨ (e = c ∧ f < d)
      · rw [if_pos h2, if_pos (by show e < a ∨ (e = a ∧ f < b); omega)]
      · rw [if_neg h2, if_pos h1]
    · rw [if_neg h1]
      by_cases h2 : e < c ∨ (e = c ∧ f < d)
      · rw [if_pos h2]
      · rw [if_neg h2, if_neg h1, if_neg (by show ¬ (e < a ∨ (e = a ∧ f < b)); have h1' : ¬ (c < a ∨ (c = a ∧ d < b)) := h1; have h2' : ¬ (e < c ∨ (e = c ∧ f < d)) := h2; omega)]
/-- A variable that holds a way. -/
def W2 (b : Nat) (p q : Int) (w : World) : Prop := w.heap[b]? = some (.cells #[.int .i64 p, .int .i64 q] 59)
theorem W2.c0 {b : Nat} {p q : Int} {w : World} (h : W2 b p q w) : w.cell? ⟨b, 0, none⟩ = some (.int .i64 p) := by rw [cell_of_row _ _ _ _ _ (0, 0) h]; rfl
theorem W2.c1 {b : Nat} {p q : Int} {w : World} (h : W2 b p q w) : w.cell? ⟨b, 1, none⟩ = some (.int .i64 q) := by rw [cell_of_row _ _ _ _ _ (0, 0) h]; rfl
theorem W2.free {b : Nat} {p q : Int} {w : World} (h : W2 b p q w) (i : Nat) : w.frozen? ⟨b, i, none⟩ = false := frozen_of_row _ _ _ _ _ h
theorem W2.new (p q : Int) (w : World) : W2 w.heap.size p q (w.alloc (.cells #[.int .i64 p, .int .i64 q] 59)) := World.alloc_heap_new w _
theorem W2.alloc {b : Nat} {p q : Int} {w : World} (h : W2 b p q w) (o : Obj) : W2 b p q (w.alloc o) := (Below.heap_alloc _ _ _ (lt_of_block h)).trans h
theorem W2.below {b : Nat} {p q : Int} {w w' : World} (h : W2 b p q w) (hb : Below w.heap.size w w') : W2 b p q w' := (hb.block b (lt_of_block h)).trans h

set_option maxHeartbeats 4000000 in
set_option maxRecDepth 100000 in
theorem better_any (p q : Nat × Nat) (w : World) : Calls Try.prog 38 #[wyV p, wyV q] w fun e w' => e = .returned (wyV (wyB p q)) ∧ Below w.heap.size w w' := by
  obtain ⟨a, b⟩ := p
  obtain ⟨c, d⟩ := q
  have al : ∀ o1 o2 o3 : Obj, Below w.heap.size w (((w.alloc o1).alloc o2).alloc o3) := fun o1 o2 o3 => (((Below.refl _ _).alloc (Nat.le_refl _) _).alloc (by simp) _).alloc (by simp; omega) _
  have HL : Hid (∀ o1 o2 o3 : Obj, Below w.heap.size w (((w.alloc o1).alloc o2).alloc o3)) := al
  show Calls Try.prog 38 #[.agg #[.int .i64 (a : Nat), .int .i64 (b : Nat)], .agg #[.int .i64 (c : Nat), .int .i64 (d : Nat)]] w _
  obtain ⟨r, hr⟩ : ∃ r, r = wyB (a, b) (c, d) := ⟨_, rfl⟩
  rw [← hr]
  have HR : Hid (r = if c < a ∨ (c = a ∧ d < b) then (c, d) else (a, b)) := hr
  clear hr al
  by_cases h1 : c < a
  · have h1i : (c : Int) < (a : Int) := by omega
    have HV : Hid (r = (c, d)) := by show r = _; rw [HR.out, if_pos (Or.inl h1)]
    clear HR
    go_enter Try.func38, Try.ntmps38
    go_wp2
    refine bodyPost_ret (v := .agg #[.int .i64 (c : Nat), .int .i64 (d : Nat)]) (by simp [results, Try.results38, go_sem]) rfl ?_
    exact ⟨by rw [HV.out]; rfl, HL.out _ _ _⟩
  · have h1i : ¬ (c : Int) < (a : Int) := by omega
    by_cases h2 : c = a
    · subst h2
      by_cases h3 : d < b
      · have h3i : (d : Int) < (b : Int) := by omega
        have HV : Hid (r = (c, d)) := by show r = _; rw [HR.out, if_pos (Or.inr ⟨rfl, h3⟩)]
        clear HR
        go_enter Try.func38, Try.ntmps38
        go_wp2
        refine bodyPost_ret (v := .agg #[.int .i64 (c : Nat), .int .i64 (d : Nat)]) (by simp [results, Try.results38, go_sem]) rfl ?_
        exact ⟨by rw [HV.out]; rfl, HL.out _ _ _⟩
      · have h3i : ¬ (d : Int) < (b : Int) := by omega
        have HV : Hid (r = (c, b)) := by show r = _; rw [HR.out, if_neg (by omega)]
        clear HR
        go_enter Try.func38, Try.ntmps38
        go_wp2
        refine bodyPost_ret (v := .agg #[.int .i64 (c : Nat), .int .i64 (b : Nat)]) (by simp [results, Try.results38, go_sem]) rfl ?_
        exact ⟨by rw [HV.out]; rfl, HL.out _ _ _⟩
    · have h2i : ((c : Int) == (a : Int)) = false := beq_eq_false_iff_ne.2 (by omega)
      have HV : Hid (r = (a, b)) := by show r = _; rw [HR.out, if_neg (by omega)]
      clear HR
      go_enter Try.func38, Try.ntmps38
      go_wp2
      refine bodyPost_ret (v := .agg #[.int .i64 (a : Nat), .int .i64 (b : Nat)]) (by simp [results, Try.results38, go_sem]) rfl ?_
      exact ⟨by rw [HV.out]; rfl, HL.out _ _ _⟩
/-- What a step makes of a way. -/
def wyS (z : Nat → Nat) (R : Nat) (y : Nat → Int) (n : Nat) (k x : Nat) (p : Nat × Nat) : Nat × Nat := (p.1 + trn z R y k x, if k < n then 2 * p.2 + x % 2 else p.2)
theorem wyS_over (z : Nat → Nat) (R : Nat) (y : Nat → Int) (n k x : Nat) (p q : Nat × Nat) : wyS z R y n k x (wyB p q) = wyB (wyS z R y n k x p) (wyS z R y n k x q) := by
  obtain ⟨a, b⟩ := p
  obtain ⟨c, d⟩ := q
  unfold wyB wyS
  by_cases h1 : c < a ∨ (c = a ∧ d < b)
  · rw [if_pos h1]
    by_cases hk : k < n
    · rw [if_pos hk, if_pos hk, if_pos (by show c + _ < a + _ ∨ (c + _ = a + _ ∧ 2 * d + _ < 2 * b + _); omega)]
    · rw [if_neg hk, if_neg hk, if_pos (by show c + _ < a + _ ∨ (c + _ = a + _ ∧ d < b); omega)]
  · rw [if_neg h1]
    have h1' : ¬ (c < a ∨ (c = a ∧ d < b)) := h1
    by_cases hk : k < n
    · rw [if_pos hk, if_pos hk, if_neg (by show ¬ (c + _ < a + _ ∨ (c + _ = a + _ ∧ 2 * d + _ < 2 * b + _)); omega)]
    · rw [if_neg hk, if_neg hk, if_neg (by show ¬ (c + _ < a + _ ∨ (c + _ = a + _ ∧ d < b)); omega)]
theorem W2.put0 {b : Nat} {p q : Int} {w : World} (h : W2 b p q w) (x : Int) : W2 b x q (w.setCell ⟨b, 0, none⟩ (.int .i64 x)) := by
  unfold W2 at h ⊢
  show (w.heap.modify b _)[b]? = _
  rw [Array.getElem?_modify, if_pos rfl, h]
  rfl
theorem W2.put1 {b : Nat} {p q : Int} {w : World} (h : W2 b p q w) (x : Int) : W2 b p x (w.setCell ⟨b, 1, none⟩ (.int .i64 x)) := by
  unfold W2 at h ⊢
  show (w.heap.modify b _)[b]? = _
  rw [Array.getElem?_modify, if_pos rfl, h]
  rfl
theorem W2.oth {b b' : Nat} {p q : Int} {w : World} (h : W2 b p q w) (hne : b ≠ b') (i : Nat) (v : Value) : W2 b p q (w.setCell ⟨b', i, none⟩ v) := (Below.heap_setCell _ _ _ _ hne).trans h
end Go.Proofs.Ytlljaliemldjkaa
