/- Texts of ours, one behind the other: KI1 KI2 KI3 KI4 KR1 S63. -/
import Derived.Test.YtbfkacnpbelmlaaZKE15
import Derived.Test.YtbfkacnpbelmlaaZR15
import Derived.Test.YtbfkacnpbelmlaaZA1
/- Words that may lose a bit: which numbers may be (gap.checkSum; the reference's GapArgs). -/
namespace Go.Proofs.Ytbfkacnpbelmlaa
open Go.RowKit Go.Sort

end Go.Proofs.Ytbfkacnpbelmlaa

/- Words that may lose a bit: the sum of the places of ones (gap.comesTo; the reference's Places). -/
namespace Go.Proofs.Ytbfkacnpbelmlaa
open Go.RowKit Go.Sort

end Go.Proofs.Ytbfkacnpbelmlaa

/- Words that may lose a bit: the reference's Places. -/
namespace Go.Proofs.Ytbfkacnpbelmlaa
open Go.RowKit Go.Sort

end Go.Proofs.Ytbfkacnpbelmlaa

/- Words that may lose a bit: the bits of a number (gap.bits). -/
namespace Go.Proofs.Ytbfkacnpbelmlaa
open Go.RowKit Go.Sort

/-- A row of just n numbers. -/
def RowE (g n : Nat) (z : Nat → Int) (w : World) : Prop := RowF g n 3 (fun j => .int .i64 (z j)) w
theorem rowE_zeros {base n : Nat} {w : World} (h : OwnI base (.slice (some ⟨base, 0, none⟩) n n) (List.replicate n 0) w) : RowE base n (fun _ => 0) w := by
  rcases h.2 with ⟨h1, _⟩ | ⟨g, cap, cur, hv, hg, hh, hle, hcm, hsz, htake⟩
  · cases h1
  · simp only [List.length_replicate, Value.slice.injEq, Option.some.injEq, Addr.mk.injEq, and_true, true_and] at hv
    obtain ⟨rfl, rfl⟩ := hv
    by_cases h0 : n = 0
    · exact ⟨cur, hh, by omega, fun o ho => by omega⟩
    · obtain ⟨gl, cl, fl, hvl, hgl, hgl', hll, hcl, hrl, hfl⟩ := h.row n (by simp) (by omega)
      simp only [Value.slice.injEq, Option.some.injEq, Addr.mk.injEq, and_true, true_and] at hvl
      obtain ⟨rfl, rfl⟩ := hvl
      exact RowF.congr hrl fun k hk => by rw [hfl k hk, list_getD_replicate]
theorem RowE.store {g n : Nat} {z : Nat → Int} {w : World} (h : RowE g n z w) (k : Nat) (v : Int) : RowE g n (fun j => if j = k then v else z j) (w.setCell ⟨g, k, none⟩ (.int .i64 v)) := by
  refine (RowF.store h k (.int .i64 v)).congr (fun o _ => ?_)
  show (if o = k then Value.int .i64 v else Value.int .i64 (z o)) = Value.int .i64 (if o = k then v else z o)
  by_cases e : o = k
  · rw [if_pos e, if_pos e]
  · rw [if_neg e, if_neg e]
theorem RowE.own {g n base : Nat} {z : Nat → Int} {w : World} (h : RowE g n z w) (hb : base ≤ g) (hn : n ≤ 1000000) : OwnI base (.slice (some ⟨g, 0, none⟩) n n) (zl n z) w := RowF.own h (zl_len n z) (fun j hj => by rw [zl_getD n z j hj]) hb hn

end Go.Proofs.Ytbfkacnpbelmlaa

/- Golay: places as the bits of a number, of both sides. -/
namespace Go.Proofs.Ytbfkacnpbelmlaa
open Go.RowKit

theorem wrap_u64 {a : Nat} (h : a < 18446744073709551616) : IntKind.u64.wrap (a : Int) = (a : Int) := by
  show ((a : Int) % 18446744073709551616) = _
  omega
end Go.Proofs.Ytbfkacnpbelmlaa

/- Polar: what its functions come to: the transform (half by half, and bit by bit), the chances, the best places. -/
namespace Go.Proofs.Ytbfkacnpbelmlaa

/-- Half by half. -/
def ptr : Nat → (Nat → Nat) → Nat → Nat
  | 0, w => w
  | m + 1, w => fun i => if i < 2 ^ m then (ptr m w i + ptr m (fun j => w (j + 2 ^ m)) i) % 2 else ptr m (fun j => w (j + 2 ^ m)) (i - 2 ^ m)
theorem ptr_lt : ∀ m {w : Nat → Nat}, (∀ j, j < 2 ^ m → w j < 2) → ∀ i, i < 2 ^ m → ptr m w i < 2
  | 0, w, h, i, hi => h i hi
  | m + 1, w, h, i, hi => by
    rw [Nat.pow_succ] at h hi
    show (if i < 2 ^ m then (ptr m w i + ptr m (fun j => w (j + 2 ^ m)) i) % 2 else ptr m (fun j => w (j + 2 ^ m)) (i - 2 ^ m)) < 2
    by_cases c : i < 2 ^ m
    · rw [if_pos c]; omega
    · rw [if_neg c]; exact ptr_lt m (fun j hj => h (j + 2 ^ m) (by omega)) _ (by omega)
/-- Bit by bit: the sum of all of which i's bits are part. -/
def psj (w : Nat → Nat) (i : Nat) : Nat → Nat
  | 0 => 0
  | n + 1 => if i &&& n = i then (psj w i n + w n) % 2 else psj w i n
theorem psj_lt (w : Nat → Nat) (i : Nat) : ∀ n, psj w i n < 2
  | 0 => by show 0 < 2; omega
  | n + 1 => by
    show (if i &&& n = i then (psj w i n + w n) % 2 else psj w i n) < 2
    have := psj_lt w i n
    split <;> omega
theorem psj_none {w : Nat → Nat} {i : Nat} : ∀ n, (∀ j, j < n → ¬ i &&& j = i) → psj w i n = 0
  | 0, _ => rfl
  | n + 1, h => by
    show (if i &&& n = i then (psj w i n + w n) % 2 else psj w i n) = 0
    rw [if_neg (h n (by omega)), psj_none n (fun j hj => h j (by omega))]
theorem psj_add {w : Nat → Nat} {i i' h : Nat} : ∀ d, (∀ j, j < d → (i &&& (h + j) = i ↔ i' &&& j = i')) → psj w i (h + d) = (psj w i h + psj (fun j => w (j + h)) i' d) % 2
  | 0, _ => by
    have := psj_lt w i h
    show psj w i h = (psj w i h + 0) % 2
    omega
  | d + 1, hd => by
    have ih := psj_add (w := w) (i := i) (i' := i') (h := h) d (fun j hj => hd j (by omega))
    have e := hd d (by omega)
    show (if i &&& (h + d) = i then (psj w i (h + d) + w (h + d)) % 2 else psj w i (h + d)) = (psj w i h + if i' &&& d = i' then (psj (fun j => w (j + h)) i' d + w (d + h)) % 2 else psj (fun j => w (j + h)) i' d) % 2
    by_cases c : i' &&& d = i'
    · rw [if_pos (e.2 c), if_pos c, ih, Nat.add_comm h d]; omega
    · rw [if_neg (fun x => c (e.1 x)), if_neg c, ih]
theorem bit_chk : ((List.range 5).all fun m => (List.range (2 ^ m)).all fun i => (List.range (2 ^ m)).all fun j => (decide (i &&& (2 ^ m + j) = i) == decide (i &&& j = i)) && (decide ((i + 2 ^ m) &&& (2 ^ m + j) = i + 2 ^ m) == decide (i &&& j = i)) && !decide ((i + 2 ^ m) &&& j = i + 2 ^ m)) = true := by decide +kernel
theorem pbit_at {m i j : Nat} (hm : m < 5) (hi : i < 2 ^ m) (hj : j < 2 ^ m) : (i &&& (2 ^ m + j) = i ↔ i &&& j = i) ∧ ((i + 2 ^ m) &&& (2 ^ m + j) = i + 2 ^ m ↔ i &&& j = i) ∧ ¬ (i + 2 ^ m) &&& j = i + 2 ^ m := by
  have h := List.all_eq_true.1 (List.all_eq_true.1 (List.all_eq_true.1 bit_chk m (List.mem_range.2 hm)) i (List.mem_range.2 hi)) j (List.mem_range.2 hj)
  simp only [Bool.and_eq_true, beq_iff_eq, decide_eq_decide, Bool.not_eq_true', decide_eq_false_iff_not] at h
  exact ⟨h.1.1, h.1.2, h.2⟩
theorem ptr_psj : ∀ m {w : Nat → Nat}, m ≤ 5 → (∀ j, j < 2 ^ m → w j < 2) → ∀ i, i < 2 ^ m → ptr m w i = psj w i (2 ^ m)
  | 0, w, _, h, i, hi => by
    have e : i = 0 := by simp at hi; exact hi
    subst e
    have := h 0 (by decide)
    show w 0 = if 0 &&& 0 = 0 then (0 + w 0) % 2 else 0
    rw [if_pos (show 0 &&& 0 = 0 from rfl)]; omega
  | m + 1, w, hm, h, i, hi => by
    rw [Nat.pow_succ] at h hi ⊢
    have e1 := ptr_psj m (w := w) (by omega) (fun j hj => h j (by omega))
    have e2 := ptr_psj m (w := fun j => w (j + 2 ^ m)) (by omega) (fun j hj => h (j + 2 ^ m) (by omega))
    rw [show 2 ^ m * 2 = 2 ^ m + 2 ^ m by omega]
    show (if i < 2 ^ m then (ptr m w i + ptr m (fun j => w (j + 2 ^ m)) i) % 2 else ptr m (fun j => w (j + 2 ^ m)) (i - 2 ^ m)) = _
    by_cases c : i < 2 ^ m
    · rw [if_pos c, e1 i c, e2 i c, psj_add (i' := i) (2 ^ m) (fun j hj => (pbit_at (by omega) c hj).1)]
    · obtain ⟨k, hk⟩ : ∃ k, i = k + 2 ^ m := ⟨i - 2 ^ m, by omega⟩
      subst hk
      have hk2 : k < 2 ^ m := by omega
      rw [if_neg c, Nat.add_sub_cancel, e2 k hk2, psj_add (i' := k) (2 ^ m) (fun j hj => (pbit_at (by omega) hk2 hj).2.1), psj_none (2 ^ m) (fun j hj => (pbit_at (by omega) hk2 hj).2.2)]
      have := psj_lt (fun j => w (j + 2 ^ m)) k (2 ^ m)
      omega
/-- The chances. -/
def lss : Nat → List Nat
  | 0 => [1]
  | m + 1 => (lss m).flatMap fun v => [2 * v * 2 ^ 2 ^ m - v * v, v * v]
/-- The next one that is taken: the least chance, of alike ones the greatest place. -/
def nxb (l : List Nat) (t : List Nat) : Nat → Option Nat → Option Nat
  | 0, a => a
  | j + 1, a => nxb l t j (if t.contains j then a else match a with
    | none => some j
    | some x => if l.getD j 0 < l.getD x 0 then some j else some x)
/-- The places as they are taken. -/
def srt (m : Nat) : Nat → List Nat
  | 0 => []
  | k + 1 => srt m k ++ [(nxb (lss m) (srt m k) (2 ^ m) none).getD 0]
theorem lss_chk : ((List.range 6).all fun m => (lss m).length == 2 ^ m && (lss m).all fun v => Nat.ble v 4294967296) = true := by decide +kernel
theorem lss_len {m : Nat} (hm : m ≤ 5) : (lss m).length = 2 ^ m := by
  have h := List.all_eq_true.1 lss_chk m (List.mem_range.2 (by omega))
  rw [Bool.and_eq_true] at h
  exact eq_of_beq h.1
theorem nxb_lt {l t : List Nat} {n : Nat} : ∀ J a x, (∀ y, a = some y → y < n) → J ≤ n → nxb l t J a = some x → x < n
  | 0, a, x, ha, _, h => ha x h
  | j + 1, a, x, ha, hJ, h => by
    refine nxb_lt j _ x (fun y hy => ?_) (by omega) h
    by_cases c : t.contains j = true
    · rw [if_pos c] at hy; exact ha y hy
    · rw [if_neg c] at hy
      cases a with
      | none => cases hy; omega
      | some z =>
        have hy2 : (if l.getD j 0 < l.getD z 0 then some j else some z) = some y := hy
        by_cases c2 : l.getD j 0 < l.getD z 0
        · rw [if_pos c2] at hy2; cases hy2; omega
        · rw [if_neg c2] at hy2; exact ha y hy2
theorem nxb_some {l t : List Nat} : ∀ J a, ((∃ j, j < J ∧ t.contains j = false) ∨ ∃ y, a = some y) → ∃ x, nxb l t J a = some x
  | 0, a, h => by
    rcases h with ⟨j, hj, _⟩ | h
    · omega
    · exact h
  | j + 1, a, h => by
    refine nxb_some j _ ?_
    by_cases c : t.contains j = true
    · rw [if_pos c]
      rcases h with ⟨i, hi, h2⟩ | h
      · by_cases e : i = j
        · rw [e, c] at h2; cases h2
        · exact Or.inl ⟨i, by omega, h2⟩
      · exact Or.inr h
    · rw [if_neg c]
      refine Or.inr ?_
      cases a with
      | none => exact ⟨j, rfl⟩
      | some z =>
        show ∃ y, (if l.getD j 0 < l.getD z 0 then some j else some z) = some y
        by_cases c2 : l.getD j 0 < l.getD z 0
        · exact ⟨j, if_pos c2⟩
        · exact ⟨z, if_neg c2⟩
theorem srt_chk : ((List.range 6).all fun m => (List.range (2 ^ m)).all fun i => (List.range (2 ^ m)).any fun j => !(srt m i).contains j) = true := by decide +kernel
/-- The place that is taken next. -/
theorem srt_next {m i : Nat} (hm : m ≤ 5) (hi : i < 2 ^ m) : ∃ x, nxb (lss m) (srt m i) (2 ^ m) none = some x ∧ x < 2 ^ m ∧ srt m (i + 1) = srt m i ++ [x] := by
  have h := List.all_eq_true.1 (List.all_eq_true.1 srt_chk m (List.mem_range.2 (by omega))) i (List.mem_range.2 hi)
  obtain ⟨j, hj, h2⟩ := List.any_eq_true.1 h
  obtain ⟨x, hx⟩ := nxb_some (l := lss m) (t := srt m i) (2 ^ m) none (Or.inl ⟨j, List.mem_range.1 hj, by simpa using h2⟩)
  refine ⟨x, hx, nxb_lt (2 ^ m) none x (fun y hy => by cases hy) (Nat.le_refl _) hx, ?_⟩
  show srt m i ++ [(nxb (lss m) (srt m i) (2 ^ m) none).getD 0] = _
  rw [hx]; rfl
/-- The best places, rising. -/
def bsl (m k : Nat) : List Nat := (List.range (2 ^ m)).filter fun j => (srt m k).contains j
end Go.Proofs.Ytbfkacnpbelmlaa
