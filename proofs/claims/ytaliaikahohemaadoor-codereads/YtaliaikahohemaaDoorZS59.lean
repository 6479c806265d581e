/- Texts of ours, one behind the other: S59 S60 KP1. -/
import Derived.Lib.SplitLaws
import Derived.Lib.IndexBytes
import Derived.Test.YtaliaikahohemaaDoorZI12
/- Texts as lists of bytes: cut at a sign; lines; numbers. -/
namespace Go.Proofs.YtaliaikahohemaaDoor

/-- A text cut at each such sign. -/
def spl (c : UInt8) : List UInt8 → List (List UInt8)
  | [] => [[]]
  | x :: xs => if x = c then [] :: spl c xs else match spl c xs with
    | [] => [[x]]
    | p :: ps => (x :: p) :: ps
theorem spl_cons (c : UInt8) : ∀ s, ∃ p ps, spl c s = p :: ps
  | [] => ⟨[], [], rfl⟩
  | x :: xs => by
    unfold spl
    split
    · exact ⟨_, _, rfl⟩
    · obtain ⟨p, ps, e⟩ := spl_cons c xs
      rw [e]
      exact ⟨_, _, rfl⟩
theorem spl_at (c : UInt8) (s : List UInt8) : spl c (c :: s) = [] :: spl c s := by
  show (if c = c then _ else _) = _
  rw [if_pos rfl]
theorem spl_on {c x : UInt8} (h : x ≠ c) {s p : List UInt8} {ps : List (List UInt8)} (e : spl c s = p :: ps) : spl c (x :: s) = (x :: p) :: ps := by
  show (if x = c then _ else _) = _
  rw [if_neg h, e]
theorem spl_not {c : UInt8} : ∀ {s}, c ∉ s → spl c s = [s]
  | [], _ => rfl
  | x :: xs, h => by
    rw [List.mem_cons, not_or] at h
    exact spl_on (fun e => h.1 e.symm) (spl_not h.2)
theorem spl_hit {c : UInt8} {b : List UInt8} : ∀ {a}, c ∉ a → spl c (a ++ c :: b) = a :: spl c b
  | [], _ => spl_at c b
  | x :: xs, h => by
    rw [List.mem_cons, not_or] at h
    exact spl_on (fun e => h.1 e.symm) (spl_hit h.2)
theorem spl_snoc {c : UInt8} (x : UInt8) : ∀ {s : List UInt8} {L : List (List UInt8)} {p : List UInt8}, spl c s = L ++ [p] → spl c (s ++ [x]) = if x = c then L ++ [p] ++ [[]] else L ++ [p ++ [x]]
  | [], L, p, e => by
    have e' : ([[]] : List (List UInt8)) = L ++ [p] := e
    cases L with
    | nil =>
      simp at e'
      subst e'
      by_cases h : x = c
      · rw [if_pos h, h]; exact spl_at c []
      · rw [if_neg h]
        exact spl_on h rfl
    | cons a L => simp at e'
  | y :: ys, L, p, e => by
    by_cases hy : y = c
    · subst hy
      rw [spl_at] at e
      cases L with
      | nil =>
        obtain ⟨q, qs, eq⟩ := spl_cons y ys
        rw [eq] at e
        simp at e
      | cons a L =>
        simp only [List.cons_append, List.cons.injEq] at e
        obtain ⟨e1, e2⟩ := e
        have ih := spl_snoc x e2
        show spl y (y :: (ys ++ [x])) = _
        rw [spl_at, ih, ← e1]
        split <;> simp
    · obtain ⟨q, qs, eq⟩ := spl_cons c ys
      rw [spl_on hy eq] at e
      cases L with
      | nil =>
        simp at e
        obtain ⟨e1, e2⟩ := e
        subst e2
        have ih := spl_snoc (L := []) x eq
        show spl c (y :: (ys ++ [x])) = _
        by_cases h : x = c
        · rw [if_pos h] at ih ⊢
          rw [spl_on hy ih, ← e1]; rfl
        · rw [if_neg h] at ih ⊢
          rw [spl_on hy ih, ← e1]; rfl
      | cons a L =>
        simp only [List.cons_append, List.cons.injEq] at e
        obtain ⟨e1, e2⟩ := e
        have ih := spl_snoc (L := q :: L) (p := p) x (by rw [eq, e2]; rfl)
        show spl c (y :: (ys ++ [x])) = _
        by_cases h : x = c
        · rw [if_pos h] at ih ⊢
          rw [spl_on hy ih, ← e1]; rfl
        · rw [if_neg h] at ih ⊢
          rw [spl_on hy ih, ← e1]; rfl
theorem first_of {c : UInt8} : ∀ {s : List UInt8}, c ∈ s → ∃ a b, s = a ++ c :: b ∧ c ∉ a
  | x :: xs, h => by
    by_cases e : x = c
    · exact ⟨[], xs, by rw [e]; rfl, by simp⟩
    · rw [List.mem_cons] at h
      rcases h with h | h
      · exact absurd h.symm e
      · obtain ⟨a, b, e1, e2⟩ := first_of h
        exact ⟨x :: a, b, by rw [e1]; rfl, by rw [List.mem_cons, not_or]; exact ⟨fun h => e h.symm, e2⟩⟩
theorem iby_hit {c : UInt8} {b : List UInt8} : ∀ {a : List UInt8}, c ∉ a → Go.Lib.indexByte (a ++ c :: b) c = (a.length : Int)
  | [], _ => by show (if c == c then (0 : Int) else _) = _; rw [if_pos (by simp)]; rfl
  | x :: xs, h => by
    rw [List.mem_cons, not_or] at h
    show (if x == c then (0 : Int) else if Go.Lib.indexByte (xs ++ c :: b) c == -1 then -1 else Go.Lib.indexByte (xs ++ c :: b) c + 1) = _
    rw [if_neg (by rw [beq_iff_eq]; exact fun e => h.1 e.symm), iby_hit h.2, if_neg (by rw [beq_iff_eq]; omega)]
    simp
theorem splitK_spl (c : UInt8) : ∀ n (s : List UInt8), s.length ≤ n → Go.Lib.splitK [c] 0 (s.count c) s = spl c s
  | n, s, hn => by
    by_cases h : c ∈ s
    · obtain ⟨a, b, rfl, ha⟩ := first_of h
      cases n with
      | zero => simp at hn
      | succ n =>
        have ih := splitK_spl c n b (by simp at hn; omega)
        have hc : (a ++ c :: b).count c = b.count c + 1 := by
          rw [List.count_append, List.count_cons_self, List.count_eq_zero.2 ha]; omega
        rw [hc, spl_hit ha]
        unfold Go.Lib.splitK
        rw [Go.Lib.index_one, iby_hit ha, if_neg (by rw [beq_iff_eq]; omega)]
        have e1 : ((a.length : Int)).toNat = a.length := rfl
        rw [e1]
        simp [ih]
    · have hc : s.count c = 0 := List.count_eq_zero.2 h
      rw [hc, spl_not h]
      rfl
/-- A text's lines, as the program has them. -/
theorem lines_eq {s : List UInt8} (hs : s ≠ []) : (∃ t, s = t ++ [10] ∧ Go.Lib.trimSuffix s [10] = t ∧ spl 10 s = spl 10 t ++ [[]]) ∨ (Go.Lib.trimSuffix s [10] = s ∧ ∃ L p, spl 10 s = L ++ [p] ∧ p ≠ []) := by
  obtain ⟨t, x, rfl⟩ : ∃ t x, s = t ++ [x] := ⟨s.dropLast, s.getLast hs, (List.dropLast_concat_getLast hs).symm⟩
  have hL : ∃ L p, spl 10 t = L ++ [p] := by
    obtain ⟨p, ps, e⟩ := spl_cons 10 t
    have hne : spl 10 t ≠ [] := by rw [e]; simp
    exact ⟨(spl 10 t).dropLast, (spl 10 t).getLast hne, (List.dropLast_concat_getLast hne).symm⟩
  obtain ⟨L, p, e⟩ := hL
  have h := spl_snoc x e
  by_cases hx : x = 10
  · left
    rw [if_pos hx] at h
    refine ⟨t, by rw [hx], ?_, by rw [h, e]⟩
    unfold Go.Lib.trimSuffix Go.Lib.hasSuffix
    rw [if_pos (by rw [hx, List.isSuffixOf_iff_suffix]; exact List.suffix_append _ _)]
    simp
  · right
    rw [if_neg hx] at h
    refine ⟨?_, L, p ++ [x], h, by simp⟩
    unfold Go.Lib.trimSuffix Go.Lib.hasSuffix
    rw [if_neg]
    rw [List.isSuffixOf_iff_suffix]
    rintro ⟨u, hu⟩
    have := congrArg List.getLast? hu
    simp at this
    exact hx this.symm
/-- Is it a digit? -/
def isd (b : UInt8) : Bool := decide (48 ≤ b.toNat ∧ b.toNat ≤ 57)
/-- The number of digits. -/
def vlu : List UInt8 → Nat → Nat
  | [], n => n
  | b :: l, n => vlu l (n * 10 + (b.toNat - 48))
theorem vlu_snoc (x : UInt8) : ∀ l n, vlu (l ++ [x]) n = vlu l n * 10 + (x.toNat - 48)
  | [], _ => rfl
  | _ :: l, _ => vlu_snoc x l _
/-- What a word tells: its error, its number. -/
def rnm (w : List UInt8) : Int × Nat :=
  if w = [] ∨ w.all isd = false ∨ (1 < w.length ∧ w.head? = some 48) then (11, 0) else if 9999 < vlu w 0 then (4, 0) else (0, vlu w 0)
/-- The first error of so many. -/
def fer (f : Nat → Int) : Nat → Int
  | 0 => 0
  | n + 1 => if fer f n ≠ 0 then fer f n else f n
theorem fer_next {f : Nat → Int} {n : Nat} (h : fer f n = 0) : fer f (n + 1) = f n := by
  show (if fer f n ≠ 0 then fer f n else f n) = f n
  rw [if_neg (fun q => q h)]
theorem fer_stay {f : Nat → Int} {i : Nat} (h : fer f i ≠ 0) : ∀ n, i ≤ n → fer f n = fer f i
  | n, hn => by
    induction n with
    | zero => rw [show i = 0 by omega]
    | succ n ih =>
      by_cases e : i = n + 1
      · rw [e]
      · have := ih (by omega)
        show (if fer f n ≠ 0 then fer f n else f n) = _
        rw [this, if_pos h]
end Go.Proofs.YtaliaikahohemaaDoor

/- Words of signs as texts: what reading a number comes to. -/
namespace Go.Proofs.YtaliaikahohemaaDoor

/-- A text's sign. -/
def bts (s : ByteArray) (i : Nat) : Nat := (s.data.toList.getD i 0).toNat
theorem bts_at (s : ByteArray) (i : Nat) (h : i < s.size) : (s[i]'h).toNat = bts s i := by
  unfold bts
  have h' : i < s.data.size := h
  show ((s.data)[i]'h').toNat = _
  rw [List.getD_eq_getElem?_getD, Array.getElem?_toList, Array.getElem?_eq_getElem h']
  rfl
theorem bts_lt (s : ByteArray) (i : Nat) : bts s i < 256 := UInt8.toNat_lt _
theorem siz_len (s : ByteArray) : s.data.toList.length = s.size := Array.length_toList
/-- What reading a text's first signs comes to. -/
def bvl (s : ByteArray) (t : Nat) : Nat := vlu (s.data.toList.take t) 0
theorem bvl_next {s : ByteArray} {t : Nat} (h : t < s.size) : bvl s (t + 1) = bvl s t * 10 + (bts s t - 48) := by
  unfold bvl bts
  have h' : t < s.data.toList.length := by rw [siz_len]; exact h
  rw [List.take_succ_eq_append_getElem h', vlu_snoc, List.getD_eq_getElem?_getD, List.getElem?_eq_getElem h']
  rfl
theorem bvl_all (s : ByteArray) : bvl s s.size = vlu s.data.toList 0 := by
  unfold bvl
  rw [List.take_of_length_le (by rw [siz_len]; exact Nat.le_refl _)]
/-- What a text tells as a number: its error, its number. -/
def rnb (s : ByteArray) : Int × Nat := rnm s.data.toList
theorem rnb_none {s : ByteArray} (h : s.size = 0) : rnb s = (11, 0) := by
  unfold rnb rnm
  rw [if_pos (Or.inl (List.length_eq_zero_iff.1 (by rw [siz_len]; exact h)))]
theorem rnb_zero {s : ByteArray} (h1 : 1 < s.size) (h : bts s 0 = 48) : rnb s = (11, 0) := by
  unfold rnb rnm
  rw [if_pos]
  refine Or.inr (Or.inr ⟨by rw [siz_len]; exact h1, ?_⟩)
  have h' : 0 < s.data.toList.length := by rw [siz_len]; omega
  unfold bts at h
  rw [List.getD_eq_getElem?_getD, List.getElem?_eq_getElem h'] at h
  rw [List.head?_eq_getElem?, List.getElem?_eq_getElem h']
  exact congrArg some (UInt8.toNat_inj.1 h)
theorem rnb_bad {s : ByteArray} {t : Nat} (ht : t < s.size) (h : bts s t < 48 ∨ 57 < bts s t) : rnb s = (11, 0) := by
  unfold rnb rnm
  rw [if_pos]
  refine Or.inr (Or.inl ?_)
  have h' : t < s.data.toList.length := by rw [siz_len]; exact ht
  unfold bts at h
  rw [List.getD_eq_getElem?_getD, List.getElem?_eq_getElem h'] at h
  rw [List.all_eq_false]
  refine ⟨_, List.getElem_mem h', ?_⟩
  unfold isd
  intro e
  have := of_decide_eq_true e
  have h : (s.data.toList[t]'h').toNat < 48 ∨ 57 < (s.data.toList[t]'h').toNat := h
  omega
theorem rnb_good {s : ByteArray} (h0 : s.size ≠ 0) (h1 : ¬ (1 < s.size ∧ bts s 0 = 48)) (h : ∀ j, j < s.size → 48 ≤ bts s j ∧ bts s j ≤ 57) : rnb s = if 9999 < bvl s s.size then (4, 0) else (0, bvl s s.size) := by
  unfold rnb rnm
  rw [if_neg, bvl_all]
  rintro (e | e | ⟨e1, e2⟩)
  · exact h0 (by rw [← siz_len, e]; rfl)
  · rw [List.all_eq_false] at e
    obtain ⟨x, hx, e⟩ := e
    obtain ⟨j, hj, rfl⟩ := List.mem_iff_getElem.1 hx
    have := h j (by rw [← siz_len]; exact hj)
    unfold bts at this
    rw [List.getD_eq_getElem?_getD, List.getElem?_eq_getElem hj] at this
    have this : 48 ≤ (s.data.toList[j]'hj).toNat ∧ (s.data.toList[j]'hj).toNat ≤ 57 := this
    exact e (by unfold isd; exact decide_eq_true this)
  · refine h1 ⟨by rw [← siz_len]; exact e1, ?_⟩
    have h' : 0 < s.data.toList.length := by omega
    rw [List.head?_eq_getElem?, List.getElem?_eq_getElem h'] at e2
    unfold bts
    rw [List.getD_eq_getElem?_getD, List.getElem?_eq_getElem h']
    have e3 : s.data.toList[0]'h' = 48 := Option.some.inj e2
    show (s.data.toList[0]'h').toNat = 48
    rw [e3]; rfl
end Go.Proofs.YtaliaikahohemaaDoor

/- Codes that were read: what both sides say of rows of one shape, wherever they lie. -/
namespace Go.Proofs.YtaliaikahohemaaDoor
open Go.RowKit Go.Sort

theorem code_two (q n : Int) (m : Nat) (N : Nat → Nat) (Z : Nat → Nat → Int) (hm : m ≤ 1000000) :
    ∃ ea : Int, (∀ (ao : Option Addr) (A : Nat → Option Addr) (C : Nat → Nat) (ca : Nat) (wx : World), MatZ ao m A N C Z wx → Calls Tryd.prog 19 #[.agg #[.int .i64 q, .int .i64 n, .slice ao m ca]] wx fun e w' => e = .returned (.int .i64 ea) ∧ Below wx.heap.size wx w') ∧
      (∀ (ao : Option Addr) (A : Nat → Option Addr) (C : Nat → Nat) (ca : Nat) (wx : World), MatZ ao m A N C Z wx → Calls Tryd.prog 13 #[.agg #[.int .i64 q, .int .i64 n, .slice ao m ca]] wx fun e w' => e = .returned (.int .i64 ea) ∧ Below wx.heap.size wx w') ∧
      (ea = 0 → ∃ D ∈ fieldsL, q = (D.q : Int) ∧ ∃ n' : Nat, n = (n' : Int) ∧ ∀ (ao : Option Addr) (A : Nat → Option Addr) (C : Nat → Nat) (wx : World), MatZ ao m A N C Z wx → CdZ D ao m n' A N C Z wx) := by
  by_cases h : ∃ D ∈ fieldsL, (D.q : Int) = q
  · obtain ⟨D, hD, rfl⟩ := h
    refine ⟨D.cchk n m N Z, fun ao A C ca wx hA => ccheck_any hD n hA hm, fun ao A C ca wx hA => rcodeMay_any hD n hA hm, fun e => ⟨D, hD, rfl, n.toNat, ?_, fun ao A C wx hA => ⟨hA, ?_, ?_, ?_, ?_⟩⟩⟩
    all_goals
      unfold FD.cchk at e
      split at e
      · omega
      · split at e
        · first | contradiction | omega
        · split at e
          · omega
          · first | omega | (intro h0; have : ¬ (0 < m ∧ ((N 0 : Nat) : Int) ≠ n) := by assumption
                             have h1 : ((N 0 : Nat) : Int) = n := Classical.byContradiction (fun hc => this ⟨h0, hc⟩)
                             omega) | (have : ¬ (D.mchk m N Z ≠ 0) := by assumption
                                       exact Classical.byContradiction this)
  · have h' : ∀ D ∈ fieldsL, (D.q : Int) ≠ q := fun D hD e => h ⟨D, hD, e⟩
    exact ⟨1, fun ao _ _ ca wx _ => ccheck_none q h' n ao m ca wx, fun ao _ _ ca wx _ => rcodeMay_none q h' n ao m ca wx, fun e => by omega⟩
end Go.Proofs.YtaliaikahohemaaDoor
