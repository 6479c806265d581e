/- Texts of ours, one behind the other: Z9 Z10 Z11 Z12 Q1. -/
import Derived.Test.YtcgmllamiaflcaaZZ6
import Derived.Test.YtcgmllamiaflcaaZZ1
import Derived.Test.YtcgmllamiaflcaaZS4
import Derived.Test.YtcgmllamiaflcaaZV7
import Derived.Test.YtcgmllamiaflcaaZS2
/- All near messages: the program's Within. -/
namespace Go.Proofs.Ytcgmllamiaflcaa
open Go.RowKit Go.Sort

/-- Of the first a messages those whose words differ at r places at most. -/
def nrL (D : FD) (k1 n : Nat) (xs y : Nat → Nat) (r : Int) : Nat → List (Nat × (Nat → Nat))
  | 0 => []
  | a + 1 => nrL D k1 n xs y r a ++ if ((ct (fun i => !decide (D.ev (dgs D.q (k1 + 1) a) (xs i) (k1 + 1) = y i)) n : Nat) : Int) ≤ r then [(k1, dgs D.q (k1 + 1) a)] else []
theorem nrL_len {D : FD} {k1 n : Nat} {xs y : Nat → Nat} {r : Int} : ∀ a, (nrL D k1 n xs y r a).length ≤ a
  | 0 => Nat.le_refl _
  | a + 1 => by
    show (nrL D k1 n xs y r a ++ _).length ≤ a + 1
    have := nrL_len (D := D) (k1 := k1) (n := n) (xs := xs) (y := y) (r := r) a
    rw [List.length_append]
    split <;> simp <;> omega
theorem dgs_el {D : FD} (F : Fld D) (k a : Nat) : El D (dgs D.q k a) := fun j => by
  unfold dgs
  split
  · exact Nat.mod_lt _ (zero_lt' F)
  · exact zero_lt' F

set_option maxHeartbeats 8000000 in
set_option maxRecDepth 100000 in
theorem lwithin_any {D : FD} (hD : D ∈ fieldsL) {xo yo : Option Addr} {n cx cy k k1 N : Nat} {xs y : Nat → Nat} (r : Int) {w : World} (hk1 : k = k1 + 1) (hN : N = D.q ^ k) (hN2 : N ≤ 4096) (hn1 : 1 ≤ n) (hn : n ≤ 64) (hcn : n ≤ cx) (hx : ∀ i, i < n → xs i < D.q) (hne : ∀ i j, i < n → j < n → i ≠ j → xs i ≠ xs j) (hX : Sl xo n xs w) (hlx : LtB xo w.heap.size) (hk : k ≤ n) (hY : Sl yo n y w) (hly : LtB yo w.heap.size)
    (hCk : Calls Try.prog 42 #[.int .i64 D.q, .slice xo n cx, .int .i64 (k : Nat), .slice yo n cy] w fun e w' => e = .returned (.int .i64 0) ∧ Below w.heap.size w w') :
    Calls Try.prog 23 #[.int .i64 D.q, .slice xo n cx, .int .i64 (k : Nat), .slice yo n cy, .int .i64 r] w fun e w' => ∃ v, e = .returned (.tuple #[v, .int .i64 0]) ∧ LLs w.heap.size v (nrL D k1 n xs y r N) w' ∧ Below w.heap.size w w' := by
  have h2q := (fld hD).q2
  have h64 := (fld hD).q64
  have HF : Hid (D ∈ fieldsL ∧ (∀ i, i < n → xs i < D.q) ∧ (∀ i j, i < n → j < n → i ≠ j → xs i ≠ xs j) ∧ Sl xo n xs w ∧ LtB xo w.heap.size ∧ Sl yo n y w ∧ LtB yo w.heap.size ∧ k = k1 + 1) := ⟨hD, hx, hne, hX, hlx, hY, hly, hk1⟩
  have HCk : Hid (Calls Try.prog 42 #[.int .i64 D.q, .slice xo n cx, .int .i64 (k : Nat), .slice yo n cy] w fun e w' => e = .returned (.int .i64 0) ∧ Below w.heap.size w w') := hCk
  have HMs : Hid (∀ wx, Calls Try.prog 43 #[.int .i64 D.q, .int .i64 k] wx fun e w' => w' = wx ∧ e = .returned (.tuple #[.int .i64 (N : Nat), .int .i64 0])) := fun wx => by
    refine (messages_any hN h2q h64 (by omega) wx).mono ?_
    rintro e w' ⟨h1, ⟨_, h2⟩ | ⟨h3, _⟩⟩
    · exact ⟨h1, h2⟩
    · omega
  have hk0 : 1 ≤ k := by omega
  clear hD hx hne hX hlx hY hly hCk hN hk1
  go_enter Try.func23, Try.ntmps23
  go_wp2_with fail
  refine HCk.out.mono ?_
  rintro e w1 ⟨rfl, hb1⟩
  have H1 : Hid (Below w.heap.size w w1) := hb1
  clear hb1
  go_wp2_with fail
  refine (HMs.out w1).mono ?_
  rintro e w' ⟨hw, rfl⟩
  have hw := hw.symm
  subst hw
  go_wp2_with fail
  go_loopw [15, 38] (fun vo vi wr => ∃ a : Nat, a ≤ N ∧ vi = .int .i64 a ∧ Hid (LLs w.heap.size vo (nrL D k1 n xs y r a) wr ∧ Below w.heap.size w wr)) (fun _ vi _ => N - (intOf vi).toNat)
  case atStart => exact ⟨0, by omega, rfl, ⟨[], OwnV.nil _ _, Elms.nil _⟩, H1.out⟩
  case round =>
    obtain ⟨a, haN, rfl, HG⟩ := hrel
    rename World => wA
    by_cases hlt : a < N
    · have hib : (a : Int) < (N : Int) := by omega
      go_wp2_with fail
      refine (ldigits_any h2q h64 (by omega) (by omega) wA).mono ?_
      rintro e w2 ⟨rfl, hrow2, hb2⟩
      obtain ⟨g, hg⟩ : ∃ g, g = wA.heap.size := ⟨_, rfl⟩
      have H2 : Hid (Row g k (dgs D.q k a) w2 ∧ Below wA.heap.size wA w2 ∧ Below w.heap.size w w2) := ⟨by rw [hg]; exact hrow2, hb2, bel_up' HG.out.2 hb2⟩
      rw [← hg]
      clear hrow2 hb2 hg
      go_wp2_with fail
      refine (encode_ok HF.out.1 hn1 hn hcn HF.out.2.1 HF.out.2.2.1 (HF.out.2.2.2.1.below H2.out.2.2 HF.out.2.2.2.2.1) (HF.out.2.2.2.2.1.mono H2.out.2.2.size) hk0 hk (dgs_el (fld HF.out.1) k a) (H2.out.1.sl (Nat.le_refl _)) (fun p hp => by cases hp; exact H2.out.1.lt)).mono ?_
      rintro e w3 ⟨g3, rfl, hrow3, hb3⟩
      have H3 : Hid (Row g3 n (fun i => D.ev (dgs D.q k a) (xs i) k) w3 ∧ Row g k (dgs D.q k a) w3 ∧ Below wA.heap.size wA w3 ∧ Below w.heap.size w w3) := ⟨hrow3, H2.out.1.below hb3 H2.out.1.lt, bel_up' H2.out.2.1 hb3, bel_up' H2.out.2.2 hb3⟩
      clear hrow3 hb3
      obtain ⟨ap, hap⟩ : ∃ ap, ap = ct (fun i => !decide (D.ev (dgs D.q k a) (xs i) k = y i)) n := ⟨_, rfl⟩
      have HAp : Hid (Calls Try.prog 16 #[.slice (some ⟨g3, 0, none⟩) n n, .slice yo n cy] w3 fun e w' => e = .returned (.int .i64 (ap : Nat)) ∧ w' = w3) := by
        rw [hap]
        exact apart_any (H3.out.1.sl (Nat.le_refl _)) (HF.out.2.2.2.2.2.1.below H3.out.2.2.2 HF.out.2.2.2.2.2.2.1) (by omega)
      have HNx : Hid (nrL D k1 n xs y r (a + 1) = nrL D k1 n xs y r a ++ if (ap : Int) ≤ r then [(k1, dgs D.q k a)] else []) := by
        show nrL D k1 n xs y r a ++ _ = _
        rw [hap, HF.out.2.2.2.2.2.2.2]
      clear hap
      go_wp2_with fail
      refine HAp.out.mono ?_
      rintro e w' ⟨rfl, hw⟩
      have hw := hw.symm
      subst hw
      obtain ⟨lst, hov, hels⟩ := HG.out.1
      have hll : lst.length ≤ 1000000 := by rw [hels.1]; have := nrL_len (D := D) (k1 := k1) (n := n) (xs := xs) (y := y) (r := r) a; omega
      have HV : Hid (OwnV w.heap.size u15 lst w3 ∧ Elms lst (nrL D k1 n xs y r a) w3 ∧ Elm (.slice (some ⟨g, 0, none⟩) k k) (k1, dgs D.q k a) w3) := by
        refine ⟨hov.below H3.out.2.2.1 (Nat.le_refl _), hels.below H3.out.2.2.1 (Nat.le_refl _), ⟨g, k, by rw [HF.out.2.2.2.2.2.2.2], by rw [HF.out.2.2.2.2.2.2.2]; exact Nat.le_refl _, by omega, ?_⟩⟩
        show Row g (k1 + 1) _ w3
        rw [← HF.out.2.2.2.2.2.2.2]; exact H3.out.2.1
      have hs3 := H3.out.2.2.2.size
      clear hov hels
      by_cases hle : (ap : Int) ≤ r
      · have HN2 : Hid (nrL D k1 n xs y r (a + 1) = nrL D k1 n xs y r a ++ [(k1, dgs D.q k a)]) := by show _ = _; rw [HNx.out, if_pos hle]
        go_wp2_with (at_builtin; refine append_sl rfl _ _ rfl w.heap.size u15 lst rfl (HV.out.1.below ((Below.refl _ _).alloc (Nat.le_refl _) _) (Nat.le_refl _)) ⟨w3.heap.size, 0, none⟩ 1 (.slice (some ⟨g, 0, none⟩) k k) rfl rfl (by rw [cell_of_row _ _ _ _ _ (0, 0) (two_new _)]; rfl) hll (by simp; omega) ?_; intro v' w6 hown6 hg6)
        have hal : Below w3.heap.size w3 (w3.alloc (.cells #[.slice (some ⟨g, 0, none⟩) k k] 22)) := (Below.refl _ _).alloc (Nat.le_refl _) _
        have ho := HV.out.1.below hal (Nat.le_refl _)
        have HR : Hid (LLs w.heap.size v' (nrL D k1 n xs y r (a + 1)) w6 ∧ Below w.heap.size w w6) := by
          refine ⟨⟨_, hown6, ?_⟩, (bel_up' H3.out.2.2.2 hal).grown hg6 (by simp; omega) (fun q hq => ho.open_ge q hq)⟩
          have h := ((HV.out.2.1.below hal (Nat.le_refl _)).snoc (HV.out.2.2.below hal (Nat.le_refl _))).grown ho hg6
          rw [HN2.out]
          exact h
        clear hown6 hg6 ho hal
        go_roundw
        case rel => exact ⟨a + 1, by omega, by go_num, HR.out⟩
        case measure => simp [intOf]; omega
      · have HR : Hid (LLs w.heap.size u15 (nrL D k1 n xs y r (a + 1)) w3 ∧ Below w.heap.size w w3) := by
          refine ⟨⟨lst, HV.out.1, ?_⟩, H3.out.2.2.2⟩
          rw [HNx.out, if_neg hle, List.append_nil]
          exact HV.out.2.1
        go_wp2
        go_roundw
        case rel => exact ⟨a + 1, by omega, by go_num, HR.out⟩
        case measure => simp [intOf]; omega
    · have hib : ¬ (a : Int) < (N : Int) := by omega
      have hae : N = a := by omega
      subst hae
      go_wp2
      go_ret2
      exact ⟨_, rfl, HG.out.1, HG.out.2⟩
end Go.Proofs.Ytcgmllamiaflcaa

/- All near messages: the reference's Near. -/
namespace Go.Proofs.Ytcgmllamiaflcaa
open Go.RowKit Go.Sort

end Go.Proofs.Ytcgmllamiaflcaa

/- All near messages: the walk of the reference's Near. -/
namespace Go.Proofs.Ytcgmllamiaflcaa
open Go.RowKit Go.Sort

end Go.Proofs.Ytcgmllamiaflcaa

/- What it says that places, a dimension and a whole word may be; the calls that say no. -/
namespace Go.Proofs.Ytcgmllamiaflcaa
open Go.RowKit Go.Sort

end Go.Proofs.Ytcgmllamiaflcaa

/- Sudan's products in their order, and how a list of numbers is parted by them: plain mathematics. -/
namespace Go.Proofs.Ytcgmllamiaflcaa
open Go.RowKit

/-- The products of the first j rows: powers of x and of y, with i + j K below t; 64 at most. -/
def pro (K t : Nat) : Nat → List (Nat × Nat)
  | 0 => []
  | j + 1 => pro K t j ++ (List.range (min (t - j * K) (64 - (pro K t j).length))).map fun i => (i, j)
theorem pro_len (K t : Nat) : ∀ j, (pro K t j).length ≤ 64
  | 0 => Nat.zero_le _
  | j + 1 => by
    have := pro_len K t j
    show (pro K t j ++ _).length ≤ 64
    rw [List.length_append, List.length_map, List.length_range]
    omega
theorem pro_same {K t j : Nat} (h : t ≤ j * K) : pro K t (j + 1) = pro K t j := by
  show pro K t j ++ _ = _
  have e : min (t - j * K) (64 - (pro K t j).length) = 0 := by omega
  rw [e]
  simp
theorem pro_stay {K t j : Nat} (h : t ≤ j * K) : ∀ d, pro K t (j + d) = pro K t j
  | 0 => rfl
  | d + 1 => by
    have h2 : t ≤ (j + d) * K := Nat.le_trans h (Nat.mul_le_mul_right K (Nat.le_add_right j d))
    show pro K t (j + d + 1) = _
    rw [pro_same h2]
    exact pro_stay h d
/-- All of them. -/
def prs (K t : Nat) : List (Nat × Nat) := pro K t t
theorem prs_of {K t j : Nat} (hK : 1 ≤ K) (h : t ≤ j * K) : pro K t j = prs K t := by
  unfold prs
  by_cases e : j ≤ t
  · rw [show t = j + (t - j) from by omega, ← show t = j + (t - j) from by omega]
    have := pro_stay h (t - j)
    rw [show j + (t - j) = t from by omega] at this
    exact this.symm
  · have h2 : t ≤ t * K := Nat.le_mul_of_pos_right t hK
    have := pro_stay h2 (j - t)
    rw [show t + (j - t) = j from by omega] at this
    exact this
theorem prs_len (K t : Nat) : (prs K t).length ≤ 64 := pro_len K t t
theorem pro_mem {K t : Nat} : ∀ j, ∀ x, x ∈ pro K t j → x.1 < t ∧ x.2 < j
  | 0, x, h => by simp [pro] at h
  | j + 1, x, h => by
    have h : x ∈ pro K t j ++ (List.range (min (t - j * K) (64 - (pro K t j).length))).map fun i => (i, j) := h
    rcases List.mem_append.1 h with h | h
    · have := pro_mem j x h; omega
    · obtain ⟨i, hi, rfl⟩ := List.mem_map.1 h
      have := List.mem_range.1 hi
      show i < t ∧ j < j + 1
      omega
/-- The power of x, of y, in the a-th product of a list. -/
def pxf (l : List (Nat × Nat)) (a : Nat) : Nat := (l.getD a (0, 0)).1
def pyf (l : List (Nat × Nat)) (a : Nat) : Nat := (l.getD a (0, 0)).2
theorem getD_mem {l : List (Nat × Nat)} {a : Nat} (h : a < l.length) : l.getD a (0, 0) ∈ l := by
  rw [List.getD_eq_getElem?_getD, List.getElem?_eq_getElem h]
  exact List.getElem_mem h
theorem pxf_lt {K t a : Nat} (h : a < (prs K t).length) : pxf (prs K t) a < t := (pro_mem t _ (getD_mem h)).1
theorem pyf_lt {K t a : Nat} (h : a < (prs K t).length) : pyf (prs K t) a < t := (pro_mem t _ (getD_mem h)).2
theorem prs_pos {K t : Nat} (ht : 1 ≤ t) : 0 < (prs K t).length := by
  have h1 : 0 < (pro K t 1).length := by
    show 0 < (pro K t 0 ++ _).length
    rw [List.length_append, List.length_map, List.length_range]
    show 0 < 0 + min (t - 0 * K) (64 - 0)
    omega
  have h2 : ∀ d, (pro K t 1).length ≤ (pro K t (1 + d)).length := by
    intro d
    induction d with
    | zero => exact Nat.le_refl _
    | succ d ih =>
      refine Nat.le_trans ih ?_
      show _ ≤ (pro K t (1 + d) ++ _).length
      rw [List.length_append]
      exact Nat.le_add_right _ _
  have := h2 (t - 1)
  rw [show 1 + (t - 1) = t from by omega] at this
  exact Nat.lt_of_lt_of_le h1 this

/-- How many lists there are when a numbers have been laid by their powers. -/
def gn (p : Nat → Nat) : Nat → Nat
  | 0 => 0
  | a + 1 => if p a = gn p a then gn p a + 1 else gn p a
theorem gn_congr {p p' : Nat → Nat} : ∀ n, (∀ a, a < n → p a = p' a) → gn p n = gn p' n
  | 0, _ => rfl
  | n + 1, h => by
    show (if _ then _ else _) = if _ then _ else _
    rw [h n (by omega), gn_congr n (fun a ha => h a (by omega))]
theorem gn_le (p : Nat → Nat) : ∀ a, gn p a ≤ a
  | 0 => Nat.le_refl _
  | a + 1 => by
    have := gn_le p a
    show (if p a = gn p a then gn p a + 1 else gn p a) ≤ a + 1
    split <;> omega
theorem pyf_app {l m : List (Nat × Nat)} {a : Nat} (h : a < l.length) : pyf (l ++ m) a = pyf l a := by
  unfold pyf
  rw [List.getD_eq_getElem?_getD, List.getD_eq_getElem?_getD, List.getElem?_append_left h]
theorem pyf_row {l : List (Nat × Nat)} {m j i : Nat} (h : i < m) : pyf (l ++ (List.range m).map fun i => (i, j)) (l.length + i) = j := by
  unfold pyf
  rw [List.getD_eq_getElem?_getD, List.getElem?_append_right (by omega), Nat.add_sub_cancel_left, List.getElem?_map, List.getElem?_range h]
  rfl
/-- Each power of y is at most the number of lists. -/
theorem pro_gn {K t : Nat} : ∀ j, (∀ a, a < (pro K t j).length → pyf (pro K t j) a ≤ gn (pyf (pro K t j)) a) ∧ ((pro K t j).length = 64 ∨ t ≤ j * K ∨ gn (pyf (pro K t j)) (pro K t j).length = j)
  | 0 => ⟨fun a h => absurd h (by simp [pro]), Or.inr (Or.inr rfl)⟩
  | j + 1 => by
    obtain ⟨h1, h2⟩ := pro_gn (K := K) (t := t) j
    by_cases hs : (pro K t j).length = 64 ∨ t ≤ j * K
    · have e : pro K t (j + 1) = pro K t j := by
        show pro K t j ++ _ = _
        have e : min (t - j * K) (64 - (pro K t j).length) = 0 := by omega
        rw [e]
        simp
      rw [e]
      refine ⟨h1, ?_⟩
      rcases hs with hs | hs
      · exact Or.inl hs
      · exact Or.inr (Or.inl (Nat.le_trans hs (Nat.mul_le_mul_right K (Nat.le_succ j))))
    · have hg : gn (pyf (pro K t j)) (pro K t j).length = j := by
        rcases h2 with h2 | h2 | h2
        · exact absurd (Or.inl h2) hs
        · exact absurd (Or.inr h2) hs
        · exact h2
      obtain ⟨m, hm⟩ : ∃ m, m = min (t - j * K) (64 - (pro K t j).length) := ⟨_, rfl⟩
      have hl := pro_len K t j
      have hm1 : 1 ≤ m := by rw [hm]; omega
      have e : pro K t (j + 1) = pro K t j ++ (List.range m).map fun i => (i, j) := by rw [hm]; rfl
      obtain ⟨l, hlp⟩ : ∃ l, l = pro K t j := ⟨_, rfl⟩
      rw [e]
      rw [← hlp] at h1 hg ⊢
      have hc : ∀ a, a ≤ l.length → gn (pyf (l ++ (List.range m).map fun i => (i, j))) a = gn (pyf l) a := fun a ha => gn_congr a (fun b hb => pyf_app (by omega))
      have hr : ∀ i, i < m → gn (pyf (l ++ (List.range m).map fun i => (i, j))) (l.length + i + 1) = j + 1 := by
        intro i
        induction i with
        | zero =>
          intro hi
          have h0 := pyf_row (l := l) (j := j) hi
          rw [Nat.add_zero] at h0
          show (if _ then _ else _) = _
          rw [h0, hc l.length (Nat.le_refl _), hg, if_pos rfl]
        | succ i ih =>
          intro hi
          show (if _ then _ else _) = _
          rw [pyf_row hi, show l.length + (i + 1) = l.length + i + 1 from rfl, ih (by omega), if_neg (by omega)]
      refine ⟨fun a ha => ?_, Or.inr (Or.inr ?_)⟩
      · by_cases hal : a < l.length
        · rw [pyf_app hal, hc a (by omega)]; exact h1 a hal
        · rw [List.length_append, List.length_map, List.length_range] at ha
          obtain ⟨i, rfl⟩ : ∃ i, a = l.length + i := ⟨a - l.length, by omega⟩
          rw [pyf_row (by omega)]
          cases i with
          | zero => rw [show l.length + 0 = l.length from rfl, hc l.length (Nat.le_refl _), hg]; exact Nat.le_refl _
          | succ i =>
            rw [show l.length + (i + 1) = l.length + i + 1 from rfl, hr i (by omega)]
            omega
      · rw [List.length_append, List.length_map, List.length_range]
        have := hr (m - 1) (by omega)
        rw [show l.length + (m - 1) + 1 = l.length + m from by omega] at this
        exact this
theorem prs_gn {K t a : Nat} (h : a < (prs K t).length) : pyf (prs K t) a ≤ gn (pyf (prs K t)) a := (pro_gn t).1 a h

/-- The lists when a numbers have been laid. -/
def gz (p : Nat → Nat) (s : Nat → Nat) : Nat → Nat → List Int
  | 0 => fun _ => []
  | a + 1 => fun j => if j = p a then gz p s a j ++ [((s a : Nat) : Int)] else gz p s a j
theorem gz_none {p s : Nat → Nat} : ∀ {a j : Nat}, (∀ b, b < a → p b ≤ gn p b) → gn p a ≤ j → gz p s a j = []
  | 0, _, _, _ => rfl
  | a + 1, j, h, hj => by
    have hj : (if p a = gn p a then gn p a + 1 else gn p a) ≤ j := hj
    have h1 := h a (by omega)
    show (if _ then _ else _) = _
    rw [if_neg (by split at hj <;> omega)]
    exact gz_none (fun b hb => h b (by omega)) (by split at hj <;> omega)
theorem gz_some {p s : Nat → Nat} : ∀ {a j : Nat}, (∀ b, b < a → p b ≤ gn p b) → j < gn p a → 0 < (gz p s a j).length
  | 0, _, _, hj => absurd hj (by simp [gn])
  | a + 1, j, h, hj => by
    have hj : j < (if p a = gn p a then gn p a + 1 else gn p a) := hj
    show 0 < (if _ then _ else _ : List Int).length
    by_cases e : j = p a
    · rw [if_pos e, List.length_append]
      exact Nat.lt_of_lt_of_le Nat.zero_lt_one (Nat.le_add_left _ _)
    · rw [if_neg e]
      exact gz_some (fun b hb => h b (by omega)) (by split at hj <;> omega)
theorem gz_len (p s : Nat → Nat) : ∀ a j, (gz p s a j).length ≤ a
  | 0, _ => Nat.le_refl _
  | a + 1, j => by
    have := gz_len p s a j
    show (if _ then _ else _ : List Int).length ≤ _
    split
    · rw [List.length_append]
      show _ + 1 ≤ _
      omega
    · omega
theorem gz_nat (p s : Nat → Nat) : ∀ a j (x : Int), x ∈ gz p s a j → 0 ≤ x
  | 0, _, x, h => by simp [gz] at h
  | a + 1, j, x, h => by
    have h : x ∈ (if j = p a then gz p s a j ++ [((s a : Nat) : Int)] else gz p s a j) := h
    split at h
    · rcases List.mem_append.1 h with h | h
      · exact gz_nat p s a j x h
      · rw [List.mem_singleton.1 h]; omega
    · exact gz_nat p s a j x h
/-- The lists, each by its greatest place and its numbers. -/
def gL (p s : Nat → Nat) (a : Nat) : List (Nat × (Nat → Nat)) := (List.range (gn p a)).map fun j => ((gz p s a j).length - 1, fun i => ((gz p s a j).getD i 0).toNat)
theorem gL_len (p s : Nat → Nat) (a : Nat) : (gL p s a).length = gn p a := by simp [gL]
theorem gL_small {p s : Nat → Nat} {a : Nat} : ∀ x ∈ gL p s a, x.1 + 1 ≤ a + 1 := by
  intro x hx
  obtain ⟨j, _, rfl⟩ := List.mem_map.1 hx
  have := gz_len p s a j
  show (gz p s a j).length - 1 + 1 ≤ a + 1
  omega
end Go.Proofs.Ytcgmllamiaflcaa
