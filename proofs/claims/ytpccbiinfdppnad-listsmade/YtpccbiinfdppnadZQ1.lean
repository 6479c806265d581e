/- Texts of ours, one behind the other: Q1 Q2 W11 Q3. -/
import Derived.Test.YtpccbiinfdppnadZU22
import Derived.Test.YtpccbiinfdppnadZY2
import Derived.Test.YtpccbiinfdppnadZT2
import Derived.Test.YtpccbiinfdppnadZY5
import Derived.Deep.RegionHeld3
import Derived.WalkKit
/- Sudan's products in their order, and how a list of numbers is parted by them: plain mathematics. -/
namespace Go.Proofs.Ytpccbiinfdppnad
open Go.RowKit

/-- The products of the first j rows: powers of x and of y, with i + j K below t; 64 at most. -/
def pro (K t : Nat) : Nat → List (Nat × Nat)
  | 0 => []
  | j + 1 => pro K t j ++ (List.range (min (t - j * K) (64 - (pro K t j).length))).map fun i => (i, j)
theorem pro_len (K t : Nat) : ∀ j, (pro K t j).length ≤ 64
  | 0 => Nat.zero_le _
  | j + 1 => by
    have := pro_len K t j
    show (pro K t j ++ _).length ≤ 64
    rw [List.length_append, List.length_map, List.length_range]
    omega
theorem pro_same {K t j : Nat} (h : t ≤ j * K) : pro K t (j + 1) = pro K t j := by
  show pro K t j ++ _ = _
  have e : min (t - j * K) (64 - (pro K t j).length) = 0 := by omega
  rw [e]
  simp
theorem pro_stay {K t j : Nat} (h : t ≤ j * K) : ∀ d, pro K t (j + d) = pro K t j
  | 0 => rfl
  | d + 1 => by
    have h2 : t ≤ (j + d) * K := Nat.le_trans h (Nat.mul_le_mul_right K (Nat.le_add_right j d))
    show pro K t (j + d + 1) = _
    rw [pro_same h2]
    exact pro_stay h d
/-- All of them. -/
def prs (K t : Nat) : List (Nat × Nat) := pro K t t
theorem prs_of {K t j : Nat} (hK : 1 ≤ K) (h : t ≤ j * K) : pro K t j = prs K t := by
  unfold prs
  by_cases e : j ≤ t
  · rw [show t = j + (t - j) from by omega, ← show t = j + (t - j) from by omega]
    have := pro_stay h (t - j)
    rw [show j + (t - j) = t from by omega] at this
    exact this.symm
  · have h2 : t ≤ t * K := Nat.le_mul_of_pos_right t hK
    have := pro_stay h2 (j - t)
    rw [show t + (j - t) = j from by omega] at this
    exact this
theorem prs_len (K t : Nat) : (prs K t).length ≤ 64 := pro_len K t t
theorem pro_mem {K t : Nat} : ∀ j, ∀ x, x ∈ pro K t j → x.1 < t ∧ x.2 < j
  | 0, x, h => by simp [pro] at h
  | j + 1, x, h => by
    have h : x ∈ pro K t j ++ (List.range (min (t - j * K) (64 - (pro K t j).length))).map fun i => (i, j) := h
    rcases List.mem_append.1 h with h | h
    · have := pro_mem j x h; omega
    · obtain ⟨i, hi, rfl⟩ := List.mem_map.1 h
      have := List.mem_range.1 hi
      show i < t ∧ j < j + 1
      omega
/-- The power of x, of y, in the a-th product of a list. -/
def pxf (l : List (Nat × Nat)) (a : Nat) : Nat := (l.getD a (0, 0)).1
def pyf (l : List (Nat × Nat)) (a : Nat) : Nat := (l.getD a (0, 0)).2
theorem getD_mem {l : List (Nat × Nat)} {a : Nat} (h : a < l.length) : l.getD a (0, 0) ∈ l := by
  rw [List.getD_eq_getElem?_getD, List.getElem?_eq_getElem h]
  exact List.getElem_mem h
theorem pxf_lt {K t a : Nat} (h : a < (prs K t).length) : pxf (prs K t) a < t := (pro_mem t _ (getD_mem h)).1
theorem pyf_lt {K t a : Nat} (h : a < (prs K t).length) : pyf (prs K t) a < t := (pro_mem t _ (getD_mem h)).2
theorem prs_pos {K t : Nat} (ht : 1 ≤ t) : 0 < (prs K t).length := by
  have h1 : 0 < (pro K t 1).length := by
    show 0 < (pro K t 0 ++ _).length
    rw [List.length_append, List.length_map, List.length_range]
    show 0 < 0 + min (t - 0 * K) (64 - 0)
    omega
  have h2 : ∀ d, (pro K t 1).length ≤ (pro K t (1 + d)).length := by
    intro d
    induction d with
    | zero => exact Nat.le_refl _
    | succ d ih =>
      refine Nat.le_trans ih ?_
      show _ ≤ (pro K t (1 + d) ++ _).length
      rw [List.length_append]
      exact Nat.le_add_right _ _
  have := h2 (t - 1)
  rw [show 1 + (t - 1) = t from by omega] at this
  exact Nat.lt_of_lt_of_le h1 this

/-- How many lists there are when a numbers have been laid by their powers. -/
def gn (p : Nat → Nat) : Nat → Nat
  | 0 => 0
  | a + 1 => if p a = gn p a then gn p a + 1 else gn p a
theorem gn_congr {p p' : Nat → Nat} : ∀ n, (∀ a, a < n → p a = p' a) → gn p n = gn p' n
  | 0, _ => rfl
  | n + 1, h => by
    show (if _ then _ else _) = if _ then _ else _
    rw [h n (by omega), gn_congr n (fun a ha => h a (by omega))]
theorem gn_le (p : Nat → Nat) : ∀ a, gn p a ≤ a
  | 0 => Nat.le_refl _
  | a + 1 => by
    have := gn_le p a
    show (if p a = gn p a then gn p a + 1 else gn p a) ≤ a + 1
    split <;> omega
theorem pyf_app {l m : List (Nat × Nat)} {a : Nat} (h : a < l.length) : pyf (l ++ m) a = pyf l a := by
  unfold pyf
  rw [List.getD_eq_getElem?_getD, List.getD_eq_getElem?_getD, List.getElem?_append_left h]
theorem pyf_row {l : List (Nat × Nat)} {m j i : Nat} (h : i < m) : pyf (l ++ (List.range m).map fun i => (i, j)) (l.length + i) = j := by
  unfold pyf
  rw [List.getD_eq_getElem?_getD, List.getElem?_append_right (by omega), Nat.add_sub_cancel_left, List.getElem?_map, List.getElem?_range h]
  rfl
/-- Each power of y is at most the number of lists. -/
theorem pro_gn {K t : Nat} : ∀ j, (∀ a, a < (pro K t j).length → pyf (pro K t j) a ≤ gn (pyf (pro K t j)) a) ∧ ((pro K t j).length = 64 ∨ t ≤ j * K ∨ gn (pyf (pro K t j)) (pro K t j).length = j)
  | 0 => ⟨fun a h => absurd h (by simp [pro]), Or.inr (Or.inr rfl)⟩
  | j + 1 => by
    obtain ⟨h1, h2⟩ := pro_gn (K := K) (t := t) j
    by_cases hs : (pro K t j).length = 64 ∨ t ≤ j * K
    · have e : pro K t (j + 1) = pro K t j := by
        show pro K t j ++ _ = _
        have e : min (t - j * K) (64 - (pro K t j).length) = 0 := by omega
        rw [e]
        simp
      rw [e]
      refine ⟨h1, ?_⟩
      rcases hs with hs | hs
      · exact Or.inl hs
      · exact Or.inr (Or.inl (Nat.le_trans hs (Nat.mul_le_mul_right K (Nat.le_succ j))))
    · have hg : gn (pyf (pro K t j)) (pro K t j).length = j := by
        rcases h2 with h2 | h2 | h2
        · exact absurd (Or.inl h2) hs
        · exact absurd (Or.inr h2) hs
        · exact h2
      obtain ⟨m, hm⟩ : ∃ m, m = min (t - j * K) (64 - (pro K t j).length) := ⟨_, rfl⟩
      have hl := pro_len K t j
      have hm1 : 1 ≤ m := by rw [hm]; omega
      have e : pro K t (j + 1) = pro K t j ++ (List.range m).map fun i => (i, j) := by rw [hm]; rfl
      obtain ⟨l, hlp⟩ : ∃ l, l = pro K t j := ⟨_, rfl⟩
      rw [e]
      rw [← hlp] at h1 hg ⊢
      have hc : ∀ a, a ≤ l.length → gn (pyf (l ++ (List.range m).map fun i => (i, j))) a = gn (pyf l) a := fun a ha => gn_congr a (fun b hb => pyf_app (by omega))
      have hr : ∀ i, i < m → gn (pyf (l ++ (List.range m).map fun i => (i, j))) (l.length + i + 1) = j + 1 := by
        intro i
        induction i with
        | zero =>
          intro hi
          have h0 := pyf_row (l := l) (j := j) hi
          rw [Nat.add_zero] at h0
          show (if _ then _ else _) = _
          rw [h0, hc l.length (Nat.le_refl _), hg, if_pos rfl]
        | succ i ih =>
          intro hi
          show (if _ then _ else _) = _
          rw [pyf_row hi, show l.length + (i + 1) = l.length + i + 1 from rfl, ih (by omega), if_neg (by omega)]
      refine ⟨fun a ha => ?_, Or.inr (Or.inr ?_)⟩
      · by_cases hal : a < l.length
        · rw [pyf_app hal, hc a (by omega)]; exact h1 a hal
        · rw [List.length_append, List.length_map, List.length_range] at ha
          obtain ⟨i, rfl⟩ : ∃ i, a = l.length + i := ⟨a - l.length, by omega⟩
          rw [pyf_row (by omega)]
          cases i with
          | zero => rw [show l.length + 0 = l.length from rfl, hc l.length (Nat.le_refl _), hg]; exact Nat.le_refl _
          | succ i =>
            rw [show l.length + (i + 1) = l.length + i + 1 from rfl, hr i (by omega)]
            omega
      · rw [List.length_append, List.length_map, List.length_range]
        have := hr (m - 1) (by omega)
        rw [show l.length + (m - 1) + 1 = l.length + m from by omega] at this
        exact this
theorem prs_gn {K t a : Nat} (h : a < (prs K t).length) : pyf (prs K t) a ≤ gn (pyf (prs K t)) a := (pro_gn t).1 a h

/-- The lists when a numbers have been laid. -/
def gz (p : Nat → Nat) (s : Nat → Nat) : Nat → Nat → List Int
  | 0 => fun _ => []
  | a + 1 => fun j => if j = p a then gz p s a j ++ [((s a : Nat) : Int)] else gz p s a j
theorem gz_none {p s : Nat → Nat} : ∀ {a j : Nat}, (∀ b, b < a → p b ≤ gn p b) → gn p a ≤ j → gz p s a j = []
  | 0, _, _, _ => rfl
  | a + 1, j, h, hj => by
    have hj : (if p a = gn p a then gn p a + 1 else gn p a) ≤ j := hj
    have h1 := h a (by omega)
    show (if _ then _ else _) = _
    rw [if_neg (by split at hj <;> omega)]
    exact gz_none (fun b hb => h b (by omega)) (by split at hj <;> omega)
theorem gz_some {p s : Nat → Nat} : ∀ {a j : Nat}, (∀ b, b < a → p b ≤ gn p b) → j < gn p a → 0 < (gz p s a j).length
  | 0, _, _, hj => absurd hj (by simp [gn])
  | a + 1, j, h, hj => by
    have hj : j < (if p a = gn p a then gn p a + 1 else gn p a) := hj
    show 0 < (if _ then _ else _ : List Int).length
    by_cases e : j = p a
    · rw [if_pos e, List.length_append]
      exact Nat.lt_of_lt_of_le Nat.zero_lt_one (Nat.le_add_left _ _)
    · rw [if_neg e]
      exact gz_some (fun b hb => h b (by omega)) (by split at hj <;> omega)
theorem gz_len (p s : Nat → Nat) : ∀ a j, (gz p s a j).length ≤ a
  | 0, _ => Nat.le_refl _
  | a + 1, j => by
    have := gz_len p s a j
    show (if _ then _ else _ : List Int).length ≤ _
    split
    · rw [List.length_append]
      show _ + 1 ≤ _
      omega
    · omega
theorem gz_nat (p s : Nat → Nat) : ∀ a j (x : Int), x ∈ gz p s a j → 0 ≤ x
  | 0, _, x, h => by simp [gz] at h
  | a + 1, j, x, h => by
    have h : x ∈ (if j = p a then gz p s a j ++ [((s a : Nat) : Int)] else gz p s a j) := h
    split at h
    · rcases List.mem_append.1 h with h | h
      · exact gz_nat p s a j x h
      · rw [List.mem_singleton.1 h]; omega
    · exact gz_nat p s a j x h
/-- The lists, each by its greatest place and its numbers. -/
def gL (p s : Nat → Nat) (a : Nat) : List (Nat × (Nat → Nat)) := (List.range (gn p a)).map fun j => ((gz p s a j).length - 1, fun i => ((gz p s a j).getD i 0).toNat)
theorem gL_len (p s : Nat → Nat) (a : Nat) : (gL p s a).length = gn p a := by simp [gL]
theorem gL_small {p s : Nat → Nat} {a : Nat} : ∀ x ∈ gL p s a, x.1 + 1 ≤ a + 1 := by
  intro x hx
  obtain ⟨j, _, rfl⟩ := List.mem_map.1 hx
  have := gz_len p s a j
  show (gz p s a j).length - 1 + 1 ≤ a + 1
  omega
theorem gz_congr {p p' s s' : Nat → Nat} : ∀ {a : Nat}, (∀ b, b < a → p b = p' b ∧ s b = s' b) → ∀ j, gz p s a j = gz p' s' a j
  | 0, _, _ => rfl
  | a + 1, h, j => by
    show (if _ then _ else _) = if _ then _ else _
    rw [(h a (by omega)).1, (h a (by omega)).2, gz_congr (fun b hb => h b (by omega)) j]
theorem gL_congr {p p' s s' : Nat → Nat} {a : Nat} (h : ∀ b, b < a → p b = p' b ∧ s b = s' b) : gL p s a = gL p' s' a := by
  unfold gL
  rw [gn_congr a (fun b hb => (h b hb).1)]
  refine List.map_congr_left (fun j _ => ?_)
  rw [gz_congr h j]
end Go.Proofs.Ytpccbiinfdppnad

/- Lists of lists of the call's own that grow at any of their lists. -/
namespace Go.Proofs.Ytpccbiinfdppnad
open Go.RowKit Go.Sort

/-- The list of lists at ro, made behind block number base: n lists Z, each in a block of its own. -/
structure GrS (base n : Nat) (ro : Option Addr) (rc : Nat) (vs : Nat → Value) (Z : Nat → List Int) (w : World) : Prop where
  own : OwnV base (.slice ro n rc) (vl n vs) w
  row : ∀ j, j < n → OwnI base (vs j) (Z j) w
  inj : ∀ i j, i < n → j < n → i ≠ j → ∀ g, (vs i).ownBlock = some g → (vs j).ownBlock ≠ some g
theorem GrS.nil (base : Nat) (vs : Nat → Value) (Z : Nat → List Int) (w : World) : GrS base 0 none 0 vs Z w :=
  ⟨OwnV.nil _ _, fun j hj => absurd hj (by omega), fun i j hi => absurd hi (by omega)⟩
theorem GrS.below {base n : Nat} {ro : Option Addr} {rc : Nat} {vs : Nat → Value} {Z : Nat → List Int} {w w' : World} (h : GrS base n ro rc vs Z w) (hb : Below w.heap.size w w') : GrS base n ro rc vs Z w' :=
  ⟨h.own.below hb (Nat.le_refl _), fun j hj => (h.row j hj).below hb (fun k hk => ((h.row j hj).lt k hk).2), h.inj⟩
theorem GrS.congr {base n : Nat} {ro : Option Addr} {rc : Nat} {vs : Nat → Value} {Z Z' : Nat → List Int} {w : World} (h : GrS base n ro rc vs Z w) (e : ∀ j, j < n → Z j = Z' j) : GrS base n ro rc vs Z' w :=
  ⟨h.own, fun j hj => by rw [← e j hj]; exact h.row j hj, h.inj⟩
theorem GrS.cell {base n : Nat} {ro : Option Addr} {rc : Nat} {vs : Nat → Value} {Z : Nat → List Int} {w : World} (h : GrS base n ro rc vs Z w) (j : Nat) (hj : j < n) : ∃ g, ro = some ⟨g, 0, none⟩ ∧ w.cell? ⟨g, j, none⟩ = some (vs j) ∧ w.frozen? ⟨g, j, none⟩ = false ∧ base ≤ g ∧ g < w.heap.size := by
  obtain ⟨ro', rc', e, _, hlt, hge, hc⟩ := h.own.open
  rw [vl_len] at e
  cases e
  obtain ⟨g, e, h1, h2⟩ := hc j (vs j) (vl_get n vs j hj)
  exact ⟨g, e, h1, h2, hge _ e, hlt _ e⟩
/-- Cell j of a list of lists of the call's own is another one now. -/
theorem OwnV.set {base n rc g : Nat} {ro : Option Addr} {vs : Nat → Value} {w1 : World} (hown : OwnV base (.slice ro n rc) (vl n vs) w1) (hg : ro = some ⟨g, 0, none⟩) (j : Nat) (u : Value) : OwnV base (.slice ro n rc) (vl n fun i => if i = j then u else vs i) (w1.setCell ⟨g, j, none⟩ u) := by
  rcases hown.2 with ⟨h1, _⟩ | ⟨g', cap, cur, hv, hb, hh, hle, hcm, hsz, htake⟩
  · rw [hg] at h1; cases h1
  · rw [hg, vl_len] at hv
    cases hv
    have hlt := lt_of_block hh
    have h' : w1.heap[g] = .cells cur 22 (0, 0) := by simpa [Array.getElem?_eq_getElem hlt] using hh
    refine ⟨by rw [vl_len]; omega, Or.inr ⟨g, rc, cur.setIfInBounds j u, by rw [hg, vl_len], hb, ?_, by rw [vl_len]; rw [vl_len] at hle; exact hle, hcm, by rw [Array.size_setIfInBounds]; exact hsz, ?_⟩⟩
    · show (w1.heap.modify g _)[g]? = _
      rw [Array.getElem?_eq_getElem (by simpa using hlt), Array.getElem_modify_self, h']
      rfl
    · rw [vl_len] at htake ⊢
      apply List.ext_getElem?
      intro i
      have h3 : (cur.toList.take (n * 1))[i]? = (vl n vs)[i]? := by rw [htake]
      rw [List.getElem?_take] at h3 ⊢
      by_cases hi : i < n * 1
      · rw [if_pos hi] at h3 ⊢
        have hik : i < n := by omega
        rw [vl_get n vs i hik] at h3
        rw [vl_get n _ i hik, Array.getElem?_toList, Array.getElem?_setIfInBounds]
        rw [Array.getElem?_toList] at h3
        by_cases e : j = i
        · rw [if_pos e, if_pos (by have := (Array.getElem?_eq_some_iff.1 h3).1; omega), if_pos e.symm]
        · rw [if_neg e, if_neg (fun x => e x.symm)]; exact h3
      · rw [if_neg hi, List.getElem?_eq_none (by rw [vl_len]; omega)]
/-- One list more, an empty one. -/
theorem GrS.push {base n : Nat} {ro : Option Addr} {rc : Nat} {v' : Value} {vs : Nat → Value} {Z : Nat → List Int} {w w' : World} (h : GrS base n ro rc vs Z w) (ho : OwnV base v' (vl n vs ++ [.slice none 0 0]) w') (hg : w.grownBy w' (Value.slice ro n rc).ownBlock) (hZ : Z n = []) :
    ∃ ro' rc', v' = .slice ro' (n + 1) rc' ∧ GrS base (n + 1) ro' rc' (fun j => if j = n then .slice none 0 0 else vs j) Z w' := by
  obtain ⟨ro', rc', e, _⟩ := ho.open
  rw [List.length_append, vl_len] at e
  refine ⟨ro', rc', e, ?_, fun j hj => ?_, fun i j hi hj hij g hv => ?_⟩
  · have e2 : vl (n + 1) (fun j => if j = n then .slice none 0 0 else vs j) = vl n vs ++ [.slice none 0 0] := by
      unfold vl
      rw [List.range_succ, List.map_append]
      congr 1
      · exact List.map_congr_left (fun j hj => if_neg (by have := List.mem_range.1 hj; omega))
      · simp
    rw [e2]
    rw [e] at ho
    exact ho
  · show OwnI base (if j = n then .slice none 0 0 else vs j) (Z j) w'
    by_cases ej : j = n
    · rw [if_pos ej, ej, hZ]; exact OwnI.nil _ _
    · rw [if_neg ej]
      exact (h.row j (by omega)).kept hg ((h.row j (by omega)).apart h.own)
  · have hv : (if i = n then Value.slice none 0 0 else vs i).ownBlock = some g := hv
    show (if j = n then Value.slice none 0 0 else vs j).ownBlock ≠ some g
    by_cases ei : i = n
    · rw [if_pos ei] at hv; cases hv
    · rw [if_neg ei] at hv
      by_cases ej : j = n
      · rw [if_pos ej]; intro x; cases x
      · rw [if_neg ej]; exact h.inj i j (by omega) (by omega) hij g hv
/-- One number more in list j, which lies at u then. -/
theorem GrS.store {base n : Nat} {ro : Option Addr} {rc : Nat} {vs : Nat → Value} {Z : Nat → List Int} {w w1 : World} (h : GrS base n ro rc vs Z w) {g j : Nat} (hj : j < n) (hg : ro = some ⟨g, 0, none⟩) {u : Value} {x : Int} (hu : OwnI base u (Z j ++ [x]) w1) (hgr : w.grownBy w1 (vs j).ownBlock) (hat : u.ownBlock = (vs j).ownBlock ∨ u.ownBlock = some w.heap.size) :
    GrS base n ro rc (fun i => if i = j then u else vs i) (fun i => if i = j then Z i ++ [x] else Z i) (w1.setCell ⟨g, j, none⟩ u) := by
  have hown : OwnV base (.slice ro n rc) (vl n vs) w1 := h.own.grown hgr ((h.row j hj).apartV h.own)
  have hob : (Value.slice ro n rc).ownBlock = some g := by rw [hg]; rfl
  refine ⟨?_, fun i hi => ?_, fun a b ha hb hab k hv => ?_⟩
  · exact hown.set hg j u
  · show OwnI base (if i = j then u else vs i) (if i = j then Z i ++ [x] else Z i) _
    by_cases e : i = j
    · rw [if_pos e, if_pos e, e]; exact hu.setV hown hob
    · rw [if_neg e, if_neg e]
      refine OwnI.setV ((h.row i hi).kept hgr ?_) hown hob
      cases hv : (vs i).ownBlock with
      | none => exact Or.inl rfl
      | some k => exact Or.inr (fun x => h.inj i j hi hj e k hv x.symm)
  · have hv : (if a = j then u else vs a).ownBlock = some k := hv
    show (if b = j then u else vs b).ownBlock ≠ some k
    have hnew : ∀ c, c < n → (vs c).ownBlock ≠ some w.heap.size := fun c hc hx => by
      have := ((h.row c hc).lt _ hx).2
      omega
    by_cases ea : a = j
    · rw [if_pos ea] at hv
      rw [if_neg (fun x => hab (ea.trans x.symm))]
      rcases hat with hat | hat
      · rw [hat] at hv
        exact h.inj j b hj hb (fun x => hab (ea.trans x)) k hv
      · rw [hat] at hv
        cases hv
        exact hnew b hb
    · rw [if_neg ea] at hv
      by_cases eb : b = j
      · rw [if_pos eb]
        rcases hat with hat | hat
        · rw [hat]
          exact h.inj a j ha hj ea k hv
        · rw [hat]
          intro x
          cases x
          exact hnew a ha hv
      · rw [if_neg eb]
        exact h.inj a b ha hb hab k hv
/-- What they are when all numbers are laid. -/
theorem GrS.lls {base n : Nat} {ro : Option Addr} {rc : Nat} {vs : Nat → Value} {p s : Nat → Nat} {a : Nat} {w : World} (h : GrS base n ro rc vs (gz p s a) w) (hn : n = gn p a) (hp : ∀ b, b < a → p b ≤ gn p b) : LLs base (.slice ro n rc) (gL p s a) w := by
  refine ⟨vl n vs, h.own, by rw [vl_len, gL_len, hn], fun j v y hv hy => ?_⟩
  have hj : j < n := by have := (List.getElem?_eq_some_iff.1 hv).1; rwa [vl_len] at this
  rw [vl_get n vs j hj] at hv
  cases hv
  unfold gL at hy
  rw [List.getElem?_map, List.getElem?_range (by omega)] at hy
  cases hy
  have h0 := gz_some (s := s) hp (show j < gn p a by omega)
  have h1 := (h.row j hj).ownC (fun i => ((gz p s a j).getD i 0).toNat) (fun k hk => by
    have hm : (gz p s a j).getD k 0 ∈ gz p s a j := by
      rw [List.getD_eq_getElem?_getD, List.getElem?_eq_getElem hk]
      exact List.getElem_mem hk
    have := gz_nat p s a j _ hm
    omega)
  rw [show (gz p s a j).length = (gz p s a j).length - 1 + 1 from by omega] at h1
  exact h1.elm
end Go.Proofs.Ytpccbiinfdppnad

/- A region that draws its order and whose last operation, which waits for all others, writes what another one reads. No Go text here. -/
namespace Go.Proofs.Ytpccbiinfdppnad
open Go

/-- Whatever order is picked from here on; S holds behind every operation but number L. -/
def wpAnyX (P : Program) (ops : Array Oper) (Q : Exit → Act → World → Prop) (S : World → Prop) (L : Nat) : Nat → Array Bool → Act → World → Prop
  | 0, s, a, w => Region.ready .any ops s = [] ∧ Q .normal a w
  | f + 1, s, a, w => (Region.ready .any ops s = [] → Q .normal a w) ∧ ∀ i ∈ Region.ready .any ops s, wpOp P ops Q i (fun a' w' => (i ≠ L → S w') ∧ wpAnyX P ops Q S L f (s.setIfInBounds i true) a' w') a w
theorem wpAny_of_X {P : Program} {ops : Array Oper} {Q : Exit → Act → World → Prop} {S : World → Prop} {L : Nat} : ∀ (f : Nat) (s : Array Bool) (a : Act) (w : World), wpAnyX P ops Q S L f s a w → wpAny P .any ops Q f s a w
  | 0, _, _, _, h => h
  | f + 1, _, _, _, h => ⟨h.1, fun i hi => wpOp_mono (fun a' w' h' => wpAny_of_X f _ a' w' h'.2) (h.2 i hi)⟩
/-- Does number L wait for number i? -/
def waitsB (ops : Array Oper) (L i : Nat) : Bool := ((ops[L]?).map fun o => o.after.any fun e => Region.binds .any e && e.on == i).getD false
theorem waits_not {ops : Array Oper} {L i : Nat} {s : Array Bool} (h : waitsB ops L i = true) (hi : s.getD i true = false) : L ∉ Region.ready .any ops s := by
  intro hL
  obtain ⟨_, o, ho, hall⟩ := mem_ready.1 hL
  unfold waitsB at h
  rw [ho] at h
  obtain ⟨e, he, hb⟩ := Array.any_eq_true'.1 (show (o.after.any fun e => Region.binds .any e && e.on == i) = true from h)
  rw [Bool.and_eq_true, beq_iff_eq] at hb
  have h1 := hall e he hb.1
  rw [hb.2] at h1
  rcases Nat.lt_or_ge i s.size with h' | h'
  · simp [h'] at hi h1; rw [hi] at h1; cases h1
  · simp [Array.getElem?_eq_none h'] at h1
theorem wpAnyX_first {P : Program} {ops : Array Oper} {Q : Exit → Act → World → Prop} {S : World → Prop} {L i : Nat} {oi : Oper} {v : Value} (hi : ops[i]? = some oi) (hsel : ∀ (j : Nat) (o : Oper) cs b, ops[j]? = some o → o.op ≠ .select cs b)
    (hQ : ∀ c a w, Q (.panic c) (a.put oi.dst v) w → Q (.panic c) a w) (hL : waitsB ops L i = true) :
    ∀ (f : Nat) (s : Array Bool) (a : Act) (w : World),
      (∀ j oj, ops[j]? = some oj → j ≠ i → s.getD j true = false → (∀ e ∈ oj.after, Region.binds .any e = true → e.on ≠ i) → oi.apart ops oj = true) →
      i ∈ Region.ready .any ops s → YieldsIf P ops S oi v a → S w →
      wpAnyX P ops Q S L f (s.setIfInBounds i true) (a.put oi.dst v) w → wpAnyX P ops Q S L (f + 1) s a w := by
  intro f
  induction f with
  | zero =>
    intro s a w _ hr hy hS H
    refine ⟨fun h => (by rw [h] at hr; cases hr), fun j hj => ?_⟩
    by_cases hji : j = i
    · subst hji; exact hy.wpOp hi hS ⟨fun _ => hS, H⟩
    · have := ready_mono hj hji
      rw [H.1] at this
      cases this
  | succ f ih =>
    intro s a w hfree hr hy hS H
    refine ⟨fun h => (by rw [h] at hr; cases hr), fun j hj => ?_⟩
    by_cases hji : j = i
    · subst hji; exact hy.wpOp hi hS ⟨fun _ => hS, H⟩
    · have h1 := H.2 j (ready_mono hj hji)
      have hjL : j ≠ L := fun e => waits_not hL (mem_ready.1 hr).1 (e ▸ hj)
      obtain ⟨hjun, oj, hoj, hall⟩ := mem_ready.1 hj
      have hnot : ∀ e ∈ oj.after, Region.binds .any e = true → e.on ≠ i := fun e he hb heq => by
        have h1 := hall e he hb
        have h0 := (mem_ready.1 hr).1
        rw [heq] at h1
        rcases Nat.lt_or_ge i s.size with h' | h'
        · simp [h'] at h0 h1; rw [h0] at h1; cases h1
        · simp [Array.getElem?_eq_none h'] at h1
      have h2 := wpOp_putIf hoj (hfree j oj hoj hji hjun hnot) (fun cs b => hsel i oi cs b hi) (fun cs b => hsel j oj cs b hoj) hQ hy h1
      have hfree' : ∀ k ok, ops[k]? = some ok → k ≠ i → (s.setIfInBounds j true).getD k true = false →
          (∀ e ∈ ok.after, Region.binds .any e = true → e.on ≠ i) → oi.apart ops ok = true := fun k ok hk hki hun hno => by
        refine hfree k ok hk hki ?_ hno
        by_cases hjk : j = k
        · subst hjk; exact hjun
        · rw [getD_set_ne true hjk] at hun; exact hun
      refine wpOp_mono (fun a' w' h3 => ⟨fun _ => h3.2.1 hjL, ih (s.setIfInBounds j true) a' w' hfree' (ready_mono hr (Ne.symm hji)) h3.1 (h3.2.1 hjL) ?_⟩) h2
      rw [Array.setIfInBounds_comm _ _ hji]
      exact h3.2.2
/-- Take number i first. -/
theorem wpAnyX_take {P : Program} {ops : Array Oper} {Q : Exit → Act → World → Prop} {S : World → Prop} {L i : Nat} {oi : Oper} {v : Value} {f : Nat} {s : Array Bool} {a : Act} {w : World} (hi : ops[i]? = some oi)
    (hs : Region.noSelect ops = true) (hf : Region.free .any ops s i = true) (hr : (Region.ready .any ops s).contains i = true) (hL : waitsB ops L i = true)
    (hQ : ∀ c a w, Q (.panic c) (a.put oi.dst v) w → Q (.panic c) a w) (hS : S w) (hy : YieldsIf P ops S oi v a)
    (h : wpAnyX P ops Q S L f (s.setIfInBounds i true) (a.put oi.dst v) w) : wpAnyX P ops Q S L (f + 1) s a w :=
  wpAnyX_first hi (Region.noSelect_spec hs) hQ hL f s a w (Region.free_spec hi hf) (by simpa using hr) hy hS h
/-- Number i is the only one that may come now. -/
theorem wpAnyX_one {P : Program} {ops : Array Oper} {Q : Exit → Act → World → Prop} {S : World → Prop} {L i : Nat} {o : Oper} {f : Nat} {s : Array Bool} {a : Act} {w : World} (hr : Region.ready .any ops s = [i]) (ho : ops[i]? = some o)
    (h : ∀ K : Act → World → Prop, (∀ a' w', (i ≠ L → S w') → wpAnyX P ops Q S L f (s.setIfInBounds i true) a' w' → K a' w') → if Region.wanted o (yielded ops a.tmps) = true then Oper.wp P o a w K Q else K (a.put o.dst undef) w) : wpAnyX P ops Q S L (f + 1) s a w := by
  refine ⟨fun e => (by rw [hr] at e; cases e), fun j hj => ?_⟩
  rw [hr, List.mem_singleton] at hj
  subst hj
  have h1 := h (fun a' w' => (j ≠ L → S w') ∧ wpAnyX P ops Q S L f (s.setIfInBounds j true) a' w') (fun a' w' h1 h2 => ⟨h1, h2⟩)
  unfold wpOp
  simp only [ho]
  split
  · rename_i hw
    rw [if_pos hw] at h1
    exact Or.inl h1
  · rename_i hw
    rw [if_neg hw] at h1
    exact h1
theorem wpAnyX_done {P : Program} {ops : Array Oper} {Q : Exit → Act → World → Prop} {S : World → Prop} {L : Nat} {s : Array Bool} {a : Act} {w : World} (hr : Region.ready .any ops s = []) (h : Q .normal a w) : wpAnyX P ops Q S L 0 s a w := ⟨hr, h⟩
theorem wp_region_X {P : Program} {ops : Array Oper} {Q : Exit → Act → World → Prop} {S : World → Prop} (L : Nat) {id : Nat} {a : Act} {w : World} (hm : P.follows .mixedOrders = true)
    (h : wpAnyX P ops Q S L ops.size (Array.replicate ops.size false) a w.drew) : (Code.region id ops true).wp P Q a w :=
  wp_region_any hm (wpAny_of_X _ _ _ _ h)
end Go.Proofs.Ytpccbiinfdppnad

/- The program's products: pairs of powers, two cells each. -/
namespace Go.Proofs.Ytpccbiinfdppnad
open Go.RowKit Go.Sort

theorem Try.infoQ : (Try.prog.info? 99).map (fun i => (i.zero, i.size, i.bytes)) = some (some (.agg #[.int .i64 0, .int .i64 0]), 2, 16) := by kernel_rfl
/-- The cells of pairs. -/
def qc (l : List (Nat × Nat)) : List Value := l.flatMap fun p => [.int .i64 (p.1 : Nat), .int .i64 (p.2 : Nat)]
theorem qc_len : ∀ l : List (Nat × Nat), (qc l).length = l.length * 2
  | [] => rfl
  | x :: l => by
    show (_ :: _ :: qc l).length = _
    rw [List.length_cons, List.length_cons, qc_len l, List.length_cons]
    omega
theorem qc_get : ∀ (l : List (Nat × Nat)) (a : Nat), a < l.length → (qc l)[a * 2]? = some (.int .i64 (pxf l a : Nat)) ∧ (qc l)[a * 2 + 1]? = some (.int .i64 (pyf l a : Nat))
  | [], a, h => absurd h (by simp)
  | x :: l, 0, _ => ⟨rfl, rfl⟩
  | x :: l, a + 1, h => by
    have := qc_get l a (by rw [List.length_cons] at h; omega)
    show (Value.int .i64 (x.1 : Nat) :: Value.int .i64 (x.2 : Nat) :: qc l)[(a + 1) * 2]? = _ ∧ (Value.int .i64 (x.1 : Nat) :: Value.int .i64 (x.2 : Nat) :: qc l)[(a + 1) * 2 + 1]? = _
    rw [show (a + 1) * 2 = a * 2 + 1 + 1 from by omega, List.getElem?_cons_succ, List.getElem?_cons_succ, List.getElem?_cons_succ, List.getElem?_cons_succ]
    exact this
theorem qc_app (l m : List (Nat × Nat)) : qc (l ++ m) = qc l ++ qc m := by
  unfold qc
  rw [List.flatMap_append]
/-- The slice v of pairs, made behind block number base, holds the pairs l. -/
def OwnQ (base : Nat) (v : Value) (l : List (Nat × Nat)) (w : World) : Prop := w.ownsRow base 99 2 v l.length (qc l)
theorem OwnQ.nil (base : Nat) (w : World) : OwnQ base (.slice none 0 0) [] w := World.ownsRow_nil _ _ _ _
theorem OwnQ.below {base B : Nat} {v : Value} {l : List (Nat × Nat)} {w w' : World} (h : OwnQ base v l w) (hb : Below B w w') (hB : w.heap.size ≤ B) : OwnQ base v l w' := by
  obtain ⟨h1, h2⟩ := h
  refine ⟨h1, ?_⟩
  rcases h2 with h2 | ⟨g, cap, cur, hv, hg, hh, r⟩
  · exact Or.inl h2
  · exact Or.inr ⟨g, cap, cur, hv, hg, by rw [hb.block g (Nat.lt_of_lt_of_le (lt_of_block hh) hB)]; exact hh, r⟩
theorem OwnQ.ge {base : Nat} {v : Value} {l : List (Nat × Nat)} {w : World} (h : OwnQ base v l w) : ∀ k, v.ownBlock = some k → base ≤ k := fun k hk => (World.ownsRow.lt h k hk).1
/-- n pairs of numbers from ao on. -/
def SlQ (ao : Option Addr) (n : Nat) (px py : Nat → Nat) (w : World) : Prop := ∀ j, j < n → ∃ b, ao = some ⟨b, 0, none⟩ ∧ w.cell? ⟨b, j * 2, none⟩ = some (.int .i64 (px j : Nat)) ∧ w.cell? ⟨b, j * 2 + 1, none⟩ = some (.int .i64 (py j : Nat))
theorem SlQ.below {ao : Option Addr} {n : Nat} {px py : Nat → Nat} {w w' : World} (h : SlQ ao n px py w) (hb : Below w.heap.size w w') : SlQ ao n px py w' := fun j hj => by
  obtain ⟨b, e, hc, hd⟩ := h j hj
  have hlt : b < w.heap.size := by
    rcases Nat.lt_or_ge b w.heap.size with e | e
    · exact e
    · exfalso
      have h1 : w.heap[b]? = none := Array.getElem?_eq_none e
      simp [World.cell?, h1] at hc
  exact ⟨b, e, ((bcell hb).1 b (j * 2) hlt).trans hc, ((bcell hb).1 b (j * 2 + 1) hlt).trans hd⟩
theorem OwnQ.open {base : Nat} {v : Value} {l : List (Nat × Nat)} {w : World} (h : OwnQ base v l w) : ∃ ao cap, v = .slice ao l.length cap ∧ SlQ ao l.length (pxf l) (pyf l) w := by
  rcases h.2 with ⟨h1, h2⟩ | ⟨g, cap, cur, hv, hg, hh, hle, hcm, hsz, htake⟩
  · exact ⟨none, 0, by rw [h1, h2], fun j hj => absurd hj (by omega)⟩
  · refine ⟨_, cap, hv, fun j hj => ⟨g, rfl, ?_, ?_⟩⟩
    · rw [cell_of_row w g (j * 2) cur 99 (0, 0) hh, ← Array.getElem?_toList]
      have h3 : (cur.toList.take (l.length * 2))[j * 2]? = (qc l)[j * 2]? := by rw [htake]
      rw [List.getElem?_take, if_pos (by omega)] at h3
      rw [h3]; exact (qc_get l j hj).1
    · rw [cell_of_row w g (j * 2 + 1) cur 99 (0, 0) hh, ← Array.getElem?_toList]
      have h3 : (cur.toList.take (l.length * 2))[j * 2 + 1]? = (qc l)[j * 2 + 1]? := by rw [htake]
      rw [List.getElem?_take, if_pos (by omega)] at h3
      rw [h3]; exact (qc_get l j hj).2

/-- 'l = append(l, [2]int{x, y})', l a slice of the call's own. -/
theorem append_q {ops : Array Oper} {rest : List Oper} {o : Oper} {a : Act} {w : World} {Q : Exit → Act → World → Prop} (hgd : o.guard = none) (s x : Operand)
    (ho : o.op = .call { callee := .builtin .append, args := #[s, x], argTypes := #[79, 79] })
    (base : Nat) (v : Value) (l : List (Nat × Nat)) (hs : a.eval s = v) (hown : OwnQ base v l w) (g : Nat) (c : Nat) (p : Nat × Nat) (hx : a.eval x = .slice (some ⟨g, 0, none⟩) 1 c) (hc0 : w.cell? ⟨g, 0, none⟩ = some (.int .i64 (p.1 : Nat))) (hc1 : w.cell? ⟨g, 1, none⟩ = some (.int .i64 (p.2 : Nat)))
    (hlen : l.length ≤ 1000000) (hbase : base ≤ w.heap.size)
    (h : ∀ v' w', OwnQ base v' (l ++ [p]) w' → w.grownBy w' v.ownBlock → wpList Try.prog ops Q rest (a.put o.dst v') w') : wpList Try.prog ops Q (o :: rest) a w := by
  obtain ⟨i0, hi, hz0, hz1, hz2⟩ := info_parts Try.infoQ
  refine wpList_append_own _ hgd s x 79 ho base 99 i0 (.agg #[.int .i64 0, .int .i64 0]) 2 16 Try.underlying79 hi hz0 hz1 hz2 rfl (by decide) v l.length _ hs hown ⟨g, 0, none⟩ 1 c [.int .i64 (p.1 : Nat), .int .i64 (p.2 : Nat)] hx rfl ?_ ?_ ?_ ?_ hbase ?_
  · intro j u hj
    match j, hj with
    | 0, hj =>
      simp at hj; subst hj
      exact hc0
    | 1, hj =>
      simp at hj; subst hj
      exact hc1
  · intro u hu
    simp at hu
    rcases hu with rfl | rfl <;> rfl
  · unfold maxLen; omega
  · omega
  · intro v' w' hown' hgrow _
    refine h v' w' ?_ hgrow
    unfold OwnQ
    rw [List.length_append, qc_app]
    exact hown'

/-- The products of j rows, and of the next one i. -/
def pri (K t j i : Nat) : List (Nat × Nat) := pro K t j ++ (List.range i).map fun i => (i, j)
theorem pri_zero (K t j : Nat) : pri K t j 0 = pro K t j := by simp [pri]
theorem pri_len (K t j i : Nat) : (pri K t j i).length = (pro K t j).length + i := by
  unfold pri
  rw [List.length_append, List.length_map, List.length_range]
theorem pri_succ (K t j i : Nat) : pri K t j (i + 1) = pri K t j i ++ [(i, j)] := by
  unfold pri
  rw [List.range_succ, List.map_append, List.append_assoc]; rfl
theorem pri_end {K t j i : Nat} (h : i = min (t - j * K) (64 - (pro K t j).length)) : pri K t j i = pro K t (j + 1) := by rw [h]; rfl

set_option maxHeartbeats 4000000 in
set_option maxRecDepth 100000 in
theorem products_any (k t K : Nat) (hk : k = K + 1) (hK : 1 ≤ K) (hK2 : K ≤ 64) (ht2 : t ≤ 64) (w : World) :
    Calls Try.prog 55 #[.int .i64 k, .int .i64 t] w fun e w' => ∃ v, e = .returned v ∧ OwnQ w.heap.size v (prs K t) w' ∧ Below w.heap.size w w' := by
  have hw1 : IntKind.i64.wrap ((k : Int) - 1) = (K : Int) := wrap_to (by omega) (by omega)
  clear hk
  go_enter Try.func55, Try.ntmps55
  go_wp2
  go_loopw [5, 6] (fun vo vj wr => ∃ (j : Nat), j ≤ t ∧ vj = .int .i64 j ∧ Hid (OwnQ w.heap.size vo (pro K t j) wr ∧ Below w.heap.size w wr)) (fun _ vj _ => t - (intOf vj).toNat)
  case atStart => exact ⟨0, by omega, rfl, OwnQ.nil _ _, Below.refl _ _⟩
  case round =>
    obtain ⟨j, hj, rfl, HG⟩ := hrel
    rename World => wA
    obtain ⟨jK, hjK⟩ : ∃ jK, jK = j * K := ⟨_, rfl⟩
    have hjj : j ≤ jK := by rw [hjK]; exact Nat.le_mul_of_pos_right j hK
    have hjb : jK ≤ 4096 := by rw [hjK]; exact Nat.le_trans (Nat.mul_le_mul (show j ≤ 64 by omega) hK2) (by omega)
    have hw2 : IntKind.i64.wrap ((j : Int) * (K : Int)) = (jK : Int) := wrap_to (by rw [hjK]; simp) (by omega)
    by_cases hlt : jK < t
    · have hib : (jK : Int) < (t : Int) := by omega
      obtain ⟨m, hm⟩ : ∃ m, m = min (t - jK) (64 - (pro K t j).length) := ⟨_, rfl⟩
      have hl := pro_len K t j
      obtain ⟨ln, hln⟩ : ∃ ln, ln = (pro K t j).length := ⟨_, rfl⟩
      rw [← hln] at hm hl
      have HM : Hid (jK = j * K ∧ ln = (pro K t j).length ∧ m = min (t - jK) (64 - ln)) := ⟨hjK, hln, hm⟩
      have hm1 : m + jK ≤ t := by omega
      have hm2 : m + ln ≤ 64 := by omega
      have hm3 : m + jK = t ∨ m + ln = 64 := by omega
      clear hjK hln hm
      go_wp2
      go_loopw [5, 7] (fun vo vi wr => ∃ (i lc : Nat) (lo : Option Addr), i ≤ m ∧ vi = .int .i64 i ∧ vo = .slice lo (ln + i) lc ∧ Hid (OwnQ w.heap.size (.slice lo (ln + i) lc) (pri K t j i) wr ∧ Below w.heap.size w wr)) (fun _ vi _ => m - (intOf vi).toNat)
      case atStart =>
        obtain ⟨ao, cap, e, _⟩ := HG.out.1.open
        refine ⟨0, cap, ao, by omega, rfl, by rw [e, HM.out.2.1]; rfl, ?_, HG.out.2⟩
        rw [pri_zero, HM.out.2.1, Nat.add_zero, ← e]
        exact HG.out.1
      case round =>
        obtain ⟨i, lc, lo, hi, rfl, rfl, HI⟩ := hrel
        rename World => wB
        have hw3 : IntKind.i64.wrap ((i : Int) + (jK : Int)) = ((i + jK : Nat) : Int) := wrap_to (by omega) (by omega)
        by_cases him : i < m
        · have h1 : ((i + jK : Nat) : Int) < (t : Int) := by omega
          have h2 : ((ln + i : Nat) : Int) < 64 := by omega
          have hll : (pri K t j i).length ≤ 1000000 := by rw [pri_len, ← HM.out.2.1]; omega
          have hs := HI.out.2.size
          go_wp2_with (at_builtin; refine append_q rfl _ _ rfl w.heap.size (.slice lo (ln + i) lc) (pri K t j i) rfl (HI.out.1.below ((Below.refl _ _).alloc (Nat.le_refl _) _) (Nat.le_refl _)) wB.heap.size 1 (i, j) rfl (by rw [cell_of_row _ _ _ _ _ (0, 0) (two_new _)]; rfl) (by rw [cell_of_row _ _ _ _ _ (0, 0) (two_new _)]; rfl) hll (by simp; omega) ?_; intro v' w6 hown6 hg6)
          have HR : Hid (OwnQ w.heap.size v' (pri K t j (i + 1)) w6 ∧ Below w.heap.size w w6) := by
            rw [pri_succ]
            exact ⟨hown6, (bel_up' HI.out.2 ((Below.refl _ _).alloc (Nat.le_refl _) _)).grown hg6 (by simp; omega) (fun k hk => HI.out.1.ge k hk)⟩
          obtain ⟨ao, cap, e, _⟩ := HR.out.1.open
          rw [pri_len, ← HM.out.2.1] at e
          clear hown6 hg6
          subst e
          go_roundw
          case rel => exact ⟨i + 1, cap, ao, by omega, by go_num, rfl, HR.out.1, HR.out.2⟩
          case measure => simp [intOf]; omega
        · have him2 : i = m := by omega
          subst him2
          have HR : Hid (OwnQ w.heap.size (.slice lo (ln + i) lc) (pro K t (j + 1)) wB ∧ Below w.heap.size w wB) := by
            rw [← pri_end (i := i) (by rw [← HM.out.1, ← HM.out.2.1]; exact HM.out.2.2)]
            exact HI.out
          clear HM
          by_cases h1 : i + jK < t
          · have h1 : ((i + jK : Nat) : Int) < (t : Int) := by omega
            have h2 : ¬ ((ln + i : Nat) : Int) < 64 := by omega
            go_wp2
            go_roundw
            case rel => exact ⟨j + 1, by omega, by go_num, HR.out⟩
            case measure => simp [intOf]; omega
          · have h1 : ¬ ((i + jK : Nat) : Int) < (t : Int) := by omega
            go_wp2
            go_roundw
            case rel => exact ⟨j + 1, by omega, by go_num, HR.out⟩
            case measure => simp [intOf]; omega
    · have hib : ¬ (jK : Int) < (t : Int) := by omega
      have e := prs_of hK (show t ≤ j * K by omega)
      rw [e] at HG
      go_wp2
      go_ret
      exact ⟨_, rfl, HG.out⟩
end Go.Proofs.Ytpccbiinfdppnad
