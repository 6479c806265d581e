/- Texts of ours, one behind the other: Q1 Q2. -/
import Derived.Test.YtjkncdmbcckcdaaZV7
import Derived.Test.YtjkncdmbcckcdaaZW10
import Derived.Test.YtjkncdmbcckcdaaZT2
/- Sudan's products in their order, and how a list of numbers is parted by them: plain mathematics. -/
namespace Go.Proofs.Ytjkncdmbcckcdaa
open Go.RowKit

/-- The products of the first j rows: powers of x and of y, with i + j K below t; 64 at most. -/
def pro (K t : Nat) : Nat → List (Nat × Nat)
  | 0 => []
  | j + 1 => pro K t j ++ (List.range (min (t - j * K) (64 - (pro K t j).length))).map fun i => (i, j)
theorem pro_len (K t : Nat) : ∀ j, (pro K t j).length ≤ 64
  | 0 => Nat.zero_le _
  | j + 1 => by
    have := pro_len K t j
    show (pro K t j ++ _).length ≤ 64
    rw [List.length_append, List.length_map, List.length_range]
    omega
theorem pro_same {K t j : Nat} (h : t ≤ j * K) : pro K t (j + 1) = pro K t j := by
  show pro K t j ++ _ = _
  have e : min (t - j * K) (64 - (pro K t j).length) = 0 := by omega
  rw [e]
  simp
theorem pro_stay {K t j : Nat} (h : t ≤ j * K) : ∀ d, pro K t (j + d) = pro K t j
  | 0 => rfl
  | d + 1 => by
    have h2 : t ≤ (j + d) * K := Nat.le_trans h (Nat.mul_le_mul_right K (Nat.le_add_right j d))
    show pro K t (j + d + 1) = _
    rw [pro_same h2]
    exact pro_stay h d
/-- All of them. -/
def prs (K t : Nat) : List (Nat × Nat) := pro K t t
theorem prs_of {K t j : Nat} (hK : 1 ≤ K) (h : t ≤ j * K) : pro K t j = prs K t := by
  unfold prs
  by_cases e : j ≤ t
  · rw [show t = j + (t - j) from by omega, ← show t = j + (t - j) from by omega]
    have := pro_stay h (t - j)
    rw [show j + (t - j) = t from by omega] at this
    exact this.symm
  · have h2 : t ≤ t * K := Nat.le_mul_of_pos_right t hK
    have := pro_stay h2 (j - t)
    rw [show t + (j - t) = j from by omega] at this
    exact this
theorem prs_len (K t : Nat) : (prs K t).length ≤ 64 := pro_len K t t
theorem pro_mem {K t : Nat} : ∀ j, ∀ x, x ∈ pro K t j → x.1 < t ∧ x.2 < j
  | 0, x, h => by simp [pro] at h
  | j + 1, x, h => by
    have h : x ∈ pro K t j ++ (List.range (min (t - j * K) (64 - (pro K t j).length))).map fun i => (i, j) := h
    rcases List.mem_append.1 h with h | h
    · have := pro_mem j x h; omega
    · obtain ⟨i, hi, rfl⟩ := List.mem_map.1 h
      have := List.mem_range.1 hi
      show i < t ∧ j < j + 1
      omega
/-- The power of x, of y, in the a-th product of a list. -/
def pxf (l : List (Nat × Nat)) (a : Nat) : Nat := (l.getD a (0, 0)).1
def pyf (l : List (Nat × Nat)) (a : Nat) : Nat := (l.getD a (0, 0)).2
theorem getD_mem {l : List (Nat × Nat)} {a : Nat} (h : a < l.length) : l.getD a (0, 0) ∈ l := by
  rw [List.getD_eq_getElem?_getD, List.getElem?_eq_getElem h]
  exact List.getElem_mem h
theorem pxf_lt {K t a : Nat} (h : a < (prs K t).length) : pxf (prs K t) a < t := (pro_mem t _ (getD_mem h)).1
theorem pyf_lt {K t a : Nat} (h : a < (prs K t).length) : pyf (prs K t) a < t := (pro_mem t _ (getD_mem h)).2
theorem prs_pos {K t : Nat} (ht : 1 ≤ t) : 0 < (prs K t).length := by
  have h1 : 0 < (pro K t 1).length := by
    show 0 < (pro K t 0 ++ _).length
    rw [List.length_append, List.length_map, List.length_range]
    show 0 < 0 + min (t - 0 * K) (64 - 0)
    omega
  have h2 : ∀ d, (pro K t 1).length ≤ (pro K t (1 + d)).length := by
    intro d
    induction d with
    | zero => exact Nat.le_refl _
    | succ d ih =>
      refine Nat.le_trans ih ?_
      show _ ≤ (pro K t (1 + d) ++ _).length
      rw [List.length_append]
      exact Nat.le_add_right _ _
  have := h2 (t - 1)
  rw [show 1 + (t - 1) = t from by omega] at this
  exact Nat.lt_of_lt_of_le h1 this

/-- How many lists there are when a numbers have been laid by their powers. -/
def gn (p : Nat → Nat) : Nat → Nat
  | 0 => 0
  | a + 1 => if p a = gn p a then gn p a + 1 else gn p a
theorem gn_congr {p p' : Nat → Nat} : ∀ n, (∀ a, a < n → p a = p' a) → gn p n = gn p' n
  | 0, _ => rfl
  | n + 1, h => by
    show (if _ then _ else _) = if _ then _ else _
    rw [h n (by omega), gn_congr n (fun a ha => h a (by omega))]
theorem gn_le (p : Nat → Nat) : ∀ a, gn p a ≤ a
  | 0 => Nat.le_refl _
  | a + 1 => by
    have := gn_le p a
    show (if p a = gn p a then gn p a + 1 else gn p a) ≤ a + 1
    split <;> omega
theorem pyf_app {l m : List (Nat × Nat)} {a : Nat} (h : a < l.length) : pyf (l ++ m) a = pyf l a := by
  unfold pyf
  rw [List.getD_eq_getElem?_getD, List.getD_eq_getElem?_getD, List.getElem?_append_left h]
theorem pyf_row {l : List (Nat × Nat)} {m j i : Nat} (h : i < m) : pyf (l ++ (List.range m).map fun i => (i, j)) (l.length + i) = j := by
  unfold pyf
  rw [List.getD_eq_getElem?_getD, List.getElem?_append_right (by omega), Nat.add_sub_cancel_left, List.getElem?_map, List.getElem?_range h]
  rfl
/-- Each power of y is at most the number of lists. -/
theorem pro_gn {K t : Nat} : ∀ j, (∀ a, a < (pro K t j).length → pyf (pro K t j) a ≤ gn (pyf (pro K t j)) a) ∧ ((pro K t j).length = 64 ∨ t ≤ j * K ∨ gn (pyf (pro K t j)) (pro K t j).length = j)
  | 0 => ⟨fun a h => absurd h (by simp [pro]), Or.inr (Or.inr rfl)⟩
  | j + 1 => by
    obtain ⟨h1, h2⟩ := pro_gn (K := K) (t := t) j
    by_cases hs : (pro K t j).length = 64 ∨ t ≤ j * K
    · have e : pro K t (j + 1) = pro K t j := by
        show pro K t j ++ _ = _
        have e : min (t - j * K) (64 - (pro K t j).length) = 0 := by omega
        rw [e]
        simp
      rw [e]
      refine ⟨h1, ?_⟩
      rcases hs with hs | hs
      · exact Or.inl hs
      · exact Or.inr (Or.inl (Nat.le_trans hs (Nat.mul_le_mul_right K (Nat.le_succ j))))
    · have hg : gn (pyf (pro K t j)) (pro K t j).length = j := by
        rcases h2 with h2 | h2 | h2
        · exact absurd (Or.inl h2) hs
        · exact absurd (Or.inr h2) hs
        · exact h2
      obtain ⟨m, hm⟩ : ∃ m, m = min (t - j * K) (64 - (pro K t j).length) := ⟨_, rfl⟩
      have hl := pro_len K t j
      have hm1 : 1 ≤ m := by rw [hm]; omega
      have e : pro K t (j + 1) = pro K t j ++ (List.range m).map fun i => (i, j) := by rw [hm]; rfl
      obtain ⟨l, hlp⟩ : ∃ l, l = pro K t j := ⟨_, rfl⟩
      rw [e]
      rw [← hlp] at h1 hg ⊢
      have hc : ∀ a, a ≤ l.length → gn (pyf (l ++ (List.range m).map fun i => (i, j))) a = gn (pyf l) a := fun a ha => gn_congr a (fun b hb => pyf_app (by omega))
      have hr : ∀ i, i < m → gn (pyf (l ++ (List.range m).map fun i => (i, j))) (l.length + i + 1) = j + 1 := by
        intro i
        induction i with
        | zero =>
          intro hi
          have h0 := pyf_row (l := l) (j := j) hi
          rw [Nat.add_zero] at h0
          show (if _ then _ else _) = _
          rw [h0, hc l.length (Nat.le_refl _), hg, if_pos rfl]
        | succ i ih =>
          intro hi
          show (if _ then _ else _) = _
          rw [pyf_row hi, show l.length + (i + 1) = l.length + i + 1 from rfl, ih (by omega), if_neg (by omega)]
      refine ⟨fun a ha => ?_, Or.inr (Or.inr ?_)⟩
      · by_cases hal : a < l.length
        · rw [pyf_app hal, hc a (by omega)]; exact h1 a hal
        · rw [List.length_append, List.length_map, List.length_range] at ha
          obtain ⟨i, rfl⟩ : ∃ i, a = l.length + i := ⟨a - l.length, by omega⟩
          rw [pyf_row (by omega)]
          cases i with
          | zero => rw [show l.length + 0 = l.length from rfl, hc l.length (Nat.le_refl _), hg]; exact Nat.le_refl _
          | succ i =>
            rw [show l.length + (i + 1) = l.length + i + 1 from rfl, hr i (by omega)]
            omega
      · rw [List.length_append, List.length_map, List.length_range]
        have := hr (m - 1) (by omega)
        rw [show l.length + (m - 1) + 1 = l.length + m from by omega] at this
        exact this
theorem prs_gn {K t a : Nat} (h : a < (prs K t).length) : pyf (prs K t) a ≤ gn (pyf (prs K t)) a := (pro_gn t).1 a h

/-- The lists when a numbers have been laid. -/
def gz (p : Nat → Nat) (s : Nat → Nat) : Nat → Nat → List Int
  | 0 => fun _ => []
  | a + 1 => fun j => if j = p a then gz p s a j ++ [((s a : Nat) : Int)] else gz p s a j
theorem gz_none {p s : Nat → Nat} : ∀ {a j : Nat}, (∀ b, b < a → p b ≤ gn p b) → gn p a ≤ j → gz p s a j = []
  | 0, _, _, _ => rfl
  | a + 1, j, h, hj => by
    have hj : (if p a = gn p a then gn p a + 1 else gn p a) ≤ j := hj
    have h1 := h a (by omega)
    show (if _ then _ else _) = _
    rw [if_neg (by split at hj <;> omega)]
    exact gz_none (fun b hb => h b (by omega)) (by split at hj <;> omega)
theorem gz_some {p s : Nat → Nat} : ∀ {a j : Nat}, (∀ b, b < a → p b ≤ gn p b) → j < gn p a → 0 < (gz p s a j).length
  | 0, _, _, hj => absurd hj (by simp [gn])
  | a + 1, j, h, hj => by
    have hj : j < (if p a = gn p a then gn p a + 1 else gn p a) := hj
    show 0 < (if _ then _ else _ : List Int).length
    by_cases e : j = p a
    · rw [if_pos e, List.length_append]
      exact Nat.lt_of_lt_of_le Nat.zero_lt_one (Nat.le_add_left _ _)
    · rw [if_neg e]
      exact gz_some (fun b hb => h b (by omega)) (by split at hj <;> omega)
theorem gz_len (p s : Nat → Nat) : ∀ a j, (gz p s a j).length ≤ a
  | 0, _ => Nat.le_refl _
  | a + 1, j => by
    have := gz_len p s a j
    show (if _ then _ else _ : List Int).length ≤ _
    split
    · rw [List.length_append]
      show _ + 1 ≤ _
      omega
    · omega
theorem gz_nat (p s : Nat → Nat) : ∀ a j (x : Int), x ∈ gz p s a j → 0 ≤ x
  | 0, _, x, h => by simp [gz] at h
  | a + 1, j, x, h => by
    have h : x ∈ (if j = p a then gz p s a j ++ [((s a : Nat) : Int)] else gz p s a j) := h
    split at h
    · rcases List.mem_append.1 h with h | h
      · exact gz_nat p s a j x h
      · rw [List.mem_singleton.1 h]; omega
    · exact gz_nat p s a j x h
/-- The lists, each by its greatest place and its numbers. -/
def gL (p s : Nat → Nat) (a : Nat) : List (Nat × (Nat → Nat)) := (List.range (gn p a)).map fun j => ((gz p s a j).length - 1, fun i => ((gz p s a j).getD i 0).toNat)
theorem gL_len (p s : Nat → Nat) (a : Nat) : (gL p s a).length = gn p a := by simp [gL]
theorem gL_small {p s : Nat → Nat} {a : Nat} : ∀ x ∈ gL p s a, x.1 + 1 ≤ a + 1 := by
  intro x hx
  obtain ⟨j, _, rfl⟩ := List.mem_map.1 hx
  have := gz_len p s a j
  show (gz p s a j).length - 1 + 1 ≤ a + 1
  omega
end Go.Proofs.Ytjkncdmbcckcdaa

/- Lists of lists of the call's own that grow at any of their lists. -/
namespace Go.Proofs.Ytjkncdmbcckcdaa
open Go.RowKit Go.Sort

/-- The list of lists at ro, made behind block number base: n lists Z, each in a block of its own. -/
structure GrS (base n : Nat) (ro : Option Addr) (rc : Nat) (vs : Nat → Value) (Z : Nat → List Int) (w : World) : Prop where
  own : OwnV base (.slice ro n rc) (vl n vs) w
  row : ∀ j, j < n → OwnI base (vs j) (Z j) w
  inj : ∀ i j, i < n → j < n → i ≠ j → ∀ g, (vs i).ownBlock = some g → (vs j).ownBlock ≠ some g
theorem GrS.nil (base : Nat) (vs : Nat → Value) (Z : Nat → List Int) (w : World) : GrS base 0 none 0 vs Z w :=
  ⟨OwnV.nil _ _, fun j hj => absurd hj (by omega), fun i j hi => absurd hi (by omega)⟩
theorem GrS.below {base n : Nat} {ro : Option Addr} {rc : Nat} {vs : Nat → Value} {Z : Nat → List Int} {w w' : World} (h : GrS base n ro rc vs Z w) (hb : Below w.heap.size w w') : GrS base n ro rc vs Z w' :=
  ⟨h.own.below hb (Nat.le_refl _), fun j hj => (h.row j hj).below hb (fun k hk => ((h.row j hj).lt k hk).2), h.inj⟩
theorem GrS.congr {base n : Nat} {ro : Option Addr} {rc : Nat} {vs : Nat → Value} {Z Z' : Nat → List Int} {w : World} (h : GrS base n ro rc vs Z w) (e : ∀ j, j < n → Z j = Z' j) : GrS base n ro rc vs Z' w :=
  ⟨h.own, fun j hj => by rw [← e j hj]; exact h.row j hj, h.inj⟩
theorem GrS.cell {base n : Nat} {ro : Option Addr} {rc : Nat} {vs : Nat → Value} {Z : Nat → List Int} {w : World} (h : GrS base n ro rc vs Z w) (j : Nat) (hj : j < n) : ∃ g, ro = some ⟨g, 0, none⟩ ∧ w.cell? ⟨g, j, none⟩ = some (vs j) ∧ w.frozen? ⟨g, j, none⟩ = false ∧ base ≤ g ∧ g < w.heap.size := by
  obtain ⟨ro', rc', e, _, hlt, hge, hc⟩ := h.own.open
  rw [vl_len] at e
  cases e
  obtain ⟨g, e, h1, h2⟩ := hc j (vs j) (vl_get n vs j hj)
  exact ⟨g, e, h1, h2, hge _ e, hlt _ e⟩
/-- Cell j of a list of lists of the call's own is another one now. -/
theorem OwnV.set {base n rc g : Nat} {ro : Option Addr} {vs : Nat → Value} {w1 : World} (hown : OwnV base (.slice ro n rc) (vl n vs) w1) (hg : ro = some ⟨g, 0, none⟩) (j : Nat) (u : Value) : OwnV base (.slice ro n rc) (vl n fun i => if i = j then u else vs i) (w1.setCell ⟨g, j, none⟩ u) := by
  rcases hown.2 with ⟨h1, _⟩ | ⟨g', cap, cur, hv, hb, hh, hle, hcm, hsz, htake⟩
  · rw [hg] at h1; cases h1
  · rw [hg, vl_len] at hv
    cases hv
    have hlt := lt_of_block hh
    have h' : w1.heap[g] = .cells cur 22 (0, 0) := by simpa [Array.getElem?_eq_getElem hlt] using hh
    refine ⟨by rw [vl_len]; omega, Or.inr ⟨g, rc, cur.setIfInBounds j u, by rw [hg, vl_len], hb, ?_, by rw [vl_len]; rw [vl_len] at hle; exact hle, hcm, by rw [Array.size_setIfInBounds]; exact hsz, ?_⟩⟩
    · show (w1.heap.modify g _)[g]? = _
      rw [Array.getElem?_eq_getElem (by simpa using hlt), Array.getElem_modify_self, h']
      rfl
    · rw [vl_len] at htake ⊢
      apply List.ext_getElem?
      intro i
      have h3 : (cur.toList.take (n * 1))[i]? = (vl n vs)[i]? := by rw [htake]
      rw [List.getElem?_take] at h3 ⊢
      by_cases hi : i < n * 1
      · rw [if_pos hi] at h3 ⊢
        have hik : i < n := by omega
        rw [vl_get n vs i hik] at h3
        rw [vl_get n _ i hik, Array.getElem?_toList, Array.getElem?_setIfInBounds]
        rw [Array.getElem?_toList] at h3
        by_cases e : j = i
        · rw [if_pos e, if_pos (by have := (Array.getElem?_eq_some_iff.1 h3).1; omega), if_pos e.symm]
        · rw [if_neg e, if_neg (fun x => e x.symm)]; exact h3
      · rw [if_neg hi, List.getElem?_eq_none (by rw [vl_len]; omega)]
/-- One list more, an empty one. -/
theorem GrS.push {base n : Nat} {ro : Option Addr} {rc : Nat} {v' : Value} {vs : Nat → Value} {Z : Nat → List Int} {w w' : World} (h : GrS base n ro rc vs Z w) (ho : OwnV base v' (vl n vs ++ [.slice none 0 0]) w') (hg : w.grownBy w' (Value.slice ro n rc).ownBlock) (hZ : Z n = []) :
    ∃ ro' rc', v' = .slice ro' (n + 1) rc' ∧ GrS base (n + 1) ro' rc' (fun j => if j = n then .slice none 0 0 else vs j) Z w' := by
  obtain ⟨ro', rc', e, _⟩ := ho.open
  rw [List.length_append, vl_len] at e
  refine ⟨ro', rc', e, ?_, fun j hj => ?_, fun i j hi hj hij g hv => ?_⟩
  · have e2 : vl (n + 1) (fun j => if j = n then .slice none 0 0 else vs j) = vl n vs ++ [.slice none 0 0] := by
      unfold vl
      rw [List.range_succ, List.map_append]
      congr 1
      · exact List.map_congr_left (fun j hj => if_neg (by have := List.mem_range.1 hj; omega))
      · simp
    rw [e2]
    rw [e] at ho
    exact ho
  · show OwnI base (if j = n then .slice none 0 0 else vs j) (Z j) w'
    by_cases ej : j = n
    · rw [if_pos ej, ej, hZ]; exact OwnI.nil _ _
    · rw [if_neg ej]
      exact (h.row j (by omega)).kept hg ((h.row j (by omega)).apart h.own)
  · have hv : (if i = n then Value.slice none 0 0 else vs i).ownBlock = some g := hv
    show (if j = n then Value.slice none 0 0 else vs j).ownBlock ≠ some g
    by_cases ei : i = n
    · rw [if_pos ei] at hv; cases hv
    · rw [if_neg ei] at hv
      by_cases ej : j = n
      · rw [if_pos ej]; intro x; cases x
      · rw [if_neg ej]; exact h.inj i j (by omega) (by omega) hij g hv
/-- One number more in list j, which lies at u then. -/
theorem GrS.store {base n : Nat} {ro : Option Addr} {rc : Nat} {vs : Nat → Value} {Z : Nat → List Int} {w w1 : World} (h : GrS base n ro rc vs Z w) {g j : Nat} (hj : j < n) (hg : ro = some ⟨g, 0, none⟩) {u : Value} {x : Int} (hu : OwnI base u (Z j ++ [x]) w1) (hgr : w.grownBy w1 (vs j).ownBlock) (hat : u.ownBlock = (vs j).ownBlock ∨ u.ownBlock = some w.heap.size) :
    GrS base n ro rc (fun i => if i = j then u else vs i) (fun i => if i = j then Z i ++ [x] else Z i) (w1.setCell ⟨g, j, none⟩ u) := by
  have hown : OwnV base (.slice ro n rc) (vl n vs) w1 := h.own.grown hgr ((h.row j hj).apartV h.own)
  have hob : (Value.slice ro n rc).ownBlock = some g := by rw [hg]; rfl
  refine ⟨?_, fun i hi => ?_, fun a b ha hb hab k hv => ?_⟩
  · exact hown.set hg j u
  · show OwnI base (if i = j then u else vs i) (if i = j then Z i ++ [x] else Z i) _
    by_cases e : i = j
    · rw [if_pos e, if_pos e, e]; exact hu.setV hown hob
    · rw [if_neg e, if_neg e]
      refine OwnI.setV ((h.row i hi).kept hgr ?_) hown hob
      cases hv : (vs i).ownBlock with
      | none => exact Or.inl rfl
      | some k => exact Or.inr (fun x => h.inj i j hi hj e k hv x.symm)
  · have hv : (if a = j then u else vs a).ownBlock = some k := hv
    show (if b = j then u else vs b).ownBlock ≠ some k
    have hnew : ∀ c, c < n → (vs c).ownBlock ≠ some w.heap.size := fun c hc hx => by
      have := ((h.row c hc).lt _ hx).2
      omega
    by_cases ea : a = j
    · rw [if_pos ea] at hv
      rw [if_neg (fun x => hab (ea.trans x.symm))]
      rcases hat with hat | hat
      · rw [hat] at hv
        exact h.inj j b hj hb (fun x => hab (ea.trans x)) k hv
      · rw [hat] at hv
        cases hv
        exact hnew b hb
    · rw [if_neg ea] at hv
      by_cases eb : b = j
      · rw [if_pos eb]
        rcases hat with hat | hat
        · rw [hat]
          exact h.inj a j ha hj ea k hv
        · rw [hat]
          intro x
          cases x
          exact hnew a ha hv
      · rw [if_neg eb]
        exact h.inj a b ha hb hab k hv
/-- What they are when all numbers are laid. -/
theorem GrS.lls {base n : Nat} {ro : Option Addr} {rc : Nat} {vs : Nat → Value} {p s : Nat → Nat} {a : Nat} {w : World} (h : GrS base n ro rc vs (gz p s a) w) (hn : n = gn p a) (hp : ∀ b, b < a → p b ≤ gn p b) : LLs base (.slice ro n rc) (gL p s a) w := by
  refine ⟨vl n vs, h.own, by rw [vl_len, gL_len, hn], fun j v y hv hy => ?_⟩
  have hj : j < n := by have := (List.getElem?_eq_some_iff.1 hv).1; rwa [vl_len] at this
  rw [vl_get n vs j hj] at hv
  cases hv
  unfold gL at hy
  rw [List.getElem?_map, List.getElem?_range (by omega)] at hy
  cases hy
  have h0 := gz_some (s := s) hp (show j < gn p a by omega)
  have h1 := (h.row j hj).ownC (fun i => ((gz p s a j).getD i 0).toNat) (fun k hk => by
    have hm : (gz p s a j).getD k 0 ∈ gz p s a j := by
      rw [List.getD_eq_getElem?_getD, List.getElem?_eq_getElem hk]
      exact List.getElem_mem hk
    have := gz_nat p s a j _ hm
    omega)
  rw [show (gz p s a j).length = (gz p s a j).length - 1 + 1 from by omega] at h1
  exact h1.elm
end Go.Proofs.Ytjkncdmbcckcdaa
