/- Texts of ours, one behind the other: KU13 KU14 KU15. -/
import Derived.Test.YtpgaakjldlcejaaDoorZKU6
import Derived.Test.YtpgaakjldlcejaaDoorZKD10
import Derived.Test.YtpgaakjldlcejaaDoorZKU1
/- Golay: the sets of words of a weight, and the keys of their lists. -/
namespace Go.Proofs.YtpgaakjldlcejaaDoor
open Go.RowKit Go.Sort

/-- A word's set. -/
def wst (D : FD) (R : Nat → Nat → Nat) (n k r : Nat) : Nat := nzs (wnz D R k r) n
/-- The sets of the first words that have a weight, as they come up. -/
def gsl (D : FD) (R : Nat → Nat → Nat) (n k wt : Nat) : Nat → List Nat
  | 0 => []
  | r + 1 => if wgr D R n k r = wt then addL (gsl D R n k wt r) (wst D R n k r) else gsl D R n k wt r
/-- How often each of them has come up. -/
def gsc (D : FD) (R : Nat → Nat → Nat) (n k wt : Nat) : Nat → Nat → Nat
  | 0 => fun _ => 0
  | r + 1 => if wgr D R n k r = wt then fun j => if j = wst D R n k r then gsc D R n k wt r (wst D R n k r) + 1 else gsc D R n k wt r j else gsc D R n k wt r
theorem gsc_le (D : FD) (R : Nat → Nat → Nat) (n k wt : Nat) : ∀ r j, gsc D R n k wt r j ≤ r
  | 0, j => Nat.le_refl 0
  | r + 1, j => by
    show (if wgr D R n k r = wt then fun j => if j = wst D R n k r then gsc D R n k wt r (wst D R n k r) + 1 else gsc D R n k wt r j else gsc D R n k wt r) j ≤ r + 1
    have h1 := gsc_le D R n k wt r j
    have h2 := gsc_le D R n k wt r (wst D R n k r)
    by_cases c : wgr D R n k r = wt
    · rw [if_pos c]
      show (if j = wst D R n k r then gsc D R n k wt r (wst D R n k r) + 1 else gsc D R n k wt r j) ≤ r + 1
      by_cases e : j = wst D R n k r
      · rw [if_pos e]; omega
      · rw [if_neg e]; omega
    · rw [if_neg c]; omega
theorem gsl_mem (D : FD) (R : Nat → Nat → Nat) (n k wt x : Nat) : ∀ N, x ∈ gsl D R n k wt N ↔ ∃ r, r < N ∧ wgr D R n k r = wt ∧ x = wst D R n k r
  | 0 => ⟨fun h => (by cases h), fun ⟨r, h, _⟩ => absurd h (by omega)⟩
  | N + 1 => by
    show x ∈ (if wgr D R n k N = wt then addL (gsl D R n k wt N) (wst D R n k N) else gsl D R n k wt N) ↔ _
    by_cases c : wgr D R n k N = wt
    · rw [if_pos c, addL_mem, gsl_mem D R n k wt x N]
      constructor
      · rintro (⟨r, h, a⟩ | a)
        · exact ⟨r, by omega, a⟩
        · exact ⟨N, by omega, c, a⟩
      · rintro ⟨r, h, a, b⟩
        by_cases e : r = N
        · rw [e] at b; exact Or.inr b
        · exact Or.inl ⟨r, by omega, a, b⟩
    · rw [if_neg c, gsl_mem D R n k wt x N]
      constructor
      · rintro ⟨r, h, a⟩; exact ⟨r, by omega, a⟩
      · rintro ⟨r, h, a, b⟩
        by_cases e : r = N
        · rw [e] at a; exact absurd a c
        · exact ⟨r, by omega, a, b⟩
theorem gsl_len (D : FD) (R : Nat → Nat → Nat) (n k wt : Nat) : ∀ r, (gsl D R n k wt r).length ≤ r
  | 0 => Nat.le_refl _
  | r + 1 => by
    show (if wgr D R n k r = wt then addL (gsl D R n k wt r) (wst D R n k r) else gsl D R n k wt r).length ≤ r + 1
    have := gsl_len D R n k wt r
    split
    · unfold addL
      split
      · omega
      · rw [List.length_append, List.length_singleton]; omega
    · omega
theorem wst_lt (D : FD) (R : Nat → Nat → Nat) {n : Nat} (k r : Nat) (hn : n ≤ 64) : wst D R n k r < 18446744073709551616 := Nat.lt_of_lt_of_le (nzs_lt _ n) (Nat.pow_le_pow_right (n := 2) (by omega) hn)
theorem wst_places (D : FD) (R : Nat → Nat → Nat) {n : Nat} (k r : Nat) (hn : n ≤ 64) : plN (wst D R n k r) = pLs (wnz D R k r) n := plN_nzs hn
end Go.Proofs.YtpgaakjldlcejaaDoor

/- Golay: slices.SortFunc of lists of places, also of none. -/
namespace Go.Proofs.YtpgaakjldlcejaaDoor
open Go.Shelf Go.RowKit Go.Lib Go.Sort

/-- slices.SortFunc of lists of m numbers: in order. -/
theorem ssort_klm {m base : Nat} {L : List Nat} (hm : m ≤ 64) (hL : L.length ≤ 5000) {v : Value} {w0 w : World} (hv : KLm base v m L w) (hb : Below w0.heap.size w0 w) (hbase : w0.heap.size ≤ base) :
    Calls Tryd.prog 15 #[v, .func (.func 16) #[] #[]] w fun e w' => e = .returned (.tuple #[]) ∧ Below w0.heap.size w0 w' ∧ ∃ N, N.length = L.length ∧ KLm base v m N w' ∧ List.Pairwise (fun a b => a ≤ b) N ∧ N.Perm L := by
  by_cases h0 : L.length = 0
  · have e0 := List.length_eq_zero_iff.1 h0
    subst e0
    obtain ⟨vo, vc, rfl⟩ := hv.form
    refine Calls.mono (AnyF.slices_SortFunc_none { sortL with } vo vc _ w) ?_
    rintro e w' ⟨rfl, rfl⟩
    exact ⟨rfl, hb, [], rfl, hv, List.Pairwise.nil, List.Perm.refl _⟩
  · obtain ⟨G, cap, vs, rfl, ho, hw⟩ := hv.rows (by omega)
    refine (ssortL_any hm (by omega) hL ho hw).mono ?_
    rintro e w' ⟨rfl, hs⟩
    obtain ⟨_, _, _, hbG, _⟩ := ho.bounds
    have hof : OfG G w w' := by obtain ⟨_, _, _, _, _, _, h⟩ := hs; exact h
    obtain ⟨N, hN1, hN2, hN3, hN4⟩ := hs.kls
    rw [getD_range] at hN2
    exact ⟨rfl, hof.bel _ _ hb (by omega), N, hN1, hN4, hN3, hN2⟩
end Go.Proofs.YtpgaakjldlcejaaDoor

/- Golay: a range over the map of sets: what has come up, what is left. -/
namespace Go.Proofs.YtpgaakjldlcejaaDoor
open Go.RowKit Go.Maps

/-- What is left of a range over a map of sets, where V have come up. -/
structure Lf (L V : List Nat) (left : Lit → Bool) : Prop where
  vis : ∀ x : Int, left (.int .u64 x) = true ↔ ∃ k ∈ L, x = ((k : Nat) : Int) ∧ k ∉ V
  sub : ∀ k ∈ V, k ∈ L
  nd : V.Nodup
theorem Lf.start {D : DataW Value} {L : List Nat} {c : Nat → Nat} (h : UgD D L c) : Lf L [] (Maps.has D) := ⟨fun x => by
  rw [h.has x]
  exact ⟨fun ⟨k, a, b⟩ => ⟨k, a, b, by simp⟩, fun ⟨k, a, b, _⟩ => ⟨k, a, b⟩⟩, fun k hk => (by cases hk), List.nodup_nil⟩
theorem u64_same (x y : Int) : (Lit.int .u64 x).sameKey (.int .u64 y) = true ↔ x = y := by
  first
    | simp [Lit.sameKey]
    | (unfold Lit.sameKey; simp)
theorem Lf.step {L V : List Nat} {left : Lit → Bool} (h : Lf L V left) {x : Int} (hx : left (.int .u64 x) = true) : ∃ k ∈ L, k ∉ V ∧ x = ((k : Nat) : Int) ∧ Lf L (V ++ [k]) (fun z => left z && !z.sameKey (.int .u64 x)) := by
  obtain ⟨k, hk, e, hV⟩ := (h.vis x).1 hx
  refine ⟨k, hk, hV, e, fun y => ?_, fun j hj => ?_, ?_⟩
  · show (left (.int .u64 y) && !(Lit.int .u64 y).sameKey (.int .u64 x)) = true ↔ _
    rw [Bool.and_eq_true, h.vis y, Bool.not_eq_true', ← Bool.not_eq_true, u64_same]
    constructor
    · rintro ⟨⟨j, a, b, c⟩, d⟩
      refine ⟨j, a, b, fun hj => ?_⟩
      rcases List.mem_append.1 hj with q | q
      · exact c q
      · rw [List.mem_singleton.1 q] at b
        exact d (by rw [b, e])
    · rintro ⟨j, a, b, c⟩
      refine ⟨⟨j, a, b, fun q => c (List.mem_append.2 (Or.inl q))⟩, fun q => c (List.mem_append.2 (Or.inr (List.mem_singleton.2 ?_)))⟩
      omega
  · rcases List.mem_append.1 hj with q | q
    · exact h.sub j q
    · rw [List.mem_singleton.1 q]; exact hk
  · rw [List.nodup_append]
    refine ⟨h.nd, by simp, fun a ha b hb q => hV ?_⟩
    rw [List.mem_singleton.1 hb] at q
    rw [← q]; exact ha
theorem Lf.done {L V : List Nat} {left : Lit → Bool} (h : Lf L V left) (h0 : ∀ z, left z = false) (hL : L.Nodup) : V.Perm L := by
  refine (List.perm_ext_iff_of_nodup h.nd hL).2 fun k => ⟨h.sub k, fun hk => ?_⟩
  by_cases c : k ∈ V
  · exact c
  · have := (h.vis ((k : Nat) : Int)).2 ⟨k, hk, rfl, c⟩
    rw [h0] at this
    cases this
theorem nd_lenL : ∀ {V L : List Nat}, V.Nodup → (∀ k ∈ V, k ∈ L) → V.length ≤ L.length
  | [], L, _, _ => Nat.zero_le _
  | a :: V, L, hn, hs => by
    obtain ⟨h1, h2⟩ := List.nodup_cons.1 hn
    have ha : a ∈ L := hs a (List.mem_cons_self ..)
    have h3 := nd_lenL (V := V) (L := L.erase a) h2 fun k hk => (List.mem_erase_of_ne (fun e => h1 (by rw [← e]; exact hk))).2 (hs k (List.mem_cons_of_mem _ hk))
    rw [List.length_erase_of_mem ha] at h3
    have h4 := List.length_pos_of_mem ha
    rw [List.length_cons]
    omega
theorem Lf.len {L V : List Nat} {left : Lit → Bool} (h : Lf L V left) : V.length ≤ L.length := nd_lenL h.nd h.sub
end Go.Proofs.YtpgaakjldlcejaaDoor
