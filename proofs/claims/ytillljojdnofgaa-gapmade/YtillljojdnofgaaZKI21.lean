/- Words that may lose a bit: what the law asks, piece by piece. -/
import Derived.Test.YtillljojdnofgaaZKI20
import Derived.Test.YtillljojdnofgaaZS3
namespace Go.Proofs.Ytillljojdnofgaa
open Go.Shelf Go.RowKit Go.Lib Go.Sort

/-- Of numbers in order, each once, of the first i. -/
def ddp (N : List Nat) : Nat → List Nat
  | 0 => []
  | i + 1 => ddp N i ++ if i = 0 ∨ N.getD i 0 ≠ N.getD (i - 1) 0 then [N.getD i 0] else []
theorem ddp_len (N : List Nat) : ∀ i, (ddp N i).length ≤ i
  | 0 => Nat.le_refl _
  | i + 1 => by
    have := ddp_len N i
    show (ddp N i ++ if i = 0 ∨ N.getD i 0 ≠ N.getD (i - 1) 0 then [N.getD i 0] else []).length ≤ i + 1
    rw [List.length_append]
    split
    · show _ + 1 ≤ _; omega
    · show _ + 0 ≤ _; omega
theorem ddp_mem (N : List Nat) : ∀ i x, x ∈ ddp N i ↔ ∃ j, j < i ∧ x = N.getD j 0
  | 0, x => ⟨fun h => (by cases h), fun ⟨i, h, _⟩ => absurd h (by omega)⟩
  | i + 1, x => by
    show x ∈ ddp N i ++ (if i = 0 ∨ N.getD i 0 ≠ N.getD (i - 1) 0 then [N.getD i 0] else []) ↔ _
    rw [List.mem_append, ddp_mem N i x]
    by_cases h0 : i = 0 ∨ N.getD i 0 ≠ N.getD (i - 1) 0
    · rw [if_pos h0, List.mem_singleton]
      constructor
      · rintro (⟨j, hj, e⟩ | e)
        · exact ⟨j, by omega, e⟩
        · exact ⟨i, by omega, e⟩
      · rintro ⟨j, hj, e⟩
        by_cases h : j = i
        · exact Or.inr (by rw [e, h])
        · exact Or.inl ⟨j, by omega, e⟩
    · rw [if_neg h0]
      have hk : i ≠ 0 ∧ N.getD i 0 = N.getD (i - 1) 0 := ⟨fun e => h0 (Or.inl e), Classical.byContradiction fun e => h0 (Or.inr e)⟩
      constructor
      · rintro (⟨j, hj, e⟩ | e)
        · exact ⟨j, by omega, e⟩
        · cases e
      · rintro ⟨j, hj, e⟩
        by_cases h : j = i
        · exact Or.inl ⟨i - 1, by omega, by rw [e, h, hk.2]⟩
        · exact Or.inl ⟨j, by omega, e⟩
theorem ddp_inc {N : List Nat} (h : ∀ i j, i < j → j < N.length → N.getD i 0 ≤ N.getD j 0) : ∀ i, i ≤ N.length → Inc (ddp N i)
  | 0, _ => List.Pairwise.nil
  | i + 1, hi => by
    show List.Pairwise _ (ddp N i ++ (if i = 0 ∨ N.getD i 0 ≠ N.getD (i - 1) 0 then [N.getD i 0] else []))
    rw [List.pairwise_append]
    refine ⟨ddp_inc h i (by omega), ?_, fun a ha b hb => ?_⟩
    · split
      · exact List.pairwise_singleton _ _
      · exact List.Pairwise.nil
    · by_cases h0 : i = 0 ∨ N.getD i 0 ≠ N.getD (i - 1) 0
      · rw [if_pos h0, List.mem_singleton] at hb
        obtain ⟨j, hj, e⟩ := (ddp_mem N i a).1 ha
        rw [hb, e]
        have hne := h0.resolve_left (by omega)
        have h2 := h (i - 1) i (by omega) (by omega)
        by_cases h3 : j = i - 1
        · rw [h3]; omega
        · have := h j (i - 1) (by omega) (by omega); omega
      · rw [if_neg h0] at hb; cases hb
theorem KLs.item {base m k cap : Nat} {ao : Option Addr} {N : List Nat} {w : World} (h : KLs base (.slice ao k cap) m N w) {j : Nat} (hj : j < N.length) : ∃ g x cx, ao = some ⟨g, 0, none⟩ ∧ w.cell? ⟨g, j, none⟩ = some (.slice x m cx) ∧ WdK m (.slice x m cx) (N.getD j 0) w := by
  obtain ⟨l, h1, h2, h3⟩ := h
  obtain ⟨ao', cap', e, _, _, _, hc⟩ := h1.open
  obtain ⟨u, hu⟩ : ∃ u, l[j]? = some u := ⟨_, List.getElem?_eq_getElem (by omega)⟩
  have hN : N[j]? = some (N.getD j 0) := by rw [List.getD_eq_getElem?_getD, List.getElem?_eq_getElem hj]; rfl
  obtain ⟨g, e1, hcell, _⟩ := hc j u hu
  have hwk := h3 j u _ hu hN
  obtain ⟨x, cx, e2, _⟩ := wdk_words hwk
  rw [e2] at hcell hwk
  cases e
  exact ⟨g, x, cx, e1, hcell, hwk⟩
theorem KLs.form {base m : Nat} {v : Value} {N : List Nat} {w : World} (h : KLs base v m N w) : ∃ ao cap, v = .slice ao N.length cap := by
  obtain ⟨l, h1, h2, _⟩ := h
  obtain ⟨ao, cap, e, _⟩ := h1.open
  exact ⟨ao, cap, by rw [e, h2]⟩
theorem wdk_same {m k k' : Nat} {u u' : Value} {w : World} (hm : m ≤ 1000000) (h : WdK m u k w) (h' : WdK m u' k' w) : Calls Try.prog 16 #[u, u'] w fun e w' => e = .returned (.bool (decide (k = k'))) ∧ ∃ n, w' = w.drewN n := by
  obtain ⟨c, h1, h2, h3⟩ := h
  obtain ⟨d, k1, k2, k3⟩ := h'
  have hs := same_any (h1.slice (by rw [wz_len]; exact hm)) (k1.slice (by rw [wz_len]; exact hm))
  have e : decide (wz m c = wz m d) = decide (k = k') := by
    by_cases e : k = k'
    · rw [decide_eq_true e]
      refine decide_eq_true (wz_eq.2 fun j hj => ?_)
      exact dnum_inj (q := 2) m (fun i _ => by have := h2 i; omega) (fun i _ => by have := k2 i; omega) (by rw [h3, k3, e]) j hj
    · rw [decide_eq_false e]
      refine decide_eq_false fun x => e ?_
      rw [← h3, ← k3]
      exact dnum_congr m (wz_eq.1 x)
  rw [e] at hs
  exact hs
theorem kl_push {base m : Nat} {v u : Value} {l : List Value} {N : List Nat} {k : Nat} {w w' : World} (h1 : OwnV base v l w) (h2 : l.length = N.length) (h3 : ∀ (j : Nat) (u : Value) (k : Nat), l[j]? = some u → N[j]? = some k → WdK m u k w) (hu : WdK m u k w) (hg : w.grownBy w' v.ownBlock) :
    (l ++ [u]).length = (N ++ [k]).length ∧ ∀ (j : Nat) (x : Value) (d : Nat), (l ++ [u])[j]? = some x → (N ++ [k])[j]? = some d → WdK m x d w' := by
  have keep : ∀ {x : Value} {d : Nat}, WdK m x d w → WdK m x d w' := fun {x d} hx => by
    obtain ⟨c, a1, a2⟩ := hx
    exact ⟨c, a1.kept hg (a1.apart h1), a2⟩
  refine ⟨by rw [List.length_append, List.length_append, h2]; rfl, fun j x d hx hd => ?_⟩
  by_cases e : j < l.length
  · rw [List.getElem?_append_left e] at hx
    rw [List.getElem?_append_left (by omega)] at hd
    exact keep (h3 j x d hx hd)
  · have e2 : j = l.length := by
      have := (List.getElem?_eq_some_iff.1 hx).1
      rw [List.length_append] at this
      have : j < l.length + 1 := this
      omega
    rw [e2, List.getElem?_append_right (Nat.le_refl _), Nat.sub_self] at hx
    rw [e2, h2, List.getElem?_append_right (Nat.le_refl _), Nat.sub_self] at hd
    cases hx
    cases hd
    exact keep hu
set_option maxHeartbeats 2000000 in
theorem rsort_none (vo : Option Addr) (vc : Nat) (w : World) : Calls Try.prog 18 #[.slice vo 0 vc] w fun e w' => e = .returned (.tuple #[]) ∧ w' = w := by
  go_enter Try.func18, Try.ntmps18
  go_wp2
  (try simp only [Exit.inBlock, Exit.then])
  refine bodyPost_ret (results_none rfl _ _ _) rfl ?_
  exact ⟨rfl, rfl⟩
/-- Sort of all words that come of f: in order. -/
theorem rsort_lost {l base : Nat} {f : Nat → Nat} (hf : ∀ j, f j ≤ 1) (hl : l ≤ 13) {v : Value} {w0 w : World} (hv : WLs base v (l - 1) (lsL f l) w) (hb : Below w0.heap.size w0 w) (hbase : w0.heap.size ≤ base) :
    Calls Try.prog 18 #[v] w fun e w' => e = .returned (.tuple #[]) ∧ Below w0.heap.size w0 w' ∧ ∃ N, N.length = l ∧ KLs base v (l - 1) N w' ∧ (∀ i j, i < j → j < N.length → N.getD i 0 ≤ N.getD j 0) ∧ ∀ x, (∃ j, j < N.length ∧ x = N.getD j 0) ↔ ∃ i, i < l ∧ x = dnum 2 (wo i f) (l - 1) := by
  have hll := lsL_len f l
  have mem_iff : ∀ {N : List Nat}, N.length = l → N.Perm ((lsL f l).map fun c => dnum 2 c (l - 1)) → ∀ x, (∃ j, j < N.length ∧ x = N.getD j 0) ↔ ∃ i, i < l ∧ x = dnum 2 (wo i f) (l - 1) := fun {N} _ hp x => by
    have hx : (∃ j, j < N.length ∧ x = N.getD j 0) ↔ x ∈ N := by
      constructor
      · rintro ⟨j, hj, e⟩
        rw [e, List.getD_eq_getElem?_getD, List.getElem?_eq_getElem hj]
        exact List.getElem_mem hj
      · intro h
        obtain ⟨j, hj, e⟩ := List.getElem_of_mem h
        exact ⟨j, hj, by rw [List.getD_eq_getElem?_getD, List.getElem?_eq_getElem hj]; exact e.symm⟩
    rw [hx, hp.mem_iff, List.mem_map]
    constructor
    · rintro ⟨c, hc, rfl⟩
      obtain ⟨i, hi, rfl⟩ := (lsL_mem l).1 hc
      exact ⟨i, hi, rfl⟩
    · rintro ⟨i, hi, rfl⟩
      exact ⟨wo i f, (lsL_mem l).2 ⟨i, hi, rfl⟩, rfl⟩
  by_cases h0 : l = 0
  · subst h0
    obtain ⟨vo, vc, rfl⟩ := hv.form
    refine Calls.mono (rsort_none vo vc w) ?_
    rintro e w' ⟨rfl, rfl⟩
    refine ⟨rfl, hb, [], rfl, ?_, fun i j _ h => absurd h (by simp), mem_iff (N := []) rfl (List.Perm.refl _)⟩
    obtain ⟨ll, a1, a2, _⟩ := hv
    exact ⟨ll, a1, a2, fun j u k hu _ => by rw [List.length_eq_zero_iff.1 a2] at hu; simp at hu⟩
  · have hbits : ∀ c ∈ lsL f l, ∀ j, c j ≤ 1 := fun c hc j => by
      obtain ⟨i, _, rfl⟩ := (lsL_mem l).1 hc
      unfold wo
      split <;> exact hf _
    obtain ⟨G, cap, vs, rfl, ho, hw⟩ := hv.rows hbits (by omega)
    rw [hll] at ho hw ⊢
    refine (rsort_any (l - 1) (by omega) l (Nat.le_refl _) (by omega) ho hw).mono ?_
    rintro e w' ⟨rfl, hs⟩
    obtain ⟨_, _, _, hbG, _⟩ := ho.bounds
    have hof : OfG G w w' := by obtain ⟨_, _, _, _, _, _, h⟩ := hs; exact h
    obtain ⟨N, hN1, hN2, hN3, hN4⟩ := hs.kls
    have hk := keys_list (lsL f l) (fun c => dnum 2 c (l - 1))
    rw [hll] at hk
    rw [hk] at hN2
    refine ⟨rfl, hof.bel _ _ hb (by omega), N, hN1, hN4, fun i j hij hj => ?_, mem_iff hN1 hN2⟩
    have h3 := List.pairwise_iff_getElem.1 hN3 i j (by omega) hj hij
    rw [List.getD_eq_getElem?_getD, List.getElem?_eq_getElem (by omega), List.getD_eq_getElem?_getD, List.getElem?_eq_getElem hj]
    exact h3
end Go.Proofs.Ytillljojdnofgaa
