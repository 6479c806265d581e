/- Words that may lose a bit: all that come of one, in order, each once (gap.Ball). -/
import Derived.Test.YtillljojdnofgaaZKI19
import Derived.Shelf.SlSortCmp.NoneTotal
namespace Go.Proofs.Ytillljojdnofgaa
open Go.Shelf Go.RowKit Go.Lib Go.Sort

/-- A list of words of m bits, by their numbers. -/
def KLs (base : Nat) (v : Value) (m : Nat) (N : List Nat) (w : World) : Prop := ∃ l, OwnV base v l w ∧ l.length = N.length ∧ ∀ (j : Nat) (u : Value) (k : Nat), l[j]? = some u → N[j]? = some k → WdK m u k w
theorem KLs.nil (base m : Nat) (w : World) : KLs base (.slice none 0 0) m [] w := ⟨[], OwnV.nil _ _, rfl, fun j u c h => by simp at h⟩
theorem KLs.below {base m : Nat} {v : Value} {N : List Nat} {w w' : World} (h : KLs base v m N w) (hb : Below w.heap.size w w') : KLs base v m N w' := by
  obtain ⟨l, h1, h2, h3⟩ := h
  exact ⟨l, h1.below hb (Nat.le_refl _), h2, fun j u k hu hk => (h3 j u k hu hk).below hb⟩
theorem wdk_words {m key : Nat} {u : Value} {w : World} (h : WdK m u key w) : ∃ x cx, u = .slice x m cx ∧ Sl x m (dgs 2 m key) w := by
  obtain ⟨c, h1, h2, h3⟩ := h
  obtain ⟨x, cx, e, ha⟩ := OwnI.argL (n := m) (y := fun j => ((c j : Nat) : Int)) h1
  refine ⟨x, cx, e, fun j hj => ?_⟩
  obtain ⟨b, off, e2, hc⟩ := ha.sl j hj
  refine ⟨b, off, e2, ?_⟩
  have hlt : dnum 2 c m < 2 ^ m := dnum_lt m fun i _ => by have := h2 i; omega
  have he := dnum_inj (q := 2) (c := dgs 2 m (dnum 2 c m)) (e := c) m (fun i _ => dgs_lt (by omega) i) (fun i _ => by have := h2 i; omega) (dnum_dgs (by omega) hlt) j hj
  rw [← h3, he]; exact hc
theorem KLs.rl {base m : Nat} {v : Value} {N : List Nat} {w : World} (h : KLs base v m N w) : RL v N.length m (fun i => dgs 2 m (N.getD i 0)) w := by
  obtain ⟨l, h1, h2, h3⟩ := h
  obtain ⟨ao, cap, e, _, _, _, hc⟩ := h1.open
  rw [h2] at e
  refine ⟨ao, cap, e, fun i hi => ?_⟩
  obtain ⟨u, hu⟩ : ∃ u, l[i]? = some u := ⟨_, List.getElem?_eq_getElem (by omega)⟩
  have hL : N[i]? = some (N.getD i 0) := by
    rw [List.getD_eq_getElem?_getD, List.getElem?_eq_getElem hi]; rfl
  obtain ⟨g, e1, hcell, _⟩ := hc i u hu
  obtain ⟨x, cx, rfl, ha⟩ := wdk_words (h3 i u _ hu hL)
  exact ⟨g, 0, x, cx, e1, by rw [Nat.zero_add]; exact hcell, ha⟩
/-- Each less than the next. -/
def Inc (N : List Nat) : Prop := List.Pairwise (fun a b => a < b) N
theorem inc_eq : ∀ {A B : List Nat}, Inc A → Inc B → (∀ x, x ∈ A ↔ x ∈ B) → A = B
  | [], [], _, _, _ => rfl
  | [], b :: B, _, _, h => absurd ((h b).2 (List.mem_cons_self ..)) (by simp)
  | a :: A, [], _, _, h => absurd ((h a).1 (List.mem_cons_self ..)) (by simp)
  | a :: A, b :: B, ha, hb, h => by
    have ha' := List.pairwise_cons.1 ha
    have hb' := List.pairwise_cons.1 hb
    have hab : a = b := by
      rcases List.mem_cons.1 ((h a).1 (List.mem_cons_self ..)) with e | e
      · exact e
      · rcases List.mem_cons.1 ((h b).2 (List.mem_cons_self ..)) with e2 | e2
        · exact e2.symm
        · have h1 := hb'.1 a e
          have h2 := ha'.1 b e2
          omega
    subst hab
    rw [inc_eq ha'.2 hb'.2 fun x => ?_]
    constructor
    · intro hx
      rcases List.mem_cons.1 ((h x).1 (List.mem_cons_of_mem _ hx)) with e | e
      · exact absurd (ha'.1 x hx) (by omega)
      · exact e
    · intro hx
      rcases List.mem_cons.1 ((h x).2 (List.mem_cons_of_mem _ hx)) with e | e
      · exact absurd (hb'.1 x hx) (by omega)
      · exact e
/-- All words that come of f by losing a bit, in order, each once. -/
def BlR (l : Nat) (f : Nat → Nat) (v : Value) (w : World) : Prop := ∃ N, Inc N ∧ (∀ x, x ∈ N ↔ ∃ i, i < l ∧ x = dnum 2 (wo i f) (l - 1)) ∧ N.length ≤ 1000 ∧ RL v N.length (l - 1) (fun i => dgs 2 (l - 1) (N.getD i 0)) w
theorem BlR.below {l : Nat} {f : Nat → Nat} {v : Value} {w w' : World} (h : BlR l f v w) (hb : Below w.heap.size w w') : BlR l f v w' := by
  obtain ⟨N, h1, h2, h3, h4⟩ := h
  exact ⟨N, h1, h2, h3, h4.below hb⟩
theorem BlR.same {l : Nat} {f : Nat → Nat} {v v' : Value} {w : World} (h : BlR l f v w) (h' : BlR l f v' w) (hl : l ≤ 13) :
    Calls Try.prog 11 #[v, .int .i64 0, v', .int .i64 0] w fun r w' => r = .returned (.bool true) ∧ ∃ n, w' = w.drewN n := by
  obtain ⟨N, h1, h2, h3, h4⟩ := h
  obtain ⟨N', k1, k2, k3, k4⟩ := h'
  have e : N = N' := inc_eq h1 k1 fun x => (h2 x).trans (k2 x).symm
  subst e
  exact lists_rl h4 k4 (by omega) (by omega)
/-- Words that come of a word at different runs have different numbers. -/
theorem wo_apart {l i j : Nat} {f : Nat → Nat} (hf : ∀ j, f j ≤ 1) (hij : i < j) (hj : j < l) (hd : f (j - 1) ≠ f j) : dnum 2 (wo i f) (l - 1) ≠ dnum 2 (wo j f) (l - 1) := fun e => by
  have hb : ∀ a, ∀ t, t < l - 1 → wo a f t < 2 := fun a t _ => by unfold wo; split <;> (have := hf t; have := hf (t + 1); omega)
  have h := dnum_inj (q := 2) (l - 1) (hb i) (hb j) e (j - 1) (by omega)
  unfold wo at h
  rw [if_neg (by omega), if_pos (by omega), show j - 1 + 1 = j by omega] at h
  exact hd h.symm
/-- The numbers of the words that come of f, run by run. -/
theorem srL_nodup {l : Nat} {f : Nat → Nat} (hf : ∀ j, f j ≤ 1) : ∀ k, k ≤ l → List.Pairwise (fun a b => a ≠ b) ((srL f k).map fun c => dnum 2 c (l - 1))
  | 0, _ => List.Pairwise.nil
  | k + 1, hk => by
    show List.Pairwise (fun a b => a ≠ b) ((srL f k ++ if k = 0 ∨ f (k - 1) ≠ f k then [wo k f] else []).map fun c => dnum 2 c (l - 1))
    rw [List.map_append, List.pairwise_append]
    refine ⟨srL_nodup hf k (by omega), ?_, fun a ha b hb => ?_⟩
    · split
      · exact List.pairwise_singleton _ _
      · exact List.Pairwise.nil
    · by_cases h0 : k = 0 ∨ f (k - 1) ≠ f k
      · rw [if_pos h0] at hb
        have hb : b ∈ [dnum 2 (wo k f) (l - 1)] := hb
        rw [List.mem_singleton] at hb
        obtain ⟨c, hc, rfl⟩ := List.mem_map.1 ha
        obtain ⟨i, hi, rfl⟩ := (srL_mem k).1 hc
        rw [hb]
        exact wo_apart hf hi (by omega) (h0.resolve_left (by omega))
      · rw [if_neg h0] at hb; cases hb
theorem WLs.rows {base m : Nat} {v : Value} {L : List (Nat → Nat)} {w : World} (h : WLs base v m L w) (hL : ∀ c ∈ L, ∀ j, c j ≤ 1) (h1 : 1 ≤ L.length) : ∃ G cap vs, v = .slice (some ⟨G, 0, none⟩) L.length cap ∧ OwnV base (.slice (some ⟨G, 0, none⟩) L.length cap) (vl L.length vs) w ∧ ∀ i, i < L.length → WdK m (vs i) (dnum 2 (L.getD i pnil) m) w := by
  obtain ⟨l, ho, hln, hels⟩ := h
  have hvl : vl L.length (fun i => l.getD i (.slice none 0 0)) = l := by
    apply List.ext_getElem?
    intro i
    by_cases hi : i < L.length
    · rw [vl_get _ _ i hi, List.getD_eq_getElem?_getD, List.getElem?_eq_getElem (by omega)]; rfl
    · rw [List.getElem?_eq_none (by rw [vl_len]; omega), List.getElem?_eq_none (by omega)]
  obtain ⟨ao, cap, e, _, _, _, hc⟩ := ho.open
  obtain ⟨u, hu⟩ : ∃ u, l[0]? = some u := ⟨_, List.getElem?_eq_getElem (by omega)⟩
  obtain ⟨G, e1, _⟩ := hc 0 u hu
  rw [e1, hln] at e
  subst e
  refine ⟨G, cap, fun i => l.getD i (.slice none 0 0), rfl, by rw [hvl]; exact ho, fun i hi => ?_⟩
  have hLi : L[i]? = some (L.getD i pnil) := by rw [List.getD_eq_getElem?_getD, List.getElem?_eq_getElem hi]; rfl
  have hli : l[i]? = some (l.getD i (.slice none 0 0)) := by rw [List.getD_eq_getElem?_getD, List.getElem?_eq_getElem (by omega)]; rfl
  exact ⟨L.getD i pnil, (hels i _ _ hli hLi).mono (Nat.zero_le _), hL _ (List.mem_of_getElem? hLi), rfl⟩
theorem PLf_keys (vs : Nat → Value) (ks : Nat → Nat) (n : Nat) : (PLf vs ks 0 n).map Prod.snd = (List.range n).map ks := by
  unfold PLf
  rw [List.map_map]
  exact List.map_congr_left fun t _ => by show ks (0 + t) = ks t; rw [Nat.zero_add]
theorem keys_list (L : List (Nat → Nat)) (g : (Nat → Nat) → Nat) : (List.range L.length).map (fun i => g (L.getD i pnil)) = L.map g := by
  apply List.ext_getElem?
  intro i
  by_cases hi : i < L.length
  · rw [List.getElem?_map, List.getElem?_range hi, List.getElem?_map, List.getElem?_eq_getElem hi]
    show some (g (L.getD i pnil)) = some (g L[i])
    rw [List.getD_eq_getElem?_getD, List.getElem?_eq_getElem hi]; rfl
  · rw [List.getElem?_eq_none (by simp; omega), List.getElem?_eq_none (by simp; omega)]
theorem SrP.kls {m base G K cap : Nat} {vs : Nat → Value} {ks : Nat → Nat} {w w' : World} (h : SrP m base G K cap vs ks w w') : ∃ N, N.length = K ∧ N.Perm ((List.range K).map ks) ∧ List.Pairwise (fun a b => a ≤ b) N ∧ KLs base (.slice (some ⟨G, 0, none⟩) K cap) m N w' := by
  obtain ⟨us, js, h1, h2, h3, h4, h5⟩ := h
  refine ⟨(List.range K).map js, by simp, ?_, ?_, vl K us, h1, by rw [vl_len]; simp, fun j u k hu hk => ?_⟩
  · have := h2.map Prod.snd
    rw [PLf_keys, PLf_keys] at this
    exact this
  · rw [List.pairwise_map]
    refine List.Pairwise.imp_of_mem (fun {a b} ha hb hab => h3 a b hab (List.mem_range.1 hb)) List.pairwise_lt_range
  · have hj : j < K := by
      have := (List.getElem?_eq_some_iff.1 hu).1
      rwa [vl_len] at this
    rw [vl_get K us j hj] at hu
    rw [List.getElem?_map, List.getElem?_range hj] at hk
    cases hu
    cases hk
    exact h4 j hj
theorem pair_lt {N : List Nat} (h1 : List.Pairwise (fun a b => a ≤ b) N) (h2 : List.Pairwise (fun a b => a ≠ b) N) : Inc N := (h1.and h2).imp fun ⟨a, b⟩ => Nat.lt_of_le_of_ne a b

set_option maxHeartbeats 4000000 in
set_option maxRecDepth 100000 in
theorem gball_ok {ao : Option Addr} {l ca : Nat} {f : Nat → Nat} {w : World} (hA : ArgL ao l ca (fun j => ((f j : Nat) : Int)) w) (hl : gwchk l (fun j => ((f j : Nat) : Int)) = 0) (hf : ∀ j, f j ≤ 1) :
    Calls Try.prog 19 #[.slice ao l ca] w fun e w' => ∃ v, e = .returned (.tuple #[v, .int .i64 0]) ∧ BlR l f v w' ∧ Below w.heap.size w w' := by
  have hl13 := (gwchk_ok hl).1
  have HK : Hid (Calls Try.prog 15 #[.slice ao l ca] w fun e w' => e = .returned (.int .i64 0) ∧ w' = w) := by
    have h := gCheck_any (cap := ca) hA.sl (by omega)
    rw [hl] at h; exact h
  have hbits : ∀ c ∈ srL f l, ∀ j, c j ≤ 1 := fun c hc j => by
    obtain ⟨i, _, rfl⟩ := (srL_mem l).1 hc
    unfold wo
    split <;> exact hf _
  have HSh : Hid (Calls Try.prog 56 #[.slice ao l ca] w fun e w' => ∃ v, e = .returned v ∧ WLs w.heap.size v (l - 1) (srL f l) w' ∧ Below w.heap.size w w') := shorter_any hA (by omega)
  have hlen := srL_len f l
  have HSo : Hid (∀ (v : Value) (w1 : World), WLs w.heap.size v (l - 1) (srL f l) w1 → Below w.heap.size w w1 → Calls Try.prog 57 #[v, .func (.func 58) #[] #[]] w1 fun e w' => e = .returned (.tuple #[]) ∧ BlR l f v w' ∧ Below w.heap.size w w') := fun v w1 hv hb => by
    have hmem : ∀ {N : List Nat}, N.Perm ((srL f l).map fun c => dnum 2 c (l - 1)) → ∀ x, x ∈ N ↔ ∃ i, i < l ∧ x = dnum 2 (wo i f) (l - 1) := fun hp x => by
      rw [hp.mem_iff, List.mem_map]
      constructor
      · rintro ⟨c, hc, rfl⟩
        obtain ⟨i, hi, rfl⟩ := (srL_mem l).1 hc
        exact ⟨i, hi, rfl⟩
      · rintro ⟨i, hi, rfl⟩
        exact ⟨wo i f, (srL_mem l).2 ⟨i, hi, rfl⟩, rfl⟩
    by_cases h0 : (srL f l).length = 0
    · obtain ⟨vo, vc, rfl⟩ := hv.form
      rw [h0]
      have hnil : srL f l = [] := List.length_eq_zero_iff.1 h0
      refine (AnyF.slices_SortFunc_none { sortL with } vo vc _ w1).mono ?_
      rintro e w' ⟨rfl, rfl⟩
      refine ⟨rfl, ⟨[], List.Pairwise.nil, hmem (by rw [hnil]; exact List.Perm.refl _), Nat.zero_le _, vo, vc, rfl, fun i hi => absurd hi (by simp)⟩, hb⟩
    · obtain ⟨G, cap, vs, rfl, ho, hw⟩ := hv.rows hbits (by omega)
      refine (ssort_any (by omega) (by omega) (by omega) ho hw).mono ?_
      rintro e w' ⟨rfl, hs⟩
      obtain ⟨_, _, _, hbG, _⟩ := ho.bounds
      have hof : OfG G w1 w' := by obtain ⟨_, _, _, _, _, _, h⟩ := hs; exact h
      obtain ⟨N, hN1, hN2, hN3, hN4⟩ := hs.kls
      rw [keys_list (srL f l) (fun c => dnum 2 c (l - 1))] at hN2
      refine ⟨rfl, ⟨N, pair_lt hN3 (hN2.symm.pairwise (srL_nodup hf l (Nat.le_refl _)) fun h => h.symm), hmem hN2, by omega, by have h := hN4.rl; rw [hN1] at h ⊢; exact h⟩, hof.bel _ _ hb hbG⟩
  clear hA hl hbits hlen
  go_enter Try.func19, Try.ntmps19
  go_wp2_with fail
  refine HK.out.mono ?_
  rintro e w' ⟨rfl, hw⟩
  have hw := hw.symm
  subst hw
  go_wp2_with fail
  refine HSh.out.mono ?_
  rintro e w1 ⟨v1, rfl, hw1, hb1⟩
  have HS1 : Hid (Calls Try.prog 57 #[v1, .func (.func 58) #[] #[]] w1 fun e w' => e = .returned (.tuple #[]) ∧ BlR l f v1 w' ∧ Below w.heap.size w w') := HSo.out v1 w1 hw1 hb1
  clear hw1 hb1
  go_wp2_with fail
  refine HS1.out.mono ?_
  rintro e w2 ⟨rfl, hbl, hb2⟩
  have H2 : Hid (BlR l f v1 w2 ∧ Below w.heap.size w w2) := ⟨hbl, hb2⟩
  clear hbl hb2
  go_wp2
  go_ret2
  exact ⟨_, rfl, H2.out⟩
set_option maxHeartbeats 4000000 in
set_option maxRecDepth 100000 in
theorem gball_err {ao : Option Addr} {l ca : Nat} {z : Nat → Int} {w : World} (hS : SlZ ao l z w) (hl : l ≤ 1000000) (hW : gwchk l z ≠ 0) :
    Calls Try.prog 19 #[.slice ao l ca] w fun e w' => e = .returned (.tuple #[.slice none 0 0, .int .i64 (gwchk l z)]) ∧ w' = w := by
  obtain ⟨E, hEe⟩ : ∃ E, E = gwchk l z := ⟨_, rfl⟩
  have HK : Hid (Calls Try.prog 15 #[.slice ao l ca] w fun e w' => e = .returned (.int .i64 E) ∧ w' = w) := by rw [hEe]; exact gCheck_any hS hl
  rw [← hEe] at hW ⊢
  have z0 : (E != 0) = true := bne_iff_ne.2 hW
  clear hEe hW hS
  go_enter Try.func19, Try.ntmps19
  go_wp2_with fail
  refine HK.out.mono ?_
  rintro e w' ⟨rfl, hw⟩
  have hw := hw.symm
  subst hw
  go_wp2
  go_ret2
  exact ⟨rfl, rfl⟩
end Go.Proofs.Ytillljojdnofgaa
