/- Texts of ours, one behind the other: S26 KC1. -/
import Derived.Test.YtcgmllamiaflcaaZI4
import Derived.Test.YtcgmllamiaflcaaZS24
import Derived.Test.YtcgmllamiaflcaaZZ9
import Derived.Test.YtcgmllamiaflcaaZL1
import Derived.Test.YtcgmllamiaflcaaZH2
/- Plain mathematics of near messages: which are told; how many (Johnson). -/
namespace Go.Proofs.Ytcgmllamiaflcaa
open Go.RowKit Go.Sort

/-- A message's word differs at r places at most. -/
def nrB (D : FD) (k n : Nat) (xs y : Nat → Nat) (r : Int) (m : Nat → Nat) : Bool := decide (((ct (fun i => !decide (D.ev m (xs i) k = y i)) n : Nat) : Int) ≤ r)
theorem nrL_eq {D : FD} {k1 n : Nat} {xs y : Nat → Nat} {r : Int} : ∀ N, nrL D k1 n xs y r N = ((List.range N).filter fun a => nrB D (k1 + 1) n xs y r (dgs D.q (k1 + 1) a)).map fun a => (k1, dgs D.q (k1 + 1) a)
  | 0 => rfl
  | N + 1 => by
    show nrL D k1 n xs y r N ++ (if _ then _ else _) = _
    rw [nrL_eq N, List.range_succ, List.filter_append, List.map_append]
    congr 1
    by_cases h : ((ct (fun i => !decide (D.ev (dgs D.q (k1 + 1) N) (xs i) (k1 + 1) = y i)) n : Nat) : Int) ≤ r
    · have e : nrB D (k1 + 1) n xs y r (dgs D.q (k1 + 1) N) = true := decide_eq_true h
      rw [if_pos h]
      simp [e]
    · have e : nrB D (k1 + 1) n xs y r (dgs D.q (k1 + 1) N) = false := decide_eq_false h
      rw [if_neg h]
      simp [e]
theorem nrB_congr {D : FD} {k n : Nat} {xs y m m' : Nat → Nat} {r : Int} (h : ∀ j, j < k → m j = m' j) : nrB D k n xs y r m = nrB D k n xs y r m' := by
  unfold nrB
  have e : (fun i => !decide (D.ev m (xs i) k = y i)) = fun i => !decide (D.ev m' (xs i) k = y i) := by
    funext i
    rw [ev_congr (xs i) k h]
  rw [e]
theorem dgs_bd (q k a : Nat) : Bd k (dgs q k a) := fun j hj => by unfold dgs; rw [if_neg (by omega)]
theorem dgs_inj {q k1 a b : Nat} (hk : k1 ≤ 1) (ha : a < q ^ (k1 + 1)) (hb : b < q ^ (k1 + 1)) (h : ∀ j, j < k1 + 1 → dgs q (k1 + 1) a j = dgs q (k1 + 1) b j) : a = b := by
  have hc : k1 = 0 ∨ k1 = 1 := by omega
  rcases hc with rfl | rfl
  · have h0 := h 0 (by omega)
    unfold dgs at h0
    rw [if_pos (by omega), if_pos (by omega)] at h0
    simp at h0 ha hb
    rw [Nat.mod_eq_of_lt ha, Nat.mod_eq_of_lt hb] at h0
    exact h0
  · have h0 := h 0 (by omega)
    have h1 := h 1 (by omega)
    unfold dgs at h0 h1
    rw [if_pos (by omega), if_pos (by omega)] at h0 h1
    simp at h0 h1
    have ha2 : a < q * q := by rw [Nat.pow_succ, Nat.pow_one] at ha; exact ha
    have hb2 : b < q * q := by rw [Nat.pow_succ, Nat.pow_one] at hb; exact hb
    rw [Nat.mod_eq_of_lt (Nat.div_lt_of_lt_mul ha2), Nat.mod_eq_of_lt (Nat.div_lt_of_lt_mul hb2)] at h0
    rw [← Nat.div_add_mod a q, ← Nat.div_add_mod b q, h0, h1]
theorem dgs_of {q k1 : Nat} (hk : k1 ≤ 1) {m : Nat → Nat} (hm : ∀ j, m j < q) : ∃ a, a < q ^ (k1 + 1) ∧ ∀ j, j < k1 + 1 → dgs q (k1 + 1) a j = m j := by
  have hc : k1 = 0 ∨ k1 = 1 := by omega
  rcases hc with rfl | rfl
  · refine ⟨m 0, by simpa using hm 0, fun j hj => ?_⟩
    have : j = 0 := by omega
    subst this
    unfold dgs
    rw [if_pos (by omega)]
    simp
    exact Nat.mod_eq_of_lt (hm 0)
  · have h0 := hm 0
    have h1 := hm 1
    refine ⟨m 0 * q + m 1, ?_, fun j hj => ?_⟩
    · rw [Nat.pow_succ, Nat.pow_one]
      have : m 0 * q + q ≤ q * q := by
        rw [← Nat.succ_mul]
        exact Nat.mul_le_mul_right q h0
      omega
    · have hc : j = 0 ∨ j = 1 := by omega
      unfold dgs
      rw [if_pos (by omega)]
      rcases hc with rfl | rfl
      · simp
        rw [Nat.add_comm, Nat.add_mul_div_right _ _ (by omega), Nat.div_eq_of_lt h1, Nat.zero_add]
        exact Nat.mod_eq_of_lt h0
      · simp
        rw [Nat.mod_eq_of_lt h1]
/-- A message is told just if it is near. -/
theorem near_told {D : FD} {k1 n : Nat} {xs y : Nat → Nat} {r : Int} (hk : k1 ≤ 1) {m : Nat → Nat} (hm : El D m) : nrB D (k1 + 1) n xs y r m = true ↔ ∃ p ∈ nrL D k1 n xs y r (D.q ^ (k1 + 1)), (zl (p.1 + 1) fun j => ((p.2 j : Nat) : Int)) = zl (k1 + 1) fun j => ((m j : Nat) : Int) := by
  rw [nrL_eq]
  constructor
  · intro h
    obtain ⟨a, ha, he⟩ := dgs_of hk hm
    refine ⟨(k1, dgs D.q (k1 + 1) a), List.mem_map.2 ⟨a, List.mem_filter.2 ⟨List.mem_range.2 ha, ?_⟩, rfl⟩, zl_congr fun j hj => ?_⟩
    · show nrB D (k1 + 1) n xs y r (dgs D.q (k1 + 1) a) = true
      rw [nrB_congr he]; exact h
    · show ((dgs D.q (k1 + 1) a j : Nat) : Int) = _
      rw [he j hj]
  · rintro ⟨p, hp, he⟩
    obtain ⟨a, ha, rfl⟩ := List.mem_map.1 hp
    have h2 := (List.mem_filter.1 ha).2
    have e : ∀ j, j < k1 + 1 → dgs D.q (k1 + 1) a j = m j := fun j hj => by
      have h3 : (zl (k1 + 1) fun j => ((dgs D.q (k1 + 1) a j : Nat) : Int))[j]? = (zl (k1 + 1) fun j => ((m j : Nat) : Int))[j]? := by rw [he]
      rw [zl_get _ _ _ hj, zl_get _ _ _ hj] at h3
      have := Option.some.inj h3
      omega
    rw [← nrB_congr e]; exact h2
theorem nr_agree {D : FD} {k n r : Nat} {xs y m : Nat → Nat} (h : nrB D k n xs y (r : Int) m = true) : n - r ≤ ct (fun i => decide (D.ev m (xs i) k = y i)) n := by
  have h1 := of_decide_eq_true h
  have h2 := ct_not (fun i => decide (D.ev m (xs i) k = y i)) n
  omega
/-- What is told of near messages, one by one. -/
theorem near_each {D : FD} (hD : D ∈ fieldsL) {k1 n r N : Nat} {xs y : Nat → Nat} {p : Nat × (Nat → Nat)} (hp : p ∈ nrL D k1 n xs y (r : Int) N) : p.1 = k1 ∧ El D p.2 ∧ Bd (k1 + 1) p.2 ∧ n - r ≤ ct (fun i => decide (D.ev p.2 (xs i) (k1 + 1) = y i)) n := by
  rw [nrL_eq] at hp
  obtain ⟨a, ha, rfl⟩ := List.mem_map.1 hp
  exact ⟨rfl, dgs_el (fld hD) _ _, dgs_bd _ _ _, nr_agree (List.mem_filter.1 ha).2⟩
/-- There are no more than Johnson's bound. -/
theorem near_few {D : FD} (hD : D ∈ fieldsL) {k1 n r : Nat} (hk : k1 ≤ 1) {xs y : Nat → Nat} (hx : ∀ i, i < n → xs i < D.q) (hne : ∀ i j, i < n → j < n → i ≠ j → xs i ≠ xs j) {t : Nat} (ht : t = n - r) (hj : n * k1 < t * t) : ((nrL D k1 n xs y (r : Int) (D.q ^ (k1 + 1))).length : Int) * ((t : Int) * t - (n : Int) * k1) ≤ (n : Int) * ((t : Int) - k1) := by
  have F := fld hD
  obtain ⟨I, hI⟩ : ∃ I, I = (List.range (D.q ^ (k1 + 1))).filter fun a => nrB D (k1 + 1) n xs y r (dgs D.q (k1 + 1) a) := ⟨_, rfl⟩
  have hL : (nrL D k1 n xs y (r : Int) (D.q ^ (k1 + 1))).length = I.length := by rw [nrL_eq, List.length_map, hI]
  have hpw : I.Pairwise (· < ·) := by rw [hI]; exact List.Pairwise.filter _ List.pairwise_lt_range
  have hmem : ∀ l (hl : l < I.length), I[l] < D.q ^ (k1 + 1) ∧ nrB D (k1 + 1) n xs y r (dgs D.q (k1 + 1) I[l]) = true := fun l hl => by
    have h : I[l] ∈ (List.range (D.q ^ (k1 + 1))).filter fun a => nrB D (k1 + 1) n xs y r (dgs D.q (k1 + 1) a) := by rw [← hI]; exact List.getElem_mem hl
    exact ⟨List.mem_range.1 (List.mem_filter.1 h).1, (List.mem_filter.1 h).2⟩
  have hget : ∀ l (hl : l < I.length), I.getD l 0 = I[l] := fun l hl => by rw [List.getD_eq_getElem?_getD, List.getElem?_eq_getElem hl]; rfl
  rw [hL]
  refine johnson (B := fun l i => decide (D.ev (dgs D.q (k1 + 1) (I.getD l 0)) (xs i) (k1 + 1) = y i)) (fun l hl => ?_) (fun l m hl hm hlm => ?_) (by omega) hj
  · show t ≤ ct (fun i => decide (D.ev (dgs D.q (k1 + 1) (I.getD l 0)) (xs i) (k1 + 1) = y i)) n
    rw [ht, hget l hl]
    exact nr_agree (hmem l hl).2
  · have hab : I[l] ≠ I[m] := by
      have h1 := List.pairwise_iff_getElem.1 hpw
      by_cases e : l < m
      · have := h1 l m hl hm e; omega
      · have := h1 m l hm hl (by omega); omega
    have hfar := far_apart F hx hne (dgs_el F (k1 + 1) I[l]) (dgs_el F (k1 + 1) I[m]) (dgs_bd _ _ _) (dgs_bd _ _ _) (fun e => hab (dgs_inj hk (hmem l hl).1 (hmem m hm).1 (fun j _ => congrFun e j)))
    have h2 := ct_not (fun i => decide (D.ev (dgs D.q (k1 + 1) I[l]) (xs i) (k1 + 1) = D.ev (dgs D.q (k1 + 1) I[m]) (xs i) (k1 + 1))) n
    have h3 : ct (fun i => decide (D.ev (dgs D.q (k1 + 1) (I.getD l 0)) (xs i) (k1 + 1) = y i) && decide (D.ev (dgs D.q (k1 + 1) (I.getD m 0)) (xs i) (k1 + 1) = y i)) n ≤ ct (fun i => decide (D.ev (dgs D.q (k1 + 1) I[l]) (xs i) (k1 + 1) = D.ev (dgs D.q (k1 + 1) I[m]) (xs i) (k1 + 1))) n := ct_mono n fun i _ he => by
      rw [hget l hl, hget m hm, Bool.and_eq_true] at he
      exact decide_eq_true ((of_decide_eq_true he.1).trans (of_decide_eq_true he.2).symm)
    refine Nat.le_trans h3 ?_
    omega
end Go.Proofs.Ytcgmllamiaflcaa

/- Lists of lists as matrices; Holds of the reference. -/
namespace Go.Proofs.Ytcgmllamiaflcaa
open Go.RowKit Go.Sort

theorem LLs.mat {base : Nat} {v : Value} {L : List (Nat × (Nat → Nat))} {w : World} (h : LLs base v L w) (hp : ∀ p ∈ L, p.1 + 1 ≤ 1000000) : ∃ ao cap A C, v = .slice ao L.length cap ∧ MatZ ao L.length A (fun i => (L.getD i (0, pnil)).1 + 1) C (fun i j => (((L.getD i (0, pnil)).2 j : Nat) : Int)) w := by
  obtain ⟨l, h1, h2⟩ := h
  obtain ⟨ao, cap, hv, _, _, _, hc⟩ := h1.open
  have key : ∀ i, i < L.length → ∃ b cp, l.getD i (.bool false) = .slice (some ⟨b, 0, none⟩) ((L.getD i (0, pnil)).1 + 1) cp ∧ (L.getD i (0, pnil)).1 + 1 ≤ cp ∧ cp ≤ 9223372036854775807 ∧ Row b ((L.getD i (0, pnil)).1 + 1) (L.getD i (0, pnil)).2 w ∧ (L.getD i (0, pnil)).1 + 1 ≤ 1000000 ∧ ∃ g, ao = some ⟨g, 0, none⟩ ∧ w.cell? ⟨g, i, none⟩ = some (l.getD i (.bool false)) := fun i hi => by
    have e1 : L[i]? = some L[i] := List.getElem?_eq_getElem hi
    have hi2 : i < l.length := by rw [h2.1]; exact hi
    have e2 : l[i]? = some l[i] := List.getElem?_eq_getElem hi2
    have e3 : L.getD i (0, pnil) = L[i] := by rw [List.getD_eq_getElem?_getD, e1]; rfl
    have e4 : l.getD i (.bool false) = l[i] := by rw [List.getD_eq_getElem?_getD, e2]; rfl
    obtain ⟨b, cp, a1, a2, a3, a4⟩ := h2.2 i _ _ e2 e1
    obtain ⟨g, a5, a6, _⟩ := hc i _ e2
    rw [e3, e4]
    exact ⟨b, cp, a1, a2, a3, a4, hp _ (List.getElem_mem hi), g, a5, a6⟩
  refine ⟨ao, cap, fun i => match l.getD i (.bool false) with | .slice a _ _ => a | _ => none, fun i => match l.getD i (.bool false) with | .slice _ _ c => c | _ => 0, by rw [hv, h2.1], fun i hi => ?_, fun i hi => ?_, fun i hi => ?_, fun i hi => ?_, fun i hi => ?_, fun i hi => ?_⟩
  · obtain ⟨b, cp, e, _, _, _, _, g, e2, e3⟩ := key i hi
    refine ⟨g, 0, e2, ?_⟩
    rw [Nat.zero_add, e3]
    show some (l.getD i (.bool false)) = some (.slice (match l.getD i (.bool false) with | .slice a _ _ => a | _ => none) _ (match l.getD i (.bool false) with | .slice _ _ c => c | _ => 0))
    rw [e]
  · obtain ⟨b, cp, e, _, _, hr, _⟩ := key i hi
    show SlZ (match l.getD i (.bool false) with | .slice a _ _ => a | _ => none) _ _ w
    rw [e]
    exact hr.sl (Nat.le_refl _)
  · obtain ⟨b, cp, e, h1, _⟩ := key i hi
    show _ ≤ (match l.getD i (.bool false) with | .slice _ _ c => c | _ => 0)
    rw [e]; exact h1
  · obtain ⟨b, cp, e, _, h1, _⟩ := key i hi
    show (match l.getD i (.bool false) with | .slice _ _ c => c | _ => 0) ≤ _
    rw [e]; exact h1
  · obtain ⟨b, cp, e, _⟩ := key i hi
    show (match l.getD i (.bool false) with | .slice a _ _ => a | _ => none) = none → _
    rw [e]
    intro h; cases h
  · obtain ⟨b, cp, e, _, _, _, h1, _⟩ := key i hi
    exact h1
/-- One list of lists, to be handed in. -/
theorem LLs.item {base n cap : Nat} {ao : Option Addr} {L : List (Nat × (Nat → Nat))} {w : World} (h : LLs base (.slice ao n cap) L w) (hp : ∀ p ∈ L, p.1 + 1 ≤ 1000000) {j : Nat} {p : Nat × (Nat → Nat)} (hj : L[j]? = some p) : ∃ g b cp, ao = some ⟨g, 0, none⟩ ∧ w.cell? ⟨g, j, none⟩ = some (.slice (some ⟨b, 0, none⟩) (p.1 + 1) cp) ∧ Arg (some ⟨b, 0, none⟩) (p.1 + 1) cp (fun j => ((p.2 j : Nat) : Int)) w := by
  obtain ⟨l, h1, h2⟩ := h
  obtain ⟨ao', cap', e, _, _, _, hc⟩ := h1.open
  cases e
  have hjl : j < L.length := (List.getElem?_eq_some_iff.1 hj).1
  have hi2 : j < l.length := by rw [h2.1]; exact hjl
  have e2 : l[j]? = some l[j] := List.getElem?_eq_getElem hi2
  obtain ⟨b, cp, a1, a2, a3, a4⟩ := h2.2 j _ _ e2 hj
  obtain ⟨g, a5, a6, _⟩ := hc j _ e2
  rw [a1] at a6
  have hm : p ∈ L := List.mem_of_getElem? hj
  exact ⟨g, b, cp, a5, a6, a4.sl (Nat.le_refl _), fun x hx => (by cases hx; exact a4.lt), hp p hm, fun e => (by cases e), a2, a3⟩

set_option maxHeartbeats 2000000 in
set_option maxRecDepth 100000 in
theorem rholds_any {base : Nat} {v u : Value} {L : List (Nat × (Nat → Nat))} {lm : List Int} {w : World} (hL : LLs base v L w) (hu : SliceI u lm w) (hl : L.length ≤ 1000000) (hp : ∀ p ∈ L, p.1 + 1 ≤ 1000000) (b : Bool) (hb : b = true ↔ ∃ p ∈ L, (zl (p.1 + 1) fun j => ((p.2 j : Nat) : Int)) = lm) :
    Calls Try.prog 24 #[v, u] w fun e w' => e = .returned (.bool b) ∧ ∃ n, w' = w.drewN n := by
  obtain ⟨l, ho, he⟩ := hL
  obtain ⟨ao, ca, rfl, _, _, _, hc⟩ := ho.open
  rw [he.1]
  have HC : Hid (Elms l L w ∧ (∀ p ∈ L, p.1 + 1 ≤ 1000000) ∧ (∀ (j : Nat) (u : Value), l[j]? = some u → ∃ g, ao = some ⟨g, 0, none⟩ ∧ w.cell? ⟨g, j, none⟩ = some u ∧ w.frozen? ⟨g, j, none⟩ = false) ∧ SliceI u lm w ∧ (b = true ↔ ∃ p ∈ L, (zl (p.1 + 1) fun j => ((p.2 j : Nat) : Int)) = lm)) := ⟨he, hp, hc, hu, hb⟩
  clear he hp hc ho hu hb
  go_enter Try.func24, Try.ntmps24
  go_wp2
  go_loopw [5] (fun i wr => ∃ r : Nat, r ≤ L.length ∧ i = .int .i64 r ∧ Hid (∀ j, j < r → ∀ p, L[j]? = some p → (zl (p.1 + 1) fun j => ((p.2 j : Nat) : Int)) ≠ lm) ∧ ∃ n, wr = w.drewN n) (fun i _ => L.length - (intOf i).toNat)
  case atStart => exact ⟨0, by omega, rfl, fun j hj => absurd hj (by omega), 0, rfl⟩
  case round =>
    obtain ⟨r, hr, rfl, HN, n, rfl⟩ := hrel
    by_cases hlt : r < L.length
    · have h1 := HC.out.1.1
      obtain ⟨p, hp⟩ : ∃ p, L[r]? = some p := ⟨L[r], List.getElem?_eq_getElem hlt⟩
      obtain ⟨v, hv⟩ : ∃ v, l[r]? = some v := ⟨l[r]'(by omega), List.getElem?_eq_getElem _⟩
      obtain ⟨g, rfl, hc, _⟩ := HC.out.2.2.1 r v hv
      have hpl := HC.out.2.1 p (List.mem_of_getElem? hp)
      have hc : (w.drewN n).cell? ⟨g, r, none⟩ = some v := hc
      have hib : (r : Int) < (L.length : Int) := by omega
      have hib0 : (0 : Int) ≤ (r : Int) := by omega
      obtain ⟨t, ht⟩ : ∃ t : Bool, t = decide ((zl (p.1 + 1) fun j => ((p.2 j : Nat) : Int)) = lm) := ⟨_, rfl⟩
      have HS : Hid (Calls Try.prog 15 #[v, u] (w.drewN n) fun e w' => e = .returned (.bool t) ∧ ∃ m, w' = (w.drewN n).drewN m) := by
        show Calls _ _ _ _ _
        rw [ht]
        exact same_any ((HC.out.1.2 r v p hv hp).sliceI hpl) HC.out.2.2.2.1
      have HP : Hid (L[r]? = some p ∧ t = decide ((zl (p.1 + 1) fun j => ((p.2 j : Nat) : Int)) = lm)) := ⟨hp, ht⟩
      clear h1 hp hv hpl ht
      go_wp2_with fail
      refine HS.out.mono ?_
      rintro e w2 ⟨rfl, m, rfl⟩
      cases t
      · have HN2 : Hid (∀ j, j < r + 1 → ∀ p, L[j]? = some p → (zl (p.1 + 1) fun j => ((p.2 j : Nat) : Int)) ≠ lm) := fun j hj p' hp' => by
          by_cases e : j = r
          · subst e
            have h1 := HP.out.1
            rw [hp'] at h1
            cases h1
            exact of_decide_eq_false HP.out.2.symm
          · exact HN.out j (by omega) p' hp'
        go_wp2
        go_roundw
        case rel => exact ⟨r + 1, by omega, by go_num, HN2.out, _, by first | rfl | rw [World.drewN_drewN]⟩
        case measure => simp [intOf]; omega
      · have HB : Hid (b = true) := HC.out.2.2.2.2.2 ⟨p, List.mem_of_getElem? HP.out.1, of_decide_eq_true HP.out.2.symm⟩
        go_wp2
        go_ret
        exact ⟨by rw [HB.out]; rfl, _, by first | rfl | rw [World.drewN_drewN]⟩
    · have hib : ¬ (r : Int) < (L.length : Int) := by omega
      have HB : Hid (b = false) := by
        show b = false
        cases hb2 : b
        · rfl
        · obtain ⟨p, hp, he⟩ := HC.out.2.2.2.2.1 hb2
          obtain ⟨j, hj, e⟩ := List.getElem_of_mem hp
          exact absurd he (HN.out j (by omega) p (by rw [List.getElem?_eq_getElem hj, e]))
      go_wp2
      go_ret
      exact ⟨by rw [HB.out]; rfl, _, rfl⟩
end Go.Proofs.Ytcgmllamiaflcaa
