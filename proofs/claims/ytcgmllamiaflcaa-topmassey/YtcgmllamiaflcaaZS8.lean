/- Plain mathematics: the shortest rule of a list (Berlekamp and Massey). -/
import Derived.Test.YtcgmllamiaflcaaZV7
namespace Go.Proofs.Ytcgmllamiaflcaa

theorem psub_is {D : FD} (F : Fld D) {u v : Nat → Nat} (hv : El D v) : psub D u v = padd D u (pscale D (D.ng 1) v) := by
  funext i
  show D.sb (u i) (v i) = D.ad (u i) (D.mul (D.ng 1) (v i))
  rw [F.mul_comm, mul_ng F (one_lt' F), mul1 F (hv i)]
  rfl
theorem pmul_sub_l {D : FD} (F : Fld D) {a a' b : Nat → Nat} (ha : El D a) (ha' : El D a') (n : Nat) : pmul D n (psub D a a') b = psub D (pmul D n a b) (pmul D n a' b) := by
  rw [psub_is F ha', pmul_add_l F ha (el_scale F _ _), pmul_scale_l F, ← psub_is F (el_mul F _ _ _)]
/-- A product's number where but the last of the other's numbers count. -/
theorem pmul_last {D : FD} (F : Fld D) {a X : Nat → Nat} (hX : El D X) {N : Nat} : ∀ n, (∀ k, 1 ≤ k → k < n + 1 → k ≤ N → X (N - k) = 0) → pmul D (n + 1) a X N = D.mul (a 0) (X N)
  | 0, _ => by
    show D.ad (pnil N) (psh 0 (pscale D (a 0) X) N) = _
    rw [psh_zero]
    exact zero_ad F (F.mul_lt _ _)
  | n + 1, h => by
    show D.ad (pmul D (n + 1) a X N) (psh (n + 1) (pscale D (a (n + 1)) X) N) = _
    rw [pmul_last F hX n (fun k h1 h2 h3 => h k h1 (by omega) h3)]
    have e : psh (n + 1) (pscale D (a (n + 1)) X) N = 0 := by
      unfold psh
      by_cases hn : n + 1 ≤ N
      · rw [if_pos hn]
        show D.mul (a (n + 1)) (X (N - (n + 1))) = 0
        rw [h (n + 1) (by omega) (by omega) hn, mul0 F]
      · rw [if_neg hn]
    rw [e, ad_zero F (F.mul_lt _ _)]
/-- The rule C of length L holds for the first N numbers of s. -/
def Gen (D : FD) (s C : Nat → Nat) (L N : Nat) : Prop := ∀ t, L ≤ t → t < N → pmul D (L + 1) C s t = 0
/-- A rule of length L. -/
structure Rul (D : FD) (C : Nat → Nat) (L : Nat) : Prop where
  el : El D C
  bd : Bd (L + 1) C
  one : C 0 = 1
theorem massey {D : FD} (F : Fld D) {s C C' : Nat → Nat} {L L' N : Nat} (_hs : El D s) (hC : Rul D C L) (hC' : Rul D C' L') (h : Gen D s C L N) (h' : Gen D s C' L' (N + 1)) (hL : L + L' ≤ N) : pmul D (L + 1) C s N = 0 := by
  have e : pmul D (L' + 1) C' (pmul D (L + 1) C s) = pmul D (L + 1) C (pmul D (L' + 1) C' s) := by
    rw [← pmul_assoc F hC.bd (L' + 1) (L' + 1 + (L + 1)) (Nat.le_refl _), ← pmul_assoc F hC'.bd (L + 1) (L' + 1 + (L + 1)) (by omega), pmul_comm F hC'.el hC.el hC'.bd hC.bd]
  have h1 := pmul_last F (a := C') (X := pmul D (L + 1) C s) (N := N) (el_mul F _ _ _) L' (fun k a b c => h (N - k) (by omega) (by omega))
  have h2 := pmul_last F (a := C) (X := pmul D (L' + 1) C' s) (N := N) (el_mul F _ _ _) L (fun k a b c => h' (N - k) (by omega) (by omega))
  rw [e, h2, h' N (by omega) (by omega), mul0 F, hC'.one, omul F (el_mul F _ _ _ N)] at h1
  exact h1.symm

/-- The state when i numbers are seen: the rule, its length; an older rule, what it missed. -/
structure BMS (D : FD) (s : Nat → Nat) (i : Nat) (C : Nat → Nat) (lc L : Nat) (O : Nat → Nat) (lo b : Nat) : Prop where
  rul : Rul D C L
  bdc : Bd lc C
  lcL : lc ≤ L + 1
  lc1 : 1 ≤ lc
  le : L ≤ i
  gen : Gen D s C L i
  min : ∀ C' L', Rul D C' L' → Gen D s C' L' i → L ≤ L'
  elo : El D O
  bdo : Bd lo O
  loL : lo ≤ i + 1 - L
  bq : b < D.q
  b0 : b ≠ 0
  old : L = 0 ∨ (1 ≤ i ∧ (∀ t, i - L ≤ t → t + 1 < i → pmul D lo O s t = 0) ∧ pmul D lo O s (i - 1) = b)
theorem bms_start {D : FD} (F : Fld D) (s : Nat → Nat) : BMS D s 0 pone 1 0 pone 1 1 := by
  have hb : Bd 1 pone := fun k hk => by unfold pone; rw [if_neg (by omega)]
  exact ⟨⟨el_one F, hb, rfl⟩, hb, by omega, by omega, by omega, fun t _ h => by omega, fun _ _ _ _ => by omega, el_one F, hb, by omega, one_lt' F, by omega, Or.inl rfl⟩
theorem gen_less {D : FD} {s C : Nat → Nat} {L N : Nat} (h : Gen D s C L (N + 1)) : Gen D s C L N := fun t h1 h2 => h t h1 (by omega)
theorem sh_prod {D : FD} (F : Fld D) {s O : Nat → Nat} {lo t : Nat} (ht : 1 ≤ t) : pmul D (lo + 1) (psh 1 O) s t = pmul D lo O s (t - 1) := by
  have h := pmul_sh_l F 1 O s lo
  rw [Nat.add_comm lo 1, h]
  unfold psh
  rw [if_pos ht]
theorem sh_bd {O : Nat → Nat} {lo : Nat} (h : Bd lo O) : Bd (lo + 1) (psh 1 O) := fun k hk => by
  unfold psh
  rw [if_pos (by omega)]; exact h _ (by omega)
/-- What the rule misses at number i. -/
theorem bms_skip {D : FD} (F : Fld D) {s C O : Nat → Nat} {i lc L lo b : Nat} (h : BMS D s i C lc L O lo b) (h0 : pmul D lc C s i = 0) : BMS D s (i + 1) C lc L (psh 1 O) (lo + 1) b := by
  have hle := h.le
  have hlo := h.loL
  refine ⟨h.rul, h.bdc, h.lcL, h.lc1, by omega, fun t h1 h2 => ?_, fun C' L' hr hg => h.min C' L' hr (gen_less hg), el_sh F 1 h.elo, sh_bd h.bdo, by omega, h.bq, h.b0, ?_⟩
  · by_cases e : t = i
    · rw [e, pmul_to F s h.bdc h.lcL]; exact h0
    · exact h.gen t h1 (by omega)
  · rcases h.old with h1 | ⟨h1, h2, h3⟩
    · exact Or.inl h1
    · refine Or.inr ⟨by omega, fun t a b => ?_, ?_⟩
      · rw [sh_prod F (by omega)]
        exact h2 (t - 1) (by omega) (by omega)
      · rw [sh_prod F (by omega)]
        exact h3
theorem bms_step {D : FD} (hD : D ∈ fieldsL) {s C O : Nat → Nat} {i lc L lo b x lb : Nat} (hs : El D s) (h : BMS D s i C lc L O lo b) (hx : x = pmul D lc C s i) (h0 : x ≠ 0) (hlb : lb = max lc (lo + 1)) :
    (2 * L ≤ i → BMS D s (i + 1) (psub D C (pscale D (D.mul x (D.iv b)) (psh 1 O))) lb (i + 1 - L) C lc x) ∧ (¬ 2 * L ≤ i → BMS D s (i + 1) (psub D C (pscale D (D.mul x (D.iv b)) (psh 1 O))) lb L (psh 1 O) (lo + 1) b) := by
  have F := fld hD
  have hle := h.le
  have hlo := h.loL
  have hlc := h.lcL
  have hlc1 := h.lc1
  obtain ⟨C', hC'⟩ : ∃ C', C' = psub D C (pscale D (D.mul x (D.iv b)) (psh 1 O)) := ⟨_, rfl⟩
  have hxq : x < D.q := by rw [hx]; exact el_mul F _ _ _ _
  have hel : El D C' := by rw [hC']; exact el_sub F h.rul.el (el_scale F _ _)
  have hb' : Bd lb C' := fun k hk => by
    rw [hC']
    show D.sb (C k) (D.mul _ (psh 1 O k)) = 0
    rw [h.bdc k (by omega), sh_bd h.bdo k (by omega), mul0 F, sb_self F (zero_lt' F)]
  have hone : C' 0 = 1 := by
    rw [hC']
    show D.sb (C 0) (D.mul _ (psh 1 O 0)) = 1
    have e : psh 1 O 0 = 0 := by unfold psh; rw [if_neg (by omega)]
    rw [e, mul0 F, h.rul.one, sb_zero F (one_lt' F)]
  have hmiss : pmul D (L + 1) C s i = x := by rw [hx, pmul_to F s h.bdc hlc]
  -- what the new rule misses
  have hdis : ∀ N t, lb ≤ N → pmul D N C' s t = D.sb (pmul D N C s t) (D.mul (D.mul x (D.iv b)) (pmul D N (psh 1 O) s t)) := fun N t _ => by
    rw [hC', pmul_sub_l F h.rul.el (el_scale F _ _), pmul_scale_l F]; rfl
  have hgen : ∀ NL, L ≤ NL → i + 1 - L ≤ NL → lb ≤ NL + 1 → (L = 0 → i < NL) → Gen D s C' NL (i + 1) := fun NL h1 h2 h3 h4 t ht1 ht2 => by
    rw [hdis (NL + 1) t h3, pmul_to F s h.rul.bd (by omega), pmul_to F s (sh_bd h.bdo) (by omega)]
    rcases h.old with ho | ⟨ho1, ho2, ho3⟩
    · have := h4 ho; omega
    · by_cases e : t = i
      · rw [e, hmiss, sh_prod F (by omega), ho3, F.mul_assoc, F.mul_comm (D.iv b), iv_is hD h.bq h.b0, mul1 F hxq, sb_self F hxq]
      · rw [h.gen t (by omega) (by omega), sh_prod F (by omega), ho2 (t - 1) (by omega) (by omega), mul0 F, sb_zero F (zero_lt' F)]
  have hmin : ∀ C2 L2, Rul D C2 L2 → Gen D s C2 L2 (i + 1) → L ≤ L2 ∧ i + 1 - L ≤ L2 := fun C2 L2 hr hg => by
    refine ⟨h.min C2 L2 hr (gen_less hg), ?_⟩
    rcases Nat.lt_or_ge i (L + L2) with e | e
    · omega
    · exfalso
      have := massey F hs h.rul hr h.gen hg e
      rw [hmiss] at this
      exact h0 this
  rw [← hC']
  constructor
  · intro h2
    refine ⟨⟨hel, fun k hk => hb' k (by omega), hone⟩, hb', by omega, by omega, by omega, hgen _ (by omega) (Nat.le_refl _) (by omega) (fun e => by omega), fun C2 L2 hr hg => (hmin C2 L2 hr hg).2, h.rul.el, h.bdc, by omega, hxq, h0, Or.inr ⟨by omega, fun t a b => ?_, ?_⟩⟩
    · rw [← pmul_to F s h.bdc hlc]
      exact h.gen t (by omega) (by omega)
    · rw [show i + 1 - 1 = i from by omega]; exact hx.symm
  · intro h2
    refine ⟨⟨hel, fun k hk => hb' k (by omega), hone⟩, hb', by omega, by omega, by omega, hgen _ (Nat.le_refl _) (by omega) (by omega) (fun e => by omega), fun C2 L2 hr hg => (hmin C2 L2 hr hg).1, el_sh F 1 h.elo, sh_bd h.bdo, by omega, h.bq, h.b0, ?_⟩
    rcases h.old with ho | ⟨ho1, ho2, ho3⟩
    · omega
    · refine Or.inr ⟨by omega, fun t a b => ?_, ?_⟩
      · rw [sh_prod F (by omega)]
        exact ho2 (t - 1) (by omega) (by omega)
      · rw [sh_prod F (by omega)]
        exact ho3
end Go.Proofs.Ytcgmllamiaflcaa
