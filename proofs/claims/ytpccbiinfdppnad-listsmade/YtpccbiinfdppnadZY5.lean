/- Texts of ours, one behind the other: Y5 S10 S11 Z1 Z2. -/
import Derived.Test.YtpccbiinfdppnadZY2
import Derived.Test.YtpccbiinfdppnadZH4
import Derived.Test.YtpccbiinfdppnadZX18
import Derived.Test.YtpccbiinfdppnadZN2
import Derived.Test.YtpccbiinfdppnadZX15
/- The reference's Shortest: is there no shorter rule? What it keeps. -/
namespace Go.Proofs.Ytpccbiinfdppnad
open Go.RowKit Go.Sort

/-- The rows of the equations for length c (a of them), and what they are to give (d of them). -/
structure ShS (D : FD) (s : Nat → Nat) (base c a d : Nat) (vm : Value) (vs : Nat → Value) (vb : Value) (w : World) : Prop where
  mks : MkS base D.q c a vm vs (fun j t => ((s (c + j - 1 - t) : Nat) : Int)) w
  ob : OwnI base vb (zl d fun t => ((D.ng (s (c + t)) : Nat) : Int)) w
  ap : ∀ j, j < a → ∀ g, (vs j).ownBlock = some g → vb.ownBlock ≠ some g
theorem ShS.below {D : FD} {s : Nat → Nat} {base c a d : Nat} {vm vb : Value} {vs : Nat → Value} {w w' : World} (h : ShS D s base c a d vm vs vb w) (hb : Below w.heap.size w w') : ShS D s base c a d vm vs vb w' :=
  ⟨h.mks.below hb, h.ob.below hb (fun k hk => (h.ob.lt k hk).2), h.ap⟩
theorem OwnI.apartV {base base' : Nat} {u v : Value} {l : List Int} {l' : List Value} {w : World} (h : OwnI base u l w) (h' : OwnV base' v l' w) : v.ownBlock = none ∨ v.ownBlock ≠ u.ownBlock := by
  rcases h.apart h' with e | e
  · cases hv : v.ownBlock with
    | none => exact Or.inl rfl
    | some g => exact Or.inr (by rw [e]; exact fun x => by cases x)
  · exact Or.inr (fun x => e x.symm)
theorem ShS.push {D : FD} {s : Nat → Nat} {base c a d W : Nat} {vm vm' vb u : Value} {vs : Nat → Value} {w w' : World} (hs : El D s) (h : ShS D s base c a d vm vs vb w) (hu : OwnI W u (zl c fun t => ((s (c + a - 1 - t) : Nat) : Int)) w) (hW : base ≤ W) (hlt : ∀ k, vb.ownBlock = some k → k < W)
    (ho : OwnV base vm' (vl a vs ++ [u]) w') (hg : w.grownBy w' vm.ownBlock) : ShS D s base c (a + 1) d vm' (fun j => if j = a then u else vs j) vb w' := by
  have e : (fun j => if j = a then (fun t => ((s (c + a - 1 - t) : Nat) : Int)) else fun t => ((s (c + j - 1 - t) : Nat) : Int)) = fun j t => ((s (c + j - 1 - t) : Nat) : Int) := by
    funext j t
    by_cases e : j = a
    · rw [if_pos e, e]
    · rw [if_neg e]
  refine ⟨?_, h.ob.kept hg (h.ob.apart h.mks.own), fun j hj g hv => ?_⟩
  · have k := h.mks.push (hu.mono hW) (fun t _ => ⟨by omega, by have := hs (c + a - 1 - t); omega⟩) ho hg
    rw [e] at k; exact k
  · by_cases e : j = a
    · simp only [if_pos e] at hv
      have h1 := (hu.lt g hv).1
      intro h2
      have := hlt g h2
      omega
    · simp only [if_neg e] at hv
      exact h.ap j (by omega) g hv
theorem ShS.more {D : FD} {s : Nat → Nat} {base c a d : Nat} {vm vb vb' : Value} {vs : Nat → Value} {w w' : World} (h : ShS D s base c a d vm vs vb w) (ho : OwnI base vb' (zl d (fun t => ((D.ng (s (c + t)) : Nat) : Int)) ++ [((D.ng (s (c + d)) : Nat) : Int)]) w') (hg : w.grownBy w' vb.ownBlock) (hat : vb'.ownBlock = vb.ownBlock ∨ vb'.ownBlock = some w.heap.size) : ShS D s base c a (d + 1) vm vs vb' w' := by
  refine ⟨⟨h.mks.own.grown hg (h.ob.apartV h.mks.own), fun j hj => (h.mks.row j hj).kept hg ?_, h.mks.blw⟩, by rw [zl_succ]; exact ho, fun j hj g hv => ?_⟩
  · cases hv : (vs j).ownBlock with
    | none => exact Or.inl rfl
    | some g => exact Or.inr (fun x => h.ap j hj g hv x.symm)
  · rcases hat with e | e
    · rw [e]; exact h.ap j hj g hv
    · rw [e]
      have h1 := ((h.mks.row j hj).lt g hv).2
      intro h2
      cases h2
      omega
theorem MkS.matR {base q c n i : Nat} {v : Value} {vs : Nat → Value} {Z : Nat → Nat → Int} {M : Nat → Nat → Nat} {w : World} (h : MkS base q c i v vs Z w) (hc : c = n + 1) (hZ : ∀ j, j < i → ∀ t, t < c → Z j t = ((M j t : Nat) : Int)) : ∃ mo mc, v = .slice mo i mc ∧ MatR mo i n M w := by
  subst hc
  obtain ⟨mo, mc, hv, _, _, _, hcell⟩ := h.own.open
  rw [vl_len] at hv
  refine ⟨mo, mc, hv, fun j hj => ?_⟩
  obtain ⟨g, e, hc, _⟩ := hcell j (vs j) (vl_get i vs j hj)
  obtain ⟨so, sc, e2, ha⟩ := (h.row j hj).argL
  refine ⟨g, 0, vs j, e, by rw [Nat.zero_add]; exact hc, so, sc, e2, fun t ht => ?_, ha.lt, ha.nil, ha.le, ha.cap⟩
  obtain ⟨b, off, e3, hc3⟩ := ha.sl t ht
  exact ⟨b, off, e3, by rw [hc3, hZ j hj t ht]⟩
/-- Are the numbers from c on noughts, r of them? -/
def azr (s : Nat → Nat) (c : Nat) : Nat → Bool
  | 0 => true
  | r + 1 => azr s c r && decide (s (c + r) = 0)
theorem azr_iff {s : Nat → Nat} {c : Nat} : ∀ {r}, azr s c r = true → ∀ j, j < r → s (c + j) = 0
  | 0, _, j, hj => absurd hj (by omega)
  | r + 1, h, j, hj => by
    have h : (azr s c r && decide (s (c + r) = 0)) = true := h
    rw [Bool.and_eq_true] at h
    by_cases e : j = r
    · rw [e]; exact of_decide_eq_true h.2
    · exact azr_iff h.1 j (by omega)
end Go.Proofs.Ytpccbiinfdppnad

/- Lists that a rule makes: the shortest rule of enough of them makes the rest. -/
namespace Go.Proofs.Ytpccbiinfdppnad
open Go.RowKit Go.Sort

theorem ng_ad {D : FD} (F : Fld D) {a b : Nat} (ha : a < D.q) (hb : b < D.q) : D.ng (D.ad a b) = D.ad (D.ng a) (D.ng b) := by
  have h1 : D.ad (D.ad a b) (D.ad (D.ng a) (D.ng b)) = 0 := by
    rw [ad4 F ha hb (ng_lt F ha) (ng_lt F hb), ad_ng F ha, ad_ng F hb, ad_zero F (zero_lt' F)]
  exact (ad_cancel F (ad_lt F ha hb) (ad_lt F (ng_lt F ha) (ng_lt F hb)) (ng_lt F (ad_lt F ha hb)) (h1.trans (ad_ng F (ad_lt F ha hb)).symm)).symm
theorem sb_ad2 {D : FD} (F : Fld D) {a b c : Nat} (ha : a < D.q) (hb : b < D.q) (hc : c < D.q) : D.sb a (D.ad b c) = D.sb (D.sb a b) c := by
  unfold FD.sb
  rw [ng_ad F hb hc, ad_assoc F ha (ng_lt F hb) (ng_lt F hc)]
theorem dt_ng {D : FD} (F : Fld D) (u : Nat → Nat) {x : Nat → Nat} (hx : El D x) : ∀ n, dt D u (fun j => D.ng (x j)) n = D.ng (dt D u x n)
  | 0 => (ng_zero F).symm
  | n + 1 => by
    show D.ad (dt D u (fun j => D.ng (x j)) n) (D.mul (u n) (D.ng (x n))) = D.ng (D.ad (dt D u x n) (D.mul (u n) (x n)))
    rw [dt_ng F u hx n, mul_ng F (hx n), ng_ad F (dt_lt F _ _ _) (F.mul_lt _ _)]
theorem dt_comm {D : FD} (F : Fld D) (u v : Nat → Nat) : ∀ n, dt D u v n = dt D v u n
  | 0 => rfl
  | n + 1 => by
    show D.ad (dt D u v n) (D.mul (u n) (v n)) = D.ad (dt D v u n) (D.mul (v n) (u n))
    rw [dt_comm F u v n, F.mul_comm]
/-- Each number from the place n on is that sum of those ahead. -/
def Made (D : FD) (c : Nat → Nat) (n : Nat) (s : Nat → Nat) (N : Nat) : Prop := ∀ t, n ≤ t → t < N → s t = dt D c (fun k => s (t - 1 - k)) n
theorem made_gen {D : FD} (F : Fld D) {c s : Nat → Nat} {n N : Nat} (hc : El D c) (hs : El D s) (h : Made D c n s N) : Gen D s (rulx n fun k => D.ng (c k)) n N := fun t h1 h2 => by
  rw [rulx_mul F hs h1 n (Nat.le_refl _), dt_ng F _ hc, dt_comm F, ← h t h1 h2]
  exact ad_ng F (hs t)
theorem pmul_low {D : FD} {C s s' : Nat → Nat} {t : Nat} (h : ∀ j, j ≤ t → s j = s' j) : ∀ n, pmul D n C s t = pmul D n C s' t
  | 0 => rfl
  | n + 1 => by
    show D.ad (pmul D n C s t) (psh n (pscale D (C n) s) t) = D.ad (pmul D n C s' t) (psh n (pscale D (C n) s') t)
    rw [pmul_low h n]
    unfold psh pscale
    split
    · rw [h (t - n) (by omega)]
    · rfl
theorem gen_low {D : FD} {C s s' : Nat → Nat} {L N : Nat} (h : ∀ j, j < N → s j = s' j) (hg : Gen D s C L N) : Gen D s' C L N := fun t h1 h2 => by
  rw [← pmul_low (s := s) (fun j hj => h j (by omega))]; exact hg t h1 h2
theorem gen_more {D : FD} (F : Fld D) {s C C' : Nat → Nat} {L L' N : Nat} (hs : El D s) (hC : Rul D C L) (hC' : Rul D C' L') (h : Gen D s C L N) (hL : L + L' ≤ N) : ∀ k, Gen D s C' L' (N + k) → Gen D s C L (N + k)
  | 0, _ => h
  | k + 1, h' => fun t h1 h2 => by
    have ih := gen_more F hs hC hC' h hL k (gen_less h')
    by_cases e : t = N + k
    · rw [e]; exact massey F hs hC hC' ih h' (by omega)
    · exact ih t h1 (by omega)
/-- The shortest rule of 2 n numbers and more, made by a rule of length n, is no longer than n, and makes those behind, too. -/
theorem bms_made {D : FD} (hD : D ∈ fieldsL) {c y C O : Nat → Nat} {n N lc L lo b k : Nat} (hc : El D c) (hy : El D y) (h : BMS D (fun j => if j < N then y j else 0) N C lc L O lo b) (hm : Made D c n y (N + k)) (hN : 2 * n ≤ N) : L ≤ n ∧ Gen D y C L (N + k) := by
  have F := fld hD
  have hr : Rul D (rulx n fun k => D.ng (c k)) n := rulx_rul F n (fun j => ng_lt F (hc j))
  have hg := made_gen F hc hy hm
  have hlow : ∀ j, j < N → y j = (fun j => if j < N then y j else 0) j := fun j hj => (if_pos hj).symm
  have hL := h.min _ n hr (gen_low hlow (fun t h1 h2 => hg t h1 (by omega)))
  exact ⟨hL, gen_more F hy h.rul hr (gen_low (fun j hj => (hlow j hj).symm) h.gen) (by omega) k hg⟩
end Go.Proofs.Ytpccbiinfdppnad

/- A polynomial that is not nought has fewer roots than coefficients; words of few coefficients are far apart. -/
namespace Go.Proofs.Ytpccbiinfdppnad
open Go.RowKit Go.Sort

/-- How many of the first n. -/
def ct (p : Nat → Bool) : Nat → Nat
  | 0 => 0
  | n + 1 => ct p n + if p n = true then 1 else 0
theorem ct_none {p : Nat → Bool} : ∀ n, (∀ i, i < n → p i = false) → ct p n = 0
  | 0, _ => rfl
  | n + 1, h => by
    show ct p n + (if p n = true then 1 else 0) = 0
    rw [ct_none n (fun i hi => h i (by omega)), h n (by omega)]; rfl
theorem ct_one1 {p p' : Nat → Bool} (i0 : Nat) : ∀ n, (∀ i, i < n → i ≠ i0 → p i = true → p' i = true) → ct p n ≤ ct p' n + if i0 < n then 1 else 0
  | 0, _ => by simp [ct]
  | n + 1, h => by
    show ct p n + (if p n = true then 1 else 0) ≤ ct p' n + (if p' n = true then 1 else 0) + if i0 < n + 1 then 1 else 0
    have ih := ct_one1 i0 n (fun i hi => h i (by omega))
    by_cases e : i0 = n
    · rw [if_neg (by omega)] at ih
      rw [if_pos (show i0 < n + 1 by omega)]
      split <;> split <;> omega
    · have h1 := h n (by omega) (fun x => e x.symm)
      by_cases hp : p n = true
      · rw [if_pos hp, if_pos (h1 hp)]
        by_cases hi : i0 < n
        · rw [if_pos hi] at ih; rw [if_pos (show i0 < n + 1 by omega)]; omega
        · rw [if_neg hi] at ih; split <;> omega
      · rw [if_neg hp]
        by_cases hi : i0 < n
        · rw [if_pos hi] at ih; rw [if_pos (show i0 < n + 1 by omega)]; omega
        · rw [if_neg hi] at ih; omega
theorem ct_not (p : Nat → Bool) : ∀ n, ct p n + ct (fun i => !p i) n = n
  | 0 => rfl
  | n + 1 => by
    show ct p n + (if p n = true then 1 else 0) + (ct (fun i => !p i) n + if (!p n) = true then 1 else 0) = n + 1
    have := ct_not p n
    cases p n <;> simp <;> omega
theorem ev_sub {D : FD} (F : Fld D) {a b : Nat → Nat} (x : Nat) (ha : El D a) (hb : El D b) : ∀ n, D.ev (psub D a b) x n = D.sb (D.ev a x n) (D.ev b x n)
  | 0 => (sb_self F (zero_lt' F)).symm
  | n + 1 => by
    show D.ad (D.ev (psub D a b) x n) (D.mul (D.sb (a n) (b n)) (D.xp x n)) = D.sb (D.ad (D.ev a x n) (D.mul (a n) (D.xp x n))) (D.ad (D.ev b x n) (D.mul (b n) (D.xp x n)))
    rw [ev_sub F x ha hb n, sb_mul F (ha n) (hb n)]
    have h1 := ev_lt F a x n
    have h2 := ev_lt F b x n
    have h3 := F.mul_lt (a n) (D.xp x n)
    have h4 := F.mul_lt (b n) (D.xp x n)
    unfold FD.sb
    rw [ng_ad F h2 h4, ad4 F h1 (ng_lt F h2) h3 (ng_lt F h4)]
/-- X - r. -/
def xmr (D : FD) (r : Nat) : Nat → Nat := fun j => if j = 0 then D.ng r else if j = 1 then 1 else 0
theorem xmr_el {D : FD} (F : Fld D) {r : Nat} (hr : r < D.q) : El D (xmr D r) := fun j => by
  unfold xmr
  split
  · exact ng_lt F hr
  · split
    · exact one_lt' F
    · exact zero_lt' F
theorem xmr_bd {D : FD} (r : Nat) : Bd 2 (xmr D r) := fun j hj => by
  unfold xmr
  rw [if_neg (by omega), if_neg (by omega)]
theorem xmr_ev {D : FD} (F : Fld D) {r x : Nat} (hr : r < D.q) (hx : x < D.q) : D.ev (xmr D r) x 2 = D.sb x r := by
  show D.ad (D.ad 0 (D.mul (D.ng r) 1)) (D.mul 1 (D.mul 1 x)) = D.ad x (D.ng r)
  rw [mul1 F (ng_lt F hr), omul F (F.mul_lt _ _), omul F hx, zero_ad F (ng_lt F hr), ad_comm F]
/-- A root goes out as a factor. -/
theorem root_out {D : FD} (F : Fld D) {d : Nat → Nat} {k r : Nat} (hd : El D d) (hb : Bd (k + 1) d) (hr : r < D.q) (h0 : D.ev d r (k + 1) = 0) : ∃ Q, El D Q ∧ Bd k Q ∧ d = pmul D k Q (xmr D r) := by
  have hi : D.mul (xmr D r 1) 1 = 1 := mul1 F (one_lt' F)
  have h1 := div_is F (b := xmr D r) (l := 1) (inv := 1) k hd
  have hR := divR_bd F (xmr_el F hr) (xmr_bd r) hi k hd hb
  obtain ⟨Q, hQ⟩ : ∃ Q, Q = divQ D (xmr D r) 1 1 k d := ⟨_, rfl⟩
  obtain ⟨R, hRe⟩ : ∃ R, R = divR D (xmr D r) 1 1 k d := ⟨_, rfl⟩
  rw [← hQ, ← hRe] at h1
  rw [← hRe] at hR
  have eQ : El D Q := by rw [hQ]; exact el_divQ F k d
  have bQ : Bd k Q := by rw [hQ]; exact divQ_bd k d
  have eR : El D R := by rw [hRe]; exact el_divR F k hd
  have h2 : D.ev d r (k + 2) = 0 := by rw [ev_from F r hb (by omega)]; exact h0
  rw [← h1, ev_add F r (el_mul F _ _ _) eR, ev_mul F r (xmr_bd r) (xmr_el F hr) k (k + 2) (Nat.le_refl _), xmr_ev F hr hr, sb_self F hr, mul0 F, zero_ad F (ev_lt F _ _ _), ev_from F r hR (by omega)] at h2
  have h3 : R 0 = 0 := by
    have h2 : D.ad 0 (D.mul (R 0) 1) = 0 := h2
    rw [zero_ad F (F.mul_lt _ _), mul1 F (eR 0)] at h2; exact h2
  have h4 : R = pnil := by
    funext j
    cases j with
    | zero => exact h3
    | succ j => exact hR _ (by omega)
  refine ⟨Q, eQ, bQ, ?_⟩
  rw [h4] at h1
  rw [← h1]
  funext j
  exact ad_zero F (el_mul F _ _ _ _)
theorem few_roots {D : FD} (F : Fld D) {xs : Nat → Nat} {n : Nat} (hx : ∀ i, i < n → xs i < D.q) (hne : ∀ i j, i < n → j < n → i ≠ j → xs i ≠ xs j) : ∀ k {d : Nat → Nat}, El D d → Bd k d → d ≠ pnil → ct (fun i => decide (D.ev d (xs i) k = 0)) n < k
  | 0, d, _, hb, h0 => absurd (bd_nil_of hb) h0
  | k + 1, d, hd, hb, h0 => by
    by_cases h : ∃ i, i < n ∧ D.ev d (xs i) (k + 1) = 0
    · obtain ⟨i0, hi0, hr⟩ := h
      obtain ⟨Q, eQ, bQ, hQ⟩ := root_out F hd hb (hx i0 hi0) hr
      have hQ0 : Q ≠ pnil := fun e => h0 (by
        rw [hQ, e]
        funext j
        have : ∀ m, pmul D m pnil (xmr D (xs i0)) j = 0 := fun m => by
          induction m with
          | zero => rfl
          | succ m ih =>
            show D.ad (pmul D m pnil (xmr D (xs i0)) j) (psh m (pscale D 0 (xmr D (xs i0))) j) = 0
            rw [ih]
            unfold psh pscale
            split
            · rw [zmul F, ad_zero F (zero_lt' F)]
            · rw [ad_zero F (zero_lt' F)]
        exact this k)
      have ih := few_roots F hx hne k eQ bQ hQ0
      have h1 := ct_one1 (p := fun i => decide (D.ev d (xs i) (k + 1) = 0)) (p' := fun i => decide (D.ev Q (xs i) k = 0)) i0 n (fun i hi hne' hp => by
        have hp : D.ev d (xs i) (k + 1) = 0 := of_decide_eq_true hp
        refine decide_eq_true ?_
        have h2 : D.ev d (xs i) (k + 2) = 0 := by rw [ev_from F _ hb (by omega)]; exact hp
        rw [hQ, ev_mul F _ (xmr_bd _) (xmr_el F (hx i0 hi0)) k (k + 2) (Nat.le_refl _), xmr_ev F (hx i0 hi0) (hx i hi)] at h2
        by_cases e : D.ev Q (xs i) k = 0
        · exact e
        · exfalso
          have h3 : D.sb (xs i) (xs i0) = 0 := mul_cancel F e (sb_lt F (hx i hi) (hx i0 hi0)) (zero_lt' F) (h2.trans (mul0 F _).symm)
          exact hne i i0 hi hi0 hne' (sb_eq_zero F (hx i hi) (hx i0 hi0) h3))
      rw [if_pos hi0] at h1
      omega
    · rw [ct_none n (fun i hi => decide_eq_false (fun e => h ⟨i, hi, e⟩))]
      omega
/-- Words of two messages of k numbers: apart at more than n - k places. -/
theorem far_apart {D : FD} (F : Fld D) {xs a b : Nat → Nat} {n k : Nat} (hx : ∀ i, i < n → xs i < D.q) (hne : ∀ i j, i < n → j < n → i ≠ j → xs i ≠ xs j) (ha : El D a) (hb : El D b) (hba : Bd k a) (hbb : Bd k b) (h : a ≠ b) : n < k + ct (fun i => !decide (D.ev a (xs i) k = D.ev b (xs i) k)) n := by
  have h1 := few_roots F hx hne k (el_sub F ha hb) (fun j hj => by show D.sb (a j) (b j) = 0; rw [hba j hj, hbb j hj, sb_self F (zero_lt' F)]) (fun e => h (by
    funext j
    exact sb_eq_zero F (ha j) (hb j) (congrFun e j)))
  have h2 := ct_not (fun i => decide (D.ev a (xs i) k = D.ev b (xs i) k)) n
  have e : (fun i => decide (D.ev (psub D a b) (xs i) k = 0)) = fun i => decide (D.ev a (xs i) k = D.ev b (xs i) k) := by
    funext i
    rw [ev_sub F _ ha hb]
    refine decide_eq_decide.2 ⟨fun e => sb_eq_zero F (ev_lt F _ _ _) (ev_lt F _ _ _) e, fun e => by rw [e, sb_self F (ev_lt F _ _ _)]⟩
  rw [e] at h1
  omega
end Go.Proofs.Ytpccbiinfdppnad

/- The program's words (reed): values, Check and Encode where all may be. -/
namespace Go.Proofs.Ytpccbiinfdppnad
open Go.RowKit Go.Sort

set_option maxHeartbeats 8000000 in
set_option maxRecDepth 100000 in
theorem rvalues_any {F T : Nat} {D : FD} (hD : D ∈ fieldsL) {g : Nat → Value} {w : World} (hat : FAt F T D g w) {ao xo : Option Addr} {k n ca cx : Nat} {a xs : Nat → Nat} (hk : k ≤ 128) (hn : n ≤ 64) (ha : El D a) (hx : ∀ i, i < n → xs i < D.q) (hA : Sl ao k a w) (hX : Sl xo n xs w) (hla : LtB ao w.heap.size) (hlx : LtB xo w.heap.size) :
    Calls Try.prog 80 #[.pointer (some ⟨F, 0, none⟩), .slice ao k ca, .slice xo n cx] w fun e w' =>
      e = .returned (.slice (some ⟨w.heap.size, 0, none⟩) n n) ∧ Row w.heap.size n (fun i => D.ev a (xs i) k) w' ∧ Below w.heap.size w w' := by
  have HF : Hid (FAt F T D g w ∧ D ∈ fieldsL ∧ Sl ao k a w ∧ Sl xo n xs w ∧ El D a ∧ (∀ i, i < n → xs i < D.q) ∧ LtB ao w.heap.size ∧ LtB xo w.heap.size) := ⟨hat, hD, hA, hX, ha, hx, hla, hlx⟩
  clear hat hD hA hX ha hx hla hlx
  go_enter Try.func80, Try.ntmps80
  go_wp2_with (at_make; refine make_int rfl _ _ rfl _ n rfl rfl (by omega) (by omega) ?_; intro w1 hown1 hgrow1)
  have HB1 : Hid (Below w.heap.size w w1 ∧ Row w.heap.size n pnil w1) := ⟨below_grown hgrow1 (Nat.le_refl _) (fun k hk => by simp at hk), row_zeros hown1⟩
  clear hown1 hgrow1
  obtain ⟨gr, hg⟩ : ∃ g, g = w.heap.size := ⟨_, rfl⟩
  have HB2 : Hid (Below w.heap.size w w1 ∧ Row gr n pnil w1 ∧ gr = w.heap.size) := by rw [hg]; exact ⟨HB1.out.1, HB1.out.2, rfl⟩
  rw [← hg]
  have hgD : w.heap.size ≤ gr := by omega
  clear HB1 hg
  go_loopw [16] (fun i wr => ∃ r : Nat, r ≤ n ∧ i = .int .i64 r ∧ Hid (Row gr n (fun j => if j < r then D.ev a (xs j) k else 0) wr ∧ Below w.heap.size w wr)) (fun i _ => n - (intOf i).toNat)
  case atStart => exact ⟨0, by omega, rfl, HB2.out.2.1.congr (fun j _ => by rw [if_neg (by omega)]; rfl), HB2.out.1⟩
  case round =>
    obtain ⟨r, hr, rfl, HG⟩ := hrel
    rename World => wA
    by_cases hlt : r < n
    · have hib : (r : Int) < (n : Int) := by omega
      obtain ⟨bx, ox, hxo, hcx⟩ := (HF.out.2.2.2.1.below HG.out.2 HF.out.2.2.2.2.2.2.2) r hlt
      subst hxo
      obtain ⟨x, hx⟩ : ∃ x, x = xs r := ⟨_, rfl⟩
      rw [← hx] at hcx
      have hxq : x < D.q := by rw [hx]; exact HF.out.2.2.2.2.2.1 r hlt
      have HX : Hid (x = xs r ∧ x < D.q) := ⟨hx, hxq⟩
      clear hx hxq
      go_wp2
      go_loopw [10] (fun vi wr => ∃ t : Nat, t ≤ k ∧ vi = .int .i64 ((t : Int) - 1) ∧ Hid (Row gr n (fun j => if j < r then D.ev a (xs j) k else if j = r then D.val a k x (k - t) else 0) wr ∧ Below w.heap.size w wr)) (fun vi _ => (intOf vi + 1).toNat)
      case atStart => exact ⟨k, Nat.le_refl _, by first | rfl | go_num, HG.out.1.congr (fun j _ => by
        by_cases e : j < r
        · rw [if_pos e, if_pos e]
        · rw [if_neg e, if_neg e]
          split
          · rw [Nat.sub_self]; rfl
          · rfl), HG.out.2⟩
      case round =>
        obtain ⟨t, ht, hvi, HK⟩ := hrel
        rename World => wr
        cases t with
        | succ s =>
          have hi' : u10 = .int .i64 (s : Int) := by rw [hvi]; go_num
          clear hvi
          subst hi'
          obtain ⟨y, hy⟩ : ∃ y, y = D.val a k x (k - (s + 1)) := ⟨_, rfl⟩
          have hyq : y < D.q := by rw [hy]; exact val_lt HF.out.2.1 a k x HF.out.2.2.2.2.1 _
          have hco : wr.cell? ⟨gr, r, none⟩ = some (.int .i64 (y : Nat)) := by
            have h := HK.out.1.cell r hlt
            rw [if_neg (by omega), if_pos rfl, ← hy] at h; exact h
          have hfo := HK.out.1.free r
          obtain ⟨ba, oa, hao, hca⟩ := (HF.out.2.2.1.below HK.out.2 HF.out.2.2.2.2.2.2.1) s (by omega)
          subst hao
          obtain ⟨ax, hax⟩ : ∃ ax, ax = a s := ⟨_, rfl⟩
          rw [← hax] at hca
          obtain ⟨p, hp⟩ : ∃ p, p = D.mul y x := ⟨_, rfl⟩
          obtain ⟨u, hu⟩ : ∃ u, u = sumD D.p D.q p ax := ⟨_, rfl⟩
          have F' := fld HF.out.2.1
          have hatr := HF.out.1.below HK.out.2 HF.out.1.ltF HF.out.1.ltT
          have HC1 : Hid (∀ d, Calls Try.prog 69 #[.pointer (some ⟨F, 0, none⟩), .int .i64 (y : Nat), .int .i64 (x : Nat)] (wr.drewN d) fun e w' => e = .returned (.int .i64 (p : Nat)) ∧ ∃ k, w' = (wr.drewN d).drewN k) := fun d => by
            rw [hp]; exact mul_nat HF.out.2.1 (hatr.drewN d) hyq HX.out.2
          have HC2 : Hid (∀ d, Calls Try.prog 94 #[.pointer (some ⟨F, 0, none⟩), .int .i64 (p : Nat), .int .i64 (ax : Nat)] (wr.drewN d) fun e w' => e = .returned (.int .i64 (u : Nat)) ∧ ∃ k, w' = (wr.drewN d).drewN k) := fun d => by
            rw [hu]; exact add_nat HF.out.2.1 (hatr.drewN d) (by rw [hp]; exact F'.mul_lt _ _) (by rw [hax]; exact HF.out.2.2.2.2.1 s)
          have HY : D.val a k x (k - s) = u := by
            rw [hu, hp, hy, hax, show k - s = (k - (s + 1)) + 1 from by omega, FD.val, show k - 1 - (k - (s + 1)) = s from by omega]
          have HV : Hid (∀ j, j < n → (if j < r then D.ev a (xs j) k else if j = r then D.val a k x (k - s) else 0) = if j = r then u else if j < r then D.ev a (xs j) k else if j = r then D.val a k x (k - (s + 1)) else 0) := fun j _ => by
            by_cases e : j = r
            · rw [if_pos e, if_neg (by omega), if_pos e, HY]
            · rw [if_neg e, if_neg e, if_neg e]
          have hsb : (s : Int) < (k : Int) := by omega
          clear hax hp hu hy HY F' hatr
          go_wp2
          refine quiet_tail 16 (by kernel_rfl) (by kernel_rfl) ?_
          simp only [List.take_succ_cons, List.take_zero, List.drop_succ_cons, List.drop_zero]
          repeat (go_big_quiet_step (first | (go_at_call 69; exact Calls.quiet_of (HC1.out _)) | (go_at_call 94; exact Calls.quiet_of (HC2.out _)) | fail))
          refine wpQuiet_nil ?_
          intro _ hw'
          obtain ⟨nq, hw''⟩ := hw'
          subst hw''
          go_wp2
          go_roundw
          case rel => exact ⟨s, by omega, by go_num, (HK.out.1.drewN nq).store r u HV.out, (below_drewN2 HK.out.2 nq).setCell hgD _⟩
          case measure => simp [intOf]
        | zero =>
          have hi' : u10 = .int .i64 (-1) := by rw [hvi]; rfl
          clear hvi
          subst hi'
          have HE : Hid (Row gr n (fun j => if j < r + 1 then D.ev a (xs j) k else 0) wr ∧ Below w.heap.size w wr) := by
            refine ⟨HK.out.1.congr (fun j _ => ?_), HK.out.2⟩
            by_cases e : j < r
            · rw [if_pos e, if_pos (by omega)]
            · rw [if_neg e]
              by_cases e2 : j = r
              · rw [if_pos e2, if_pos (by omega), e2, Nat.sub_zero, val_is (fld HF.out.2.1) x k HF.out.2.2.2.2.1 HX.out.2, HX.out.1]
              · rw [if_neg e2, if_neg (by omega)]
          go_wp2
          go_roundw
          case rel => exact ⟨r + 1, by omega, by go_num, HE.out⟩
          case measure => simp [intOf]; omega
    · have hib : ¬ (r : Int) < (n : Int) := by omega
      have HE : Hid (Row gr n (fun j => D.ev a (xs j) k) wA) := HG.out.1.congr (fun j hj => by rw [if_pos (by omega)])
      go_wp2
      go_ret
      exact ⟨by rw [← HB2.out.2.2]; rfl, by rw [← HB2.out.2.2]; exact HE.out, HG.out.2⟩

set_option maxHeartbeats 8000000 in
set_option maxRecDepth 100000 in
theorem rcheck_ok {D : FD} (hD : D ∈ fieldsL) {xo : Option Addr} {n cx k : Nat} {xs : Nat → Nat} {w : World} (hn1 : 1 ≤ n) (hn : n ≤ 64) (hcn : n ≤ cx) (hx : ∀ i, i < n → xs i < D.q) (hne : ∀ i j, i < n → j < n → i ≠ j → xs i ≠ xs j) (hX : Sl xo n xs w) (hlx : LtB xo w.heap.size) (hk1 : 1 ≤ k) (hk : k ≤ n) :
    Calls Try.prog 79 #[.int .i64 D.q, .slice xo n cx, .int .i64 (k : Nat)] w fun e w' => e = .returned (.int .i64 0) ∧ Below w.heap.size w w' := by
  have HF : Hid (D ∈ fieldsL ∧ (∀ i, i < n → xs i < D.q) ∧ (∀ i j, i < n → j < n → i ≠ j → xs i ≠ xs j) ∧ Sl xo n xs w ∧ LtB xo w.heap.size) := ⟨hD, hx, hne, hX, hlx⟩
  have hz1 : ¬ (n : Int) < 1 := by omega
  have hz2 : ¬ (64 : Int) < (n : Int) := by omega
  have hz3 : ¬ (k : Int) < 1 := by omega
  have hz4 : ¬ (n : Int) < (k : Int) := by omega
  clear hD hx hne hX hlx
  go_enter Try.func79, Try.ntmps79
  go_wp2_with fail
  refine (new_any HF.out.1 w).mono ?_
  rintro e w1 ⟨F, T, g, rfl, hat, hF, hT, hb1⟩
  have HA : Hid (FAt F T D g w1 ∧ Sl xo n xs w1 ∧ Below w.heap.size w w1) := ⟨hat, HF.out.2.2.2.1.below hb1 HF.out.2.2.2.2, hb1⟩
  clear hat hF hT hb1
  go_wp2
  go_loopw [29] (fun i wr => ∃ r : Nat, r ≤ n ∧ i = .int .i64 r ∧ wr = w1) (fun i _ => n - (intOf i).toNat)
  case atStart => exact ⟨0, by omega, rfl, rfl⟩
  case round =>
    obtain ⟨r, hr, rfl, hw⟩ := hrel
    have hw := hw.symm
    subst hw
    by_cases hlt : r < n
    · have hib : (r : Int) < (n : Int) := by omega
      obtain ⟨bx, ox, hxo, hcx⟩ := HA.out.2.1 r hlt
      subst hxo
      obtain ⟨x, hx⟩ : ∃ x, x = xs r := ⟨_, rfl⟩
      rw [← hx] at hcx
      have hcap : (r : Int) ≤ (cx : Int) := by omega
      have HC1 : Hid (Calls Try.prog 65 #[.pointer (some ⟨F, 0, none⟩), .int .i64 (x : Nat)] w1 fun e w' => e = .returned (.bool true) ∧ w' = w1) := by
        have h := has_any HA.out.1 (x : Int)
        rw [has_of_lt (by rw [hx]; exact HF.out.2.1 r hlt)] at h; exact h
      have HC2 : Hid (Calls Try.prog 102 #[.slice (some ⟨bx, ox, none⟩) r cx, .int .i64 (x : Nat)] w1 fun e w' => e = .returned (.bool false) ∧ w' = w1) := by
        have h := contains_any (ca := cx) (w := w1) (z := fun j => ((xs j : Nat) : Int)) (x : Int) (show SlZ (some ⟨bx, ox, none⟩) r (fun j => ((xs j : Nat) : Int)) w1 from HA.out.2.1.less (by omega)) (by omega)
        rw [decide_eq_false (fun hm => by
          unfold zl at hm
          obtain ⟨j, hj, e⟩ := List.mem_map.1 hm
          have hj := List.mem_range.1 hj
          exact HF.out.2.2.1 j r (by omega) hlt (by omega) (by rw [← hx]; omega))] at h
        exact h
      clear hx
      go_wp2_with fail
      refine HC1.out.mono ?_
      rintro e w' ⟨rfl, hw⟩
      have hw := hw.symm
      subst hw
      go_wp2_with fail
      refine HC2.out.mono ?_
      rintro e w' ⟨rfl, hw⟩
      have hw := hw.symm
      subst hw
      go_wp2
      go_roundw
      case rel => exact ⟨r + 1, by omega, by go_num, by first | rfl | trivial⟩
      case measure => simp [intOf]; omega
    · have hib : ¬ (r : Int) < (n : Int) := by omega
      go_wp2
      go_ret
      exact ⟨rfl, HA.out.2.2⟩
set_option maxHeartbeats 4000000 in
set_option maxRecDepth 100000 in
theorem encode_ok {D : FD} (hD : D ∈ fieldsL) {xo ao : Option Addr} {n cx k ca : Nat} {xs a : Nat → Nat} {w : World} (hn1 : 1 ≤ n) (hn : n ≤ 64) (hcn : n ≤ cx) (hx : ∀ i, i < n → xs i < D.q) (hne : ∀ i j, i < n → j < n → i ≠ j → xs i ≠ xs j) (hX : Sl xo n xs w) (hlx : LtB xo w.heap.size) (hk1 : 1 ≤ k) (hk : k ≤ n) (ha : El D a) (hA : Sl ao k a w) (hla : LtB ao w.heap.size) :
    Calls Try.prog 50 #[.int .i64 D.q, .slice xo n cx, .slice ao k ca] w fun e w' => ∃ g, e = .returned (.tuple #[.slice (some ⟨g, 0, none⟩) n n, .int .i64 0]) ∧ Row g n (fun i => D.ev a (xs i) k) w' ∧ Below w.heap.size w w' := by
  have HF : Hid (D ∈ fieldsL ∧ (∀ i, i < n → xs i < D.q) ∧ (∀ i j, i < n → j < n → i ≠ j → xs i ≠ xs j) ∧ Sl xo n xs w ∧ LtB xo w.heap.size ∧ El D a ∧ Sl ao k a w ∧ LtB ao w.heap.size) := ⟨hD, hx, hne, hX, hlx, ha, hA, hla⟩
  have HC0 : Hid (Calls Try.prog 79 #[.int .i64 D.q, .slice xo n cx, .int .i64 (k : Nat)] w fun e w' => e = .returned (.int .i64 0) ∧ Below w.heap.size w w') := rcheck_ok hD hn1 hn hcn hx hne hX hlx hk1 hk
  clear hD hx hne hX hlx ha hA hla
  go_enter Try.func50, Try.ntmps50
  go_wp2_with fail
  refine HC0.out.mono ?_
  rintro e w1 ⟨rfl, hb1⟩
  have H1 : Hid (Below w.heap.size w w1) := hb1
  have HC1 : Hid (Calls Try.prog 30 #[.int .i64 D.q, .slice ao k ca] w1 fun e w' => e = .returned (.int .i64 0) ∧ Below w1.heap.size w1 w') := by
    have h := check_any (cap := ca) HF.out.1 (w := w1) (z := fun j => ((a j : Nat) : Int)) (show SlZ ao k (fun j => ((a j : Nat) : Int)) w1 from HF.out.2.2.2.2.2.2.1.below hb1 HF.out.2.2.2.2.2.2.2) (HF.out.2.2.2.2.2.2.2.mono hb1.size) (by omega)
    rw [chk_nat HF.out.2.2.2.2.2.1 (by omega)] at h; exact h
  clear hb1
  go_wp2_with fail
  refine HC1.out.mono ?_
  rintro e w2 ⟨rfl, hb2⟩
  have H2 : Hid (Below w.heap.size w w2) := bel_up' H1.out hb2
  clear hb2
  go_wp2_with fail
  refine (new_any HF.out.1 w2).mono ?_
  rintro e w3 ⟨F, T, g, rfl, hat, hF, hT, hb3⟩
  have H3 : Hid (FAt F T D g w3 ∧ Below w.heap.size w w3) := ⟨hat, bel_up' H2.out hb3⟩
  clear hat hF hT hb3
  go_wp2_with fail
  refine (rvalues_any HF.out.1 H3.out.1 (by omega) hn HF.out.2.2.2.2.2.1 HF.out.2.1 (HF.out.2.2.2.2.2.2.1.below H3.out.2 HF.out.2.2.2.2.2.2.2) (HF.out.2.2.2.1.below H3.out.2 HF.out.2.2.2.2.1) (HF.out.2.2.2.2.2.2.2.mono H3.out.2.size) (HF.out.2.2.2.2.1.mono H3.out.2.size)).mono ?_
  rintro e w4 ⟨rfl, hrow, hb4⟩
  have H4 : Hid (Row w3.heap.size n (fun i => D.ev a (xs i) k) w4 ∧ Below w.heap.size w w4) := ⟨hrow, bel_up' H3.out.2 hb4⟩
  clear hrow hb4
  go_wp2
  go_ret2
  exact ⟨_, rfl, H4.out.1, H4.out.2⟩
set_option maxHeartbeats 4000000 in
set_option maxRecDepth 100000 in
theorem apart_any {ao bo : Option Addr} {n ca cb : Nat} {a b : Nat → Nat} {w : World} (hA : Sl ao n a w) (hB : Sl bo n b w) (hn : n ≤ 1000) :
    Calls Try.prog 51 #[.slice ao n ca, .slice bo n cb] w fun e w' => e = .returned (.int .i64 (ct (fun i => !decide (a i = b i)) n : Nat)) ∧ w' = w := by
  have HF : Hid (Sl ao n a w ∧ Sl bo n b w) := ⟨hA, hB⟩
  clear hA hB
  go_enter Try.func51, Try.ntmps51
  go_wp2
  go_loopw [5, 15] (fun vm vi wr => ∃ (r m : Nat), r ≤ n ∧ m ≤ r ∧ vm = .int .i64 (m : Nat) ∧ vi = .int .i64 r ∧ Hid (m = ct (fun i => !decide (a i = b i)) r) ∧ wr = w) (fun _ vi _ => n - (intOf vi).toNat)
  case atStart => exact ⟨0, 0, by omega, by omega, rfl, rfl, rfl, rfl⟩
  case round =>
    obtain ⟨r, m, hr, hmr, rfl, rfl, HM, hw⟩ := hrel
    have hw := hw.symm
    subst hw
    by_cases hlt : r < n
    · have hib : (r : Int) < (n : Int) := by omega
      obtain ⟨ba, oa, hao, hca⟩ := HF.out.1 r hlt
      subst hao
      obtain ⟨bb, ob, hbo, hcb⟩ := HF.out.2 r hlt
      subst hbo
      obtain ⟨x, hx⟩ : ∃ x, x = a r := ⟨_, rfl⟩
      obtain ⟨y, hy⟩ : ∃ y, y = b r := ⟨_, rfl⟩
      rw [← hx] at hca
      rw [← hy] at hcb
      by_cases e : x = y
      · have hz : (((x : Nat) : Int) != ((y : Nat) : Int)) = false := by rw [e]; simp
        have HV : Hid (m = ct (fun i => !decide (a i = b i)) (r + 1)) := by
          show m = ct (fun i => !decide (a i = b i)) r + if (!decide (a r = b r)) = true then 1 else 0
          rw [← HM.out, decide_eq_true (by rw [← hx, ← hy]; exact e)]; rfl
        clear e hx hy
        go_wp2
        go_roundw
        case rel => exact ⟨r + 1, m, by omega, by omega, rfl, by go_num, HV.out, by first | rfl | trivial⟩
        case measure => simp [intOf]; omega
      · have hz : (((x : Nat) : Int) != ((y : Nat) : Int)) = true := by rw [bne_iff_ne]; omega
        have HV : Hid (m + 1 = ct (fun i => !decide (a i = b i)) (r + 1)) := by
          show m + 1 = ct (fun i => !decide (a i = b i)) r + if (!decide (a r = b r)) = true then 1 else 0
          rw [← HM.out, decide_eq_false (by rw [← hx, ← hy]; exact e)]; rfl
        clear e hx hy
        go_wp2
        go_roundw
        case rel => exact ⟨r + 1, m + 1, by omega, by omega, by go_num, by go_num, HV.out, by first | rfl | trivial⟩
        case measure => simp [intOf]; omega
    · have hib : ¬ (r : Int) < (n : Int) := by omega
      have hre : n = r := by omega
      subst hre
      go_wp2
      go_ret
      exact ⟨by rw [← HM.out]; rfl, rfl⟩
end Go.Proofs.Ytpccbiinfdppnad

/- Places and a dimension: may they be? The program's Check, the reference's ReedMay, whatever they are given. -/
namespace Go.Proofs.Ytpccbiinfdppnad
open Go.RowKit Go.Sort

/-- What the first r places say: 0, 2 (no element), 7 (there twice). -/
def FD.pch (D : FD) (z : Nat → Int) : Nat → Int
  | 0 => 0
  | r + 1 => if D.pch z r ≠ 0 then D.pch z r else if D.has (z r) = true then (if z r ∈ zl r z then 7 else 0) else 2
theorem pch_stays {D : FD} {z : Nat → Int} {r : Nat} (h : D.pch z r ≠ 0) : ∀ k, D.pch z (r + k) = D.pch z r
  | 0 => rfl
  | k + 1 => by
    have ih := pch_stays h k
    show (if D.pch z (r + k) ≠ 0 then D.pch z (r + k) else _) = _
    rw [ih, if_pos h]
theorem pch_to {D : FD} {z : Nat → Int} {r n : Nat} (h : D.pch z r ≠ 0) (hn : r ≤ n) : D.pch z n = D.pch z r := by
  have := pch_stays h (n - r)
  rwa [show r + (n - r) = n from by omega] at this
def FD.rchk (D : FD) (n : Nat) (z : Nat → Int) (k : Int) : Int := if n < 1 ∨ 64 < n then 4 else if D.pch z n ≠ 0 then D.pch z n else if k < 1 ∨ (n : Int) < k then 6 else 0

set_option maxHeartbeats 8000000 in
set_option maxRecDepth 100000 in
theorem rcheck_any {D : FD} (hD : D ∈ fieldsL) {xo : Option Addr} {n cx : Nat} {z : Nat → Int} (k : Int) {w : World} (hX : Arg xo n cx z w) :
    Calls Try.prog 79 #[.int .i64 D.q, .slice xo n cx, .int .i64 k] w fun e w' => e = .returned (.int .i64 (D.rchk n z k)) ∧ Below w.heap.size w w' := by
  have HF : Hid (D ∈ fieldsL ∧ Arg xo n cx z w) := ⟨hD, hX⟩
  have hn6 := hX.few
  have hcn := hX.le
  clear hD hX
  go_enter Try.func79, Try.ntmps79
  go_wp2_with fail
  refine (new_any HF.out.1 w).mono ?_
  rintro e w1 ⟨F, T, g, rfl, hat, hF, hT, hb1⟩
  have HA : Hid (FAt F T D g w1 ∧ SlZ xo n z w1 ∧ Below w.heap.size w w1) := ⟨hat, HF.out.2.sl.below hb1 HF.out.2.lt, hb1⟩
  clear hat hF hT hb1
  by_cases h1 : n < 1
  · have HV : Hid (D.rchk n z k = 4) := by show D.rchk n z k = 4; unfold FD.rchk; rw [if_pos (Or.inl h1)]
    have hz1 : (n : Int) < 1 := by omega
    go_wp2
    go_ret
    exact ⟨ret_int (by rw [HV.out]), HA.out.2.2⟩
  · have hz1 : ¬ (n : Int) < 1 := by omega
    by_cases h64 : 64 < n
    · have HV : Hid (D.rchk n z k = 4) := by show D.rchk n z k = 4; unfold FD.rchk; rw [if_pos (Or.inr h64)]
      have hz2 : (64 : Int) < (n : Int) := by omega
      go_wp2
      go_ret
      exact ⟨ret_int (by rw [HV.out]), HA.out.2.2⟩
    · have hz2 : ¬ (64 : Int) < (n : Int) := by omega
      have HR : Hid (D.rchk n z k = if D.pch z n ≠ 0 then D.pch z n else if k < 1 ∨ (n : Int) < k then 6 else 0) := by show D.rchk n z k = _; unfold FD.rchk; rw [if_neg (by omega)]
      clear h1 h64
      go_wp2
      go_loopw [29] (fun i wr => ∃ r : Nat, r ≤ n ∧ i = .int .i64 r ∧ Hid (D.pch z r = 0) ∧ wr = w1) (fun i _ => n - (intOf i).toNat)
      case atStart => exact ⟨0, by omega, rfl, rfl, rfl⟩
      case round =>
        obtain ⟨r, hr, rfl, HP, hw⟩ := hrel
        have hw := hw.symm
        subst hw
        by_cases hlt : r < n
        · have hib : (r : Int) < (n : Int) := by omega
          obtain ⟨bx, ox, hxo, hcx⟩ := HA.out.2.1 r hlt
          subst hxo
          obtain ⟨x, hx⟩ : ∃ x, x = z r := ⟨_, rfl⟩
          rw [← hx] at hcx
          have hcap : (r : Int) ≤ (cx : Int) := by omega
          obtain ⟨hb0, hh0⟩ : ∃ hb0, hb0 = D.has x := ⟨_, rfl⟩
          obtain ⟨hb1, hh1⟩ : ∃ hb1, hb1 = decide (x ∈ zl r z) := ⟨_, rfl⟩
          have HC1 : Hid (Calls Try.prog 65 #[.pointer (some ⟨F, 0, none⟩), .int .i64 x] w1 fun e w' => e = .returned (.bool hb0) ∧ w' = w1) := by
            rw [hh0]; exact has_any HA.out.1 x
          have HC2 : Hid (Calls Try.prog 102 #[.slice (some ⟨bx, ox, none⟩) r cx, .int .i64 x] w1 fun e w' => e = .returned (.bool hb1) ∧ w' = w1) := by
            rw [hh1]; exact contains_any x (fun j hj => HA.out.2.1 j (by omega)) (by omega)
          have HN : Hid (D.pch z (r + 1) = if hb0 = true then (if hb1 = true then 7 else 0) else 2) := by
            show (if D.pch z r ≠ 0 then D.pch z r else if D.has (z r) = true then (if z r ∈ zl r z then 7 else 0) else 2) = _
            rw [if_neg (fun h => h HP.out), hh0, hh1, ← hx]
            by_cases e : x ∈ zl r z
            · rw [if_pos e, decide_eq_true e]; simp
            · rw [if_neg e, decide_eq_false e]; simp
          clear hx hh0 hh1
          cases hb0 with
          | false =>
            have HV : Hid (D.rchk n z k = 2) := by
              have h2 : D.pch z (r + 1) = 2 := HN.out
              show _ = _
              rw [HR.out, pch_to (r := r + 1) (by rw [h2]; omega) (by omega), h2]; rfl
            go_wp2_with fail
            refine HC1.out.mono ?_
            rintro e w' ⟨rfl, hw⟩
            have hw := hw.symm
            subst hw
            go_wp2
            go_ret
            exact ⟨ret_int (by rw [HV.out]), HA.out.2.2⟩
          | true =>
            cases hb1 with
            | true =>
              have HV : Hid (D.rchk n z k = 7) := by
                have h2 : D.pch z (r + 1) = 7 := HN.out
                show _ = _
                rw [HR.out, pch_to (r := r + 1) (by rw [h2]; omega) (by omega), h2]; rfl
              go_wp2_with fail
              refine HC1.out.mono ?_
              rintro e w' ⟨rfl, hw⟩
              have hw := hw.symm
              subst hw
              go_wp2_with fail
              refine HC2.out.mono ?_
              rintro e w' ⟨rfl, hw⟩
              have hw := hw.symm
              subst hw
              go_wp2
              go_ret
              exact ⟨ret_int (by rw [HV.out]), HA.out.2.2⟩
            | false =>
              go_wp2_with fail
              refine HC1.out.mono ?_
              rintro e w' ⟨rfl, hw⟩
              have hw := hw.symm
              subst hw
              go_wp2_with fail
              refine HC2.out.mono ?_
              rintro e w' ⟨rfl, hw⟩
              have hw := hw.symm
              subst hw
              go_wp2
              go_roundw
              case rel => exact ⟨r + 1, by omega, by go_num, HN.out, by first | rfl | trivial⟩
              case measure => simp [intOf]; omega
        · have hib : ¬ (r : Int) < (n : Int) := by omega
          have hre : n = r := by omega
          subst hre
          by_cases hk1 : k < 1
          · have HV : Hid (D.rchk n z k = 6) := by show _ = _; rw [HR.out, if_neg (fun h => h HP.out), if_pos (Or.inl hk1)]
            go_wp2
            go_ret
            exact ⟨ret_int (by rw [HV.out]), HA.out.2.2⟩
          · by_cases hk2 : (n : Int) < k
            · have HV : Hid (D.rchk n z k = 6) := by show _ = _; rw [HR.out, if_neg (fun h => h HP.out), if_pos (Or.inr hk2)]
              go_wp2
              go_ret
              exact ⟨ret_int (by rw [HV.out]), HA.out.2.2⟩
            · have HV : Hid (D.rchk n z k = 0) := by show _ = _; rw [HR.out, if_neg (fun h => h HP.out), if_neg (by omega)]
              go_wp2
              go_ret
              exact ⟨ret_int (by rw [HV.out]), HA.out.2.2⟩
end Go.Proofs.Ytpccbiinfdppnad
