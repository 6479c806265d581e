/- Texts of ours, one behind the other: I31 S13 S14 S15 S16 S17 S18 I32 I33. -/
import Derived.Test.YtafebmhbfmdjlabZI20
import Derived.Test.YtafebmhbfmdjlabZI3
import Derived.Test.YtafebmhbfmdjlabZX18
import Derived.Test.YtafebmhbfmdjlabZI5
/- TwoL lists behind one another (slices.Concat). -/
namespace Go.Proofs.Ytafebmhbfmdjlab
open Go.RowKit Go.Sort

theorem grow_any {n : Nat} (hn : n ≤ 1000) (w : World) :
    Calls Try.prog 62 #[.slice none 0 0, .int .i64 (n : Nat)] w fun e w' => ∃ v, e = .returned v ∧ OwnI w.heap.size v [] w' ∧ Below w.heap.size w w' := by
  rcases Nat.eq_zero_or_pos n with h | h
  · subst h
    refine (grow_zero w).mono ?_
    rintro e w' ⟨rfl, rfl⟩
    exact ⟨_, rfl, OwnI.nil _ _, Below.refl _ _⟩
  · refine (grow_nil h hn w).mono ?_
    rintro e w' ⟨c, rfl, h1, h2⟩
    exact ⟨_, rfl, h1, h2⟩
def cat2 (n1 n2 : Nat) (a b : Nat → Int) : Nat → List Int
  | 0 => []
  | 1 => zl n1 a
  | _ => zl n1 a ++ zl n2 b
def sum2 (n1 n2 : Nat) : Nat → Nat
  | 0 => 0
  | 1 => n1
  | _ => n1 + n2
/-- One of two lists that lie in an array of two. -/
structure TwoL (B : Nat) (n1 n2 : Nat) (a b : Nat → Int) (w : World) : Prop where
  get : ∀ r, r < 2 → ∃ x n c z, w.cell? ⟨B, r, none⟩ = some (.slice x n c) ∧ SlZ x n z w ∧ LtB x w.heap.size ∧ (x = none → c = 0) ∧ sum2 n1 n2 r + n = sum2 n1 n2 (r + 1) ∧ cat2 n1 n2 a b r ++ zl n z = cat2 n1 n2 a b (r + 1)
theorem TwoL.below {B : Nat} {n1 n2 : Nat} {a b : Nat → Int} {w w' : World} (h : TwoL B n1 n2 a b w) (hb : Below w.heap.size w w') : TwoL B n1 n2 a b w' := ⟨fun r hr => by
  obtain ⟨x, n, c, z, h1, h2, h3, h4, h5, h6⟩ := h.get r hr
  exact ⟨x, n, c, z, ((bcell hb).1 B r (cell_lt h1)).trans h1, h2.below hb h3, fun y hy => Nat.lt_of_lt_of_le (h3 y hy) hb.size, h4, h5, h6⟩⟩
theorem cat2_len (n1 n2 : Nat) (a b : Nat → Int) : ∀ r, (cat2 n1 n2 a b r).length = sum2 n1 n2 r
  | 0 => rfl
  | 1 => zl_len _ _
  | r + 2 => by show (zl n1 a ++ zl n2 b).length = n1 + n2; rw [List.length_append, zl_len, zl_len]
theorem sum2_le (n1 n2 : Nat) : ∀ r, sum2 n1 n2 r ≤ n1 + n2
  | 0 => Nat.zero_le _
  | 1 => by show n1 ≤ n1 + n2; omega
  | r + 2 => Nat.le_refl _

set_option maxHeartbeats 8000000 in
set_option maxRecDepth 100000 in
theorem concat2 {B n1 n2 c : Nat} {a b : Nat → Int} {w : World} (h : TwoL B n1 n2 a b w) (hn : n1 + n2 ≤ 1000) :
    Calls Try.prog 39 #[.slice (some ⟨B, 0, none⟩) 2 c] w fun e w' => ∃ v, e = .returned v ∧ OwnI w.heap.size v (zl n1 a ++ zl n2 b) w' ∧ Below w.heap.size w w' := by
  have HT : Hid (TwoL B n1 n2 a b w) := h
  clear h
  go_enter Try.func39, Try.ntmps39
  go_wp2
  go_loopw [3, 11] (fun vs vi wr => ∃ r s : Nat, r ≤ 2 ∧ vs = .int .i64 (s : Nat) ∧ vi = .int .i64 r ∧ s ≤ n1 + n2 ∧ Hid (s = sum2 n1 n2 r) ∧ wr = w) (fun _ vi _ => 2 - (intOf vi).toNat)
  case atStart => exact ⟨0, 0, by omega, rfl, rfl, by omega, rfl, rfl⟩
  case round =>
    obtain ⟨r, s, hr, rfl, rfl, hs, HS, hw⟩ := hrel
    have hw := hw.symm
    subst hw
    by_cases hlt : r < 2
    · have hib : (r : Int) < 2 := by omega
      obtain ⟨x, n, cx, z, hc, _, _, _, h5, _⟩ := HT.out.get r hlt
      have hsn : s + n = sum2 n1 n2 (r + 1) := by rw [HS.out]; exact h5
      have hle := sum2_le n1 n2 (r + 1)
      have hsm : s + n ≤ n1 + n2 := by omega
      have HS2 : Hid (s + n = sum2 n1 n2 (r + 1)) := hsn
      have hneg : ¬ ((s : Int) + (n : Int) < 0) := by omega
      clear h5 hsn hle
      go_wp2
      go_roundw
      case rel => exact ⟨r + 1, s + n, by omega, by go_num, by go_num, hsm, HS2.out, by first | rfl | trivial⟩
      case measure => simp [intOf]; omega
    · have hib : ¬ (r : Int) < 2 := by omega
      have hre : r = 2 := by omega
      subst hre
      have hsn : s = n1 + n2 := HS.out
      subst hsn
      obtain ⟨M, hM⟩ : ∃ M, M = n1 + n2 := ⟨_, rfl⟩
      have HG : Hid (Calls Try.prog 62 #[.slice none 0 0, .int .i64 (M : Nat)] w fun e w' => ∃ v, e = .returned v ∧ OwnI w.heap.size v [] w' ∧ Below w.heap.size w w') := grow_any (by omega) w
      rw [← hM]
      clear hM
      go_wp2_with fail
      refine HG.out.mono ?_
      rintro e w1 ⟨v1, rfl, ho1, hb1⟩
      have H1 : Hid (OwnI w.heap.size v1 (cat2 n1 n2 a b 0) w1 ∧ Below w.heap.size w w1) := ⟨ho1, hb1⟩
      clear ho1 hb1
      go_wp2
      go_loopw [6, 27] (fun vl vi wr => ∃ r : Nat, r ≤ 2 ∧ vi = .int .i64 r ∧ Hid (OwnI w.heap.size vl (cat2 n1 n2 a b r) wr ∧ Below w.heap.size w wr)) (fun _ vi _ => 2 - (intOf vi).toNat)
      case atStart => exact ⟨0, by omega, rfl, H1.out⟩
      case round =>
        clear H1
        obtain ⟨r, hr, rfl, HK⟩ := hrel
        rename World => wr
        by_cases hlt : r < 2
        · have hib : (r : Int) < 2 := by omega
          obtain ⟨x, n, cx, z, hc, hsl, hlx, hnx, h5, h6⟩ := (HT.out.below HK.out.2).get r hlt
          have HP : Hid (SlZ x n z wr ∧ (x = none → cx = 0) ∧ cat2 n1 n2 a b r ++ zl n z = cat2 n1 n2 a b (r + 1)) := ⟨hsl, hnx, h6⟩
          have hll : (cat2 n1 n2 a b r).length + n ≤ 1000 := by
            have := sum2_le n1 n2 (r + 1)
            rw [cat2_len]; omega
          have hsz := HK.out.2.size
          clear hsl hlx hnx h5 h6
          go_wp2_with (at_builtin; refine append_ints rfl _ _ rfl w.heap.size _ (cat2 n1 n2 a b r) rfl HK.out.1 x n cx z rfl HP.out.1 HP.out.2.1 (by omega) hsz ?_; intro v5 w5 hown5 hgrow5)
          have HR : Hid (OwnI w.heap.size v5 (cat2 n1 n2 a b (r + 1)) w5 ∧ Below w.heap.size w w5) := ⟨by rw [← HP.out.2.2]; exact hown5, HK.out.2.grown hgrow5 hsz (fun k hk => (HK.out.1.lt k hk).1)⟩
          clear hown5 hgrow5
          go_roundw
          case rel => exact ⟨r + 1, by omega, by go_num, HR.out⟩
          case measure => simp [intOf]; omega
        · have hib : ¬ (r : Int) < 2 := by omega
          have hre : r = 2 := by omega
          subst hre
          go_wp2
          go_ret
          exact ⟨_, rfl, HK.out⟩
end Go.Proofs.Ytafebmhbfmdjlab

/- Plain mathematics: what makes rows 0 is what the null rows span; the dual of the dual. No Go text here. -/
namespace Go.Proofs.Ytafebmhbfmdjlab

theorem lcR_spn {D : FD} (F : Fld D) {K : Nat} {R : Nat → Nat → Nat} (p v : Nat → Nat) (hR : ∀ i, i < K → El D (R i)) : ∀ k, k ≤ K → Spn D (RowsOf K R) (lcR D R p v k)
  | 0, _ => spn_nil D _
  | k + 1, h => spn_add F (lcR_spn F p v hR k (by omega)) (spn_scale F _ (spn_mem F (hR k (by omega)) ⟨k, by omega, rfl⟩))
/-- At its own place a sum of rows is what was asked for. -/
theorem lcR_own {D : FD} (F : Fld D) {K : Nat} {R : Nat → Nat → Nat} {p v : Nat → Nat} (hv : El D v) (ho : ∀ i j, i < K → j < K → R i (p j) = if i = j then 1 else 0) {j : Nat} (hj : j < K) : ∀ k, k ≤ K → lcR D R p v k (p j) = if j < k then v (p j) else 0
  | 0, _ => by rw [if_neg (by omega)]; rfl
  | k + 1, h => by
    show D.ad (lcR D R p v k (p j)) (D.mul (v (p k)) (R k (p j))) = _
    rw [lcR_own F hv ho hj k (by omega), ho k j (by omega) hj]
    by_cases e : k = j
    · subst e
      rw [if_neg (by omega), if_pos rfl, if_pos (by omega), mul1 F (hv _), zero_ad F (hv _)]
    · rw [if_neg e, mul0 F]
      by_cases e2 : j < k
      · rw [if_pos e2, if_pos (by omega), ad_zero F (hv _)]
      · rw [if_neg e2, if_neg (by omega), ad_zero F (zero_lt' F)]
theorem dot_only {D : FD} (F : Fld D) {a b : Nat → Nat} {t : Nat} : ∀ n, t < n → (∀ j, j < n → j ≠ t → D.mul (a j) (b j) = 0) → dot D a b n = D.mul (a t) (b t)
  | 0, h, _ => absurd h (by omega)
  | n + 1, h, hz => by
    show D.ad (dot D a b n) (D.mul (a n) (b n)) = _
    by_cases e : n = t
    · subst e
      have h0 : ∀ m, m ≤ n → dot D a b m = 0 := fun m => by
        induction m with
        | zero => intro _; rfl
        | succ m ih =>
          intro hm
          show D.ad (dot D a b m) (D.mul (a m) (b m)) = 0
          rw [ih (by omega), hz m (by omega) (by omega), ad_zero F (zero_lt' F)]
      rw [h0 n (Nat.le_refl _), zero_ad F (F.mul_lt _ _)]
    · rw [hz n (by omega) e, ad_zero F (dot_lt F _ _ _)]
      exact dot_only F n (by omega) (fun j hj => hz j (by omega))
theorem fcs_all {k : Nat} {p : Nat → Nat} {c : Nat} (hc : ∀ i, i < k → p i ≠ c) : ∀ n, c < n → ∃ i, i < nct k p n ∧ fcs k p n i = c
  | 0, h => absurd h (by omega)
  | n + 1, h => by
    by_cases e : c = n
    · subst e
      exact ⟨nct k p c, by rw [nct_yes hc]; omega, fcs_at k p c⟩
    · obtain ⟨i, hi, hf⟩ := fcs_all hc n (by omega)
      refine ⟨i, ?_, by rw [fcs_lo hi]; exact hf⟩
      by_cases h2 : ∀ i, i < k → p i ≠ n
      · rw [nct_yes h2]; omega
      · rw [nct_no h2]; exact hi

theorem dot_nrv {D : FD} (F : Fld D) {n k : Nat} {R : Nat → Nat → Nat} {p : Nat → Nat} (h : RRE D n k R p) {i c : Nat} (hi : i < k) (hc : c < n) (hf : ∀ j, j < k → p j ≠ c) : ∀ r, r ≤ k → dot D (R i) (nrv D R p c r) n = if i < r then 0 else R i c
  | 0, _ => by rw [if_neg (by omega)]; exact dot_unit F (h.el i hi c) hc
  | r + 1, hr => by
    have e : nrv D R p c (r + 1) = fun t => if t = p r then D.ng (R r c) else nrv D R p c r t := rfl
    have h0 : nrv D R p c r (p r) = 0 := by
      rw [nrv_free r (fun j hj e => by have := h.mono j r hj (by omega); omega), if_neg (hf r (by omega))]
    rw [e, dot_put F h0 n (h.lt r (by omega)), dot_nrv F h hi hc hf r (by omega)]
    by_cases e2 : i = r
    · subst e2
      rw [if_neg (by omega), if_pos (by omega), h.one i hi, omul F (ng_lt F (h.el i hi c)), ad_ng F (h.el i hi c)]
    · rw [h.zero i r hi (by omega) e2, zmul F]
      by_cases e3 : i < r
      · rw [if_pos e3, if_pos (by omega), ad_zero F (zero_lt' F)]
      · rw [if_neg e3, if_neg (by omega), ad_zero F (h.el i hi c)]
theorem nul_orth {D : FD} (F : Fld D) {n k : Nat} {R : Nat → Nat → Nat} {p : Nat → Nat} (h : RRE D n k R p) {i j : Nat} (hi : i < k) (hj : j < nct k p n) : dot D (R i) (nul D R p k n j) n = 0 := by
  have h1 := fcs_ok n j hj
  have h2 := dot_nrv F h hi h1.1 h1.2 k (Nat.le_refl _)
  rw [if_pos hi] at h2
  exact h2
theorem orth_nul {D : FD} (F : Fld D) {n k : Nat} {R : Nat → Nat → Nat} {p : Nat → Nat} (h : RRE D n k R p) {v : Nat → Nat} (hv : El D v) (hb : Bd n v) (ho : ∀ i, i < k → dot D (R i) v n = 0) : Spn D (RowsOf (nct k p n) (nul D R p k n)) v := by
  have hs := lcR_spn F (K := nct k p n) (R := nul D R p k n) (fcs k p n) v (fun i _ => nul_el F h.el n i) (nct k p n) (Nat.le_refl _)
  obtain ⟨s, hse⟩ : ∃ s, s = lcR D (nul D R p k n) (fcs k p n) v (nct k p n) := ⟨_, rfl⟩
  rw [← hse] at hs
  have hsel : El D s := hs.el F
  have hu : ∀ c, D.sb (v c) (s c) = 0 := by
    have horth : ∀ i, i < k → dot D (R i) (psub D v s) n = 0 := fun i hi => by
      have e : dot D v (R i) n = 0 := by rw [dot_comm F]; exact ho i hi
      have e2 : dot D s (R i) n = 0 := dot_spn F hs (fun x ⟨j, hj, hx⟩ => by rw [hx, dot_comm F]; exact nul_orth F h hi hj)
      have e3 : psub D v s = padd D v (pscale D (D.ng 1) s) := by
        funext c
        show D.sb (v c) (s c) = D.ad (v c) (D.mul (D.ng 1) (s c))
        rw [F.mul_comm, mul_ng F (one_lt' F), mul1 F (hsel c)]; rfl
      rw [dot_comm F, e3, dot_add F hv (el_scale F _ _), dot_scale F, e, e2, mul0 F, ad_zero F (zero_lt' F)]
    have hfree : ∀ c, c < n → (∀ j, j < k → p j ≠ c) → D.sb (v c) (s c) = 0 := fun c hc hf => by
      obtain ⟨j, hj, ej⟩ := fcs_all hf n hc
      have h1 := lcR_own F (K := nct k p n) (R := nul D R p k n) (p := fcs k p n) hv (fun a b ha hb => nul_one ha hb) hj (nct k p n) (Nat.le_refl _)
      rw [if_pos hj, ej, ← hse] at h1
      rw [h1, sb_self F (hv c)]
    intro c
    by_cases hc : c < n
    · by_cases hf : ∀ j, j < k → p j ≠ c
      · exact hfree c hc hf
      · obtain ⟨i, hi, e⟩ : ∃ i, i < k ∧ p i = c := Classical.byContradiction (fun hn => hf (fun j hj e => hn ⟨j, hj, e⟩))
        subst e
        have h1 := dot_only F (a := R i) (b := psub D v s) n (h.lt i hi) (fun j hj hne => by
          by_cases hf2 : ∀ l, l < k → p l ≠ j
          · show D.mul (R i j) (D.sb (v j) (s j)) = 0
            rw [hfree j hj hf2, mul0 F]
          · obtain ⟨l, hl, e⟩ : ∃ l, l < k ∧ p l = j := Classical.byContradiction (fun hn => hf2 (fun j hj e => hn ⟨j, hj, e⟩))
            subst e
            rw [h.zero i l hi hl (fun e => hne (by rw [e])), zmul F])
        rw [horth i hi, h.one i hi] at h1
        have h2 : D.mul 1 (D.sb (v (p i)) (s (p i))) = 0 := h1.symm
        rw [omul F (sb_lt F (hv _) (hsel _))] at h2
        exact h2
    · have h1 : s c = 0 := by
        have hsb : ∀ k', k' ≤ nct k p n → lcR D (nul D R p k n) (fcs k p n) v k' c = 0 := fun k' hk' => lcR_at F _ _ _ c k' (fun i hi => by rw [nul_bd h.lt (by omega) c (by omega), mul0 F])
        rw [hse]; exact hsb _ (Nat.le_refl _)
      rw [h1, hb c (by omega), sb_self F (zero_lt' F)]
  have e : v = s := by
    funext c
    exact sb_eq_zero F (hv c) (hsel c) (hu c)
  rw [e]; exact hs
/-- What makes rows 0 is what their dual spans. -/
theorem Dul.iff {D : FD} (F : Fld D) {n m k2 : Nat} {M R2 : Nat → Nat → Nat} (h : Dul D n m M k2 R2) (hM : ∀ i, i < m → El D (M i)) (v : Nat → Nat) : Spn D (RowsOf k2 R2) v ↔ El D v ∧ Bd n v ∧ ∀ i, i < m → dot D (M i) v n = 0 := by
  obtain ⟨k, R, p, p2, h1, h2, h3, h4, _⟩ := h
  rw [h4 v]
  constructor
  · intro hs
    refine ⟨hs.el F, ?_, fun i hi => ?_⟩
    · exact spn_ind (Q := Bd n) (fun _ _ => rfl) (fun u w hu hw c hc => by show D.ad (u c) (w c) = 0; rw [hu c hc, hw c hc, ad_zero F (zero_lt' F)]) (fun s u hu c hc => by show D.mul s (u c) = 0; rw [hu c hc, mul0 F]) (fun u ⟨j, hj, e⟩ => by rw [e]; exact nul_bd h1.lt hj) hs
    · have hMi := (h2 _).2 (spn_mem F (hM i hi) ⟨i, hi, rfl⟩)
      refine dot_spn F hMi (fun u ⟨j, hj, e⟩ => ?_)
      rw [e, dot_comm F]
      exact dot_spn F hs (fun x ⟨l, hl, ex⟩ => by rw [ex, dot_comm F]; exact nul_orth F h1 hj hl)
  · rintro ⟨he, hb, ho⟩
    refine orth_nul F h1 he hb (fun i hi => ?_)
    have hRi := (h2 _).1 (spn_mem F (h1.el i hi) ⟨i, hi, rfl⟩)
    exact dot_spn F hRi (fun u ⟨j, hj, e⟩ => by rw [e]; exact ho j hj)
end Go.Proofs.Ytafebmhbfmdjlab

/- Plain mathematics: the dual of the dual. No Go text here. -/
namespace Go.Proofs.Ytafebmhbfmdjlab

/-- Of two increasing sequences of one length, the one within the other, none is left out. -/
theorem mono_within {p q : Nat → Nat} : ∀ k, (∀ i j, i < j → j < k → p i < p j) → (∀ i j, i < j → j < k → q i < q j) → (∀ i, i < k → ∃ j, j < k ∧ p i = q j) → ∀ i, i < k → p i = q i := by
  intro k hp hq hs
  have up : ∀ i, i < k → ∀ j, j < k → p i = q j → i ≤ j := fun i => by
    induction i with
    | zero => intro _ j _ _; exact Nat.zero_le _
    | succ i ih =>
      intro hi j hj e
      obtain ⟨l, hl, el⟩ := hs i (by omega)
      have h1 := ih (by omega) l hl el
      have h2 := hp i (i + 1) (by omega) hi
      have h3 : l < j := by
        rcases Nat.lt_or_ge l j with h | h
        · exact h
        · rcases Nat.lt_or_eq_of_le h with h | h
          · have := hq j l h hl; omega
          · subst h; omega
      omega
  have down : ∀ d i, i + d + 1 = k → ∀ j, j < k → p i = q j → j ≤ i := fun d => by
    induction d with
    | zero => intro i hi j hj _; omega
    | succ d ih =>
      intro i hi j hj e
      obtain ⟨l, hl, el⟩ := hs (i + 1) (by omega)
      have h1 := ih (i + 1) (by omega) l hl el
      have h2 := hp i (i + 1) (by omega) (by omega)
      have h3 : j < l := by
        rcases Nat.lt_or_ge j l with h | h
        · exact h
        · rcases Nat.lt_or_eq_of_le h with h | h
          · have := hq l j h hj; omega
          · subst h; omega
      omega
  intro i hi
  obtain ⟨j, hj, e⟩ := hs i hi
  have h1 := up i hi j hj e
  have h2 := down (k - 1 - i) i (by omega) j hj e
  have : j = i := by omega
  rw [e, this]
/-- Rows within others', as many in their one form: they span the same. -/
theorem rre_within {D : FD} (F : Fld D) {n k : Nat} {R R' : Nat → Nat → Nat} {p p' : Nat → Nat} (h : RRE D n k R p) (h' : RRE D n k R' p') (hs : ∀ v, Spn D (RowsOf k R) v → Spn D (RowsOf k R') v) (v : Nat → Nat) : Spn D (RowsOf k R) v ↔ Spn D (RowsOf k R') v := by
  refine ⟨hs v, fun hv => ?_⟩
  have hp : ∀ i, i < k → p i = p' i := mono_within k h.mono h'.mono (fun i hi => by
    have hl : Lead D (RowsOf k R) (p i) := (rre_lead F h (p i)).2 ⟨i, hi, rfl⟩
    obtain ⟨u, h1, h2⟩ := hl
    obtain ⟨j, hj, e⟩ := (rre_lead F h' (p i)).1 ⟨u, hs u h1, h2⟩
    exact ⟨j, hj, e⟩)
  have hc := lcR_spn F (K := k) (R := R) p v h.el k (Nat.le_refl _)
  have hd : Spn D (RowsOf k R') (psub D v (lcR D R p v k)) := spn_sub F hv (hs _ hc)
  have hz := rre_nil F h' hd (fun j hj => by
    show D.sb (v (p' j)) (lcR D R p v k (p' j)) = 0
    rw [← hp j hj, lcR_own F (hv.el F) (fun a b ha hb => by
      by_cases e : a = b
      · subst e; rw [if_pos rfl, h.one a ha]
      · rw [if_neg e, h.zero a b ha hb e]) hj k (Nat.le_refl _), if_pos hj, sb_self F (hv.el F _)])
  rw [psub_eq_nil F (hv.el F) (hc.el F) hz]
  exact hc
theorem Dul.count {D : FD} (F : Fld D) {n m k k2 : Nat} {M R R2 : Nat → Nat → Nat} (h : Dul D n m M k2 R2) (hr : Red D n m M k R) : k2 + k = n := by
  obtain ⟨k', R', p', p2, h1, h2, _, _, e⟩ := h
  obtain ⟨p, g1, g2⟩ := hr
  have hk := (rre_uniq F h1 g1 (fun v => (h2 v).trans (g2 v).symm)).1
  have := nct_all h1.mono h1.lt
  omega
end Go.Proofs.Ytafebmhbfmdjlab

/- Plain mathematics: how many rows sums and meets of codes have. No Go text here. -/
namespace Go.Proofs.Ytafebmhbfmdjlab

end Go.Proofs.Ytafebmhbfmdjlab

/- Plain mathematics: the rows of sum and meet together are both's. No Go text here. -/
namespace Go.Proofs.Ytafebmhbfmdjlab

theorem RRE.take {D : FD} {n k j : Nat} {R : Nat → Nat → Nat} {p : Nat → Nat} (h : RRE D n k R p) (hj : j ≤ k) : RRE D n j R p :=
  ⟨fun i hi => h.el i (by omega), fun i hi => h.bd i (by omega), fun i hi => h.lt i (by omega), fun a b h1 h2 => h.mono a b h1 (by omega), fun i hi => h.one i (by omega), fun a b h1 h2 => h.zero a b (by omega) (by omega), fun i c hi => h.lead i c (by omega)⟩
end Go.Proofs.Ytafebmhbfmdjlab

/- Plain mathematics: words without a place; the dual of the punctured dual. No Go text here. -/
namespace Go.Proofs.Ytafebmhbfmdjlab

/-- A word without place a. -/
def wo (a : Nat) (v : Nat → Nat) : Nat → Nat := fun j => if j < a then v j else v (j + 1)
theorem wo_el {D : FD} {a : Nat} {v : Nat → Nat} (h : El D v) : El D (wo a v) := fun j => by unfold wo; split <;> exact h _
theorem wo_bd {a n : Nat} {v : Nat → Nat} (ha : a < n) (h : Bd n v) : Bd (n - 1) (wo a v) := fun j hj => by
  unfold wo
  rw [if_neg (by omega)]; exact h _ (by omega)
theorem wo_add (D : FD) (a : Nat) (u v : Nat → Nat) : wo a (padd D u v) = padd D (wo a u) (wo a v) := by
  funext j
  show (if j < a then D.ad (u j) (v j) else D.ad (u (j + 1)) (v (j + 1))) = D.ad (if j < a then u j else u (j + 1)) (if j < a then v j else v (j + 1))
  split <;> rfl
theorem wo_scale (D : FD) (a s : Nat) (v : Nat → Nat) : wo a (pscale D s v) = pscale D s (wo a v) := by
  funext j
  show (if j < a then D.mul s (v j) else D.mul s (v (j + 1))) = D.mul s (if j < a then v j else v (j + 1))
  split <;> rfl
theorem wo_nil (a : Nat) : wo a pnil = pnil := by
  funext j
  show (if j < a then 0 else 0) = 0
  split <;> rfl
/-- What is spanned without a place is what is spanned, without it. -/
theorem spn_wo {D : FD} (F : Fld D) {a k : Nat} {R : Nat → Nat → Nat} (hR : ∀ i, i < k → El D (R i)) (u : Nat → Nat) : Spn D (RowsOf k fun i => wo a (R i)) u ↔ ∃ v, Spn D (RowsOf k R) v ∧ u = wo a v := by
  constructor
  · intro h
    refine spn_ind (Q := fun u => ∃ v, Spn D (RowsOf k R) v ∧ u = wo a v) ⟨pnil, spn_nil D _, (wo_nil a).symm⟩ ?_ ?_ ?_ h
    · rintro u w ⟨v, hv, rfl⟩ ⟨v', hv', rfl⟩
      exact ⟨_, spn_add F hv hv', (wo_add D a v v').symm⟩
    · rintro s u ⟨v, hv, rfl⟩
      exact ⟨_, spn_scale F s hv, (wo_scale D a s v).symm⟩
    · rintro u ⟨i, hi, e⟩
      exact ⟨R i, spn_mem F (hR i hi) ⟨i, hi, rfl⟩, e⟩
  · rintro ⟨v, hv, rfl⟩
    refine spn_ind (Q := fun v => Spn D (RowsOf k fun i => wo a (R i)) (wo a v)) (by rw [wo_nil]; exact spn_nil D _) (fun u w hu hw => by rw [wo_add]; exact spn_add F hu hw) (fun s u hu => by rw [wo_scale]; exact spn_scale F s hu) (fun u ⟨i, hi, e⟩ => by rw [e]; exact spn_mem F (wo_el (hR i hi)) ⟨i, hi, rfl⟩) hv
end Go.Proofs.Ytafebmhbfmdjlab

/- Plain mathematics: the rows that are left where one place is 0. No Go text here. -/
namespace Go.Proofs.Ytafebmhbfmdjlab

end Go.Proofs.Ytafebmhbfmdjlab

/- A word without a place (the reference's Without). -/
namespace Go.Proofs.Ytafebmhbfmdjlab
open Go.RowKit Go.Sort

theorem zl_wo (a n : Nat) (f : Nat → Nat) (ha : a < n) : zl a (fun j => ((f j : Nat) : Int)) ++ zl (n - (a + 1)) (fun j => ((f (a + 1 + j) : Nat) : Int)) = zl (n - 1) fun j => ((wo a f j : Nat) : Int) := by
  apply List.ext_getElem?
  intro i
  unfold zl
  by_cases h1 : i < a
  · rw [List.getElem?_append_left (by simpa using h1)]
    simp only [List.getElem?_map]
    rw [List.getElem?_range h1, List.getElem?_range (by omega)]
    show some ((f i : Nat) : Int) = some ((if i < a then f i else f (i + 1) : Nat) : Int)
    rw [if_pos h1]
  · rw [List.getElem?_append_right (by simpa using h1)]
    simp only [List.getElem?_map, List.length_map, List.length_range]
    by_cases h2 : i < n - 1
    · rw [List.getElem?_range (by omega), List.getElem?_range h2]
      show some ((f (a + 1 + (i - a)) : Nat) : Int) = some ((if i < a then f i else f (i + 1) : Nat) : Int)
      rw [if_neg h1, show a + 1 + (i - a) = i + 1 by omega]
    · rw [List.getElem?_eq_none (by simp; omega), List.getElem?_eq_none (by simp; omega)]
      rfl

end Go.Proofs.Ytafebmhbfmdjlab

/- A code without a place (the reference's Punctured). -/
namespace Go.Proofs.Ytafebmhbfmdjlab
open Go.RowKit Go.Sort

theorem zl_cast_getD (n : Nat) (c : Nat → Nat) (k : Nat) (hk : k < (zl n fun j => ((c j : Nat) : Int)).length) : (zl n fun j => ((c j : Nat) : Int)).getD k 0 = (c k : Nat) := by
  rw [zl_len] at hk
  exact zl_getD _ _ _ hk
theorem own_elm {base n2 : Nat} {v : Value} {c : Nat → Nat} {w : World} (h : OwnI base v (zl (n2 + 1) fun j => ((c j : Nat) : Int)) w) : Elm v (n2, c) w := by
  have h1 := h.ownC c (fun k hk => zl_cast_getD _ _ _ hk)
  rw [zl_len] at h1
  exact h1.elm

end Go.Proofs.Ytafebmhbfmdjlab
