/- Texts of ours, one behind the other: S13 S20 KA1 KA2 KA3 KA4 KA5 KA6 KA7 S23 S24 S25 S27 S28. -/
import Derived.Test.YtnjbnamcedfjaaaGreatZZ4
import Derived.Test.YtnjbnamcedfjaaaGreatZA1
import Derived.Test.YtnjbnamcedfjaaaGreatZR2
import Derived.Test.YtnjbnamcedfjaaaGreatZM3
import Derived.Test.YtnjbnamcedfjaaaGreatZU1
import Derived.Deep.CutBlock
import Derived.Deep.DeepCutAuto
import Derived.Test.YtnjbnamcedfjaaaGreatZR9
import Derived.Test.YtnjbnamcedfjaaaGreatZY1
import Derived.Test.YtnjbnamcedfjaaaGreatZX19
/- Plain mathematics: what makes rows 0 is what the null rows span; the dual of the dual. No Go text here. -/
namespace Go.Proofs.YtnjbnamcedfjaaaGreat

theorem lcR_spn {D : FD} (F : Fld D) {K : Nat} {R : Nat → Nat → Nat} (p v : Nat → Nat) (hR : ∀ i, i < K → El D (R i)) : ∀ k, k ≤ K → Spn D (RowsOf K R) (lcR D R p v k)
  | 0, _ => spn_nil D _
  | k + 1, h => spn_add F (lcR_spn F p v hR k (by omega)) (spn_scale F _ (spn_mem F (hR k (by omega)) ⟨k, by omega, rfl⟩))
/-- At its own place a sum of rows is what was asked for. -/
theorem lcR_own {D : FD} (F : Fld D) {K : Nat} {R : Nat → Nat → Nat} {p v : Nat → Nat} (hv : El D v) (ho : ∀ i j, i < K → j < K → R i (p j) = if i = j then 1 else 0) {j : Nat} (hj : j < K) : ∀ k, k ≤ K → lcR D R p v k (p j) = if j < k then v (p j) else 0
  | 0, _ => by rw [if_neg (by omega)]; rfl
  | k + 1, h => by
    show D.ad (lcR D R p v k (p j)) (D.mul (v (p k)) (R k (p j))) = _
    rw [lcR_own F hv ho hj k (by omega), ho k j (by omega) hj]
    by_cases e : k = j
    · subst e
      rw [if_neg (by omega), if_pos rfl, if_pos (by omega), mul1 F (hv _), zero_ad F (hv _)]
    · rw [if_neg e, mul0 F]
      by_cases e2 : j < k
      · rw [if_pos e2, if_pos (by omega), ad_zero F (hv _)]
      · rw [if_neg e2, if_neg (by omega), ad_zero F (zero_lt' F)]
theorem dot_only {D : FD} (F : Fld D) {a b : Nat → Nat} {t : Nat} : ∀ n, t < n → (∀ j, j < n → j ≠ t → D.mul (a j) (b j) = 0) → dot D a b n = D.mul (a t) (b t)
  | 0, h, _ => absurd h (by omega)
  | n + 1, h, hz => by
    show D.ad (dot D a b n) (D.mul (a n) (b n)) = _
    by_cases e : n = t
    · subst e
      have h0 : ∀ m, m ≤ n → dot D a b m = 0 := fun m => by
        induction m with
        | zero => intro _; rfl
        | succ m ih =>
          intro hm
          show D.ad (dot D a b m) (D.mul (a m) (b m)) = 0
          rw [ih (by omega), hz m (by omega) (by omega), ad_zero F (zero_lt' F)]
      rw [h0 n (Nat.le_refl _), zero_ad F (F.mul_lt _ _)]
    · rw [hz n (by omega) e, ad_zero F (dot_lt F _ _ _)]
      exact dot_only F n (by omega) (fun j hj => hz j (by omega))
theorem fcs_all {k : Nat} {p : Nat → Nat} {c : Nat} (hc : ∀ i, i < k → p i ≠ c) : ∀ n, c < n → ∃ i, i < nct k p n ∧ fcs k p n i = c
  | 0, h => absurd h (by omega)
  | n + 1, h => by
    by_cases e : c = n
    · subst e
      exact ⟨nct k p c, by rw [nct_yes hc]; omega, fcs_at k p c⟩
    · obtain ⟨i, hi, hf⟩ := fcs_all hc n (by omega)
      refine ⟨i, ?_, by rw [fcs_lo hi]; exact hf⟩
      by_cases h2 : ∀ i, i < k → p i ≠ n
      · rw [nct_yes h2]; omega
      · rw [nct_no h2]; exact hi

theorem dot_nrv {D : FD} (F : Fld D) {n k : Nat} {R : Nat → Nat → Nat} {p : Nat → Nat} (h : RRE D n k R p) {i c : Nat} (hi : i < k) (hc : c < n) (hf : ∀ j, j < k → p j ≠ c) : ∀ r, r ≤ k → dot D (R i) (nrv D R p c r) n = if i < r then 0 else R i c
  | 0, _ => by rw [if_neg (by omega)]; exact dot_unit F (h.el i hi c) hc
  | r + 1, hr => by
    have e : nrv D R p c (r + 1) = fun t => if t = p r then D.ng (R r c) else nrv D R p c r t := rfl
    have h0 : nrv D R p c r (p r) = 0 := by
      rw [nrv_free r (fun j hj e => by have := h.mono j r hj (by omega); omega), if_neg (hf r (by omega))]
    rw [e, dot_put F h0 n (h.lt r (by omega)), dot_nrv F h hi hc hf r (by omega)]
    by_cases e2 : i = r
    · subst e2
      rw [if_neg (by omega), if_pos (by omega), h.one i hi, omul F (ng_lt F (h.el i hi c)), ad_ng F (h.el i hi c)]
    · rw [h.zero i r hi (by omega) e2, zmul F]
      by_cases e3 : i < r
      · rw [if_pos e3, if_pos (by omega), ad_zero F (zero_lt' F)]
      · rw [if_neg e3, if_neg (by omega), ad_zero F (h.el i hi c)]
theorem nul_orth {D : FD} (F : Fld D) {n k : Nat} {R : Nat → Nat → Nat} {p : Nat → Nat} (h : RRE D n k R p) {i j : Nat} (hi : i < k) (hj : j < nct k p n) : dot D (R i) (nul D R p k n j) n = 0 := by
  have h1 := fcs_ok n j hj
  have h2 := dot_nrv F h hi h1.1 h1.2 k (Nat.le_refl _)
  rw [if_pos hi] at h2
  exact h2
theorem orth_nul {D : FD} (F : Fld D) {n k : Nat} {R : Nat → Nat → Nat} {p : Nat → Nat} (h : RRE D n k R p) {v : Nat → Nat} (hv : El D v) (hb : Bd n v) (ho : ∀ i, i < k → dot D (R i) v n = 0) : Spn D (RowsOf (nct k p n) (nul D R p k n)) v := by
  have hs := lcR_spn F (K := nct k p n) (R := nul D R p k n) (fcs k p n) v (fun i _ => nul_el F h.el n i) (nct k p n) (Nat.le_refl _)
  obtain ⟨s, hse⟩ : ∃ s, s = lcR D (nul D R p k n) (fcs k p n) v (nct k p n) := ⟨_, rfl⟩
  rw [← hse] at hs
  have hsel : El D s := hs.el F
  have hu : ∀ c, D.sb (v c) (s c) = 0 := by
    have horth : ∀ i, i < k → dot D (R i) (psub D v s) n = 0 := fun i hi => by
      have e : dot D v (R i) n = 0 := by rw [dot_comm F]; exact ho i hi
      have e2 : dot D s (R i) n = 0 := dot_spn F hs (fun x ⟨j, hj, hx⟩ => by rw [hx, dot_comm F]; exact nul_orth F h hi hj)
      have e3 : psub D v s = padd D v (pscale D (D.ng 1) s) := by
        funext c
        show D.sb (v c) (s c) = D.ad (v c) (D.mul (D.ng 1) (s c))
        rw [F.mul_comm, mul_ng F (one_lt' F), mul1 F (hsel c)]; rfl
      rw [dot_comm F, e3, dot_add F hv (el_scale F _ _), dot_scale F, e, e2, mul0 F, ad_zero F (zero_lt' F)]
    have hfree : ∀ c, c < n → (∀ j, j < k → p j ≠ c) → D.sb (v c) (s c) = 0 := fun c hc hf => by
      obtain ⟨j, hj, ej⟩ := fcs_all hf n hc
      have h1 := lcR_own F (K := nct k p n) (R := nul D R p k n) (p := fcs k p n) hv (fun a b ha hb => nul_one ha hb) hj (nct k p n) (Nat.le_refl _)
      rw [if_pos hj, ej, ← hse] at h1
      rw [h1, sb_self F (hv c)]
    intro c
    by_cases hc : c < n
    · by_cases hf : ∀ j, j < k → p j ≠ c
      · exact hfree c hc hf
      · obtain ⟨i, hi, e⟩ : ∃ i, i < k ∧ p i = c := Classical.byContradiction (fun hn => hf (fun j hj e => hn ⟨j, hj, e⟩))
        subst e
        have h1 := dot_only F (a := R i) (b := psub D v s) n (h.lt i hi) (fun j hj hne => by
          by_cases hf2 : ∀ l, l < k → p l ≠ j
          · show D.mul (R i j) (D.sb (v j) (s j)) = 0
            rw [hfree j hj hf2, mul0 F]
          · obtain ⟨l, hl, e⟩ : ∃ l, l < k ∧ p l = j := Classical.byContradiction (fun hn => hf2 (fun j hj e => hn ⟨j, hj, e⟩))
            subst e
            rw [h.zero i l hi hl (fun e => hne (by rw [e])), zmul F])
        rw [horth i hi, h.one i hi] at h1
        have h2 : D.mul 1 (D.sb (v (p i)) (s (p i))) = 0 := h1.symm
        rw [omul F (sb_lt F (hv _) (hsel _))] at h2
        exact h2
    · have h1 : s c = 0 := by
        have hsb : ∀ k', k' ≤ nct k p n → lcR D (nul D R p k n) (fcs k p n) v k' c = 0 := fun k' hk' => lcR_at F _ _ _ c k' (fun i hi => by rw [nul_bd h.lt (by omega) c (by omega), mul0 F])
        rw [hse]; exact hsb _ (Nat.le_refl _)
      rw [h1, hb c (by omega), sb_self F (zero_lt' F)]
  have e : v = s := by
    funext c
    exact sb_eq_zero F (hv c) (hsel c) (hu c)
  rw [e]; exact hs
/-- What makes rows 0 is what their dual spans. -/
theorem Dul.iff {D : FD} (F : Fld D) {n m k2 : Nat} {M R2 : Nat → Nat → Nat} (h : Dul D n m M k2 R2) (hM : ∀ i, i < m → El D (M i)) (v : Nat → Nat) : Spn D (RowsOf k2 R2) v ↔ El D v ∧ Bd n v ∧ ∀ i, i < m → dot D (M i) v n = 0 := by
  obtain ⟨k, R, p, p2, h1, h2, h3, h4, _⟩ := h
  rw [h4 v]
  constructor
  · intro hs
    refine ⟨hs.el F, ?_, fun i hi => ?_⟩
    · exact spn_ind (Q := Bd n) (fun _ _ => rfl) (fun u w hu hw c hc => by show D.ad (u c) (w c) = 0; rw [hu c hc, hw c hc, ad_zero F (zero_lt' F)]) (fun s u hu c hc => by show D.mul s (u c) = 0; rw [hu c hc, mul0 F]) (fun u ⟨j, hj, e⟩ => by rw [e]; exact nul_bd h1.lt hj) hs
    · have hMi := (h2 _).2 (spn_mem F (hM i hi) ⟨i, hi, rfl⟩)
      refine dot_spn F hMi (fun u ⟨j, hj, e⟩ => ?_)
      rw [e, dot_comm F]
      exact dot_spn F hs (fun x ⟨l, hl, ex⟩ => by rw [ex, dot_comm F]; exact nul_orth F h1 hj hl)
  · rintro ⟨he, hb, ho⟩
    refine orth_nul F h1 he hb (fun i hi => ?_)
    have hRi := (h2 _).1 (spn_mem F (h1.el i hi) ⟨i, hi, rfl⟩)
    exact dot_spn F hRi (fun u ⟨j, hj, e⟩ => by rw [e]; exact ho j hj)
end Go.Proofs.YtnjbnamcedfjaaaGreat

/- Plain mathematics: how many sets there are; Krawtchouk's numbers. No Go text here. -/
namespace Go.Proofs.YtnjbnamcedfjaaaGreat

end Go.Proofs.YtnjbnamcedfjaaaGreat

/- Weights: powers and numbers of sets (the program's power, over). -/
namespace Go.Proofs.YtnjbnamcedfjaaaGreat
open Go.RowKit

theorem wrap_ka {a : Int} (h1 : -9223372036854775808 ≤ a) (h2 : a ≤ 9223372036854775807) : IntKind.i64.wrap a = a := by
  rw [IntKind.wrap_i64]
  first | omega | (unfold wrap64; omega)
end Go.Proofs.YtnjbnamcedfjaaaGreat

/- Weights: Krawtchouk's numbers (the program's krawtchouk). -/
namespace Go.Proofs.YtnjbnamcedfjaaaGreat
open Go.RowKit

end Go.Proofs.YtnjbnamcedfjaaaGreat

/- Weights: Krawtchouk's numbers (the reference's Kraw). -/
namespace Go.Proofs.YtnjbnamcedfjaaaGreat
open Go.RowKit

/-- Whole numbers, below 0 too, in a row of the call's own. -/
def RowZ (g N : Nat) (z : Nat → Int) (w : World) : Prop := ∃ cap f, RowF g cap 3 f w ∧ N ≤ cap ∧ ∀ k, k < N → f k = .int .i64 (z k)
theorem RowZ.cell {g N : Nat} {z : Nat → Int} {w : World} (h : RowZ g N z w) (k : Nat) (hk : k < N) : w.cell? ⟨g, k, none⟩ = some (.int .i64 (z k)) := by
  obtain ⟨cap, f, h1, h2, h3⟩ := h
  rw [h1.cell k (by omega), h3 k hk]
theorem RowZ.free {g N : Nat} {z : Nat → Int} {w : World} (h : RowZ g N z w) (k : Nat) : w.frozen? ⟨g, k, none⟩ = false := by
  obtain ⟨cap, f, h1, h2, h3⟩ := h
  exact h1.free k
theorem RowZ.store {g N : Nat} {z y : Nat → Int} {w : World} (h : RowZ g N z w) (k : Nat) (v : Int) (hd : ∀ j, j < N → y j = if j = k then v else z j) : RowZ g N y (w.setCell ⟨g, k, none⟩ (.int .i64 v)) := by
  obtain ⟨cap, f, h1, h2, h3⟩ := h
  refine ⟨cap, _, h1.store k _, h2, fun j hj => ?_⟩
  unfold upd
  rw [hd j hj]
  by_cases e : j = k
  · rw [if_pos e, if_pos e]
  · rw [if_neg e, if_neg e, h3 j hj]
theorem RowZ.congr {g N : Nat} {z y : Nat → Int} {w : World} (h : RowZ g N z w) (e : ∀ k, k < N → z k = y k) : RowZ g N y w := by
  obtain ⟨cap, f, h1, h2, h3⟩ := h
  exact ⟨cap, f, h1, h2, fun k hk => by rw [h3 k hk, e k hk]⟩
theorem RowZ.below {g N B : Nat} {z : Nat → Int} {w w' : World} (h : RowZ g N z w) (hb : Below B w w') (hB : g < B) : RowZ g N z w' := by
  obtain ⟨cap, f, h1, h2, h3⟩ := h
  exact ⟨cap, f, h1.below hb hB, h2, h3⟩
end Go.Proofs.YtnjbnamcedfjaaaGreat

/- Weights: what is said of a size and a length, on both sides (Check, CountMay). -/
namespace Go.Proofs.YtnjbnamcedfjaaaGreat
open Go.RowKit

end Go.Proofs.YtnjbnamcedfjaaaGreat

/- Weights: sums and looks by closures (the program's times, found, outside; Shows' closures). -/
namespace Go.Proofs.YtnjbnamcedfjaaaGreat
open Go.RowKit Go.Sort

end Go.Proofs.YtnjbnamcedfjaaaGreat

/- Weights: what Shows asks of its closures (outside, found, Shows$1, Shows$1$1, Shows$2, checkDistance). -/
namespace Go.Proofs.YtnjbnamcedfjaaaGreat
open Go.RowKit Go.Sort

end Go.Proofs.YtnjbnamcedfjaaaGreat

/- Weights: Shows of the program. -/
namespace Go.Proofs.YtnjbnamcedfjaaaGreat
open Go.RowKit Go.Sort

theorem results_four {fn : Func} {t u v x : Tmp} (h : fn.results = #[.tmp t, .tmp u, .tmp v, .tmp x]) (tmps : Array Value) (P : Program) (w : World) :
    (results fn tmps).run P w = .ok (.tuple #[tmps.getD t undef, tmps.getD u undef, tmps.getD v undef, tmps.getD x undef]) w := by
  simp [results, h]

end Go.Proofs.YtnjbnamcedfjaaaGreat

/- Plain mathematics: sets that are great and meet little are few (Johnson). No Go text here. -/
namespace Go.Proofs.YtnjbnamcedfjaaaGreat

theorem ct_mono {p p' : Nat → Bool} : ∀ n, (∀ i, i < n → p i = true → p' i = true) → ct p n ≤ ct p' n
  | 0, _ => Nat.le_refl _
  | n + 1, h => by
    have h1 := ct_mono n (fun i hi => h i (by omega))
    have h2 := h n (by omega)
    show ct p n + (if p n = true then 1 else 0) ≤ ct p' n + if p' n = true then 1 else 0
    by_cases e : p n = true
    · rw [if_pos e, if_pos (h2 e)]; omega
    · rw [if_neg e]; omega
end Go.Proofs.YtnjbnamcedfjaaaGreat

/- Plain mathematics of Sudan's sum: a message that agrees at many places makes it nought. No Go text here. -/
namespace Go.Proofs.YtnjbnamcedfjaaaGreat
open Go.RowKit Go.Sort

theorem pw_xp {D : FD} (hD : D ∈ fieldsL) {a : Nat} (h0 : a ≠ 0) : ∀ k, D.pw a k = D.xp a k
  | 0 => pw_zero hD a
  | k + 1 => by
    show _ = D.mul (D.xp a k) a
    rw [← pw_xp hD h0 k, pw_succ hD a k h0]
theorem pn_xp {D : FD} (hD : D ∈ fieldsL) {a : Nat} (ha : a < D.q) (k : Nat) : D.pn a k = D.xp a k := by
  have hh : D.has (a : Nat) = true := decide_eq_true ⟨by omega, by omega⟩
  unfold FD.pn FD.powZ
  rw [if_neg (by rw [hh]; decide)]
  cases k with
  | zero => rfl
  | succ k =>
    rw [if_neg (by omega)]
    by_cases h0 : a = 0
    · subst h0
      rw [if_pos (by rfl), if_neg (by omega)]
      show 0 = D.mul (D.xp 0 k) 0
      rw [mul0 (fld hD)]
    · rw [if_neg (by omega), ← pw_xp hD h0]
      rw [Int.toNat_natCast]
      have e : (((k + 1 : Nat) : Int) % ((D.q - 1 : Nat) : Int)).toNat = (k + 1) % (D.q - 1) := by
        have e0 : ((k + 1 : Nat) : Int) % ((D.q - 1 : Nat) : Int) = (((k + 1) % (D.q - 1) : Nat) : Int) := rfl
        rw [e0, Int.toNat_natCast]
      rw [e, Int.toNat_natCast]
      unfold FD.pw
      rw [Nat.mul_mod_mod]

theorem ev_congr {D : FD} {c d : Nat → Nat} (x : Nat) : ∀ n, (∀ i, i < n → c i = d i) → D.ev c x n = D.ev d x n
  | 0, _ => rfl
  | n + 1, h => by
    show D.ad (D.ev c x n) (D.mul (c n) (D.xp x n)) = D.ad (D.ev d x n) (D.mul (d n) (D.xp x n))
    rw [ev_congr x n (fun i hi => h i (by omega)), h n (by omega)]
end Go.Proofs.YtnjbnamcedfjaaaGreat

/- Plain mathematics of Sudan's sum, second part: the curve of a message that agrees at t places is nought. No Go text here. -/
namespace Go.Proofs.YtnjbnamcedfjaaaGreat
open Go.RowKit Go.Sort

theorem ct_same {p p' : Nat → Bool} : ∀ n, (∀ i, i < n → p i = p' i) → ct p n = ct p' n
  | 0, _ => rfl
  | n + 1, h => by
    show ct p n + (if p n = true then 1 else 0) = ct p' n + if p' n = true then 1 else 0
    rw [ct_same n (fun i hi => h i (by omega)), h n (by omega)]
theorem trd_le {n m : Nat} {c : Nat → Nat} (h : Trd m c) (hb : Bd n c) : m ≤ n := by
  refine Nat.le_of_not_lt fun hl => ?_
  exact h.2 (by omega) (hb (m - 1) (by omega))
end Go.Proofs.YtnjbnamcedfjaaaGreat

/- Plain mathematics of words that are mended: one near message; what meets the equations; the error locator. No Go text here. -/
namespace Go.Proofs.YtnjbnamcedfjaaaGreat
open Go.RowKit Go.Sort

theorem ct_or (p q : Nat → Bool) : ∀ n, ct (fun i => p i || q i) n ≤ ct p n + ct q n
  | 0 => Nat.le_refl _
  | n + 1 => by
    have := ct_or p q n
    show ct (fun i => p i || q i) n + (if (p n || q n) = true then 1 else 0) ≤ ct p n + (if p n = true then 1 else 0) + (ct q n + if q n = true then 1 else 0)
    cases p n <;> cases q n <;> simp <;> omega
/-- At how many places a message's word differs. -/
def ofs (D : FD) (k n : Nat) (xs y a : Nat → Nat) : Nat := ct (fun i => !decide (D.ev a (xs i) k = y i)) n
/-- Two near messages are one. -/
theorem near_one {D : FD} (F : Fld D) {xs y a b : Nat → Nat} {n k : Nat} (hk : k ≤ n) (hx : ∀ i, i < n → xs i < D.q) (hne : ∀ i j, i < n → j < n → i ≠ j → xs i ≠ xs j) (ha : El D a) (hb : El D b) (hba : Bd k a) (hbb : Bd k b) (h1 : 2 * ofs D k n xs y a ≤ n - k) (h2 : 2 * ofs D k n xs y b ≤ n - k) : a = b := by
  refine Classical.byContradiction fun h => ?_
  have h3 := far_apart F hx hne ha hb hba hbb h
  have h4 : ct (fun i => !decide (D.ev a (xs i) k = D.ev b (xs i) k)) n ≤ ct (fun i => !decide (D.ev a (xs i) k = y i) || !decide (D.ev b (xs i) k = y i)) n := ct_mono n fun i _ he => by
    by_cases e1 : D.ev a (xs i) k = y i
    · by_cases e2 : D.ev b (xs i) k = y i
      · rw [e1, e2] at he
        simp at he
      · simp [e2]
    · simp [e1]
  have h5 := ct_or (fun i => !decide (D.ev a (xs i) k = y i)) (fun i => !decide (D.ev b (xs i) k = y i)) n
  unfold ofs at h1 h2
  omega
/-- Whatever meets the equations is the message times its second part. -/
theorem key_eq {D : FD} (F : Fld D) {xs y a N E : Nat → Nat} {n k wr M : Nat} (hM1 : k + wr ≤ M) (hM2 : M + wr ≤ n) (hx : ∀ i, i < n → xs i < D.q) (hne : ∀ i j, i < n → j < n → i ≠ j → xs i ≠ xs j) (hN : El D N) (hbN : Bd M N) (hE : El D E) (hbE : Bd (wr + 1) E) (ho : ofs D k n xs y a ≤ wr) (he : ∀ i, i < n → D.ev N (xs i) M = D.mul (y i) (D.ev E (xs i) (wr + 1))) : N = pmul D k a E := by
  have hd : El D (psub D N (pmul D k a E)) := el_sub F hN (el_mul F _ _ _)
  have hpb : Bd (k + wr) (pmul D k a E) := by
    have := pmul_bd F (a := a) hbE k
    rw [show k + (wr + 1) - 1 = k + wr by omega] at this
    exact this
  have hbd : Bd M (psub D N (pmul D k a E)) := fun j hj => by
    show D.sb (N j) (pmul D k a E j) = 0
    rw [hbN j hj, hpb j (by omega), sb_self F (zero_lt' F)]
  refine psub_eq_nil F hN (el_mul F _ _ _) (Classical.byContradiction fun h0 => ?_)
  have h1 := few_roots F hx hne M hd hbd h0
  have h2 : ct (fun i => decide (D.ev a (xs i) k = y i)) n ≤ ct (fun i => decide (D.ev (psub D N (pmul D k a E)) (xs i) M = 0)) n := ct_mono n fun i hi hc => by
    have hc : D.ev a (xs i) k = y i := of_decide_eq_true hc
    refine decide_eq_true ?_
    have e1 : D.ev (pmul D k a E) (xs i) M = D.mul (y i) (D.ev E (xs i) (wr + 1)) := by
      rw [ev_from F (xs i) hpb hM1, ← ev_from F (xs i) hpb (show k + wr ≤ k + (wr + 1) by omega), ev_mul F (xs i) hbE hE k (k + (wr + 1)) (Nat.le_refl _), hc]
    rw [ev_sub F (xs i) hN (el_mul F _ _ _), he i hi, e1, sb_self F (F.mul_lt _ _)]
  have h3 := ct_not (fun i => decide (D.ev a (xs i) k = y i)) n
  unfold ofs at ho
  omega

/-- The product of x less each place where something is wrong. -/
def elc (D : FD) (err : Nat → Bool) (xs : Nat → Nat) : Nat → Nat → Nat
  | 0 => pone
  | i + 1 => if err i = true then pmul D 2 (xmr D (xs i)) (elc D err xs i) else elc D err xs i
theorem elc_ok {D : FD} (F : Fld D) {err : Nat → Bool} {xs : Nat → Nat} {n : Nat} (hx : ∀ i, i < n → xs i < D.q) : ∀ i, i ≤ n → El D (elc D err xs i) ∧ Bd (ct err i + 1) (elc D err xs i) ∧ elc D err xs i (ct err i) = 1 ∧ ∀ j, j < i → err j = true → D.ev (elc D err xs i) (xs j) (ct err i + 1) = 0
  | 0, _ => ⟨el_one F, fun j hj => if_neg (by omega), rfl, fun j hj => absurd hj (by omega)⟩
  | i + 1, h => by
    obtain ⟨h1, h2, h3, h4⟩ := elc_ok F (err := err) hx i (by omega)
    have hxi := hx i (by omega)
    by_cases e : err i = true
    · have ec : ct err (i + 1) = ct err i + 1 := by
        show ct err i + (if err i = true then 1 else 0) = _
        rw [if_pos e]
      have ee : elc D err xs (i + 1) = pmul D 2 (xmr D (xs i)) (elc D err xs i) := by
        show (if err i = true then _ else _) = _
        rw [if_pos e]
      rw [ec, ee]
      refine ⟨el_mul F _ _ _, ?_, ?_, fun j hj hjj => ?_⟩
      · have := pmul_bd F (a := xmr D (xs i)) h2 2
        rw [show 2 + (ct err i + 1) - 1 = ct err i + 1 + 1 by omega] at this
        exact this
      · have := pmul_top F (a := xmr D (xs i)) (n := 1) h2
        rw [show 1 + ct err i = ct err i + 1 by omega, h3] at this
        rw [this]
        show D.mul (if 1 = 0 then _ else if 1 = 1 then 1 else 0) 1 = 1
        rw [if_neg (by omega), if_pos rfl, mul1 F (one_lt' F)]
      · rw [← ev_from F (xs j) (n := ct err i + 1 + 1) (N := 2 + (ct err i + 1)) (by
          have := pmul_bd F (a := xmr D (xs i)) h2 2
          rw [show 2 + (ct err i + 1) - 1 = ct err i + 1 + 1 by omega] at this
          exact this) (by omega), ev_mul F (xs j) h2 h1 2 _ (Nat.le_refl _)]
        by_cases ej : j = i
        · rw [ej, xmr_ev F hxi hxi, sb_self F hxi, zmul F]
        · rw [h4 j (by omega) hjj, mul0 F]
    · have ec : ct err (i + 1) = ct err i := by
        show ct err i + (if err i = true then 1 else 0) = _
        rw [if_neg e]; rfl
      have ee : elc D err xs (i + 1) = elc D err xs i := by
        show (if err i = true then _ else _) = _
        rw [if_neg e]
      rw [ec, ee]
      refine ⟨h1, h2, h3, fun j hj hjj => ?_⟩
      by_cases ej : j = i
      · rw [ej] at hjj; exact absurd hjj e
      · exact h4 j (by omega) hjj
/-- A polynomial of degree wr that is 0 where something is wrong. -/
theorem loc_ex {D : FD} (F : Fld D) {err : Nat → Bool} {xs : Nat → Nat} {n wr : Nat} (hx : ∀ i, i < n → xs i < D.q) (hw : ct err n ≤ wr) : ∃ E, El D E ∧ Bd (wr + 1) E ∧ E wr = 1 ∧ ∀ i, i < n → err i = true → D.ev E (xs i) (wr + 1) = 0 := by
  obtain ⟨h1, h2, h3, h4⟩ := elc_ok F (err := err) hx n (Nat.le_refl _)
  refine ⟨psh (wr - ct err n) (elc D err xs n), el_sh F _ h1, fun j hj => ?_, ?_, fun i hi he => ?_⟩
  · unfold psh
    rw [if_pos (by omega)]
    exact h2 _ (by omega)
  · unfold psh
    rw [if_pos (by omega), show wr - (wr - ct err n) = ct err n by omega]
    exact h3
  · have := ev_sh F (b := elc D err xs n) (xs i) (wr - ct err n) (ct err n + 1)
    rw [show wr - ct err n + (ct err n + 1) = wr + 1 by omega] at this
    rw [this, h4 i hi he, mul0 F]

/-- The row of one place. -/
def rwq (D : FD) (x y long wr : Nat) : Nat → Nat := fun c => if c < long then D.xp x c else if c < long + wr then D.ng (D.mul y (D.xp x (c - long))) else 0
theorem dot_first {D : FD} (F : Fld D) (x : Nat) {u v : Nat → Nat} : ∀ m, (∀ c, c < m → v c = D.xp x c) → dot D v u m = D.ev u x m
  | 0, _ => rfl
  | m + 1, h => by
    show D.ad (dot D v u m) (D.mul (v m) (u m)) = D.ad (D.ev u x m) (D.mul (u m) (D.xp x m))
    rw [dot_first F x m (fun c hc => h c (by omega)), h m (by omega), F.mul_comm]
theorem rwq_dot {D : FD} (F : Fld D) (x y long : Nat) {u : Nat → Nat} (hu : El D u) : ∀ wr, dot D (rwq D x y long wr) u (long + wr) = D.sb (D.ev u x long) (D.mul y (D.ev (fun c => u (long + c)) x wr))
  | 0 => by
    rw [Nat.add_zero, dot_first F x (v := rwq D x y long 0) long (fun c hc => if_pos hc)]
    show _ = D.sb (D.ev u x long) (D.mul y 0)
    rw [mul0 F, sb_zero F (ev_lt F _ _ _)]
  | wr + 1 => by
    have ih := rwq_dot F x y long hu wr
    show D.ad (dot D (rwq D x y long (wr + 1)) u (long + wr)) (D.mul (rwq D x y long (wr + 1) (long + wr)) (u (long + wr))) = _
    have e1 : dot D (rwq D x y long (wr + 1)) u (long + wr) = dot D (rwq D x y long wr) u (long + wr) := dot_congr _ fun j hj => ⟨by
      unfold rwq
      by_cases h : j < long
      · rw [if_pos h, if_pos h]
      · rw [if_neg h, if_neg h, if_pos (by omega), if_pos (by omega)], rfl⟩
    have e2 : rwq D x y long (wr + 1) (long + wr) = D.ng (D.mul y (D.xp x wr)) := by
      unfold rwq
      rw [if_neg (by omega), if_pos (by omega), Nat.add_sub_cancel_left]
    rw [e1, e2, ih]
    show _ = D.sb (D.ev u x long) (D.mul y (D.ad (D.ev (fun c => u (long + c)) x wr) (D.mul (u (long + wr)) (D.xp x wr))))
    have hA := ev_lt F u x long
    have hB := ev_lt F (fun c => u (long + c)) x wr
    have hC := F.mul_lt (u (long + wr)) (D.xp x wr)
    rw [mul_ad F hB hC]
    have e3 : D.mul (D.ng (D.mul y (D.xp x wr))) (u (long + wr)) = D.ng (D.mul y (D.mul (u (long + wr)) (D.xp x wr))) := by
      rw [F.mul_comm (D.ng _), mul_ng F (F.mul_lt _ _), F.mul_comm (u (long + wr)), F.mul_assoc, F.mul_comm (D.xp x wr)]
    rw [e3]
    have hP := F.mul_lt y (D.ev (fun c => u (long + c)) x wr)
    have hR := F.mul_lt y (D.mul (u (long + wr)) (D.xp x wr))
    show D.ad (D.ad (D.ev u x long) (D.ng (D.mul y (D.ev (fun c => u (long + c)) x wr)))) (D.ng (D.mul y (D.mul (u (long + wr)) (D.xp x wr)))) = D.ad (D.ev u x long) (D.ng (D.ad (D.mul y (D.ev (fun c => u (long + c)) x wr)) (D.mul y (D.mul (u (long + wr)) (D.xp x wr)))))
    rw [ad_assoc F hA (ng_lt F hP) (ng_lt F hR)]
    congr 1
    refine ad_cancel F (a := D.ad (D.mul y (D.ev (fun c => u (long + c)) x wr)) (D.mul y (D.mul (u (long + wr)) (D.xp x wr)))) (ad_lt F hP hR) (ad_lt F (ng_lt F hP) (ng_lt F hR)) (ng_lt F (ad_lt F hP hR)) ?_
    rw [ad_ng F (ad_lt F hP hR), ad4 F hP hR (ng_lt F hP) (ng_lt F hR), ad_ng F hP, ad_ng F hR, ad_zero F (zero_lt' F)]
end Go.Proofs.YtnjbnamcedfjaaaGreat

/- Plain mathematics of Euclid's way to mend a word: what stays as it goes on; what stands at its end. No Go text here. -/
namespace Go.Proofs.YtnjbnamcedfjaaaGreat
open Go.RowKit Go.Sort

/-- What stays: A, B the last two remainders; S, T what the second polynomial is multiplied by. -/
structure Euc (D : FD) (n : Nat) (xs y : Nat → Nat) (A B S T : Nat → Nat) (lA lB lS lT : Nat) : Prop where
  eA : El D A
  eB : El D B
  eS : El D S
  eT : El D T
  tA : Trd lA A
  tB : Trd lB B
  bS : Bd lS S
  tT : Trd lT T
  lt : lB < lA
  ls : lS < lT
  sum : lT + lA = n + 2
  atA : ∀ i, i < n → ∀ N, lA ≤ N → ∀ M, lS ≤ M → D.ev A (xs i) N = D.mul (y i) (D.ev S (xs i) M)
  atB : ∀ i, i < n → ∀ N, lB ≤ N → ∀ M, lT ≤ M → D.ev B (xs i) N = D.mul (y i) (D.ev T (xs i) M)
/-- One step further: A = Q B + C. -/
theorem Euc.step {D : FD} (F : Fld D) {n : Nat} {xs y A B S T Q C : Nat → Nat} {lA lB lS lT lQ lC : Nat} (h : Euc D n xs y A B S T lA lB lS lT) (tQ : Trd lQ Q) (eC : El D C) (tC : Trd lC C) (hC : lC < lB) (hA : A = padd D (pmul D lQ Q B) C) (hl : lQ + lB = lA + 1) :
    Euc D n xs y B C T (psub D S (pmul D lQ Q T)) lB lC lT (lQ + lT - 1) := by
  have hq2 : 2 ≤ lQ := by have := h.lt; omega
  have hT1 : 1 ≤ lT := by have := h.ls; omega
  have hbQT : Bd (lQ + lT - 1) (pmul D lQ Q T) := pmul_bd F h.tT.1 lQ
  have htop : pmul D lQ Q T (lQ + lT - 2) ≠ 0 := by
    obtain ⟨q1, rfl⟩ : ∃ q1, lQ = q1 + 1 := ⟨lQ - 1, by omega⟩
    obtain ⟨t1, rfl⟩ : ∃ t1, lT = t1 + 1 := ⟨lT - 1, by omega⟩
    have e := pmul_top F (a := Q) (n := q1) h.tT.1
    rw [show q1 + 1 + (t1 + 1) - 2 = q1 + t1 by omega, e]
    intro hz
    have hQ1 : Q q1 ≠ 0 := by have := tQ.2 (by omega); rwa [Nat.add_sub_cancel] at this
    have hT2 : T t1 ≠ 0 := by have := h.tT.2 (by omega); rwa [Nat.add_sub_cancel] at this
    exact hT2 (mul_cancel F hQ1 (h.eT _) (zero_lt' F) (by rw [hz, mul0 F]))
  have hS0 : ∀ j, lT ≤ j → S j = 0 := fun j hj => h.bS j (by have := h.ls; omega)
  refine ⟨h.eB, eC, h.eT, el_sub F h.eS (el_mul F _ _ _), h.tB, tC, h.tT.1, ⟨fun j hj => ?_, fun _ => ?_⟩, hC, by omega, by have := h.sum; omega, h.atB, fun i hi N hN M hM => ?_⟩
  · show D.sb (S j) (pmul D lQ Q T j) = 0
    rw [hS0 j (by omega), hbQT j hj, sb_self F (zero_lt' F)]
  · show D.sb (S (lQ + lT - 1 - 1)) (pmul D lQ Q T (lQ + lT - 1 - 1)) ≠ 0
    rw [hS0 _ (by omega), show lQ + lT - 1 - 1 = lQ + lT - 2 by omega]
    intro hz
    exact htop (sb_eq_zero F (zero_lt' F) (el_mul F _ _ _ _) hz).symm
  · -- at a place
    have hbB : Bd (lQ + lB - 1) (pmul D lQ Q B) := pmul_bd F h.tB.1 lQ
    have e1 : D.ev A (xs i) (lQ + lB) = D.ad (D.mul (D.ev Q (xs i) lQ) (D.ev B (xs i) lB)) (D.ev C (xs i) (lQ + lB)) := by
      rw [hA, ev_add F (xs i) (el_mul F _ _ _) eC, ev_mul F (xs i) h.tB.1 h.eB lQ (lQ + lB) (Nat.le_refl _)]
    have e2 := h.atA i hi (lQ + lB) (by omega) lT (by have := h.ls; omega)
    have e3 := h.atB i hi lB (Nat.le_refl _) lT (Nat.le_refl _)
    have e4 : D.ev C (xs i) N = D.ev C (xs i) (lQ + lB) := by
      rw [ev_from F (xs i) tC.1 hN, ev_from F (xs i) tC.1 (show lC ≤ lQ + lB by omega)]
    have hbT' : Bd (lQ + lT - 1) (psub D S (pmul D lQ Q T)) := fun j hj => by
      show D.sb (S j) (pmul D lQ Q T j) = 0
      rw [hS0 j (by omega), hbQT j hj, sb_self F (zero_lt' F)]
    have e5 : D.ev (psub D S (pmul D lQ Q T)) (xs i) M = D.sb (D.ev S (xs i) lT) (D.mul (D.ev Q (xs i) lQ) (D.ev T (xs i) lT)) := by
      rw [ev_from F (xs i) hbT' hM, ← ev_from F (xs i) hbT' (show lQ + lT - 1 ≤ lQ + lT by omega), ev_sub F (xs i) h.eS (el_mul F _ _ _), ev_mul F (xs i) h.tT.1 h.eT lQ (lQ + lT) (Nat.le_refl _), ev_from F (xs i) h.bS (show lS ≤ lQ + lT by have := h.ls; omega), ev_from F (xs i) h.bS (show lS ≤ lT by have := h.ls; omega)]
    have hS := ev_lt F S (xs i) lT
    have hQT := F.mul_lt (D.ev Q (xs i) lQ) (D.ev T (xs i) lT)
    have hCv := ev_lt F C (xs i) (lQ + lB)
    rw [e4, e5, mul_sb F hS hQT]
    -- C = A - Q B
    have e6 : D.ad (D.mul (D.ev Q (xs i) lQ) (D.mul (y i) (D.ev T (xs i) lT))) (D.ev C (xs i) (lQ + lB)) = D.mul (y i) (D.ev S (xs i) lT) := by
      rw [← e3, ← e1, e2]
    have e7 : D.mul (y i) (D.mul (D.ev Q (xs i) lQ) (D.ev T (xs i) lT)) = D.mul (D.ev Q (xs i) lQ) (D.mul (y i) (D.ev T (xs i) lT)) := by
      rw [← F.mul_assoc, F.mul_comm (y i), F.mul_assoc]
    rw [e7, ← e6, ad_comm F, sb_ad F hCv (F.mul_lt _ _)]
/-- Where it ends, the last remainder is the message times what stands beside it. -/
theorem Euc.last {D : FD} (F : Fld D) {n k : Nat} {xs y A B S T a : Nat → Nat} {lA lB lS lT : Nat} (h : Euc D n xs y A B S T lA lB lS lT) (hk : k ≤ n) (hA : n + k + 2 ≤ 2 * lA) (hB : 2 * lB < n + k + 2) (hx : ∀ i, i < n → xs i < D.q) (hne : ∀ i j, i < n → j < n → i ≠ j → xs i ≠ xs j) (ho : 2 * ofs D k n xs y a ≤ n - k) : B = pmul D k a T := by
  obtain ⟨wr, hwr⟩ : ∃ wr, wr = (n - k) / 2 := ⟨_, rfl⟩
  have h1 : lT ≤ wr + 1 := by have := h.sum; omega
  refine key_eq F (a := a) (y := y) (M := n - wr) (wr := wr) (by omega) (by omega) hx hne h.eB (fun j hj => h.tB.1 j (by omega)) h.eT (fun j hj => h.tT.1 j (by omega)) (by omega) (fun i hi => ?_)
  exact h.atB i hi (n - wr) (by omega) (wr + 1) h1
end Go.Proofs.YtnjbnamcedfjaaaGreat
