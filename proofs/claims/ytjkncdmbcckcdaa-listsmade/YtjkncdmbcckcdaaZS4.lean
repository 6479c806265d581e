/- Texts of ours, one behind the other: S4 T9. -/
import Derived.Test.YtjkncdmbcckcdaaZS1
import Derived.Test.YtjkncdmbcckcdaaZL1
import Derived.Test.YtjkncdmbcckcdaaZT3
import Derived.Test.YtjkncdmbcckcdaaZR10
import Derived.Test.YtjkncdmbcckcdaaZL10
/- Plain mathematics: one row for each column in which no row of a reduced form begins (Null). -/
namespace Go.Proofs.Ytjkncdmbcckcdaa

/-- Of the first c columns, in how many none of the k rows begins. -/
def nct (k : Nat) (p : Nat → Nat) : Nat → Nat
  | 0 => 0
  | c + 1 => if ∀ i, i < k → p i ≠ c then nct k p c + 1 else nct k p c
/-- The i-th of these columns. -/
def fcs (k : Nat) (p : Nat → Nat) : Nat → Nat → Nat
  | 0, _ => 0
  | c + 1, i => if i = nct k p c then c else fcs k p c i
theorem nct_yes {k : Nat} {p : Nat → Nat} {c : Nat} (h : ∀ i, i < k → p i ≠ c) : nct k p (c + 1) = nct k p c + 1 := if_pos h
theorem nct_no {k : Nat} {p : Nat → Nat} {c : Nat} (h : ¬ ∀ i, i < k → p i ≠ c) : nct k p (c + 1) = nct k p c := if_neg h
theorem nct_le (k : Nat) (p : Nat → Nat) : ∀ c, nct k p c ≤ c
  | 0 => Nat.le_refl _
  | c + 1 => by
    have := nct_le k p c
    by_cases h : ∀ i, i < k → p i ≠ c
    · rw [nct_yes h]; omega
    · rw [nct_no h]; omega
theorem fcs_at (k : Nat) (p : Nat → Nat) (c : Nat) : fcs k p (c + 1) (nct k p c) = c := if_pos rfl
theorem fcs_lo {k : Nat} {p : Nat → Nat} {c i : Nat} (h : i < nct k p c) : fcs k p (c + 1) i = fcs k p c i := if_neg (by omega)
theorem fcs_ok {k : Nat} {p : Nat → Nat} : ∀ c i, i < nct k p c → fcs k p c i < c ∧ ∀ j, j < k → p j ≠ fcs k p c i
  | 0, i, hi => absurd hi (by simp [nct])
  | c + 1, i, hi => by
    by_cases h : ∀ i, i < k → p i ≠ c
    · rw [nct_yes h] at hi
      by_cases e : i = nct k p c
      · rw [e, fcs_at]; exact ⟨by omega, h⟩
      · rw [fcs_lo (by omega)]
        have := fcs_ok (k := k) (p := p) c i (by omega)
        exact ⟨Nat.lt_succ_of_lt this.1, this.2⟩
    · rw [nct_no h] at hi
      rw [fcs_lo hi]
      have := fcs_ok (k := k) (p := p) c i hi
      exact ⟨Nat.lt_succ_of_lt this.1, this.2⟩
theorem fcs_mono {k : Nat} {p : Nat → Nat} : ∀ c i j, i < j → j < nct k p c → fcs k p c i < fcs k p c j
  | 0, i, j, _, hj => absurd hj (by simp [nct])
  | c + 1, i, j, hij, hj => by
    by_cases h : ∀ i, i < k → p i ≠ c
    · rw [nct_yes h] at hj
      rw [fcs_lo (i := i) (by omega)]
      by_cases e : j = nct k p c
      · rw [e, fcs_at]; exact (fcs_ok c i (by omega)).1
      · rw [fcs_lo (by omega)]; exact fcs_mono c i j hij (by omega)
    · rw [nct_no h] at hj
      rw [fcs_lo hj, fcs_lo (i := i) (by omega)]; exact fcs_mono c i j hij hj
theorem fcs_inj {k : Nat} {p : Nat → Nat} {c i j : Nat} (hi : i < nct k p c) (hj : j < nct k p c) (h : fcs k p c i = fcs k p c j) : i = j := by
  rcases Nat.lt_trichotomy i j with e | e | e
  · have := fcs_mono c i j e hj; omega
  · exact e
  · have := fcs_mono c j i e hi; omega
/-- The row for column c, the first r of the beginnings filled in. -/
def nrv (D : FD) (R : Nat → Nat → Nat) (p : Nat → Nat) (c : Nat) : Nat → Nat → Nat
  | 0, j => if j = c then 1 else 0
  | r + 1, j => if j = p r then D.ng (R r c) else nrv D R p c r j
theorem nrv_el {D : FD} (F : Fld D) {R : Nat → Nat → Nat} {p : Nat → Nat} {c : Nat} : ∀ r, (∀ i, i < r → El D (R i)) → El D (nrv D R p c r)
  | 0, _ => fun j => by
    show (if j = c then 1 else 0) < D.q
    by_cases e : j = c
    · rw [if_pos e]; exact one_lt' F
    · rw [if_neg e]; exact zero_lt' F
  | r + 1, h => fun j => by
    show (if j = p r then D.ng (R r c) else nrv D R p c r j) < D.q
    by_cases e : j = p r
    · rw [if_pos e]; exact ng_lt F (h r (by omega) c)
    · rw [if_neg e]; exact nrv_el F r (fun i hi => h i (by omega)) j
theorem nrv_bd {D : FD} {R : Nat → Nat → Nat} {p : Nat → Nat} {c n : Nat} (hc : c < n) : ∀ r, (∀ i, i < r → p i < n) → Bd n (nrv D R p c r)
  | 0, _ => fun j hj => by
    show (if j = c then 1 else 0) = 0
    rw [if_neg (by omega)]
  | r + 1, h => fun j hj => by
    show (if j = p r then D.ng (R r c) else nrv D R p c r j) = 0
    rw [if_neg (by have := h r (by omega); omega)]
    exact nrv_bd hc r (fun i hi => h i (by omega)) j hj
theorem nrv_free {D : FD} {R : Nat → Nat → Nat} {p : Nat → Nat} {c j : Nat} : ∀ r, (∀ i, i < r → p i ≠ j) → nrv D R p c r j = if j = c then 1 else 0
  | 0, _ => rfl
  | r + 1, h => by
    show (if j = p r then D.ng (R r c) else nrv D R p c r j) = _
    rw [if_neg (fun e => h r (by omega) e.symm)]
    exact nrv_free r (fun i hi => h i (by omega))
/-- The rows for the first c columns. -/
def nul (D : FD) (R : Nat → Nat → Nat) (p : Nat → Nat) (k c : Nat) : Nat → Nat → Nat := fun i => nrv D R p (fcs k p c i) k
theorem nul_lo {D : FD} {R : Nat → Nat → Nat} {p : Nat → Nat} {k c i : Nat} (h : i < nct k p c) : nul D R p k (c + 1) i = nul D R p k c i := by
  unfold nul
  rw [fcs_lo h]
theorem nul_at (D : FD) (R : Nat → Nat → Nat) (p : Nat → Nat) (k c : Nat) : nul D R p k (c + 1) (nct k p c) = nrv D R p c k := by
  unfold nul
  rw [fcs_at]
theorem nul_el {D : FD} (F : Fld D) {k : Nat} {R : Nat → Nat → Nat} {p : Nat → Nat} (h : ∀ i, i < k → El D (R i)) (c i : Nat) : El D (nul D R p k c i) := nrv_el F k h
theorem nul_bd {D : FD} {n k : Nat} {R : Nat → Nat → Nat} {p : Nat → Nat} (h : ∀ i, i < k → p i < n) {i : Nat} (hi : i < nct k p n) : Bd n (nul D R p k n i) := nrv_bd (fcs_ok n i hi).1 k h
theorem nul_one {D : FD} {n k : Nat} {R : Nat → Nat → Nat} {p : Nat → Nat} {i j : Nat} (hi : i < nct k p n) (hj : j < nct k p n) : nul D R p k n i (fcs k p n j) = if i = j then 1 else 0 := by
  unfold nul
  rw [nrv_free k (fcs_ok n j hj).2]
  by_cases e : i = j
  · rw [if_pos e, e, if_pos rfl]
  · rw [if_neg e, if_neg (fun h => e (fcs_inj hi hj h.symm))]
/-- None of them is a sum of those ahead. -/
theorem nul_ind {D : FD} (F : Fld D) {n k : Nat} {R : Nat → Nat → Nat} {p : Nat → Nat} {j : Nat} (hj : j < nct k p n) : ¬ Spn D (RowsOf j (nul D R p k n)) (nul D R p k n j) := fun h => by
  have h1 : nul D R p k n j (fcs k p n j) = 0 := by
    refine spn_ind (Q := fun v => v (fcs k p n j) = 0) rfl (fun u v hu hv => ?_) (fun s v hv => ?_) (fun v hv => ?_) h
    · show D.ad (u _) (v _) = 0
      rw [hu, hv, ad_zero F (zero_lt' F)]
    · show D.mul s (v _) = 0
      rw [hv, mul0 F]
    · obtain ⟨i, hi, rfl⟩ := hv
      rw [nul_one (by omega) hj, if_neg (by omega)]
  rw [nul_one hj hj, if_pos rfl] at h1
  omega
theorem nct_congr {k : Nat} {p p' : Nat → Nat} (h : ∀ i, i < k → p i = p' i) : ∀ c, nct k p c = nct k p' c
  | 0 => rfl
  | c + 1 => by
    by_cases e : ∀ i, i < k → p i ≠ c
    · rw [nct_yes e, nct_yes (fun i hi => by rw [← h i hi]; exact e i hi), nct_congr h c]
    · rw [nct_no e, nct_no (fun e' => e (fun i hi => by rw [h i hi]; exact e' i hi)), nct_congr h c]
theorem fcs_congr {k : Nat} {p p' : Nat → Nat} (h : ∀ i, i < k → p i = p' i) : ∀ c i, fcs k p c i = fcs k p' c i
  | 0, _ => rfl
  | c + 1, i => by
    show (if i = nct k p c then c else fcs k p c i) = if i = nct k p' c then c else fcs k p' c i
    rw [nct_congr h c, fcs_congr h c i]
theorem nrv_congr {D : FD} {R R' : Nat → Nat → Nat} {p p' : Nat → Nat} (c : Nat) : ∀ r, (∀ i, i < r → p i = p' i ∧ R i = R' i) → nrv D R p c r = nrv D R' p' c r
  | 0, _ => rfl
  | r + 1, h => by
    funext j
    show (if j = p r then D.ng (R r c) else nrv D R p c r j) = if j = p' r then D.ng (R' r c) else nrv D R' p' c r j
    rw [(h r (by omega)).1, (h r (by omega)).2, nrv_congr c r (fun i hi => h i (by omega))]
theorem nul_congr {D : FD} {k : Nat} {R R' : Nat → Nat → Nat} {p p' : Nat → Nat} (h : ∀ i, i < k → p i = p' i ∧ R i = R' i) (c : Nat) : nul D R p k c = nul D R' p' k c := by
  funext i
  unfold nul
  rw [fcs_congr (fun i hi => (h i hi).1) c i, nrv_congr _ k h]
theorem free_zl {k c : Nat} {p : Nat → Nat} : (c : Int) ∈ zl k (fun j => ((p j : Nat) : Int)) ↔ ¬ ∀ i, i < k → p i ≠ c := by
  rw [zl_mem]
  constructor
  · rintro ⟨j, hj, e⟩ h
    exact h j hj (by omega)
  · intro h
    refine Classical.byContradiction fun hn => h fun i hi e => hn ⟨i, hi, by rw [e]⟩
end Go.Proofs.Ytjkncdmbcckcdaa

/- The reference's matrices: the rows that make all rows 0 (Null). -/
namespace Go.Proofs.Ytjkncdmbcckcdaa
open Go.RowKit Go.Sort

theorem rneg_nat {D : FD} (hD : D ∈ fieldsL) (gen : Nat) (v : Value) (a : Nat) (ha : a < D.q) (wr : World) :
    Calls Try.prog 93 #[.agg #[.int .i64 D.q, .int .i64 D.p, .int .i64 D.m, .int .i64 gen, v], .int .i64 a] wr fun e w' => e = .returned (.int .i64 (D.ng a : Nat)) ∧ Below wr.heap.size wr w' := by
  have h := rneg_any hD gen v a wr
  rw [negZ_nat (fld hD) ha] at h
  exact h
theorem RwsO.matR {base : Nat} {ro : Option Addr} {k rc n : Nat} {R : Nat → Nat → Nat} {vs : Nat → Value} {w : World} (h : RwsO base ro k rc n R vs w) : MatR ro k n R w := fun i hi => by
  obtain ⟨g, e, hc, _⟩ := h.cell i hi
  exact ⟨g, 0, _, e, by rw [Nat.zero_add]; exact hc, (h.row i hi).rwv⟩

set_option maxHeartbeats 8000000 in
set_option maxRecDepth 100000 in
theorem rnull_any {D : FD} (hD : D ∈ fieldsL) (gen gm cm : Nat) {ao : Option Addr} {m n N ca : Nat} {M : Nat → Nat → Nat} {w : World} (hN : N = n + 1) (hm : m ≤ 1000) (hn : n ≤ 900) (hel : ∀ i, i < m → El D (M i) ∧ Bd (n + 1) (M i)) (hA : MatR ao m n M w) (hM : ModAt D (.slice (some ⟨gm, 0, none⟩) (D.m + 1) cm) D.md w) :
    Calls Try.prog 56 #[.agg #[.int .i64 D.q, .int .i64 D.p, .int .i64 D.m, .int .i64 gen, .slice (some ⟨gm, 0, none⟩) (D.m + 1) cm], .slice ao m ca, .int .i64 (N : Nat)] w fun e w' => ∃ v k R p R2 p2, e = .returned v ∧ k ≤ m ∧ RRE D N k R p ∧ (∀ v, Spn D (RowsOf k R) v ↔ Spn D (RowsOf m M) v) ∧
      LLs w.heap.size v (rl (nct k p N) n R2) w' ∧ RRE D N (nct k p N) R2 p2 ∧ (∀ v, Spn D (RowsOf (nct k p N) R2) v ↔ Spn D (RowsOf (nct k p N) (nul D R p k N)) v) ∧ Below w.heap.size w w' := by
  have hbl : Below w.heap.size w (w.alloc (.cells #[.int .i64 D.q, .int .i64 D.p, .int .i64 D.m, .int .i64 gen, .slice (some ⟨gm, 0, none⟩) (D.m + 1) cm] 27)) := (Below.refl _ _).alloc (Nat.le_refl _) _
  have HF : Hid (D ∈ fieldsL ∧ (∀ i, i < m → El D (M i) ∧ Bd (n + 1) (M i)) ∧ MatR ao m n M w ∧ ModAt D (.slice (some ⟨gm, 0, none⟩) (D.m + 1) cm) D.md w) := ⟨hD, hel, hA, hM⟩
  have HB0 : Hid (Box w.heap.size D gen (.slice (some ⟨gm, 0, none⟩) (D.m + 1) cm) (w.alloc (.cells #[.int .i64 D.q, .int .i64 D.p, .int .i64 D.m, .int .i64 gen, .slice (some ⟨gm, 0, none⟩) (D.m + 1) cm] 27)) ∧ Below w.heap.size w (w.alloc (.cells #[.int .i64 D.q, .int .i64 D.p, .int .i64 D.m, .int .i64 gen, .slice (some ⟨gm, 0, none⟩) (D.m + 1) cm] 27))) := ⟨box_new D gen _ w, hbl⟩
  have HN : Hid (N = n + 1) := hN
  have hN9 : N ≤ 901 := by omega
  clear hD hel hA hM hbl hN
  go_enter Try.func56, Try.ntmps56
  go_wp2_with fail
  refine (rreduce_any HF.out.1 gen gm cm hm (by omega) HF.out.2.1 (HF.out.2.2.1.below HB0.out.2) (HF.out.2.2.2.below HB0.out.2)).mono ?_
  rintro e w1 ⟨vr, vp, k, R, p, rfl, hk, hvr, hvp, hR, hS, _, hb1⟩
  obtain ⟨ro, rc, vs, rfl, hrw⟩ := hvr.rws
  obtain ⟨po, pc, rfl, hpl⟩ := hvp.argL
  have hsa : (w.alloc (.cells #[.int .i64 D.q, .int .i64 D.p, .int .i64 D.m, .int .i64 gen, .slice (some ⟨gm, 0, none⟩) (D.m + 1) cm] 27)).heap.size = w.heap.size + 1 := by simp
  have hsz1 : w.heap.size < w1.heap.size := by have := hb1.size; omega
  rw [← HN.out] at hR
  have H1 : Hid (MatR ro k n R w1 ∧ SliceI (.slice po k pc) (zl k fun j => ((p j : Nat) : Int)) w1 ∧ ArgL po k pc (fun j => ((p j : Nat) : Int)) w1 ∧ RRE D N k R p ∧ (∀ v, Spn D (RowsOf k R) v ↔ Spn D (RowsOf m M) v) ∧ Below w.heap.size w w1 ∧ Box w.heap.size D gen (.slice (some ⟨gm, 0, none⟩) (D.m + 1) cm) w1) :=
    ⟨hrw.matR, hvp.slice (by rw [zl_len]; omega), hpl, hR, hS, bel_up' HB0.out.2 hb1, HB0.out.1.below hb1 (by omega)⟩
  have hvlt := fun q => (hvp.lt q)
  have HO : Hid (OwnI (w.heap.size + 1) (.slice po k pc) (zl k fun j => ((p j : Nat) : Int)) w1) := by rw [hsa] at hvp; exact hvp
  clear hvr hvp hR hS hb1 hrw hpl hvlt HB0 hsa
  go_wp2_with fail
  go_loopw [9, 10] (fun vl vc wr => ∃ c : Nat, c ≤ N ∧ vc = .int .i64 c ∧ Hid (LLs w1.heap.size vl (rl (nct k p c) n (nul D R p k c)) wr ∧ Below w1.heap.size w1 wr)) (fun _ vc _ => N - (intOf vc).toNat)
  case atStart => exact ⟨0, by omega, rfl, ⟨LLs.nil _ _, Below.refl _ _⟩⟩
  case round =>
    obtain ⟨c, hc, rfl, HG⟩ := hrel
    rename World => wA
    by_cases hlt : c < N
    · have hcb : (c : Int) < (N : Int) := by omega
      have HI : Hid (Calls Try.prog 41 #[.int .i64 (c : Nat), .slice po k pc] wA fun e w' => e = .returned (.bool (decide ((c : Int) ∈ zl k fun j => ((p j : Nat) : Int)))) ∧ ∃ d, w' = wA.drewN d) :=
        in_any (c : Int) ((HO.out.below HG.out.2 (fun q hq => (HO.out.lt q hq).2)).slice (by rw [zl_len]; omega))
      by_cases hfr : ∀ i, i < k → p i ≠ c
      · rw [decide_eq_false (fun h => free_zl.1 h hfr)] at HI
        have HFr : Hid (∀ i, i < k → p i ≠ c) := hfr
        clear hfr
        go_wp2_with fail
        refine HI.out.mono ?_
        rintro e wD ⟨rfl, d, hwD⟩
        have HD : Hid (LLs w1.heap.size u9 (rl (nct k p c) n (nul D R p k c)) wD ∧ Below w1.heap.size w1 wD) := by
          rw [hwD]
          have hbd : Below wA.heap.size wA (wA.drewN d) := ⟨rfl, rfl, rfl, Nat.le_refl _, fun _ _ => rfl⟩
          exact ⟨HG.out.1.below hbd (Nat.le_refl _), bel_up' HG.out.2 hbd⟩
        clear HI HG hwD wA
        go_wp2_with (at_make; refine make_int rfl _ _ rfl _ N rfl rfl rfl (by omega) ?_; intro w2 hown2 hgrow2; have hu0 := (row_zeros hown2).cell c hlt; have hf0 := (row_zeros hown2).free c)
        have HI2 : Hid (Row wD.heap.size N pnil w2 ∧ Below wD.heap.size wD w2) := ⟨row_zeros hown2, below_grown hgrow2 (Nat.le_refl _) (fun k hk => by simp at hk)⟩
        clear hown2 hgrow2 hu0 hf0
        obtain ⟨g, hg⟩ : ∃ g, g = wD.heap.size := ⟨_, rfl⟩
        have HI3 : Hid (Row g N pnil w2 ∧ Below wD.heap.size wD w2) := by rw [hg]; exact HI2.out
        rw [← hg]
        have hgD : wD.heap.size ≤ g := by omega
        clear HI2 hg
        go_loopw [12] (fun vi wi => ∃ i : Nat, i ≤ k ∧ vi = .int .i64 i ∧ Hid (Row g N (nrv D R p c i) wi ∧ Below wD.heap.size wD wi)) (fun vi _ => k - (intOf vi).toNat)
        case atStart => exact ⟨0, by omega, rfl, HI3.out.1.store c 1 (fun j _ => by show (if j = c then 1 else 0) = if j = c then 1 else pnil j; rfl), HI3.out.2.setCell hgD _⟩
        case round =>
          clear HI3
          obtain ⟨i, hi, rfl, HK⟩ := hrel
          rename World => wB
          by_cases hik : i < k
          · have hib : (i : Int) < (k : Int) := by omega
            have hib0 : (0 : Int) ≤ (i : Int) := by omega
            have hb1B := bel_up' HD.out.2 HK.out.2
            obtain ⟨bA, oA, uA, rfl, hcA, hrA⟩ := (H1.out.1.below hb1B) i hik
            obtain ⟨xA, cxA, rfl, hsA, hlA, _⟩ := hrA
            obtain ⟨bx, ox, rfl, hcx⟩ := hsA c (by have := HN.out; omega)
            have hplB := H1.out.2.2.1.sl.below hb1B H1.out.2.2.1.lt
            obtain ⟨bp, op, rfl, hcp⟩ := hplB i hik
            obtain ⟨x, hx⟩ : ∃ x, x = R i c := ⟨_, rfl⟩
            obtain ⟨y, hy⟩ : ∃ y, y = p i := ⟨_, rfl⟩
            obtain ⟨u, hu⟩ : ∃ u, u = D.ng x := ⟨_, rfl⟩
            rw [← hx] at hcx
            replace hcp : wB.cell? ⟨bp, op + i, none⟩ = some (.int .i64 ((p i : Nat) : Int)) := hcp
            rw [← hy] at hcp
            have hyN : y < N := by rw [hy]; exact H1.out.2.2.2.1.lt i hik
            have hyb : (y : Int) < (N : Int) := by omega
            have hnb : (c : Int) < (n : Int) + 1 := by have := HN.out; omega
            have hxq : x < D.q := by rw [hx]; exact H1.out.2.2.2.1.el i hik c
            have hbx := H1.out.2.2.2.2.2.2.below hb1B hsz1
            have k0 := cell_regrown hbx.c0
            have k1 := cell_regrown hbx.c1
            have k2 := cell_regrown hbx.c2
            have k3 := cell_regrown hbx.c3
            have k4 := cell_regrown hbx.c4
            have k5 := cell_regrown (HK.out.1.cell y hyN)
            have k6 := cell_regrown hcA
            have k7 := cell_regrown hcx
            have k8 := cell_regrown hcp
            have k10 := free_regrown HK.out.1.lt (HK.out.1.free y)
            have HC1 : Hid (∀ d os, Calls Try.prog 93 #[.agg #[.int .i64 D.q, .int .i64 D.p, .int .i64 D.m, .int .i64 gen, .slice (some ⟨gm, 0, none⟩) (D.m + 1) cm], .int .i64 (x : Nat)] (grow (redrawn wB d) os) fun e w'' => e = .returned (.int .i64 (u : Nat)) ∧ ∃ p : Regrown, w'' = grow (redrawn wB p.d) p.os) := fun d os => by
              rw [hu]
              exact Calls.regrown_of (rneg_nat HF.out.1 gen _ x hxq _)
            have HV : Hid (∀ j, j < N → nrv D R p c (i + 1) j = if j = y then u else nrv D R p c i j) := fun j _ => by
              rw [hu, hx, hy]; rfl
            clear hx hy hu hcx hcp hcA hbx hb1B hsA hlA hplB
            go_wp2
            refine below_tail 15 (by kernel_rfl) (by kernel_rfl) ?_
            simp only [List.take_succ_cons, List.take_zero, List.drop_succ_cons, List.drop_zero]
            repeat (go_big_quiet_step (first | (go_at_call 93; exact HC1.out _ _) | fail))
            refine wpQuiet_nil ?_
            intro _ hw'
            obtain ⟨⟨ds, oss⟩, hw''⟩ := hw'
            subst hw''
            have hb7 := below_regrown wB ds oss
            have H7 : Hid (Row g N (nrv D R p c i) (grow (redrawn wB ds) oss) ∧ Below wD.heap.size wD (grow (redrawn wB ds) oss)) := ⟨HK.out.1.below hb7 HK.out.1.lt, bel_up' HK.out.2 hb7⟩
            clear hb7
            go_wp2
            go_roundw
            case rel => exact ⟨i + 1, by omega, by go_num, H7.out.1.store y u HV.out, H7.out.2.setCell hgD _⟩
            case measure => simp [intOf]; omega
          · have hib : ¬ (i : Int) < (k : Int) := by omega
            have hie : i = k := by omega
            subst hie
            obtain ⟨lst, hov, hels⟩ := HD.out.1
            have hll : lst.length ≤ 1000000 := by rw [hels.1, rl_len]; have := nct_le i p c; omega
            have HV : Hid (OwnV w1.heap.size u9 lst wB ∧ Elms lst (rl (nct i p c) n (nul D R p i c)) wB ∧ Elm (.slice (some ⟨g, 0, none⟩) N N) (n, nrv D R p c i) wB) := by
              refine ⟨hov.below HK.out.2 (Nat.le_refl _), hels.below HK.out.2 (Nat.le_refl _), ⟨g, N, by rw [HN.out], by rw [HN.out]; exact Nat.le_refl _, by omega, ?_⟩⟩
              show Row g (n + 1) _ wB
              rw [← HN.out]; exact HK.out.1
            have hsB := HK.out.2.size
            have hsD := HD.out.2.size
            clear hov hels
            go_wp2_with (at_builtin; refine append_sl rfl _ _ rfl w1.heap.size u9 lst rfl (HV.out.1.below ((Below.refl _ _).alloc (Nat.le_refl _) _) (Nat.le_refl _)) ⟨wB.heap.size, 0, none⟩ 1 (.slice (some ⟨g, 0, none⟩) N N) rfl rfl (by rw [cell_of_row _ _ _ _ _ (0, 0) (two_new _)]; rfl) hll (by simp; omega) ?_; intro v' w6 hown6 hg6)
            have hal : Below wB.heap.size wB (wB.alloc (.cells #[.slice (some ⟨g, 0, none⟩) N N] 22)) := (Below.refl _ _).alloc (Nat.le_refl _) _
            have ho := HV.out.1.below hal (Nat.le_refl _)
            have hbw := bel_up' HD.out.2 (bel_up' HK.out.2 hal)
            have HR : Hid (LLs w1.heap.size v' (rl (nct i p (c + 1)) n (nul D R p i (c + 1))) w6 ∧ Below w1.heap.size w1 w6) := by
              refine ⟨⟨_, hown6, ?_⟩, hbw.grown hg6 (by simp; omega) (fun q hq => ho.open_ge q hq)⟩
              have h := ((HV.out.2.1.below hal (Nat.le_refl _)).snoc (HV.out.2.2.below hal (Nat.le_refl _))).grown ho hg6
              rw [nct_yes HFr.out, rl_succ, nul_at, rl_congr (R' := nul D R p i c) (fun j hj => nul_lo hj)]
              exact h
            clear hown6 hg6 ho hbw hal
            go_roundw
            case rel => exact ⟨c + 1, by omega, by go_num, HR.out⟩
            case measure => simp [intOf]; omega
      · rw [decide_eq_true (free_zl.2 hfr)] at HI
        have HD : Hid (∀ d, LLs w1.heap.size u9 (rl (nct k p (c + 1)) n (nul D R p k (c + 1))) (wA.drewN d) ∧ Below w1.heap.size w1 (wA.drewN d)) := fun d => by
          have hbd : Below wA.heap.size wA (wA.drewN d) := ⟨rfl, rfl, rfl, Nat.le_refl _, fun _ _ => rfl⟩
          rw [nct_no hfr, rl_congr (R' := nul D R p k c) (fun j hj => nul_lo hj)]
          exact ⟨HG.out.1.below hbd (Nat.le_refl _), bel_up' HG.out.2 hbd⟩
        clear hfr
        go_wp2_with fail
        refine HI.out.mono ?_
        rintro e wD ⟨rfl, d, rfl⟩
        go_wp2
        go_roundw
        case rel => exact ⟨c + 1, by omega, by go_num, HD.out d⟩
        case measure => simp [intOf]; omega
    · have hcb : ¬ (c : Int) < (N : Int) := by omega
      have hce : c = N := by omega
      subst hce
      obtain ⟨lo, lc, ls, rfl, hlw⟩ := HG.out.1.rws
      have HL : Hid (MatR lo (nct k p c) n (nul D R p k c) wA) := hlw.matR
      clear hlw
      have hbx := H1.out.2.2.2.2.2.2.below HG.out.2 hsz1
      have k0 := hbx.c0
      have k1 := hbx.c1
      have k2 := hbx.c2
      have k3 := hbx.c3
      have k4 := hbx.c4
      clear hbx
      go_wp2_with fail
      have hle := nct_le k p c
      refine (rreduce_any HF.out.1 gen gm cm (by omega) (by omega) (fun i hi => ⟨nul_el (fld HF.out.1) H1.out.2.2.2.1.el _ _, by rw [← HN.out]; exact nul_bd H1.out.2.2.2.1.lt hi⟩) HL.out (HF.out.2.2.2.below (bel_up' H1.out.2.2.2.2.2.1 (HG.out.2.mono (by exact Nat.le_refl _))))).mono ?_
      rintro e w7 ⟨vr, vp, k2', R2, p2, rfl, hk2, hvr, hvp, hR2, hS2, hmany, hb2⟩
      rw [← HN.out] at hR2
      have hke : k2' = nct k p c := by
        rcases hmany with h | ⟨j, hj, h⟩
        · exact h
        · exact absurd h (nul_ind (fld HF.out.1) hj)
      subst hke
      have HE : Hid (LLs wA.heap.size vr (rl (nct k p c) n R2) w7 ∧ RRE D c (nct k p c) R2 p2 ∧ (∀ v, Spn D (RowsOf (nct k p c) R2) v ↔ Spn D (RowsOf (nct k p c) (nul D R p k c)) v) ∧ Below wA.heap.size wA w7) := ⟨hvr, hR2, hS2, hb2⟩
      clear hvr hvp hR2 hS2 hmany hb2
      go_wp2
      go_ret
      have hs1 := H1.out.2.2.2.2.2.1.size
      have hs2 := HG.out.2.size
      refine ⟨_, k, R, p, R2, p2, rfl, hk, H1.out.2.2.2.1, H1.out.2.2.2.2.1, HE.out.1.mono (by omega), HE.out.2.1, HE.out.2.2.1, (bel_up' H1.out.2.2.2.2.2.1 (bel_up' HG.out.2 HE.out.2.2.2))⟩
end Go.Proofs.Ytjkncdmbcckcdaa
