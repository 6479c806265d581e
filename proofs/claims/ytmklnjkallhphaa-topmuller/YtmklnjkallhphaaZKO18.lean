/- Texts of ours, one behind the other: KO18 KO19 KO20. -/
import Derived.Test.YtmklnjkallhphaaZKO17
import Derived.Test.YtmklnjkallhphaaZKO11
import Derived.Test.YtmklnjkallhphaaZKE3
import Derived.Test.YtmklnjkallhphaaZI28
import Derived.Test.YtmklnjkallhphaaZKL8
/- MullerMends: its walk. -/
namespace Go.Proofs.Ytmklnjkallhphaa
open Go.RowKit Go.Sort

/-- Where two words differ. -/
def dff (a b : Nat → Nat) : Nat → Nat := fun x => if a x = b x then 0 else 1
theorem ct_dff {a b : Nat → Nat} : ∀ n, ct (fun x => !decide (((a x : Nat) : Int) = ((b x : Nat) : Int))) n = wgt (dff a b) n
  | 0 => rfl
  | n + 1 => by
    show ct (fun x => !decide (((a x : Nat) : Int) = ((b x : Nat) : Int))) n + (if (!decide (((a n : Nat) : Int) = ((b n : Nat) : Int))) = true then 1 else 0) = wgt (dff a b) n + if dff a b n = 1 then 1 else 0
    rw [ct_dff n]
    unfold dff
    by_cases e : a n = b n
    · rw [if_pos e, decide_eq_true (by omega)]; rfl
    · rw [if_neg e, decide_eq_false (by omega)]; rfl
end Go.Proofs.Ytmklnjkallhphaa

/- MullerMade: its walk. -/
namespace Go.Proofs.Ytmklnjkallhphaa
open Go.RowKit Go.Sort

/-- One more place turned: one more difference at most. -/
theorem dff_turn {a b b' : Nat → Nat} {k : Nat} (h : ∀ x, x ≠ k → b' x = b x) : ∀ n, wgt (dff a b') n ≤ wgt (dff a b) n + if k < n then 1 else 0
  | 0 => by show 0 ≤ _; omega
  | n + 1 => by
    have ih := dff_turn (a := a) h n
    show wgt (dff a b') n + (if dff a b' n = 1 then 1 else 0) ≤ wgt (dff a b) n + (if dff a b n = 1 then 1 else 0) + if k < n + 1 then 1 else 0
    by_cases e : n = k
    · rw [if_neg (show ¬ k < n by omega)] at ih
      rw [if_pos (show k < n + 1 by omega)]
      split <;> omega
    · have e2 : dff a b' n = dff a b n := by unfold dff; rw [h n e]
      rw [e2]
      by_cases e3 : k < n
      · rw [if_pos e3] at ih; rw [if_pos (show k < n + 1 by omega)]; omega
      · rw [if_neg e3] at ih; rw [if_neg (show ¬ k < n + 1 by omega)]; omega
theorem dff_same (a : Nat → Nat) : ∀ n, wgt (dff a a) n = 0
  | 0 => rfl
  | n + 1 => by
    show wgt (dff a a) n + (if dff a a n = 1 then 1 else 0) = 0
    rw [dff_same a n]
    unfold dff
    rw [if_pos rfl]; rfl
/-- Few errors: Decode tells the message. -/
theorem mends_few {m r P : Nat} (h1 : 1 ≤ m) (h : m ≤ 5) (hr : r ≤ m) (hP : P = 2 ^ m) {c g : Nat → Nat} (hc : ∀ x, x < P → c x < 2) (hg : ∀ i, i < (mnl m (r + 1)).length → g i < 2) (hlt : 2 * wgt (dff (fun x => mwv (mnl m (r + 1)) g x (mnl m (r + 1)).length) c) P < 2 ^ (m - r)) :
    wgt (mrs (mnl m (r + 1)) P c (mnl m (r + 1)).length) P = wgt (dff (fun x => mwv (mnl m (r + 1)) g x (mnl m (r + 1)).length) c) P ∧ ∀ i, i < (mnl m (r + 1)).length → dbt (mnl m (r + 1)) P c i = g i := by
  subst hP
  have h5 := muller_mends h1 h hr (c := c) (g := g) (e := dff (fun x => mwv (mnl m (r + 1)) g x (mnl m (r + 1)).length) c) (fun x _ => by unfold dff; split <;> omega) hc (fun x hx => by
    have h3 := mwv_lt (mnl m (r + 1)) g x (mnl m (r + 1)).length
    have h4 := hc x hx
    unfold dff
    dsimp only
    split <;> omega) hlt hg
  exact ⟨wgt_congr (2 ^ m) h5.1, h5.2⟩

end Go.Proofs.Ytmklnjkallhphaa

/- TopMuller: what the calls tell of such codes. -/
namespace Go.Proofs.Ytmklnjkallhphaa
open Go.RowKit Go.Sort

theorem Red.of_span {D : FD} {n m m' k : Nat} {M M' R : Nat → Nat → Nat} (h : Red D n m M k R) (hs : ∀ v, Spn D (RowsOf m M) v ↔ Spn D (RowsOf m' M') v) : Red D n m' M' k R := by
  obtain ⟨p, h1, h2⟩ := h
  exact ⟨p, h1, fun v => (h2 v).trans (hs v)⟩
/-- How many monomials there are. -/
def mkn (m r : Nat) : Nat := (mnl m (r + 1)).length
/-- The rows of a code in hand are those of such a code. -/
def MuR (m r P : Nat) (R : Nat → Nat → Nat) : Prop := Red FM P (mkn m r) (mrow (mnl m (r + 1)) P) (mkn m r) R
theorem MuR.back {m r P : Nat} {R : Nat → Nat → Nat} (h : MuR m r P R) : ∀ v, Spn FM (RowsOf (mkn m r) R) v ↔ Spn FM (RowsOf (mkn m r) (mrow (mnl m (r + 1)) P)) v := by
  obtain ⟨p, _, h2⟩ := h
  exact h2
theorem MuR.uniq {m r P : Nat} {R R' : Nat → Nat → Nat} (h : MuR m r P R) (h' : MuR m r P R') : ∀ i, i < mkn m r → R i = R' i := (Red.uniq (fld FM_in) h h' (fun _ => Iff.rfl)).2
theorem MuR.le {m r P : Nat} {R : Nat → Nat → Nat} (h : MuR m r P R) : mkn m r ≤ P := Red.le h
theorem mCode_cod (r m P : Nat) (h1 : 1 ≤ m) (h : m ≤ 5) (hr : r ≤ m) (hP : P = 2 ^ m) (w : World) :
    Calls Try.prog 9 #[.int .i64 (r : Nat), .int .i64 (m : Nat)] w fun e w' => ∃ R ro rc, e = .returned (.tuple #[.agg #[.int .i64 2, .int .i64 (P : Nat), .slice ro (mkn m r) rc], .int .i64 0]) ∧ (Cod FM P ro (mkn m r) R w' ∧ RL (.slice ro (mkn m r) rc) (mkn m r) P R w') ∧ MuR m r P R ∧ Below w.heap.size w w' := by
  refine (mCode_any r m P h1 h hr hP w).mono ?_
  rintro e w' ⟨k, R, ro, rc, rfl, hmv, hred, hb⟩
  have hPb : P ≤ 32 := by rw [hP]; exact Nat.pow_le_pow_right (by omega) h
  have hPp : 0 < P := by rw [hP]; exact Nat.pow_pos (by omega)
  have ek : k = mkn m r := by subst hP; exact mrow_red h1 h (mnl_ord h1 h hr) hred
  subst ek
  have hle := Red.le hred
  exact ⟨R, ro, rc, rfl, ⟨hmv.cod (by omega) (by omega) (by omega) hred.rows.1 hred.rows.2, hmv.rl⟩, hred, hb⟩
theorem mDual_any {r m P : Nat} (h1 : 1 ≤ m) (h : m ≤ 5) (hr : r < m) (hP : P = 2 ^ m) {ro : Option Addr} (rc : Nat) {R : Nat → Nat → Nat} {w : World} (hc : Cod FM P ro (mkn m r) R w) (hm : MuR m r P R) :
    Calls Try.prog 24 #[.agg #[.int .i64 2, .int .i64 (P : Nat), .slice ro (mkn m r) rc]] w fun e w' => ∃ xo xc, e = .returned (.tuple #[.agg #[.int .i64 2, .int .i64 (P : Nat), .slice xo (mkn m (m - 1 - r)) xc], .int .i64 0]) ∧ (∀ R', MuR m (m - 1 - r) P R' → RL (.slice xo (mkn m (m - 1 - r)) xc) (mkn m (m - 1 - r)) P R' w') ∧ Below w.heap.size w w' := by
  refine (Cod.dual FM_in rc hc).mono ?_
  rintro e w' ⟨k, Rd, xo, xc, rfl, ⟨_, hrl⟩, hdu, hb⟩
  have hdu2 := hdu.of_spn hm.back
  subst hP
  obtain ⟨Rx, px, hRx, hsx⟩ := rre_full FM_in (n := 2 ^ m) (M := mrow (mnl m (m - 1 - r + 1)) (2 ^ m)) (mnl m (m - 1 - r + 1)).length (fun i _ => mrow_el _ _ i) (fun i _ => mrow_bd _ _ i) (fun j hj => mrow_free h1 h (mnl_ord h1 h (by omega)) hj)
  have hk : mkn m (m - 1 - r) = k := (muller_dual h1 h hr hdu2 (k' := mkn m (m - 1 - r)) ⟨px, hRx, hsx⟩).1
  subst hk
  exact ⟨xo, xc, rfl, fun R' hR' => hrl.congr (fun i hi => ((muller_dual h1 h hr hdu2 hR').2 i hi).symm), hb⟩
theorem mSum_any {r m P : Nat} (hr : r + 1 ≤ m) (hP : P = 2 ^ m) {ro so : Option Addr} (rc sc : Nat) {R R1 : Nat → Nat → Nat} {w : World} (hc : Cod FM P ro (mkn m r) R w) (hm : MuR m r P R) (hc1 : Cod FM P so (mkn m (r + 1)) R1 w) (hm1 : MuR m (r + 1) P R1) :
    Calls Try.prog 26 #[.agg #[.int .i64 2, .int .i64 (P : Nat), .slice ro (mkn m r) rc], .agg #[.int .i64 2, .int .i64 (P : Nat), .slice so (mkn m (r + 1)) sc]] w fun e w' => ∃ xo xc, e = .returned (.tuple #[.agg #[.int .i64 2, .int .i64 (P : Nat), .slice xo (mkn m (r + 1)) xc], .int .i64 0]) ∧ RL (.slice xo (mkn m (r + 1)) xc) (mkn m (r + 1)) P R1 w' ∧ Below w.heap.size w w' := by
  refine (Cod.sum FM_in rc sc hc hc1).mono ?_
  rintro e w' ⟨k, Rd, xo, xc, rfl, ⟨_, hrl⟩, hred, hb⟩
  subst hP
  obtain ⟨e1, e2⟩ := muller_sum hr hm hm1 hred
  subst e1
  exact ⟨xo, xc, rfl, hrl.congr (fun i hi => (e2 i hi).symm), hb⟩
theorem mSumRow_any {r m P : Nat} {ro so : Option Addr} (rc sc : Nat) {R R1 : Nat → Nat → Nat} {w : World} (hc : Cod FM P ro (mkn m r) R w) (hc1 : Cod FM P so 1 R1 w) :
    Calls Try.prog 26 #[.agg #[.int .i64 2, .int .i64 (P : Nat), .slice ro (mkn m r) rc], .agg #[.int .i64 2, .int .i64 (P : Nat), .slice so 1 sc]] w fun e w' => ∃ xo k xc, e = .returned (.tuple #[.agg #[.int .i64 2, .int .i64 (P : Nat), .slice xo k xc], .int .i64 0]) ∧ k ≤ mkn m r + 1 ∧ Below w.heap.size w w' := by
  refine (Cod.sum FM_in rc sc hc hc1).mono ?_
  rintro e w' ⟨k, Rd, xo, xc, rfl, _, hred, hb⟩
  refine ⟨xo, k, xc, rfl, hred.few FM_in (fun i hi => ?_), hb⟩
  have a1 := (hc.rows (fld FM_in)).2.2
  have a2 := (hc1.rows (fld FM_in)).2.2
  unfold apr
  by_cases e : i < mkn m r
  · rw [if_pos e]; exact a1 i e
  · rw [if_neg e]; exact a2 _ (by omega)
theorem mDist_any {r m P : Nat} (h1 : 1 ≤ m) (h : m ≤ 5) (hr : r ≤ m) (hP : P = 2 ^ m) {ro : Option Addr} (rc : Nat) {R : Nat → Nat → Nat} {w : World} (hc : Cod FM P ro (mkn m r) R w) (hm : MuR m r P R) (hfew : 2 ^ mkn m r ≤ 4096) :
    Calls Try.prog 28 #[.agg #[.int .i64 2, .int .i64 (P : Nat), .slice ro (mkn m r) rc]] w fun e w' => e = .returned (.tuple #[.int .i64 ((2 ^ (m - r) : Nat) : Int), .int .i64 0]) ∧ Below w.heap.size w w' := by
  refine (Cod.dist FM_in rc hc).mono ?_
  rintro e w' ⟨k, R', hred, hb, hx⟩
  subst hP
  have hred2 := hred.of_span hm.back
  have hk : k = mkn m r := mrow_red h1 h (mnl_ord h1 h hr) hred2
  rcases hx with ⟨_, d, hL, rfl⟩ | ⟨hn, _⟩
  · have := muller_far h1 h hr hred2 hL
    rw [this]
    exact ⟨rfl, hb⟩
  · exfalso
    apply hn
    rw [hk]; exact hfew
/-- One word as the rows of a code. -/
theorem row_cod {P g G cg : Nat} {c : Nat → Nat} {w : World} (hP1 : 1 ≤ P) (hP : P ≤ 32) (hc : ∀ x, x < P → c x < 2) (hrow : Row g P c w) (hcg : P ≤ cg ∧ cg ≤ 9223372036854775807) (hcell : w.cell? ⟨G, 0, none⟩ = some (.slice (some ⟨g, 0, none⟩) P cg)) : ∃ R1, Cod FM P (some ⟨G, 0, none⟩) 1 R1 w := by
  refine ⟨_, fun _ => some ⟨g, 0, none⟩, fun _ => P, fun _ => cg, fun _ j => ((c j : Nat) : Int), ⟨⟨fun i hi => ?_, fun i _ => (hrow.sl (Nat.le_refl _)).z, fun _ _ => hcg.1, fun _ _ => hcg.2, fun _ _ e => (by cases e), fun _ _ => by omega⟩, blw_mchk6 (by omega) hP1 (by omega) (fun j hj t ht => ?_), fun _ => rfl, hP1, by omega⟩, fun i hi => rfl⟩
  · exact ⟨G, 0, rfl, by rw [show 0 + i = 0 by omega]; exact hcell⟩
  · have := hc t ht
    exact ⟨by omega, by show ((c t : Nat) : Int) < ((2 : Nat) : Int); omega⟩
end Go.Proofs.Ytmklnjkallhphaa
