/- Texts of ours, one behind the other: I35 I36 K6 K7 K8 W12 K9 E7 I37 S19 I38 I39. -/
import Derived.Test.YtafebmhbfmdjlabZI34
import Derived.Test.YtafebmhbfmdjlabZX18
import Derived.Test.YtafebmhbfmdjlabZI3
import Derived.Test.YtafebmhbfmdjlabZI8
import Derived.Test.YtafebmhbfmdjlabZS3
import Derived.Test.YtafebmhbfmdjlabZY4
import Derived.Test.YtafebmhbfmdjlabZI20
import Derived.Test.YtafebmhbfmdjlabZI31
import Derived.Test.YtafebmhbfmdjlabZS2
import Derived.Test.YtafebmhbfmdjlabZU9
import Derived.Test.YtafebmhbfmdjlabZU5
/- Puncture, with its check. -/
namespace Go.Proofs.Ytafebmhbfmdjlab
open Go.RowKit Go.Sort

set_option maxHeartbeats 4000000 in
set_option maxRecDepth 100000 in
theorem cPuncture_ok {D : FD} (hD : D ∈ fieldsL) {ao : Option Addr} {m n n2 ca a : Nat} {A : Nat → Option Addr} {N C : Nat → Nat} {Z : Nat → Nat → Int} {w : World} (ha : CdZ D ao m n A N C Z w) (hnn : n = n2 + 2) (hpl : a < n)
    (hC : ∀ wx, Below w.heap.size w wx → Calls Try.prog 22 #[.agg #[.int .i64 D.q, .int .i64 (n : Nat), .slice ao m ca], .int .i64 (a : Nat)] wx fun x w' => x = .returned (.int .i64 0) ∧ Below wx.heap.size wx w') :
    Calls Try.prog 8 #[.agg #[.int .i64 D.q, .int .i64 (n : Nat), .slice ao m ca], .int .i64 (a : Nat)] w fun x w' => ∃ k R ro rc, x = .returned (.tuple #[.agg #[.int .i64 D.q, .int .i64 (n2 + 1 : Nat), .slice ro k rc], .int .i64 0]) ∧ MV w.heap.size (.slice ro k rc) k (n2 + 1) R w' ∧ Red D (n2 + 1) m (fun i => wo a (mzc N Z i)) k R ∧ Below w.heap.size w w' := by
  obtain ⟨w0, hw0⟩ : ∃ w0, w0 = (w.alloc (.cells #[.int .i64 D.q, .int .i64 (n : Nat), .slice ao m ca] 25)).alloc (.cells #[.int .i64 0, .int .i64 0, .slice none 0 0] 25) := ⟨_, rfl⟩
  have HW : Hid (Below w.heap.size w w0 ∧ RB (w.heap.size + 1) w0 ∧ CB w.heap.size D.q n (.slice ao m ca) w0 ∧ w0.heap.size = w.heap.size + 2) := by
    obtain ⟨h1, h2, h3, h4⟩ := two_boxes D.q n 0 0 (.slice ao m ca) (.slice none 0 0) w
    have h6 := RBt.new #[.int .i64 0, .int .i64 0, .slice none 0 0] (w.alloc (.cells #[.int .i64 D.q, .int .i64 (n : Nat), .slice ao m ca] 25))
    rw [show (w.alloc (.cells #[.int .i64 D.q, .int .i64 (n : Nat), .slice ao m ca] 25)).heap.size = w.heap.size + 1 by simp] at h6
    rw [hw0]; exact ⟨h1, RB.of h3 h6, h2, by simp⟩
  obtain ⟨N1, hN1⟩ : ∃ N1, N1 = n2 + 1 := ⟨_, rfl⟩
  rw [← hN1]
  have HP : Hid (∀ wx, Below w.heap.size w wx → Calls Try.prog 23 #[.agg #[.int .i64 D.q, .int .i64 (n : Nat), .slice ao m ca], .int .i64 (a : Nat)] wx fun e w' => ∃ k R ro rc, e = .returned (.agg #[.int .i64 D.q, .int .i64 (N1 : Nat), .slice ro k rc]) ∧ MV wx.heap.size (.slice ro k rc) k N1 R w' ∧ Red D N1 m (fun i => wo a (mzc N Z i)) k R ∧ Below wx.heap.size wx w') := fun wx hx => by
    rw [hN1]; exact cpunct_any hD (ha.below hx) hnn hpl
  have HC : Hid _ := hC
  clear hD ha hC hN1 hnn hpl
  go_enter Try.func8, Try.ntmps8
  go_wp2_with fail
  rw [← hw0]
  clear hw0
  refine (HC.out _ HW.out.1).mono ?_
  rintro x w1 ⟨rfl, hb1⟩
  have H1 : Hid (Below w.heap.size w w1 ∧ RB (w.heap.size + 1) w1 ∧ CB w.heap.size D.q n (.slice ao m ca) w1 ∧ w.heap.size + 2 ≤ w1.heap.size) := ⟨bel_up' HW.out.1 hb1, HW.out.2.1.keep hb1, HW.out.2.2.1.keep hb1, by have := hb1.size; have := HW.out.2.2.2; omega⟩
  clear hb1
  have hcb1 := H1.out.2.2.1
  obtain ⟨a0, a1, a2⟩ := hcb1
  go_wp2_with fail
  refine (HP.out _ H1.out.1).mono ?_
  rintro x w2 ⟨k, R, ro, rc, rfl, hmv, hred, hb2⟩
  have H2 : Hid (MV w1.heap.size (.slice ro k rc) k N1 R w2 ∧ Red D N1 m (fun i => wo a (mzc N Z i)) k R ∧ Below w.heap.size w w2 ∧ RB (w.heap.size + 1) w2) := ⟨hmv, hred, bel_up' H1.out.1 hb2, H1.out.2.1.keep hb2⟩
  clear hmv hred hb2 a0 a1 a2
  obtain ⟨⟨x0, c0⟩, ⟨x1, c1⟩, ⟨x2, c2⟩, f0, f1, f2⟩ := H2.out.2.2.2
  go_wp2
  obtain ⟨w3, hw3⟩ : ∃ w3, w3 = laid w2 (w.heap.size + 1) D.q (N1 : Nat) (.slice ro k rc) := ⟨_, rfl⟩
  have H3 : Hid (CB (w.heap.size + 1) D.q (N1 : Nat) (.slice ro k rc) w3 ∧ MV w.heap.size (.slice ro k rc) k N1 R w3 ∧ Below w.heap.size w w3) := by
    have := H1.out.2.2.2
    rw [hw3]; exact ⟨laid_cb H2.out.2.2.2 _ _ _, (laid_mv H2.out.1 (by omega) _ _ _).mono (by omega), laid_below H2.out.2.2.1 (by omega) _ _ _⟩
  unfold laid at hw3
  rw [← hw3]
  clear hw3 c0 c1 c2 f0 f1 f2
  obtain ⟨c0, c1, c2⟩ := H3.out.1
  refine bodyPost_ret (v := .tuple #[.agg #[.int .i64 D.q, .int .i64 (N1 : Nat), .slice ro k rc], .int .i64 0]) (by simp [results, Try.results8, go_sem, c0, c1, c2]) rfl ?_
  exact ⟨_, R, _, _, rfl, H3.out.2.1, H2.out.2.1, H3.out.2.2⟩
end Go.Proofs.Ytafebmhbfmdjlab

/- Shorten, with its check. -/
namespace Go.Proofs.Ytafebmhbfmdjlab
open Go.RowKit Go.Sort

end Go.Proofs.Ytafebmhbfmdjlab

/- Codes out of raw numbers (Few, CodeOf). -/
namespace Go.Proofs.Ytafebmhbfmdjlab
open Go.RowKit Go.Sort

theorem pick_nat6 {m : Int} {k : Nat} (hk : 0 < k) : ∃ M : Nat, pick m (k : Int) = (M : Int) ∧ M < k := by
  have h1 := pick_lo m (k : Int) (by omega)
  have h2 := pick_hi m (k : Int) (by omega)
  exact ⟨(pick m (k : Int)).toNat, by omega, by omega⟩
end Go.Proofs.Ytafebmhbfmdjlab

/- Codes in hand: what was told is handed in again (Sum, Meet, Make, Dual). -/
namespace Go.Proofs.Ytafebmhbfmdjlab
open Go.RowKit Go.Sort

/-- A code that can be handed in, of the rows M. -/
def Cod (D : FD) (n : Nat) (ao : Option Addr) (m : Nat) (M : Nat → Nat → Nat) (w : World) : Prop := ∃ A N C Z, CdZ D ao m n A N C Z w ∧ ∀ i, i < m → mzc N Z i = M i
theorem Cod.below {D : FD} {n m : Nat} {ao : Option Addr} {M : Nat → Nat → Nat} {w w' : World} (h : Cod D n ao m M w) (hb : Below w.heap.size w w') : Cod D n ao m M w' := by
  obtain ⟨A, N, C, Z, h1, h2⟩ := h
  exact ⟨A, N, C, Z, h1.below hb, h2⟩
theorem Cod.rows {D : FD} (F : Fld D) {n m : Nat} {ao : Option Addr} {M : Nat → Nat → Nat} {w : World} (h : Cod D n ao m M w) : m ≤ 64 ∧ (1 ≤ n ∧ n ≤ 64) ∧ ∀ i, i < m → El D (M i) ∧ Bd n (M i) := by
  obtain ⟨A, N, C, Z, h1, h2⟩ := h
  obtain ⟨g1, g2, g3, _⟩ := h1.rows F
  exact ⟨g1, ⟨h1.n1, h1.n64⟩, fun i hi => by rw [← h2 i hi]; exact ⟨g2 i hi, g3 i hi⟩⟩
theorem MV.cod {D : FD} {B n k : Nat} {ro : Option Addr} {rc : Nat} {R : Nat → Nat → Nat} {w : World} (h : MV B (.slice ro k rc) k n R w) (hn1 : 1 ≤ n) (hn : n ≤ 64) (hk : k ≤ 64) (he : ∀ i, i < k → El D (R i)) (hb : ∀ i, i < k → Bd n (R i)) : Cod D n ro k R w := by
  obtain ⟨A, C, hc⟩ := (h.rlz (by omega)).cdz (D := D) hn1 hn hk he
  exact ⟨A, _, C, _, hc, fun i hi => mzc_rows hb i hi⟩
theorem Cod.chk {D : FD} (hD : D ∈ fieldsL) {n m : Nat} (ca : Nat) {ao : Option Addr} {M : Nat → Nat → Nat} {w : World} (h : Cod D n ao m M w) (wx : World) (hx : Below w.heap.size w wx) :
    Calls Try.prog 19 #[.agg #[.int .i64 D.q, .int .i64 (n : Nat), .slice ao m ca]] wx fun x w' => x = .returned (.int .i64 0) ∧ Below wx.heap.size wx w' := by
  obtain ⟨A, N, C, Z, h1, _⟩ := h.below hx
  have e : D.cchk (n : Nat) m N Z = 0 := by
    have a1 := h1.n1
    have a2 := h1.n64
    unfold FD.cchk
    rw [if_neg (by omega), h1.chk, if_neg (fun h => h rfl), if_neg]
    rintro ⟨b1, b2⟩
    exact b2 (by rw [h1.wd b1])
  have := ccheck_any hD (ca := ca) (n : Nat) h1.mat (h1.few (fld hD))
  rw [e] at this
  exact this
theorem Red.of_eq {D : FD} {n m k : Nat} {M M' R : Nat → Nat → Nat} (h : Red D n m M k R) (e : ∀ i, i < m → M i = M' i) : Red D n m M' k R := by
  obtain ⟨p, h1, h2⟩ := h
  exact ⟨p, h1, fun v => (h2 v).trans (rows_congr e v)⟩
theorem Cod.dual {D : FD} (hD : D ∈ fieldsL) {n m : Nat} (ca : Nat) {ao : Option Addr} {M : Nat → Nat → Nat} {w : World} (h : Cod D n ao m M w) :
    Calls Try.prog 6 #[.agg #[.int .i64 D.q, .int .i64 (n : Nat), .slice ao m ca]] w fun x w' => ∃ k R ro rc, x = .returned (.tuple #[.agg #[.int .i64 D.q, .int .i64 (n : Nat), .slice ro k rc], .int .i64 0]) ∧ (Cod D n ro k R w' ∧ RL (.slice ro k rc) k n R w') ∧ Dul D n m M k R ∧ Below w.heap.size w w' := by
  have hr := h.rows (fld hD)
  have hc := h.chk hD ca
  obtain ⟨A, N, C, Z, h1, h2⟩ := h
  refine (cDual_ok hD h1 hc).mono ?_
  rintro x w' ⟨k, R, ro, rc, rfl, hmv, hdu, hb⟩
  have hkn := hdu.le
  exact ⟨k, R, ro, rc, rfl, ⟨hmv.cod hr.2.1.1 hr.2.1.2 (by omega) hdu.rows.1 hdu.rows.2, hmv.rl⟩, hdu.of_spn (fun v => rows_congr h2 v), hb⟩
/-- A code's variable, newly made. -/
theorem box_at (q n : Int) (v : Value) (w : World) : Below w.heap.size w (w.alloc (.cells #[.int .i64 q, .int .i64 n, v] 25)) ∧ CB w.heap.size q n v (w.alloc (.cells #[.int .i64 q, .int .i64 n, v] 25)) ∧ (w.alloc (.cells #[.int .i64 q, .int .i64 n, v] 25)).heap.size = w.heap.size + 1 :=
  ⟨(Below.refl _ _).alloc (Nat.le_refl _) _, CB.new _ _ _ _, by simp⟩
end Go.Proofs.Ytafebmhbfmdjlab

/- Codes out of raw numbers (CodeOf). -/
namespace Go.Proofs.Ytafebmhbfmdjlab
open Go.RowKit Go.Sort

end Go.Proofs.Ytafebmhbfmdjlab

/- A region that draws its order: one of two operations comes next. No Go text here. -/
namespace Go.Proofs.Ytafebmhbfmdjlab
open Go

end Go.Proofs.Ytafebmhbfmdjlab

/- Codes in hand: Encode, Has; words of a code and of its dual. -/
namespace Go.Proofs.Ytafebmhbfmdjlab
open Go.RowKit Go.Sort

/-- A word that was told: it can be handed in again. -/
def Wrd (n : Nat) (v : Nat → Nat) (gr c : Nat) (w : World) : Prop := Row gr n v w ∧ n ≤ c ∧ c ≤ 9223372036854775807
theorem Wrd.below {n gr c : Nat} {v : Nat → Nat} {w w' : World} (h : Wrd n v gr c w) (hb : Below w.heap.size w w') : Wrd n v gr c w' := ⟨h.1.below hb h.1.lt, h.2⟩
theorem Wrd.arg {n gr c : Nat} {v : Nat → Nat} {w : World} (h : Wrd n v gr c w) (hn : n ≤ 1000) : Arg (some ⟨gr, 0, none⟩) n c (fun i => ((v i : Nat) : Int)) w :=
  ⟨slz_of (h.1.sl (Nat.le_refl _)), fun x hx => by cases hx; exact h.1.lt, by omega, (fun e => by cases e), h.2.1, h.2.2⟩
theorem enw_spn {D : FD} (F : Fld D) {R : Nat → Nat → Nat} {z : Nat → Nat} {K : Nat} (hR : ∀ i, i < K → El D (R i)) : ∀ k, k ≤ K → Spn D (RowsOf K R) (enw D R z k)
  | 0, _ => spn_nil D _
  | k + 1, h => spn_add F (enw_spn F hR k (by omega)) (spn_scale F _ (spn_mem F (hR k (by omega)) ⟨k, by omega, rfl⟩))
theorem blw_nchk {D : FD} {k : Nat} {y : Nat → Int} (h : Blw D.q k y) : D.nchk k y (k : Nat) = 0 := by
  unfold FD.nchk
  rw [if_neg (fun h => h rfl), if_neg]
  rw [anyB_no k (fun j hj => ?_)]
  · intro e; cases e
  · have hh : D.has (y j) = true := by
      have := h j hj
      unfold FD.has
      rw [decide_eq_true_eq]; exact this
    rw [hh]; rfl
theorem Cod.encode {D : FD} (hD : D ∈ fieldsL) {n m k my : Nat} (ca : Nat) {ao yo : Option Addr} {cy : Nat} {M R : Nat → Nat → Nat} {y : Nat → Int} {w : World} (h : Cod D n ao m M w) (hY : Arg yo my cy y w) (hR : Red D n m M k R) (hk : D.nchk my y k = 0) :
    Calls Try.prog 11 #[.agg #[.int .i64 D.q, .int .i64 (n : Nat), .slice ao m ca], .slice yo my cy] w fun x w' => ∃ v gr c, x = .returned (.tuple #[.slice (some ⟨gr, 0, none⟩) n c, .int .i64 0]) ∧ Wrd n v gr c w' ∧ (El D v ∧ Spn D (RowsOf m M) v) ∧ Below w.heap.size w w' := by
  have hc := h.chk hD ca
  obtain ⟨A, N, C, Z, h1, h2⟩ := h
  refine (cEncode_ok hD h1 hY (hR.of_eq (fun i hi => (h2 i hi).symm)) hk hc).mono ?_
  rintro x w' ⟨⟨gr, c, rfl, hrow, _, hc1, hc2⟩, hb⟩
  refine ⟨_, gr, c, rfl, ⟨hrow, hc1, hc2⟩, ⟨enw_el (fld hD) k, ?_⟩, hb⟩
  obtain ⟨p, q1, q2⟩ := hR
  exact (q2 _).1 (enw_spn (fld hD) q1.el k (Nat.le_refl _))
end Go.Proofs.Ytafebmhbfmdjlab

/- TopDual: the walk of the statement, whatever raw numbers it is given. -/
namespace Go.Proofs.Ytafebmhbfmdjlab
open Go.RowKit Go.Sort

theorem Dul.red {D : FD} {n m k : Nat} {M R : Nat → Nat → Nat} (h : Dul D n m M k R) {m' : Nat} {M' : Nat → Nat → Nat} (hs : ∀ v, Spn D (RowsOf k R) v ↔ Spn D (RowsOf m' M') v) : Red D n m' M' k R := by
  obtain ⟨_, _, _, p, _, _, q1, _⟩ := h
  exact ⟨p, q1, hs⟩
/-- The dual's own one form. -/
theorem Dul.own {D : FD} {n m k : Nat} {M R : Nat → Nat → Nat} (h : Dul D n m M k R) : Red D n k R k R := h.red (fun _ => Iff.rfl)

end Go.Proofs.Ytafebmhbfmdjlab

/- A row less another, wherever they lie (the reference's less). -/
namespace Go.Proofs.Ytafebmhbfmdjlab
open Go.RowKit Go.Sort

end Go.Proofs.Ytafebmhbfmdjlab

/- Plain mathematics: words with one number more, so that all together are 0. No Go text here. -/
namespace Go.Proofs.Ytafebmhbfmdjlab

theorem ng_ad19 {D : FD} (F : Fld D) {a b : Nat} (ha : a < D.q) (hb : b < D.q) : D.ng (D.ad a b) = D.ad (D.ng a) (D.ng b) := by
  have h1 : D.ad (D.ad a b) (D.ad (D.ng a) (D.ng b)) = 0 := by
    rw [ad4 F ha hb (ng_lt F ha) (ng_lt F hb), ad_ng F ha, ad_ng F hb, ad_zero F (zero_lt' F)]
  exact (ad_cancel F (ad_lt F ha hb) (ad_lt F (ng_lt F ha) (ng_lt F hb)) (ng_lt F (ad_lt F ha hb)) (h1.trans (ad_ng F (ad_lt F ha hb)).symm)).symm
/-- The sum of the first numbers. -/
def xsm (D : FD) (v : Nat → Nat) : Nat → Nat
  | 0 => 0
  | n + 1 => D.ad (xsm D v n) (v n)
theorem xsm_lt {D : FD} (F : Fld D) {v : Nat → Nat} (hv : El D v) : ∀ n, xsm D v n < D.q
  | 0 => zero_lt' F
  | n + 1 => ad_lt F (xsm_lt F hv n) (hv n)
/-- The word with the opposite of its sum behind it. -/
def xtd (D : FD) (n : Nat) (v : Nat → Nat) : Nat → Nat := fun j => if j = n then D.ng (xsm D v n) else v j
theorem xtd_el {D : FD} (F : Fld D) {n : Nat} {v : Nat → Nat} (hv : El D v) : El D (xtd D n v) := fun j => by
  unfold xtd
  by_cases e : j = n
  · rw [if_pos e]; exact ng_lt F (xsm_lt F hv n)
  · rw [if_neg e]; exact hv j
theorem xtd_bd {D : FD} {n : Nat} {v : Nat → Nat} (hb : Bd n v) : Bd (n + 1) (xtd D n v) := fun j hj => by
  unfold xtd
  rw [if_neg (by omega)]; exact hb j (by omega)
end Go.Proofs.Ytafebmhbfmdjlab

/- Words that are 0 at a place, without it (the reference's Shortened). -/
namespace Go.Proofs.Ytafebmhbfmdjlab
open Go.RowKit Go.Sort

end Go.Proofs.Ytafebmhbfmdjlab

/- Words with one number more (the reference's Extended). -/
namespace Go.Proofs.Ytafebmhbfmdjlab
open Go.RowKit Go.Sort

end Go.Proofs.Ytafebmhbfmdjlab
