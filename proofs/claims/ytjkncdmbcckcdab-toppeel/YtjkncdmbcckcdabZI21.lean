/- Texts of ours, one behind the other: I21 I22 I23 S12 I24 I25 I26. -/
import Derived.Test.YtjkncdmbcckcdabZI8
import Derived.Test.YtjkncdmbcckcdabZK4
import Derived.Test.YtjkncdmbcckcdabZS4
/- Encode: the sum of the rows of the one form. -/
namespace Go.Proofs.Ytjkncdmbcckcdab
open Go.RowKit Go.Sort

/-- The sum of the first rows, each so many times. -/
def enw (D : FD) (R : Nat → Nat → Nat) (z : Nat → Nat) : Nat → Nat → Nat
  | 0 => pnil
  | k + 1 => padd D (enw D R z k) (pscale D (z k) (R k))
theorem enw_el {D : FD} (F : Fld D) {R : Nat → Nat → Nat} {z : Nat → Nat} : ∀ k, El D (enw D R z k)
  | 0 => el_nil F
  | k + 1 => el_add F (enw_el F k) (el_scale F _ _)
/-- A list of the call's own that is told. -/
def LstP (B n : Nat) (v : Nat → Nat) (x : Ending) (w' : World) : Prop := ∃ gr c, x = .returned (.tuple #[.slice (some ⟨gr, 0, none⟩) n c, .int .i64 0]) ∧ Row gr n v w' ∧ B ≤ gr ∧ n ≤ c ∧ c ≤ 9223372036854775807
theorem rl_lt {ao : Option Addr} {n : Nat} {a : Nat → Nat} {w : World} (h : Sl ao n a w) (hn : 1 ≤ n) : LtB ao w.heap.size := fun x hx => by
  obtain ⟨b, off, e, hc⟩ := h 0 (by omega)
  rw [hx] at e
  cases e
  exact cell_lt hc

theorem zc_lt {D : FD} {my : Nat} {y : Nat → Int} {many : Int} (h : D.nchk my y many = 0) {i : Nat} (hi : i < my) : zc my y i < D.q := by
  obtain ⟨s, e, hs⟩ := has_nat ((nchk_ok h).2 i hi)
  unfold zc; rw [if_pos hi, e, Int.toNat_natCast]; exact hs
set_option maxHeartbeats 8000000 in
set_option maxRecDepth 100000 in
theorem cEncode_ok {D : FD} (hD : D ∈ fieldsL) {ao yo : Option Addr} {m n ca my cy k : Nat} {A : Nat → Option Addr} {N C : Nat → Nat} {Z : Nat → Nat → Int} {R : Nat → Nat → Nat} {y : Nat → Int} {w : World} (ha : CdZ D ao m n A N C Z w) (hY : Arg yo my cy y w) (hR : Red D n m (mzc N Z) k R) (hk : D.nchk my y k = 0)
    (hC : ∀ wx, Below w.heap.size w wx → Calls Try.prog 16 #[.agg #[.int .i64 D.q, .int .i64 (n : Nat), .slice ao m ca]] wx fun x w' => x = .returned (.int .i64 0) ∧ Below wx.heap.size wx w') :
    Calls Try.prog 7 #[.agg #[.int .i64 D.q, .int .i64 (n : Nat), .slice ao m ca], .slice yo my cy] w fun x w' => LstP w.heap.size n (enw D R (zc my y) k) x w' ∧ Below w.heap.size w w' := by
  obtain ⟨w0, hw0⟩ : ∃ w0, w0 = w.alloc (.cells #[.int .i64 D.q, .int .i64 (n : Nat), .slice ao m ca] 27) := ⟨_, rfl⟩
  have HW : Hid (Below w.heap.size w w0 ∧ CB w.heap.size D.q n (.slice ao m ca) w0 ∧ RBt w.heap.size w0 ∧ w0.heap.size = w.heap.size + 1) := by
    rw [hw0]; exact ⟨(Below.refl _ _).alloc (Nat.le_refl _) _, CB.new _ _ _ _, RBt.new _ _, by simp⟩
  have HA : Hid (D ∈ fieldsL ∧ CdZ D ao m n A N C Z w ∧ Arg yo my cy y w ∧ Red D n m (mzc N Z) k R ∧ D.nchk my y k = 0) := ⟨hD, ha, hY, hR, hk⟩
  have HC : Hid _ := hC
  have hn1 := ha.n1
  have hn := ha.n64
  have hmy : my = k := by have := (nchk_ok hk).1; omega
  have hkn := hR.le
  subst hmy
  clear hD ha hY hR hk hC
  go_enter Try.func7, Try.ntmps7
  go_wp2_with fail
  rw [← hw0]
  clear hw0
  refine (cMake_ok HA.out.1 (HA.out.2.1.below HW.out.1) (fun wx hx => HC.out _ (bel_up' HW.out.1 hx))).mono ?_
  rintro x w1 ⟨k', R', ro, rc, rfl, hmv, hred, hb1⟩
  have hu := Red.uniq (fld HA.out.1) HA.out.2.2.2.1 hred (fun v => Iff.rfl)
  obtain ⟨hu1, hu2⟩ := hu
  subst hu1
  obtain ⟨w2, hw2⟩ : ∃ w2, w2 = laid w1 w.heap.size D.q n (.slice ro my rc) := ⟨_, rfl⟩
  have hrb := RB.of (HW.out.2.1.keep hb1) (HW.out.2.2.1.keep hb1)
  have H2 : Hid (Below w.heap.size w w2 ∧ CB w.heap.size D.q n (.slice ro my rc) w2 ∧ RL (.slice ro my rc) my n R w2) := by
    rw [hw2]
    exact ⟨laid_below (bel_up' HW.out.1 hb1) (Nat.le_refl _) _ _ _, laid_cb hrb _ _ _, (laid_mv hmv (by have := HW.out.2.2.2; omega) _ _ _).rl.congr (fun i hi => (hu2 i hi).symm)⟩
  clear hmv hred hu2 hb1
  obtain ⟨⟨x0, c0⟩, ⟨x1, c1⟩, ⟨x2, c2⟩, f0, f1, f2⟩ := hrb
  unfold laid at hw2
  have hq := H2.out.2.1
  rw [hw2] at hq
  obtain ⟨p0, p1, p2⟩ := hq
  go_wp2_with fail
  rw [← hw2]
  clear hw2 p0 p1 p2 c0 c1 c2 f0 f1 f2
  refine (cnum_ok HA.out.1 (HA.out.2.2.1.below H2.out.1) HA.out.2.2.2.2).mono ?_
  rintro x w3 ⟨F, T, g, rfl, hat, hF, hT, hb3⟩
  have H3 : Hid (Below w.heap.size w w3 ∧ CB w.heap.size D.q n (.slice ro my rc) w3 ∧ RL (.slice ro my rc) my n R w3 ∧ FAt F T D g w3 ∧ Sl yo my (zc my y) w3 ∧ LtB yo w3.heap.size) := by
    have hb := bel_up' H2.out.1 hb3
    have hA := HA.out.2.2.1.below hb
    exact ⟨hb, H2.out.2.1.keep hb3, H2.out.2.2.below hb3, hat, has_sl (nchk_ok HA.out.2.2.2.2).2 hA.sl, hA.lt⟩
  clear hat hF hT hb3
  obtain ⟨p0, p1, p2⟩ := H3.out.2.1
  go_wp2_with (at_make; refine make_int rfl _ _ rfl _ n rfl rfl (by omega) (by omega) ?_; intro w4 hown4 hgrow4)
  have H4 : Hid (Row w3.heap.size n pnil w4 ∧ Below w3.heap.size w3 w4) := ⟨row_zeros hown4, below_grown hgrow4 (Nat.le_refl _) (fun k hk => by simp at hk)⟩
  clear hown4 hgrow4
  go_loopw [8, 37] (fun vw vi wr => ∃ (r gr c : Nat), r ≤ my ∧ vw = .slice (some ⟨gr, 0, none⟩) n c ∧ vi = .int .i64 r ∧ (n ≤ c ∧ c ≤ 9223372036854775807) ∧ w3.heap.size ≤ gr ∧ Hid (Row gr n (enw D R (zc my y) r) wr ∧ Below w3.heap.size w3 wr)) (fun _ vi _ => my - (intOf vi).toNat)
  case atStart => exact ⟨0, _, _, by omega, rfl, rfl, ⟨Nat.le_refl _, by omega⟩, Nat.le_refl _, H4.out⟩
  case round =>
    clear H4 p0 p1 p2
    obtain ⟨r, gr, c, hr, rfl, rfl, hnc, hgr, HG⟩ := hrel
    rename World => wr
    by_cases hlt : r < my
    · have hib : (r : Int) < (my : Int) := by omega
      have hb := HG.out.2
      obtain ⟨p0, p1, p2⟩ := H3.out.2.1.keep hb
      obtain ⟨by', oy, hyo, hcy⟩ := (H3.out.2.2.2.2.1.below hb H3.out.2.2.2.2.2) r hlt
      subst hyo
      obtain ⟨ro', ca', ev, hrl⟩ := H3.out.2.2.1.below hb
      cases ev
      obtain ⟨bR, oR, xr, cx, hro, hcr, hsr⟩ := hrl r hlt
      subst hro
      obtain ⟨t, ht⟩ : ∃ t, t = zc my y r := ⟨_, rfl⟩
      rw [← ht] at hcy
      have HP : Hid (Sl xr n (R r) wr ∧ t = zc my y r ∧ t < D.q) := ⟨hsr, ht, by rw [ht]; exact zc_lt HA.out.2.2.2.2 hlt⟩
      clear hsr ht hrl hb
      go_wp2_with fail
      refine (plus_any HA.out.1 (H3.out.2.2.2.1.below HG.out.2 H3.out.2.2.2.1.ltF H3.out.2.2.2.1.ltT) hn1 (by omega) HP.out.2.2 (enw_el (fld HA.out.1) r) (HA.out.2.2.2.1.rows.1 r hlt) (HG.out.1.sl (Nat.le_refl _)) (by intro x hx; cases hx; exact HG.out.1.lt) (by intro h; cases h) HP.out.1 (rl_lt HP.out.1 hn1)).mono ?_
      rintro x w5 ⟨gr2, c2', rfl, hg2, hc2, hc3, hrow5, hb5⟩
      have H5 : Hid (Row gr2 n (enw D R (zc my y) (r + 1)) w5 ∧ Below w3.heap.size w3 w5) := ⟨by rw [HP.out.2.1] at hrow5; exact hrow5, bel_up' HG.out.2 hb5⟩
      have hgg : w3.heap.size ≤ gr2 := by have := HG.out.2.size; omega
      clear hg2 hrow5 hb5 p0 p1 p2
      go_wp2
      go_roundw
      case rel => exact ⟨r + 1, gr2, c2', by omega, rfl, by go_num, ⟨hc2, hc3⟩, hgg, H5.out⟩
      case measure => simp [intOf]; omega
    · have hib : ¬ (r : Int) < (my : Int) := by omega
      have hre : my = r := by omega
      subst hre
      have HZ : Hid (Below w.heap.size w wr ∧ Row gr n (enw D R (zc my y) my) wr ∧ w.heap.size ≤ gr) := ⟨bel_up' H3.out.1 HG.out.2, HG.out.1, by have := H3.out.1.size; omega⟩
      go_wp2
      go_ret2
      exact ⟨⟨gr, c, by simp [go_sem], HZ.out.2.1, HZ.out.2.2, hnc.1, hnc.2⟩, HZ.out.1⟩
end Go.Proofs.Ytjkncdmbcckcdab

/- Encoded: the reference's sum of rows. -/
namespace Go.Proofs.Ytjkncdmbcckcdab
open Go.RowKit Go.Sort

end Go.Proofs.Ytjkncdmbcckcdab

/- Encode: where there is nothing to tell. -/
namespace Go.Proofs.Ytjkncdmbcckcdab
open Go.RowKit Go.Sort

end Go.Proofs.Ytjkncdmbcckcdab

/- Plain mathematics: products of rows; what makes rows 0. No Go text here. -/
namespace Go.Proofs.Ytjkncdmbcckcdab

/-- The sum of the products of the first numbers of two lists. -/
def dot (D : FD) (a b : Nat → Nat) : Nat → Nat
  | 0 => 0
  | j + 1 => D.ad (dot D a b j) (D.mul (a j) (b j))
theorem dot_lt {D : FD} (F : Fld D) (a b : Nat → Nat) : ∀ j, dot D a b j < D.q
  | 0 => zero_lt' F
  | j + 1 => ad_lt F (dot_lt F a b j) (F.mul_lt _ _)
theorem dot_comm {D : FD} (F : Fld D) (a b : Nat → Nat) : ∀ n, dot D a b n = dot D b a n
  | 0 => rfl
  | n + 1 => by
    show D.ad (dot D a b n) (D.mul (a n) (b n)) = D.ad (dot D b a n) (D.mul (b n) (a n))
    rw [dot_comm F a b n, F.mul_comm (a n)]
theorem dot_nil {D : FD} (F : Fld D) (v : Nat → Nat) : ∀ n, dot D pnil v n = 0
  | 0 => rfl
  | n + 1 => by
    show D.ad (dot D pnil v n) (D.mul 0 (v n)) = 0
    rw [dot_nil F v n, zmul F, ad_zero F (zero_lt' F)]
theorem dot_add {D : FD} (F : Fld D) {a b : Nat → Nat} (ha : El D a) (hb : El D b) (v : Nat → Nat) : ∀ n, dot D (padd D a b) v n = D.ad (dot D a v n) (dot D b v n)
  | 0 => (ad_zero F (zero_lt' F)).symm
  | n + 1 => by
    show D.ad (dot D (padd D a b) v n) (D.mul (D.ad (a n) (b n)) (v n)) = D.ad (D.ad (dot D a v n) (D.mul (a n) (v n))) (D.ad (dot D b v n) (D.mul (b n) (v n)))
    rw [dot_add F ha hb v n, ad_mul F (ha n) (hb n), ad4 F (dot_lt F _ _ _) (dot_lt F _ _ _) (F.mul_lt _ _) (F.mul_lt _ _)]
theorem dot_scale {D : FD} (F : Fld D) (s : Nat) (a v : Nat → Nat) : ∀ n, dot D (pscale D s a) v n = D.mul s (dot D a v n)
  | 0 => (mul0 F s).symm
  | n + 1 => by
    show D.ad (dot D (pscale D s a) v n) (D.mul (D.mul s (a n)) (v n)) = D.mul s (D.ad (dot D a v n) (D.mul (a n) (v n)))
    rw [dot_scale F s a v n, mul_ad F (dot_lt F _ _ _) (F.mul_lt _ _), F.mul_assoc]
/-- What makes rows 0 makes all 0 that they span. -/
theorem dot_spn {D : FD} (F : Fld D) {P : (Nat → Nat) → Prop} {u x : Nat → Nat} {n : Nat} (h : Spn D P u) (hP : ∀ v, P v → dot D v x n = 0) : dot D u x n = 0 := by
  obtain ⟨l, hl, rfl⟩ := h
  induction l with
  | nil => exact dot_nil F x n
  | cons y l ih =>
    show dot D (padd D (pscale D y.1 y.2) (lsum D l)) x n = 0
    rw [dot_add F (el_scale F _ _) (lsum_el F l), dot_scale F, hP _ (hl y (List.mem_cons_self ..)), mul0 F, ih (fun z hz => hl z (List.mem_cons_of_mem _ hz)), ad_zero F (zero_lt' F)]
theorem dot_congr {D : FD} {a a' b b' : Nat → Nat} : ∀ n, (∀ j, j < n → a j = a' j ∧ b j = b' j) → dot D a b n = dot D a' b' n
  | 0, _ => rfl
  | n + 1, h => by
    show D.ad (dot D a b n) (D.mul (a n) (b n)) = D.ad (dot D a' b' n) (D.mul (a' n) (b' n))
    rw [dot_congr n (fun j hj => h j (by omega)), (h n (by omega)).1, (h n (by omega)).2]
/-- A number put where 0 was. -/
theorem dot_put {D : FD} (F : Fld D) {a b : Nat → Nat} {j v : Nat} (hb : b j = 0) : ∀ n, j < n → dot D a (fun t => if t = j then v else b t) n = D.ad (dot D a b n) (D.mul (a j) v)
  | 0, h => absurd h (by omega)
  | n + 1, h => by
    show D.ad (dot D a (fun t => if t = j then v else b t) n) (D.mul (a n) (if n = j then v else b n)) = D.ad (D.ad (dot D a b n) (D.mul (a n) (b n))) (D.mul (a j) v)
    by_cases e : n = j
    · subst e
      rw [if_pos rfl, hb, mul0 F, ad_zero F (dot_lt F _ _ _), dot_congr (a' := a) (b' := b) n (fun t ht => ⟨rfl, if_neg (by omega)⟩)]
    · rw [if_neg e, dot_put F hb n (by omega), ad_assoc F (dot_lt F _ _ _) (F.mul_lt _ _) (F.mul_lt _ _), ad_comm F (D.mul (a j) v), ← ad_assoc F (dot_lt F _ _ _) (F.mul_lt _ _) (F.mul_lt _ _)]
theorem dot_unit {D : FD} (F : Fld D) {a : Nat → Nat} {c n : Nat} (ha : a c < D.q) (hc : c < n) : dot D a (fun t => if t = c then 1 else 0) n = a c := by
  have h := dot_put F (a := a) (b := pnil) (j := c) (v := 1) rfl n hc
  rw [mul1 F ha, dot_comm F a pnil, dot_nil F, zero_ad F ha] at h
  exact h
end Go.Proofs.Ytjkncdmbcckcdab

/- WordMay and Dot of the reference. -/
namespace Go.Proofs.Ytjkncdmbcckcdab
open Go.RowKit Go.Sort

end Go.Proofs.Ytjkncdmbcckcdab

/- Syndrome and Has. -/
namespace Go.Proofs.Ytjkncdmbcckcdab
open Go.RowKit Go.Sort

end Go.Proofs.Ytjkncdmbcckcdab

/- Has. -/
namespace Go.Proofs.Ytjkncdmbcckcdab
open Go.RowKit Go.Sort

theorem slz_of {ao : Option Addr} {n : Nat} {a : Nat → Nat} {w : World} (h : Sl ao n a w) : SlZ ao n (fun i => ((a i : Nat) : Int)) w := h
end Go.Proofs.Ytjkncdmbcckcdab
