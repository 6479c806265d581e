/- Sums of codes: the program's sum. -/
import Derived.Test.YtbpeahhhkcljeaaZI7
import Derived.Test.YtbpeahhhkcljeaaZW11
namespace Go.Proofs.Ytbpeahhhkcljeaa
open Go.RowKit Go.Sort

theorem plss_is {D : FD} (F : Fld D) {r o : Nat → Nat} {c : Nat} (hc : c < D.q) : padd D r (pscale D (D.ng c) o) = plss D r o c := by
  funext j
  show D.ad (r j) (D.mul (D.ng c) (o j)) = D.sb (r j) (D.mul c (o j))
  rw [FD.sb, F.mul_comm (D.ng c) (o j), mul_ng F hc, F.mul_comm (o j) c]

theorem Mx.ownV {B G m k n : Nat} {R : Nat → Nat → Nat} {h : Nat → Nat} {w : World} (H : Mx B G m k n R h w) (hm : m ≤ 1000000) : OwnV B (.slice (some ⟨G, 0, none⟩) k m) (vl k fun a => .slice (some ⟨h a, 0, none⟩) n n) w := by
  obtain ⟨f, ⟨cs, hh, hsz, hcs⟩, hf'⟩ := H.outer
  have hle := H.le
  refine ⟨by rw [vl_len]; omega, Or.inr ⟨G, m, cs, by rw [vl_len], H.geG, hh, by rw [vl_len]; exact hle, by unfold maxLen; omega, by omega, ?_⟩⟩
  rw [vl_len]
  apply List.ext_getElem?
  intro i
  rw [List.getElem?_take]
  by_cases hi : i < k
  · rw [if_pos (by omega), vl_get _ _ i hi, Array.getElem?_toList, hcs i (by omega), hf' i hi]
  · rw [if_neg (by omega), List.getElem?_eq_none (by rw [vl_len]; omega)]
/-- Rows, and others behind them, in one list: a code's rows. -/
theorem sum_cdz {D : FD} {B B3 G G3 m m3 k k3 n base : Nat} {R R3 : Nat → Nat → Nat} {h h3 : Nat → Nat} {w w' : World} {v' : Value} (H : Mx B G m k n R h w) (H3 : Mx B3 G3 m3 k3 n R3 h3 w) (hG : G < B3) (he : ∀ i, i < k → El D (R i)) (he3 : ∀ i, i < k3 → El D (R3 i)) (hn1 : 1 ≤ n) (hn : n ≤ 64) (hk : k + k3 ≤ 64)
    (ho : OwnV base v' (vl k (fun a => .slice (some ⟨h a, 0, none⟩) n n) ++ vl k3 (fun a => .slice (some ⟨h3 a, 0, none⟩) n n)) w') (hg : w.grownBy w' (some G)) :
    ∃ ao ca A, v' = .slice ao (k + k3) ca ∧ CdZ D ao (k + k3) n A (fun _ => n) (fun _ => n) (fun i j => ((apr k R R3 i j : Nat) : Int)) w' := by
  obtain ⟨ao, ca, e, _, _, _, hc⟩ := ho.open
  rw [List.length_append, vl_len, vl_len] at e
  have hel : ∀ i, i < k + k3 → El D (apr k R R3 i) := fun i hi => by
    unfold apr
    split
    · next h1 => exact he i h1
    · exact he3 (i - k) (by omega)
  refine ⟨ao, ca, fun a => if a < k then some ⟨h a, 0, none⟩ else some ⟨h3 (a - k), 0, none⟩, e, ⟨⟨fun i hi => ?_, fun i hi => ?_, fun _ _ => Nat.le_refl _, fun _ _ => by omega, fun i _ e => ?_, fun _ _ => by omega⟩, mchk_of hk (fun i hi => ?_), fun _ => rfl, hn1, hn⟩⟩
  · by_cases h1 : i < k
    · obtain ⟨g, e1, hc1, _⟩ := hc i (.slice (some ⟨h i, 0, none⟩) n n) (by rw [List.getElem?_append_left (by rw [vl_len]; exact h1), vl_get _ _ i h1])
      exact ⟨g, 0, e1, by rw [Nat.zero_add, hc1, if_pos h1]⟩
    · obtain ⟨g, e1, hc1, _⟩ := hc i (.slice (some ⟨h3 (i - k), 0, none⟩) n n) (by rw [List.getElem?_append_right (by rw [vl_len]; omega), vl_len, vl_get _ _ (i - k) (by omega)])
      exact ⟨g, 0, e1, by rw [Nat.zero_add, hc1, if_neg h1]⟩
  · by_cases h1 : i < k
    · have hr := (H.row i h1).other (hg.block (h i) (H.lt i h1) (fun e => H.ne i h1 (Option.some.inj e)))
      show SlZ (if i < k then _ else _) n (fun j => ((apr k R R3 i j : Nat) : Int)) w'
      rw [if_pos h1]
      unfold apr
      simp only [if_pos h1]
      exact hr.sl (Nat.le_refl _)
    · have h2 : i - k < k3 := by omega
      have hr := (H3.row (i - k) h2).other (hg.block (h3 (i - k)) (H3.lt (i - k) h2) (fun e => by have := H3.ge (i - k) h2; have := Option.some.inj e; omega))
      show SlZ (if i < k then _ else _) n (fun j => ((apr k R R3 i j : Nat) : Int)) w'
      rw [if_neg h1]
      unfold apr
      simp only [if_neg h1]
      exact hr.sl (Nat.le_refl _)
  · by_cases h1 : i < k
    · simp only [if_pos h1] at e; cases e
    · simp only [if_neg h1] at e; cases e
  · unfold FD.mrow
    rw [if_neg (by omega), if_neg (by omega), if_pos]
    exact allHas_iff.2 (fun j _ => has_of_lt (hel i hi j))
/-- What a step of the sum reads. -/
def smF (G2 i bx ox pj G j hj n cc y : Nat) (wx : World) : Prop := wx.cell? ⟨G2, i, none⟩ = some (.slice (some ⟨bx, ox, none⟩) n cc) ∧ wx.frozen? ⟨G2, i, none⟩ = false ∧ wx.cell? ⟨bx, ox + pj, none⟩ = some (.int .i64 (y : Nat)) ∧ wx.cell? ⟨G, j, none⟩ = some (.slice (some ⟨hj, 0, none⟩) n n)
theorem smF.below {G2 i bx ox pj G j hj n cc y : Nat} {w w' : World} (h : smF G2 i bx ox pj G j hj n cc y w) (hb : Below w.heap.size w w') : smF G2 i bx ox pj G j hj n cc y w' := by
  obtain ⟨h1, h2, h3, h4⟩ := h
  have e1 := hb.block _ (cell_lt h1)
  have f : w'.frozen? ⟨G2, i, none⟩ = w.frozen? ⟨G2, i, none⟩ := by simp [World.frozen?, e1]
  exact ⟨((bcell hb).1 _ _ (cell_lt h1)).trans h1, f.trans h2, ((bcell hb).1 _ _ (cell_lt h3)).trans h3, ((bcell hb).1 _ _ (cell_lt h4)).trans h4⟩

set_option maxHeartbeats 16000000 in
set_option maxRecDepth 100000 in
theorem csum_any {D : FD} (hD : D ∈ fieldsL) {ao bo : Option Addr} {m m' n ca cb : Nat} {A B : Nat → Option Addr} {N C N' C' : Nat → Nat} {Z Z' : Nat → Nat → Int} {w : World} (ha : CdZ D ao m n A N C Z w) (hb : CdZ D bo m' n B N' C' Z' w) :
    Calls Try.prog 80 #[.agg #[.int .i64 D.q, .int .i64 (n : Nat), .slice ao m ca], .agg #[.int .i64 D.q, .int .i64 (n : Nat), .slice bo m' cb]] w fun e w' => ∃ k R ro rc, e = .returned (.agg #[.int .i64 D.q, .int .i64 (n : Nat), .slice ro k rc]) ∧ MV w.heap.size (.slice ro k rc) k n R w' ∧ Red D n (m + m') (apr m (mzc N Z) (mzc N' Z')) k R ∧ Below w.heap.size w w' := by
  have hm := (ha.rows (fld hD)).1
  have hm' := (hb.rows (fld hD)).1
  have hn1 := ha.n1
  have hn := ha.n64
  obtain ⟨w0, hw0⟩ : ∃ w0, w0 = ((w.alloc (.cells #[.int .i64 D.q, .int .i64 (n : Nat), .slice ao m ca] 43)).alloc (.cells #[.int .i64 D.q, .int .i64 (n : Nat), .slice bo m' cb] 43)).alloc (.cells #[.int .i64 0, .int .i64 0, .slice none 0 0] 43) := ⟨_, rfl⟩
  have HW : Hid (Below w.heap.size w w0 ∧ CB w.heap.size D.q n (.slice ao m ca) w0 ∧ CB (w.heap.size + 1) D.q n (.slice bo m' cb) w0 ∧ RB (w.heap.size + 1 + 1) w0 ∧ w0.heap.size = w.heap.size + 3) := by
    have hs1 : (w.alloc (.cells #[.int .i64 D.q, .int .i64 (n : Nat), .slice ao m ca] 43)).heap.size = w.heap.size + 1 := by simp
    have hs2 : ((w.alloc (.cells #[.int .i64 D.q, .int .i64 (n : Nat), .slice ao m ca] 43)).alloc (.cells #[.int .i64 D.q, .int .i64 (n : Nat), .slice bo m' cb] 43)).heap.size = w.heap.size + 1 + 1 := by simp
    have h1 := CB.new D.q n (.slice ao m ca) w
    have h2 := CB.new D.q n (.slice bo m' cb) (w.alloc (.cells #[.int .i64 D.q, .int .i64 (n : Nat), .slice ao m ca] 43))
    have h3 := RB.new (.int .i64 0) (.int .i64 0) (.slice none 0 0) ((w.alloc (.cells #[.int .i64 D.q, .int .i64 (n : Nat), .slice ao m ca] 43)).alloc (.cells #[.int .i64 D.q, .int .i64 (n : Nat), .slice bo m' cb] 43))
    have b1 : Below (w.alloc (.cells #[.int .i64 D.q, .int .i64 (n : Nat), .slice ao m ca] 43)).heap.size (w.alloc (.cells #[.int .i64 D.q, .int .i64 (n : Nat), .slice ao m ca] 43)) ((w.alloc (.cells #[.int .i64 D.q, .int .i64 (n : Nat), .slice ao m ca] 43)).alloc (.cells #[.int .i64 D.q, .int .i64 (n : Nat), .slice bo m' cb] 43)) := (Below.refl _ _).alloc (Nat.le_refl _) _
    have b2 : Below ((w.alloc (.cells #[.int .i64 D.q, .int .i64 (n : Nat), .slice ao m ca] 43)).alloc (.cells #[.int .i64 D.q, .int .i64 (n : Nat), .slice bo m' cb] 43)).heap.size ((w.alloc (.cells #[.int .i64 D.q, .int .i64 (n : Nat), .slice ao m ca] 43)).alloc (.cells #[.int .i64 D.q, .int .i64 (n : Nat), .slice bo m' cb] 43)) (((w.alloc (.cells #[.int .i64 D.q, .int .i64 (n : Nat), .slice ao m ca] 43)).alloc (.cells #[.int .i64 D.q, .int .i64 (n : Nat), .slice bo m' cb] 43)).alloc (.cells #[.int .i64 0, .int .i64 0, .slice none 0 0] 43)) := (Below.refl _ _).alloc (Nat.le_refl _) _
    have h1' := (h1.keep b1).keep b2
    have h2' := h2.keep b2
    rw [hs1] at h2'
    rw [hs2] at h3
    rw [hw0]
    exact ⟨bel_up' (bel_up' ((Below.refl _ _).alloc (Nat.le_refl _) _) b1) b2, h1', h2', h3, by simp⟩
  have HA : Hid (D ∈ fieldsL ∧ CdZ D ao m n A N C Z w ∧ CdZ D bo m' n B N' C' Z' w) := ⟨hD, ha, hb⟩
  clear hD ha hb
  go_enter Try.func80, Try.ntmps80
  go_wp2_with fail
  rw [← hw0]
  clear hw0
  refine (new_any HA.out.1 w0).mono ?_
  rintro e w1 ⟨F, T, g, rfl, hat, _, _, hb1⟩
  have H1 : Hid (FAt F T D g w1 ∧ Below w.heap.size w w1 ∧ CB w.heap.size D.q n (.slice ao m ca) w1 ∧ CB (w.heap.size + 1) D.q n (.slice bo m' cb) w1 ∧ RB (w.heap.size + 1 + 1) w1 ∧ w.heap.size + 3 ≤ w1.heap.size) := ⟨hat, bel_up' HW.out.1 hb1, HW.out.2.1.keep hb1, HW.out.2.2.1.keep hb1, HW.out.2.2.2.1.keep hb1, by have := hb1.size; have := HW.out.2.2.2.2; omega⟩
  clear hat hb1
  have hcb := H1.out.2.2.1
  obtain ⟨c0, c1, c2⟩ := hcb
  go_wp2_with fail
  refine (mreduce_any HA.out.1 (HA.out.2.1.mat.below H1.out.2.1) (by omega)).mono ?_
  rintro e w2 ⟨hb2, hr⟩
  rcases hr with ⟨h0, _⟩ | ⟨_, G, k, R, p, h, pv, W, rfl, hG, hW, hkm, hmx, hpv, hre, hsp⟩
  · exact absurd HA.out.2.1.chk h0
  have HB2 : Hid (Below w1.heap.size w1 w2) := hb2
  obtain ⟨po, pc, hpf, _⟩ := hpv.argL
  subst hpf
  have H2 : Hid (FAt F T D g w2 ∧ Below w.heap.size w w2 ∧ CB w.heap.size D.q n (.slice ao m ca) w2 ∧ CB (w.heap.size + 1) D.q n (.slice bo m' cb) w2 ∧ RB (w.heap.size + 1 + 1) w2 ∧ w.heap.size + 3 ≤ w1.heap.size ∧ Mx w1.heap.size G m k n R h w2 ∧ OwnI w1.heap.size (.slice po k pc) (zl k fun j => ((p j : Nat) : Int)) w2 ∧ RRE D n k R p ∧ (∀ v, Spn D (RowsOf k R) v ↔ Spn D (RowsOf m (mzc N Z)) v) ∧ w1.heap.size ≤ w2.heap.size) := by
    refine ⟨H1.out.1.below hb2 H1.out.1.ltF H1.out.1.ltT, bel_up' H1.out.2.1 hb2, H1.out.2.2.1.keep hb2, H1.out.2.2.2.1.keep hb2, H1.out.2.2.2.2.1.keep hb2, H1.out.2.2.2.2.2, ?_, hpv, ?_, hsp, hb2.size⟩
    · rcases Nat.eq_zero_or_pos m with e | e
      · have : k = 0 := by omega
        subst this
        exact (hmx.less (Nat.zero_le _)).any
      · have hWn : W = n := by rw [hW e, HA.out.2.1.wd e]
        rw [← hWn]; exact hmx.less hkm
    · rcases Nat.eq_zero_or_pos m with e | e
      · have : k = 0 := by omega
        subst this
        exact rre_none _ _ _ _
      · have hWn : W = n := by rw [hW e, HA.out.2.1.wd e]
        rw [← hWn]; exact hre
  clear hb2 hG hW hmx hpv hre hsp c0 c1 c2
  have HW1 : Hid (Below w1.heap.size w1 w2) := HB2.out
  have hcb := H2.out.2.2.2.1
  obtain ⟨c0, c1, c2⟩ := hcb
  have hcb1 := H2.out.2.2.1
  obtain ⟨a0, a1, a2⟩ := hcb1
  go_wp2_with (at_make; refine make_sls rfl _ _ rfl _ m' rfl rfl rfl (by omega) ?_; intro w3 hrow3 hgrow3; have hb3 : Below w2.heap.size w2 w3 := below_grown hgrow3 (Nat.le_refl _) (fun k hk => by simp at hk); have hcb3 := H2.out.2.2.2.1.keep hb3; obtain ⟨c0', c1', c2'⟩ := hcb3)
  have H3 : Hid (RS D w2.heap.size m' n 0 (fun _ => pnil) (fun _ => none) (fun _ => 0) w3 ∧ Below w2.heap.size w2 w3) := ⟨⟨⟨_, hrow3, fun a ha => absurd ha (by omega)⟩, fun a ha => absurd ha (by omega), fun a ha => absurd ha (by omega), fun a ha => absurd ha (by omega), fun a ha => absurd ha (by omega), fun a ha => absurd ha (by omega), fun a ha => absurd ha (by omega), fun a ha => absurd ha (by omega)⟩, hb3⟩
  clear hrow3 hgrow3 hb3 c0 c1 c2 c0' c1' c2' a0 a1 a2
  obtain ⟨G2, hG2⟩ : ∃ G2, G2 = w2.heap.size := ⟨_, rfl⟩
  have H3' : Hid (RS D G2 m' n 0 (fun _ => pnil) (fun _ => none) (fun _ => 0) w3 ∧ Below w2.heap.size w2 w3 ∧ w2.heap.size = G2) := ⟨by rw [hG2]; exact H3.out.1, H3.out.2, hG2.symm⟩
  rw [← hG2]
  clear hG2 H3
  go_loopw [40] (fun vi wr => ∃ (i : Nat) (V : Nat → Nat → Nat) (X : Nat → Option Addr) (Cc : Nat → Nat), i ≤ m' ∧ vi = .int .i64 i ∧ Hid (RS D G2 m' n i V X Cc wr ∧ Below w2.heap.size w2 wr ∧ ∀ a, a < i → Lft D n k R p (mzc N' Z' a) k (V a))) (fun vi _ => m' - (intOf vi).toNat)
  case atStart => exact ⟨0, _, _, _, by omega, rfl, H3'.out.1, H3'.out.2.1, fun a ha => absurd ha (by omega)⟩
  case round =>
    obtain ⟨i, V, X, Cc, hi, rfl, HG⟩ := hrel
    rename World => wA
    by_cases hlt : i < m'
    · have hib : (i : Int) < (m' : Int) := by omega
      have hbA := bel_up' H2.out.2.1 HG.out.2.1
      obtain ⟨bb, ob, cx, hbo, hcr, hsl, hltB, hnil, hle, hcap⟩ := (HA.out.2.2.below hbA).row (fld HA.out.1) i hlt
      subst hbo
      obtain ⟨hc2, hf2⟩ := HG.out.1.free i hlt
      obtain ⟨u2, hc2⟩ := hc2
      obtain ⟨X0, hX0⟩ : ∃ X0, X0 = B i := ⟨_, rfl⟩
      rw [← hX0] at hcr hsl hltB hnil
      have HX : Hid (Sl X0 n (mzc N' Z' i) wA ∧ LtB X0 wA.heap.size ∧ (X0 = none → cx = 0) ∧ n ≤ cx ∧ cx ≤ 9223372036854775807 ∧ Lft D n k R p (mzc N' Z' i) 0 (mzc N' Z' i)) := ⟨hsl, hltB, hnil, hle, hcap, lft_first (fld HA.out.1) ((HA.out.2.2.rows (fld HA.out.1)).2.1 i hlt) ((HA.out.2.2.rows (fld HA.out.1)).2.2.1 i hlt)⟩
      clear hbA hsl hltB hnil hle hcap
      have HXn : Hid (∀ y, X0 = some y → y.block ≠ G2) := by
        obtain ⟨_, _, _, _, _, _, hl0, _⟩ := HA.out.2.2.row (fld HA.out.1) i hlt
        intro y hy
        have h1 := hl0 y (by rw [← hX0]; exact hy)
        have := H3'.out.2.2
        have := H2.out.2.2.2.2.2.1
        have := H2.out.2.2.2.2.2.2.2.2.2.2
        omega
      clear hX0
      go_wp2
      obtain ⟨wB, hwB⟩ : ∃ wB, wB = wA.setCell ⟨G2, i, none⟩ (.slice X0 n cx) := ⟨_, rfl⟩
      have HB : Hid (RS D G2 m' n (i + 1) (fun a => if a = i then mzc N' Z' i else V a) (fun a => if a = i then X0 else X a) (fun a => if a = i then cx else Cc a) wB ∧ Below w2.heap.size w2 wB) := by
        rw [hwB]
        exact ⟨HG.out.1.put (fun a h1 h2 => by omega) HX.out.1 HX.out.2.1 HX.out.2.2.1 HX.out.2.2.2.1 HX.out.2.2.2.2.1 HXn.out HX.out.2.2.2.2.2.el, HG.out.2.1.setCell (by rw [H3'.out.2.2]; exact Nat.le_refl _) _⟩
      rw [← hwB]
      clear hwB hc2 hf2 hcr
      go_loopw [51] (fun vj wr => ∃ (j cc : Nat) (x : Option Addr) (r : Nat → Nat), j ≤ k ∧ vj = .int .i64 j ∧ Hid (RS D G2 m' n (i + 1) (fun a => if a = i then r else V a) (fun a => if a = i then x else X a) (fun a => if a = i then cc else Cc a) wr ∧ Below w2.heap.size w2 wr ∧ Lft D n k R p (mzc N' Z' i) j r)) (fun vj _ => k - (intOf vj).toNat)
      case atStart => exact ⟨0, cx, X0, _, by omega, rfl, HB.out.1, HB.out.2, HX.out.2.2.2.2.2⟩
      case round =>
        obtain ⟨j, cc, x, r, hj, rfl, HI⟩ := hrel
        rename World => wC
        by_cases hjk : j < k
        · have hjb : (j : Int) < (k : Int) := by omega
          obtain ⟨hcG, hfG⟩ := HI.out.1.cell i (by omega) (by omega)
          simp only [if_true] at hcG
          have hsx : Sl x n r wC := by have := HI.out.1.sl i (by omega); simp only [if_true] at this; exact this
          have hlx : LtB x wC.heap.size := by have := HI.out.1.lt i (by omega); simp only [if_true] at this; exact this
          have hnx : x = none → cc = 0 := by have := HI.out.1.nil i (by omega); simp only [if_true] at this; exact this
          obtain ⟨pj, hpj⟩ : ∃ pj, pj = p j := ⟨_, rfl⟩
          have hpn : pj < n := by rw [hpj]; exact H2.out.2.2.2.2.2.2.2.2.1.lt j hjk
          obtain ⟨bx, ox, hx, hcx⟩ := hsx pj hpn
          subst hx
          obtain ⟨y, hy⟩ : ∃ y, y = r pj := ⟨_, rfl⟩
          rw [← hy] at hcx
          obtain ⟨_, _, epo, hpa⟩ := H2.out.2.2.2.2.2.2.2.1.argL
          cases epo
          obtain ⟨bp, op, hpo, hcp⟩ := (slz_below hpa.sl HI.out.2.1) j hjk
          subst hpo
          replace hcp : wC.cell? ⟨bp, op + j, none⟩ = some (.int .i64 (p j : Nat)) := hcp
          rw [← hpj] at hcp
          have hcR := (H2.out.2.2.2.2.2.2.1.below HI.out.2.1).cell j hjk
          obtain ⟨z, hz⟩ : ∃ z, z = D.ng y := ⟨_, rfl⟩
          have hyq : y < D.q := by rw [hy]; exact HI.out.2.2.el pj
          have hatC := H2.out.1.below HI.out.2.1 H2.out.1.ltF H2.out.1.ltT
          have HC1 : Hid (∀ wx, Below wC.heap.size wC wx → Calls Try.prog 106 #[.pointer (some ⟨F, 0, none⟩), .int .i64 (y : Nat)] wx fun e w' => e = .returned (.int .i64 (z : Nat)) ∧ ∃ k, w' = wx.drewN k) := fun wx hx => by
            rw [hz]
            exact neg_nat HA.out.1 (hatC.below hx hatC.ltF hatC.ltT) hyq
          have HV : Hid (RS D G2 m' n (i + 1) (fun a => if a = i then r else V a) (fun a => if a = i then some ⟨bx, ox, none⟩ else X a) (fun a => if a = i then cc else Cc a) wC ∧ Below w2.heap.size w2 wC ∧ Lft D n k R p (mzc N' Z' i) j r ∧ Sl (some ⟨bx, ox, none⟩) n r wC ∧ LtB (some ⟨bx, ox, none⟩) wC.heap.size ∧ (some (⟨bx, ox, none⟩ : Addr) = none → cc = 0) ∧ FAt F T D g wC ∧ z < D.q ∧ Row (h j) n (R j) wC ∧ plss D r (R j) (r (p j)) = padd D r (pscale D z (R j))) := by
            refine ⟨HI.out.1, HI.out.2.1, HI.out.2.2, hsx, hlx, hnx, hatC, by rw [hz]; exact ng_lt (fld HA.out.1) hyq, (H2.out.2.2.2.2.2.2.1.below HI.out.2.1).row j hjk, ?_⟩
            rw [hz, plss_is (fld HA.out.1) hyq, hy, hpj]
          have hpb : (pj : Int) < (n : Int) := by omega
          have HK5 : Hid (∀ wx, Below wC.heap.size wC wx → smF G2 i bx ox pj G j (h j) n cc y wx) := fun wx hx => smF.below ⟨hcG, hfG, hcx, hcR⟩ hx
          have HP : Hid (∀ wD, Below wC.heap.size wC wD → Calls Try.prog 86 #[.pointer (some ⟨F, 0, none⟩), .slice (some ⟨bx, ox, none⟩) n cc, .int .i64 (z : Nat), .slice (some ⟨h j, 0, none⟩) n n] wD fun e w' => ∃ gr c, e = .returned (.slice (some ⟨gr, 0, none⟩) n c) ∧ wD.heap.size ≤ gr ∧ n ≤ c ∧ c ≤ 9223372036854775807 ∧ Row gr n (plss D r (R j) (r (p j))) w' ∧ Below wD.heap.size wD w') := fun wD hbD => by
            have hv := HV.out
            rw [hv.2.2.2.2.2.2.2.2.2]
            have hrow := hv.2.2.2.2.2.2.2.2.1.below hbD hv.2.2.2.2.2.2.2.2.1.lt
            exact plus_any HA.out.1 (hv.2.2.2.2.2.2.1.below hbD hv.2.2.2.2.2.2.1.ltF hv.2.2.2.2.2.2.1.ltT) hn1 (by omega) hv.2.2.2.2.2.2.2.1 hv.2.2.1.el (H2.out.2.2.2.2.2.2.2.2.1.el j hjk) (hv.2.2.2.1.below hbD hv.2.2.2.2.1) (hv.2.2.2.2.1.mono hbD.size) hv.2.2.2.2.2.1 (hrow.sl (Nat.le_refl _)) (fun y hy => by cases hy; exact hrow.lt)
          have hS5 := HK5.out _ (Below.refl wC.heap.size wC).drew
          obtain ⟨hjv, hhj⟩ : ∃ hjv, hjv = h j := ⟨_, rfl⟩
          rw [← hhj] at hcR HP HK5 hS5
          have HHj : Hid (hjv = h j) := hhj
          clear hsx hlx hnx hpj hy hpa hz hyq hatC HI hhj
          go_wp2
          refine wp_region_noPanic ?_
          refine wp_region_X (S := smF G2 i bx ox pj G j hjv n cc y) 22 (by kernel_rfl) ?_
          refine wpAnyX_take (i := 0) (v := ?_) (by rw [List.getElem?_toArray]; rfl) (by kernel_rfl) (by kernel_rfl) (by kernel_rfl) (by kernel_rfl) (fun _ _ _ h => h) hS5 (Or.inl ⟨by rfl, ?_⟩) ?_
          rotate_left
          · intro wz hSz; obtain ⟨z0, z1, z2, z3⟩ := hSz; go_simp; first | done | with_reducible rfl
          try simp only [Act.put, List.setIfInBounds_toArray, List.set_cons_zero, List.set_cons_succ]
          refine wpAnyX_take (i := 1) (v := ?_) (by rw [List.getElem?_toArray]; rfl) (by kernel_rfl) (by kernel_rfl) (by kernel_rfl) (by kernel_rfl) (fun _ _ _ h => h) hS5 (Or.inl ⟨by rfl, ?_⟩) ?_
          rotate_left
          · intro wz hSz; obtain ⟨z0, z1, z2, z3⟩ := hSz; go_simp; first | done | with_reducible rfl
          try simp only [Act.put, List.setIfInBounds_toArray, List.set_cons_zero, List.set_cons_succ]
          refine wpAnyX_take (i := 2) (v := ?_) (by rw [List.getElem?_toArray]; rfl) (by kernel_rfl) (by kernel_rfl) (by kernel_rfl) (by kernel_rfl) (fun _ _ _ h => h) hS5 (Or.inl ⟨by rfl, ?_⟩) ?_
          rotate_left
          · intro wz hSz; obtain ⟨z0, z1, z2, z3⟩ := hSz; go_simp; first | done | with_reducible rfl
          try simp only [Act.put, List.setIfInBounds_toArray, List.set_cons_zero, List.set_cons_succ]
          refine wpAnyX_take (i := 3) (v := ?_) (by rw [List.getElem?_toArray]; rfl) (by kernel_rfl) (by kernel_rfl) (by kernel_rfl) (by kernel_rfl) (fun _ _ _ h => h) hS5 (Or.inl ⟨by rfl, ?_⟩) ?_
          rotate_left
          · intro wz hSz; obtain ⟨z0, z1, z2, z3⟩ := hSz; go_simp; first | done | with_reducible rfl
          try simp only [Act.put, List.setIfInBounds_toArray, List.set_cons_zero, List.set_cons_succ]
          refine wpAnyX_take (i := 4) (v := ?_) (by rw [List.getElem?_toArray]; rfl) (by kernel_rfl) (by kernel_rfl) (by kernel_rfl) (by kernel_rfl) (fun _ _ _ h => h) hS5 (Or.inl ⟨by rfl, ?_⟩) ?_
          rotate_left
          · intro wz hSz; obtain ⟨z0, z1, z2, z3⟩ := hSz; go_simp; first | done | with_reducible rfl
          try simp only [Act.put, List.setIfInBounds_toArray, List.set_cons_zero, List.set_cons_succ]
          refine wpAnyX_take (i := 5) (v := ?_) (by rw [List.getElem?_toArray]; rfl) (by kernel_rfl) (by kernel_rfl) (by kernel_rfl) (by kernel_rfl) (fun _ _ _ h => h) hS5 (Or.inl ⟨by rfl, ?_⟩) ?_
          rotate_left
          · intro wz hSz; obtain ⟨z0, z1, z2, z3⟩ := hSz; go_simp; first | done | with_reducible rfl
          try simp only [Act.put, List.setIfInBounds_toArray, List.set_cons_zero, List.set_cons_succ]
          refine wpAnyX_take (i := 6) (v := ?_) (by rw [List.getElem?_toArray]; rfl) (by kernel_rfl) (by kernel_rfl) (by kernel_rfl) (by kernel_rfl) (fun _ _ _ h => h) hS5 (Or.inl ⟨by rfl, ?_⟩) ?_
          rotate_left
          · intro wz hSz; obtain ⟨z0, z1, z2, z3⟩ := hSz; go_simp; first | done | with_reducible rfl
          try simp only [Act.put, List.setIfInBounds_toArray, List.set_cons_zero, List.set_cons_succ]
          refine wpAnyX_take (i := 7) (v := ?_) (by rw [List.getElem?_toArray]; rfl) (by kernel_rfl) (by kernel_rfl) (by kernel_rfl) (by kernel_rfl) (fun _ _ _ h => h) hS5 (Or.inl ⟨by rfl, ?_⟩) ?_
          rotate_left
          · intro wz hSz; obtain ⟨z0, z1, z2, z3⟩ := hSz; go_simp; first | done | with_reducible rfl
          try simp only [Act.put, List.setIfInBounds_toArray, List.set_cons_zero, List.set_cons_succ]
          refine wpAnyX_take (i := 8) (v := ?_) (by rw [List.getElem?_toArray]; rfl) (by kernel_rfl) (by kernel_rfl) (by kernel_rfl) (by kernel_rfl) (fun _ _ _ h => h) hS5 (Or.inl ⟨by rfl, ?_⟩) ?_
          rotate_left
          · intro wz hSz; obtain ⟨z0, z1, z2, z3⟩ := hSz; go_simp; first | done | with_reducible rfl
          try simp only [Act.put, List.setIfInBounds_toArray, List.set_cons_zero, List.set_cons_succ]
          refine wpAnyX_take (i := 9) (v := ?_) (by rw [List.getElem?_toArray]; rfl) (by kernel_rfl) (by kernel_rfl) (by kernel_rfl) (by kernel_rfl) (fun _ _ _ h => h) hS5 (Or.inl ⟨by rfl, ?_⟩) ?_
          rotate_left
          · intro wz hSz; obtain ⟨z0, z1, z2, z3⟩ := hSz; go_simp; first | done | with_reducible rfl
          try simp only [Act.put, List.setIfInBounds_toArray, List.set_cons_zero, List.set_cons_succ]
          refine wpAnyX_take (i := 10) (v := ?_) (by rw [List.getElem?_toArray]; rfl) (by kernel_rfl) (by kernel_rfl) (by kernel_rfl) (by kernel_rfl) (fun _ _ _ h => h) hS5 (Or.inl ⟨by rfl, ?_⟩) ?_
          rotate_left
          · intro wz hSz; obtain ⟨z0, z1, z2, z3⟩ := hSz; go_simp; first | done | with_reducible rfl
          try simp only [Act.put, List.setIfInBounds_toArray, List.set_cons_zero, List.set_cons_succ]
          refine wpAnyX_take (i := 11) (v := ?_) (by rw [List.getElem?_toArray]; rfl) (by kernel_rfl) (by kernel_rfl) (by kernel_rfl) (by kernel_rfl) (fun _ _ _ h => h) hS5 (Or.inl ⟨by rfl, ?_⟩) ?_
          rotate_left
          · intro wz hSz; obtain ⟨z0, z1, z2, z3⟩ := hSz; go_simp; first | done | with_reducible rfl
          try simp only [Act.put, List.setIfInBounds_toArray, List.set_cons_zero, List.set_cons_succ]
          refine wpAnyX_take (i := 12) (v := ?_) (by rw [List.getElem?_toArray]; rfl) (by kernel_rfl) (by kernel_rfl) (by kernel_rfl) (by kernel_rfl) (fun _ _ _ h => h) hS5 (Or.inl ⟨by rfl, ?_⟩) ?_
          rotate_left
          · intro wz hSz; obtain ⟨z0, z1, z2, z3⟩ := hSz; go_simp; first | done | with_reducible rfl
          try simp only [Act.put, List.setIfInBounds_toArray, List.set_cons_zero, List.set_cons_succ]
          refine wpAnyX_take (i := 13) (v := ?_) (by rw [List.getElem?_toArray]; rfl) (by kernel_rfl) (by kernel_rfl) (by kernel_rfl) (by kernel_rfl) (fun _ _ _ h => h) hS5 (Or.inl ⟨by rfl, ?_⟩) ?_
          rotate_left
          · intro wz hSz; obtain ⟨z0, z1, z2, z3⟩ := hSz; go_simp; first | done | with_reducible rfl
          try simp only [Act.put, List.setIfInBounds_toArray, List.set_cons_zero, List.set_cons_succ]
          refine wpAnyX_take (i := 14) (v := ?_) (by rw [List.getElem?_toArray]; rfl) (by kernel_rfl) (by kernel_rfl) (by kernel_rfl) (by kernel_rfl) (fun _ _ _ h => h) hS5 (Or.inl ⟨by rfl, ?_⟩) ?_
          rotate_left
          · intro wz hSz; obtain ⟨z0, z1, z2, z3⟩ := hSz; go_simp; first | done | with_reducible rfl
          try simp only [Act.put, List.setIfInBounds_toArray, List.set_cons_zero, List.set_cons_succ]
          refine wpAnyX_take (i := 16) (v := ?_) (by rw [List.getElem?_toArray]; rfl) (by kernel_rfl) (by kernel_rfl) (by kernel_rfl) (by kernel_rfl) (fun _ _ _ h => h) hS5 (Or.inl ⟨by rfl, ?_⟩) ?_
          rotate_left
          · intro wz hSz; obtain ⟨z0, z1, z2, z3⟩ := hSz; go_simp; first | done | with_reducible rfl
          try simp only [Act.put, List.setIfInBounds_toArray, List.set_cons_zero, List.set_cons_succ]
          refine wpAnyX_take (i := 17) (v := ?_) (by rw [List.getElem?_toArray]; rfl) (by kernel_rfl) (by kernel_rfl) (by kernel_rfl) (by kernel_rfl) (fun _ _ _ h => h) hS5 (Or.inl ⟨by rfl, ?_⟩) ?_
          rotate_left
          · intro wz hSz; obtain ⟨z0, z1, z2, z3⟩ := hSz; go_simp; first | done | with_reducible rfl
          try simp only [Act.put, List.setIfInBounds_toArray, List.set_cons_zero, List.set_cons_succ]
          refine wpAnyX_take (i := 18) (v := ?_) (by rw [List.getElem?_toArray]; rfl) (by kernel_rfl) (by kernel_rfl) (by kernel_rfl) (by kernel_rfl) (fun _ _ _ h => h) hS5 (Or.inl ⟨by rfl, ?_⟩) ?_
          rotate_left
          · intro wz hSz; obtain ⟨z0, z1, z2, z3⟩ := hSz; go_simp; first | done | with_reducible rfl
          try simp only [Act.put, List.setIfInBounds_toArray, List.set_cons_zero, List.set_cons_succ]
          refine wpAnyX_take (i := 19) (v := ?_) (by rw [List.getElem?_toArray]; rfl) (by kernel_rfl) (by kernel_rfl) (by kernel_rfl) (by kernel_rfl) (fun _ _ _ h => h) hS5 (Or.inl ⟨by rfl, ?_⟩) ?_
          rotate_left
          · intro wz hSz; obtain ⟨z0, z1, z2, z3⟩ := hSz; go_simp; first | done | with_reducible rfl
          try simp only [Act.put, List.setIfInBounds_toArray, List.set_cons_zero, List.set_cons_succ]
          refine wpAnyX_one (i := 15) (by kernel_rfl) (by rw [List.getElem?_toArray]; rfl) (fun K hK => ?_)
          have HK : Hid _ := hK
          clear hK
          go_simp
          refine (HC1.out _ (Below.refl wC.heap.size wC).drew).mono ?_
          rintro e wD ⟨rfl, nq, hwD⟩
          have hbD : Below wC.heap.size wC wD := by rw [hwD]; exact below_drewN2 (Below.refl _ _).drew nq
          have HD : Hid (RS D G2 m' n (i + 1) (fun a => if a = i then r else V a) (fun a => if a = i then some ⟨bx, ox, none⟩ else X a) (fun a => if a = i then cc else Cc a) wD ∧ Below w2.heap.size w2 wD ∧ Below wC.heap.size wC wD) := ⟨HV.out.1.below hbD, bel_up' HV.out.2.1 hbD, hbD⟩
          clear hwD hbD
          refine HK.out _ _ (fun _ => HK5.out _ HD.out.2.2) ?_
          clear HK K
          try simp only [Act.put, List.setIfInBounds_toArray, List.set_cons_zero, List.set_cons_succ]
          refine wpAnyX_one (i := 20) (by kernel_rfl) (by rw [List.getElem?_toArray]; rfl) (fun K hK => ?_)
          have HK : Hid _ := hK
          clear hK
          go_simp
          refine (HP.out _ HD.out.2.2).mono ?_
          rintro e w4 ⟨gr, c4, rfl, hgr, hc41, hc42, hrw4, hb4⟩
          refine HK.out _ _ (fun _ => HK5.out _ (bel_up' HD.out.2.2 hb4)) ?_
          clear HK K
          try simp only [Act.put, List.setIfInBounds_toArray, List.set_cons_zero, List.set_cons_succ]
          clear hcG hfG hcx hcp hcR hS5
          obtain ⟨hcG, hfG⟩ := (HD.out.1.below hb4).cell i (by omega) (by omega)
          simp only [if_true] at hcG
          have H4 : Hid (RS D G2 m' n (i + 1) (fun a => if a = i then plss D r (R j) (r (p j)) else V a) (fun a => if a = i then some ⟨gr, 0, none⟩ else X a) (fun a => if a = i then c4 else Cc a) (w4.setCell ⟨G2, i, none⟩ (.slice (some ⟨gr, 0, none⟩) n c4)) ∧ Below w2.heap.size w2 (w4.setCell ⟨G2, i, none⟩ (.slice (some ⟨gr, 0, none⟩) n c4)) ∧ Lft D n k R p (mzc N' Z' i) (j + 1) (plss D r (R j) (r (p j)))) := by
            have hst := lft_step (fld HA.out.1) H2.out.2.2.2.2.2.2.2.2.1 ((HA.out.2.2.rows (fld HA.out.1)).2.1 i hlt) HV.out.2.2.1 hjk
            have hltG := HD.out.1.ltG
            refine ⟨?_, (bel_up' HD.out.2.1 hb4).setCell (by rw [H3'.out.2.2]; exact Nat.le_refl _) _, hst⟩
            have hp4 := (HD.out.1.below hb4).put (i' := i + 1) (a0 := i) (fun a h1 h2 => by omega) (hrw4.sl (Nat.le_refl _)) (fun y hy => by cases hy; exact hrw4.lt) (fun e => by cases e) hc41 hc42 (fun y hy => by cases hy; show gr ≠ G2; omega) hst.el
            have e1 : (fun a => if a = i then plss D r (R j) (r (p j)) else if a = i then r else V a) = fun a => if a = i then plss D r (R j) (r (p j)) else V a := by
              funext a
              by_cases e : a = i
              · rw [if_pos e, if_pos e]
              · rw [if_neg e, if_neg e, if_neg e]
            have e2 : (fun a => if a = i then some (⟨gr, 0, none⟩ : Addr) else if a = i then some ⟨bx, ox, none⟩ else X a) = fun a => if a = i then some ⟨gr, 0, none⟩ else X a := by
              funext a
              by_cases e : a = i
              · rw [if_pos e, if_pos e]
              · rw [if_neg e, if_neg e, if_neg e]
            have e3 : (fun a => if a = i then c4 else if a = i then cc else Cc a) = fun a => if a = i then c4 else Cc a := by
              funext a
              by_cases e : a = i
              · rw [if_pos e, if_pos e]
              · rw [if_neg e, if_neg e, if_neg e]
            rw [e1, e2, e3] at hp4
            exact hp4
          have HF9 : Hid (smF G2 i bx ox pj G j hjv n cc y w4) := HK5.out _ (bel_up' HD.out.2.2 hb4)
          clear hgr hc41 hc42 hrw4 hb4 HP HD HV
          refine wpAnyX_one (i := 21) (by kernel_rfl) (by rw [List.getElem?_toArray]; rfl) (fun K hK => ?_)
          have HK : Hid _ := hK
          clear hK
          go_simp
          refine HK.out _ _ (fun _ => HF9.out) ?_
          clear HK K
          try simp only [Act.put, List.setIfInBounds_toArray, List.set_cons_zero, List.set_cons_succ]
          refine wpAnyX_one (i := 22) (by kernel_rfl) (by rw [List.getElem?_toArray]; rfl) (fun K hK => ?_)
          have HK : Hid _ := hK
          clear hK
          go_simp
          refine HK.out _ _ (fun h => absurd rfl h) ?_
          clear HK K
          try simp only [Act.put, List.setIfInBounds_toArray, List.set_cons_zero, List.set_cons_succ]
          refine wpAnyX_done (by kernel_rfl) (NoPanic.normal ?_)
          go_wp2
          go_roundw
          case rel => exact ⟨j + 1, c4, some ⟨gr, 0, none⟩, _, by omega, by go_num, H4.out⟩
          case measure => simp [intOf]; omega
        · have hjb : ¬ (j : Int) < (k : Int) := by omega
          have hjk2 : j = k := by omega
          subst hjk2
          have HR : Hid (∀ a, a < i + 1 → Lft D n j R p (mzc N' Z' a) j (if a = i then r else V a)) := fun a ha => by
            by_cases e : a = i
            · rw [if_pos e, e]; exact HI.out.2.2
            · rw [if_neg e]; exact HG.out.2.2 a (by omega)
          go_wp2
          go_roundw
          case rel => exact ⟨i + 1, _, _, _, by omega, by go_num, HI.out.1, HI.out.2.1, HR.out⟩
          case measure => simp [intOf]; omega
    · have hib : ¬ (i : Int) < (m' : Int) := by omega
      have hie : i = m' := by omega
      subst hie
      have HZ : Hid (CdZ D (some ⟨G2, 0, none⟩) i n X (fun _ => n) Cc (fun a b => ((V a b : Nat) : Int)) wA) := HG.out.1.cdz hn1 hn (by omega)
      have hcb := H2.out.2.2.1.keep HG.out.2.1
      obtain ⟨a0, a1, a2⟩ := hcb
      go_wp2_with fail
      refine (mreduce_any HA.out.1 HZ.out.mat (by omega)).mono ?_
      rintro e w5 ⟨hb5, hr⟩
      rcases hr with ⟨h0, _⟩ | ⟨_, G3, k3, R3, p3, h3, pv3, W3, rfl, hG3, hW3, hkm3, hmx3, hpv3, hre3, hsp3⟩
      · exact absurd HZ.out.chk h0
      obtain ⟨m3, hm3⟩ : ∃ m3, m3 = i := ⟨_, rfl⟩
      have hbE := bel_up' H2.out.2.1 (bel_up' HG.out.2.1 hb5)
      have hVb : ∀ a, a < i → Bd n (V a) := fun a ha => (HG.out.2.2 a ha).bd
      have H5 : Hid (Mx wA.heap.size G3 i k3 n R3 h3 w5 ∧ RRE D n k3 R3 p3 ∧ (∀ v, Spn D (RowsOf k3 R3) v ↔ Spn D (RowsOf i V) v) ∧ Below w1.heap.size w1 w5 ∧ Below w.heap.size w w5 ∧ Mx w1.heap.size G m k n R h w5 ∧ CB w.heap.size D.q n (.slice ao m ca) w5 ∧ RB (w.heap.size + 1 + 1) w5 ∧ G < wA.heap.size) := by
        have hb25 := bel_up' HG.out.2.1 hb5
        have hmx2 := H2.out.2.2.2.2.2.2.1
        refine ⟨?_, ?_, fun v => (hsp3 v).trans (rows_congr (fun a ha => mzc_rows hVb a ha) v), ?_, hbE, hmx2.below hb25, H2.out.2.2.1.keep hb25, H2.out.2.2.2.2.1.keep hb25, by have := hmx2.ltG; have := HG.out.2.1.size; omega⟩
        · rcases Nat.eq_zero_or_pos i with e | e
          · have : k3 = 0 := by omega
            subst this
            exact (hmx3.less (Nat.zero_le _)).any
          · have hWn : W3 = n := hW3 e
            rw [← hWn]; exact hmx3.less hkm3
        · rcases Nat.eq_zero_or_pos i with e | e
          · have : k3 = 0 := by omega
            subst this
            exact rre_none _ _ _ _
          · have hWn : W3 = n := hW3 e
            rw [← hWn]; exact hre3
        · exact bel_up' HW1.out hb25
      have HN : Hid (k + k3 ≤ n) := sum_few (fld HA.out.1) H2.out.2.2.2.2.2.2.2.2.1 HG.out.2.2 H5.out.2.1 H5.out.2.2.1
      have hkk : k + k3 ≤ 64 := by have := HN.out; omega
      have hk3i : k3 ≤ i := hkm3
      clear hb5 hG3 hW3 hmx3 hpv3 hre3 hsp3 hbE hVb hm3 a0 a1 a2 hkm3
      have hcb5 := H5.out.2.2.2.2.2.2.1
      obtain ⟨a0, a1, a2⟩ := hcb5
      have HK5 : Hid (∀ wx, Below w5.heap.size w5 wx → CB w.heap.size D.q n (.slice ao m ca) wx) := fun wx hx => H5.out.2.2.2.2.2.2.1.keep hx
      go_wp2
      refine wp_region_noPanic ?_
      have hS5 := HK5.out _ (Below.refl w5.heap.size w5).drew
      refine wp_region_X (S := CB w.heap.size D.q n (.slice ao m ca)) 8 (by kernel_rfl) ?_
      refine wpAnyX_take (i := 0) (v := ?_) (by rw [List.getElem?_toArray]; rfl) (by kernel_rfl) (by kernel_rfl) (by kernel_rfl) (by kernel_rfl) (fun _ _ _ h => h) hS5 (Or.inl ⟨by rfl, ?_⟩) ?_
      rotate_left
      · intro wz hSz; obtain ⟨z0, z1, z2⟩ := hSz; go_simp; first | done | with_reducible rfl
      try simp only [Act.put, List.setIfInBounds_toArray, List.set_cons_zero, List.set_cons_succ]
      refine wpAnyX_take (i := 1) (v := ?_) (by rw [List.getElem?_toArray]; rfl) (by kernel_rfl) (by kernel_rfl) (by kernel_rfl) (by kernel_rfl) (fun _ _ _ h => h) hS5 (Or.inl ⟨by rfl, ?_⟩) ?_
      rotate_left
      · intro wz hSz; obtain ⟨z0, z1, z2⟩ := hSz; go_simp; first | done | with_reducible rfl
      try simp only [Act.put, List.setIfInBounds_toArray, List.set_cons_zero, List.set_cons_succ]
      refine wpAnyX_take (i := 2) (v := ?_) (by rw [List.getElem?_toArray]; rfl) (by kernel_rfl) (by kernel_rfl) (by kernel_rfl) (by kernel_rfl) (fun _ _ _ h => h) hS5 (Or.inl ⟨by rfl, ?_⟩) ?_
      rotate_left
      · intro wz hSz; obtain ⟨z0, z1, z2⟩ := hSz; go_simp; first | done | with_reducible rfl
      try simp only [Act.put, List.setIfInBounds_toArray, List.set_cons_zero, List.set_cons_succ]
      refine wpAnyX_take (i := 3) (v := ?_) (by rw [List.getElem?_toArray]; rfl) (by kernel_rfl) (by kernel_rfl) (by kernel_rfl) (by kernel_rfl) (fun _ _ _ h => h) hS5 (Or.inl ⟨by rfl, ?_⟩) ?_
      rotate_left
      · intro wz hSz; obtain ⟨z0, z1, z2⟩ := hSz; go_simp; first | done | with_reducible rfl
      try simp only [Act.put, List.setIfInBounds_toArray, List.set_cons_zero, List.set_cons_succ]
      refine wpAnyX_take (i := 4) (v := ?_) (by rw [List.getElem?_toArray]; rfl) (by kernel_rfl) (by kernel_rfl) (by kernel_rfl) (by kernel_rfl) (fun _ _ _ h => h) hS5 (Or.inl ⟨by rfl, ?_⟩) ?_
      rotate_left
      · intro wz hSz; obtain ⟨z0, z1, z2⟩ := hSz; go_simp; first | done | with_reducible rfl
      try simp only [Act.put, List.setIfInBounds_toArray, List.set_cons_zero, List.set_cons_succ]
      refine wpAnyX_take (i := 5) (v := ?_) (by rw [List.getElem?_toArray]; rfl) (by kernel_rfl) (by kernel_rfl) (by kernel_rfl) (by kernel_rfl) (fun _ _ _ h => h) hS5 (Or.inl ⟨by rfl, ?_⟩) ?_
      rotate_left
      · intro wz hSz; obtain ⟨z0, z1, z2⟩ := hSz; go_simp; first | done | with_reducible rfl
      try simp only [Act.put, List.setIfInBounds_toArray, List.set_cons_zero, List.set_cons_succ]
      have hbd1 : Below w1.heap.size w1 w5.drew := H5.out.2.2.2.1.drew
      have hmxd := H5.out.2.2.2.2.2.1.below (Below.refl w5.heap.size w5).drew
      have hmxd3 := H5.out.1.below (Below.refl w5.heap.size w5).drew
      have hown := hmxd.ownV (by omega)
      have hszd : w1.heap.size ≤ w5.drew.heap.size := hbd1.size
      refine wpAnyX_one (i := 6) (by kernel_rfl) (by rw [List.getElem?_toArray]; rfl) (fun K hK => ?_)
      have HK : Hid _ := hK
      clear hK
      refine step_append_sls (by rfl) _ _ (by rfl) w1.heap.size (.slice (some ⟨G, 0, none⟩) k m) (vl k fun a => .slice (some ⟨h a, 0, none⟩) n n) (by rfl) hown (some ⟨G3, 0, none⟩) k3 i (fun a => .slice (some ⟨h3 a, 0, none⟩) n n) (by rfl) (fun a ha => ⟨G3, 0, rfl, by rw [Nat.zero_add]; exact hmxd3.cell a ha⟩) (fun _ _ => rfl) (fun e => by cases e) (by rw [vl_len]; omega) hszd w1 hbd1 (Nat.le_refl _) ?_
      intro v6 w6 hown6 hgrow6 hb6
      obtain ⟨so, sc, SA, hv6, hcd⟩ := sum_cdz hmxd hmxd3 H5.out.2.2.2.2.2.2.2.2 H2.out.2.2.2.2.2.2.2.2.1.el H5.out.2.1.el hn1 hn hkk hown6 hgrow6
      subst hv6
      have H6 : Hid (CdZ D so (k + k3) n SA (fun _ => n) (fun _ => n) (fun i j => ((apr k R R3 i j : Nat) : Int)) w6 ∧ Below w1.heap.size w1 w6 ∧ CB w.heap.size D.q n (.slice ao m ca) w6 ∧ RB (w.heap.size + 1 + 1) w6 ∧ Below w.heap.size w w6) := ⟨hcd, hb6, H1.out.2.2.1.keep hb6, H1.out.2.2.2.2.1.keep hb6, bel_up' H1.out.2.1 hb6⟩
      clear hown6 hgrow6 hb6 hcd hown hmxd hmxd3 hbd1 hszd
      refine HK.out _ _ (fun _ => H6.out.2.2.1) ?_
      clear HK K
      try simp only [Act.put, List.setIfInBounds_toArray, List.set_cons_zero, List.set_cons_succ]
      obtain ⟨kk, hkkk⟩ : ∃ kk, kk = k + k3 := ⟨_, rfl⟩
      rw [← hkkk] at H6 hkk ⊢
      have HKK : Hid (kk = k + k3) := hkkk
      clear hkkk
      refine wpAnyX_one (i := 7) (by kernel_rfl) (by rw [List.getElem?_toArray]; rfl) (fun K hK => ?_)
      have HK : Hid _ := hK
      clear hK
      go_simp
      refine (oneForm_any HA.out.1 H6.out.1).mono ?_
      rintro e w7 ⟨K1, R1, ro, rc, rfl, hmv7, hred7, hb7⟩
      have H7 : Hid (MV w6.heap.size (.slice ro K1 rc) K1 n R1 w7 ∧ Red D n kk (mzc (fun _ => n) (fun i j => ((apr k R R3 i j : Nat) : Int))) K1 R1 ∧ Below w.heap.size w w7 ∧ CB w.heap.size D.q n (.slice ao m ca) w7 ∧ RB (w.heap.size + 1 + 1) w7 ∧ w.heap.size + 3 ≤ w6.heap.size) := ⟨hmv7, hred7, bel_up' H6.out.2.2.2.2 hb7, H6.out.2.2.1.keep hb7, H6.out.2.2.2.1.keep hb7, by have := H6.out.2.1.size; have := H1.out.2.2.2.2.2; omega⟩
      clear hmv7 hred7 hb7
      refine HK.out _ _ (fun _ => H7.out.2.2.2.1) ?_
      clear HK K
      try simp only [Act.put, List.setIfInBounds_toArray, List.set_cons_zero, List.set_cons_succ]
      obtain ⟨⟨x0, e0⟩, ⟨x1, e1⟩, ⟨x2, e2⟩, f0, f1, f2⟩ := H7.out.2.2.2.2.1
      refine wpAnyX_one (i := 8) (by kernel_rfl) (by rw [List.getElem?_toArray]; rfl) (fun K hK => ?_)
      have HK : Hid _ := hK
      clear hK
      go_simp
      refine HK.out _ _ (fun h => absurd rfl h) ?_
      clear HK K
      try simp only [Act.put, List.setIfInBounds_toArray, List.set_cons_zero, List.set_cons_succ]
      refine wpAnyX_done (by kernel_rfl) (NoPanic.normal ?_)
      go_wp2
      obtain ⟨w8, hw8⟩ : ∃ w8, w8 = laid w7 (w.heap.size + 1 + 1) D.q n (.slice ro K1 rc) := ⟨_, rfl⟩
      have H8 : Hid (CB (w.heap.size + 1 + 1) D.q n (.slice ro K1 rc) w8 ∧ MV w.heap.size (.slice ro K1 rc) K1 n R1 w8 ∧ Below w.heap.size w w8 ∧ Red D n (m + i) (apr m (mzc N Z) (mzc N' Z')) K1 R1) := by
        rw [hw8]
        have hs := H7.out.2.2.2.2.2
        have F' := fld HA.out.1
        have hRe := H2.out.2.2.2.2.2.2.2.2.1.el
        have hR3e := H5.out.2.1.el
        have hRa := (HA.out.2.1.rows F').2.1
        have hRb := (HA.out.2.2.rows F').2.1
        refine ⟨laid_cb H7.out.2.2.2.2.1 _ _ _, (laid_mv H7.out.1 (by omega) _ _ _).mono (by omega), laid_below H7.out.2.2.1 (by omega) _ _ _, ?_⟩
        obtain ⟨pp, hr1, hr2⟩ := H7.out.2.1
        refine ⟨pp, hr1, fun v => ?_⟩
        have hbd : ∀ a, a < kk → Bd n (apr k R R3 a) := fun a ha => by
          have := HKK.out
          unfold apr
          split
          · next h1 => exact H2.out.2.2.2.2.2.2.2.2.1.bd a h1
          · exact H5.out.2.1.bd (a - k) (by omega)
        have s1 := (hr2 v).trans (rows_congr (fun a ha => mzc_rows hbd a ha) v)
        rw [HKK.out] at s1
        have s2 := s1.trans (spn_congr (uni_app k k3 R R3) v)
        have s3 := s2.trans (spn_uni F' (rows_el hRe) (rows_el hR3e) (rows_el hRe) (rows_el fun a ha => (HG.out.2.2 a ha).el) (fun v => Iff.rfl) H5.out.2.2.1 v)
        have s4 := s3.trans (spn_rest F' hRe hRb HG.out.2.2 v)
        have s5 := s4.trans (spn_uni F' (rows_el hRe) (rows_el hRb) (rows_el hRa) (rows_el hRb) H2.out.2.2.2.2.2.2.2.2.2.1 (fun v => Iff.rfl) v)
        exact s5.trans (spn_congr (uni_app m i _ _) v).symm
      unfold laid at hw8
      rw [← hw8]
      clear hw8 e0 e1 e2 f0 f1 f2
      obtain ⟨e0, e1, e2⟩ := H8.out.1
      refine bodyPost_ret (v := .agg #[.int .i64 D.q, .int .i64 (n : Nat), .slice ro K1 rc]) (by simp [results, Try.results80, go_sem, e0, e1, e2]) rfl ?_
      exact ⟨_, R1, _, _, rfl, H8.out.2.1, H8.out.2.2.2, H8.out.2.2.1⟩
end Go.Proofs.Ytbpeahhhkcljeaa
