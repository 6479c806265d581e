/- Texts of ours, one behind the other: KX7 S97 KY1 KY2 KY3. -/
import Derived.Test.YtbnkekeeceicaaaZKX5
import Derived.Test.YtbnkekeeceicaaaZR5
import Derived.Deep.OwnRows
import Derived.Test.YtbnkekeeceicaaaZS9
import Derived.Test.YtbnkekeeceicaaaZS47
import Derived.Test.YtbnkekeeceicaaaZX5
import Derived.Test.YtbnkekeeceicaaaZX19
import Derived.Test.YtbnkekeeceicaaaZI24
import Derived.Test.YtbnkekeeceicaaaZKF2
/- Nets: the edges' numbers by where they begin (bySource). -/
namespace Go.Proofs.Ytbnkekeeceicaaa
open Go.RowKit Go.Sort

theorem ct_eq (e : Nat) : ∀ m, ct (fun x => decide (x = e)) m = if e < m then 1 else 0
  | 0 => by rw [if_neg (by omega)]; rfl
  | m + 1 => by
    show ct (fun x => decide (x = e)) m + (if decide (m = e) = true then 1 else 0) = _
    rw [ct_eq e m]
    by_cases c : m = e
    · rw [if_neg (by omega), decide_eq_true c, if_pos rfl, if_pos (by omega)]
    · rw [decide_eq_false c, if_neg (c := false = true) (by decide)]
      by_cases d : e < m
      · rw [if_pos d, if_pos (by omega)]
      · rw [if_neg d, if_neg (by omega)]
/-- The edges in an order. -/
structure Odr (m : Nat) (F : Nat → Nat) (od : Nat → Nat) : Prop where
  lt : ∀ i, i < m → od i < m
  all : ∀ e, e < m → ∃ i, i < m ∧ od i = e
  inj : ∀ i j, i < m → j < m → od i = od j → i = j
  up : Sdd F od 0 m
theorem Odr.of {m : Nat} {F od : Nat → Nat} (h : Rng m 0 m (fun i => i) od) (hs : Sdd F od 0 m) : Odr m F od := by
  have hc : ∀ e, e < m → ct (fun x => decide (od x = e)) m = 1 := fun e he => by
    have := h.2 (fun v => decide (v = e))
    rw [this, ct_eq, if_pos he]
  have hlt : ∀ i, i < m → od i < m := fun i hi => by
    have := h.all (Nat.le_refl m) (fun v => decide (v < m)) (fun z _ hz => decide_eq_true hz) i (Nat.zero_le _) hi
    exact of_decide_eq_true this
  refine ⟨hlt, fun e he => ?_, fun i j hi hj e => ?_, hs⟩
  · obtain ⟨i, hi, q⟩ := nf_pos m (show 0 < ct (fun x => decide (od x = e)) m by rw [hc e he]; omega)
    exact ⟨i, hi, of_decide_eq_true q⟩
  · refine Classical.byContradiction fun c => ?_
    have h1 := hc (od i) (hlt i hi)
    have h2 := ct_set (f := fun x => decide (od x = od i)) (i := i) (c := false) m hi
    rw [if_pos (decide_eq_true rfl), if_neg (by decide)] at h2
    have h3 : 0 < ct (fun x => if x = i then false else decide (od x = od i)) m := nf_has (i := j) (by rw [if_neg (fun q => c q.symm)]; exact decide_eq_true e.symm) m hj
    omega

/-- What bySource tells. -/
def OdrP (m : Nat) (F : Nat → Nat) (w : World) (e : Ending) (w' : World) : Prop := ∃ g od, e = .returned (.slice (some ⟨g, 0, none⟩) m m) ∧ Row g m od w' ∧ Odr m F od ∧ w.heap.size ≤ g ∧ Below w.heap.size w w'
set_option maxHeartbeats 4000000 in
set_option maxRecDepth 100000 in
theorem bysrc_any {eo : Option Addr} {m ec : Nat} {F T : Nat → Nat} {w : World} (hE : EdZ eo m (fun i => ((F i : Nat) : Int)) (fun i => ((T i : Nat) : Int)) w) (hm : m < 40) (hF : ∀ i, i < m → F i ≤ 1000) :
    Calls Try.prog 23 #[.slice eo m ec] w (OdrP m F w) := by
  obtain ⟨wa, hwa⟩ : ∃ wa, wa = w.alloc (.cells #[.slice eo m ec] 23) := ⟨_, rfl⟩
  have hba : Below w.heap.size w wa := by rw [hwa]; exact (Below.refl _ _).alloc (Nat.le_refl _) _
  have hca : wa.cell? ⟨w.heap.size, 0, none⟩ = some (.slice eo m ec) := by rw [hwa, cell_of_row _ _ _ _ _ (0, 0) (two_new _)]; rfl
  have hsa : wa.heap.size = w.heap.size + 1 := by rw [hwa]; simp
  have HCm : Hid (Cmp w.heap.size m wa.heap.size F wa) := fun wx hb x y hx hy => bysrc1_any ((hb.cell (p := ⟨w.heap.size, 0, none⟩) (by rw [hsa]; exact Nat.lt_succ_self _)).trans hca) ((hE.below hba).below hb) hx hy hF
  have HS : Hid (Below w.heap.size w wa ∧ (∀ i, i < m → F i ≤ 1000) ∧ wa.heap.size = w.heap.size + 1) := ⟨hba, hF, hsa⟩
  have c0 := hca
  rw [hwa] at c0
  clear hE hba hca hF hsa
  go_enter Try.func23, Try.ntmps23
  go_wp2_with (at_make; refine make_int rfl _ _ rfl _ m rfl rfl rfl (by omega) ?_; intro w1 hown1 hgrow1)
  rw [← hwa] at hown1 hgrow1
  obtain ⟨G, hG⟩ : ∃ G, G = wa.heap.size := ⟨_, rfl⟩
  have hGe : w.heap.size + 1 = G := by rw [hG]; exact HS.out.2.2.symm
  have H1 : Hid (Row G m pnil w1 ∧ Below wa.heap.size wa w1 ∧ G = wa.heap.size) := ⟨by rw [hG]; exact row_zeros hown1, below_grown hgrow1 (Nat.le_refl _) (fun k hk => by simp at hk), hG⟩
  try rw [hGe]
  obtain ⟨bE, hbE⟩ : ∃ bE, bE = w.heap.size := ⟨_, rfl⟩
  rw [← hbE] at HCm ⊢
  have HBE : Hid (bE = w.heap.size) := hbE
  clear hown1 hgrow1 hGe hG c0 hwa hbE
  go_loopw [10] (fun vi wr => ∃ i : Nat, i ≤ m ∧ vi = .int .i64 (i : Nat) ∧ Hid (Row G m (fun x => if x < i then x else 0) wr ∧ Below wa.heap.size wa wr)) (fun vi _ => m - (RowKit.intOf vi).toNat)
  case atStart => exact ⟨0, by omega, rfl, H1.out.1.congr (fun j _ => by rw [if_neg (by omega)]; rfl), H1.out.2.1⟩
  case round =>
    obtain ⟨i, hi, rfl, HI⟩ := hrel
    rename World => wr
    by_cases hlt : i < m
    · have hib : (i : Int) < (m : Int) := by omega
      have hib0 : (0 : Int) ≤ (i : Int) := by omega
      have k1 := HI.out.1.cell i hlt
      have f1 := HI.out.1.free i
      have HN : Hid (Row G m (fun x => if x < i + 1 then x else 0) (wr.setCell ⟨G, i, none⟩ (.int .i64 (i : Nat))) ∧ Below wa.heap.size wa (wr.setCell ⟨G, i, none⟩ (.int .i64 (i : Nat)))) := by
        refine ⟨HI.out.1.store i i (fun j _ => ?_), HI.out.2.setCell (by rw [H1.out.2.2]; exact Nat.le_refl _) _⟩
        by_cases c : j = i
        · rw [if_pos c, if_pos (by omega), c]
        · rw [if_neg c]
          by_cases d : j < i
          · rw [if_pos d, if_pos (by omega)]
          · rw [if_neg d, if_neg (by omega)]
      go_wp2
      go_roundw
      case rel => exact ⟨i + 1, by omega, by go_num, HN.out⟩
      case measure => simp [RowKit.intOf]; omega
    · have hib : ¬ (i : Int) < (m : Int) := by omega
      have HSo : Hid (Calls Try.prog 35 #[.slice (some ⟨G, 0, none⟩) m m, .func (.func 36) #[] #[.pointer (some ⟨bE, 0, none⟩)]] wr (SrtP G m wa.heap.size 0 m F (fun x => x) wa)) :=
        ssf_any HCm.out (HI.out.1.congr (fun j hj => by rw [if_pos (by omega)])) (by rw [H1.out.2.2]; exact Nat.le_refl _) HI.out.2 (fun x hx => hx) hm HS.out.2.1
      go_wp2_with fail
      refine HSo.out.mono ?_
      rintro e w2 ⟨od, rfl, hr2, hn2, hs2, hb2⟩
      have H2 : Hid (Row G m od w2 ∧ Odr m F od ∧ w.heap.size ≤ G ∧ Below w.heap.size w w2) := ⟨hr2, Odr.of hn2 hs2, by rw [H1.out.2.2]; exact HS.out.1.size, bel_up' HS.out.1 hb2⟩
      clear hr2 hn2 hs2 hb2
      go_wp2
      go_ret
      exact ⟨G, od, rfl, H2.out⟩
end Go.Proofs.Ytbnkekeeceicaaa

/- Nets: vectors that don't hang on each other, one of them changed; a multiple that none of some rules out. -/
namespace Go.Proofs.Ytbnkekeeceicaaa

theorem dot_add2 {D : FD} (F : Fld D) {a b : Nat → Nat} (ha : El D a) (hb : El D b) (v : Nat → Nat) (n : Nat) : dot D v (padd D a b) n = D.ad (dot D v a n) (dot D v b n) := by rw [dot_comm F, dot_add F ha hb, dot_comm F a, dot_comm F b]
theorem dot_scale2 {D : FD} (F : Fld D) (s : Nat) (a v : Nat → Nat) (n : Nat) : dot D v (pscale D s a) n = D.mul s (dot D v a n) := by rw [dot_comm F, dot_scale F, dot_comm F a]
/-- x less a times u. -/
def linD (D : FD) (x : Nat → Nat) (a : Nat) (u : Nat → Nat) : Nat → Nat := padd D x (pscale D (D.ng a) u)
theorem linD_el {D : FD} (F : Fld D) {x u : Nat → Nat} {a : Nat} (hx : El D x) : El D (linD D x a u) := el_add F hx (el_scale F _ _)
theorem dot_lin {D : FD} (F : Fld D) {x u v : Nat → Nat} {a n : Nat} (hx : El D x) (ha : a < D.q) : dot D v (linD D x a u) n = D.sb (dot D v x n) (D.mul a (dot D v u n)) := by
  unfold linD
  rw [dot_add2 F hx (el_scale F _ _), dot_scale2 F]
  unfold FD.sb
  rw [F.mul_comm (D.ng a), mul_ng F ha, F.mul_comm a]
/-- h vectors that don't hang on each other. -/
structure Bas (D : FD) (h : Nat) (L : Nat → Nat → Nat) : Prop where
  el : ∀ j, j < h → El D (L j)
  du : ∃ Y : Nat → Nat → Nat, (∀ j, j < h → El D (Y j)) ∧ ∀ i j, i < h → j < h → dot D (L i) (Y j) h = if i = j then 1 else 0
  inj : ∀ x, El D x → (∀ j, j < h → dot D (L j) x h = 0) → ∀ c, c < h → x c = 0
def uniV (j : Nat) : Nat → Nat := fun c => if c = j then 1 else 0
theorem uniV_el {D : FD} (F : Fld D) (j : Nat) : El D (uniV j) := fun c => by
  unfold uniV
  have := F.q2
  split <;> omega
theorem Bas.start {D : FD} (F : Fld D) (h : Nat) : Bas D h uniV := by
  have hu : ∀ j x, El D x → j < h → dot D (uniV j) x h = x j := fun j x hx hj => by rw [dot_comm F]; exact dot_unit F (hx j) hj
  refine ⟨fun j _ => uniV_el F j, ⟨uniV, fun j _ => uniV_el F j, fun i j hi hj => ?_⟩, fun x hx h0 c hc => ?_⟩
  · rw [hu i _ (uniV_el F j) hi]; rfl
  · have := h0 c hc; rw [hu c x hx hc] at this; exact this
/-- One of them may be another, whose product with its dual isn't 0. -/
theorem Bas.swap {D : FD} (hD : D ∈ fieldsL) {h : Nat} {L : Nat → Nat → Nat} {o y : Nat → Nat} {k : Nat} (hB : Bas D h L) (hk : k < h) (ho : El D o) (hyd : ∀ i, i < h → dot D (L i) y h = if i = k then 1 else 0) (hne : dot D o y h ≠ 0) : Bas D h (fun j => if j = k then o else L j) := by
  have F := fld hD
  obtain ⟨Y, hYe, hYd⟩ := hB.du
  obtain ⟨c, hc⟩ : ∃ c, c = dot D o y h := ⟨_, rfl⟩
  have hcq : c < D.q := by rw [hc]; exact dot_lt F o y h
  have hc0 : c ≠ 0 := by rw [hc]; exact hne
  have hiv := iv_is hD hcq hc0
  have hivq := iv_lt hD c
  have h1q := one_lt' F
  have h0q := zero_lt' F
  refine ⟨fun j hj => ?_, ⟨fun j => if j = k then pscale D (D.iv c) y else linD D (Y j) (D.mul (dot D o (Y j) h) (D.iv c)) y, fun j hj => ?_, fun i j hi hj => ?_⟩, fun x hx h0 => ?_⟩
  · show El D (if j = k then o else L j)
    split
    · exact ho
    · exact hB.el j hj
  · show El D (if j = k then pscale D (D.iv c) y else linD D (Y j) (D.mul (dot D o (Y j) h) (D.iv c)) y)
    split
    · exact el_scale F _ _
    · exact linD_el F (hYe j hj)
  · show dot D (if i = k then o else L i) (if j = k then pscale D (D.iv c) y else linD D (Y j) (D.mul (dot D o (Y j) h) (D.iv c)) y) h = if i = j then 1 else 0
    by_cases ci : i = k
    · rw [if_pos ci]
      by_cases cj : j = k
      · rw [if_pos cj, dot_scale2 F, ← hc, F.mul_comm, hiv, if_pos (by omega)]
      · rw [if_neg cj, dot_lin F (hYe j hj) (F.mul_lt _ _), ← hc, F.mul_assoc, F.mul_comm (D.iv c) c, hiv, mul1 F (dot_lt F _ _ _), sb_self F (dot_lt F _ _ _), if_neg (by omega)]
    · rw [if_neg ci]
      by_cases cj : j = k
      · rw [if_pos cj, dot_scale2 F, hyd i hi, if_neg ci, mul0 F, if_neg (by omega)]
      · rw [if_neg cj, dot_lin F (hYe j hj) (F.mul_lt _ _), hyd i hi, if_neg ci, mul0 F, sb_zero F (dot_lt F _ _ _)]
        exact hYd i j hi hj
  · obtain ⟨a, ha⟩ : ∃ a, a = dot D (L k) x h := ⟨_, rfl⟩
    have haq : a < D.q := by rw [ha]; exact dot_lt F _ _ _
    have hz : ∀ z, z < h → linD D x a y z = 0 := hB.inj _ (linD_el F hx) (fun j hj => by
      rw [dot_lin F hx haq, hyd j hj]
      by_cases cj : j = k
      · rw [if_pos cj, mul1 F haq, cj, ← ha, sb_self F haq]
      · have := h0 j hj
        rw [if_neg cj] at this
        rw [this, if_neg cj, mul0 F, sb_zero F h0q])
    have hdo : dot D o (linD D x a y) h = 0 := by
      rw [dot_congr (a' := o) (b' := pnil) h (fun j hj => ⟨rfl, hz j hj⟩), dot_comm F, dot_nil F]
    rw [dot_lin F hx haq, ← hc] at hdo
    have hox := h0 k hk
    rw [if_pos rfl] at hox
    rw [hox] at hdo
    have hac : D.mul a c = 0 := (sb_eq_zero F h0q (F.mul_lt a c) hdo).symm
    have ha0 : a = 0 := Classical.byContradiction fun q => (F.mul_ne a c q hc0).1 hac
    intro z hzz
    have := hz z hzz
    unfold linD padd pscale at this
    rw [ha0, ng_zero F, zmul F, ad_zero F (hx z)] at this
    exact this
/-- At most one. -/
theorem ct_lone {p : Nat → Bool} : ∀ n, (∀ a b, a < n → b < n → p a = true → p b = true → a = b) → ct p n ≤ 1
  | 0, _ => by show 0 ≤ 1; omega
  | n + 1, h => by
    show ct p n + (if p n = true then 1 else 0) ≤ 1
    have ih := ct_lone n (fun a b ha hb => h a b (by omega) (by omega))
    by_cases c : p n = true
    · rw [if_pos c]
      have : ct p n = 0 := ct_none n (fun i hi => by
        cases q : p i with
        | false => rfl
        | true => have := h i n (by omega) (by omega) q c; omega)
      omega
    · rw [if_neg c]; omega
def anB (f : Nat → Nat → Bool) : Nat → Nat → Bool
  | 0, _ => false
  | i + 1, z => anB f i z || f i z
theorem anB_no {f : Nat → Nat → Bool} {z : Nat} : ∀ i, anB f i z = false → ∀ j, j < i → f j z = false
  | 0, _, j, hj => absurd hj (by omega)
  | i + 1, h, j, hj => by
    have h : (anB f i z || f i z) = false := h
    rw [Bool.or_eq_false_iff] at h
    by_cases c : j = i
    · rw [c]; exact h.2
    · exact anB_no i h.1 j (by omega)
theorem nf_or (p q : Nat → Bool) : ∀ n, ct (fun i => p i || q i) n ≤ ct p n + ct q n
  | 0 => Nat.le_refl _
  | n + 1 => by
    have ih := nf_or p q n
    show ct (fun i => p i || q i) n + (if (p n || q n) = true then 1 else 0) ≤ ct p n + (if p n = true then 1 else 0) + (ct q n + if q n = true then 1 else 0)
    cases p n <;> cases q n <;> simp <;> omega
theorem anB_few {f : Nat → Nat → Bool} {n : Nat} : ∀ i, (∀ j, j < i → ct (f j) n ≤ 1) → ct (anB f i) n ≤ i
  | 0, _ => Nat.le_of_eq (ct_none n (fun _ _ => rfl))
  | i + 1, h => by
    have h1 := anB_few i (fun j hj => h j (by omega))
    have h2 := h i (by omega)
    have h3 := nf_or (anB f i) (f i) n
    show ct (fun z => anB f i z || f i z) n ≤ i + 1
    omega
theorem ct_tt : ∀ n, ct (fun _ => true) n = n
  | 0 => rfl
  | n + 1 => by show ct (fun _ => true) n + (if true = true then 1 else 0) = n + 1; rw [ct_tt n, if_pos rfl]
/-- A multiple that none rules out. -/
theorem pick_mul {D : FD} (hD : D ∈ fieldsL) {i : Nat} {s x : Nat → Nat} (hs : ∀ j, j < i → s j < D.q ∧ s j ≠ 0) (hx : ∀ j, j < i → x j < D.q) (hi : i < D.q) : ∃ z, z < D.q ∧ ∀ j, j < i → D.ad (D.mul z (s j)) (x j) ≠ 0 := by
  have F := fld hD
  have h1 := anB_few (f := fun j z => decide (D.ad (D.mul z (s j)) (x j) = 0)) (n := D.q) i (fun j hj => ct_lone _ (fun a b ha hb qa qb => by
    have qa := of_decide_eq_true qa
    have qb := of_decide_eq_true qb
    have e : D.mul a (s j) = D.mul b (s j) := by
      refine ad_cancel F (hx j hj) (F.mul_lt _ _) (F.mul_lt _ _) ?_
      rw [ad_comm F, qa, ad_comm F (x j), qb]
    rw [F.mul_comm a, F.mul_comm b] at e
    exact mul_cancel F (hs j hj).2 ha hb e))
  have h2 : ∃ z, z < D.q ∧ anB (fun j z => decide (D.ad (D.mul z (s j)) (x j) = 0)) i z = false := by
    refine Classical.byContradiction fun c => ?_
    have : ct (anB (fun j z => decide (D.ad (D.mul z (s j)) (x j) = 0)) i) D.q = ct (fun _ => true) D.q := nf_cg D.q (fun z hz => by
      cases q : anB (fun j z => decide (D.ad (D.mul z (s j)) (x j) = 0)) i z with
      | true => rfl
      | false => exact absurd ⟨z, hz, q⟩ c)
    have e := ct_tt D.q
    omega
  obtain ⟨z, hz, q⟩ := h2
  exact ⟨z, hz, fun j hj => of_decide_eq_false (anB_no i q j hj)⟩
end Go.Proofs.Ytbnkekeeceicaaa

/- Nets: the vectors with one 1 (units). -/
namespace Go.Proofs.Ytbnkekeeceicaaa
open Go.RowKit Go.Sort

set_option maxHeartbeats 4000000 in
set_option maxRecDepth 100000 in
theorem units_any {n : Nat} {w : World} (hn : n ≤ 1000) :
    Calls Try.prog 22 #[.int .i64 (n : Nat)] w fun e w' => e = .returned (.slice (some ⟨w.heap.size, 0, none⟩) n n) ∧ (∃ h, Mx w.heap.size w.heap.size n n n (fun i => uniV i) h w') ∧ Below w.heap.size w w' := by
  obtain ⟨G, hG0⟩ : ∃ G, G = w.heap.size := ⟨_, rfl⟩
  go_enter Try.func22, Try.ntmps22
  go_wp2_with (at_make; refine make_sls rfl _ _ rfl _ n rfl rfl rfl (by omega) ?_; intro w1 hrow1 hgrow1)
  have HB1 : Hid (Mx G G n 0 n (fun i => uniV i) (fun _ => 0) w1 ∧ Below w.heap.size w w1 ∧ G = w.heap.size) := ⟨⟨⟨_, by rw [hG0]; exact hrow1, fun i hi => absurd hi (by omega)⟩, fun i hi => absurd hi (by omega), Nat.le_refl _, fun i hi => absurd hi (by omega), fun i hi => absurd hi (by omega), fun i hi => absurd hi (by omega), by omega⟩, below_grown hgrow1 (Nat.le_refl _) (fun k hk => by simp at hk), hG0⟩
  rw [← hG0]
  clear hrow1 hgrow1 hG0
  go_loopw [9] (fun i wr => ∃ r : Nat, ∃ h : Nat → Nat, r ≤ n ∧ i = .int .i64 r ∧ Hid (Mx G G n r n (fun i => uniV i) h wr ∧ Below w.heap.size w wr)) (fun i _ => n - (RowKit.intOf i).toNat)
  case atStart => exact ⟨0, _, by omega, rfl, HB1.out.1, HB1.out.2.1⟩
  case round =>
    obtain ⟨r, h, hr, rfl, HG⟩ := hrel
    rename World => wr
    by_cases hlt : r < n
    · have hib : (r : Int) < (n : Int) := by omega
      have hib0 : (0 : Int) ≤ (r : Int) := by omega
      have hG := HG.out.1.ltG
      have hne : wr.heap.size ≠ G := by omega
      have hne2 : G ≠ wr.heap.size := by omega
      go_wp2_with (at_make; refine make_int rfl _ _ rfl _ n rfl rfl (by omega) (by omega) ?_; intro w2 hown2 hgrow2; have hb2 : Below wr.heap.size wr w2 := below_grown hgrow2 (Nat.le_refl _) (fun k hk => by simp at hk); obtain ⟨f, hf, _⟩ := (HG.out.1.below hb2).outer; have hcG := hf.cell r hlt; have hfG := hf.free r; have hrw := row_zeros hown2; have hcR := hrw.cell r hlt; have hfR := hrw.free r)
      go_roundw
      case rel =>
        have hrr := (hrw.other (Below.heap_setCell w2 ⟨G, r, none⟩ (.slice (some ⟨wr.heap.size, 0, none⟩) n n) wr.heap.size hne)).store (d := uniV r) r 1 (fun j _ => by unfold uniV; rfl)
        have hpush := HG.out.1.push hlt hb2 ((Below.refl wr.heap.size _).setCell (Nat.le_refl _) _) hrr (by have := HG.out.2.size; have := HB1.out.2.2; omega)
        refine ⟨r + 1, _, by omega, by go_num, hpush.congr (fun i hi j hj => ?_), ((bel_up HG.out.2 hb2).setCell (by rw [HB1.out.2.2]; exact Nat.le_refl _) _).setCell HG.out.2.size _⟩
        by_cases e : i = r
        · rw [if_pos e, e]
        · rw [if_neg e]
      case measure => simp [RowKit.intOf]; omega
    · have e : r = n := by omega
      subst e
      go_wp2
      go_ret
      exact ⟨by rw [← HB1.out.2.2]; rfl, by rw [← HB1.out.2.2]; exact ⟨_, HG.out.1⟩, HG.out.2⟩
end Go.Proofs.Ytbnkekeeceicaaa

/- Nets: the vector whose product with one of some is 1, with all others 0 (beside). -/
namespace Go.Proofs.Ytbnkekeeceicaaa
open Go.RowKit Go.Sort

theorem zc_cast {h : Nat} {c : Nat → Nat} (hb : Bd h c) : zc h (fun j => ((c j : Nat) : Int)) = c := by
  funext j
  unfold zc
  by_cases q : j < h
  · rw [if_pos q, Int.toNat_natCast]
  · rw [if_neg q, hb j (by omega)]
theorem vmchk {D : FD} {m h : Nat} {L : Nat → Nat → Nat} (hm : m ≤ 64) (h0 : 0 < h) (hh : h ≤ 64) (he : ∀ i, i < m → El D (L i)) : D.mchk m (fun _ => h) (fun i c => ((L i c : Nat) : Int)) = 0 := by
  refine mchk_of hm (fun i hi => ?_)
  unfold FD.mrow
  rw [if_neg (by omega), if_neg (by omega), if_pos]
  exact allHas_iff.2 (fun j _ => has_of_lt (he i hi j))
theorem uniV_bd {j h : Nat} (hj : j < h) : Bd h (uniV j) := fun k hk => by unfold uniV; rw [if_neg (by omega)]
theorem dsolve_any {D : FD} (hD : D ∈ fieldsL) {mo bo : Option Addr} {h one ca cb : Nat} {A : Nat → Option Addr} {C : Nat → Nat} {L : Nat → Nat → Nat} {w : World} (h1 : 1 ≤ h) (h64 : h ≤ 64) (hB : Bas D h L) (hBd : ∀ i, i < h → Bd h (L i)) (hA : MatZ mo h A (fun _ => h) C (fun i j => ((L i j : Nat) : Int)) w) (hy : SlZ bo h (fun j => ((uniV one j : Nat) : Int)) w) (ho : one < h) :
    Calls Try.prog 46 #[.int .i64 D.q, .slice mo h ca, .slice bo h cb] w fun e w' => ∃ gx s, e = .returned (.tuple #[.slice (some ⟨gx, 0, none⟩) h h, .bool true, .int .i64 0]) ∧ w.heap.size ≤ gx ∧ Row gx h s w' ∧ El D s ∧ (∀ i, i < h → dot D (L i) s h = if i = one then 1 else 0) ∧ Below w.heap.size w w' := by
  have F := fld hD
  have hck := vmchk (D := D) h64 h1 h64 hB.el
  have hall : D.allHas (fun j => ((uniV one j : Nat) : Int)) h = true := allHas_iff.2 (fun j _ => has_of_lt (uniV_el F one j))
  have hMz : ∀ i, i < h → mzc (fun _ => h) (fun i j => ((L i j : Nat) : Int)) i = L i := fun i hi => zc_cast (hBd i hi)
  have hbz : zc h (fun j => ((uniV one j : Nat) : Int)) = uniV one := zc_cast (uniV_bd ho)
  refine (msolve_row hD hA (by omega) hy).mono ?_
  rintro e w' ⟨hb, hr⟩
  rcases hr with ⟨h9, _⟩ | ⟨_, h9, _⟩ | ⟨_, _, k, R, p, W, _, hW, hR, hS, hc⟩
  · exact absurd hck h9
  · rw [hall] at h9; cases h9
  · have hW : W = h := hW (by omega)
    rw [hW] at hR hS hc
    clear hW
    have hel : ∀ i, i < h → El D (mzc (fun _ => h) (fun i j => ((L i j : Nat) : Int)) i) := fun i hi => by rw [hMz i hi]; exact hB.el i hi
    have hbq : ∀ i, i < h → zc h (fun j => ((uniV one j : Nat) : Int)) i < D.q := fun i _ => by rw [hbz]; exact uniV_el F one i
    obtain ⟨kr, Rr, pr, _, hRr, hSr⟩ := rre_ex hD (m := h) (n := h + 1) (R := aug h (mzc (fun _ => h) (fun i j => ((L i j : Nat) : Int))) (zc h (fun j => ((uniV one j : Nat) : Int)))) (fun i hi => aug_el (hel i hi) (hbq i hi)) (fun i hi => aug_bd (by rw [hMz i hi]; exact hBd i hi))
    obtain ⟨Y, hYe, hYd⟩ := hB.du
    have hno := met_no F hRr hel hbq hSr (u := Y one) (fun i hi => by
      rw [dt_dot, hMz i hi, hbz, hYd i one hi ho]
      rfl)
    rcases hc with ⟨hbad, _⟩ | ⟨hgood, gx, he, hgx, hrow, _⟩
    · obtain ⟨i, hi, e9⟩ := solve_no F hR hbad hRr (fun v => (hS v).trans (hSr v).symm)
      exact absurd e9 (hno i hi)
    · obtain ⟨hk, heq, _⟩ := solve_yes F hR hgood hRr (fun v => (hS v).trans (hSr v).symm)
      have hsx : slx R p h k = slx Rr pr h kr := by rw [hk]; exact slx_congr h k heq
      rw [hsx] at hrow
      have hsol := slx_solves F hRr hno hel hbq hSr
      refine ⟨gx, slx Rr pr h kr, he, hgx, hrow, slx_el F kr hRr.el, fun i hi => ?_, hb⟩
      have := hsol i hi
      rw [dt_dot, hMz i hi, hbz] at this
      rw [this]
      rfl
set_option maxHeartbeats 4000000 in
set_option maxRecDepth 100000 in
theorem beside_any {D : FD} (hD : D ∈ fieldsL) {Fb T : Nat} {g : Nat → Value} {mo : Option Addr} {h one ca : Nat} {A : Nat → Option Addr} {C : Nat → Nat} {L : Nat → Nat → Nat} {w : World} (hF : FAt Fb T D g w) (h1 : 1 ≤ h) (h64 : h ≤ 64) (hB : Bas D h L) (hBd : ∀ i, i < h → Bd h (L i)) (hA : MatZ mo h A (fun _ => h) C (fun i j => ((L i j : Nat) : Int)) w) (ho : one < h) :
    Calls Try.prog 37 #[.pointer (some ⟨Fb, 0, none⟩), .slice mo h ca, .int .i64 (one : Nat)] w fun e w' => ∃ gx s, e = .returned (.slice (some ⟨gx, 0, none⟩) h h) ∧ w.heap.size ≤ gx ∧ Row gx h s w' ∧ El D s ∧ (∀ i, i < h → dot D (L i) s h = if i = one then 1 else 0) ∧ Below w.heap.size w w' := by
  have HF : Hid (FAt Fb T D g w ∧ D ∈ fieldsL) := ⟨hF, hD⟩
  have HU : Hid (Calls Try.prog 22 #[.int .i64 (h : Nat)] w fun e w' => e = .returned (.slice (some ⟨w.heap.size, 0, none⟩) h h) ∧ (∃ hh, Mx w.heap.size w.heap.size h h h (fun i => uniV i) hh w') ∧ Below w.heap.size w w') := units_any (by omega)
  have HSo : Hid (∀ (bo : Option Addr) (cb : Nat) (wx : World), Below w.heap.size w wx → SlZ bo h (fun j => ((uniV one j : Nat) : Int)) wx → Calls Try.prog 46 #[.int .i64 D.q, .slice mo h ca, .slice bo h cb] wx fun e w' => ∃ gx s, e = .returned (.tuple #[.slice (some ⟨gx, 0, none⟩) h h, .bool true, .int .i64 0]) ∧ wx.heap.size ≤ gx ∧ Row gx h s w' ∧ El D s ∧ (∀ i, i < h → dot D (L i) s h = if i = one then 1 else 0) ∧ Below wx.heap.size wx w') := fun bo cb wx hb hy => dsolve_any hD h1 h64 hB hBd (hA.below hb) hy ho
  obtain ⟨G, hG⟩ : ∃ G, G = w.heap.size := ⟨_, rfl⟩
  rw [← hG] at HU
  have HGe : Hid (G = w.heap.size) := hG
  have hob : (one : Int) < (h : Int) := by omega
  have hob0 : (0 : Int) ≤ (one : Int) := by omega
  clear hD hF hB hBd hA hG
  go_enter Try.func37, Try.ntmps37
  go_wp2_with fail
  refine (size_any HF.out.1).mono ?_
  rintro e w' ⟨rfl, hw⟩
  have hw := hw.symm
  subst hw
  go_wp2_with fail
  refine HU.out.mono ?_
  rintro e w1 ⟨rfl, ⟨hh, hmx⟩, hb1⟩
  have hc := hmx.cell one ho
  have H1 : Hid (SlZ (some ⟨hh one, 0, none⟩) h (fun j => ((uniV one j : Nat) : Int)) w1 ∧ Below w.heap.size w w1) := ⟨(hmx.row one ho).sl (Nat.le_refl _), by rw [← HGe.out]; exact hb1⟩
  clear hmx hb1
  go_wp2_with fail
  refine (HSo.out (some ⟨hh one, 0, none⟩) h w1 H1.out.2 H1.out.1).mono ?_
  rintro e w2 ⟨gx, sv, rfl, hgx, hrow, hse, hsd, hb2⟩
  have H2 : Hid (w.heap.size ≤ gx ∧ Row gx h sv w2 ∧ El D sv ∧ (∀ i, i < h → dot D (L i) sv h = if i = one then 1 else 0) ∧ Below w.heap.size w w2) := ⟨Nat.le_trans H1.out.2.size hgx, hrow, hse, hsd, bel_up' H1.out.2 hb2⟩
  clear hgx hrow hse hsd hb2 hc
  go_wp2
  go_ret
  exact ⟨gx, sv, rfl, H2.out⟩
end Go.Proofs.Ytbnkekeeceicaaa

/- Nets: whether one of some rows is one whose product with a vector is 0 (joined's function, slices.ContainsFunc of rows). -/
namespace Go.Proofs.Ytbnkekeeceicaaa
open Go.RowKit Go.Sort

theorem anyB_ex {p : Nat → Bool} : ∀ n, anyB p n = true → ∃ j, j < n ∧ p j = true := fun n h => Classical.byContradiction fun c => by
  have := anyB_no (p := p) n (fun j hj => by
    cases q : p j with
    | false => rfl
    | true => exact absurd ⟨j, hj, q⟩ c)
  rw [this] at h; cases h
theorem anyB_none {p : Nat → Bool} {n : Nat} (h : anyB p n = false) : ∀ j, j < n → p j = false := fun j hj => by
  cases q : p j with
  | false => rfl
  | true => rw [anyB_yes q n hj] at h; cases h
set_option maxHeartbeats 2000000 in
set_option maxRecDepth 100000 in
theorem indexDr_any {gf : Nat} {lb : Array Value} (eg : ∀ args w, (callFunc gf args).run Try.prog w = .ok (.enter gf args) w) {ao : Option Addr} {n cap : Nat} {A : Nat → Option Addr} {N C : Nat → Nat} {p : Nat → Bool} {w : World}
    (hs : ∀ j, j < n → ∃ b off, ao = some ⟨b, off, none⟩ ∧ w.cell? ⟨b, off + j, none⟩ = some (.slice (A j) (N j) (C j))) (hn : n ≤ 1000000) (hp : ∀ j k, j < n → Calls Try.prog gf (#[.slice (A j) (N j) (C j)] ++ lb) (w.drewN k) fun e w' => e = .returned (.bool (p j)) ∧ ∃ d, w' = (w.drewN k).drewN d) :
    Calls Try.prog 74 #[.slice ao n cap, .func (.func gf) #[] lb] w fun e w' => (∃ d, w' = w.drewN d) ∧ ∃ i : Int, e = .returned (.int .i64 i) ∧ decide (0 ≤ i) = anyB p n := by
  have HS : Hid ((∀ j, j < n → ∃ b off, ao = some ⟨b, off, none⟩ ∧ w.cell? ⟨b, off + j, none⟩ = some (.slice (A j) (N j) (C j))) ∧ ∀ j k, j < n → Calls Try.prog gf (#[.slice (A j) (N j) (C j)] ++ lb) (w.drewN k) fun e w' => e = .returned (.bool (p j)) ∧ ∃ d, w' = (w.drewN k).drewN d) := ⟨hs, hp⟩
  clear hs hp
  go_enter Try.func74, Try.ntmps74
  go_wp2
  go_loopw [5, 8] (fun _ i wr => ∃ r : Nat, ∃ d : Nat, r ≤ n ∧ i = .int .i64 r ∧ Hid (∀ j, j < r → p j = false) ∧ wr = w.drewN d) (fun _ i _ => n - (RowKit.intOf i).toNat)
  case atStart => exact ⟨0, 0, by omega, rfl, (show Hid _ from fun j hj => by omega), rfl⟩
  case round =>
    obtain ⟨r, d, hr, rfl, HH, hwr⟩ := hrel
    subst hwr
    by_cases hlt : r < n
    · obtain ⟨b, off, rfl, hcz⟩ := HS.out.1 r hlt
      have hib : (r : Int) < (n : Int) := by omega
      have hcall := HS.out.2 r d hlt
      by_cases hh : p r = true
      · have HV : Hid (p r = true) := hh
        rw [hh] at hcall
        clear hh
        go_wp2_with (go_at_fn gf; refine hcall.mono ?_; rintro e w' ⟨rfl, d2, hw⟩; rw [World.drewN_drewN] at hw; subst hw)
        go_ret
        exact ⟨⟨_, rfl⟩, _, rfl, by rw [anyB_yes HV.out n hlt]; simp⟩
      · have hh' : p r = false := by simpa using hh
        have HV : Hid (∀ j, j < r + 1 → p j = false) := fun j hj => by
          by_cases e : j = r
          · rw [e]; exact hh'
          · exact HH.out j (by omega)
        rw [hh'] at hcall
        clear hh hh'
        go_wp2_with (go_at_fn gf; refine hcall.mono ?_; rintro e w' ⟨rfl, d2, hw⟩; rw [World.drewN_drewN] at hw; subst hw)
        go_roundw
        case rel => exact ⟨r + 1, _, by omega, by go_num, HV.out, rfl⟩
        case measure => simp [RowKit.intOf]; omega
    · have HV : Hid (∀ j, j < n → p j = false) := fun j hj => HH.out j (by omega)
      go_wp2
      go_ret
      exact ⟨⟨_, rfl⟩, _, rfl, by rw [anyB_no n HV.out]; rfl⟩
set_option maxHeartbeats 2000000 in
set_option maxRecDepth 100000 in
theorem containsDr_any {gf : Nat} {lb : Array Value} (eg : ∀ args w, (callFunc gf args).run Try.prog w = .ok (.enter gf args) w) {ao : Option Addr} {n cap : Nat} {A : Nat → Option Addr} {N C : Nat → Nat} {p : Nat → Bool} {w : World}
    (hs : ∀ j, j < n → ∃ b off, ao = some ⟨b, off, none⟩ ∧ w.cell? ⟨b, off + j, none⟩ = some (.slice (A j) (N j) (C j))) (hn : n ≤ 1000000) (hp : ∀ j k, j < n → Calls Try.prog gf (#[.slice (A j) (N j) (C j)] ++ lb) (w.drewN k) fun e w' => e = .returned (.bool (p j)) ∧ ∃ d, w' = (w.drewN k).drewN d) :
    Calls Try.prog 71 #[.slice ao n cap, .func (.func gf) #[] lb] w fun e w' => e = .returned (.bool (anyB p n)) ∧ ∃ d, w' = w.drewN d := by
  have HS : Hid (∀ cap, Calls Try.prog 74 #[.slice ao n cap, .func (.func gf) #[] lb] w fun e w' => (∃ d, w' = w.drewN d) ∧ ∃ i : Int, e = .returned (.int .i64 i) ∧ decide (0 ≤ i) = anyB p n) := fun cap => indexDr_any eg hs hn hp
  clear hs hp eg
  obtain ⟨y, hy⟩ : ∃ y, y = anyB p n := ⟨_, rfl⟩
  rw [← hy]
  have HY : Hid (y = anyB p n) := hy
  clear hy
  go_enter Try.func71, Try.ntmps71
  go_wp2_with (go_at_call 74; refine (HS.out _).mono ?_; rintro e w' ⟨⟨d, hw⟩, i, rfl, hi⟩; rw [← HY.out] at hi; subst hw)
  go_ret
  exact ⟨by first | rfl | simp_all, _, rfl⟩
theorem enters_joined : ∀ args w, (callFunc 72 args).run Try.prog w = .ok (.enter 72 args) w :=
  enters_of Try.func72 (by kernel_rfl) rfl
set_option maxHeartbeats 2000000 in
set_option maxRecDepth 100000 in
theorem joined1_any {D : FD} (hD : D ∈ fieldsL) {Fb T : Nat} {g : Nat → Value} {oo yo : Option Addr} {h co cy B1 B2 : Nat} {o y : Nat → Nat} {w : World} (hF : FAt Fb T D g w) (hc1 : w.cell? ⟨B1, 0, none⟩ = some (.pointer (some ⟨Fb, 0, none⟩))) (hc2 : w.cell? ⟨B2, 0, none⟩ = some (.slice oo h co)) (hO : Sl oo h o w) (hY : Sl yo h y w) (hh : h ≤ 1000) (eo : ∀ i, i < h → o i < D.q) (ey : ∀ i, i < h → y i < D.q) :
    Calls Try.prog 72 #[.slice yo h cy, .pointer (some ⟨B1, 0, none⟩), .pointer (some ⟨B2, 0, none⟩)] w fun e w' => e = .returned (.bool (decide (dot D o y h = 0))) ∧ ∃ d, w' = w.drewN d := by
  have HC : Hid (∀ ca cb, Calls Try.prog 27 #[.pointer (some ⟨Fb, 0, none⟩), .slice oo h ca, .slice yo h cb] w fun e w' => e = .returned (.int .i64 (dot D o y h : Nat)) ∧ ∃ d, w' = w.drewN d) := fun ca cb => nproduct_any hD hF hO hY hh eo ey
  obtain ⟨x, hx⟩ : ∃ x, x = dot D o y h := ⟨_, rfl⟩
  rw [← hx] at HC ⊢
  clear hD hF hO hY eo ey hx
  go_enter Try.func72, Try.ntmps72
  go_wp2_with (go_at_call 27; refine (HC.out _ _).mono ?_; rintro e w' ⟨rfl, d, hw⟩; subst hw)
  go_ret
  refine ⟨?_, _, rfl⟩
  congr 2
  first
    | (by_cases c : x = 0
       · subst c; rfl
       · simp [c])
    | skip
end Go.Proofs.Ytbnkekeeceicaaa
