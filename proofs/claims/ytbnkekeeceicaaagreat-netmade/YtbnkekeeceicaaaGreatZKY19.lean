/- Texts of ours, one behind the other: KY19 KY20. -/
import Derived.Test.YtbnkekeeceicaaaGreatZKY18
import Derived.Test.YtbnkekeeceicaaaGreatZKW8
import Derived.Test.YtbnkekeeceicaaaGreatZL1
import Derived.Test.YtbnkekeeceicaaaGreatZKF1
/- Nets: what both sides say of flows, cuts and plans, as one. -/
namespace Go.Proofs.YtbnkekeeceicaaaGreat
open Go.RowKit Go.Sort

theorem EdZ.congr {eo : Option Addr} {m : Nat} {F T F' T' : Nat → Int} {w : World} (h : EdZ eo m F T w) (he : ∀ i, i < m → F i = F' i ∧ T i = T' i) : EdZ eo m F' T' w := fun j hj => by
  obtain ⟨b, off, e, h0, h1⟩ := h j hj
  rw [(he j hj).1] at h0
  rw [(he j hj).2] at h1
  exact ⟨b, off, e, h0, h1⟩
/-- What is told of flow and cut: an error, or a number and a list. -/
structure FlB (n tx : Int) (eo : Option Addr) (m ec : Nat) (w : World) (E s best : Int) (L : List Int) : Prop where
  nought : s ≠ 0 → best = 0
  len : L.length ≤ 1000
  may : ∀ wx, Below w.heap.size w wx → Calls Tryz.prog 5 #[.agg #[.int .i64 n, .slice eo m ec]] wx fun e w' => e = .returned (.int .i64 E) ∧ Below wx.heap.size wx w'
  sink : ∀ wx, Below w.heap.size w wx → Calls Tryz.prog 6 #[.agg #[.int .i64 n, .slice eo m ec], .int .i64 tx] wx fun e w' => e = .returned (.int .i64 s) ∧ Below wx.heap.size wx w'
  chk : ∀ wx, Below w.heap.size w wx → Calls Tryz.prog 10 #[.agg #[.int .i64 n, .slice eo m ec]] wx fun e w' => e = .returned (.int .i64 E) ∧ Below wx.heap.size wx w'
  cuts : s = 0 → ∀ wx, Below w.heap.size w wx → Calls Tryz.prog 7 #[.agg #[.int .i64 n, .slice eo m ec], .int .i64 tx] wx fun r w' => ∃ v, r = .returned (.tuple #[.int .i64 best, v]) ∧ KI v L w' ∧ Below wx.heap.size wx w'
  flow : ∀ wx, Below w.heap.size w wx → Calls Tryz.prog 8 #[.agg #[.int .i64 n, .slice eo m ec], .int .i64 tx] wx fun e w' => e = .returned (.tuple #[.int .i64 best, .int .i64 s]) ∧ Below wx.heap.size wx w'
  cut : ∀ wx, Below w.heap.size w wx → Calls Tryz.prog 9 #[.agg #[.int .i64 n, .slice eo m ec], .int .i64 tx] wx fun e w' => ∃ v, e = .returned (.tuple #[v, .int .i64 s]) ∧ (s = 0 → KI v L w') ∧ (s ≠ 0 → v = .slice none 0 0) ∧ Below wx.heap.size wx w'
theorem fl_both (n tx : Int) {eo : Option Addr} {m ec : Nat} {F T : Nat → Int} {w : World} (hE : EdZ eo m F T w) (hm : m ≤ 100) : ∃ best L, FlB n tx eo m ec w (nchkE n m F T) (skchk n tx (nchkE n m F T)) best L := by
  have h1 : ∀ wx, Below w.heap.size w wx → Calls Tryz.prog 5 #[.agg #[.int .i64 n, .slice eo m ec]] wx fun e w' => e = .returned (.int .i64 (nchkE n m F T)) ∧ Below wx.heap.size wx w' := fun wx hb => rnetMay_any n (hE.below hb) (by omega)
  have h2 : ∀ wx, Below w.heap.size w wx → Calls Tryz.prog 6 #[.agg #[.int .i64 n, .slice eo m ec], .int .i64 tx] wx fun e w' => e = .returned (.int .i64 (skchk n tx (nchkE n m F T))) ∧ Below wx.heap.size wx w' := fun wx hb => rsinkMay_any n tx (hE.below hb) (by omega)
  have h3 : ∀ wx, Below w.heap.size w wx → Calls Tryz.prog 10 #[.agg #[.int .i64 n, .slice eo m ec]] wx fun e w' => e = .returned (.int .i64 (nchkE n m F T)) ∧ Below wx.heap.size wx w' := fun wx hb => nCheck_any n (hE.below hb) (by omega)
  have h4 : ∀ wx, Below w.heap.size w wx → Calls Tryz.prog 21 #[.agg #[.int .i64 n, .slice eo m ec], .int .i64 tx] wx fun e w' => e = .returned (.int .i64 (skchk n tx (nchkE n m F T))) ∧ Below wx.heap.size wx w' := fun wx hb => nCheckTo_any n tx (hE.below hb) (by omega)
  obtain ⟨s, hs⟩ : ∃ s, s = skchk n tx (nchkE n m F T) := ⟨_, rfl⟩
  rw [← hs] at h2 h4 ⊢
  by_cases h0 : s = 0
  · have hk : skchk n tx (nchkE n m F T) = 0 := by rw [← hs]; exact h0
    unfold skchk at hk
    by_cases c : nchkE n m F T ≠ 0
    · rw [if_pos c] at hk; exact absurd hk c
    · rw [if_neg c] at hk
      have c := Decidable.not_not.1 c
      by_cases d : tx < 1 ∨ n ≤ tx
      · rw [if_pos d] at hk; cases hk
      · obtain ⟨nn, hnn, q2, q10, q24, hN, hFT⟩ := nt_of c
        have hE' : EdZ eo m (fun i => (((F i).toNat : Nat) : Int)) (fun i => (((T i).toNat : Nat) : Int)) w := hE.congr hFT
        obtain ⟨t, ht⟩ : ∃ t : Nat, tx = (t : Int) := ⟨tx.toNat, by omega⟩
        subst hnn ht
        rw [h0] at h2 h4 ⊢
        refine ⟨((cuB m (fun i => (F i).toNat) (fun i => (T i).toNat) t (2 ^ (nn - 1))).1 : Nat), bls nn (cuB m (fun i => (F i).toNat) (fun i => (T i).toNat) t (2 ^ (nn - 1))).2, fun e => absurd rfl e, Nat.le_trans (bls_len _ _) (by omega), h1, h2, h3, fun _ wx hb => ?_, fun wx hb => ?_, fun wx hb => ?_⟩
        · refine (rcuts_any (hE'.below hb) hN (by omega) q10 hm (by omega)).mono ?_
          rintro r w' ⟨v, rfl, ho, hb'⟩
          exact ⟨v, rfl, ho.ki (Nat.le_trans (bls_len _ _) (by omega)), hb'⟩
        · exact nFlow_ok (hE'.below hb) hN (by omega) q10 hm (by omega) (by omega) (fun wy hy => h4 wy (bel_up' hb hy))
        · refine (nCut_ok (hE'.below hb) hN (by omega) q10 hm (by omega) (by omega) (fun wy hy => h4 wy (bel_up' hb hy))).mono ?_
          rintro r w' ⟨v, rfl, ho, hb'⟩
          exact ⟨v, rfl, fun _ => ho.ki (Nat.le_trans (bls_len _ _) (by omega)), fun e => absurd rfl e, hb'⟩
  · refine ⟨0, [], fun _ => rfl, by simp, h1, h2, h3, fun e => absurd e h0, fun wx hb => nFlow_err h0 n tx (fun wy hy => h4 wy (bel_up' hb hy)), fun wx hb => ?_⟩
    refine (nCut_err h0 n tx (fun wy hy => h4 wy (bel_up' hb hy))).mono ?_
    rintro r w' ⟨rfl, hb'⟩
    exact ⟨_, rfl, fun e => absurd e h0, fun _ => rfl, hb'⟩
/-- What Plan tells where it may be asked for: vectors that the reference's Carries is told to carry. -/
def PlO (D : FD) (n h : Int) (eo so : Option Addr) (m ec k sc : Nat) (w : World) (e : Ending) (w' : World) : Prop :=
  ∃ (G : Nat), e = .returned (.tuple #[.slice (some ⟨G, 0, none⟩) m m, .int .i64 0]) ∧ Below w.heap.size w w' ∧ ∀ gm cm wx, Below w'.heap.size w' wx → ModAt D (.slice (some ⟨gm, 0, none⟩) (D.m + 1) cm) D.md wx →
    Calls Tryz.prog 16 #[.agg #[.int .i64 D.q, .int .i64 D.p, .int .i64 D.m, .int .i64 D.gen, .slice (some ⟨gm, 0, none⟩) (D.m + 1) cm], .agg #[.int .i64 n, .slice eo m ec], .slice so k sc, .int .i64 h, .slice (some ⟨G, 0, none⟩) m m] wx fun e w' => e = .returned (.bool true) ∧ Below wx.heap.size wx w'
/-- What is told of a plan: an error, or vectors. -/
structure PlB (q n h : Int) (eo so : Option Addr) (m ec k sc : Nat) (w : World) (e : Int) : Prop where
  may : ∀ wx, Below w.heap.size w wx → Calls Tryz.prog 13 #[.int .i64 q, .agg #[.int .i64 n, .slice eo m ec], .slice so k sc, .int .i64 h] wx fun x w' => x = .returned (.int .i64 e) ∧ Below wx.heap.size wx w'
  no : e ≠ 0 → ∀ wx, Below w.heap.size w wx → Calls Tryz.prog 14 #[.int .i64 q, .agg #[.int .i64 n, .slice eo m ec], .slice so k sc, .int .i64 h] wx fun x w' => x = .returned (.tuple #[.slice none 0 0, .int .i64 e]) ∧ Below wx.heap.size wx w'
  yes : e = 0 → ∃ D ∈ fieldsL, (D.q : Int) = q ∧ ∀ wx, Below w.heap.size w wx → Calls Tryz.prog 14 #[.int .i64 q, .agg #[.int .i64 n, .slice eo m ec], .slice so k sc, .int .i64 h] wx (PlO D n h eo so m ec k sc wx)
theorem pl_both (q n h : Int) {eo so : Option Addr} {m ec k sc : Nat} {F T z : Nat → Int} {w : World} (hE : EdZ eo m F T w) (hm : m ≤ 100) (hS : SlZ so k z w) (hk : k ≤ 100) (hc : k ≤ sc) : ∃ e, PlB q n h eo so m ec k sc w e := by
  by_cases hq : ∃ D ∈ fieldsL, (D.q : Int) = q
  · obtain ⟨D, hD, rfl⟩ := hq
    have h2 : ∀ wy : World, Calls Tryz.prog 15 #[.int .i64 D.q] wy fun e w' => ∃ gm cm, e = .returned (.tuple #[.agg #[.int .i64 D.q, .int .i64 D.p, .int .i64 D.m, .int .i64 D.gen, .slice (some ⟨gm, 0, none⟩) (D.m + 1) cm], .int .i64 0]) ∧ Below wy.heap.size wy w' := fun wy => by
      refine (rfield_sl hD wy).mono ?_
      rintro e w' ⟨gm, cm, rfl, _, hb⟩
      exact ⟨gm, cm, rfl, hb⟩
    have h3 : ∀ wy, Below w.heap.size w wy → Calls Tryz.prog 29 #[.int .i64 D.q, .agg #[.int .i64 n, .slice eo m ec], .slice so k sc, .int .i64 h] wy fun e w' => e = .returned (.int .i64 (spchk D.q n h k z (nchkE n m F T))) ∧ Below wy.heap.size wy w' := fun wy hy => checkSinks_any D.q n h (hE.below hy) (by omega) (slz_below hS hy) (by omega) hc
    by_cases h0 : spchk D.q n h k z (nchkE n m F T) = 0
    · obtain ⟨p1, p2, p3, p4, p5, p6⟩ := spchk_zero h0
      obtain ⟨nn, hnn, q2, q10, q24, hN, hFT⟩ := nt_of p1
      subst hnn
      obtain ⟨hh, hhe⟩ : ∃ hh : Nat, h = (hh : Int) := ⟨h.toNat, by omega⟩
      subst hhe
      obtain ⟨Fn, hFn⟩ : ∃ Fn : Nat → Nat, Fn = fun i => (F i).toNat := ⟨_, rfl⟩
      obtain ⟨Tn, hTn⟩ : ∃ Tn : Nat → Nat, Tn = fun i => (T i).toNat := ⟨_, rfl⟩
      obtain ⟨tt, htt⟩ : ∃ tt : Nat → Nat, tt = fun i => (z i).toNat := ⟨_, rfl⟩
      rw [← hFn, ← hTn] at hN
      have hE' : EdZ eo m (fun i => ((Fn i : Nat) : Int)) (fun i => ((Tn i : Nat) : Int)) w := hE.congr (by rw [hFn, hTn]; exact hFT)
      have hz : ∀ s, s < k → z s = ((tt s : Nat) : Int) := fun s hs => by
        have := (snks_at p6 hs).1
        rw [htt]; show z s = (((z s).toNat : Nat) : Int); omega
      have ht : ∀ s, s < k → tt s < nn ∧ tt s ≠ 0 := fun s hs => by
        have := (snks_at p6 hs).1
        have := hz s hs
        omega
      have hS' : SlZ so k (fun s => ((tt s : Nat) : Int)) w := fun j hj => by
        obtain ⟨b, off, e, hcx⟩ := hS j hj
        rw [hz j hj] at hcx
        exact ⟨b, off, e, hcx⟩
      rw [h0] at h3
      have hsp : spchk D.q (nn : Nat) (hh : Nat) k (fun s => ((tt s : Nat) : Int)) (nchkE (nn : Nat) m (fun i => ((Fn i : Nat) : Int)) (fun i => ((Tn i : Nat) : Int))) = 0 := by
        have e1 : nchkE (nn : Nat) m (fun i => ((Fn i : Nat) : Int)) (fun i => ((Tn i : Nat) : Int)) = nchkE (nn : Nat) m F T := by
          have he : ∀ j, j ≤ m → edOk (nn : Nat) (fun i => ((Fn i : Nat) : Int)) (fun i => ((Tn i : Nat) : Int)) j = edOk (nn : Nat) F T j := fun j => by
            induction j with
            | zero => intro _; rfl
            | succ j ih =>
              intro hj
              have hf := hFT j (by omega)
              unfold edOk
              rw [ih (by omega), hFn, hTn]
              show _ = _
              simp only []
              rw [← hf.1, ← hf.2]
          unfold nchkE
          rw [he m (Nat.le_refl _)]
        have e2 : ∀ j, j ≤ k → snks (nn : Nat) (fun s => ((tt s : Nat) : Int)) j = snks (nn : Nat) z j := fun j => by
          induction j with
          | zero => intro _; rfl
          | succ j ih =>
            intro hj
            have h9 : zl j (fun s => ((tt s : Nat) : Int)) = zl j z := zl_congr (fun i hi => (hz i (by omega)).symm)
            unfold snks
            rw [ih (by omega), h9]
            simp only [← hz j (by omega)]
        rw [e1]
        unfold spchk at h0 ⊢
        rw [e2 k (Nat.le_refl _)]
        exact h0
      have hM : ∀ wx, Below w.heap.size w wx → Calls Tryz.prog 13 #[.int .i64 D.q, .agg #[.int .i64 (nn : Nat), .slice eo m ec], .slice so k sc, .int .i64 (hh : Nat)] wx (PmP nn m hh k Fn Tn tt wx) := fun wx hx => rplanMay_ok (hE'.below hx) hN (by omega) q10 q24 (slz_below hS' hx) (by omega) hc (fun wy _ => h2 wy) hsp
      have hP : ∀ wx, Below w.heap.size w wx → Calls Tryz.prog 14 #[.int .i64 D.q, .agg #[.int .i64 (nn : Nat), .slice eo m ec], .slice so k sc, .int .i64 (hh : Nat)] wx (PlnP D nn m hh k Fn Tn tt wx) := fun wx hx => plan_any hD (hE'.below hx) hN (by omega) q10 q24 (by omega) (by omega) (by omega) (by omega) (slz_below hS' hx) hc ht (fun wy hy => h3 wy (bel_up' hx hy))
      by_cases hct : ctLs nn m hh Fn Tn tt k = true
      · refine ⟨9, fun wx hx => ?_, fun _ wx hx => ?_, fun e => by cases e⟩
        · refine (hM wx hx).mono ?_
          rintro e w' ⟨x, rfl, h9, _, hb⟩
          rw [h9 hct]; exact ⟨rfl, hb⟩
        · refine (hP wx hx).mono ?_
          rintro e w' (⟨_, rfl, hb⟩ | ⟨hn9, _⟩)
          · exact ⟨rfl, hb⟩
          · rw [ctLs_no hn9] at hct; cases hct
      · have hcf : ctLs nn m hh Fn Tn tt k = false := by simpa using hct
        refine ⟨0, fun wx hx => ?_, fun e => absurd rfl e, fun _ => ⟨D, hD, rfl, fun wx hx => ?_⟩⟩
        · refine (hM wx hx).mono ?_
          rintro e w' ⟨x, rfl, _, h9, hb⟩
          rw [h9 hcf]; exact ⟨rfl, hb⟩
        · refine (hP wx hx).mono ?_
          rintro e w' (⟨h9, _, _⟩ | ⟨_, G, vo, V, rfl, _, hR, hv, hPl, hb⟩)
          · exact absurd ((ctLs_yes k).2 h9) hct
          · refine ⟨G, rfl, hb, fun gm cm wy hy hMd => ?_⟩
            have hxy := bel_up' (bel_up' hx hb) hy
            exact rcarries_any hD (hE'.below hxy) q24 (by omega) (by omega) (by omega) (slz_below hS' hxy) ((VcM.mk hR hv).below hy) hPl hMd
    · exact ⟨_, fun wx hx => rplanMay_any n h (hE.below hx) (by omega) (slz_below hS hx) (by omega) hc (fun wy _ => h2 wy) h0, fun _ wx hx => plan_err hD n h h0 (fun wy hy => h3 wy (bel_up' hx hy)), fun e => absurd e h0⟩
  · have hq' : ∀ D ∈ fieldsL, (D.q : Int) ≠ q := fun D hD e => hq ⟨D, hD, e⟩
    refine ⟨1, fun wx hx => rplanMay_none q n h (by decide) (fun wy _ => (rfield_none q wy hq').mono ?_), fun _ wx hx => plan_none q n h hq', fun e => by cases e⟩
    rintro e w' ⟨rfl, hb⟩
    exact ⟨⟨_, _, _, _, _, _, _, rfl⟩, hb⟩
end Go.Proofs.YtbnkekeeceicaaaGreat

/- NetSays: whatever it is given (the walk). -/
namespace Go.Proofs.YtbnkekeeceicaaaGreat
open Go.RowKit Go.Sort

theorem bel_upB {B : Nat} {w w1 w2 : World} (_ : B = w.heap.size) (h1 : Below B w w1) (h2 : Below w1.heap.size w1 w2) : Below B w w2 := by
  subst B
  exact bel_up' h1 h2
theorem num_net {e k : Int} (hk : e ≠ 0 → k = 0) (w : World) : Calls Tryz.prog 11 #[.int .i64 k, .int .i64 e, .int .i64 k, .int .i64 e] w fun r w' => r = .returned (.bool true) ∧ w' = w := by
  by_cases h0 : e = 0
  · subst h0; exact num_same k w
  · rw [hk h0]; exact num_err e h0 0 w
set_option maxHeartbeats 1000000 in
theorem netSays_long (q n tx h : Int) {eo so : Option Addr} {m ec k sc : Nat} {w : World} (hm : m ≤ 17592186044416) (hk : k ≤ 17592186044416) (hl : 100 < m ∨ 100 < k) :
    Calls Tryz.prog 3 #[.int .i64 q, .agg #[.int .i64 n, .slice eo m ec], .int .i64 tx, .slice so k sc, .int .i64 h] w fun e w' => e = .returned (.bool true) ∧ Below w.heap.size w w' := by
  have hba : Below w.heap.size w (w.alloc (.cells #[.int .i64 n, .slice eo m ec] 24)) := (Below.refl _ _).alloc (Nat.le_refl _) _
  have HB : Hid _ := hba
  clear hba
  by_cases h1 : 100 < m
  · have d1 : decide (100 < (m : Int)) = true := decide_eq_true (by omega)
    have d2 : (100 : Int) < (m : Int) := by omega
    clear hl
    go_enter Tryz.func3, Tryz.ntmps3
    go_wp2
    go_ret
    exact ⟨rfl, HB.out⟩
  · have d1 : decide (100 < (m : Int)) = false := decide_eq_false (by omega)
    have d3 : ¬ (100 : Int) < (m : Int) := by omega
    have d2 : (100 : Int) < (k : Int) := by omega
    clear hl
    go_enter Tryz.func3, Tryz.ntmps3
    go_wp2
    go_ret
    exact ⟨rfl, HB.out⟩
set_option maxHeartbeats 8000000 in
set_option maxRecDepth 100000 in
theorem netSays_go (q n tx h : Int) {eo so : Option Addr} {m ec k sc : Nat} {E s best e : Int} {L : List Int} {w : World} (hm : m ≤ 100) (hk : k ≤ 100) (hF : FlB n tx eo m ec w E s best L) (hP : PlB q n h eo so m ec k sc w e) :
    Calls Tryz.prog 3 #[.int .i64 q, .agg #[.int .i64 n, .slice eo m ec], .int .i64 tx, .slice so k sc, .int .i64 h] w fun e w' => e = .returned (.bool true) ∧ Below w.heap.size w w' := by
  have d1 : decide (100 < (m : Int)) = false := decide_eq_false (by omega)
  have d2 : ¬ (100 : Int) < (k : Int) := by omega
  have d3 : ¬ (100 : Int) < (m : Int) := by omega
  obtain ⟨wa, hwa⟩ : ∃ wa, wa = w.alloc (.cells #[.int .i64 n, .slice eo m ec] 24) := ⟨_, rfl⟩
  have hba : Below w.heap.size w wa := by rw [hwa]; exact (Below.refl _ _).alloc (Nat.le_refl _) _
  have hsa : w.heap.size < wa.heap.size := by rw [hwa]; simp
  have HA : Hid (NB w.heap.size n (.slice eo m ec) wa ∧ Below w.heap.size w wa) := ⟨by rw [hwa]; exact NB.new _ _ _, hba⟩
  have HF : Hid (FlB n tx eo m ec w E s best L) := hF
  have HP : Hid (PlB q n h eo so m ec k sc w e) := hP
  clear hF hP hba
  obtain ⟨B, hB⟩ : ∃ B, B = w.heap.size := ⟨_, rfl⟩
  rw [← hB] at HA hsa
  have HBe : Hid (B = w.heap.size) := hB
  go_enter Tryz.func3, Tryz.ntmps3
  obtain ⟨c0, c1⟩ := HA.out.1
  have c0' := c0
  have c1' := c1
  rw [hwa, hB] at c0' c1'
  go_wp2_with fail
  clear c0' c1'
  rw [← hwa, ← hB]
  clear hwa hB d1 d2 d3
  refine (HF.out.may wa (by have := HA.out.2; rw [HBe.out] at this; exact this)).mono ?_
  rintro x w1 ⟨rfl, hb⟩
  have H1 : Hid (NB B n (.slice eo m ec) w1 ∧ Below B w w1) := ⟨HA.out.1.keep hb, bel_upB HBe.out HA.out.2 hb⟩
  clear hb c0 c1 hsa
  obtain ⟨c0, c1⟩ := H1.out.1
  go_wp2_with fail
  refine (HF.out.sink w1 (by have := H1.out.2; rw [HBe.out] at this; exact this)).mono ?_
  rintro x w2 ⟨rfl, hb⟩
  have H2 : Hid (NB B n (.slice eo m ec) w2 ∧ Below B w w2) := ⟨H1.out.1.keep hb, bel_upB HBe.out H1.out.2 hb⟩
  clear hb c0 c1 H1 HA
  obtain ⟨c0, c1⟩ := H2.out.1
  by_cases hs : s = 0
  · have hC := HF.out.cuts hs w2 (by have := H2.out.2; rw [HBe.out] at this; exact this)
    have HZ : Hid (s = 0) := hs
    subst hs
    have HCu : Hid (Calls Tryz.prog 7 #[.agg #[.int .i64 n, .slice eo m ec], .int .i64 tx] w2 fun r w' => ∃ v, r = .returned (.tuple #[.int .i64 best, v]) ∧ KI v L w' ∧ Below w2.heap.size w2 w') := hC
    clear hC
    go_wp2_with fail
    refine HCu.out.mono ?_
    rintro x w3 ⟨vC, rfl, hki, hb⟩
    have H3 : Hid (NB B n (.slice eo m ec) w3 ∧ Below B w w3 ∧ KI vC L w3) := ⟨H2.out.1.keep hb, bel_upB HBe.out H2.out.2 hb, hki⟩
    clear hb c0 c1 H2 HCu hki
    obtain ⟨c0, c1⟩ := H3.out.1
    go_wp2_with fail
    refine (HF.out.flow w3 (by have := H3.out.2.1; rw [HBe.out] at this; exact this)).mono ?_
    rintro x w4 ⟨rfl, hb⟩
    have H4 : Hid (NB B n (.slice eo m ec) w4 ∧ Below B w w4 ∧ KI vC L w4) := ⟨H3.out.1.keep hb, bel_upB HBe.out H3.out.2.1 hb, H3.out.2.2.below hb⟩
    clear hb c0 c1 H3
    obtain ⟨c0, c1⟩ := H4.out.1
    go_wp2_with fail
    refine (HF.out.cut w4 (by have := H4.out.2.1; rw [HBe.out] at this; exact this)).mono ?_
    rintro x w5 ⟨vD, rfl, hk1, hk2, hb⟩
    have H5 : Hid (NB B n (.slice eo m ec) w5 ∧ Below B w w5 ∧ KI vC L w5 ∧ KI vD L w5) := ⟨H4.out.1.keep hb, bel_upB HBe.out H4.out.2.1 hb, H4.out.2.2.below hb, hk1 rfl⟩
    clear hb c0 c1 H4 hk1 hk2
    obtain ⟨c0, c1⟩ := H5.out.1
    go_wp2_with fail
    refine (HF.out.chk w5 (by have := H5.out.2.1; rw [HBe.out] at this; exact this)).mono ?_
    rintro x w6 ⟨rfl, hb⟩
    have H6 : Hid (NB B n (.slice eo m ec) w6 ∧ Below B w w6) := ⟨H5.out.1.keep hb, bel_upB HBe.out H5.out.2.1 hb⟩
    have HLi : Hid (Calls Tryz.prog 12 #[vD, .int .i64 0, vC, .int .i64 0] w6 fun r w' => r = .returned (.bool true) ∧ ∃ n, w' = w6.drewN n) := list_gen (Or.inr ⟨rfl, L, (H5.out.2.2.2.below hb).1, (H5.out.2.2.1.below hb).1⟩)
    have HNu : Hid (Calls Tryz.prog 11 #[.int .i64 best, .int .i64 0, .int .i64 best, .int .i64 0] w6 fun r w' => r = .returned (.bool true) ∧ w' = w6) := num_net (fun e => absurd rfl e) w6
    have zE : (E != E) = false := by simp
    clear hb c0 c1 H5
    go_wp2_with fail
    refine HNu.out.mono ?_
    rintro x wn ⟨rfl, hwn⟩
    replace hwn := hwn.symm
    subst hwn
    go_wp2_with fail
    refine HLi.out.mono ?_
    rintro x w7 ⟨rfl, d7, hd7⟩
    have H7 : Hid (NB B n (.slice eo m ec) w7 ∧ Below B w w7) := by
      have hb : Below w6.heap.size w6 w7 := by rw [hd7]; exact below_drewN2 (Below.refl _ _) d7
      exact ⟨H6.out.1.keep hb, bel_upB HBe.out H6.out.2 hb⟩
    clear hd7 H6 HLi HNu zE
    obtain ⟨c0, c1⟩ := H7.out.1
    go_wp2_with fail
    refine (HP.out.may w7 (by have := H7.out.2; rw [HBe.out] at this; exact this)).mono ?_
    rintro x w8 ⟨rfl, hb⟩
    have H8 : Hid (NB B n (.slice eo m ec) w8 ∧ Below B w w8) := ⟨H7.out.1.keep hb, bel_upB HBe.out H7.out.2 hb⟩
    clear hb c0 c1 H7
    obtain ⟨c0, c1⟩ := H8.out.1
    go_wp2_with fail
    by_cases he : e = 0
    · obtain ⟨D, hD, hDq, hPl⟩ := HP.out.yes he
      have HPl : Hid (Calls Tryz.prog 14 #[.int .i64 q, .agg #[.int .i64 n, .slice eo m ec], .slice so k sc, .int .i64 h] w8 (PlO D n h eo so m ec k sc w8)) := hPl w8 (by have := H8.out.2; rw [HBe.out] at this; exact this)
      have HD : Hid (D ∈ fieldsL ∧ (D.q : Int) = q) := ⟨hD, hDq⟩
      clear hD hDq hPl
      have ze : (e != 0) = false := by rw [he]; rfl
      clear he
      refine HPl.out.mono ?_
      rintro x w9 ⟨G, rfl, hb, hCa⟩
      have H9 : Hid (NB B n (.slice eo m ec) w9 ∧ Below B w w9) := ⟨H8.out.1.keep hb, bel_upB HBe.out H8.out.2 hb⟩
      have HCa : Hid (∀ gm cm wx, Below w9.heap.size w9 wx → ModAt D (.slice (some ⟨gm, 0, none⟩) (D.m + 1) cm) D.md wx → Calls Tryz.prog 16 #[.agg #[.int .i64 D.q, .int .i64 D.p, .int .i64 D.m, .int .i64 D.gen, .slice (some ⟨gm, 0, none⟩) (D.m + 1) cm], .agg #[.int .i64 n, .slice eo m ec], .slice so k sc, .int .i64 h, .slice (some ⟨G, 0, none⟩) m m] wx fun e w' => e = .returned (.bool true) ∧ Below wx.heap.size wx w') := hCa
      have HFi : Hid (Calls Tryz.prog 15 #[.int .i64 q] w9 fun e w' => ∃ gm cm, e = .returned (.tuple #[.agg #[.int .i64 D.q, .int .i64 D.p, .int .i64 D.m, .int .i64 D.gen, .slice (some ⟨gm, 0, none⟩) (D.m + 1) cm], .int .i64 0]) ∧ ModAt D (.slice (some ⟨gm, 0, none⟩) (D.m + 1) cm) D.md w' ∧ Below w9.heap.size w9 w') := by
        have h9 := rfield_sl HD.out.1 w9
        rw [HD.out.2] at h9
        exact h9
      clear hb hCa c0 c1 H8 HPl
      obtain ⟨c0, c1⟩ := H9.out.1
      go_wp2_with fail
      refine HFi.out.mono ?_
      rintro x w10 ⟨gm, cm, rfl, hMd, hb⟩
      obtain ⟨wf, hwf⟩ : ∃ wf, wf = w10.alloc (.cells #[.int .i64 D.q, .int .i64 D.p, .int .i64 D.m, .int .i64 D.gen, .slice (some ⟨gm, 0, none⟩) (D.m + 1) cm] 42) := ⟨_, rfl⟩
      have hbf : Below w10.heap.size w10 wf := by rw [hwf]; exact (Below.refl _ _).alloc (Nat.le_refl _) _
      have HBx := box_new D D.gen (.slice (some ⟨gm, 0, none⟩) (D.m + 1) cm) w10
      obtain ⟨k0, k1, k2, k3, k4⟩ := HBx
      have Hf : Hid (NB B n (.slice eo m ec) wf ∧ Below B w wf ∧ Below w9.heap.size w9 wf ∧ ModAt D (.slice (some ⟨gm, 0, none⟩) (D.m + 1) cm) D.md wf) := ⟨(H9.out.1.keep hb).keep hbf, bel_upB HBe.out (bel_upB HBe.out H9.out.2 hb) hbf, bel_up' hb hbf, hMd.below hbf⟩
      obtain ⟨f0, f1⟩ := Hf.out.1
      rw [hwf] at f0 f1
      clear hb hbf hMd c0 c1
      go_wp2_with fail
      rw [← hwf]
      clear hwf k0 k1 k2 k3 k4 f0 f1
      refine (HCa.out gm cm wf Hf.out.2.2.1 Hf.out.2.2.2).mono ?_
      rintro x w11 ⟨rfl, hb⟩
      have H11 : Hid (Below w.heap.size w w11) := by
        have h9 := bel_upB HBe.out Hf.out.2.1 hb
        rw [HBe.out] at h9
        exact h9
      clear hb
      go_wp2
      go_ret
      exact ⟨rfl, H11.out⟩
    · have HPl : Hid (Calls Tryz.prog 14 #[.int .i64 q, .agg #[.int .i64 n, .slice eo m ec], .slice so k sc, .int .i64 h] w8 fun x w' => x = .returned (.tuple #[.slice none 0 0, .int .i64 e]) ∧ Below w8.heap.size w8 w') := HP.out.no he w8 (by have := H8.out.2; rw [HBe.out] at this; exact this)
      have ze : (e != 0) = true := bne_iff_ne.2 he
      have zz : (e == e) = true := by simp
      clear he
      refine HPl.out.mono ?_
      rintro x w9 ⟨rfl, hb⟩
      have H9 : Hid (Below w.heap.size w w9) := by
        have h9 := bel_upB HBe.out H8.out.2 hb
        rw [HBe.out] at h9
        exact h9
      clear hb c0 c1
      go_wp2
      go_ret
      exact ⟨rfl, H9.out⟩
  · have hn0 := HF.out.nought hs
    subst hn0
    have HZ : Hid (s ≠ 0) := hs
    have zs : (s == 0) = false := beq_eq_false_iff_ne.2 hs
    clear hs
    obtain ⟨w3, hw3⟩ : ∃ w3, w3 = w2 := ⟨_, rfl⟩
    rw [← hw3] at H2 c0 c1 ⊢
    clear hw3 w2
    have H3 : Hid (NB B n (.slice eo m ec) w3 ∧ Below B w w3) := H2
    clear H2
    go_wp2_with fail
    refine (HF.out.flow w3 (by have := H3.out.2; rw [HBe.out] at this; exact this)).mono ?_
    rintro x w4 ⟨rfl, hb⟩
    have H4 : Hid (NB B n (.slice eo m ec) w4 ∧ Below B w w4) := ⟨H3.out.1.keep hb, bel_upB HBe.out H3.out.2 hb⟩
    clear hb c0 c1 H3
    obtain ⟨c0, c1⟩ := H4.out.1
    go_wp2_with fail
    refine (HF.out.cut w4 (by have := H4.out.2; rw [HBe.out] at this; exact this)).mono ?_
    rintro x w5 ⟨vD, rfl, hk1, hk2, hb⟩
    have H5 : Hid (NB B n (.slice eo m ec) w5 ∧ Below B w w5 ∧ vD = .slice none 0 0) := ⟨H4.out.1.keep hb, bel_upB HBe.out H4.out.2 hb, hk2 HZ.out⟩
    clear hb c0 c1 H4 hk1 hk2
    obtain ⟨c0, c1⟩ := H5.out.1
    go_wp2_with fail
    refine (HF.out.chk w5 (by have := H5.out.2.1; rw [HBe.out] at this; exact this)).mono ?_
    rintro x w6 ⟨rfl, hb⟩
    have H6 : Hid (NB B n (.slice eo m ec) w6 ∧ Below B w w6) := ⟨H5.out.1.keep hb, bel_upB HBe.out H5.out.2.1 hb⟩
    have HLi : Hid (Calls Tryz.prog 12 #[vD, .int .i64 s, .slice none 0 0, .int .i64 s] w6 fun r w' => r = .returned (.bool true) ∧ ∃ n, w' = w6.drewN n) := list_gen (Or.inl ⟨HZ.out, none, 0, H5.out.2.2⟩)
    have HNu : Hid (Calls Tryz.prog 11 #[.int .i64 0, .int .i64 s, .int .i64 0, .int .i64 s] w6 fun r w' => r = .returned (.bool true) ∧ w' = w6) := num_net (fun _ => rfl) w6
    have zE : (E != E) = false := by simp
    clear hb c0 c1 H5
    go_wp2_with fail
    refine HNu.out.mono ?_
    rintro x wn ⟨rfl, hwn⟩
    replace hwn := hwn.symm
    subst hwn
    go_wp2_with fail
    refine HLi.out.mono ?_
    rintro x w7 ⟨rfl, d7, hd7⟩
    have H7 : Hid (NB B n (.slice eo m ec) w7 ∧ Below B w w7) := by
      have hb : Below w6.heap.size w6 w7 := by rw [hd7]; exact below_drewN2 (Below.refl _ _) d7
      exact ⟨H6.out.1.keep hb, bel_upB HBe.out H6.out.2 hb⟩
    clear hd7 H6 HLi HNu zE
    obtain ⟨c0, c1⟩ := H7.out.1
    go_wp2_with fail
    refine (HP.out.may w7 (by have := H7.out.2; rw [HBe.out] at this; exact this)).mono ?_
    rintro x w8 ⟨rfl, hb⟩
    have H8 : Hid (NB B n (.slice eo m ec) w8 ∧ Below B w w8) := ⟨H7.out.1.keep hb, bel_upB HBe.out H7.out.2 hb⟩
    clear hb c0 c1 H7
    obtain ⟨c0, c1⟩ := H8.out.1
    go_wp2_with fail
    by_cases he : e = 0
    · obtain ⟨D, hD, hDq, hPl⟩ := HP.out.yes he
      have HPl : Hid (Calls Tryz.prog 14 #[.int .i64 q, .agg #[.int .i64 n, .slice eo m ec], .slice so k sc, .int .i64 h] w8 (PlO D n h eo so m ec k sc w8)) := hPl w8 (by have := H8.out.2; rw [HBe.out] at this; exact this)
      have HD : Hid (D ∈ fieldsL ∧ (D.q : Int) = q) := ⟨hD, hDq⟩
      clear hD hDq hPl
      have ze : (e != 0) = false := by rw [he]; rfl
      clear he
      refine HPl.out.mono ?_
      rintro x w9 ⟨G, rfl, hb, hCa⟩
      have H9 : Hid (NB B n (.slice eo m ec) w9 ∧ Below B w w9) := ⟨H8.out.1.keep hb, bel_upB HBe.out H8.out.2 hb⟩
      have HCa : Hid (∀ gm cm wx, Below w9.heap.size w9 wx → ModAt D (.slice (some ⟨gm, 0, none⟩) (D.m + 1) cm) D.md wx → Calls Tryz.prog 16 #[.agg #[.int .i64 D.q, .int .i64 D.p, .int .i64 D.m, .int .i64 D.gen, .slice (some ⟨gm, 0, none⟩) (D.m + 1) cm], .agg #[.int .i64 n, .slice eo m ec], .slice so k sc, .int .i64 h, .slice (some ⟨G, 0, none⟩) m m] wx fun e w' => e = .returned (.bool true) ∧ Below wx.heap.size wx w') := hCa
      have HFi : Hid (Calls Tryz.prog 15 #[.int .i64 q] w9 fun e w' => ∃ gm cm, e = .returned (.tuple #[.agg #[.int .i64 D.q, .int .i64 D.p, .int .i64 D.m, .int .i64 D.gen, .slice (some ⟨gm, 0, none⟩) (D.m + 1) cm], .int .i64 0]) ∧ ModAt D (.slice (some ⟨gm, 0, none⟩) (D.m + 1) cm) D.md w' ∧ Below w9.heap.size w9 w') := by
        have h9 := rfield_sl HD.out.1 w9
        rw [HD.out.2] at h9
        exact h9
      clear hb hCa c0 c1 H8 HPl
      obtain ⟨c0, c1⟩ := H9.out.1
      go_wp2_with fail
      refine HFi.out.mono ?_
      rintro x w10 ⟨gm, cm, rfl, hMd, hb⟩
      obtain ⟨wf, hwf⟩ : ∃ wf, wf = w10.alloc (.cells #[.int .i64 D.q, .int .i64 D.p, .int .i64 D.m, .int .i64 D.gen, .slice (some ⟨gm, 0, none⟩) (D.m + 1) cm] 42) := ⟨_, rfl⟩
      have hbf : Below w10.heap.size w10 wf := by rw [hwf]; exact (Below.refl _ _).alloc (Nat.le_refl _) _
      have HBx := box_new D D.gen (.slice (some ⟨gm, 0, none⟩) (D.m + 1) cm) w10
      obtain ⟨k0, k1, k2, k3, k4⟩ := HBx
      have Hf : Hid (NB B n (.slice eo m ec) wf ∧ Below B w wf ∧ Below w9.heap.size w9 wf ∧ ModAt D (.slice (some ⟨gm, 0, none⟩) (D.m + 1) cm) D.md wf) := ⟨(H9.out.1.keep hb).keep hbf, bel_upB HBe.out (bel_upB HBe.out H9.out.2 hb) hbf, bel_up' hb hbf, hMd.below hbf⟩
      obtain ⟨f0, f1⟩ := Hf.out.1
      rw [hwf] at f0 f1
      clear hb hbf hMd c0 c1
      go_wp2_with fail
      rw [← hwf]
      clear hwf k0 k1 k2 k3 k4 f0 f1
      refine (HCa.out gm cm wf Hf.out.2.2.1 Hf.out.2.2.2).mono ?_
      rintro x w11 ⟨rfl, hb⟩
      have H11 : Hid (Below w.heap.size w w11) := by
        have h9 := bel_upB HBe.out Hf.out.2.1 hb
        rw [HBe.out] at h9
        exact h9
      clear hb
      go_wp2
      go_ret
      exact ⟨rfl, H11.out⟩
    · have HPl : Hid (Calls Tryz.prog 14 #[.int .i64 q, .agg #[.int .i64 n, .slice eo m ec], .slice so k sc, .int .i64 h] w8 fun x w' => x = .returned (.tuple #[.slice none 0 0, .int .i64 e]) ∧ Below w8.heap.size w8 w') := HP.out.no he w8 (by have := H8.out.2; rw [HBe.out] at this; exact this)
      have ze : (e != 0) = true := bne_iff_ne.2 he
      have zz : (e == e) = true := by simp
      clear he
      refine HPl.out.mono ?_
      rintro x w9 ⟨rfl, hb⟩
      have H9 : Hid (Below w.heap.size w w9) := by
        have h9 := bel_upB HBe.out H8.out.2 hb
        rw [HBe.out] at h9
        exact h9
      clear hb c0 c1
      go_wp2
      go_ret
      exact ⟨rfl, H9.out⟩
theorem netSays_walk (q n tx h : Int) {eo so : Option Addr} {m ec k sc : Nat} {F T z : Nat → Int} {w : World} (hE : EdZ eo m F T w) (hm : m ≤ 17592186044416) (hS : ArgL so k sc z w) (hk : k ≤ 17592186044416) :
    Calls Tryz.prog 3 #[.int .i64 q, .agg #[.int .i64 n, .slice eo m ec], .int .i64 tx, .slice so k sc, .int .i64 h] w fun e w' => e = .returned (.bool true) ∧ Below w.heap.size w w' := by
  by_cases hl : 100 < m ∨ 100 < k
  · exact netSays_long q n tx h hm hk hl
  · have hm1 : m ≤ 100 := by omega
    have hk1 : k ≤ 100 := by omega
    obtain ⟨best, L, hF⟩ := fl_both n tx (ec := ec) hE hm1
    obtain ⟨e, hP⟩ := pl_both q n h (ec := ec) hE hm1 hS.sl hk1 hS.le
    exact netSays_go q n tx h hm1 hk1 hF hP
end Go.Proofs.YtbnkekeeceicaaaGreat
