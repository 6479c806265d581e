/- Words in order: the reference's Sort (printed by make/ki17.py). -/
import Derived.Test.YtillljojdnofgaaZKI16
namespace Go.Proofs.Ytillljojdnofgaa
open Go.RowKit Go.Sort

set_option maxHeartbeats 4000000 in
set_option maxRecDepth 100000 in
theorem rsort_small {m base G K cap : Nat} {vs : Nat → Value} {ks : Nat → Nat} {w : World} (hK : K < 2) (ho : OwnV base (.slice (some ⟨G, 0, none⟩) K cap) (vl K vs) w) (hw : ∀ i, i < K → WdK m (vs i) (ks i) w) :
    Calls Try.prog 18 #[.slice (some ⟨G, 0, none⟩) K cap] w fun e w' => e = .returned (.tuple #[]) ∧ SrP m base G K cap vs ks w w' := by
  have HE : Hid (SrP m base G K cap vs ks w w) := ⟨vs, ks, ho, List.Perm.refl _, fun i j h1 h2 => by omega, hw, OfG.refl _ _⟩
  have hib : (K : Int) < 2 := by omega
  clear ho hw
  go_enter Try.func18, Try.ntmps18
  go_wp2
  (try simp only [Exit.inBlock, Exit.then])
  refine bodyPost_ret (results_none rfl _ _ _) rfl ?_
  exact ⟨rfl, HE.out⟩

set_option maxHeartbeats 32000000 in
set_option maxRecDepth 100000 in
theorem rsort_any (m : Nat) (hm : m ≤ 13) (F : Nat) : ∀ {K base G cap : Nat} {vs : Nat → Value} {ks : Nat → Nat} {w : World}, K ≤ F → K ≤ 100 → OwnV base (.slice (some ⟨G, 0, none⟩) K cap) (vl K vs) w → (∀ i, i < K → WdK m (vs i) (ks i) w) →
    Calls Try.prog 18 #[.slice (some ⟨G, 0, none⟩) K cap] w fun e w' => e = .returned (.tuple #[]) ∧ SrP m base G K cap vs ks w w' := by
  induction F with
  | zero => intro K base G cap vs ks w hF _ ho hw; exact rsort_small (by omega) ho hw
  | succ F ih =>
    intro K base G cap vs ks w hF hK1 ho hw
    by_cases hK2 : K < 2
    · exact rsort_small hK2 ho hw
    have hib : ¬ (K : Int) < 2 := by omega
    obtain ⟨_, hKc, hcm, hbG, hGs⟩ := ho.bounds
    obtain ⟨h, hh⟩ : ∃ h, h = K / 2 := ⟨_, rfl⟩
    obtain ⟨h2, hh2⟩ : ∃ h2, h2 = K - h := ⟨_, rfl⟩
    have dq : (K : Int).tdiv 2 = (h : Int) := by rw [hh]; rfl
    have hb1 : 1 ≤ h ∧ h < K ∧ h2 < K ∧ 1 ≤ h2 ∧ h + h2 = K := by omega
    have hhc : (h : Int) ≤ (cap : Int) := by omega
    have hhK : (h : Int) ≤ (K : Int) := by omega
    have hKcI : (K : Int) ≤ (cap : Int) := by omega
    have hh0 : (0 : Int) ≤ (h : Int) := by omega
    have hcne : ¬ cap = h := by omega
    have HF : Hid (OwnV base (.slice (some ⟨G, 0, none⟩) K cap) (vl K vs) w ∧ (∀ i, i < K → WdK m (vs i) (ks i) w)) := ⟨ho, hw⟩
    have HIh : Hid (∀ {K base G cap : Nat} {vs : Nat → Value} {ks : Nat → Nat} {w : World}, K ≤ F → K ≤ 100 → OwnV base (.slice (some ⟨G, 0, none⟩) K cap) (vl K vs) w → (∀ i, i < K → WdK m (vs i) (ks i) w) → Calls Try.prog 18 #[.slice (some ⟨G, 0, none⟩) K cap] w fun e w' => e = .returned (.tuple #[]) ∧ SrP m base G K cap vs ks w w') := ih
    have hsub : K - h = h2 := hh2.symm
    clear ho hw ih hh hh2
    go_enter Try.func18, Try.ntmps18
    go_upto_region 2 with (at_builtin; refine append_sln rfl _ _ rfl w.heap.size (.slice (some ⟨w.heap.size, 0, none⟩) 0 0) [] rfl (own_e1 w (Nat.le_refl _)) G 0 h cap vs rfl ((HF.out.1.slv.less (by omega)).below ((Below.refl _ _).alloc (Nat.le_refl _) _)) (fun j hj => (HF.out.2 j (by omega)).one) (by simp; omega) (by simp) ?_; intro v1 w1 hown1 hg1)
    have hb1w : Below w.heap.size w w1 := ((Below.refl w.heap.size w).alloc (Nat.le_refl _) _).grown hg1 (by simp) (fun q hq => by cases hq; exact Nat.le_refl _)
    rw [List.nil_append] at hown1
    obtain ⟨ga, c1, hv1, _, _, _, hc1⟩ := hown1.open
    rw [vl_len] at hv1
    obtain ⟨g1, hga, _⟩ := hc1 0 _ (vl_get h vs 0 (by omega))
    subst hga
    subst hv1
    have H1 : Hid (OwnV w.heap.size (.slice (some ⟨g1, 0, none⟩) h c1) (vl h vs) w1 ∧ Below w.heap.size w w1) := ⟨hown1, hb1w⟩
    clear hown1 hg1 hb1w hc1
    have hsz1 := H1.out.2.size
    go_upto_region 3 with (at_builtin; refine append_sln rfl _ _ rfl w1.heap.size (.slice (some ⟨w1.heap.size, 0, none⟩) 0 0) [] rfl (own_e1 w1 (Nat.le_refl _)) G h h2 (cap - h) (fun j => vs (h + j)) rfl (by have hS := ((HF.out.1.slv.below H1.out.2).shift (q := h) (by omega)).below ((Below.refl w1.heap.size w1).alloc (Nat.le_refl _) (.cells #[] 22)); rw [hsub] at hS; exact hS) (fun j hj => (HF.out.2 (h + j) (by omega)).one) (by simp; omega) (by simp) ?_; intro v2 w2 hown2 hg2)
    have hb2w : Below w1.heap.size w1 w2 := ((Below.refl w1.heap.size w1).alloc (Nat.le_refl _) _).grown hg2 (by simp) (fun q hq => by cases hq; exact Nat.le_refl _)
    rw [List.nil_append] at hown2
    obtain ⟨gb, c2, hv2, _, _, _, hc2⟩ := hown2.open
    rw [vl_len] at hv2
    obtain ⟨g2, hgb, _⟩ := hc2 0 _ (vl_get h2 _ 0 (by omega))
    subst hgb
    subst hv2
    have hbn1 := H1.out.1.bounds
    have hbn2 := hown2.bounds
    have hGg : g1 ≠ G ∧ g2 ≠ G ∧ g1 ≠ g2 := by omega
    have H2 : Hid (OwnV w.heap.size (.slice (some ⟨g1, 0, none⟩) h c1) (vl h vs) w2 ∧ OwnV w1.heap.size (.slice (some ⟨g2, 0, none⟩) h2 c2) (vl h2 fun j => vs (h + j)) w2 ∧ Below w.heap.size w w2) := ⟨H1.out.1.below hb2w (Nat.le_refl _), hown2, bel_up' H1.out.2 hb2w⟩
    have hb12 : w.heap.size ≤ g1 ∧ g1 < w1.heap.size ∧ w1.heap.size ≤ g2 ∧ h ≤ c1 ∧ h2 ≤ c2 ∧ h ≤ 100 ∧ h2 ≤ 100 := by omega
    have HSa : Hid (Calls Try.prog 18 #[.slice (some ⟨g1, 0, none⟩) h c1] w2 fun e w' => e = .returned (.tuple #[]) ∧ SrP m w.heap.size g1 h c1 vs ks w2 w') := HIh.out (by omega) (by omega) H2.out.1 (fun i hi => (HF.out.2 i (by omega)).below H2.out.2.2)
    clear hown2 hg2 hb2w hc2 hbn1 hbn2
    go_wp2_with fail
    refine HSa.out.mono ?_
    rintro e w3 ⟨rfl, va, ka, ra1, ra2, ra3, ra4, ra5⟩
    have H3 : Hid (OwnV w.heap.size (.slice (some ⟨g1, 0, none⟩) h c1) (vl h va) w3 ∧ (PLf va ka 0 h).Perm (PLf vs ks 0 h) ∧ (∀ i j, i < j → j < h → ka i ≤ ka j) ∧ (∀ i, i < h → WdK m (va i) (ka i) w3) ∧ OwnV w1.heap.size (.slice (some ⟨g2, 0, none⟩) h2 c2) (vl h2 fun j => vs (h + j)) w3 ∧ OfG G w w3 ∧ (∀ i, i < K → WdK m (vs i) (ks i) w3) ∧ OwnV base (.slice (some ⟨G, 0, none⟩) K cap) (vl K vs) w3) := by
      have hlt2 := H2.out.2.1.bounds
      refine ⟨ra1, ra2, ra3, ra4, H2.out.2.1.same fun q hq => ra5.same q (by cases hq; exact hlt2.2.2.2.2) (by cases hq; exact fun e => hGg.2.2 e.symm), (OfG.of H2.out.2.2 hGs).far ra5 hb12.1 hGs, fun i hi => ((HF.out.2 i hi).below H2.out.2.2).ofG H2.out.1 ra5, (HF.out.1.below H2.out.2.2 (Nat.le_refl _)).same fun q hq => ra5.same q (by cases hq; exact Nat.lt_of_lt_of_le hGs H2.out.2.2.size) (by cases hq; exact fun e => hGg.1 e.symm)⟩
    clear ra1 ra2 ra3 ra4 ra5 HSa
    have HSb : Hid (Calls Try.prog 18 #[.slice (some ⟨g2, 0, none⟩) h2 c2] w3 fun e w' => e = .returned (.tuple #[]) ∧ SrP m w1.heap.size g2 h2 c2 (fun j => vs (h + j)) (fun j => ks (h + j)) w3 w') := HIh.out (by omega) (by omega) H3.out.2.2.2.2.1 (fun i hi => H3.out.2.2.2.2.2.2.1 (h + i) (by omega))
    go_wp2_with fail
    refine HSb.out.mono ?_
    rintro e w4 ⟨rfl, vb, kb, rb1, rb2, rb3, rb4, rb5⟩
    have hlt3 := H3.out.1.bounds
    have H4 : Hid (OwnV base (.slice (some ⟨G, 0, none⟩) K cap) (vl K vs) w4 ∧ OwnV w.heap.size (.slice (some ⟨g1, 0, none⟩) h c1) (vl h va) w4 ∧ OwnV w1.heap.size (.slice (some ⟨g2, 0, none⟩) h2 c2) (vl h2 vb) w4 ∧ OfG G w w4 ∧ OfG G w4 w4) := by
      have hof : OfG G w w4 := H3.out.2.2.2.2.2.1.far rb5 (by omega) hGs
      refine ⟨H3.out.2.2.2.2.2.2.2.same fun q hq => rb5.same q (by cases hq; exact Nat.lt_of_lt_of_le hGs H3.out.2.2.2.2.2.1.size) (by cases hq; exact fun e => hGg.2.1 e.symm), H3.out.1.same fun q hq => rb5.same q (by cases hq; exact hlt3.2.2.2.2) (by cases hq; exact hGg.2.2), rb1, hof, OfG.refl _ _⟩
    have H4b : Hid ((∀ i j, i < j → j < h → ka i ≤ ka j) ∧ (∀ i j, i < j → j < h2 → kb i ≤ kb j) ∧ (∀ i, i < h → WdK m (va i) (ka i) w4) ∧ (∀ i, i < h2 → WdK m (vb i) (kb i) w4) ∧ (PLf va ka 0 h ++ PLf vb kb 0 h2).Perm (PLf vs ks 0 K)) := by
      refine ⟨H3.out.2.2.1, rb3, fun i hi => (H3.out.2.2.2.1 i hi).ofG H3.out.2.2.2.2.1 rb5, rb4, ?_⟩
      rw [PLf_split vs ks h K (by omega), hsub]
      exact H3.out.2.1.append rb2
    clear rb1 rb2 rb3 rb4 rb5 HSb hlt3
    have hG4 : G < w4.heap.size := Nat.lt_of_lt_of_le hGs H4.out.2.2.2.1.size
    go_wp2
    go_loopw [4, 5, 6] (fun vi vk vn wy => ∃ (i k nn : Nat) (us : Nat → Value) (js : Nat → Nat), i ≤ h ∧ k ≤ h2 ∧ nn ≤ K ∧ vi = .int .i64 (i : Nat) ∧ vk = .int .i64 (k : Nat) ∧ vn = .int .i64 (nn : Nat) ∧ Hid (MgI K h i k nn va vb us ka kb js) ∧ Hid (∀ t, t < nn → WdK m (us t) (js t) w4) ∧ Hid (OwnV base (.slice (some ⟨G, 0, none⟩) K cap) (vl K us) wy ∧ OwnV w.heap.size (.slice (some ⟨g1, 0, none⟩) h c1) (vl h va) wy ∧ OwnV w1.heap.size (.slice (some ⟨g2, 0, none⟩) h2 c2) (vl h2 vb) wy ∧ OfG G w wy ∧ OfG G w4 wy)) (fun _ _ vn _ => K - (intOf vn).toNat)
    case atStart =>
      refine ⟨0, 0, 0, vs, ks, by omega, by omega, by omega, rfl, rfl, rfl, ⟨rfl, by omega, by omega, ?_, fun s t _ ht => absurd ht (by omega), fun s t hs => absurd hs (by omega), fun s t hs => absurd hs (by omega)⟩, fun t ht => absurd ht (by omega), H4.out⟩
      exact List.Perm.refl _
    case round =>
      obtain ⟨i, k, nn, us, js, hi, hk, hnn, rfl, rfl, rfl, HMg, HWd, HY⟩ := hrel
      rename World => wy
      have hsm := HMg.out.sum
      have hGy : G < wy.heap.size := Nat.lt_of_lt_of_le hG4 HY.out.2.2.2.2.size
      by_cases hlt : nn < K
      · have hnb : (nn : Int) < (K : Int) := by omega
        have hnb0 : (0 : Int) ≤ (nn : Int) := by omega
        have hcgf := OwnV.at HY.out.1 (j := nn) (by omega)
        obtain ⟨o0, ho0⟩ : ∃ o0, o0 = us nn := ⟨_, rfl⟩
        rw [← ho0] at hcgf
        have hcg := hcgf.1
        have hfg := hcgf.2
        clear ho0 hcgf
        by_cases hkk : k = h2
        · have zk : ((k : Int) == (h2 : Int)) = true := by rw [hkk]; simp
          obtain ⟨xa, ca2, hxa⟩ : ∃ xa ca2, va i = .slice xa m ca2 := by
            obtain ⟨cc, hcc, _⟩ := H4b.out.2.2.1 i (by omega)
            obtain ⟨xo, xc, e, _⟩ := OwnI.argL (n := m) (y := fun j => ((cc j : Nat) : Int)) hcc
            exact ⟨xo, xc, e⟩
          have hcca := (OwnV.at HY.out.2.1 (j := i) (by omega)).1
          rw [hxa] at hcca
          have HUa : Hid (va i = .slice xa m ca2) := hxa
          have hih : (i : Int) < (h : Int) := by omega
          have hi0 : (0 : Int) ≤ (i : Int) := by omega
          clear hxa
          have HBnd : Hid (∀ t, k ≤ t → t < K - h → ka i ≤ kb t) := fun t h1 h3 => by omega
          have HS : Hid (OwnV base (.slice (some ⟨G, 0, none⟩) K cap) (vl K (fun t => if t = nn then (.slice xa m ca2) else us t)) (wy.setCell ⟨G, nn, none⟩ (.slice xa m ca2)) ∧ OwnV w.heap.size (.slice (some ⟨g1, 0, none⟩) h c1) (vl h va) (wy.setCell ⟨G, nn, none⟩ (.slice xa m ca2)) ∧ OwnV w1.heap.size (.slice (some ⟨g2, 0, none⟩) h2 c2) (vl h2 vb) (wy.setCell ⟨G, nn, none⟩ (.slice xa m ca2)) ∧ OfG G w (wy.setCell ⟨G, nn, none⟩ (.slice xa m ca2)) ∧ OfG G w4 (wy.setCell ⟨G, nn, none⟩ (.slice xa m ca2))) := ⟨HY.out.1.set rfl nn _, HY.out.2.1.same fun q hq => Below.heap_setCell _ _ _ _ (by cases hq; exact hGg.1), HY.out.2.2.1.same fun q hq => Below.heap_setCell _ _ _ _ (by cases hq; exact hGg.2.1), HY.out.2.2.2.1.set, HY.out.2.2.2.2.set⟩
          have HS2 : Hid (∀ wz : World, (∃ d, wz = wy.drewN d) → OwnV base (.slice (some ⟨G, 0, none⟩) K cap) (vl K (fun t => if t = nn then (.slice xa m ca2) else us t)) (wz.setCell ⟨G, nn, none⟩ (.slice xa m ca2)) ∧ OwnV w.heap.size (.slice (some ⟨g1, 0, none⟩) h c1) (vl h va) (wz.setCell ⟨G, nn, none⟩ (.slice xa m ca2)) ∧ OwnV w1.heap.size (.slice (some ⟨g2, 0, none⟩) h2 c2) (vl h2 vb) (wz.setCell ⟨G, nn, none⟩ (.slice xa m ca2)) ∧ OfG G w (wz.setCell ⟨G, nn, none⟩ (.slice xa m ca2)) ∧ OfG G w4 (wz.setCell ⟨G, nn, none⟩ (.slice xa m ca2))) := fun wz hz => by
            obtain ⟨d, rfl⟩ := hz
            have hbd : Below wy.heap.size wy (wy.drewN d) := below_drewN2 (Below.refl _ _) d
            exact ⟨(HY.out.1.below hbd (Nat.le_refl _)).set rfl nn _, (HY.out.2.1.below hbd (Nat.le_refl _)).same fun q hq => Below.heap_setCell _ _ _ _ (by cases hq; exact hGg.1), (HY.out.2.2.1.below hbd (Nat.le_refl _)).same fun q hq => Below.heap_setCell _ _ _ _ (by cases hq; exact hGg.2.1), (HY.out.2.2.2.1.trans (OfG.of hbd hGy)).set, (HY.out.2.2.2.2.trans (OfG.of hbd hGy)).set⟩
          have HN : Hid (MgI K h (i + 1) k (nn + 1) va vb (fun t => if t = nn then (.slice xa m ca2) else us t) ka kb (fun t => if t = nn then ka i else js t)) := by
            have h9 := HMg.out.left (by omega) H4b.out.1 HBnd.out
            rw [HUa.out] at h9; exact h9
          have HK2 : Hid (∀ t, t < nn + 1 → WdK m (if t = nn then (.slice xa m ca2) else us t) (if t = nn then ka i else js t) w4) := fun t ht => by
            by_cases e : t = nn
            · rw [if_pos e, if_pos e, ← HUa.out]; exact H4b.out.2.2.1 _ (by omega)
            · rw [if_neg e, if_neg e]; exact HWd.out t (by omega)
          clear hkk hsm HS
          go_wp2
          go_big_quiet (fail)
          go_wp2
          go_roundw
          case rel => exact ⟨i + 1, k, nn + 1, _, _, by omega, by omega, by omega, by first | rfl | go_num, by first | rfl | go_num, by go_num, HN.out, HK2.out, HS2.out _ ⟨_, by first | rfl | rw [World.drewN_drewN]⟩⟩
          case measure => simp [intOf]; omega
        · have zk : ((k : Int) == (h2 : Int)) = false := beq_eq_false_iff_ne.2 (by omega)
          obtain ⟨xb, cb2, hxb⟩ : ∃ xb cb2, vb k = .slice xb m cb2 := by
            obtain ⟨cc, hcc, _⟩ := H4b.out.2.2.2.1 k (by omega)
            obtain ⟨xo, xc, e, _⟩ := OwnI.argL (n := m) (y := fun j => ((cc j : Nat) : Int)) hcc
            exact ⟨xo, xc, e⟩
          have hccb := (OwnV.at HY.out.2.2.1 (j := k) (by omega)).1
          rw [hxb] at hccb
          have HUb : Hid (vb k = .slice xb m cb2) := hxb
          have hkh : (k : Int) < (h2 : Int) := by omega
          have hk0 : (0 : Int) ≤ (k : Int) := by omega
          clear hxb
          by_cases hii : i < h
          · have zi : decide ((i : Int) < (h : Int)) = true := decide_eq_true (by omega)
            obtain ⟨xa, ca2, hxa⟩ : ∃ xa ca2, va i = .slice xa m ca2 := by
              obtain ⟨cc, hcc, _⟩ := H4b.out.2.2.1 i (by omega)
              obtain ⟨xo, xc, e, _⟩ := OwnI.argL (n := m) (y := fun j => ((cc j : Nat) : Int)) hcc
              exact ⟨xo, xc, e⟩
            have hcca := (OwnV.at HY.out.2.1 (j := i) (by omega)).1
            rw [hxa] at hcca
            have HUa : Hid (va i = .slice xa m ca2) := hxa
            have hih : (i : Int) < (h : Int) := by omega
            have hi0 : (0 : Int) ≤ (i : Int) := by omega
            clear hxa
            obtain ⟨R, hR⟩ : ∃ R, R = decide (kb k < ka i) := ⟨_, rfl⟩
            have HBe : Hid (∀ d, Calls Try.prog 55 #[.slice xb m cb2, .slice xa m ca2] (wy.drewN d) fun e w' => e = .returned (.bool R) ∧ ∃ n, w' = (wy.drewN d).drewN n) := fun d => by
              obtain ⟨cc, hcc, hcb, hck⟩ := (H4b.out.2.2.2.1 k (by omega)).ofG H4.out.1 HY.out.2.2.2.2
              obtain ⟨ca3, hca, hcab, hcak⟩ := (H4b.out.2.2.1 i (by omega)).ofG H4.out.1 HY.out.2.2.2.2
              rw [HUb.out] at hcc
              rw [HUa.out] at hca
              obtain ⟨_, _, e1, a1⟩ := OwnI.argL (n := m) (y := fun j => ((cc j : Nat) : Int)) hcc
              obtain ⟨_, _, e2, a2⟩ := OwnI.argL (n := m) (y := fun j => ((ca3 j : Nat) : Int)) hca
              cases e1
              cases e2
              rw [hR, ← hck, ← hcak]
              exact rbelow_bits (fun j hj => a1.sl j hj) (fun j hj => a2.sl j hj) hm hcb hcab
            cases R with
            | false =>
              have hnl : ¬ kb k < ka i := of_decide_eq_false hR.symm
              have HBnd : Hid (∀ t, k ≤ t → t < K - h → ka i ≤ kb t) := fun t h1 h3 => by
                by_cases e : t = k
                · rw [e]; omega
                · have := H4b.out.2.1 k t (by omega) (by omega); omega
              have HS : Hid (OwnV base (.slice (some ⟨G, 0, none⟩) K cap) (vl K (fun t => if t = nn then (.slice xa m ca2) else us t)) (wy.setCell ⟨G, nn, none⟩ (.slice xa m ca2)) ∧ OwnV w.heap.size (.slice (some ⟨g1, 0, none⟩) h c1) (vl h va) (wy.setCell ⟨G, nn, none⟩ (.slice xa m ca2)) ∧ OwnV w1.heap.size (.slice (some ⟨g2, 0, none⟩) h2 c2) (vl h2 vb) (wy.setCell ⟨G, nn, none⟩ (.slice xa m ca2)) ∧ OfG G w (wy.setCell ⟨G, nn, none⟩ (.slice xa m ca2)) ∧ OfG G w4 (wy.setCell ⟨G, nn, none⟩ (.slice xa m ca2))) := ⟨HY.out.1.set rfl nn _, HY.out.2.1.same fun q hq => Below.heap_setCell _ _ _ _ (by cases hq; exact hGg.1), HY.out.2.2.1.same fun q hq => Below.heap_setCell _ _ _ _ (by cases hq; exact hGg.2.1), HY.out.2.2.2.1.set, HY.out.2.2.2.2.set⟩
              have HS2 : Hid (∀ wz : World, (∃ d, wz = wy.drewN d) → OwnV base (.slice (some ⟨G, 0, none⟩) K cap) (vl K (fun t => if t = nn then (.slice xa m ca2) else us t)) (wz.setCell ⟨G, nn, none⟩ (.slice xa m ca2)) ∧ OwnV w.heap.size (.slice (some ⟨g1, 0, none⟩) h c1) (vl h va) (wz.setCell ⟨G, nn, none⟩ (.slice xa m ca2)) ∧ OwnV w1.heap.size (.slice (some ⟨g2, 0, none⟩) h2 c2) (vl h2 vb) (wz.setCell ⟨G, nn, none⟩ (.slice xa m ca2)) ∧ OfG G w (wz.setCell ⟨G, nn, none⟩ (.slice xa m ca2)) ∧ OfG G w4 (wz.setCell ⟨G, nn, none⟩ (.slice xa m ca2))) := fun wz hz => by
                obtain ⟨d, rfl⟩ := hz
                have hbd : Below wy.heap.size wy (wy.drewN d) := below_drewN2 (Below.refl _ _) d
                exact ⟨(HY.out.1.below hbd (Nat.le_refl _)).set rfl nn _, (HY.out.2.1.below hbd (Nat.le_refl _)).same fun q hq => Below.heap_setCell _ _ _ _ (by cases hq; exact hGg.1), (HY.out.2.2.1.below hbd (Nat.le_refl _)).same fun q hq => Below.heap_setCell _ _ _ _ (by cases hq; exact hGg.2.1), (HY.out.2.2.2.1.trans (OfG.of hbd hGy)).set, (HY.out.2.2.2.2.trans (OfG.of hbd hGy)).set⟩
              have HN : Hid (MgI K h (i + 1) k (nn + 1) va vb (fun t => if t = nn then (.slice xa m ca2) else us t) ka kb (fun t => if t = nn then ka i else js t)) := by
                have h9 := HMg.out.left (by omega) H4b.out.1 HBnd.out
                rw [HUa.out] at h9; exact h9
              have HK2 : Hid (∀ t, t < nn + 1 → WdK m (if t = nn then (.slice xa m ca2) else us t) (if t = nn then ka i else js t) w4) := fun t ht => by
                by_cases e : t = nn
                · rw [if_pos e, if_pos e, ← HUa.out]; exact H4b.out.2.2.1 _ (by omega)
                · rw [if_neg e, if_neg e]; exact HWd.out t (by omega)
              clear hkk hii hsm HS hnl hR
              go_wp2
              go_big_quiet (first | (go_at_call 55; exact Calls.quiet_of (HBe.out _)))
              go_wp2
              go_roundw
              case rel => exact ⟨i + 1, k, nn + 1, _, _, by omega, by omega, by omega, by first | rfl | go_num, by first | rfl | go_num, by go_num, HN.out, HK2.out, HS2.out _ ⟨_, by first | rfl | rw [World.drewN_drewN]⟩⟩
              case measure => simp [intOf]; omega
            | true =>
              have hnl : kb k < ka i := of_decide_eq_true hR.symm
              have HBnd : Hid (∀ t, i ≤ t → t < h → kb k ≤ ka t) := fun t h1 h3 => by
                by_cases e : t = i
                · rw [e]; omega
                · have := H4b.out.1 i t (by omega) h3; omega
              have HS : Hid (OwnV base (.slice (some ⟨G, 0, none⟩) K cap) (vl K (fun t => if t = nn then (.slice xb m cb2) else us t)) (wy.setCell ⟨G, nn, none⟩ (.slice xb m cb2)) ∧ OwnV w.heap.size (.slice (some ⟨g1, 0, none⟩) h c1) (vl h va) (wy.setCell ⟨G, nn, none⟩ (.slice xb m cb2)) ∧ OwnV w1.heap.size (.slice (some ⟨g2, 0, none⟩) h2 c2) (vl h2 vb) (wy.setCell ⟨G, nn, none⟩ (.slice xb m cb2)) ∧ OfG G w (wy.setCell ⟨G, nn, none⟩ (.slice xb m cb2)) ∧ OfG G w4 (wy.setCell ⟨G, nn, none⟩ (.slice xb m cb2))) := ⟨HY.out.1.set rfl nn _, HY.out.2.1.same fun q hq => Below.heap_setCell _ _ _ _ (by cases hq; exact hGg.1), HY.out.2.2.1.same fun q hq => Below.heap_setCell _ _ _ _ (by cases hq; exact hGg.2.1), HY.out.2.2.2.1.set, HY.out.2.2.2.2.set⟩
              have HS2 : Hid (∀ wz : World, (∃ d, wz = wy.drewN d) → OwnV base (.slice (some ⟨G, 0, none⟩) K cap) (vl K (fun t => if t = nn then (.slice xb m cb2) else us t)) (wz.setCell ⟨G, nn, none⟩ (.slice xb m cb2)) ∧ OwnV w.heap.size (.slice (some ⟨g1, 0, none⟩) h c1) (vl h va) (wz.setCell ⟨G, nn, none⟩ (.slice xb m cb2)) ∧ OwnV w1.heap.size (.slice (some ⟨g2, 0, none⟩) h2 c2) (vl h2 vb) (wz.setCell ⟨G, nn, none⟩ (.slice xb m cb2)) ∧ OfG G w (wz.setCell ⟨G, nn, none⟩ (.slice xb m cb2)) ∧ OfG G w4 (wz.setCell ⟨G, nn, none⟩ (.slice xb m cb2))) := fun wz hz => by
                obtain ⟨d, rfl⟩ := hz
                have hbd : Below wy.heap.size wy (wy.drewN d) := below_drewN2 (Below.refl _ _) d
                exact ⟨(HY.out.1.below hbd (Nat.le_refl _)).set rfl nn _, (HY.out.2.1.below hbd (Nat.le_refl _)).same fun q hq => Below.heap_setCell _ _ _ _ (by cases hq; exact hGg.1), (HY.out.2.2.1.below hbd (Nat.le_refl _)).same fun q hq => Below.heap_setCell _ _ _ _ (by cases hq; exact hGg.2.1), (HY.out.2.2.2.1.trans (OfG.of hbd hGy)).set, (HY.out.2.2.2.2.trans (OfG.of hbd hGy)).set⟩
              have HN : Hid (MgI K h i (k + 1) (nn + 1) va vb (fun t => if t = nn then (.slice xb m cb2) else us t) ka kb (fun t => if t = nn then kb k else js t)) := by
                have h9 := HMg.out.right (by omega) (by rw [hsub]; exact H4b.out.2.1) HBnd.out
                rw [HUb.out] at h9; exact h9
              have HK2 : Hid (∀ t, t < nn + 1 → WdK m (if t = nn then (.slice xb m cb2) else us t) (if t = nn then kb k else js t) w4) := fun t ht => by
                by_cases e : t = nn
                · rw [if_pos e, if_pos e, ← HUb.out]; exact H4b.out.2.2.2.1 _ (by omega)
                · rw [if_neg e, if_neg e]; exact HWd.out t (by omega)
              clear hkk hii hsm HS hnl hR
              go_wp2
              go_big_quiet (first | (go_at_call 55; exact Calls.quiet_of (HBe.out _)))
              go_wp2
              go_roundw
              case rel => exact ⟨i, k + 1, nn + 1, _, _, by omega, by omega, by omega, by first | rfl | go_num, by first | rfl | go_num, by go_num, HN.out, HK2.out, HS2.out _ ⟨_, by first | rfl | rw [World.drewN_drewN]⟩⟩
              case measure => simp [intOf]; omega
          · have zi : decide ((i : Int) < (h : Int)) = false := decide_eq_false (by omega)
            have zi2 : decide (i < h) = false := decide_eq_false hii
            have HBnd : Hid (∀ t, i ≤ t → t < h → kb k ≤ ka t) := fun t h1 h3 => by omega
            have HS : Hid (OwnV base (.slice (some ⟨G, 0, none⟩) K cap) (vl K (fun t => if t = nn then (.slice xb m cb2) else us t)) (wy.setCell ⟨G, nn, none⟩ (.slice xb m cb2)) ∧ OwnV w.heap.size (.slice (some ⟨g1, 0, none⟩) h c1) (vl h va) (wy.setCell ⟨G, nn, none⟩ (.slice xb m cb2)) ∧ OwnV w1.heap.size (.slice (some ⟨g2, 0, none⟩) h2 c2) (vl h2 vb) (wy.setCell ⟨G, nn, none⟩ (.slice xb m cb2)) ∧ OfG G w (wy.setCell ⟨G, nn, none⟩ (.slice xb m cb2)) ∧ OfG G w4 (wy.setCell ⟨G, nn, none⟩ (.slice xb m cb2))) := ⟨HY.out.1.set rfl nn _, HY.out.2.1.same fun q hq => Below.heap_setCell _ _ _ _ (by cases hq; exact hGg.1), HY.out.2.2.1.same fun q hq => Below.heap_setCell _ _ _ _ (by cases hq; exact hGg.2.1), HY.out.2.2.2.1.set, HY.out.2.2.2.2.set⟩
            have HS2 : Hid (∀ wz : World, (∃ d, wz = wy.drewN d) → OwnV base (.slice (some ⟨G, 0, none⟩) K cap) (vl K (fun t => if t = nn then (.slice xb m cb2) else us t)) (wz.setCell ⟨G, nn, none⟩ (.slice xb m cb2)) ∧ OwnV w.heap.size (.slice (some ⟨g1, 0, none⟩) h c1) (vl h va) (wz.setCell ⟨G, nn, none⟩ (.slice xb m cb2)) ∧ OwnV w1.heap.size (.slice (some ⟨g2, 0, none⟩) h2 c2) (vl h2 vb) (wz.setCell ⟨G, nn, none⟩ (.slice xb m cb2)) ∧ OfG G w (wz.setCell ⟨G, nn, none⟩ (.slice xb m cb2)) ∧ OfG G w4 (wz.setCell ⟨G, nn, none⟩ (.slice xb m cb2))) := fun wz hz => by
              obtain ⟨d, rfl⟩ := hz
              have hbd : Below wy.heap.size wy (wy.drewN d) := below_drewN2 (Below.refl _ _) d
              exact ⟨(HY.out.1.below hbd (Nat.le_refl _)).set rfl nn _, (HY.out.2.1.below hbd (Nat.le_refl _)).same fun q hq => Below.heap_setCell _ _ _ _ (by cases hq; exact hGg.1), (HY.out.2.2.1.below hbd (Nat.le_refl _)).same fun q hq => Below.heap_setCell _ _ _ _ (by cases hq; exact hGg.2.1), (HY.out.2.2.2.1.trans (OfG.of hbd hGy)).set, (HY.out.2.2.2.2.trans (OfG.of hbd hGy)).set⟩
            have HN : Hid (MgI K h i (k + 1) (nn + 1) va vb (fun t => if t = nn then (.slice xb m cb2) else us t) ka kb (fun t => if t = nn then kb k else js t)) := by
              have h9 := HMg.out.right (by omega) (by rw [hsub]; exact H4b.out.2.1) HBnd.out
              rw [HUb.out] at h9; exact h9
            have HK2 : Hid (∀ t, t < nn + 1 → WdK m (if t = nn then (.slice xb m cb2) else us t) (if t = nn then kb k else js t) w4) := fun t ht => by
              by_cases e : t = nn
              · rw [if_pos e, if_pos e, ← HUb.out]; exact H4b.out.2.2.2.1 _ (by omega)
              · rw [if_neg e, if_neg e]; exact HWd.out t (by omega)
            clear hkk hii hsm HS
            go_wp2
            go_big_quiet (fail)
            go_wp2
            go_roundw
            case rel => exact ⟨i, k + 1, nn + 1, _, _, by omega, by omega, by omega, by first | rfl | go_num, by first | rfl | go_num, by go_num, HN.out, HK2.out, HS2.out _ ⟨_, by first | rfl | rw [World.drewN_drewN]⟩⟩
            case measure => simp [intOf]; omega
      · have hnb : ¬ (nn : Int) < (K : Int) := by omega
        have HE : Hid (SrP m base G K cap vs ks w wy) := by
          have hnK : nn = K := by omega
          refine ⟨us, js, HY.out.1, ?_, ?_, ?_, HY.out.2.2.2.1⟩
          · have e := HMg.out.perm
            rw [show h - i = 0 by omega, show K - h - k = 0 by omega, hnK, hsub] at e
            have e0 : PLf us js 0 K ++ (PLf va ka i 0 ++ PLf vb kb k 0) = PLf us js 0 K := List.append_nil _
            rw [e0] at e
            exact e.trans H4b.out.2.2.2.2
          · rw [← hnK]; exact HMg.out.ord
          · intro t ht
            exact (HWd.out t (by omega)).ofG H4.out.1 HY.out.2.2.2.2
        clear hsm
        go_wp2
        go_end0
        exact ⟨rfl, HE.out⟩
end Go.Proofs.Ytillljojdnofgaa
