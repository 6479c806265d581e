/- TopMuller: its walk (printed by make/ko21.py). -/
import Derived.Test.YtmklnjkallhphaaZKO18
import Derived.Test.YtmklnjkallhphaaZKO11
namespace Go.Proofs.Ytmklnjkallhphaa
open Go.RowKit Go.Sort

set_option maxHeartbeats 1000000 in
set_option maxRecDepth 100000 in
theorem topMuller_long {ao : Option Addr} {n ca : Nat} (r m t : Int) (w : World) (hn : ¬ n ≤ 256) (hn2 : n ≤ 17592186044416) :
    Calls Try.prog 6 #[.slice ao n ca, .int .i64 r, .int .i64 m, .int .i64 t] w fun e w' => e = .returned (.bool true) ∧ Below w.heap.size w w' := by
  have h1 : (256 : Int) < (n : Int) := by omega
  go_enter Try.func6, Try.ntmps6
  go_wp2
  go_ret
  exact ⟨rfl, Below.refl _ _⟩

set_option maxHeartbeats 32000000 in
set_option maxRecDepth 100000 in
theorem topMuller_walk {ao : Option Addr} {n ca : Nat} {z : Nat → Int} (r m t : Int) {w : World} (ha : Arg ao n ca z w) (hn : n ≤ 256) (hr : I64 r) (hm : I64 m) (ht : I64 t) :
    Calls Try.prog 6 #[.slice ao n ca, .int .i64 r, .int .i64 m, .int .i64 t] w fun e w' => e = .returned (.bool true) ∧ Below w.heap.size w w' := by
  obtain ⟨M0, hM0, hM1⟩ := pick_nat6 (m := m) (k := 5) (by omega)
  obtain ⟨M, hM⟩ : ∃ M, M = 1 + M0 := ⟨_, rfl⟩
  have hMw : IntKind.i64.wrap (1 + (M0 : Int)) = (M : Int) := wrap_to (by omega) (by omega)
  have hMb : 1 ≤ M ∧ M ≤ 5 := by omega
  obtain ⟨R, hR0, hR1⟩ := pick_nat6 (m := r) (k := M) (by omega)
  obtain ⟨Mm, hMm⟩ : ∃ Mm, Mm = M - 1 := ⟨_, rfl⟩
  have hMmi : (M : Int) - 1 = (Mm : Int) := by omega
  obtain ⟨X0, hX0⟩ : ∃ X0, X0 = M - 1 - R := ⟨_, rfl⟩
  have hX0i : (Mm : Int) - (R : Int) = (X0 : Int) := by omega
  obtain ⟨R1, hR1e⟩ : ∃ R1, R1 = R + 1 := ⟨_, rfl⟩
  have hR1w : IntKind.i64.wrap ((R : Int) + 1) = (R1 : Int) := wrap_to (by omega) (by omega)
  obtain ⟨P, hP⟩ : ∃ P, P = 2 ^ M := ⟨_, rfl⟩
  have hPb : P ≤ 32 := by rw [hP]; exact Nat.pow_le_pow_right (by omega) hMb.2
  have hPp : 0 < P := by rw [hP]; exact Nat.pow_pos (by omega)
  have hsh : (2 : Int) ^ M = (P : Int) := by rw [hP]; simp
  obtain ⟨d, hd⟩ : ∃ d, d = M - R := ⟨_, rfl⟩
  have hdi : (M : Int) - (R : Int) = (d : Int) := by omega
  have hd5 : 1 ≤ d ∧ d ≤ 5 := by omega
  obtain ⟨d1, hd1⟩ : ∃ d1, d1 = d - 1 := ⟨_, rfl⟩
  have hd1i : (d : Int) - 1 = (d1 : Int) := by omega
  have hd15 : d1 ≤ 5 := by omega
  obtain ⟨Q0, hQ0⟩ : ∃ Q0, Q0 = 2 ^ d := ⟨_, rfl⟩
  have hshd : (2 : Int) ^ d = (Q0 : Int) := by rw [hQ0]; simp
  have hQb : 1 ≤ Q0 ∧ Q0 ≤ 32 := by rw [hQ0]; exact ⟨Nat.pow_pos (by omega), Nat.pow_le_pow_right (by omega) hd5.2⟩
  obtain ⟨H0, hH0⟩ : ∃ H0, H0 = 2 ^ d1 := ⟨_, rfl⟩
  have hshh : (2 : Int) ^ d1 = (H0 : Int) := by rw [hH0]; simp
  have hHb : 1 ≤ H0 ∧ H0 ≤ 32 := by rw [hH0]; exact ⟨Nat.pow_pos (by omega), Nat.pow_le_pow_right (by omega) hd15⟩
  have hQH : Q0 = 2 * H0 := by rw [hQ0, hH0, show d = d1 + 1 by omega, Nat.pow_succ]; omega
  obtain ⟨T, hT0, hT1⟩ := pick_nat6 (m := t) (k := H0) (by omega)
  have hTb : T ≤ 32 := by omega
  have HTQ : Hid (2 * T < Q0) := by show 2 * T < Q0; omega
  obtain ⟨l, hl⟩ : ∃ l, l = mnl M (R + 1) := ⟨_, rfl⟩
  obtain ⟨K0, hK0⟩ : ∃ K0, K0 = mkn M R := ⟨_, rfl⟩
  have hKl : K0 = l.length := by rw [hK0, hl]; rfl
  have hpos : 0 < K0 := by rw [hKl, hl]; exact mnl_pos hMb.1 hMb.2 (by omega)
  obtain ⟨KX, hKX⟩ : ∃ KX, KX = mkn M X0 := ⟨_, rfl⟩
  obtain ⟨K1, hK1⟩ : ∃ K1, K1 = mkn M R1 := ⟨_, rfl⟩
  have hlen : K0 ≤ 1000 := by have := mnl_len hMb.2 (R + 1); rw [hKl, hl]; omega
  have hlenX : KX ≤ 1000 := by have := mnl_len hMb.2 (X0 + 1); rw [hKX]; unfold mkn; omega
  have hlen1 : K1 ≤ 1000 := by have := mnl_len hMb.2 (R1 + 1); rw [hK1]; unfold mkn; omega
  have hnb : ¬ (256 : Int) < (n : Int) := by omega
  have HP1 : Hid (∀ w : World, Calls Try.prog 20 #[.int .i64 m, .int .i64 5] w fun e w' => e = .returned (.int .i64 M0) ∧ w' = w) := fun w => by rw [← hM0]; exact pick_any m 5 w hm.1 hm.2 (by omega) (by omega)
  have HP2 : Hid (∀ w : World, Calls Try.prog 20 #[.int .i64 r, .int .i64 (M : Nat)] w fun e w' => e = .returned (.int .i64 R) ∧ w' = w) := fun w => by rw [← hR0]; exact pick_any r M w hr.1 hr.2 (by omega) (by omega)
  have HP3 : Hid (∀ w : World, Calls Try.prog 20 #[.int .i64 t, .int .i64 (H0 : Nat)] w fun e w' => e = .returned (.int .i64 T) ∧ w' = w) := fun w => by rw [← hT0]; exact pick_any t H0 w ht.1 ht.2 (by omega) (by omega)
  have HP4 : Hid (∀ x, I64 x → ∃ k : Nat, k < P ∧ ∀ w : World, Calls Try.prog 20 #[.int .i64 x, .int .i64 (P : Nat)] w fun e w' => e = .returned (.int .i64 k) ∧ w' = w) := fun x hx => by
    obtain ⟨k, hk0, hk1⟩ := pick_nat6 (m := x) (k := P) hPp
    exact ⟨k, hk1, fun w => by rw [← hk0]; exact pick_any x P w hx.1 hx.2 (by omega) (by omega)⟩
  have HRw : Hid (∀ (i : Nat) wx, i ≤ 1000 → Below w.heap.size w wx → Calls Try.prog 22 #[.slice ao n ca, .int .i64 (i : Nat)] wx fun e w' => (∃ r, e = .returned (.int .i64 r) ∧ I64 r) ∧ ∃ k, w' = wx.drewN k) := fun i wx hi hx => raw_any (ha.below hx) (by omega) i (by omega)
  have HC0 : Hid (∀ w : World, Calls Try.prog 9 #[.int .i64 (R : Nat), .int .i64 (M : Nat)] w fun e w' => ∃ R0 ro rc, e = .returned (.tuple #[.agg #[.int .i64 2, .int .i64 (P : Nat), .slice ro K0 rc], .int .i64 0]) ∧ (Cod FM P ro K0 R0 w' ∧ RL (.slice ro K0 rc) K0 P R0 w') ∧ MuR M R P R0 ∧ Below w.heap.size w w') := fun w => by rw [hK0]; exact mCode_cod R M P hMb.1 hMb.2 (by omega) hP w
  have HCX : Hid (∀ w : World, Calls Try.prog 9 #[.int .i64 (X0 : Nat), .int .i64 (M : Nat)] w fun e w' => ∃ R0 ro rc, e = .returned (.tuple #[.agg #[.int .i64 2, .int .i64 (P : Nat), .slice ro KX rc], .int .i64 0]) ∧ (Cod FM P ro KX R0 w' ∧ RL (.slice ro KX rc) KX P R0 w') ∧ MuR M X0 P R0 ∧ Below w.heap.size w w') := fun w => by rw [hKX]; exact mCode_cod X0 M P hMb.1 hMb.2 (by omega) hP w
  have HC1 : Hid (∀ w : World, Calls Try.prog 9 #[.int .i64 (R1 : Nat), .int .i64 (M : Nat)] w fun e w' => ∃ R0 ro rc, e = .returned (.tuple #[.agg #[.int .i64 2, .int .i64 (P : Nat), .slice ro K1 rc], .int .i64 0]) ∧ (Cod FM P ro K1 R0 w' ∧ RL (.slice ro K1 rc) K1 P R0 w') ∧ MuR M R1 P R0 ∧ Below w.heap.size w w') := fun w => by rw [hK1]; exact mCode_cod R1 M P hMb.1 hMb.2 (by omega) hP w
  have HDu : Hid (∀ (ro : Option Addr) rc R0 wx, Cod FM P ro K0 R0 wx → MuR M R P R0 → Calls Try.prog 24 #[.agg #[.int .i64 2, .int .i64 (P : Nat), .slice ro K0 rc]] wx fun e w' => ∃ xo xc, e = .returned (.tuple #[.agg #[.int .i64 2, .int .i64 (P : Nat), .slice xo KX xc], .int .i64 0]) ∧ (∀ R', MuR M X0 P R' → RL (.slice xo KX xc) KX P R' w') ∧ Below wx.heap.size wx w') := fun ro rc R0 wx hc hm => by
    rw [hK0] at hc ⊢; rw [hKX, hX0]; exact mDual_any hMb.1 hMb.2 (by omega) hP rc hc hm
  have HSu : Hid (∀ (ro so : Option Addr) rc sc R0 R2 wx, Cod FM P ro K0 R0 wx → MuR M R P R0 → Cod FM P so K1 R2 wx → MuR M R1 P R2 → Calls Try.prog 26 #[.agg #[.int .i64 2, .int .i64 (P : Nat), .slice ro K0 rc], .agg #[.int .i64 2, .int .i64 (P : Nat), .slice so K1 sc]] wx fun e w' => ∃ xo xc, e = .returned (.tuple #[.agg #[.int .i64 2, .int .i64 (P : Nat), .slice xo K1 xc], .int .i64 0]) ∧ RL (.slice xo K1 xc) K1 P R2 w' ∧ Below wx.heap.size wx w') := fun ro so rc sc R0 R2 wx hc hm hc1 hm1 => by
    rw [hK0] at hc ⊢; rw [hK1] at hc1 ⊢; subst hR1e; exact mSum_any (by omega) hP rc sc hc hm hc1 hm1
  have HSr : Hid (∀ (ro so : Option Addr) rc sc R0 R2 wx, Cod FM P ro K0 R0 wx → Cod FM P so 1 R2 wx → Calls Try.prog 26 #[.agg #[.int .i64 2, .int .i64 (P : Nat), .slice ro K0 rc], .agg #[.int .i64 2, .int .i64 (P : Nat), .slice so 1 sc]] wx fun e w' => ∃ xo k xc, e = .returned (.tuple #[.agg #[.int .i64 2, .int .i64 (P : Nat), .slice xo k xc], .int .i64 0]) ∧ k ≤ K0 + 1 ∧ Below wx.heap.size wx w') := fun ro so rc sc R0 R2 wx hc hc1 => by
    rw [hK0] at hc ⊢; exact mSumRow_any rc sc hc hc1
  have HDs : Hid (∀ (ro : Option Addr) rc R0 wx, Cod FM P ro K0 R0 wx → MuR M R P R0 → 2 ^ K0 ≤ 4096 → Calls Try.prog 28 #[.agg #[.int .i64 2, .int .i64 (P : Nat), .slice ro K0 rc]] wx fun e w' => e = .returned (.tuple #[.int .i64 (Q0 : Nat), .int .i64 0]) ∧ Below wx.heap.size wx w') := fun ro rc R0 wx hc hm hf => by
    rw [hK0] at hc hf ⊢; rw [hQ0, hd]; exact mDist_any hMb.1 hMb.2 (by omega) hP rc hc hm hf
  have HFw : Hid (∀ w : World, Calls Try.prog 27 #[.int .i64 2, .int .i64 (K0 : Nat)] w (FewP 2 K0 w)) := fun w => fewR_any 2 K0 (by omega) (by omega) (by omega) w
  have HWo : Hid (∀ (f k : Nat) wx, f ≤ 1000 → 0 < k → k ≤ 1000 → Below w.heap.size w wx → Calls Try.prog 21 #[.slice ao n ca, .int .i64 (f : Nat), .int .i64 (k : Nat), .bool false] wx fun e w' => ∃ (g : Nat → Nat) (ga cg : Nat), e = .returned (.slice (some ⟨ga, 0, none⟩) k cg) ∧ (∀ i, g i < 2) ∧ Row ga k g w' ∧ (k ≤ cg ∧ cg ≤ 9223372036854775807) ∧ Below wx.heap.size wx w') := fun f k wx hf hk0 hk hx => by
    refine (wordOf_any (ha.below hx) (by omega) f k false hf hk).mono ?_
    rintro e w' ⟨v, y, rfl, hov, hwd, hb⟩
    obtain ⟨k1, hk1⟩ : ∃ k1, k = k1 + 1 := ⟨k - 1, by omega⟩
    have hy : ∀ j, j < k → y j = (((if (y j).toNat < 2 then (y j).toNat else 0) : Nat) : Int) := fun j hj => by
      have := hwd j hj
      rcases this with (e | e) | ⟨e, _⟩
      · rw [e]; rfl
      · rw [e]; rfl
      · cases e
    rw [zl_congr (y := fun j => (((if (y j).toNat < 2 then (y j).toNat else 0) : Nat) : Int)) (fun j hj => hy j hj)] at hov
    subst hk1
    obtain ⟨g, cp, e1, e2, e3, e4⟩ := own_elm (c := fun j => if (y j).toNat < 2 then (y j).toNat else 0) hov
    subst e1
    exact ⟨fun j => if (y j).toNat < 2 then (y j).toNat else 0, g, cp, rfl, fun i => by dsimp only; split <;> omega, e4, ⟨e2, e3⟩, hb⟩
  have HW7 : Hid (∀ wx, Below w.heap.size w wx → Calls Try.prog 21 #[.slice ao n ca, .int .i64 7, .int .i64 (P : Nat), .bool false] wx fun e w' => ∃ (g : Nat → Nat) (ga cg : Nat), e = .returned (.slice (some ⟨ga, 0, none⟩) P cg) ∧ (∀ i, g i < 2) ∧ Row ga P g w' ∧ (P ≤ cg ∧ cg ≤ 9223372036854775807) ∧ Below wx.heap.size wx w') := fun wx hx => HWo.out 7 P wx (by omega) hPp (by omega) hx
  have HWA : Hid (∀ wx, Below w.heap.size w wx → Calls Try.prog 21 #[.slice ao n ca, .int .i64 0, .int .i64 (K0 : Nat), .bool false] wx fun e w' => ∃ (g : Nat → Nat) (ga cg : Nat), e = .returned (.slice (some ⟨ga, 0, none⟩) K0 cg) ∧ (∀ i, g i < 2) ∧ Row ga K0 g w' ∧ (K0 ≤ cg ∧ cg ≤ 9223372036854775807) ∧ Below wx.heap.size wx w') := fun wx hx => HWo.out 0 K0 wx (by omega) hpos hlen hx
  have HEn : Hid (∀ (g : Nat → Nat) ga cg wx, (∀ i, g i < 2) → Row ga K0 g wx → Calls Try.prog 15 #[.int .i64 (R : Nat), .int .i64 (M : Nat), .slice (some ⟨ga, 0, none⟩) K0 cg] wx fun e w' => ∃ G, e = .returned (.tuple #[.slice (some ⟨G, 0, none⟩) P P, .int .i64 0]) ∧ Row G P (fun x => mwv l g x l.length) w' ∧ Below wx.heap.size wx w') := fun g ga cg wx hg hrow => by
    refine (mEncode_any R M P hMb.1 hMb.2 (by omega) hP (hrow.sl (Nat.le_refl _)).z (by omega)).mono ?_
    have hbc : bchk isbt K0 (fun j => ((g j : Nat) : Int)) ((mnl M (R + 1)).length : Nat) = 0 := by
      unfold bchk
      rw [← hl, ← hKl, if_neg (fun h => h rfl), if_pos (allP_ofM K0 (fun j hj => decide_eq_true (by have := hg j; omega)))]
    rintro e w' ⟨hb, ⟨_, G, rfl, _, hr2⟩ | ⟨q, _⟩⟩
    · rw [← hl] at hr2
      exact ⟨G, rfl, hr2, hb⟩
    · exact absurd hbc q
  have HCp : Hid (∀ (c : Nat → Nat) G wx, Row G P c wx → Calls Try.prog 29 #[.slice (some ⟨G, 0, none⟩) P P] wx fun e w' => ∃ G2 c2, e = .returned (.slice (some ⟨G2, 0, none⟩) P c2) ∧ wx.heap.size ≤ G2 ∧ Row G2 P c w' ∧ (P ≤ c2 ∧ c2 ≤ 9223372036854775807) ∧ Below wx.heap.size wx w') := fun c G wx hrow => by
    refine (copyI_any (hrow.sl (Nat.le_refl _)).z (by omega) (fun e => by cases e) (fun x hx => by cases hx; exact hrow.lt)).mono ?_
    rintro e w' ⟨v, rfl, hov, hb⟩
    obtain ⟨P1, hP1⟩ : ∃ P1, P = P1 + 1 := ⟨P - 1, by omega⟩
    have hlt := hov.lt
    rw [hP1] at hov ⊢
    obtain ⟨g, cp, e1, e2, e3, e4⟩ := own_elm hov
    subst e1
    exact ⟨g, cp, rfl, (hlt g rfl).1, e4, ⟨e2, e3⟩, hb⟩
  have HDc : Hid (∀ (g c : Nat → Nat) G cG wx, (∀ i, g i < 2) → (∀ x, x < P → c x < 2) → Row G P c wx → (P ≤ cG ∧ cG ≤ 9223372036854775807) → wgt (dff (fun x => mwv l g x l.length) c) P ≤ T → Calls Try.prog 17 #[.int .i64 (R : Nat), .int .i64 (M : Nat), .slice (some ⟨G, 0, none⟩) P cG] wx fun e w' => Below wx.heap.size wx w' ∧ ∃ G2, e = .returned (.tuple #[.slice (some ⟨G2, 0, none⟩) K0 K0, .int .i64 (wgt (dff (fun x => mwv l g x l.length) c) P : Nat), .bool true, .int .i64 0]) ∧ Row G2 K0 g w') := fun g c G cG wx hg hc hrow hcG hfew => by
    have hQ := HTQ.out
    have hmf := mends_few hMb.1 hMb.2 (show R ≤ M by omega) hP hc (g := g) (fun i _ => hg i) (by rw [← hl, ← hd, ← hQ0]; omega)
    refine (mDecode_any R M P hMb.1 hMb.2 (by omega) hP (cap := cG) (c := c) ⟨(hrow.sl (Nat.le_refl _)).z, fun x hx => (by cases hx; exact hrow.lt), by omega, fun e => (by cases e), hcG.1, hcG.2⟩ hc).mono ?_
    rintro e w' ⟨hb, hx⟩
    refine ⟨hb, ?_⟩
    rcases hx with ⟨_, G2, rfl, _, q3⟩ | ⟨q, _⟩
    · rw [hmf.1]
      rw [← hl, ← hKl] at q3 hmf
      refine ⟨G2, by rw [← hl, ← hKl], q3.congr (fun i hi => hmf.2 i (by omega))⟩
    · exfalso
      apply q
      rw [hmf.1, ← hl, ← hd, ← hQ0]
      omega
  have HAp : Hid (∀ (a c : Nat → Nat) G G2 cG wx, Row G P a wx → Row G2 P c wx → Calls Try.prog 30 #[.slice (some ⟨G, 0, none⟩) P P, .slice (some ⟨G2, 0, none⟩) P cG] wx fun e w' => e = .returned (.int .i64 (wgt (dff a c) P : Nat)) ∧ Below wx.heap.size wx w') := fun a c G G2 cG wx h1 h2 => by
    rw [← ct_dff]
    exact capart_any (h1.sl (Nat.le_refl _)).z (h2.sl (Nat.le_refl _)).z (fun x hx => by cases hx; exact h1.lt) (fun x hx => by cases hx; exact h2.lt) (by omega)
  have HSa : Hid (∀ {a b : Option Addr} {k ca cb : Nat} {R0 : Nat → Nat → Nat} {wx : World}, k ≤ 1000 → RL (.slice a k ca) k P R0 wx → RL (.slice b k cb) k P R0 wx → Calls Try.prog 25 #[.agg #[.int .i64 2, .int .i64 (P : Nat), .slice a k ca], .agg #[.int .i64 2, .int .i64 (P : Nat), .slice b k cb]] wx fun e w' => e = .returned (.bool true) ∧ Below wx.heap.size wx w') := fun {a b k ca cb R0 wx} hk h1 h2 => rsameCode_any 2 P h1 h2 (by omega) (by omega)
  have hRMb : R < M := hR1
  have hMm5 : Mm ≤ 5 := by omega
  have hX05 : X0 ≤ 5 := by omega
  have hR15 : R1 ≤ 5 := by omega
  clear ha hM0 hM1 hM hMm hX0 hR1e hR0 hR1 hP hd hd1 hQ0 hH0 hQH hT0 hT1 hl hK0 hKl hKX hK1 hr hm ht
  go_enter Try.func6, Try.ntmps6
  go_wp2_with fail
  refine (HP1.out w).mono ?_
  rintro e w' ⟨rfl, hw⟩
  have hw := hw.symm
  subst hw
  go_wp2_with fail
  refine (HP2.out w).mono ?_
  rintro e w' ⟨rfl, hw⟩
  have hw := hw.symm
  subst hw
  go_wp2_with fail
  refine (HC0.out w).mono ?_
  rintro e w1 ⟨R0, ro, rc, rfl, ⟨hco1, _⟩, hmu, hb1⟩
  obtain ⟨w2, hw2⟩ : ∃ w2, w2 = w1.alloc (.cells #[.int .i64 2, .int .i64 (P : Nat), .slice ro K0 rc] 27) := ⟨_, rfl⟩
  obtain ⟨g1, g2, g3⟩ := box_at 2 P (.slice ro K0 rc) w1
  rw [← hw2] at g1 g2 g3
  obtain ⟨bc, hbc⟩ : ∃ bc, bc = w1.heap.size := ⟨_, rfl⟩
  rw [← hbc] at g2
  have H2 : Hid (Below w.heap.size w w2 ∧ Cod FM P ro K0 R0 w2 ∧ MuR M R P R0 ∧ CB bc 2 P (.slice ro K0 rc) w2) := ⟨bel_up' hb1 g1, hco1.below g1, hmu, g2⟩
  obtain ⟨c0, c1, c2⟩ := g2
  clear hco1 hmu hb1 g1 g3
  go_wp2_with fail
  try rw [← hbc]
  rw [← hw2]
  clear hw2 hbc c0 c1 c2
  refine (HDu.out ro rc R0 w2 H2.out.2.1 H2.out.2.2.1).mono ?_
  rintro e w3 ⟨xo, xc, rfl, hxr, hb3⟩
  obtain ⟨w4, hw4⟩ : ∃ w4, w4 = w3.alloc (.cells #[.int .i64 2, .int .i64 (P : Nat), .slice xo KX xc] 27) := ⟨_, rfl⟩
  obtain ⟨g1, g2, g3⟩ := box_at 2 P (.slice xo KX xc) w3
  rw [← hw4] at g1 g2 g3
  obtain ⟨bd, hbd⟩ : ∃ bd, bd = w3.heap.size := ⟨_, rfl⟩
  rw [← hbd] at g2
  have H4 : Hid (Below w2.heap.size w2 w4 ∧ (∀ R', MuR M X0 P R' → RL (.slice xo KX xc) KX P R' w4) ∧ CB bd 2 P (.slice xo KX xc) w4) := ⟨bel_up' hb3 g1, fun R' h => (hxr R' h).below g1, g2⟩
  clear hxr hb3 g1 g2 g3
  go_wp2_with fail
  try rw [← hbd]
  rw [← hw4]
  clear hw4 hbd
  refine (HCX.out w4).mono ?_
  rintro e w5 ⟨RX, yo, yc, rfl, ⟨_, hrly⟩, hmuX, hb5⟩
  obtain ⟨w6, hw6⟩ : ∃ w6, w6 = w5.alloc (.cells #[.int .i64 2, .int .i64 (P : Nat), .slice yo KX yc] 27) := ⟨_, rfl⟩
  obtain ⟨g1, g2, g3⟩ := box_at 2 P (.slice yo KX yc) w5
  rw [← hw6] at g1 g2 g3
  have hb46 := bel_up' hb5 g1
  have H6 : Hid (Below w2.heap.size w2 w6 ∧ RL (.slice xo KX xc) KX P RX w6 ∧ RL (.slice yo KX yc) KX P RX w6) := ⟨bel_up' H4.out.1 hb46, (H4.out.2.1 RX hmuX).below hb46, hrly.below g1⟩
  obtain ⟨c0, c1, c2⟩ := H4.out.2.2.keep hb5
  have hlt5 : bd < w5.heap.size := cell_lt c0
  clear hrly hmuX hb5 g1 g2 g3 hb46
  go_wp2_with fail
  rw [← hw6]
  clear hw6
  refine (HSa.out hlenX H6.out.2.1 H6.out.2.2).mono ?_
  rintro e w7 ⟨rfl, hb7⟩
  have H7 : Hid (Below w2.heap.size w2 w7) := bel_up' H6.out.1 hb7
  clear hb7 c0 c1 c2 hlt5
  go_upto_region 10 with fail
  go_cut [15, 10] (fun vs ve wx => ∃ bS so ks sc, vs = .pointer (some ⟨bS, 0, none⟩) ∧ ve = .int .i64 0 ∧ Hid (CB bS 2 P (.slice so ks sc) wx ∧ ks ≤ K0 + 1 ∧ Below w2.heap.size w2 wx))
  case first =>
    have hPw : IntKind.i64.wrap (P : Int) = (P : Int) := wrap_to rfl (by omega)
    have HK5 : Hid (∀ wx, Below w7.heap.size w7 wx → CB bc 2 P (.slice ro K0 rc) wx) := fun wx hx => H2.out.2.2.2.keep (bel_up' H7.out hx)
    have hS0 := HK5.out _ (Below.refl w7.heap.size w7).drew
    have F0 : Hid (Below w7.heap.size w7 w7.drew) := (Below.refl _ _).drew
    refine wp_region_noPanic ?_
    refine wp_region_L (S := CB bc 2 P (.slice ro K0 rc)) [] (by kernel_rfl) ?_
    obtain ⟨x0, hx0⟩ : ∃ x0, x0 = w7.drew := ⟨_, rfl⟩
    rw [← hx0] at F0 hS0
    rw [← hx0]
    clear hx0
    refine wpAnyL_take (i := 0) (v := ?_) (by rw [List.getElem?_toArray]; rfl) (by decide +kernel) (by decide +kernel) (by decide +kernel) (by decide +kernel) (by decide +kernel) (fun _ _ _ h => h) hS0 (Or.inl ⟨by rfl, ?_⟩) ?_
    rotate_left
    · intro wz hSz; obtain ⟨z0, z1, z2⟩ := hSz; go_simp; first | done | with_reducible rfl
    try simp only [Act.put, List.setIfInBounds_toArray, List.set_cons_zero, List.set_cons_succ]
    refine wpAnyL_take (i := 1) (v := ?_) (by rw [List.getElem?_toArray]; rfl) (by decide +kernel) (by decide +kernel) (by decide +kernel) (by decide +kernel) (by decide +kernel) (fun _ _ _ h => h) hS0 (Or.inl ⟨by rfl, ?_⟩) ?_
    rotate_left
    · intro wz hSz; obtain ⟨z0, z1, z2⟩ := hSz; go_simp; first | done | with_reducible rfl
    try simp only [Act.put, List.setIfInBounds_toArray, List.set_cons_zero, List.set_cons_succ]
    refine wpAnyL_take (i := 2) (v := ?_) (by rw [List.getElem?_toArray]; rfl) (by decide +kernel) (by decide +kernel) (by decide +kernel) (by decide +kernel) (by decide +kernel) (fun _ _ _ h => h) hS0 (Or.inl ⟨by rfl, ?_⟩) ?_
    rotate_left
    · intro wz hSz; obtain ⟨z0, z1, z2⟩ := hSz; go_simp; first | done | with_reducible rfl
    try simp only [Act.put, List.setIfInBounds_toArray, List.set_cons_zero, List.set_cons_succ]
    refine wpAnyL_take (i := 3) (v := ?_) (by rw [List.getElem?_toArray]; rfl) (by decide +kernel) (by decide +kernel) (by decide +kernel) (by decide +kernel) (by decide +kernel) (fun _ _ _ h => h) hS0 (Or.inl ⟨by rfl, ?_⟩) ?_
    rotate_left
    · intro wz hSz; obtain ⟨z0, z1, z2⟩ := hSz; go_simp; first | done | with_reducible rfl
    try simp only [Act.put, List.setIfInBounds_toArray, List.set_cons_zero, List.set_cons_succ]
    refine wpAnyL_take (i := 4) (v := ?_) (by rw [List.getElem?_toArray]; rfl) (by decide +kernel) (by decide +kernel) (by decide +kernel) (by decide +kernel) (by decide +kernel) (fun _ _ _ h => h) hS0 (Or.inl ⟨by rfl, ?_⟩) ?_
    rotate_left
    · intro wz hSz; obtain ⟨z0, z1, z2⟩ := hSz; go_simp; first | done | with_reducible rfl
    try simp only [Act.put, List.setIfInBounds_toArray, List.set_cons_zero, List.set_cons_succ]
    refine wpAnyL_take (i := 5) (v := ?_) (by rw [List.getElem?_toArray]; rfl) (by decide +kernel) (by decide +kernel) (by decide +kernel) (by decide +kernel) (by decide +kernel) (fun _ _ _ h => h) hS0 (Or.inl ⟨by rfl, ?_⟩) ?_
    rotate_left
    · intro wz hSz; obtain ⟨z0, z1, z2⟩ := hSz; go_simp; first | done | with_reducible rfl
    try simp only [Act.put, List.setIfInBounds_toArray, List.set_cons_zero, List.set_cons_succ]
    refine wpAnyL_two (i := 6) (k := 13) (by kernel_rfl) (by rw [List.getElem?_toArray]; rfl) (by rw [List.getElem?_toArray]; rfl) (fun K hK => ?_) (fun K hK => ?_)
    · have HK : Hid _ := hK
      clear hK
      go_simp
      refine (HW7.out x0 (bel_up' H2.out.1 (bel_up' H7.out F0.out))).mono ?_
      rintro e x1 ⟨g, ga, cg, rfl, hg, hrow, hcg, hb⟩
      have F1 : Hid (Below w7.heap.size w7 x1 ∧ ((∀ i, g i < 2) ∧ Row ga P g x1 ∧ (P ≤ cg ∧ cg ≤ 9223372036854775807))) := ⟨bel_up' F0.out hb, ⟨hg, hrow, hcg⟩⟩
      have hS1 := HK5.out x1 F1.out.1
      clear hg hrow hcg hb
      refine HK.out _ _ (fun _ => hS1) ?_
      clear HK K
      try simp only [Act.put, List.setIfInBounds_toArray, List.set_cons_zero, List.set_cons_succ]
      refine wpAnyL_two (i := 7) (k := 13) (by kernel_rfl) (by rw [List.getElem?_toArray]; rfl) (by rw [List.getElem?_toArray]; rfl) (fun K hK => ?_) (fun K hK => ?_)
      · have HK : Hid _ := hK
        clear hK
        go_simp
        obtain ⟨x2, hx⟩ : ∃ x, x = x1.alloc (.cells #[.slice (some ⟨ga, 0, none⟩) P cg] 22) := ⟨_, rfl⟩
        have hb : Below x1.heap.size x1 x2 := by rw [hx]; exact (Below.refl _ _).alloc (Nat.le_refl _) _
        obtain ⟨gB, hG⟩ : ∃ gB, gB = x1.heap.size := ⟨_, rfl⟩
        have hcb : x2.cell? ⟨gB, 0, none⟩ = some (.slice (some ⟨ga, 0, none⟩) P cg) := by rw [hG, hx]; simp
        have F2 : Hid (Below w7.heap.size w7 x2 ∧ ((∀ i, g i < 2) ∧ Row ga P g x2 ∧ (P ≤ cg ∧ cg ≤ 9223372036854775807)) ∧ x2.cell? ⟨gB, 0, none⟩ = some (.slice (some ⟨ga, 0, none⟩) P cg)) := ⟨bel_up' F1.out.1 hb, ⟨F1.out.2.1, F1.out.2.2.1.below hb F1.out.2.2.1.lt, F1.out.2.2.2⟩, hcb⟩
        have hS2 := HK5.out x2 F2.out.1
        try rw [← hx]
        try rw [← hG]
        have HK2 := HK.out
        clear hcb hb hG hx
        refine HK2 _ _ (fun _ => hS2) ?_
        clear HK2 HK K
        try simp only [Act.put, List.setIfInBounds_toArray, List.set_cons_zero, List.set_cons_succ]
        refine wpAnyL_take (i := 8) (v := ?_) (by rw [List.getElem?_toArray]; rfl) (by decide +kernel) (by decide +kernel) (by decide +kernel) (by decide +kernel) (by decide +kernel) (fun _ _ _ h => h) hS2 (Or.inl ⟨by rfl, ?_⟩) ?_
        rotate_left
        · intro wz hSz; obtain ⟨z0, z1, z2⟩ := hSz; go_simp; first | done | with_reducible rfl
        try simp only [Act.put, List.setIfInBounds_toArray, List.set_cons_zero, List.set_cons_succ]
        refine wpAnyL_two (i := 9) (k := 13) (by kernel_rfl) (by rw [List.getElem?_toArray]; rfl) (by rw [List.getElem?_toArray]; rfl) (fun K hK => ?_) (fun K hK => ?_)
        · have HK : Hid _ := hK
          clear hK
          obtain ⟨R9, hR9⟩ := row_cod (by omega) hPb (fun x _ => F2.out.2.1.1 x) F2.out.2.1.2.1 F2.out.2.1.2.2 (F2.out.2.2)
          have HSS : Hid (Calls Try.prog 26 #[.agg #[.int .i64 2, .int .i64 (P : Nat), .slice ro K0 rc], .agg #[.int .i64 2, .int .i64 (P : Nat), .slice (some ⟨gB, 0, none⟩) 1 1]] x2 fun e w' => ∃ xo k xc, e = .returned (.tuple #[.agg #[.int .i64 2, .int .i64 (P : Nat), .slice xo k xc], .int .i64 0]) ∧ k ≤ K0 + 1 ∧ Below x2.heap.size x2 w') := HSr.out ro (some ⟨gB, 0, none⟩) rc 1 R0 R9 x2 (H2.out.2.1.below (bel_up' H7.out F2.out.1)) hR9
          clear hR9
          go_simp
          refine HSS.out.mono ?_
          rintro e x3 ⟨so, ks, sc, rfl, hks, hb⟩
          have F3 : Hid (Below w7.heap.size w7 x3 ∧ ((∀ i, g i < 2) ∧ Row ga P g x3 ∧ (P ≤ cg ∧ cg ≤ 9223372036854775807)) ∧ x3.cell? ⟨gB, 0, none⟩ = some (.slice (some ⟨ga, 0, none⟩) P cg) ∧ ks ≤ K0 + 1) := ⟨bel_up' F2.out.1 hb, ⟨F2.out.2.1.1, F2.out.2.1.2.1.below hb F2.out.2.1.2.1.lt, F2.out.2.1.2.2⟩, ((bcell hb).1 _ _ (cell_lt F2.out.2.2)).trans F2.out.2.2, hks⟩
          have hS3 := HK5.out x3 F3.out.1
          clear hks hb HSS
          refine HK.out _ _ (fun _ => hS3) ?_
          clear HK K
          try simp only [Act.put, List.setIfInBounds_toArray, List.set_cons_zero, List.set_cons_succ]
          refine wpAnyL_take (i := 10) (v := ?_) (by rw [List.getElem?_toArray]; rfl) (by decide +kernel) (by decide +kernel) (by decide +kernel) (by decide +kernel) (by decide +kernel) (fun _ _ _ h => h) hS3 (Or.inl ⟨by rfl, ?_⟩) ?_
          rotate_left
          · intro wz hSz; obtain ⟨z0, z1, z2⟩ := hSz; go_simp; first | done | with_reducible rfl
          try simp only [Act.put, List.setIfInBounds_toArray, List.set_cons_zero, List.set_cons_succ]
          refine wpAnyL_take (i := 11) (v := ?_) (by rw [List.getElem?_toArray]; rfl) (by decide +kernel) (by decide +kernel) (by decide +kernel) (by decide +kernel) (by decide +kernel) (fun _ _ _ h => h) hS3 (Or.inl ⟨by rfl, ?_⟩) ?_
          rotate_left
          · intro wz hSz; obtain ⟨z0, z1, z2⟩ := hSz; go_simp; first | done | with_reducible rfl
          try simp only [Act.put, List.setIfInBounds_toArray, List.set_cons_zero, List.set_cons_succ]
          refine wpAnyL_take (i := 12) (v := ?_) (by rw [List.getElem?_toArray]; rfl) (by decide +kernel) (by decide +kernel) (by decide +kernel) (by decide +kernel) (by decide +kernel) (fun _ _ _ h => h) hS3 (Or.inl ⟨by rfl, ?_⟩) ?_
          rotate_left
          · intro wz hSz; obtain ⟨z0, z1, z2⟩ := hSz; go_simp; first | done | with_reducible rfl
          try simp only [Act.put, List.setIfInBounds_toArray, List.set_cons_zero, List.set_cons_succ]
          refine wpAnyL_one (i := 13) (by kernel_rfl) (by rw [List.getElem?_toArray]; rfl) (fun K hK => ?_)
          have HK : Hid _ := hK
          clear hK
          go_simp
          obtain ⟨x4, hx⟩ : ∃ x, x = x3.alloc (.cells #[.int .i64 0, .int .i64 0, .slice none 0 0] 27) := ⟨_, rfl⟩
          have hb : Below x3.heap.size x3 x4 := by rw [hx]; exact (Below.refl _ _).alloc (Nat.le_refl _) _
          obtain ⟨bS, hG⟩ : ∃ bS, bS = x3.heap.size := ⟨_, rfl⟩
          have hcb : RB bS x4 ∧ w7.heap.size ≤ bS := by rw [hG, hx]; exact ⟨RB.new _ _ _ _, F3.out.1.size⟩
          have HbS : Hid (w7.heap.size ≤ bS) := hcb.2
          have F4 : Hid (Below w7.heap.size w7 x4 ∧ ((∀ i, g i < 2) ∧ Row ga P g x4 ∧ (P ≤ cg ∧ cg ≤ 9223372036854775807)) ∧ x4.cell? ⟨gB, 0, none⟩ = some (.slice (some ⟨ga, 0, none⟩) P cg) ∧ ks ≤ K0 + 1 ∧ RB bS x4) := ⟨bel_up' F3.out.1 hb, ⟨F3.out.2.1.1, F3.out.2.1.2.1.below hb F3.out.2.1.2.1.lt, F3.out.2.1.2.2⟩, ((bcell hb).1 _ _ (cell_lt F3.out.2.2.1)).trans F3.out.2.2.1, F3.out.2.2.2, hcb.1⟩
          have hS4 := HK5.out x4 F4.out.1
          try rw [← hx]
          try rw [← hG]
          have HK2 := HK.out
          clear hcb hb hG hx
          refine HK2 _ _ (fun _ => hS4) ?_
          clear HK2 HK K
          try simp only [Act.put, List.setIfInBounds_toArray, List.set_cons_zero, List.set_cons_succ]
          obtain ⟨⟨q0, c0⟩, ⟨q1, c1⟩, ⟨q2, c2⟩, f0, f1, f2⟩ := F4.out.2.2.2.2
          refine wpAnyL_one (i := 14) (by kernel_rfl) (by rw [List.getElem?_toArray]; rfl) (fun K hK => ?_)
          have HK : Hid _ := hK
          clear hK
          go_simp
          have hSE : CB bc 2 P (.slice ro K0 rc) (laid x4 bS 2 P (.slice so ks sc)) := (HK5.out _ F4.out.1).other (laid_heap _ _ _ _ _ (by have := HbS.out; have := H2.out.2.2.2.c0; have := cell_lt this; have := H7.out.size; simp only at *; omega))
          unfold laid at hSE
          refine HK.out _ _ (fun _ => hSE) ?_
          clear HK K c0 c1 c2 f0 f1 f2
          try simp only [Act.put, List.setIfInBounds_toArray, List.set_cons_zero, List.set_cons_succ]
          have HE : Hid (CB bS 2 P (.slice so ks sc) (laid x4 bS 2 P (.slice so ks sc)) ∧ ks ≤ K0 + 1 ∧ Below w2.heap.size w2 (laid x4 bS 2 P (.slice so ks sc))) := ⟨laid_cb F4.out.2.2.2.2 _ _ _, F4.out.2.2.2.1, laid_below (bel_up' H7.out F4.out.1) (by have := HbS.out; have := H7.out.size; omega) _ _ _⟩
          unfold laid at HE
          refine wpAnyL_one (i := 15) (by kernel_rfl) (by rw [List.getElem?_toArray]; rfl) (fun K hK => ?_)
          have HK : Hid _ := hK
          clear hK
          go_simp
          refine HK.out _ _ (fun _ => hSE) ?_
          clear HK K
          refine wpAnyL_done (by kernel_rfl) (NoPanic.normal ?_)
          go_wp2
          go_meet
          exact ⟨bS, so, ks, sc, rfl, rfl, HE⟩
        · have HK : Hid _ := hK
          clear hK
          go_simp
          obtain ⟨x3, hx⟩ : ∃ x, x = x2.alloc (.cells #[.int .i64 0, .int .i64 0, .slice none 0 0] 27) := ⟨_, rfl⟩
          have hb : Below x2.heap.size x2 x3 := by rw [hx]; exact (Below.refl _ _).alloc (Nat.le_refl _) _
          obtain ⟨bS, hG⟩ : ∃ bS, bS = x2.heap.size := ⟨_, rfl⟩
          have hcb : RB bS x3 ∧ w7.heap.size ≤ bS := by rw [hG, hx]; exact ⟨RB.new _ _ _ _, F2.out.1.size⟩
          have HbS : Hid (w7.heap.size ≤ bS) := hcb.2
          have F3 : Hid (Below w7.heap.size w7 x3 ∧ ((∀ i, g i < 2) ∧ Row ga P g x3 ∧ (P ≤ cg ∧ cg ≤ 9223372036854775807)) ∧ x3.cell? ⟨gB, 0, none⟩ = some (.slice (some ⟨ga, 0, none⟩) P cg) ∧ RB bS x3) := ⟨bel_up' F2.out.1 hb, ⟨F2.out.2.1.1, F2.out.2.1.2.1.below hb F2.out.2.1.2.1.lt, F2.out.2.1.2.2⟩, ((bcell hb).1 _ _ (cell_lt F2.out.2.2)).trans F2.out.2.2, hcb.1⟩
          have hS3 := HK5.out x3 F3.out.1
          try rw [← hx]
          try rw [← hG]
          have HK2 := HK.out
          clear hcb hb hG hx
          refine HK2 _ _ (fun _ => hS3) ?_
          clear HK2 HK K
          try simp only [Act.put, List.setIfInBounds_toArray, List.set_cons_zero, List.set_cons_succ]
          refine wpAnyL_one (i := 9) (by kernel_rfl) (by rw [List.getElem?_toArray]; rfl) (fun K hK => ?_)
          have HK : Hid _ := hK
          clear hK
          obtain ⟨R9, hR9⟩ := row_cod (by omega) hPb (fun x _ => F3.out.2.1.1 x) F3.out.2.1.2.1 F3.out.2.1.2.2 (F3.out.2.2.1)
          have HSS : Hid (Calls Try.prog 26 #[.agg #[.int .i64 2, .int .i64 (P : Nat), .slice ro K0 rc], .agg #[.int .i64 2, .int .i64 (P : Nat), .slice (some ⟨gB, 0, none⟩) 1 1]] x3 fun e w' => ∃ xo k xc, e = .returned (.tuple #[.agg #[.int .i64 2, .int .i64 (P : Nat), .slice xo k xc], .int .i64 0]) ∧ k ≤ K0 + 1 ∧ Below x3.heap.size x3 w') := HSr.out ro (some ⟨gB, 0, none⟩) rc 1 R0 R9 x3 (H2.out.2.1.below (bel_up' H7.out F3.out.1)) hR9
          clear hR9
          go_simp
          refine HSS.out.mono ?_
          rintro e x4 ⟨so, ks, sc, rfl, hks, hb⟩
          have F4 : Hid (Below w7.heap.size w7 x4 ∧ ((∀ i, g i < 2) ∧ Row ga P g x4 ∧ (P ≤ cg ∧ cg ≤ 9223372036854775807)) ∧ x4.cell? ⟨gB, 0, none⟩ = some (.slice (some ⟨ga, 0, none⟩) P cg) ∧ ks ≤ K0 + 1 ∧ RB bS x4) := ⟨bel_up' F3.out.1 hb, ⟨F3.out.2.1.1, F3.out.2.1.2.1.below hb F3.out.2.1.2.1.lt, F3.out.2.1.2.2⟩, ((bcell hb).1 _ _ (cell_lt F3.out.2.2.1)).trans F3.out.2.2.1, hks, F3.out.2.2.2.keep hb⟩
          have hS4 := HK5.out x4 F4.out.1
          clear hks hb HSS
          refine HK.out _ _ (fun _ => hS4) ?_
          clear HK K
          try simp only [Act.put, List.setIfInBounds_toArray, List.set_cons_zero, List.set_cons_succ]
          refine wpAnyL_take (i := 10) (v := ?_) (by rw [List.getElem?_toArray]; rfl) (by decide +kernel) (by decide +kernel) (by decide +kernel) (by decide +kernel) (by decide +kernel) (fun _ _ _ h => h) hS4 (Or.inl ⟨by rfl, ?_⟩) ?_
          rotate_left
          · intro wz hSz; obtain ⟨z0, z1, z2⟩ := hSz; go_simp; first | done | with_reducible rfl
          try simp only [Act.put, List.setIfInBounds_toArray, List.set_cons_zero, List.set_cons_succ]
          refine wpAnyL_take (i := 11) (v := ?_) (by rw [List.getElem?_toArray]; rfl) (by decide +kernel) (by decide +kernel) (by decide +kernel) (by decide +kernel) (by decide +kernel) (fun _ _ _ h => h) hS4 (Or.inl ⟨by rfl, ?_⟩) ?_
          rotate_left
          · intro wz hSz; obtain ⟨z0, z1, z2⟩ := hSz; go_simp; first | done | with_reducible rfl
          try simp only [Act.put, List.setIfInBounds_toArray, List.set_cons_zero, List.set_cons_succ]
          refine wpAnyL_take (i := 12) (v := ?_) (by rw [List.getElem?_toArray]; rfl) (by decide +kernel) (by decide +kernel) (by decide +kernel) (by decide +kernel) (by decide +kernel) (fun _ _ _ h => h) hS4 (Or.inl ⟨by rfl, ?_⟩) ?_
          rotate_left
          · intro wz hSz; obtain ⟨z0, z1, z2⟩ := hSz; go_simp; first | done | with_reducible rfl
          try simp only [Act.put, List.setIfInBounds_toArray, List.set_cons_zero, List.set_cons_succ]
          obtain ⟨⟨q0, c0⟩, ⟨q1, c1⟩, ⟨q2, c2⟩, f0, f1, f2⟩ := F4.out.2.2.2.2
          refine wpAnyL_one (i := 14) (by kernel_rfl) (by rw [List.getElem?_toArray]; rfl) (fun K hK => ?_)
          have HK : Hid _ := hK
          clear hK
          go_simp
          have hSE : CB bc 2 P (.slice ro K0 rc) (laid x4 bS 2 P (.slice so ks sc)) := (HK5.out _ F4.out.1).other (laid_heap _ _ _ _ _ (by have := HbS.out; have := H2.out.2.2.2.c0; have := cell_lt this; have := H7.out.size; simp only at *; omega))
          unfold laid at hSE
          refine HK.out _ _ (fun _ => hSE) ?_
          clear HK K c0 c1 c2 f0 f1 f2
          try simp only [Act.put, List.setIfInBounds_toArray, List.set_cons_zero, List.set_cons_succ]
          have HE : Hid (CB bS 2 P (.slice so ks sc) (laid x4 bS 2 P (.slice so ks sc)) ∧ ks ≤ K0 + 1 ∧ Below w2.heap.size w2 (laid x4 bS 2 P (.slice so ks sc))) := ⟨laid_cb F4.out.2.2.2.2 _ _ _, F4.out.2.2.2.1, laid_below (bel_up' H7.out F4.out.1) (by have := HbS.out; have := H7.out.size; omega) _ _ _⟩
          unfold laid at HE
          refine wpAnyL_one (i := 15) (by kernel_rfl) (by rw [List.getElem?_toArray]; rfl) (fun K hK => ?_)
          have HK : Hid _ := hK
          clear hK
          go_simp
          refine HK.out _ _ (fun _ => hSE) ?_
          clear HK K
          refine wpAnyL_done (by kernel_rfl) (NoPanic.normal ?_)
          go_wp2
          go_meet
          exact ⟨bS, so, ks, sc, rfl, rfl, HE⟩
      · have HK : Hid _ := hK
        clear hK
        go_simp
        obtain ⟨x2, hx⟩ : ∃ x, x = x1.alloc (.cells #[.int .i64 0, .int .i64 0, .slice none 0 0] 27) := ⟨_, rfl⟩
        have hb : Below x1.heap.size x1 x2 := by rw [hx]; exact (Below.refl _ _).alloc (Nat.le_refl _) _
        obtain ⟨bS, hG⟩ : ∃ bS, bS = x1.heap.size := ⟨_, rfl⟩
        have hcb : RB bS x2 ∧ w7.heap.size ≤ bS := by rw [hG, hx]; exact ⟨RB.new _ _ _ _, F1.out.1.size⟩
        have HbS : Hid (w7.heap.size ≤ bS) := hcb.2
        have F2 : Hid (Below w7.heap.size w7 x2 ∧ ((∀ i, g i < 2) ∧ Row ga P g x2 ∧ (P ≤ cg ∧ cg ≤ 9223372036854775807)) ∧ RB bS x2) := ⟨bel_up' F1.out.1 hb, ⟨F1.out.2.1, F1.out.2.2.1.below hb F1.out.2.2.1.lt, F1.out.2.2.2⟩, hcb.1⟩
        have hS2 := HK5.out x2 F2.out.1
        try rw [← hx]
        try rw [← hG]
        have HK2 := HK.out
        clear hcb hb hG hx
        refine HK2 _ _ (fun _ => hS2) ?_
        clear HK2 HK K
        try simp only [Act.put, List.setIfInBounds_toArray, List.set_cons_zero, List.set_cons_succ]
        refine wpAnyL_one (i := 7) (by kernel_rfl) (by rw [List.getElem?_toArray]; rfl) (fun K hK => ?_)
        have HK : Hid _ := hK
        clear hK
        go_simp
        obtain ⟨x3, hx⟩ : ∃ x, x = x2.alloc (.cells #[.slice (some ⟨ga, 0, none⟩) P cg] 22) := ⟨_, rfl⟩
        have hb : Below x2.heap.size x2 x3 := by rw [hx]; exact (Below.refl _ _).alloc (Nat.le_refl _) _
        obtain ⟨gB, hG⟩ : ∃ gB, gB = x2.heap.size := ⟨_, rfl⟩
        have hcb : x3.cell? ⟨gB, 0, none⟩ = some (.slice (some ⟨ga, 0, none⟩) P cg) := by rw [hG, hx]; simp
        have F3 : Hid (Below w7.heap.size w7 x3 ∧ ((∀ i, g i < 2) ∧ Row ga P g x3 ∧ (P ≤ cg ∧ cg ≤ 9223372036854775807)) ∧ x3.cell? ⟨gB, 0, none⟩ = some (.slice (some ⟨ga, 0, none⟩) P cg) ∧ RB bS x3) := ⟨bel_up' F2.out.1 hb, ⟨F2.out.2.1.1, F2.out.2.1.2.1.below hb F2.out.2.1.2.1.lt, F2.out.2.1.2.2⟩, hcb, F2.out.2.2.keep hb⟩
        have hS3 := HK5.out x3 F3.out.1
        try rw [← hx]
        try rw [← hG]
        have HK2 := HK.out
        clear hcb hb hG hx
        refine HK2 _ _ (fun _ => hS3) ?_
        clear HK2 HK K
        try simp only [Act.put, List.setIfInBounds_toArray, List.set_cons_zero, List.set_cons_succ]
        refine wpAnyL_take (i := 8) (v := ?_) (by rw [List.getElem?_toArray]; rfl) (by decide +kernel) (by decide +kernel) (by decide +kernel) (by decide +kernel) (by decide +kernel) (fun _ _ _ h => h) hS3 (Or.inl ⟨by rfl, ?_⟩) ?_
        rotate_left
        · intro wz hSz; obtain ⟨z0, z1, z2⟩ := hSz; go_simp; first | done | with_reducible rfl
        try simp only [Act.put, List.setIfInBounds_toArray, List.set_cons_zero, List.set_cons_succ]
        refine wpAnyL_one (i := 9) (by kernel_rfl) (by rw [List.getElem?_toArray]; rfl) (fun K hK => ?_)
        have HK : Hid _ := hK
        clear hK
        obtain ⟨R9, hR9⟩ := row_cod (by omega) hPb (fun x _ => F3.out.2.1.1 x) F3.out.2.1.2.1 F3.out.2.1.2.2 (F3.out.2.2.1)
        have HSS : Hid (Calls Try.prog 26 #[.agg #[.int .i64 2, .int .i64 (P : Nat), .slice ro K0 rc], .agg #[.int .i64 2, .int .i64 (P : Nat), .slice (some ⟨gB, 0, none⟩) 1 1]] x3 fun e w' => ∃ xo k xc, e = .returned (.tuple #[.agg #[.int .i64 2, .int .i64 (P : Nat), .slice xo k xc], .int .i64 0]) ∧ k ≤ K0 + 1 ∧ Below x3.heap.size x3 w') := HSr.out ro (some ⟨gB, 0, none⟩) rc 1 R0 R9 x3 (H2.out.2.1.below (bel_up' H7.out F3.out.1)) hR9
        clear hR9
        go_simp
        refine HSS.out.mono ?_
        rintro e x4 ⟨so, ks, sc, rfl, hks, hb⟩
        have F4 : Hid (Below w7.heap.size w7 x4 ∧ ((∀ i, g i < 2) ∧ Row ga P g x4 ∧ (P ≤ cg ∧ cg ≤ 9223372036854775807)) ∧ x4.cell? ⟨gB, 0, none⟩ = some (.slice (some ⟨ga, 0, none⟩) P cg) ∧ ks ≤ K0 + 1 ∧ RB bS x4) := ⟨bel_up' F3.out.1 hb, ⟨F3.out.2.1.1, F3.out.2.1.2.1.below hb F3.out.2.1.2.1.lt, F3.out.2.1.2.2⟩, ((bcell hb).1 _ _ (cell_lt F3.out.2.2.1)).trans F3.out.2.2.1, hks, F3.out.2.2.2.keep hb⟩
        have hS4 := HK5.out x4 F4.out.1
        clear hks hb HSS
        refine HK.out _ _ (fun _ => hS4) ?_
        clear HK K
        try simp only [Act.put, List.setIfInBounds_toArray, List.set_cons_zero, List.set_cons_succ]
        refine wpAnyL_take (i := 10) (v := ?_) (by rw [List.getElem?_toArray]; rfl) (by decide +kernel) (by decide +kernel) (by decide +kernel) (by decide +kernel) (by decide +kernel) (fun _ _ _ h => h) hS4 (Or.inl ⟨by rfl, ?_⟩) ?_
        rotate_left
        · intro wz hSz; obtain ⟨z0, z1, z2⟩ := hSz; go_simp; first | done | with_reducible rfl
        try simp only [Act.put, List.setIfInBounds_toArray, List.set_cons_zero, List.set_cons_succ]
        refine wpAnyL_take (i := 11) (v := ?_) (by rw [List.getElem?_toArray]; rfl) (by decide +kernel) (by decide +kernel) (by decide +kernel) (by decide +kernel) (by decide +kernel) (fun _ _ _ h => h) hS4 (Or.inl ⟨by rfl, ?_⟩) ?_
        rotate_left
        · intro wz hSz; obtain ⟨z0, z1, z2⟩ := hSz; go_simp; first | done | with_reducible rfl
        try simp only [Act.put, List.setIfInBounds_toArray, List.set_cons_zero, List.set_cons_succ]
        refine wpAnyL_take (i := 12) (v := ?_) (by rw [List.getElem?_toArray]; rfl) (by decide +kernel) (by decide +kernel) (by decide +kernel) (by decide +kernel) (by decide +kernel) (fun _ _ _ h => h) hS4 (Or.inl ⟨by rfl, ?_⟩) ?_
        rotate_left
        · intro wz hSz; obtain ⟨z0, z1, z2⟩ := hSz; go_simp; first | done | with_reducible rfl
        try simp only [Act.put, List.setIfInBounds_toArray, List.set_cons_zero, List.set_cons_succ]
        obtain ⟨⟨q0, c0⟩, ⟨q1, c1⟩, ⟨q2, c2⟩, f0, f1, f2⟩ := F4.out.2.2.2.2
        refine wpAnyL_one (i := 14) (by kernel_rfl) (by rw [List.getElem?_toArray]; rfl) (fun K hK => ?_)
        have HK : Hid _ := hK
        clear hK
        go_simp
        have hSE : CB bc 2 P (.slice ro K0 rc) (laid x4 bS 2 P (.slice so ks sc)) := (HK5.out _ F4.out.1).other (laid_heap _ _ _ _ _ (by have := HbS.out; have := H2.out.2.2.2.c0; have := cell_lt this; have := H7.out.size; simp only at *; omega))
        unfold laid at hSE
        refine HK.out _ _ (fun _ => hSE) ?_
        clear HK K c0 c1 c2 f0 f1 f2
        try simp only [Act.put, List.setIfInBounds_toArray, List.set_cons_zero, List.set_cons_succ]
        have HE : Hid (CB bS 2 P (.slice so ks sc) (laid x4 bS 2 P (.slice so ks sc)) ∧ ks ≤ K0 + 1 ∧ Below w2.heap.size w2 (laid x4 bS 2 P (.slice so ks sc))) := ⟨laid_cb F4.out.2.2.2.2 _ _ _, F4.out.2.2.2.1, laid_below (bel_up' H7.out F4.out.1) (by have := HbS.out; have := H7.out.size; omega) _ _ _⟩
        unfold laid at HE
        refine wpAnyL_one (i := 15) (by kernel_rfl) (by rw [List.getElem?_toArray]; rfl) (fun K hK => ?_)
        have HK : Hid _ := hK
        clear hK
        go_simp
        refine HK.out _ _ (fun _ => hSE) ?_
        clear HK K
        refine wpAnyL_done (by kernel_rfl) (NoPanic.normal ?_)
        go_wp2
        go_meet
        exact ⟨bS, so, ks, sc, rfl, rfl, HE⟩
    · have HK : Hid _ := hK
      clear hK
      go_simp
      obtain ⟨x1, hx⟩ : ∃ x, x = x0.alloc (.cells #[.int .i64 0, .int .i64 0, .slice none 0 0] 27) := ⟨_, rfl⟩
      have hb : Below x0.heap.size x0 x1 := by rw [hx]; exact (Below.refl _ _).alloc (Nat.le_refl _) _
      obtain ⟨bS, hG⟩ : ∃ bS, bS = x0.heap.size := ⟨_, rfl⟩
      have hcb : RB bS x1 ∧ w7.heap.size ≤ bS := by rw [hG, hx]; exact ⟨RB.new _ _ _ _, F0.out.size⟩
      have HbS : Hid (w7.heap.size ≤ bS) := hcb.2
      have F1 : Hid (Below w7.heap.size w7 x1 ∧ RB bS x1) := ⟨bel_up' F0.out hb, hcb.1⟩
      have hS1 := HK5.out x1 F1.out.1
      try rw [← hx]
      try rw [← hG]
      have HK2 := HK.out
      clear hcb hb hG hx
      refine HK2 _ _ (fun _ => hS1) ?_
      clear HK2 HK K
      try simp only [Act.put, List.setIfInBounds_toArray, List.set_cons_zero, List.set_cons_succ]
      refine wpAnyL_one (i := 6) (by kernel_rfl) (by rw [List.getElem?_toArray]; rfl) (fun K hK => ?_)
      have HK : Hid _ := hK
      clear hK
      go_simp
      refine (HW7.out x1 (bel_up' H2.out.1 (bel_up' H7.out F1.out.1))).mono ?_
      rintro e x2 ⟨g, ga, cg, rfl, hg, hrow, hcg, hb⟩
      have F2 : Hid (Below w7.heap.size w7 x2 ∧ ((∀ i, g i < 2) ∧ Row ga P g x2 ∧ (P ≤ cg ∧ cg ≤ 9223372036854775807)) ∧ RB bS x2) := ⟨bel_up' F1.out.1 hb, ⟨hg, hrow, hcg⟩, F1.out.2.keep hb⟩
      have hS2 := HK5.out x2 F2.out.1
      clear hg hrow hcg hb
      refine HK.out _ _ (fun _ => hS2) ?_
      clear HK K
      try simp only [Act.put, List.setIfInBounds_toArray, List.set_cons_zero, List.set_cons_succ]
      refine wpAnyL_one (i := 7) (by kernel_rfl) (by rw [List.getElem?_toArray]; rfl) (fun K hK => ?_)
      have HK : Hid _ := hK
      clear hK
      go_simp
      obtain ⟨x3, hx⟩ : ∃ x, x = x2.alloc (.cells #[.slice (some ⟨ga, 0, none⟩) P cg] 22) := ⟨_, rfl⟩
      have hb : Below x2.heap.size x2 x3 := by rw [hx]; exact (Below.refl _ _).alloc (Nat.le_refl _) _
      obtain ⟨gB, hG⟩ : ∃ gB, gB = x2.heap.size := ⟨_, rfl⟩
      have hcb : x3.cell? ⟨gB, 0, none⟩ = some (.slice (some ⟨ga, 0, none⟩) P cg) := by rw [hG, hx]; simp
      have F3 : Hid (Below w7.heap.size w7 x3 ∧ ((∀ i, g i < 2) ∧ Row ga P g x3 ∧ (P ≤ cg ∧ cg ≤ 9223372036854775807)) ∧ x3.cell? ⟨gB, 0, none⟩ = some (.slice (some ⟨ga, 0, none⟩) P cg) ∧ RB bS x3) := ⟨bel_up' F2.out.1 hb, ⟨F2.out.2.1.1, F2.out.2.1.2.1.below hb F2.out.2.1.2.1.lt, F2.out.2.1.2.2⟩, hcb, F2.out.2.2.keep hb⟩
      have hS3 := HK5.out x3 F3.out.1
      try rw [← hx]
      try rw [← hG]
      have HK2 := HK.out
      clear hcb hb hG hx
      refine HK2 _ _ (fun _ => hS3) ?_
      clear HK2 HK K
      try simp only [Act.put, List.setIfInBounds_toArray, List.set_cons_zero, List.set_cons_succ]
      refine wpAnyL_take (i := 8) (v := ?_) (by rw [List.getElem?_toArray]; rfl) (by decide +kernel) (by decide +kernel) (by decide +kernel) (by decide +kernel) (by decide +kernel) (fun _ _ _ h => h) hS3 (Or.inl ⟨by rfl, ?_⟩) ?_
      rotate_left
      · intro wz hSz; obtain ⟨z0, z1, z2⟩ := hSz; go_simp; first | done | with_reducible rfl
      try simp only [Act.put, List.setIfInBounds_toArray, List.set_cons_zero, List.set_cons_succ]
      refine wpAnyL_one (i := 9) (by kernel_rfl) (by rw [List.getElem?_toArray]; rfl) (fun K hK => ?_)
      have HK : Hid _ := hK
      clear hK
      obtain ⟨R9, hR9⟩ := row_cod (by omega) hPb (fun x _ => F3.out.2.1.1 x) F3.out.2.1.2.1 F3.out.2.1.2.2 (F3.out.2.2.1)
      have HSS : Hid (Calls Try.prog 26 #[.agg #[.int .i64 2, .int .i64 (P : Nat), .slice ro K0 rc], .agg #[.int .i64 2, .int .i64 (P : Nat), .slice (some ⟨gB, 0, none⟩) 1 1]] x3 fun e w' => ∃ xo k xc, e = .returned (.tuple #[.agg #[.int .i64 2, .int .i64 (P : Nat), .slice xo k xc], .int .i64 0]) ∧ k ≤ K0 + 1 ∧ Below x3.heap.size x3 w') := HSr.out ro (some ⟨gB, 0, none⟩) rc 1 R0 R9 x3 (H2.out.2.1.below (bel_up' H7.out F3.out.1)) hR9
      clear hR9
      go_simp
      refine HSS.out.mono ?_
      rintro e x4 ⟨so, ks, sc, rfl, hks, hb⟩
      have F4 : Hid (Below w7.heap.size w7 x4 ∧ ((∀ i, g i < 2) ∧ Row ga P g x4 ∧ (P ≤ cg ∧ cg ≤ 9223372036854775807)) ∧ x4.cell? ⟨gB, 0, none⟩ = some (.slice (some ⟨ga, 0, none⟩) P cg) ∧ ks ≤ K0 + 1 ∧ RB bS x4) := ⟨bel_up' F3.out.1 hb, ⟨F3.out.2.1.1, F3.out.2.1.2.1.below hb F3.out.2.1.2.1.lt, F3.out.2.1.2.2⟩, ((bcell hb).1 _ _ (cell_lt F3.out.2.2.1)).trans F3.out.2.2.1, hks, F3.out.2.2.2.keep hb⟩
      have hS4 := HK5.out x4 F4.out.1
      clear hks hb HSS
      refine HK.out _ _ (fun _ => hS4) ?_
      clear HK K
      try simp only [Act.put, List.setIfInBounds_toArray, List.set_cons_zero, List.set_cons_succ]
      refine wpAnyL_take (i := 10) (v := ?_) (by rw [List.getElem?_toArray]; rfl) (by decide +kernel) (by decide +kernel) (by decide +kernel) (by decide +kernel) (by decide +kernel) (fun _ _ _ h => h) hS4 (Or.inl ⟨by rfl, ?_⟩) ?_
      rotate_left
      · intro wz hSz; obtain ⟨z0, z1, z2⟩ := hSz; go_simp; first | done | with_reducible rfl
      try simp only [Act.put, List.setIfInBounds_toArray, List.set_cons_zero, List.set_cons_succ]
      refine wpAnyL_take (i := 11) (v := ?_) (by rw [List.getElem?_toArray]; rfl) (by decide +kernel) (by decide +kernel) (by decide +kernel) (by decide +kernel) (by decide +kernel) (fun _ _ _ h => h) hS4 (Or.inl ⟨by rfl, ?_⟩) ?_
      rotate_left
      · intro wz hSz; obtain ⟨z0, z1, z2⟩ := hSz; go_simp; first | done | with_reducible rfl
      try simp only [Act.put, List.setIfInBounds_toArray, List.set_cons_zero, List.set_cons_succ]
      refine wpAnyL_take (i := 12) (v := ?_) (by rw [List.getElem?_toArray]; rfl) (by decide +kernel) (by decide +kernel) (by decide +kernel) (by decide +kernel) (by decide +kernel) (fun _ _ _ h => h) hS4 (Or.inl ⟨by rfl, ?_⟩) ?_
      rotate_left
      · intro wz hSz; obtain ⟨z0, z1, z2⟩ := hSz; go_simp; first | done | with_reducible rfl
      try simp only [Act.put, List.setIfInBounds_toArray, List.set_cons_zero, List.set_cons_succ]
      obtain ⟨⟨q0, c0⟩, ⟨q1, c1⟩, ⟨q2, c2⟩, f0, f1, f2⟩ := F4.out.2.2.2.2
      refine wpAnyL_one (i := 14) (by kernel_rfl) (by rw [List.getElem?_toArray]; rfl) (fun K hK => ?_)
      have HK : Hid _ := hK
      clear hK
      go_simp
      have hSE : CB bc 2 P (.slice ro K0 rc) (laid x4 bS 2 P (.slice so ks sc)) := (HK5.out _ F4.out.1).other (laid_heap _ _ _ _ _ (by have := HbS.out; have := H2.out.2.2.2.c0; have := cell_lt this; have := H7.out.size; simp only at *; omega))
      unfold laid at hSE
      refine HK.out _ _ (fun _ => hSE) ?_
      clear HK K c0 c1 c2 f0 f1 f2
      try simp only [Act.put, List.setIfInBounds_toArray, List.set_cons_zero, List.set_cons_succ]
      have HE : Hid (CB bS 2 P (.slice so ks sc) (laid x4 bS 2 P (.slice so ks sc)) ∧ ks ≤ K0 + 1 ∧ Below w2.heap.size w2 (laid x4 bS 2 P (.slice so ks sc))) := ⟨laid_cb F4.out.2.2.2.2 _ _ _, F4.out.2.2.2.1, laid_below (bel_up' H7.out F4.out.1) (by have := HbS.out; have := H7.out.size; omega) _ _ _⟩
      unfold laid at HE
      refine wpAnyL_one (i := 15) (by kernel_rfl) (by rw [List.getElem?_toArray]; rfl) (fun K hK => ?_)
      have HK : Hid _ := hK
      clear hK
      go_simp
      refine HK.out _ _ (fun _ => hSE) ?_
      clear HK K
      refine wpAnyL_done (by kernel_rfl) (NoPanic.normal ?_)
      go_wp2
      go_meet
      exact ⟨bS, so, ks, sc, rfl, rfl, HE⟩
  case rest =>
    obtain ⟨bS, so, ks, sc, hv15, hv10, HXs⟩ := hcut
    subst hv15
    subst hv10
    clear H4 H6 H7
    go_wp2_with fail
    refine (HC1.out wc).mono ?_
    rintro e w8 ⟨R2, no, nc, rfl, ⟨hcoN, hrlN⟩, hmuN, hb8⟩
    obtain ⟨w9, hw9⟩ : ∃ w9, w9 = w8.alloc (.cells #[.int .i64 2, .int .i64 (P : Nat), .slice no K1 nc] 27) := ⟨_, rfl⟩
    obtain ⟨g1, g2, g3⟩ := box_at 2 P (.slice no K1 nc) w8
    rw [← hw9] at g1 g2 g3
    have hb28 := bel_up' HXs.out.2.2 hb8
    obtain ⟨bn, hbn⟩ : ∃ bn, bn = w8.heap.size := ⟨_, rfl⟩
    have H9 : Hid (Below w2.heap.size w2 w9 ∧ Cod FM P no K1 R2 w9 ∧ RL (.slice no K1 nc) K1 P R2 w9 ∧ MuR M R1 P R2 ∧ CB bn 2 P (.slice no K1 nc) w9 ∧ CB bS 2 P (.slice so ks sc) w9) := ⟨bel_up' hb28 g1, hcoN.below g1, hrlN.below g1, hmuN, by rw [hbn]; exact g2, HXs.out.1.keep (bel_up' hb8 g1)⟩
    obtain ⟨k0, k1, k2⟩ := H2.out.2.2.2.keep hb28
    have hlt8 : bc < w8.heap.size := cell_lt k0
    have HBN : Hid (bn = w8.heap.size) := hbn
    clear hcoN hrlN hmuN hb8 g1 g2 g3 hb28 hbn
    go_wp2_with fail
    rw [← hw9]
    clear hw9 k0 k1 k2 hlt8
    rw [← HBN.out]
    refine (HSu.out ro no rc nc R0 R2 w9 (H2.out.2.1.below H9.out.1) H2.out.2.2.1 H9.out.2.1 H9.out.2.2.2.1).mono ?_
    rintro e w10 ⟨uo, uc, rfl, hrlU, hb10⟩
    obtain ⟨w11, hw11⟩ : ∃ w11, w11 = w10.alloc (.cells #[.int .i64 2, .int .i64 (P : Nat), .slice uo K1 uc] 27) := ⟨_, rfl⟩
    obtain ⟨g1, g2, g3⟩ := box_at 2 P (.slice uo K1 uc) w10
    rw [← hw11] at g1 g2 g3
    have hb911 := bel_up' hb10 g1
    have H11 : Hid (Below w2.heap.size w2 w11 ∧ RL (.slice uo K1 uc) K1 P R2 w11 ∧ RL (.slice no K1 nc) K1 P R2 w11 ∧ CB bS 2 P (.slice so ks sc) w11) := ⟨bel_up' H9.out.1 hb911, hrlU.below g1, H9.out.2.2.1.below hb911, H9.out.2.2.2.2.2.keep hb911⟩
    obtain ⟨k0, k1, k2⟩ := H9.out.2.2.2.2.1.keep hb10
    have hlt10 : bn < w10.heap.size := cell_lt k0
    clear hrlU hb10 g1 g2 g3 hb911
    go_wp2_with fail
    rw [← hw11]
    clear hw11 k0 k1 k2 hlt10
    refine (HSa.out hlen1 H11.out.2.1 H11.out.2.2.1).mono ?_
    rintro e w12 ⟨rfl, hb12⟩
    have H12 : Hid (Below w2.heap.size w2 w12) := bel_up' H11.out.1 hb12
    obtain ⟨k0, k1, k2⟩ := H2.out.2.2.2.keep H12.out
    obtain ⟨j0, j1, j2⟩ := H11.out.2.2.2.keep hb12
    have hks := HXs.out.2.1
    have hksi : ¬ (1 : Int) < (ks : Int) - (K0 : Int) := by omega
    have hksb : ks ≤ 2000 := by omega
    clear hb12 hks
    go_wp2_with fail
    clear j0 j1 j2
    refine (HFw.out w12).mono ?_
    rintro e w' ⟨fb, rfl, hfb, hw⟩
    have hw := hw.symm
    subst hw
    have HFB : Hid (fb = true ↔ 2 ^ K0 ≤ 4096) := hfb
    clear hfb
    cases fb with
    | true =>
      have HF4 : Hid (2 ^ K0 ≤ 4096) := HFB.out.1 rfl
      have hQe : ((Q0 : Int) != (Q0 : Int)) = false := by simp
      clear HFB
      go_wp2_with fail
      clear k0 k1 k2
      refine (HDs.out ro rc R0 w12 (H2.out.2.1.below H12.out) H2.out.2.2.1 HF4.out).mono ?_
      rintro e w13 ⟨rfl, hb13⟩
      have HT : Hid (Below w2.heap.size w2 w13) := bel_up' H12.out hb13
      clear hb13
      obtain ⟨k0, k1, k2⟩ := H2.out.2.2.2.keep HT.out
      go_wp2_with fail
      clear k0 k1 k2
      refine (HWA.out w13 (bel_up' H2.out.1 HT.out)).mono ?_
      rintro e wu ⟨g, ga, cg, rfl, hg, hrowu, hcg, hbu⟩
      have HU : Hid ((∀ i, g i < 2) ∧ Row ga K0 g wu ∧ (K0 ≤ cg ∧ cg ≤ 9223372036854775807) ∧ Below w2.heap.size w2 wu) := ⟨hg, hrowu, hcg, bel_up' HT.out hbu⟩
      clear hg hrowu hcg hbu
      go_wp2_with fail
      refine (HEn.out g ga cg wu HU.out.1 HU.out.2.1).mono ?_
      rintro e wv ⟨G, rfl, hrowv, hbv⟩
      have HV : Hid (Row G P (fun x => mwv l g x l.length) wv ∧ Row ga K0 g wv ∧ Below w2.heap.size w2 wv) := ⟨hrowv, HU.out.2.1.below hbv HU.out.2.1.lt, bel_up' HU.out.2.2.2 hbv⟩
      clear hrowv hbv
      go_wp2_with fail
      refine (HCp.out _ G wv HV.out.1).mono ?_
      rintro e ww ⟨GB, cB, rfl, hGB, hroww, hcB, hbw⟩
      have HW : Hid (wv.heap.size ≤ GB ∧ Row GB P (fun x => mwv l g x l.length) ww ∧ (P ≤ cB ∧ cB ≤ 9223372036854775807) ∧ Below wv.heap.size wv ww) := ⟨hGB, hroww, hcB, hbw⟩
      clear hGB hroww hcB hbw
      go_wp2
      go_loopw [23] (fun vi wr => ∃ (i : Nat) (c : Nat → Nat), i ≤ T ∧ vi = .int .i64 (i : Nat) ∧ Hid (Row GB P c wr ∧ (∀ x, x < P → c x < 2) ∧ wgt (dff (fun x => mwv l g x l.length) c) P ≤ i ∧ Below wv.heap.size wv wr)) (fun vi _ => T - (intOf vi).toNat)
      case atStart => exact ⟨0, fun x => mwv l g x l.length, by omega, rfl, HW.out.2.1, fun x _ => mwv_lt _ _ _ _, by rw [dff_same]; exact Nat.le_refl _, HW.out.2.2.2⟩
      case round =>
        obtain ⟨i, c, hi, rfl, HG⟩ := hrel
        rename World => wr
        go_wp2_with fail
        refine (HP3.out wr).mono ?_
        rintro e w' ⟨rfl, hw⟩
        have hw := hw.symm
        subst hw
        by_cases hlt : i < T
        · have hib : (i : Int) < (T : Int) := by omega
          obtain ⟨I5, hI5⟩ : ∃ I5, I5 = 50 + i := ⟨_, rfl⟩
          have hI5w : IntKind.i64.wrap (50 + (i : Int)) = (I5 : Int) := wrap_to (by omega) (by omega)
          have HRr : Hid (Calls Try.prog 22 #[.slice ao n ca, .int .i64 (I5 : Nat)] wr fun e w' => (∃ r, e = .returned (.int .i64 r) ∧ I64 r) ∧ ∃ k, w' = wr.drewN k) := HRw.out I5 wr (by omega) (bel_up' H2.out.1 (bel_up' HV.out.2.2 HG.out.2.2.2))
          clear hI5
          go_wp2_with fail
          refine HRr.out.mono ?_
          rintro e w4 ⟨⟨x, rfl, hx⟩, kk, hw4⟩
          obtain ⟨k, hk, hpk⟩ := HP4.out x hx
          have HPk : Hid (∀ w : World, Calls Try.prog 20 #[.int .i64 x, .int .i64 (P : Nat)] w fun e w' => e = .returned (.int .i64 k) ∧ w' = w) := hpk
          have H4' : Hid (Row GB P c w4 ∧ Below wv.heap.size wv w4) := by rw [hw4]; exact ⟨HG.out.1.drewN kk, below_drewN2 HG.out.2.2.2 kk⟩
          have hcell := H4'.out.1.cell k hk
          have hfree := H4'.out.1.free k
          obtain ⟨b, hb⟩ : ∃ b, b = c k := ⟨_, rfl⟩
          rw [← hb] at hcell
          have hb2 : b < 2 := by rw [hb]; exact HG.out.2.1 k hk
          have hki : (k : Int) < (P : Int) := by omega
          have hki0 : (0 : Int) ≤ (k : Int) := by omega
          have hsub : (1 : Int) - (b : Int) = ((1 - b : Nat) : Int) := by omega
          have HN : Hid (∀ wz, wz = w4.setCell ⟨GB, k, none⟩ (.int .i64 ((1 - b : Nat) : Int)) → Row GB P (fun x => if x = k then 1 - b else c x) wz ∧ (∀ x, x < P → (if x = k then 1 - b else c x) < 2) ∧ wgt (dff (fun x => mwv l g x l.length) (fun x => if x = k then 1 - b else c x)) P ≤ i + 1 ∧ Below wv.heap.size wv wz) := fun wz e => by
            rw [e]
            refine ⟨H4'.out.1.store k (1 - b) (fun j _ => rfl), fun x hx => ?_, ?_, H4'.out.2.setCell HW.out.1 _⟩
            · split
              · omega
              · exact HG.out.2.1 x hx
            · have h6 := dff_turn (a := fun x => mwv l g x l.length) (b := c) (b' := fun x => if x = k then 1 - b else c x) (k := k) (fun x hx => if_neg hx) P
              rw [if_pos hk] at h6
              have := HG.out.2.2.1
              omega
          clear hb hx hpk hw4
          go_wp2_with fail
          refine (HPk.out w4).mono ?_
          rintro e w' ⟨rfl, hw⟩
          have hw := hw.symm
          subst hw
          go_wp2
          go_roundw
          case rel => exact ⟨i + 1, _, by omega, by go_num, HN.out _ rfl⟩
          case measure => simp [intOf]; omega
        · have hib : ¬ (i : Int) < (T : Int) := by omega
          obtain ⟨E9, hE9⟩ : ∃ E9, E9 = wgt (dff (fun x => mwv l g x l.length) c) P := ⟨_, rfl⟩
          have hE9b : E9 ≤ 32 := by rw [hE9]; have := wgt_le (dff (fun x => mwv l g x l.length) c) P; omega
          have hE9e : ((E9 : Int) == (E9 : Int)) = true := by simp
          have HR2 : Hid (Row GB P c wr ∧ (∀ x, x < P → c x < 2) ∧ wgt (dff (fun x => mwv l g x l.length) c) P ≤ T ∧ Below wv.heap.size wv wr) := by
            rw [show T = i by omega]; exact HG.out
          have HDd : Hid (Calls Try.prog 17 #[.int .i64 (R : Nat), .int .i64 (M : Nat), .slice (some ⟨GB, 0, none⟩) P cB] wr fun e w' => Below wr.heap.size wr w' ∧ ∃ G2, e = .returned (.tuple #[.slice (some ⟨G2, 0, none⟩) K0 K0, .int .i64 (E9 : Nat), .bool true, .int .i64 0]) ∧ Row G2 K0 g w') := by rw [hE9]; exact HDc.out g c GB cB wr HU.out.1 HR2.out.2.1 HR2.out.1 HW.out.2.2.1 HR2.out.2.2.1
          have HAa : Hid (∀ wx, Row G P (fun x => mwv l g x l.length) wx → Row GB P c wx → Calls Try.prog 30 #[.slice (some ⟨G, 0, none⟩) P P, .slice (some ⟨GB, 0, none⟩) P cB] wx fun e w' => e = .returned (.int .i64 (E9 : Nat)) ∧ Below wx.heap.size wx w') := fun wx q1 q2 => by rw [hE9]; exact HAp.out _ c G GB cB wx q1 q2
          clear hE9
          go_wp2_with fail
          refine HDd.out.mono ?_
          rintro e w5' ⟨hb5, G2, rfl, hrow5⟩
          have hb25 : Below wv.heap.size wv w5' := bel_up' HR2.out.2.2.2 hb5
          have H5 : Hid (Row G2 K0 g w5' ∧ Row ga K0 g w5' ∧ Row GB P c w5' ∧ Row G P (fun x => mwv l g x l.length) w5' ∧ Below w.heap.size w w5') := ⟨hrow5, HV.out.2.1.below hb25 HV.out.2.1.lt, HR2.out.1.below hb5 HR2.out.1.lt, HV.out.1.below hb25 HV.out.1.lt, bel_up' H2.out.1 (bel_up' HV.out.2.2 hb25)⟩
          clear hb5 hrow5 hb25
          go_wp2_with fail
          refine (same_any (sl_sliceI (H5.out.2.1.sl (Nat.le_refl _)) (by omega)) (sl_sliceI (H5.out.1.sl (Nat.le_refl _)) (by omega))).mono ?_
          rintro e w6' ⟨rfl, kk, hw6⟩
          have H6' : Hid (Row GB P c w6' ∧ Row G P (fun x => mwv l g x l.length) w6' ∧ Below w.heap.size w w6') := by rw [hw6]; exact ⟨H5.out.2.2.1.drewN kk, H5.out.2.2.2.1.drewN kk, below_drewN2 H5.out.2.2.2.2 kk⟩
          clear hw6
          go_wp2_with fail
          refine (HAa.out w6' H6'.out.2.1 H6'.out.1).mono ?_
          rintro e w7' ⟨rfl, hb7⟩
          have H7' : Hid (Below w.heap.size w w7') := bel_up' H6'.out.2.2 hb7
          clear hb7
          go_wp2
          go_ret
          exact ⟨rfl, H7'.out⟩
    | false =>
      have HT : Hid (Below w2.heap.size w2 w12) := H12.out
      clear HFB k0 k1 k2
      obtain ⟨k0, k1, k2⟩ := H2.out.2.2.2.keep HT.out
      go_wp2_with fail
      clear k0 k1 k2
      refine (HWA.out w12 (bel_up' H2.out.1 HT.out)).mono ?_
      rintro e wu ⟨g, ga, cg, rfl, hg, hrowu, hcg, hbu⟩
      have HU : Hid ((∀ i, g i < 2) ∧ Row ga K0 g wu ∧ (K0 ≤ cg ∧ cg ≤ 9223372036854775807) ∧ Below w2.heap.size w2 wu) := ⟨hg, hrowu, hcg, bel_up' HT.out hbu⟩
      clear hg hrowu hcg hbu
      go_wp2_with fail
      refine (HEn.out g ga cg wu HU.out.1 HU.out.2.1).mono ?_
      rintro e wv ⟨G, rfl, hrowv, hbv⟩
      have HV : Hid (Row G P (fun x => mwv l g x l.length) wv ∧ Row ga K0 g wv ∧ Below w2.heap.size w2 wv) := ⟨hrowv, HU.out.2.1.below hbv HU.out.2.1.lt, bel_up' HU.out.2.2.2 hbv⟩
      clear hrowv hbv
      go_wp2_with fail
      refine (HCp.out _ G wv HV.out.1).mono ?_
      rintro e ww ⟨GB, cB, rfl, hGB, hroww, hcB, hbw⟩
      have HW : Hid (wv.heap.size ≤ GB ∧ Row GB P (fun x => mwv l g x l.length) ww ∧ (P ≤ cB ∧ cB ≤ 9223372036854775807) ∧ Below wv.heap.size wv ww) := ⟨hGB, hroww, hcB, hbw⟩
      clear hGB hroww hcB hbw
      go_wp2
      go_loopw [23] (fun vi wr => ∃ (i : Nat) (c : Nat → Nat), i ≤ T ∧ vi = .int .i64 (i : Nat) ∧ Hid (Row GB P c wr ∧ (∀ x, x < P → c x < 2) ∧ wgt (dff (fun x => mwv l g x l.length) c) P ≤ i ∧ Below wv.heap.size wv wr)) (fun vi _ => T - (intOf vi).toNat)
      case atStart => exact ⟨0, fun x => mwv l g x l.length, by omega, rfl, HW.out.2.1, fun x _ => mwv_lt _ _ _ _, by rw [dff_same]; exact Nat.le_refl _, HW.out.2.2.2⟩
      case round =>
        obtain ⟨i, c, hi, rfl, HG⟩ := hrel
        rename World => wr
        go_wp2_with fail
        refine (HP3.out wr).mono ?_
        rintro e w' ⟨rfl, hw⟩
        have hw := hw.symm
        subst hw
        by_cases hlt : i < T
        · have hib : (i : Int) < (T : Int) := by omega
          obtain ⟨I5, hI5⟩ : ∃ I5, I5 = 50 + i := ⟨_, rfl⟩
          have hI5w : IntKind.i64.wrap (50 + (i : Int)) = (I5 : Int) := wrap_to (by omega) (by omega)
          have HRr : Hid (Calls Try.prog 22 #[.slice ao n ca, .int .i64 (I5 : Nat)] wr fun e w' => (∃ r, e = .returned (.int .i64 r) ∧ I64 r) ∧ ∃ k, w' = wr.drewN k) := HRw.out I5 wr (by omega) (bel_up' H2.out.1 (bel_up' HV.out.2.2 HG.out.2.2.2))
          clear hI5
          go_wp2_with fail
          refine HRr.out.mono ?_
          rintro e w4 ⟨⟨x, rfl, hx⟩, kk, hw4⟩
          obtain ⟨k, hk, hpk⟩ := HP4.out x hx
          have HPk : Hid (∀ w : World, Calls Try.prog 20 #[.int .i64 x, .int .i64 (P : Nat)] w fun e w' => e = .returned (.int .i64 k) ∧ w' = w) := hpk
          have H4' : Hid (Row GB P c w4 ∧ Below wv.heap.size wv w4) := by rw [hw4]; exact ⟨HG.out.1.drewN kk, below_drewN2 HG.out.2.2.2 kk⟩
          have hcell := H4'.out.1.cell k hk
          have hfree := H4'.out.1.free k
          obtain ⟨b, hb⟩ : ∃ b, b = c k := ⟨_, rfl⟩
          rw [← hb] at hcell
          have hb2 : b < 2 := by rw [hb]; exact HG.out.2.1 k hk
          have hki : (k : Int) < (P : Int) := by omega
          have hki0 : (0 : Int) ≤ (k : Int) := by omega
          have hsub : (1 : Int) - (b : Int) = ((1 - b : Nat) : Int) := by omega
          have HN : Hid (∀ wz, wz = w4.setCell ⟨GB, k, none⟩ (.int .i64 ((1 - b : Nat) : Int)) → Row GB P (fun x => if x = k then 1 - b else c x) wz ∧ (∀ x, x < P → (if x = k then 1 - b else c x) < 2) ∧ wgt (dff (fun x => mwv l g x l.length) (fun x => if x = k then 1 - b else c x)) P ≤ i + 1 ∧ Below wv.heap.size wv wz) := fun wz e => by
            rw [e]
            refine ⟨H4'.out.1.store k (1 - b) (fun j _ => rfl), fun x hx => ?_, ?_, H4'.out.2.setCell HW.out.1 _⟩
            · split
              · omega
              · exact HG.out.2.1 x hx
            · have h6 := dff_turn (a := fun x => mwv l g x l.length) (b := c) (b' := fun x => if x = k then 1 - b else c x) (k := k) (fun x hx => if_neg hx) P
              rw [if_pos hk] at h6
              have := HG.out.2.2.1
              omega
          clear hb hx hpk hw4
          go_wp2_with fail
          refine (HPk.out w4).mono ?_
          rintro e w' ⟨rfl, hw⟩
          have hw := hw.symm
          subst hw
          go_wp2
          go_roundw
          case rel => exact ⟨i + 1, _, by omega, by go_num, HN.out _ rfl⟩
          case measure => simp [intOf]; omega
        · have hib : ¬ (i : Int) < (T : Int) := by omega
          obtain ⟨E9, hE9⟩ : ∃ E9, E9 = wgt (dff (fun x => mwv l g x l.length) c) P := ⟨_, rfl⟩
          have hE9b : E9 ≤ 32 := by rw [hE9]; have := wgt_le (dff (fun x => mwv l g x l.length) c) P; omega
          have hE9e : ((E9 : Int) == (E9 : Int)) = true := by simp
          have HR2 : Hid (Row GB P c wr ∧ (∀ x, x < P → c x < 2) ∧ wgt (dff (fun x => mwv l g x l.length) c) P ≤ T ∧ Below wv.heap.size wv wr) := by
            rw [show T = i by omega]; exact HG.out
          have HDd : Hid (Calls Try.prog 17 #[.int .i64 (R : Nat), .int .i64 (M : Nat), .slice (some ⟨GB, 0, none⟩) P cB] wr fun e w' => Below wr.heap.size wr w' ∧ ∃ G2, e = .returned (.tuple #[.slice (some ⟨G2, 0, none⟩) K0 K0, .int .i64 (E9 : Nat), .bool true, .int .i64 0]) ∧ Row G2 K0 g w') := by rw [hE9]; exact HDc.out g c GB cB wr HU.out.1 HR2.out.2.1 HR2.out.1 HW.out.2.2.1 HR2.out.2.2.1
          have HAa : Hid (∀ wx, Row G P (fun x => mwv l g x l.length) wx → Row GB P c wx → Calls Try.prog 30 #[.slice (some ⟨G, 0, none⟩) P P, .slice (some ⟨GB, 0, none⟩) P cB] wx fun e w' => e = .returned (.int .i64 (E9 : Nat)) ∧ Below wx.heap.size wx w') := fun wx q1 q2 => by rw [hE9]; exact HAp.out _ c G GB cB wx q1 q2
          clear hE9
          go_wp2_with fail
          refine HDd.out.mono ?_
          rintro e w5' ⟨hb5, G2, rfl, hrow5⟩
          have hb25 : Below wv.heap.size wv w5' := bel_up' HR2.out.2.2.2 hb5
          have H5 : Hid (Row G2 K0 g w5' ∧ Row ga K0 g w5' ∧ Row GB P c w5' ∧ Row G P (fun x => mwv l g x l.length) w5' ∧ Below w.heap.size w w5') := ⟨hrow5, HV.out.2.1.below hb25 HV.out.2.1.lt, HR2.out.1.below hb5 HR2.out.1.lt, HV.out.1.below hb25 HV.out.1.lt, bel_up' H2.out.1 (bel_up' HV.out.2.2 hb25)⟩
          clear hb5 hrow5 hb25
          go_wp2_with fail
          refine (same_any (sl_sliceI (H5.out.2.1.sl (Nat.le_refl _)) (by omega)) (sl_sliceI (H5.out.1.sl (Nat.le_refl _)) (by omega))).mono ?_
          rintro e w6' ⟨rfl, kk, hw6⟩
          have H6' : Hid (Row GB P c w6' ∧ Row G P (fun x => mwv l g x l.length) w6' ∧ Below w.heap.size w w6') := by rw [hw6]; exact ⟨H5.out.2.2.1.drewN kk, H5.out.2.2.2.1.drewN kk, below_drewN2 H5.out.2.2.2.2 kk⟩
          clear hw6
          go_wp2_with fail
          refine (HAa.out w6' H6'.out.2.1 H6'.out.1).mono ?_
          rintro e w7' ⟨rfl, hb7⟩
          have H7' : Hid (Below w.heap.size w w7') := bel_up' H6'.out.2.2 hb7
          clear hb7
          go_wp2
          go_ret
          exact ⟨rfl, H7'.out⟩
end Go.Proofs.Ytmklnjkallhphaa
