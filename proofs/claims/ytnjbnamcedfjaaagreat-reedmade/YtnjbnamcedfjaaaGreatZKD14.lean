/- The reference's quotient, and its memory (printed by make/kd14.py out of V1, V6); noughts laid behind a list. -/
import Derived.Test.YtnjbnamcedfjaaaGreatZV6
import Derived.Test.YtnjbnamcedfjaaaGreatZU22
import Derived.Lib.AppendZerosOnto
namespace Go.Proofs.YtnjbnamcedfjaaaGreat
open Go.RowKit Go.Sort

/-- A list of the call's own, by its numbers. -/
def OwnQt (base : Nat) (v : Value) (n : Nat) (c : Nat → Nat) (w : World) : Prop := OwnI base v (zl n fun j => ((c j : Nat) : Int)) w
theorem OwnQt.mono {base base' n : Nat} {v : Value} {c : Nat → Nat} {w : World} (h : OwnQt base v n c w) (hb : base' ≤ base) : OwnQt base' v n c w := OwnI.mono h hb
theorem copy_own {ao : Option Addr} {n cap : Nat} {c : Nat → Nat} {w : World} (h : Sl ao n c w) (hn : n ≤ 1000000) (hnil : ao = none → cap = 0) (hl : LtB ao w.heap.size) :
    Calls Tryz.prog 73 #[.slice ao n cap] w fun e w' => ∃ v, e = .returned v ∧ OwnQt w.heap.size v n c w' ∧ Below w.heap.size w w' := by
  have HS : Hid (Sl ao n c w ∧ (ao = none → cap = 0) ∧ LtB ao w.heap.size) := ⟨h, hnil, hl⟩
  clear h hnil hl
  go_enter Tryz.func73, Tryz.ntmps73
  go_wp2_with (at_builtin; refine append_ints rfl _ _ rfl w.heap.size _ [] rfl (own_empty (two_new _) (Nat.le_refl _)) ao n cap (fun j => ((c j : Nat) : Int)) rfl ((HS.out.1.below ((Below.refl _ _).alloc (Nat.le_refl _) _) HS.out.2.2).z) HS.out.2.1 (by simp; omega) (by simp) ?_; intro v' w' hown hgrow)
  go_ret
  exact ⟨_, rfl, hown, ((Below.refl _ _).alloc (Nat.le_refl _) _).grown hgrow (by simp) (by intro k hk; have hk : some w.heap.size = some k := hk; cases hk; exact Nat.le_refl _)⟩

set_option maxHeartbeats 2000000 in
set_option maxRecDepth 100000 in
theorem rtrim_own {ao : Option Addr} {n cap : Nat} {c : Nat → Nat} {w : World} (h : Sl ao n c w) (hn : n ≤ cap) (_hcap : cap ≤ 9223372036854775807) (hnil : ao = none → cap = 0) (hl : LtB ao w.heap.size) (hn6 : n ≤ 1000000) :
    Calls Tryz.prog 52 #[.slice ao n cap] w fun e w' => ∃ v, e = .returned v ∧ OwnQt w.heap.size v (dgn c n) c w' ∧ Below w.heap.size w w' := by
  have HS : Hid (Sl ao n c w ∧ (ao = none → cap = 0) ∧ LtB ao w.heap.size) := ⟨h, hnil, hl⟩
  clear h hnil hl
  have hd := dgn_le c n
  go_enter Tryz.func52, Tryz.ntmps52
  go_wp2
  go_loopw [3] (fun i wr => ∃ m : Nat, m ≤ n ∧ i = .int .i64 m ∧ Hid (dgn c n = dgn c m) ∧ ∃ d, wr = w.drewN d) (fun i _ => (intOf i).toNat)
  case atStart => exact ⟨n, Nat.le_refl _, rfl, rfl, 0, rfl⟩
  case round =>
    obtain ⟨m, hm, rfl, HD, d, rfl⟩ := hrel
    have HC : Hid (Calls Tryz.prog 73 #[.slice ao (dgn c n) cap] (w.drewN d) fun e w' => ∃ v, e = .returned v ∧ OwnQt w.heap.size v (dgn c n) c w' ∧ Below w.heap.size (w.drewN d) w') :=
      copy_own (w := w.drewN d) (HS.out.1.less hd) (by omega) HS.out.2.1 HS.out.2.2
    cases m with
    | zero =>
      have HE : Hid (dgn c n = 0) := HD.out
      have HC0 : Hid (Calls Tryz.prog 73 #[.slice ao 0 cap] (w.drewN d) fun e w' => ∃ v, e = .returned v ∧ OwnQt w.heap.size v (dgn c n) c w' ∧ Below w.heap.size (w.drewN d) w') := by
        have h := HC.out
        rw [HE.out] at h ⊢; exact h
      cases ao with
      | none =>
        go_wp2_with (go_at_call 73; refine HC0.out.mono ?_; rintro e w' ⟨v, rfl, hown, hb⟩)
        go_ret
        exact ⟨v, rfl, hown, below_drewN2 (Below.refl _ _) d |>.trans hb⟩
      | some x =>
        go_wp2_with (go_at_call 73; refine HC0.out.mono ?_; rintro e w' ⟨v, rfl, hown, hb⟩)
        go_ret
        exact ⟨v, rfl, hown, below_drewN2 (Below.refl _ _) d |>.trans hb⟩
    | succ m =>
      obtain ⟨b, off, rfl, hc⟩ := HS.out.1 m (by omega)
      by_cases h0 : c m = 0
      · have HE : Hid (dgn c n = dgn c m) := by show _ = _; rw [HD.out, dgn, if_pos h0]
        have hz : (((c m : Nat) : Int) == 0) = true := by rw [h0]; rfl
        clear h0
        go_wp2
        go_roundw
        case rel => exact ⟨m, by omega, by go_num, HE.out, _, rfl⟩
        case measure => simp [intOf]
      · have HE : Hid (dgn c n = m + 1) := by show _ = _; rw [HD.out, dgn, if_neg h0]
        have hz : (((c m : Nat) : Int) == 0) = false := by rw [beq_eq_false_iff_ne]; omega
        have HC1 : Hid (Calls Tryz.prog 73 #[.slice (some ⟨b, off, none⟩) (m + 1) cap] (w.drewN d) fun e w' => ∃ v, e = .returned v ∧ OwnQt w.heap.size v (dgn c n) c w' ∧ Below w.heap.size (w.drewN d) w') := by
          have h := HC.out
          rw [HE.out] at h ⊢; exact h
        clear h0
        go_wp2_with (go_at_call 73; refine HC1.out.mono ?_; rintro e w' ⟨v, rfl, hown, hb⟩)
        go_ret
        exact ⟨v, rfl, hown, below_drewN2 (Below.refl _ _) d |>.trans hb⟩

set_option maxHeartbeats 8000000 in
set_option maxRecDepth 100000 in
theorem rpdiv_own {D : FD} (hD : D ∈ fieldsL) (gen gm cm : Nat) {ao bo : Option Addr} {n m ca cb : Nat} {a b : Nat → Nat} {w : World} (hn : n ≤ 1000) (hm : m ≤ 1000) (ha : El D a) (hb : El D b) (hbn : Bd n a) (hbm : Bd m b) (hA : Sl ao n a w) (hB : Sl bo m b w) (hla : LtB ao w.heap.size) (hlb : LtB bo w.heap.size)
    (hna : n ≤ ca) (hca : ca ≤ 9223372036854775807) (hza : ao = none → ca = 0) (hmb : m ≤ cb) (hcb : cb ≤ 9223372036854775807) (hzb : bo = none → cb = 0) (hM : ModAt D (.slice (some ⟨gm, 0, none⟩) (D.m + 1) cm) D.md w) (l : Nat) (hl : dgn b m = l + 1) :
    Calls Tryz.prog 53 #[rf D.q D.p D.m gen (.slice (some ⟨gm, 0, none⟩) (D.m + 1) cm), .slice ao n ca, .slice bo m cb] w fun e w' => ∃ vq vr, e = .returned (.tuple #[vq, vr]) ∧
      OwnQt w.heap.size vq (dgn (divQ D b l (D.iv (b l)) (n - l) a) (n - l)) (divQ D b l (D.iv (b l)) (n - l) a) w' ∧ OwnP w.heap.size vr (dgn (divR D b l (D.iv (b l)) (n - l) a) n) (divR D b l (D.iv (b l)) (n - l) a) w' ∧ Below w.heap.size w w' := by
  have HF : Hid (D ∈ fieldsL ∧ El D a ∧ El D b ∧ Bd n a ∧ Bd m b) := ⟨hD, ha, hb, hbn, hbm⟩
  have HM : Hid (ModAt D (.slice (some ⟨gm, 0, none⟩) (D.m + 1) cm) D.md w) := hM
  have HB0 : Hid (Box w.heap.size D gen (.slice (some ⟨gm, 0, none⟩) (D.m + 1) cm) (w.alloc (.cells #[.int .i64 D.q, .int .i64 D.p, .int .i64 D.m, .int .i64 gen, .slice (some ⟨gm, 0, none⟩) (D.m + 1) cm] 28))) := box_new D gen _ w
  have hbl : Below w.heap.size w (w.alloc (.cells #[.int .i64 D.q, .int .i64 D.p, .int .i64 D.m, .int .i64 gen, .slice (some ⟨gm, 0, none⟩) (D.m + 1) cm] 28)) := (Below.refl _ _).alloc (Nat.le_refl _) _
  have HS : Hid (Sl ao n a (w.alloc (.cells #[.int .i64 D.q, .int .i64 D.p, .int .i64 D.m, .int .i64 gen, .slice (some ⟨gm, 0, none⟩) (D.m + 1) cm] 28)) ∧ Sl bo m b w ∧ LtB ao w.heap.size ∧ LtB bo w.heap.size ∧ (ao = none → ca = 0) ∧ (bo = none → cb = 0) ∧ Below w.heap.size w (w.alloc (.cells #[.int .i64 D.q, .int .i64 D.p, .int .i64 D.m, .int .i64 gen, .slice (some ⟨gm, 0, none⟩) (D.m + 1) cm] 28))) := ⟨hA.below hbl hla, hB, hla, hlb, hza, hzb, hbl⟩
  clear hD ha hb hbn hbm hM hA hB hla hlb hza hzb hbl
  unfold rf
  obtain ⟨Q, hQ⟩ : ∃ Q, Q = divQ D b l (D.iv (b l)) (n - l) a := ⟨_, rfl⟩
  obtain ⟨R, hR⟩ : ∃ R, R = divR D b l (D.iv (b l)) (n - l) a := ⟨_, rfl⟩
  rw [← hQ, ← hR]
  have HQ : Hid (Q = divQ D b l (D.iv (b l)) (n - l) a ∧ R = divR D b l (D.iv (b l)) (n - l) a ∧ dgn b m = l + 1) := ⟨hQ, hR, hl⟩
  have hlm : l + 1 ≤ m := by rw [← hl]; exact dgn_le _ _
  clear hQ hR hl
  go_enter Tryz.func53, Tryz.ntmps53
  go_wp2_with fail
  refine (rtrim_any HS.out.1 hna hca HS.out.2.2.2.2.1 (HS.out.2.2.1.mono (by simp)) (by omega)).mono ?_
  rintro e w1 ⟨va, rfl, hoa, hb1⟩
  obtain ⟨n', hn'⟩ : ∃ n', n' = dgn a n := ⟨_, rfl⟩
  rw [← hn'] at hoa
  have hn1 : n' ≤ n := by rw [hn']; exact dgn_le _ _
  have hs1 := hb1.size
  have hb1' := bel_up' HS.out.2.2.2.2.2.2 hb1
  have HW1 : Hid (n' = dgn a n ∧ OwnP (w.heap.size + 1) va n' a w1 ∧ Below w.heap.size w w1 ∧ Box w.heap.size D gen (.slice (some ⟨gm, 0, none⟩) (D.m + 1) cm) w1 ∧ Sl bo m b w1) :=
    ⟨hn', by have h := hoa; simp at h; exact h, hb1', HB0.out.below hb1 (by simp), HS.out.2.1.below hb1' HS.out.2.2.2.1⟩
  have hs1' : w.heap.size < w1.heap.size := by simp at hs1; omega
  clear hoa hb1 hb1' hn' hs1 HB0
  go_wp2_with fail
  refine (rtrim_any HW1.out.2.2.2.2 hmb hcb HS.out.2.2.2.2.2.1 (HS.out.2.2.2.1.mono (by omega)) (by omega)).mono ?_
  rintro e w2 ⟨vb, rfl, hob, hb2⟩
  rw [HQ.out.2.2] at hob
  have hs2 := hb2.size
  obtain ⟨b1, c2, hvb, _, _, _, _, _, _⟩ := hob.open
  subst hvb
  obtain ⟨gb, rfl, hgb1, hgb2, hrowb⟩ := hob.row (by omega)
  obtain ⟨a1, c1, hva, _, _, _, hla1, _, _⟩ := HW1.out.2.1.open
  subst hva
  have HW2 : Hid (n' = dgn a n ∧ OwnP (w.heap.size + 1) (.slice a1 n' c1) n' a w2 ∧ Row gb (l + 1) b w2 ∧ Below w.heap.size w w2 ∧ Box w.heap.size D gen (.slice (some ⟨gm, 0, none⟩) (D.m + 1) cm) w2 ∧ LtB a1 w1.heap.size) :=
    ⟨HW1.out.1, HW1.out.2.1.below hb2 (Nat.le_refl _), hrowb, bel_up' HW1.out.2.2.1 hb2, HW1.out.2.2.2.1.below hb2 hs1', hla1⟩
  clear hob hb2 HW1 HS hrowb hla1
  by_cases hge : l + 1 ≤ n'
  · obtain ⟨nq, hnq⟩ : ∃ nq, nq = n' - l := ⟨_, rfl⟩
    have HN : Hid (nq = n' - l) := hnq
    have hnq2 : nq ≤ 1000 := by omega
    clear hnq
    go_wp2_with (at_make; refine make_int rfl _ _ rfl _ nq rfl rfl (by have := HN.out; omega) (by omega) ?_; intro w3 hown3 hgrow3; have hcbl : w3.cell? ⟨gb, l, none⟩ = some (.int .i64 (b l : Nat)) := (HW2.out.2.2.1.below (below_grown hgrow3 (Nat.le_refl _) (fun k hk => by simp at hk)) hgb2).cell l (by omega))
    obtain ⟨inv, hinv⟩ : ∃ inv, inv = D.iv (b l) := ⟨_, rfl⟩
    have hbn : b l ≠ 0 := by
      have h := dgn_top b m (by rw [HQ.out.2.2]; omega)
      rw [HQ.out.2.2] at h; exact h
    have hb3 : Below w2.heap.size w2 w3 := below_grown hgrow3 (Nat.le_refl _) (fun k hk => by simp at hk)
    have hs3 := hb3.size
    have HB3 : Hid (DSt D gen gm cm b l Q gb w2.heap.size nq w a1 n' c1 a nq w3 ∧ inv = D.iv (b l) ∧ b l ≠ 0) :=
      ⟨⟨HW2.out.2.1.below hb3 (Nat.le_refl _), HW2.out.2.2.1.below hb3 hgb2, (row_zeros hown3).congr (fun k hk => by show 0 = if nq ≤ k then _ else 0; rw [if_neg (by omega)]), HW2.out.2.2.2.2.1.below hb3 (by omega), bel_up' HW2.out.2.2.2.1 hb3, fun x hx => by have := HW2.out.2.2.2.2.2 x hx; omega⟩, hinv, hbn⟩
    obtain ⟨x, hx⟩ : ∃ x, x = b l := ⟨_, rfl⟩
    rw [← hx] at hcbl
    have k0 := cell_regrown HB3.out.1.box.c0
    have k1 := cell_regrown HB3.out.1.box.c1
    have k2 := cell_regrown HB3.out.1.box.c2
    have k3 := cell_regrown HB3.out.1.box.c3
    have k4 := cell_regrown HB3.out.1.box.c4
    have k5 := cell_regrown hcbl
    have HC0 : Hid (∀ d os, Calls Tryz.prog 74 #[.agg #[.int .i64 D.q, .int .i64 D.p, .int .i64 D.m, .int .i64 gen, .slice (some ⟨gm, 0, none⟩) (D.m + 1) cm], .int .i64 (x : Nat)] (grow (redrawn w3 d) os) fun e w'' => e = .returned (.int .i64 (inv : Nat)) ∧ ∃ p : Regrown, w'' = grow (redrawn w3 p.d) p.os) := by
      intro d os
      have h := rinv_any HF.out.1 gen (x : Nat) (HM.out.below (bel_up' HB3.out.1.bel (below_regrown w3 d os)))
      rw [inv_nat HF.out.1 (by rw [hx]; exact HF.out.2.2.1 l) (by rw [hx]; exact HB3.out.2.2)] at h
      rw [show inv = D.pw x (D.q - 2) from by rw [HB3.out.2.1, hx]; rfl]
      exact Calls.regrown_of h
    clear hinv hbn hb3 hown3 hgrow3 hcbl hx
    refine wp_region_quiet_below (by kernel_rfl) (by kernel_rfl) ?_
    repeat (go_big_quiet_step (first | (go_at_call 74; exact HC0.out _ _)))
    refine wpQuiet_nil ?_
    intro _ hw'
    obtain ⟨⟨dq, osq⟩, hw''⟩ := hw'
    subst hw''
    have HB4 : Hid (DSt D gen gm cm b l Q gb w2.heap.size nq w a1 n' c1 a nq (grow (redrawn w3 dq) osq) ∧ w3.heap.size ≤ (grow (redrawn w3 dq) osq).heap.size) := ⟨HB3.out.1.below (by omega) (below_regrown w3 dq osq), (below_regrown w3 dq osq).size⟩
    clear k0 k1 k2 k3 k4 k5 HC0
    go_wp2
    go_loopw [1] (fun va wr => ∃ (len cp : Nat) (ar : Option Addr) (r : Nat → Nat), va = .slice ar len cp ∧ len ≤ n' ∧ Hid (Trd len r ∧ El D r ∧ divR D b l inv (len - l) r = R ∧ ∀ i, i < len - l → divQ D b l inv (len - l) r i = Q i) ∧ DSt D gen gm cm b l Q gb w2.heap.size nq w ar len cp r (len - l) wr ∧ w3.heap.size ≤ wr.heap.size) (fun va _ => slLen va)
    case atStart =>
      have hF := fld HF.out.1
      have ht : Trd n' a := by rw [HW2.out.1]; exact trd_dgn HF.out.2.2.2.1
      have hdf := div_from hF (b := b) (l := l) (inv := inv) (n := n' - l) (N := n - l) HF.out.2.1 (ht.1.mono (by omega)) (by omega)
      refine ⟨n', c1, a1, a, rfl, Nat.le_refl _, ⟨ht, HF.out.2.1, ?_, fun i _ => ?_⟩, ?_, HB4.out.2⟩
      · rw [HQ.out.2.1, ← HB3.out.2.1]; exact hdf.1.symm
      · rw [HQ.out.1, ← HB3.out.2.1]; exact (congrFun hdf.2 i).symm
      · have h := HB4.out.1
        rw [HN.out] at h ⊢
        exact h
    case round =>
      obtain ⟨len, cp, ar, r, rfl, hlen, HD, hst, hsz⟩ := hrel
      have HG : Hid (DSt D gen gm cm b l Q gb w2.heap.size nq w ar len cp r (len - l) wr) := hst
      clear hst
      by_cases hge2 : l + 1 ≤ len
      · obtain ⟨k, rfl⟩ : ∃ k, len = k + l + 1 := ⟨len - (l + 1), by omega⟩
        rw [show k + l + 1 - l = k + 1 from by omega] at HD HG
        obtain ⟨ga, rfl, hga1, hga2, hrowa⟩ := HG.out.own.row (by omega)
        have hne := HG.out.ne _ rfl
        have hne1 : ga ≠ gb := hne.1
        have hne2 : ga ≠ w2.heap.size := hne.2
        obtain ⟨x, hx⟩ : ∃ x, x = r (k + l) := ⟨_, rfl⟩
        obtain ⟨qk, hqk⟩ : ∃ qk, qk = Q k := ⟨_, rfl⟩
        have HX : Hid (x = r (k + l) ∧ qk = Q k ∧ D.mul (r (k + l)) inv = qk) := by
          refine ⟨hx, hqk, ?_⟩
          have h := HD.out.2.2.2 k (by omega)
          rw [divQ] at h
          have h : (if k = k then D.mul (r (k + l)) inv else divQ D b l inv k (dstep D b l inv k r) k) = Q k := h
          rw [if_pos rfl] at h
          rw [h, hqk]
        have hca : wr.cell? ⟨ga, k + l, none⟩ = some (.int .i64 (x : Nat)) := by rw [hx]; exact hrowa.cell _ (by omega)
        have k0 := cell_regrown HG.out.box.c0
        have k1 := cell_regrown HG.out.box.c1
        have k2 := cell_regrown HG.out.box.c2
        have k3 := cell_regrown HG.out.box.c3
        have k4 := cell_regrown HG.out.box.c4
        have k5 := cell_regrown hca
        have HC1 : Hid (∀ d os, Calls Tryz.prog 25 #[.agg #[.int .i64 D.q, .int .i64 D.p, .int .i64 D.m, .int .i64 gen, .slice (some ⟨gm, 0, none⟩) (D.m + 1) cm], .int .i64 (x : Nat), .int .i64 (inv : Nat)] (grow (redrawn wr d) os) fun e w'' => e = .returned (.int .i64 (qk : Nat)) ∧ ∃ p : Regrown, w'' = grow (redrawn wr p.d) p.os) := by
          intro d os
          rw [← HX.out.2.2, ← HX.out.1]
          exact Calls.regrown_of (rmul_nat HF.out.1 gen HM.out x inv (by rw [HX.out.1]; exact HD.out.2.1 _) (by rw [HB3.out.2.1]; exact iv_lt HF.out.1 _) _ (bel_up' HG.out.bel (below_regrown wr d os)))
        clear hx hqk hrowa hca
        go_wp2
        rw [show ((k : Int) + (l : Int) + 1 - ((l : Int) + 1)) = (k : Int) from by omega]
        refine wp_region_quiet_below (by kernel_rfl) (by kernel_rfl) ?_
        repeat (go_big_quiet_step (first | (go_at_call 25; exact HC1.out _ _)))
        refine wpQuiet_nil ?_
        intro _ hw'
        obtain ⟨⟨dr, osr⟩, hw''⟩ := hw'
        subst hw''
        obtain ⟨w5, hw5⟩ : ∃ w5, w5 = grow (redrawn wr dr) osr := ⟨_, rfl⟩
        have hb5 : Below wr.heap.size wr w5 := by rw [hw5]; exact below_regrown wr dr osr
        have HG5 : Hid (DSt D gen gm cm b l Q gb w2.heap.size nq w (some ⟨ga, 0, none⟩) (k + l + 1) cp r (k + 1) w5 ∧ w3.heap.size ≤ w5.heap.size) := ⟨HG.out.below (by omega) hb5, by have := hb5.size; omega⟩
        rw [← hw5]
        clear hw5 hb5 HG k0 k1 k2 k3 k4 k5 HC1
        obtain ⟨xv, x2⟩ : ∃ v, w5.cell? ⟨w2.heap.size, k, none⟩ = some v := ⟨_, HG5.out.1.rowq.cell k (by have := HN.out; omega)⟩
        have x3 := HG5.out.1.rowq.free k
        have hkb : (k : Int) < (nq : Int) := by have := HN.out; omega
        go_wp2
        have HG6 : Hid (DSt D gen gm cm b l Q gb w2.heap.size nq w (some ⟨ga, 0, none⟩) (k + l + 1) cp r k (w5.setCell ⟨w2.heap.size, k, none⟩ (.int .i64 (qk : Nat))) ∧ w3.heap.size ≤ (w5.setCell ⟨w2.heap.size, k, none⟩ (.int .i64 (qk : Nat))).heap.size) := by
          refine ⟨⟨HG5.out.1.own.setOther _ (fun g hg => ?_) _, HG5.out.1.rowb.other (Below.heap_setCell _ _ _ _ (by show gb ≠ w2.heap.size; omega)), HG5.out.1.rowq.store k qk (fun j hj => ?_), HG5.out.1.box.setOther _ (by show w.heap.size ≠ w2.heap.size; omega) _, HG5.out.1.bel.setCell (by show w.heap.size ≤ w2.heap.size; omega) _, HG5.out.1.ne⟩, by simp [World.setCell]; exact HG5.out.2⟩
          · have hg : some ga = some g := hg
            cases hg
            exact hne2
          · show (if k ≤ j then Q j else 0) = if j = k then qk else if k + 1 ≤ j then Q j else 0
            by_cases e : j = k
            · rw [if_pos e, if_pos (by omega), HX.out.2.1, e]
            · rw [if_neg e]
              by_cases e2 : k ≤ j
              · rw [if_pos e2, if_pos (by omega)]
              · rw [if_neg e2, if_neg (by omega)]
        clear HG5 x2 x3
        go_loopw [12] (fun i wr => ∃ j : Nat, j ≤ l + 1 ∧ i = .int .i64 j ∧ DSt D gen gm cm b l Q gb w2.heap.size nq w (some ⟨ga, 0, none⟩) (k + l + 1) cp (pst D b l inv k r j) k wr ∧ w3.heap.size ≤ wr.heap.size) (fun i _ => l + 1 - (intOf i).toNat)
        case atStart => exact ⟨0, by omega, rfl, by rw [pst_zero]; exact HG6.out.1, HG6.out.2⟩
        case round =>
          obtain ⟨j, hj, rfl, hst, hsz2⟩ := hrel
          have HG : Hid (DSt D gen gm cm b l Q gb w2.heap.size nq w (some ⟨ga, 0, none⟩) (k + l + 1) cp (pst D b l inv k r j) k wr) := hst
          clear hst HG6
          by_cases hjl : j < l + 1
          · obtain ⟨ga', e2, _, _, hrowa⟩ := HG.out.own.row (by omega)
            cases e2
            obtain ⟨t, ht⟩ : ∃ t : Nat, t = k + j := ⟨_, rfl⟩
            obtain ⟨y, hy⟩ : ∃ y, y = b j := ⟨_, rfl⟩
            obtain ⟨u, hu⟩ : ∃ u, u = D.mul qk y := ⟨_, rfl⟩
            obtain ⟨rt, hrt⟩ : ∃ rt, rt = r (k + j) := ⟨_, rfl⟩
            obtain ⟨zz, hzz⟩ : ∃ zz, zz = D.sb rt u := ⟨_, rfl⟩
            have hcr : wr.cell? ⟨ga, t, none⟩ = some (.int .i64 (rt : Nat)) := by
              have h := hrowa.cell (k + j) (by omega)
              rw [pst_at, ← hrt, ← ht] at h; exact h
            have hcy : wr.cell? ⟨gb, j, none⟩ = some (.int .i64 (y : Nat)) := by rw [hy]; exact HG.out.rowb.cell j (by omega)
            have htb : (t : Int) < (k : Int) + (l : Int) + 1 := by omega
            have hjb : (j : Int) < (l : Int) + 1 := by omega
            have w1' : IntKind.i64.wrap ((k : Int) + (j : Int)) = (t : Int) := wrap_to (by omega) (by omega)
            have hqlt : qk < D.q := by rw [HX.out.2.1, HQ.out.1]; exact el_divQ (fld HF.out.1) _ _ k
            have hyq : y < D.q := by rw [hy]; exact HF.out.2.2.1 j
            have hrq : rt < D.q := by rw [hrt]; exact HD.out.2.1 _
            have k0 := cell_regrown HG.out.box.c0
            have k1 := cell_regrown HG.out.box.c1
            have k2 := cell_regrown HG.out.box.c2
            have k3 := cell_regrown HG.out.box.c3
            have k4 := cell_regrown HG.out.box.c4
            have k5 := cell_regrown hcr
            have k6 := cell_regrown hcy
            have k7 := free_regrown hrowa.lt (hrowa.free t)
            have HC1 : Hid (∀ d os, Calls Tryz.prog 25 #[.agg #[.int .i64 D.q, .int .i64 D.p, .int .i64 D.m, .int .i64 gen, .slice (some ⟨gm, 0, none⟩) (D.m + 1) cm], .int .i64 (qk : Nat), .int .i64 (y : Nat)] (grow (redrawn wr d) os) fun e w'' => e = .returned (.int .i64 (u : Nat)) ∧ ∃ p : Regrown, w'' = grow (redrawn wr p.d) p.os) := by
              intro d os
              rw [hu]
              exact Calls.regrown_of (rmul_nat HF.out.1 gen HM.out qk y hqlt hyq _ (bel_up' HG.out.bel (below_regrown wr d os)))
            have HC2 : Hid (∀ d os, Calls Tryz.prog 75 #[.agg #[.int .i64 D.q, .int .i64 D.p, .int .i64 D.m, .int .i64 gen, .slice (some ⟨gm, 0, none⟩) (D.m + 1) cm], .int .i64 (rt : Nat), .int .i64 (u : Nat)] (grow (redrawn wr d) os) fun e w'' => e = .returned (.int .i64 (zz : Nat)) ∧ ∃ p : Regrown, w'' = grow (redrawn wr p.d) p.os) := by
              intro d os
              have huq : u < D.q := by rw [hu]; exact (fld HF.out.1).mul_lt _ _
              have h := rsub_any HF.out.1 gen (.slice (some ⟨gm, 0, none⟩) (D.m + 1) cm) (rt : Nat) (u : Nat) (grow (redrawn wr d) os)
              rw [subZ_nat (fld HF.out.1) hrq huq, ← hzz] at h
              exact Calls.regrown_of h
            have HV : Hid (∀ i, i < k + l + 1 → pst D b l inv k r (j + 1) i = if i = t then zz else pst D b l inv k r j i) := by
              intro i _
              rw [pst_step, ht, hzz, hrt, hu, hy, ← HX.out.2.2, dstep_at]
            clear ht hy hu hrt hzz hrowa hcr hcy
            go_wp2
            refine below_tail 20 (by kernel_rfl) (by kernel_rfl) ?_
            simp only [List.take_succ_cons, List.take_zero, List.drop_succ_cons, List.drop_zero]
            repeat (go_big_quiet_step (first | (go_at_call 25; exact HC1.out _ _) | (go_at_call 75; exact HC2.out _ _)))
            refine wpQuiet_nil ?_
            intro _ hw'
            obtain ⟨⟨ds, oss⟩, hw''⟩ := hw'
            subst hw''
            have HG7 : Hid (DSt D gen gm cm b l Q gb w2.heap.size nq w (some ⟨ga, 0, none⟩) (k + l + 1) cp (pst D b l inv k r j) k (grow (redrawn wr ds) oss) ∧ wr.heap.size ≤ (grow (redrawn wr ds) oss).heap.size) := ⟨HG.out.below (by omega) (below_regrown wr ds oss), (below_regrown wr ds oss).size⟩
            go_wp2
            go_roundw
            case rel => exact ⟨j + 1, by omega, by go_num, ⟨HG7.out.1.own.store t zz (by omega) HV.out, HG7.out.1.rowb.other (Below.heap_setCell _ _ _ _ (fun e => hne1 e.symm)), HG7.out.1.rowq.other (Below.heap_setCell _ _ _ _ (fun e => hne2 e.symm)), HG7.out.1.box.setOther _ (by show w.heap.size ≠ ga; omega) _, HG7.out.1.bel.setCell (by show w.heap.size ≤ ga; omega) _, HG7.out.1.ne⟩, Nat.le_trans (Nat.le_trans hsz2 HG7.out.2) (by simp [World.setCell])⟩
            case measure => simp [intOf]; omega
          · have HE : Hid (DSt D gen gm cm b l Q gb w2.heap.size nq w (some ⟨ga, 0, none⟩) (k + l + 1) cp (dstep D b l inv k r) k wr) := by
              have h := HG.out
              have hbl1 : Bd (l + 1) b := by rw [← HQ.out.2.2]; exact dgn_bd HF.out.2.2.2.2
              rw [show j = l + 1 from by omega, pst_all (fld HF.out.1) HD.out.2.1 hbl1] at h; exact h
            clear HG
            obtain ⟨r', hr'⟩ : ∃ r', r' = dstep D b l inv k r := ⟨_, rfl⟩
            obtain ⟨len', hlen'⟩ : ∃ len', len' = dgn r' (k + l + 1) := ⟨_, rfl⟩
            have hF := fld HF.out.1
            have hbl1 : Bd (l + 1) b := by rw [← HQ.out.2.2]; exact dgn_bd HF.out.2.2.2.2
            have hiv : D.mul (b l) inv = 1 := by rw [HB3.out.2.1]; exact iv_is HF.out.1 (HF.out.2.2.1 l) HB3.out.2.2
            have hbd : Bd (k + l) r' := by
              rw [hr']
              exact dstep_bd hF HD.out.2.1 HF.out.2.2.1 hbl1 hiv (fun i hi => HD.out.1.1 i (by omega))
            have hel : El D r' := by rw [hr']; exact el_dstep hF HD.out.2.1
            have hle' : len' ≤ k + l := by rw [hlen', dgn_from hbd (by omega)]; exact dgn_le _ _
            have htr : Trd len' r' := by rw [hlen', dgn_from hbd (by omega)]; exact trd_dgn hbd
            have hdf := div_from hF (b := b) (l := l) (inv := inv) (n := len' - l) (N := k) hel (htr.1.mono (by omega)) (by omega)
            have hqk : ∀ i, i < k → divQ D b l inv k r' i = Q i := by
              intro i hi
              have h := HD.out.2.2.2 i (by omega)
              rw [divQ, ← hr'] at h
              have h : (if i = k then D.mul (r (k + l)) inv else divQ D b l inv k r' i) = Q i := h
              rw [if_neg (by omega)] at h; exact h
            have HNew : Hid (Trd len' r' ∧ El D r' ∧ divR D b l inv (len' - l) r' = R ∧ ∀ i, i < len' - l → divQ D b l inv (len' - l) r' i = Q i) := by
              refine ⟨htr, hel, ?_, fun i hi => ?_⟩
              · rw [← hdf.1]
                have h := HD.out.2.2.1
                rw [divR, ← hr'] at h; exact h
              · rw [← hdf.2]; exact hqk i (by omega)
            have HZ : Hid (∀ i, len' - l ≤ i → i < k → Q i = 0) := by
              intro i h1 h2
              rw [← hqk i h2, hdf.2]
              exact divQ_bd _ _ i h1
            rw [← hr'] at HE
            obtain ⟨ar0, cp0, hv0, h10, h20, _, hl0, hz0, hs0⟩ := HE.out.own.open
            simp only [Value.slice.injEq, true_and] at hv0
            obtain ⟨e1, e2⟩ := hv0
            subst e1 e2
            have HT : Hid (Calls Tryz.prog 52 #[.slice (some ⟨ga, 0, none⟩) (k + l + 1) cp] wr fun e w' => ∃ v, e = .returned v ∧ OwnP wr.heap.size v len' r' w' ∧ Below wr.heap.size wr w') := by
              have h := rtrim_any hs0 h10 h20 hz0 hl0 (by omega)
              rw [← hlen'] at h; exact h
            clear hr' hlen' hF hbl1 hiv hbd hel htr hdf hqk h10 h20 hl0 hz0 hs0
            go_wp2_with fail
            refine HT.out.mono ?_
            rintro e w6 ⟨v, rfl, hown, hb6⟩
            obtain ⟨ar', cp', hv', _, _, hge', hlt', _, _⟩ := hown.open
            subst hv'
            have hs6 := hb6.size
            have HR : Hid (DSt D gen gm cm b l Q gb w2.heap.size nq w ar' len' cp' r' (len' - l) w6 ∧ w3.heap.size ≤ w6.heap.size) := by
              have hd := HE.out.below (by omega) hb6
              refine ⟨⟨hown.mono (by omega), hd.rowb, hd.rowq.congr (fun i _ => ?_), hd.box, hd.bel, fun x hx => ?_⟩, by omega⟩
              · show (if k ≤ i then Q i else 0) = if len' - l ≤ i then Q i else 0
                by_cases e : k ≤ i
                · rw [if_pos e, if_pos (by omega)]
                · rw [if_neg e]
                  by_cases e2 : len' - l ≤ i
                  · rw [if_pos e2, HZ.out i e2 (by omega)]
                  · rw [if_neg e2]
              · have := hge' x hx
                have g1 := HE.out.rowb.lt
                have g2 := HE.out.rowq.lt
                omega
            clear hown hb6 hge' hlt'
            go_wp2
            go_roundw
            case rel => exact ⟨len', cp', ar', r', rfl, by omega, HNew.out, HR.out.1, HR.out.2⟩
            case measure =>
              show len' < k + l + 1
              omega
      · have HE : Hid (R = r ∧ dgn R n = len ∧ dgn Q (n - l) = dgn Q nq ∧ Row w2.heap.size nq Q wr) := by
          have h0 : len - l = 0 := by omega
          have hr0 : R = r := by
            have h := HD.out.2.2.1
            rw [h0] at h; exact h.symm
          have hF := fld HF.out.1
          have hdf := div_from hF (b := b) (l := l) (inv := inv) (n := n' - l) (N := n - l) HF.out.2.1 ((show Bd n' a by rw [HW2.out.1]; exact dgn_bd HF.out.2.2.2.1).mono (by omega)) (by omega)
          refine ⟨hr0, by rw [hr0]; exact HD.out.1.dgn (by omega), ?_, HG.out.rowq.congr (fun i _ => by show (if len - l ≤ i then Q i else 0) = Q i; rw [if_pos (by omega)])⟩
          refine dgn_from ?_ (by have := HN.out; omega)
          rw [HQ.out.1, ← HB3.out.2.1, hdf.2, HN.out]
          exact divQ_bd _ _
        have HT : Hid (Calls Tryz.prog 52 #[.slice (some ⟨w2.heap.size, 0, none⟩) nq nq] wr fun e w' => ∃ v, e = .returned v ∧ OwnQt wr.heap.size v (dgn Q nq) Q w' ∧ Below wr.heap.size wr w') :=
          rtrim_own (HE.out.2.2.2.sl (Nat.le_refl _)) (Nat.le_refl _) (by omega) (fun e => by cases e) (fun x hx => by cases hx; exact HE.out.2.2.2.lt) (by omega)
        go_wp2_with fail
        refine HT.out.mono ?_
        rintro e w6 ⟨v, rfl, hown, hb6⟩
        have HR : Hid (OwnQt w.heap.size v (dgn Q (n - l)) Q w6 ∧ OwnP w.heap.size (.slice ar len cp) (dgn R n) R w6 ∧ Below w.heap.size w w6) := by
          have hd := HG.out.below (by omega) hb6
          refine ⟨by rw [HE.out.2.2.1]; exact hown.mono (by omega), by rw [HE.out.2.1, HE.out.1]; exact hd.own.mono (by omega), hd.bel⟩
        clear hown hb6
        go_wp2
        go_ret2
        exact ⟨v, _, rfl, HR.out.1, HR.out.2.1, HR.out.2.2⟩
  · have hbn : b l ≠ 0 := by
      have h := dgn_top b m (by rw [HQ.out.2.2]; omega)
      rw [HQ.out.2.2] at h; exact h
    obtain ⟨inv, hinv⟩ : ∃ inv, inv = D.iv (b l) := ⟨_, rfl⟩
    obtain ⟨x, hx⟩ : ∃ x, x = b l := ⟨_, rfl⟩
    have hcbl : w2.cell? ⟨gb, l, none⟩ = some (.int .i64 (x : Nat)) := by rw [hx]; exact HW2.out.2.2.1.cell l (by omega)
    have k0 := cell_regrown HW2.out.2.2.2.2.1.c0
    have k1 := cell_regrown HW2.out.2.2.2.2.1.c1
    have k2 := cell_regrown HW2.out.2.2.2.2.1.c2
    have k3 := cell_regrown HW2.out.2.2.2.2.1.c3
    have k4 := cell_regrown HW2.out.2.2.2.2.1.c4
    have k5 := cell_regrown hcbl
    have HC0 : Hid (∀ d os, Calls Tryz.prog 74 #[.agg #[.int .i64 D.q, .int .i64 D.p, .int .i64 D.m, .int .i64 gen, .slice (some ⟨gm, 0, none⟩) (D.m + 1) cm], .int .i64 (x : Nat)] (grow (redrawn w2 d) os) fun e w'' => e = .returned (.int .i64 (inv : Nat)) ∧ ∃ p : Regrown, w'' = grow (redrawn w2 p.d) p.os) := by
      intro d os
      have h := rinv_any HF.out.1 gen (x : Nat) (HM.out.below (bel_up' HW2.out.2.2.2.1 (below_regrown w2 d os)))
      rw [inv_nat HF.out.1 (by rw [hx]; exact HF.out.2.2.1 l) (by rw [hx]; exact hbn)] at h
      rw [show inv = D.pw x (D.q - 2) from by rw [hinv, hx]; rfl]
      exact Calls.regrown_of h
    have HE : Hid (R = a ∧ Q = pnil ∧ dgn R n = n') := by
      have ht : Trd n' a := by rw [HW2.out.1]; exact trd_dgn HF.out.2.2.2.1
      have hdf := div_from (fld HF.out.1) (b := b) (l := l) (inv := D.iv (b l)) (n := 0) (N := n - l) HF.out.2.1 (ht.1.mono (by omega)) (by omega)
      have hr : R = a := by rw [HQ.out.2.1, hdf.1]; rfl
      exact ⟨hr, by rw [HQ.out.1, hdf.2]; rfl, by rw [hr]; exact ht.dgn (by omega)⟩
    have hle : (n' : Int) < (l : Int) + 1 := by omega
    clear hbn hinv hx hcbl
    go_wp2
    refine wp_region_quiet_below (by kernel_rfl) (by kernel_rfl) ?_
    repeat (go_big_quiet_step (first | (go_at_call 74; exact HC0.out _ _)))
    refine wpQuiet_nil ?_
    intro _ hw'
    obtain ⟨⟨dq, osq⟩, hw''⟩ := hw'
    subst hw''
    obtain ⟨w5, hw5⟩ : ∃ w5, w5 = grow (redrawn w2 dq) osq := ⟨_, rfl⟩
    have hb5 : Below w2.heap.size w2 w5 := by rw [hw5]; exact below_regrown w2 dq osq
    have HG5 : Hid (OwnP (w.heap.size + 1) (.slice a1 n' c1) n' a w5 ∧ Below w.heap.size w w5) := ⟨HW2.out.2.1.below hb5 (Nat.le_refl _), bel_up' HW2.out.2.2.2.1 hb5⟩
    have hs5 := hb5.size
    rw [← hw5]
    clear hw5 hb5 k0 k1 k2 k3 k4 k5 HC0
    have HT : Hid (Calls Tryz.prog 52 #[.slice none 0 0] w5 fun e w' => ∃ v, e = .returned v ∧ OwnQt w5.heap.size v 0 pnil w' ∧ Below w5.heap.size w5 w') :=
      rtrim_own (c := pnil) (fun j hj => by omega) (Nat.le_refl _) (by omega) (fun _ => rfl) (fun x hx => by cases hx) (by omega)
    go_wp2
    refine wp_loop_rounds 1 ?_
    rw [rounds_succ]
    go_wp2_with (go_at_call 52; refine HT.out.mono ?_; rintro e w6 ⟨v, rfl, hown, hb6⟩)
    have HR : Hid (OwnQt w.heap.size v (dgn Q (n - l)) Q w6 ∧ OwnP w.heap.size (.slice a1 n' c1) (dgn R n) R w6 ∧ Below w.heap.size w w6) := by
      refine ⟨?_, ?_, bel_up' HG5.out.2 hb6⟩
      · rw [HE.out.2.1, show dgn pnil (n - l) = 0 from dgn_is (n := n - l) (fun _ _ => rfl) (fun _ _ => rfl) (fun h => absurd rfl h)]
        exact hown.mono (by omega)
      · rw [HE.out.2.2, HE.out.1]; exact (HG5.out.1.below hb6 (Nat.le_refl _)).mono (by omega)
    clear hown hb6
    go_ret2
    exact ⟨v, _, rfl, HR.out.1, HR.out.2.1, HR.out.2.2⟩

/-- 'append(v, make([]int, d)...)', v the call's own list. -/
theorem append_noughts {ops : Array Oper} {rest : List Oper} {o : Oper} {a : Act} {w : World} {Q : Exit → Act → World → Prop} (hgd : o.guard = none) (s x : Operand)
    (ho : o.op = .call { callee := .builtin .append, args := #[s, x], argTypes := #[22, 3] })
    (base : Nat) (v : Value) (l : List Int) (hs : a.eval s = v) (hown : OwnI base v l w) (d : Nat) (hx : a.eval x = .int .i64 (d : Int)) (hn : l.length + d ≤ 1000000) (hbase : base ≤ w.heap.size)
    (h : ∀ v' w', OwnI base v' (l ++ List.replicate d 0) w' → w.grownBy w' v.ownBlock → wpList Tryz.prog ops Q rest (a.put o.dst v') w') : wpList Tryz.prog ops Q (o :: rest) a w := by
  obtain ⟨i0, hi, hz0, hz1, hz2⟩ := info_parts Tryz.infoInt
  have key : ∃ v' w', (Builtin.append_ #[22, 3] o.type #[v, .int .i64 (d : Int)]).run Tryz.prog w = .ok v' w' ∧ OwnI base v' (l ++ List.replicate d 0) w' ∧ w.grownBy w' v.ownBlock := by
    have hlm : (l.map (Value.int .i64)).length = l.length := List.length_map ..
    have hrep : (l ++ List.replicate d 0).map (Value.int .i64) = l.map (Value.int .i64) ++ List.replicate d (.int .i64 0) := by
      rw [List.map_append, List.map_replicate]
    have hlen2 : (l ++ List.replicate d (0 : Int)).length = l.length + d := by rw [List.length_append, List.length_replicate]
    have zc1 : ∀ d, Builtin.zeroCells (Value.int .i64 0).cells d = (List.replicate d (Value.int .i64 0)).toArray := fun d => by
      apply Array.ext
      · simp [Builtin.zeroCells, Value.cells]
      · intro i h1 h2
        simp [Builtin.zeroCells, Value.cells, Nat.mod_one]
    have grown : ∀ (old : Nat), old < l.length + d → ∀ (row : Option Nat),
        OwnI base (.slice (some ⟨w.heap.size, 0, none⟩) (l.length + d) (grownCap w (l.length + d) old 3)) (l ++ List.replicate d 0) (w.drew.alloc (.cells ((l.map (Value.int .i64)).toArray ++ Builtin.zeroCells (Value.int .i64 0).cells d ++ Builtin.zeroCells (Value.int .i64 0).cells (grownCap w (l.length + d) old 3 - (l.length + d))) 3)) ∧
        w.grownBy (w.drew.alloc (.cells ((l.map (Value.int .i64)).toArray ++ Builtin.zeroCells (Value.int .i64 0).cells d ++ Builtin.zeroCells (Value.int .i64 0).cells (grownCap w (l.length + d) old 3 - (l.length + d))) 3)) row := fun old _ row => by
      have hge := grownCap_ge w (l.length + d) old 3
      have hcm := grownCap_le_maxLen w (l.length + d) old 3 (by unfold maxLen; omega)
      refine ⟨⟨by rw [hrep]; simp, .inr ⟨w.heap.size, _, _, by rw [hlen2], hbase, heap_alloc_new w.drew _, by rw [hlen2]; exact hge, hcm, ?_, ?_⟩⟩, ⟨rfl, rfl, rfl, by simp, fun k hk _ => heap_alloc_old w.drew _ hk⟩⟩
      · rw [zc1, zc1]
        simp
        omega
      · rw [hrep, hlen2, zc1, zc1]
        simp only [Array.toList_append, List.append_assoc]
        rw [← List.append_assoc]
        have : ((l.map (Value.int .i64)) ++ List.replicate d (Value.int .i64 0)).length = (l.length + d) * 1 := by simp
        rw [← this]
        exact List.take_left
    by_cases hd : d = 0
    · subst hd
      refine ⟨v, w, ?_, by rw [List.replicate_zero, List.append_nil]; exact hown, grown_refl _ _⟩
      rcases hown.2 with ⟨rfl, hl0⟩ | ⟨g, cap, cur, rfl, hbg, hg, hnc, hcm, hcs, htake⟩
      · simp [Builtin.append_, run_underlying Tryz.underlying22, run_underlying Tryz.underlying3, sizeOf, typeInfo, hi, asInt, asIntOf, IntKind.wrap_i64]
      · simp [Builtin.append_, run_underlying Tryz.underlying22, run_underlying Tryz.underlying3, sizeOf, typeInfo, hi, asInt, asIntOf, IntKind.wrap_i64, hnc, storeCells]
    · rcases hown.2 with ⟨hv, hl0⟩ | ⟨g, cap, cur, hv, hbg, hg, hnc, hcm, hcs, htake⟩
      · have hr := Lib.run_append_grow_zeros w 22 3 o.type 3 i0 (.int .i64 0) .i64 .i64 Tryz.underlying22 Tryz.underlying3 hi hz0 none l.length 0 (l.map (Value.int .i64)) (by rw [List.length_eq_zero_iff.1 hl0]; exact run_firstCells_none w.drew i0.size 0 0 0) d (by omega) (by omega) (by omega) (by omega) (by rw [hz2]; omega) (growslice_fits (by omega) (by rw [hz2]; omega))
        rw [hv]
        rw [hl0] at hr
        refine ⟨_, _, hr, ?_⟩
        have := grown 0 (by omega) (Value.ownBlock (.slice none 0 0))
        rw [hl0] at this
        exact this
      · by_cases hroom : l.length + d ≤ cap
        · have hst := run_storeCells_at Tryz.prog g (l.length * 1) 3 (List.replicate d (Value.int .i64 0)) 0 cur w hg (by simp; omega) (fun u hu => by rw [List.eq_of_mem_replicate hu]; rfl)
          simp only [Nat.add_zero, Nat.mul_one, List.length_replicate, List.append_assoc] at hst
          have hw64 : IntKind.i64.wrap (d : Int) = d := by rw [IntKind.wrap_i64]; omega
          refine ⟨.slice (some ⟨g, 0, none⟩) (l.length + d) cap, w.setRow g (cur.toList.take (l.length * 1) ++ List.replicate d (Value.int .i64 0) ++ cur.toList.drop (l.length * 1 + (List.replicate d (Value.int .i64 0)).length)).toArray, ?_, ⟨by rw [hrep]; simp, .inr ⟨g, cap, _, by rw [hlen2], hbg, setRow_heap w g cur _ 3 _ hg, by rw [hlen2]; exact hroom, hcm, ?_, ?_⟩⟩, ?_⟩
          · have hdz : ¬ d * i0.size = 0 := by rw [hz1]; omega
            have h48 : ¬ (281474976710656 < (d : Int) * (i0.bytes : Int)) := by rw [hz2]; omega
            have hneg : ¬ ((d : Int) < 0) := by omega
            rw [hv]
            simp [Builtin.append_, run_underlying Tryz.underlying22, run_underlying Tryz.underlying3, sizeOf, typeInfo, zeroValue, hi, hz0, asInt, asIntOf, hw64, hneg, h48, hd, hroom, zc1, Addr.add_lit, hz1, hst, Result.andThen]
          · simp
            omega
          · rw [hrep, hlen2, htake]
            have : ((l.map (Value.int .i64)) ++ List.replicate d (Value.int .i64 0)).length = (l.length + d) * 1 := by simp
            rw [← this]
            exact List.take_left
          · rw [hv]
            exact ⟨rfl, rfl, rfl, by simp, fun k _ hk => setRow_other w g k _ (fun e => hk (by simp [Value.ownBlock, e]))⟩
        · have hr := Lib.run_append_grow_zeros w 22 3 o.type 3 i0 (.int .i64 0) .i64 .i64 Tryz.underlying22 Tryz.underlying3 hi hz0 (some ⟨g, 0, none⟩) l.length cap (l.map (Value.int .i64)) (run_firstCells_some w.drew i0.size l.length ⟨g, 0, none⟩ l.length cap _ (by rw [hlm, hz1]; omega) (World.ownsRow.cells (w := w) hown (g := g) (by rw [hv]; rfl))) d (by omega) (by omega) (by omega) (by omega) (by rw [hz2]; omega) (growslice_fits (by omega) (by rw [hz2]; omega))
          rw [hv]
          exact ⟨_, _, hr, grown cap (by omega) _⟩
  obtain ⟨v', w', hr, h1, h2⟩ := key
  exact Lib.wpList_append_run w hgd s x 22 3 ho v _ hs hx v' w' hr (h v' w' h1 h2)
end Go.Proofs.YtnjbnamcedfjaaaGreat
