/- TopRing: each word stands once around a ring; neighbours of Gray's list differ at one place, by one. -/
import Derived.Test.YthkjaiihlphgfabZKJ1
namespace Go.Proofs.Ythkjaiihlphgfab
open Go.RowKit Go.Sort

set_option maxHeartbeats 2000000 in
set_option maxRecDepth 100000 in
theorem topRing_long {ao : Option Addr} {sn ca : Nat} (q n k : Int) (w : World) (hn : ¬ sn ≤ 64) (hn2 : sn ≤ 17592186044416) :
    Calls Try.prog 4 #[.int .i64 q, .int .i64 n, .slice ao sn ca, .int .i64 k] w fun r w' => r = .returned (.bool true) ∧ Below w.heap.size w w' := by
  have h1 : (64 : Int) < (sn : Int) := by omega
  go_enter Try.func4, Try.ntmps4
  go_wp2
  go_ret
  exact ⟨rfl, Below.refl _ _⟩

set_option maxHeartbeats 16000000 in
set_option maxRecDepth 100000 in
theorem topRing_walk (q n k : Int) {ao : Option Addr} {sn ca : Nat} {z : Nat → Int} {w : World} (hA : Arg ao sn ca z w) (hs : sn ≤ 64) (hq : I64 q) (hn : I64 n) (hk : I64 k) :
    Calls Try.prog 4 #[.int .i64 q, .int .i64 n, .slice ao sn ca, .int .i64 k] w fun e w' => e = .returned (.bool true) ∧ Below w.heap.size w w' := by
  have HPi : Hid (∀ (x : Int) (m : Nat), I64 x → 1 ≤ m → m ≤ 2000 → ∃ M : Nat, M < m ∧ ∀ w : World, Calls Try.prog 5 #[.int .i64 x, .int .i64 (m : Nat)] w fun e w' => e = .returned (.int .i64 (M : Nat)) ∧ w' = w) := fun x m hx h1 h2 => by
    have h3 := pick_lo x (m : Int) (by omega)
    have h4 := pick_hi x (m : Int) (by omega)
    refine ⟨(pick x (m : Int)).toNat, by omega, fun w => ?_⟩
    rw [Int.toNat_of_nonneg h3]
    exact pick_any x m w hx.1 hx.2 (by omega) (by omega)
  obtain ⟨M1, hM1, hP1⟩ := HPi.out q 4 hq (by omega) (by omega)
  obtain ⟨M2, hM2, hP2⟩ := HPi.out n 4 hn (by omega) (by omega)
  have HP1 : Hid (∀ w : World, Calls Try.prog 5 #[.int .i64 q, .int .i64 4] w fun e w' => e = .returned (.int .i64 (M1 : Nat)) ∧ w' = w) := hP1
  have HP2 : Hid (∀ w : World, Calls Try.prog 5 #[.int .i64 n, .int .i64 4] w fun e w' => e = .returned (.int .i64 (M2 : Nat)) ∧ w' = w) := hP2
  obtain ⟨Q, hQ⟩ : ∃ Q, Q = 2 + M1 := ⟨_, rfl⟩
  obtain ⟨N, hN⟩ : ∃ N, N = 1 + M2 := ⟨_, rfl⟩
  have wQ : IntKind.i64.wrap (2 + (M1 : Int)) = (Q : Int) := wrap_to (by omega) (by omega)
  have wN : IntKind.i64.wrap (1 + (M2 : Int)) = (N : Int) := wrap_to (by omega) (by omega)
  have hQ2 : 2 ≤ Q ∧ Q ≤ 5 := by omega
  have hN2 : 1 ≤ N ∧ N ≤ 4 := by omega
  obtain ⟨A, hAe⟩ : ∃ A, A = Q ^ N := ⟨_, rfl⟩
  have hA6 : A ≤ 625 := by rw [hAe]; exact pow_625 hQ2.2 hN2.2
  have hA1 : 1 ≤ A := by rw [hAe]; exact Nat.pow_pos (by omega)
  obtain ⟨L, hL, hRl, hLl, hLx⟩ := ring_ok (rgp_mem Q (by omega) N (by omega) hQ2.1 hN2.1 (by omega))
  have HR : Hid (∀ w : World, Calls Try.prog 13 #[.int .i64 (Q : Nat), .int .i64 (N : Nat)] w fun x w' => Below w.heap.size w w' ∧ ∃ lo lc, x = .returned (.tuple #[.slice lo A lc, .int .i64 0]) ∧ KI (.slice lo A lc) (zl A (nzl L)) w') := fun w => by
    refine (ring_go hQ2.1 (by omega) hN2.1 (by omega) (by omega) w).mono ?_
    rintro x w' ⟨hb, v, rfl, ho⟩
    obtain ⟨lo, lc, hv⟩ := kj_own ho
    have hlen : (rgl Q N).length = A := by rw [hRl, hLl, hAe]
    rw [zl_len, hlen] at hv
    rw [hlen, hRl] at ho
    subst hv
    exact ⟨hb, lo, lc, rfl, ho.ki (by rw [zl_len]; omega)⟩
  have HPw : Hid (∀ w : World, Calls Try.prog 14 #[.int .i64 (Q : Nat), .int .i64 (N : Nat)] w fun e w' => e = .returned (.int .i64 (A : Nat)) ∧ w' = w) := fun w => by rw [hAe]; exact tpow_any hQ2.2 hN2.2 w
  have HL : Hid (L.length = A ∧ (∀ x ∈ L, x < Q) ∧ onc Q N L A 0 0 = true ∧ Arg ao sn ca z w ∧ I64 k) := by
    refine ⟨by rw [hLl, hAe], hLx, ?_, hA, hk⟩
    have h := onc_ok hQ2.1 hQ2.2 hN2.1 hN2.2
    rw [hRl, hLl, ← hAe] at h
    exact h
  have hz : ¬ (64 : Int) < (sn : Int) := by omega
  have hz2 : ((A : Int) != (A : Int)) = false := by simp
  clear hP1 hP2 hQ hN hAe hL hRl hLl hLx hA hq hn hk
  go_enter Try.func4, Try.ntmps4
  go_wp2_with fail
  refine (HP1.out _).mono ?_
  rintro e w' ⟨rfl, hw⟩
  have hw := hw.symm
  subst hw
  go_wp2_with fail
  refine (HP2.out _).mono ?_
  rintro e w' ⟨rfl, hw⟩
  have hw := hw.symm
  subst hw
  go_wp2_with fail
  refine (HR.out _).mono ?_
  rintro e w1 ⟨hb1, lo, lc, rfl, hs1⟩
  have H1 : Hid (Below w.heap.size w w1 ∧ KI (.slice lo A lc) (zl A (nzl L)) w1) := ⟨hb1, hs1⟩
  clear hb1 hs1
  go_wp2_with fail
  refine (HPw.out _).mono ?_
  rintro e w' ⟨rfl, hw⟩
  have hw := hw.symm
  subst hw
  go_wp2_with (first
    | (at_make; refine make_bool rfl _ _ rfl _ A rfl rfl rfl (by omega) ?_; intro w2 hrow2 hgrow2)
    | fail)
  obtain ⟨GS, hGS⟩ : ∃ GS, GS = w1.heap.size := ⟨_, rfl⟩
  have H2 : Hid (RowB GS A 0 w2 ∧ Below w1.heap.size w1 w2 ∧ GS = w1.heap.size) := ⟨by rw [hGS]; exact RowF.congr hrow2 fun o _ => by show Value.bool false = Value.bool (Nat.testBit 0 o); rw [Nat.zero_testBit], below_grown hgrow2 (Nat.le_refl _) (fun k hk => by cases hk), hGS⟩
  rw [← hGS]
  clear hrow2 hgrow2 hGS
  go_loopw [12] (fun vi wr => ∃ (i M : Nat), i ≤ A ∧ vi = .int .i64 (i : Nat) ∧ Hid (onc Q N L (A - i) i M = true ∧ RowB GS A M wr ∧ Below w1.heap.size w1 wr)) (fun vi _ => A - (intOf vi).toNat)
  case atStart => exact ⟨0, 0, by omega, rfl, HL.out.2.2.1, H2.out.1, H2.out.2.1⟩
  case round =>
    obtain ⟨i, M, hi, rfl, HG⟩ := hrel
    rename World => wr
    by_cases hlt : i < A
    · have hib : (i : Int) < (A : Int) := by omega
      obtain ⟨V, hV⟩ : ∃ V, V = wrdv Q L i N := ⟨_, rfl⟩
      have ho := onc_step (r := A - (i + 1)) (by rw [show A - (i + 1) + 1 = A - i by omega]; exact HG.out.1)
      rw [← hV, HL.out.1] at ho
      have HO : Hid (V = wrdv Q L i N ∧ V < A ∧ M.testBit V = false ∧ onc Q N L (A - (i + 1)) (i + 1) (M ||| 2 ^ V) = true) := ⟨hV, ho⟩
      clear hV ho
      go_wp2
      go_loopw [13, 14] (fun vv vj wx => ∃ (j v : Nat), j ≤ N ∧ vv = .int .i64 (v : Nat) ∧ vj = .int .i64 (j : Nat) ∧ v ≤ 625 ∧ Hid (v = wrdv Q L i j ∧ wx = wr)) (fun _ vj _ => N - (intOf vj).toNat)
      case atStart => exact ⟨0, 0, by omega, rfl, rfl, by omega, rfl, rfl⟩
      case round =>
        obtain ⟨j, v, hj, rfl, rfl, hv, HJ⟩ := hrel
        rename World => wx
        by_cases hjl : j < N
        · have hjb : (j : Int) < (N : Int) := by omega
          obtain ⟨s, hse⟩ : ∃ s, s = i + j := ⟨_, rfl⟩
          obtain ⟨m, hm⟩ : ∃ m, m = s % A := ⟨_, rfl⟩
          have hmA : m < A := by rw [hm]; exact Nat.mod_lt _ (by omega)
          obtain ⟨x, hx⟩ : ∃ x, x = L.getD m 0 := ⟨_, rfl⟩
          have hxQ : x < Q := by
            have hl : m < L.length := by rw [HL.out.1]; exact hmA
            rw [hx, List.getD_eq_getElem?_getD, List.getElem?_eq_getElem hl]
            exact HL.out.2.1 _ (List.getElem_mem hl)
          obtain ⟨bl, ol, hlo, hcl⟩ := (kj_slz (H1.out.2.below HG.out.2.2).1) m hmA
          rw [← HJ.out.2] at hcl
          replace hcl : wx.cell? ⟨bl, ol + m, none⟩ = some (.int .i64 (x : Nat)) := by rw [hx]; exact hcl
          have w1s : IntKind.i64.wrap ((i : Int) + (j : Int)) = (s : Int) := wrap_to (by omega) (by omega)
          have d1 : (s : Int).tmod (A : Int) = (m : Int) := by rw [hm]; rfl
          have hA0 : ¬ (A : Int) = 0 := by omega
          have hmb : (m : Int) < (A : Int) := by omega
          have hmb0 : (0 : Int) ≤ (m : Int) := by omega
          obtain ⟨vq, hvq⟩ : ∃ vq, vq = v * Q := ⟨_, rfl⟩
          obtain ⟨v2, hv2⟩ : ∃ v2, v2 = vq + x := ⟨_, rfl⟩
          have hv2w : v2 = wrdv Q L i (j + 1) := by
            show v2 = wrdv Q L i j * Q + L.getD ((i + j) % L.length) 0
            rw [hv2, hvq, ← HJ.out.1, HL.out.1, ← hse, ← hm, ← hx]
          have hv2b : v2 ≤ 625 := by
            have h1 := wrdv_lt HL.out.2.1 (by rw [HL.out.1]; omega) i (j + 1)
            have h2 := pow_625 (q := Q) (n := j + 1) hQ2.2 (by omega)
            rw [← hv2w] at h1
            omega
          have w2s : IntKind.i64.wrap ((v : Int) * (Q : Int)) = (vq : Int) := wrap_to (by rw [hvq]; simp) (by omega)
          have w3s : IntKind.i64.wrap ((vq : Int) + (x : Int)) = (v2 : Int) := wrap_to (by omega) (by omega)
          have hx0 : ¬ (x : Int) < 0 := by omega
          have hxq : ¬ (Q : Int) ≤ (x : Int) := by omega
          have HV : Hid (v2 = wrdv Q L i (j + 1) ∧ wx = wr) := ⟨hv2w, HJ.out.2⟩
          clear hse hm hx hvq hv2 hv2w
          subst hlo
          go_wp2
          go_roundw
          case rel => exact ⟨j + 1, v2, by omega, by first | rfl | go_num, by go_num, hv2b, HV.out⟩
          case measure => simp [intOf]; omega
        · have hjb : ¬ (j : Int) < (N : Int) := by omega
          have hjN : j = N := by omega
          have hvV : v = V := by rw [HJ.out.1, HO.out.1, hjN]
          have hVA : v < A := by rw [hvV]; exact HO.out.2.1
          have hvb : (v : Int) < (A : Int) := by omega
          have hvb0 : (0 : Int) ≤ (v : Int) := by omega
          have hrow : RowB GS A M wx := by rw [HJ.out.2]; exact HG.out.2.1
          have hc0 := RowF.cell hrow v hVA
          have hf0 := RowF.free hrow v
          have hc : wx.cell? ⟨GS, v, none⟩ = some (.bool false) := by rw [hc0, hvV, HO.out.2.2.1]
          obtain ⟨ws, hws⟩ : ∃ ws, ws = wx.setCell ⟨GS, v, none⟩ (.bool true) := ⟨_, rfl⟩
          have HS : Hid (onc Q N L (A - (i + 1)) (i + 1) (M ||| 2 ^ V) = true ∧ RowB GS A (M ||| 2 ^ V) ws ∧ Below w1.heap.size w1 ws) := by
            refine ⟨HO.out.2.2.2, by rw [hws, hvV]; exact hrow.on, ?_⟩
            rw [hws]
            exact setO_bel (by rw [HJ.out.2]; exact HG.out.2.2) (by have := H2.out.2.2; omega) _
          clear hc0 hrow hjN hvV
          go_wp2
          try rw [← hws]
          clear hws hc hf0
          go_roundw
          case rel => exact ⟨i + 1, M ||| 2 ^ V, by omega, by go_num, HS.out⟩
          case measure => simp [intOf]; omega
    · have hib : ¬ (i : Int) < (A : Int) := by omega
      have HB : Hid (Below w.heap.size w wr) := bel_up' H1.out.1 HG.out.2.2
      go_wp2
      go_loopw [16, 17, 18] (fun vs va vi wx => ∃ (r a : Nat) (y : Nat → Int), r ≤ 5 ∧ r ≤ 1 + sn ∧ va = .int .i64 (a : Nat) ∧ vi = .int .i64 (r : Nat) ∧ a ≤ 1024 ∧ r + 1 ≤ a ∧ Hid (a = prd r (szB y) ∧ OwnI wr.heap.size vs (zl r y) wx ∧ (∀ j, j < r → 2 ≤ y j ∧ y j ≤ 4) ∧ Below wr.heap.size wr wx)) (fun _ _ vi _ => 5 - (intOf vi).toNat)
      case atStart => exact ⟨0, 1, fun _ => 0, by omega, by omega, rfl, rfl, by omega, by omega, rfl, OwnI.nil _ _, fun j hj => absurd hj (by omega), Below.refl _ _⟩
      case round =>
        obtain ⟨r, a, y, hr5, hrs, rfl, rfl, ha, ha2, HG2⟩ := hrel
        rename World => wx
        have w1n : IntKind.i64.wrap (1 + (sn : Int)) = ((1 + sn : Nat) : Int) := wrap_to (by omega) (by omega)
        by_cases hlt2 : r < 5 ∧ r < 1 + sn
        · have hrb1 : (r : Int) < ((1 + sn : Nat) : Int) := by omega
          have hrb2 : (r : Int) < 5 := by omega
          have HRw : Hid (Calls Try.prog 15 #[.slice ao sn ca, .int .i64 (r : Nat)] wx fun e w' => (∃ x, e = .returned (.int .i64 x) ∧ I64 x) ∧ ∃ k, w' = wx.drewN k) := raw_any (HL.out.2.2.2.1.below (bel_up' HB.out HG2.out.2.2.2)) (by omega) r (by omega)
          go_wp2_with fail
          refine HRw.out.mono ?_
          rintro e w3 ⟨⟨x, rfl, hx⟩, k1, hw3⟩
          have HG3 : Hid (OwnI wr.heap.size u16 (zl r y) w3 ∧ Below wr.heap.size wr w3) := by rw [hw3]; exact ⟨HG2.out.2.1.drewN _, below_drewN2 HG2.out.2.2.2 _⟩
          have hsz3 := HG3.out.2.size
          clear hw3
          obtain ⟨M3, hM3, hP3⟩ := HPi.out x 3 hx (by omega) (by omega)
          have HP3 : Hid (∀ w : World, Calls Try.prog 5 #[.int .i64 x, .int .i64 3] w fun e w' => e = .returned (.int .i64 (M3 : Nat)) ∧ w' = w) := hP3
          obtain ⟨p, hp⟩ : ∃ p, p = 2 + M3 := ⟨_, rfl⟩
          have wp : IntKind.i64.wrap (2 + (M3 : Int)) = (p : Int) := wrap_to (by omega) (by omega)
          obtain ⟨a2, ha2e⟩ : ∃ a2, a2 = a * p := ⟨_, rfl⟩
          have hp24 : 2 ≤ p ∧ p ≤ 4 := by omega
          have hpr : prd (r + 1) (szB fun j => if j = r then (p : Int) else y j) = a2 := by
            rw [prd_last, prd_congr r _ (szB y) (fun j hj => by show (if j = r then (p : Int) else y j).toNat = (y j).toNat; rw [if_neg (by omega)]), ← HG2.out.1, ha2e]
            show a * (if r = r then (p : Int) else y r).toNat = a * p
            rw [if_pos rfl]; rfl
          have ha4 : a2 ≤ 1024 := by
            rw [← hpr]
            refine Nat.le_trans (prd_four (r + 1) _ fun j hj => ?_) (Nat.le_trans (Nat.pow_le_pow_right (by omega) (show r + 1 ≤ 5 by omega)) (by decide))
            show (if j = r then (p : Int) else y j).toNat ≤ 4
            by_cases e : j = r
            · rw [if_pos e]; omega
            · rw [if_neg e]; have := HG2.out.2.2.1 j (by omega); omega
          have ha2l : r + 1 + 1 ≤ a2 := by
            have := Nat.mul_le_mul (Nat.le_refl a) hp24.1
            omega
          have wa2 : IntKind.i64.wrap ((a : Int) * (p : Int)) = (a2 : Int) := wrap_to (by rw [ha2e]; simp) (by omega)
          have HV : Hid (a2 = prd (r + 1) (szB fun j => if j = r then (p : Int) else y j)) := hpr.symm
          clear hx hP3 hp ha2e hpr HRw
          go_wp2_with (first
            | (go_at_call 5; refine (HP3.out _).mono ?_; rintro e w' ⟨rfl, hw⟩; have hw := hw.symm; subst hw)
            | (at_builtin; refine append_int rfl _ _ rfl wr.heap.size _ (zl r y) rfl (HG3.out.1.alloc _) ⟨_, 0, none⟩ 1 (p : Int) rfl (by simp) (by rw [zl_len]; omega) (by simp; omega) ?_; intro v2 w4 hown4 hgrow4))
          have HX : Hid (OwnI wr.heap.size v2 (zl (r + 1) (fun j => if j = r then (p : Int) else y j)) w4 ∧ (∀ j, j < r + 1 → 2 ≤ (if j = r then (p : Int) else y j) ∧ (if j = r then (p : Int) else y j) ≤ 4) ∧ Below wr.heap.size wr w4) := by
            refine ⟨?_, fun j hj => ?_, (HG3.out.2.alloc hsz3 _).grown hgrow4 (by simp; omega) (fun k hk => (HG3.out.1.lt k hk).1)⟩
            · rw [zl_succ, zl_congr (y := y) (fun j hj => by show (if j = r then (p : Int) else y j) = y j; rw [if_neg (by omega)])]
              show OwnI wr.heap.size v2 (zl r y ++ [if r = r then (p : Int) else y r]) w4
              rw [if_pos rfl]; exact hown4
            · by_cases e : j = r
              · rw [if_pos e]; omega
              · rw [if_neg e]; exact HG2.out.2.2.1 j (by omega)
          clear hown4 hgrow4
          try go_wp2
          go_roundw
          case rel => exact ⟨r + 1, a2, _, by omega, by omega, by first | rfl | go_num, by go_num, ha4, ha2l, HV.out, HX.out⟩
          case measure => simp [intOf]; omega
        · have hc1 : 1 ≤ r := by omega
          obtain ⟨so, sc, hso⟩ := kj_own HG2.out.2.1
          rw [zl_len] at hso
          subst hso
          have hszk : szOk y r = true := szOk_all r fun j hj => by have := HG2.out.2.2.1 j hj; omega
          have hgk : gchk r y = 0 := by unfold gchk; rw [if_neg (by omega), if_pos hszk, if_neg (by rw [← HG2.out.1]; omega)]
          have hB1 : ∀ j, j < r → 1 ≤ szB y j := fun j hj => by have := szB_at hszk j hj; omega
          have hSl : SlZ so r y wx := kj_slz (HG2.out.2.1.ki (by rw [zl_len]; omega)).1
          obtain ⟨a1, ha1⟩ : ∃ a1, a1 = a - 1 := ⟨_, rfl⟩
          have wa1 : IntKind.i64.wrap ((a : Int) - 1) = (a1 : Int) := wrap_to (by omega) (by omega)
          obtain ⟨K0, hK0, hPk⟩ := HPi.out k a1 HL.out.2.2.2.2 (by omega) (by omega)
          have HPk : Hid (∀ w : World, Calls Try.prog 5 #[.int .i64 k, .int .i64 (a1 : Nat)] w fun e w' => e = .returned (.int .i64 (K0 : Nat)) ∧ w' = w) := hPk
          obtain ⟨K1, hK1⟩ : ∃ K1, K1 = K0 + 1 := ⟨_, rfl⟩
          have hKa : K0 < a ∧ K1 < a := by omega
          have wK1 : IntKind.i64.wrap ((K0 : Int) + 1) = (K1 : Int) := wrap_to (by omega) (by omega)
          have HGr : Hid (∀ (kk : Nat) (wy : World), kk < a → SlZ so r y wy → Calls Try.prog 16 #[.slice so r sc, .int .i64 (kk : Nat)] wy fun x w' => Below wy.heap.size wy w' ∧ ∃ vo vc, x = .returned (.tuple #[.slice vo r vc, .int .i64 0]) ∧ SlZ vo r (fun t => ((gry r (szB y) kk t : Nat) : Int)) w') := fun kk wy hkk hS => by
            have h := gray_any (ca := sc) (kk : Int) hS (by omega)
            have hE : (if gchk r y ≠ 0 then gchk r y else if (kk : Int) < 0 ∨ ((prd r (szB y) : Nat) : Int) ≤ (kk : Int) then 10 else 0) = (0 : Int) := by
              rw [if_neg (fun x => x hgk), if_neg]
              rw [← HG2.out.1]; omega
            rw [hE] at h
            refine h.mono ?_
            rintro x w' ⟨hb, vo, vn, vc, rfl, h2⟩
            rcases h2 with ⟨h2, _⟩ | ⟨_, h2⟩
            · exact absurd rfl h2
            · have hvn := kj_len h2
              subst hvn
              exact ⟨hb, vo, vc, rfl, kj_slz h2⟩
          have hgl : ∀ kk, kk < a → ∀ t, t < r → gry r (szB y) kk t < szB y t := fun kk hkk t ht => gry_lt hB1 (by rw [← HG2.out.1]; exact hkk) t ht
          have HPl : Hid (∀ (lo : Option Addr) (lc : Nat) (wy : World), SlZ so r y wy → SlZ lo r (fun t => ((gry r (szB y) K1 t : Nat) : Int)) wy → Calls Try.prog 17 #[.slice so r sc, .slice lo r lc] wy fun e w' => e = .returned (.tuple #[.int .i64 (K1 : Nat), .int .i64 0]) ∧ ∃ d, w' = wy.drewN d) := fun lo lc wy h1 h2 => by
            have h := place_any (ca := sc) (lc := lc) h1 h2 (by omega) (by omega)
            have hE : pchkG r r y (fun t => ((gry r (szB y) K1 t : Nat) : Int)) = 0 := by
              unfold pchkG
              rw [if_neg (fun x => x hgk), if_neg (fun x => x rfl), if_pos]
              refine plOk_all r fun j hj => ?_
              have e1 := hgl K1 hKa.2 j hj
              have e2 := HG2.out.2.2.1 j hj
              unfold szB at e1
              exact ⟨by omega, by show ((gry r (szB y) K1 j : Nat) : Int) < y j; unfold szB; omega⟩
            rw [hE, if_pos rfl] at h
            have e2 : plc r (szB y) (szB fun t => ((gry r (szB y) K1 t : Nat) : Int)) = K1 := by
              have e3 : (szB fun t => ((gry r (szB y) K1 t : Nat) : Int)) = gry r (szB y) K1 := by funext t; rfl
              rw [e3]; exact plc_gry r (szB y) K1 hB1 (by rw [← HG2.out.1]; exact hKa.2)
            rw [e2] at h
            exact h
          have HFv : Hid ((∀ t, t < r → gry r (szB y) K0 t ≤ 3 ∧ gry r (szB y) K1 t ≤ 3) ∧ sqd (gry r (szB y) K0) (gry r (szB y) K1) r = 1 ∧ Below w.heap.size w wx ∧ SlZ so r y wx) := by
            refine ⟨fun t ht => ?_, ?_, bel_up' HB.out HG2.out.2.2.2, hSl⟩
            · have e1 := hgl K1 hKa.2 t ht
              have e2 := hgl K0 hKa.1 t ht
              have e3 := HG2.out.2.2.1 t ht
              have e4 : szB y t ≤ 4 := by unfold szB; omega
              omega
            · rw [hK1]
              exact (gry_next r (szB y) K0 hB1 (by rw [← HG2.out.1, ← hK1]; exact hKa.2)).sqd
          have zK : ((K1 : Int) != (K1 : Int)) = false := by simp
          have zr : ((r : Int) != (r : Int)) = false := by simp
          have hex : ¬ (r : Int) < ((1 + sn : Nat) : Int) ∨ ((r : Int) < ((1 + sn : Nat) : Int) ∧ ¬ (r : Int) < 5) := by omega
          clear hgl hSl hB1 hgk hszk hPk ha1 hK1 hlt2
          rcases hex with hx1 | ⟨hx1, hx2⟩
          all_goals
            go_wp2_with fail
            refine (HPk.out _).mono ?_
            rintro e w' ⟨rfl, hw⟩
            have hw := hw.symm
            subst hw
            go_wp2_with fail
            refine (HGr.out K0 _ hKa.1 HFv.out.2.2.2).mono ?_
            rintro e w5 ⟨hb5, vo5, vc5, rfl, hs5⟩
            have H5 : Hid (Below wx.heap.size wx w5 ∧ SlZ vo5 r (fun t => ((gry r (szB y) K0 t : Nat) : Int)) w5 ∧ SlZ so r y w5) := ⟨hb5, hs5, slz_below HFv.out.2.2.2 hb5⟩
            clear hb5 hs5
            go_wp2_with fail
            refine (HGr.out K1 _ hKa.2 H5.out.2.2).mono ?_
            rintro e w6 ⟨hb6, vo6, vc6, rfl, hs6⟩
            have H6 : Hid (Below w.heap.size w w6 ∧ SlZ vo5 r (fun t => ((gry r (szB y) K0 t : Nat) : Int)) w6 ∧ SlZ vo6 r (fun t => ((gry r (szB y) K1 t : Nat) : Int)) w6 ∧ SlZ so r y w6) := ⟨bel_up' (bel_up' HFv.out.2.2.1 H5.out.1) hb6, slz_below H5.out.2.1 hb6, hs6, slz_below H5.out.2.2 hb6⟩
            clear hb6 hs6
            go_wp2_with fail
            refine (HPl.out _ _ _ H6.out.2.2.2 H6.out.2.2.1).mono ?_
            rintro e w7 ⟨rfl, d7, hw7⟩
            have H7 : Hid (Below w.heap.size w w7 ∧ SlZ vo5 r (fun t => ((gry r (szB y) K0 t : Nat) : Int)) w7 ∧ SlZ vo6 r (fun t => ((gry r (szB y) K1 t : Nat) : Int)) w7) := by
              rw [hw7]
              exact ⟨below_drewN2 H6.out.1 _, H6.out.2.1, H6.out.2.2.1⟩
            clear hw7
            go_wp2
            go_loopw [25, 26] (fun vd vi wz => ∃ (t : Nat) (d : Int), t ≤ r ∧ vd = .int .i64 d ∧ vi = .int .i64 (t : Nat) ∧ 0 ≤ d ∧ d ≤ 9 * (t : Int) ∧ Hid (d = sqd (gry r (szB y) K0) (gry r (szB y) K1) t ∧ ∃ e, wz = w7.drewN e)) (fun _ vi _ => r - (intOf vi).toNat)
            case atStart => exact ⟨0, 0, by omega, rfl, rfl, by omega, by omega, rfl, 0, rfl⟩
            case round =>
              obtain ⟨t, d, ht, rfl, rfl, hd0, hd9, HT⟩ := hrel
              rename World => wz
              by_cases htl : t < r
              · have htb : (t : Int) < (r : Int) := by omega
                have htb0 : (0 : Int) ≤ (t : Int) := by omega
                obtain ⟨y1, hy1⟩ : ∃ y1, y1 = gry r (szB y) K0 t := ⟨_, rfl⟩
                obtain ⟨y2, hy2⟩ : ∃ y2, y2 = gry r (szB y) K1 t := ⟨_, rfl⟩
                have h33 := HFv.out.1 t htl
                rw [← hy1, ← hy2] at h33
                obtain ⟨b5, o5, hv5, hc5⟩ := H7.out.2.1 t htl
                obtain ⟨b6, o6, hv6, hc6⟩ := H7.out.2.2 t htl
                replace hc5 : wz.cell? ⟨b5, o5 + t, none⟩ = some (.int .i64 (y1 : Nat)) := by obtain ⟨e7, hwz⟩ := HT.out.2; rw [hwz, hy1]; exact hc5
                replace hc6 : wz.cell? ⟨b6, o6 + t, none⟩ = some (.int .i64 (y2 : Nat)) := by obtain ⟨e7, hwz⟩ := HT.out.2; rw [hwz, hy2]; exact hc6
                obtain ⟨e1, he1⟩ : ∃ e1 : Int, e1 = (y1 : Int) - (y2 : Int) := ⟨_, rfl⟩
                have we : IntKind.i64.wrap ((y1 : Int) - (y2 : Int)) = e1 := by rw [he1]; exact wrap_ka (by omega) (by omega)
                obtain ⟨p, hp⟩ : ∃ p : Int, p = e1 * e1 := ⟨_, rfl⟩
                have hp9 : 0 ≤ p ∧ p ≤ 9 := by
                  have h7 : e1 = -3 ∨ e1 = -2 ∨ e1 = -1 ∨ e1 = 0 ∨ e1 = 1 ∨ e1 = 2 ∨ e1 = 3 := by omega
                  rw [hp]
                  rcases h7 with h | h | h | h | h | h | h <;> rw [h] <;> decide
                have wp : IntKind.i64.wrap (e1 * e1) = p := by rw [← hp]; exact wrap_ka (by omega) (by omega)
                obtain ⟨d2, hd2⟩ : ∃ d2 : Int, d2 = d + p := ⟨_, rfl⟩
                have wd : IntKind.i64.wrap (d + p) = d2 := by rw [← hd2]; exact wrap_ka (by omega) (by omega)
                have hd2b : 0 ≤ d2 ∧ d2 ≤ 9 * ((t + 1 : Nat) : Int) := by omega
                have HV : Hid (d2 = sqd (gry r (szB y) K0) (gry r (szB y) K1) (t + 1)) := by
                  show d2 = sqd (gry r (szB y) K0) (gry r (szB y) K1) t + ((gry r (szB y) K0 t : Int) - (gry r (szB y) K1 t : Int)) * ((gry r (szB y) K0 t : Int) - (gry r (szB y) K1 t : Int))
                  rw [hd2, HT.out.1, hp, he1, hy1, hy2]
                have HW : Hid (∀ e, Hid (∃ e', wz.drewN e = w7.drewN e')) := fun e => by
                  obtain ⟨e7, hwz⟩ := HT.out.2
                  exact ⟨_, by rw [hwz, World.drewN_drewN]⟩
                clear hy1 hy2 he1 hp hd2
                subst hv5
                subst hv6
                go_wp2
                go_quiet (fail)
                go_wp2
                go_roundw
                case rel => exact ⟨t + 1, d2, by omega, by first | rfl | go_num, by go_num, hd2b.1, hd2b.2, HV.out, (HW.out _).out⟩
                case measure => simp [intOf]; omega
              · have htb : ¬ (t : Int) < (r : Int) := by omega
                have hte : t = r := by omega
                have hd1 : (d == 1) = true := by rw [HT.out.1, hte, HFv.out.2.1]; rfl
                have HE : Hid (Below w.heap.size w wz) := by
                  obtain ⟨e7, hwz⟩ := HT.out.2
                  rw [hwz]; exact below_drewN2 H7.out.1 _
                clear hte
                go_wp2
                go_ret
                exact ⟨rfl, HE.out⟩
end Go.Proofs.Ythkjaiihlphgfab
