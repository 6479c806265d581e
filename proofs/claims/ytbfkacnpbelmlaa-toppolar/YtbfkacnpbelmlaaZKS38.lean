/- Polar: the walk of TopPolar (its end is printed by make/ks38.py). -/
import Derived.Test.YtbfkacnpbelmlaaZKS36
namespace Go.Proofs.Ytbfkacnpbelmlaa
open Go.RowKit Go.Sort

set_option maxHeartbeats 16000000 in
set_option maxRecDepth 100000 in
theorem topPolar_walk {m k less : Int} (hm : I64 m) (hk : I64 k) {ao lo : Option Addr} {n c ln lc : Nat} {z lz : Nat → Int} {w : World} (ha : ArgL ao n c z w) (hl : ArgL lo ln lc lz w) (hlI : ∀ j, j < ln → I64 (lz j)) (hnn : ¬ 256 < n + ln) :
    Calls Try.prog 5 #[.slice ao n c, .int .i64 m, .int .i64 k, .slice lo ln lc, .int .i64 less] w fun e w' => e = .returned (.bool true) ∧ Below w.heap.size w w' := by
  obtain ⟨S, hS⟩ : ∃ S, S = n + ln := ⟨_, rfl⟩
  have hSi : (n : Int) + (ln : Int) = (S : Int) := by omega
  have hSw : IntKind.i64.wrap (S : Int) = (S : Int) := wrap_to rfl (by omega)
  have hS1 : ¬ (S : Int) > 256 := by omega
  have hS2 : ¬ (256 : Int) < (S : Int) := by omega
  have hn5 : n ≤ 256 := by omega
  have hln5 : ln ≤ 256 := by omega
  obtain ⟨M, hM, hpM⟩ := pk_any hm (n := 6) (by omega) (by omega)
  obtain ⟨N, hN⟩ : ∃ N, N = 2 ^ M := ⟨_, rfl⟩
  have hM5 : M ≤ 5 := by omega
  have hN2 := pow32 hM5 hN
  obtain ⟨N1, hN1⟩ : ∃ N1, N1 = N + 1 := ⟨_, rfl⟩
  obtain ⟨K, hK, hpK⟩ := pk_any hk (n := N1) (by omega) (by omega)
  have hNi : (2 : Int) ^ M = (N : Int) := by rw [hN]; simp
  have hNw : IntKind.i64.wrap (N : Int) = (N : Int) := wrap_to rfl (by omega)
  have hNu : IntKind.u64.wrap (N : Int) = (N : Int) := wrap_u64 (by omega)
  have hN1i : (N : Int) + 1 = (N1 : Int) := by omega
  have hN1w : IntKind.i64.wrap (N1 : Int) = (N1 : Int) := wrap_to rfl (by omega)
  obtain ⟨A, hA⟩ : ∃ A, A = 2 ^ N := ⟨_, rfl⟩
  have hAb : A ≤ 4294967296 := by rw [hA]; exact Nat.le_trans (Nat.pow_le_pow_right (by omega) hN2.1) (by decide)
  have hAi : (2 : Int) ^ N = (A : Int) := by rw [hA]; simp
  obtain ⟨Q, hQ⟩ : ∃ Q, Q = N * A := ⟨_, rfl⟩
  have hQb : Q ≤ 137438953472 := by rw [hQ]; exact Nat.le_trans (Nat.mul_le_mul hN2.1 hAb) (by decide)
  have hQi : (N : Int) * (A : Int) = (Q : Int) := by rw [hQ]; simp
  have hQw : IntKind.i64.wrap (Q : Int) = (Q : Int) := wrap_to rfl (by omega)
  obtain ⟨T, hT⟩ : ∃ T, T = lsm M N := ⟨_, rfl⟩
  have hTQ : T * 2 = Q := by rw [hT, hQ, hA, hN]; exact (lsm_all hM5).1
  have hTd : (Q : Int).tdiv 2 = (T : Int) := by rw [Int.tdiv_eq_ediv_of_nonneg (by omega)]; omega
  have hTe : (Q : Int) / 2 = (T : Int) := by omega
  have hTw : IntKind.i64.wrap (T : Int) = (T : Int) := wrap_to rfl (by omega)
  have HA : Hid (Arg ao n c z w ∧ ArgL lo ln lc lz w ∧ ∀ j, j < ln → I64 (lz j)) := ⟨ha.arg (by omega), hl, hlI⟩
  have HP0 : Hid (∀ w : World, Calls Try.prog 18 #[.int .i64 m, .int .i64 6] w fun e w' => e = .returned (.int .i64 (M : Nat)) ∧ w' = w) := hpM
  have HP1 : Hid (∀ w : World, Calls Try.prog 18 #[.int .i64 k, .int .i64 (N1 : Nat)] w fun e w' => e = .returned (.int .i64 (K : Nat)) ∧ w' = w) := hpK
  have HX : Hid (N = 2 ^ M ∧ K ≤ N ∧ 1 ≤ N ∧ T = lsm M N ∧ M ≤ 5) := ⟨hN, by omega, hN2.2, hT, hM5⟩
  have HC : Hid (Calls Try.prog 7 #[.int .i64 (M : Nat)] w fun e w' => ∃ co cc, e = .returned (.tuple #[.slice co N cc, .int .i64 0]) ∧ SL co N (fun i => (((lss M).getD i 0 : Nat) : Int)) w' ∧ Below w.heap.size w w') := by
    refine (chances_ok hM5 w).mono ?_
    rintro e w' ⟨v, rfl, ho, hb⟩
    obtain ⟨co, cc, rfl, hA⟩ := ho.argOf (n := N) (by rw [lsI_len hM5, hN])
    refine ⟨co, cc, rfl, ⟨fun i hi => ?_, hA.lt⟩, hb⟩
    obtain ⟨b, off, e, q⟩ := hA.sl i hi
    exact ⟨b, off, e, by rw [q]; show some (Value.int .i64 ((lsI M).getD i 0)) = some (Value.int .i64 (((lss M).getD i 0 : Nat) : Int)); rw [lsI_nat]⟩
  have HW : Hid (∀ w1, Below w.heap.size w w1 → Calls Try.prog 19 #[.slice ao n c, .int .i64 0, .int .i64 (K : Nat), .bool false] w1 fun e w' => ∃ (bo : Option Addr) (cb : Nat) (f : Nat → Nat), e = .returned (.slice bo K cb) ∧ SL bo K (fun i => ((f i : Nat) : Int)) w' ∧ (∀ i, i < K → f i < 2) ∧ Below w1.heap.size w1 w') := fun w1 hb => by
    refine (wordOf_any (HA.out.1.below hb) (by omega) 0 K false (by omega) (by omega)).mono ?_
    rintro e w' ⟨v, y, rfl, ho, hy, hb'⟩
    obtain ⟨bo, cb, rfl, hA⟩ := ho.argL
    have hy2 : ∀ i, i < K → y i = 0 ∨ y i = 1 := fun i hi => (hy i hi).resolve_right (fun h => by cases h.1)
    refine ⟨bo, cb, fun i => (y i).toNat, rfl, ⟨fun i hi => ?_, hA.lt⟩, fun i hi => by rcases hy2 i hi with e | e <;> (dsimp only; rw [e]; decide), hb'⟩
    obtain ⟨b, off, e, q⟩ := hA.sl i hi
    refine ⟨b, off, e, ?_⟩
    rw [q]
    show some (Value.int .i64 (y i)) = some (Value.int .i64 (((y i).toNat : Nat) : Int))
    rcases hy2 i hi with e | e <;> rw [e] <;> rfl
  have hNb : N ≤ 32 := hN2.1
  clear hN hN1 hpM hpK ha hm hk hN2 hK hS hl hlI hnn hA hQ hT hTQ
  go_enter Try.func5, Try.ntmps5
  go_wp2_with fail
  refine (HP0.out w).mono ?_
  rintro e w' ⟨rfl, hw⟩
  have hw := hw.symm
  subst hw
  clear HP0
  go_wp2_with fail
  refine (HP1.out w).mono ?_
  rintro e w' ⟨rfl, hw⟩
  have hw := hw.symm
  subst hw
  clear HP1
  go_wp2_with fail
  refine HC.out.mono ?_
  rintro e w1 ⟨co, cc, rfl, hs1, hb1⟩
  have H1 : Hid (SL co N (fun i => (((lss M).getD i 0 : Nat) : Int)) w1 ∧ Below w.heap.size w w1) := ⟨hs1, hb1⟩
  clear hs1 hb1 HC
  go_wp2
  go_loopw [13, 14] (fun vs vi wr => ∃ t : Nat, t ≤ N ∧ vi = .int .i64 (t : Nat) ∧ vs = .int .i64 (lsm M t : Nat) ∧ wr = w1) (fun _ vi _ => N - (intOf vi).toNat)
  case atStart => exact ⟨0, by omega, rfl, rfl, rfl⟩
  case round =>
    obtain ⟨t, ht, rfl, rfl, hwx⟩ := hrel
    have hwx := hwx.symm
    subst hwx
    by_cases hlt : t < N
    · have hib : (t : Int) < (N : Int) := by omega
      have hib0 : (0 : Int) ≤ (t : Int) := by omega
      obtain ⟨b1, o1, e1, q1⟩ := H1.out.1.1 t hlt
      obtain ⟨v, hv⟩ : ∃ v, v = (lss M).getD t 0 := ⟨_, rfl⟩
      obtain ⟨s, hs⟩ : ∃ s, s = lsm M t := ⟨_, rfl⟩
      obtain ⟨s2, hs2⟩ : ∃ s2, s2 = s + v := ⟨_, rfl⟩
      have hvb : v ≤ 4294967296 := by rw [hv]; exact (lsm_all hM5).2 t (by omega)
      have hsb : s ≤ 137438953472 := by rw [hs]; have := lsm_le hM5 t (by omega); omega
      have hs2i : (s : Int) + (v : Int) = (s2 : Int) := by omega
      have hs2w : IntKind.i64.wrap (s2 : Int) = (s2 : Int) := wrap_to rfl (by omega)
      have k1 : w1.cell? ⟨b1, o1 + t, none⟩ = some (.int .i64 (v : Nat)) := by rw [hv]; exact q1
      have HE : Hid (lsm M (t + 1) = s2) := by
        show lsm M t + (lss M).getD t 0 = s2
        rw [← hs, ← hv, hs2]
      rw [← hs]
      subst e1
      clear q1 hv hs hs2
      go_wp2
      go_roundw
      case rel => exact ⟨t + 1, by omega, by go_num, by rw [HE.out], by first | rfl | trivial⟩
      case measure => simp [intOf]; omega
    · have hib : ¬ (t : Int) < (N : Int) := by omega
      have hie : N = t := by omega
      subst hie
      rw [← HX.out.2.2.2.1]
      go_upto_region 13 with fail
      go_quiet (fail)
      obtain ⟨x1, hx1⟩ : ∃ x1, x1 = w1.drewN nq := ⟨_, rfl⟩
      have H2 : Hid (Below w.heap.size w x1) := by rw [hx1]; exact bel_drewN H1.out.2 _
      rw [← hx1]
      clear hx1 H1
      go_wp2_with fail
      refine (HW.out x1 H2.out).mono ?_
      rintro e x2 ⟨bo, cb, f, rfl, hs2, hf2, hb2⟩
      obtain ⟨cw, hcw⟩ : ∃ cw : Nat → Nat, cw = ptr M (pput (bpl M K) f K) := ⟨_, rfl⟩
      have H3 : Hid (SL bo K (fun i => ((f i : Nat) : Int)) x2 ∧ (∀ i, i < K → f i < 2) ∧ Below w.heap.size w x2 ∧ cw = ptr M (pput (bpl M K) f K) ∧ ∀ i, i < N → cw i < 2) := ⟨hs2, hf2, bel_up' H2.out hb2, hcw, fun i hi => by rw [hcw]; exact ptr_lt M (fun j _ => pput_lt hf2 j) i (by rw [← HX.out.1]; exact hi)⟩
      clear hs2 hf2 hb2 hcw HW
      have HEn : Hid (Calls Try.prog 16 #[.int .i64 (M : Nat), .slice bo K cb] x2 fun e w' => ∃ g cg, e = .returned (.tuple #[.slice (some ⟨g, 0, none⟩) N cg, .int .i64 0]) ∧ Wbt g 0 N cw w' ∧ N ≤ cg ∧ cg ≤ 9223372036854775807 ∧ Below x2.heap.size x2 w') := by
        refine (penc_ok hM5 HX.out.1 HX.out.2.1 (fun i hi => by rw [HX.out.1]; exact bpl_lt hM5 (by rw [← HX.out.1]; exact HX.out.2.1) i hi) H3.out.2.1 H3.out.1.1 H3.out.1.2 (best_zl hM5 HX.out.1 HX.out.2.1 x2) (fun w2 hb2 => ?_)).mono ?_
        · have h := bAll_any (cap := cb) (H3.out.1.below hb2).1 (by have := HX.out.2.1; omega)
          have hb0 : allP isbt (fun i => ((f i : Nat) : Int)) K = true := by
            have : ∀ q, q ≤ K → allP isbt (fun i => ((f i : Nat) : Int)) q = true := fun q => by
              induction q with
              | zero => intro _; rfl
              | succ q ih =>
                intro hq
                show (allP isbt (fun i => ((f i : Nat) : Int)) q && isbt ((f q : Nat) : Int)) = true
                rw [ih (by omega)]
                exact decide_eq_true (by have := H3.out.2.1 q (by omega); show ((f q : Nat) : Int) = 0 ∨ ((f q : Nat) : Int) = 1; omega)
            exact this K (Nat.le_refl _)
          rw [hb0] at h
          exact h
        · rintro e w' ⟨v, rfl, ho, hb⟩
          rw [← H3.out.2.2.2.1] at ho
          obtain ⟨g, cg, rfl, h1, h2, h3, _⟩ := own_wbt ho HX.out.2.2.1 H3.out.2.2.2.2
          exact ⟨g, cg, rfl, h1, h2, h3, hb⟩
      go_wp2_with fail
      refine HEn.out.mono ?_
      rintro e x3 ⟨g, cg, rfl, hW3, hc31, hc32, hb3⟩
      have H4 : Hid (Wbt g 0 N cw x3 ∧ N ≤ cg ∧ cg ≤ 9223372036854775807 ∧ Below w.heap.size w x3 ∧ SL bo K (fun i => ((f i : Nat) : Int)) x3) := ⟨hW3, hc31, hc32, bel_up' H3.out.2.2.1 hb3, H3.out.1.below hb3⟩
      clear hW3 hc31 hc32 hb3 HEn
      have HCp : Hid (∀ wx, Below x3.heap.size x3 wx → Calls Try.prog 21 #[.slice (some ⟨g, 0, none⟩) N cg] wx fun e w' => ∃ g2 c2, e = .returned (.slice (some ⟨g2, 0, none⟩) N c2) ∧ RowZ g2 N (fun i => ((cw i : Nat) : Int)) w' ∧ N ≤ c2 ∧ c2 ≤ 9223372036854775807 ∧ wx.heap.size ≤ g2 ∧ Below wx.heap.size wx w') := fun wx hb => by
        have hWx : Wbt g 0 N cw wx := H4.out.1.below hb
        refine (copyI_any (cap := cg) hWx.slz (by omega) (fun e => by cases e) (fun a e => by cases e; exact hWx.1)).mono ?_
        rintro e w' ⟨v, rfl, ho, hb⟩
        obtain ⟨g2, c2, rfl, h1, h2, h3, h4⟩ := ho.rowZ (by have := HX.out.2.2.1; omega)
        exact ⟨g2, c2, rfl, h4, h1, h2, h3, hb⟩
      go_wp2_with fail
      refine (HCp.out x3 (Below.refl _ _)).mono ?_
      rintro e x4 ⟨gb, cb1, rfl, hr4, hc41, hc42, hg4, hb4⟩
      have H5 : Hid (RowZ gb N (fun i => ((cw i : Nat) : Int)) x4 ∧ Below x3.heap.size x3 x4 ∧ x3.heap.size ≤ gb ∧ gb < x4.heap.size ∧ N ≤ cb1 ∧ cb1 ≤ 9223372036854775807) := ⟨hr4, hb4, hg4, hr4.lt', hc41, hc42⟩
      clear hr4 hc41 hc42 hg4 hb4
      go_wp2_with fail
      refine (HCp.out x4 H5.out.2.1).mono ?_
      rintro e x5 ⟨gf, cf1, rfl, hr5, hc51, hc52, hg5, hb5⟩
      have H6 : Hid (RowZ gf N (fun i => ((cw i : Nat) : Int)) x5 ∧ RowZ gb N (fun i => ((cw i : Nat) : Int)) x5 ∧ Below x3.heap.size x3 x5 ∧ x3.heap.size ≤ gf ∧ gb < gf ∧ N ≤ cf1 ∧ cf1 ≤ 9223372036854775807) := ⟨hr5, H5.out.1.below hb5 H5.out.2.2.2.1, bel_up' H5.out.2.1 hb5, by have := H5.out.2.1.size; omega, by have := H5.out.2.2.2.1; omega, hc51, hc52⟩
      clear hr5 hc51 hc52 hg5 hb5 HCp
      go_wp2
      go_loopw [19] (fun vi wr => ∃ (t : Nat) (xb yf : Nat → Int), t ≤ ln ∧ vi = .int .i64 (t : Nat) ∧ Hid (RowZ gb N xb wr ∧ RowZ gf N yf wr ∧ (∀ i, i < N → Le1 (xb i) (yf i)) ∧ (∀ i, i < N → Le1 (yf i) ((cw i : Nat) : Int)) ∧ Below x3.heap.size x3 wr)) (fun vi _ => ln - (intOf vi).toNat)
      case atStart => exact ⟨0, _, _, by omega, rfl, H6.out.2.1, H6.out.1, fun i _ => Le1.refl _, fun i _ => Le1.refl _, H6.out.2.2.1⟩
      case round =>
        obtain ⟨t, xb, yf, ht, rfl, HG⟩ := hrel
        rename World => wr
        by_cases hlt : t < ln
        · have hib : (t : Int) < (ln : Int) := by omega
          have hib0 : (0 : Int) ≤ (t : Int) := by omega
          obtain ⟨lb, lof, e1, q1⟩ := HA.out.2.1.sl t hlt
          have hlb : lb < w.heap.size := HA.out.2.1.lt _ e1
          obtain ⟨v, hv⟩ : ∃ v, v = lz t := ⟨_, rfl⟩
          have hvI : I64 v := by rw [hv]; exact HA.out.2.2 t hlt
          have hbw : Below w.heap.size w wr := bel_up' H4.out.2.2.2.1 HG.out.2.2.2.2
          have k1 : wr.cell? ⟨lb, lof + t, none⟩ = some (.int .i64 v) := by rw [hv]; exact (hbw.cell (p := ⟨lb, lof + t, none⟩) hlb).trans q1
          obtain ⟨q, hq, hpq⟩ := pk_any hvI (n := N) HX.out.2.2.1 (by omega)
          have HPq : Hid (∀ w : World, Calls Try.prog 18 #[.int .i64 v, .int .i64 (N : Nat)] w fun e w' => e = .returned (.int .i64 (q : Nat)) ∧ w' = w) := hpq
          obtain ⟨s, hs⟩ : ∃ s, IntKind.i64.wrap (less + (t : Int)) = s := ⟨_, rfl⟩
          have hsI : I64 s := by rw [← hs]; exact i64_wrap _
          obtain ⟨Y, hY, hpY⟩ := pk_any hsI (n := 3) (by omega) (by omega)
          have HPY : Hid (∀ w : World, Calls Try.prog 18 #[.int .i64 s, .int .i64 3] w fun e w' => e = .returned (.int .i64 (Y : Nat)) ∧ w' = w) := hpY
          have hqi : (q : Int) < (N : Int) := by omega
          have hqi0 : (0 : Int) ≤ (q : Int) := by omega
          obtain ⟨o0, hc0⟩ : ∃ o0, wr.cell? ⟨gb, q, none⟩ = some (.int .i64 o0) := ⟨_, HG.out.1.cell q hq⟩
          have hf0 := HG.out.1.free q
          obtain ⟨wb, hwb⟩ : ∃ wb, wb = wr.setCell ⟨gb, q, none⟩ (.int .i64 (-1)) := ⟨_, rfl⟩
          have hne : gb ≠ gf := by have := H6.out.2.2.2.2.1; omega
          have HB : Hid (RowZ gb N (fun j => if j = q then -1 else xb j) wb ∧ RowZ gf N yf wb ∧ Below x3.heap.size x3 wb ∧ Below w.heap.size w wb) := by
            rw [hwb]
            have h1 : Below x3.heap.size x3 (wr.setCell ⟨gb, q, none⟩ (.int .i64 (-1))) := HG.out.2.2.2.2.setCell (by show x3.heap.size ≤ gb; exact H5.out.2.2.1) _
            refine ⟨HG.out.1.store q (-1) (fun j _ => rfl), ?_, h1, bel_up' H4.out.2.2.2.1 h1⟩
            obtain ⟨cap, fz, h2, h3, h4⟩ := HG.out.2.1
            exact ⟨cap, fz, h2.setOther ⟨gb, q, none⟩ (fun e => hne e.symm) _, h3, h4⟩
          have k2 : wb.cell? ⟨lb, lof + t, none⟩ = some (.int .i64 v) := by rw [hv]; exact (HB.out.2.2.2.cell (p := ⟨lb, lof + t, none⟩) hlb).trans q1
          subst e1
          clear hv hvI q1 hpq hsI hpY hbw
          go_wp2_with fail
          refine (HPq.out wr).mono ?_
          rintro e w' ⟨rfl, hw⟩
          have hw := hw.symm
          subst hw
          go_wp2_with fail
          rw [← hwb]
          clear hwb hc0 hf0 k1
          refine (HPY.out wb).mono ?_
          rintro e w' ⟨rfl, hw⟩
          have hw := hw.symm
          subst hw
          clear HPY
          by_cases hY0 : Y = 0
          · subst hY0
            have HN : Hid (RowZ gb N (fun j => if j = q then -1 else xb j) wb ∧ RowZ gf N yf wb ∧ (∀ i, i < N → Le1 ((fun j => if j = q then -1 else xb j) i) (yf i)) ∧ (∀ i, i < N → Le1 (yf i) ((cw i : Nat) : Int)) ∧ Below x3.heap.size x3 wb) := ⟨HB.out.1, HB.out.2.1, fun i hi => by
              dsimp only
              by_cases e : i = q
              · rw [if_pos e]; exact Or.inl rfl
              · rw [if_neg e]; exact HG.out.2.2.1 i hi, HG.out.2.2.2.1, HB.out.2.2.1⟩
            clear HB k2
            go_wp2
            go_roundw
            case rel => exact ⟨t + 1, _, _, by omega, by go_num, HN.out⟩
            case measure => simp [intOf]; omega
          · have hY1 : (0 : Int) < (Y : Int) := by omega
            have hY2 : (Y : Int) > 0 := by omega
            clear hY0
            obtain ⟨o1, hc1⟩ : ∃ o1, wb.cell? ⟨gf, q, none⟩ = some (.int .i64 o1) := ⟨_, HB.out.2.1.cell q hq⟩
            have hf1 := HB.out.2.1.free q
            have HN : Hid (RowZ gb N (fun j => if j = q then -1 else xb j) (wb.setCell ⟨gf, q, none⟩ (.int .i64 (-1))) ∧ RowZ gf N (fun j => if j = q then -1 else yf j) (wb.setCell ⟨gf, q, none⟩ (.int .i64 (-1))) ∧ (∀ i, i < N → Le1 ((fun j => if j = q then -1 else xb j) i) ((fun j => if j = q then -1 else yf j) i)) ∧ (∀ i, i < N → Le1 ((fun j => if j = q then -1 else yf j) i) ((cw i : Nat) : Int)) ∧ Below x3.heap.size x3 (wb.setCell ⟨gf, q, none⟩ (.int .i64 (-1)))) := by
              refine ⟨?_, HB.out.2.1.store q (-1) (fun j _ => rfl), fun i hi => ?_, fun i hi => ?_, HB.out.2.2.1.setCell (by show x3.heap.size ≤ gf; exact H6.out.2.2.2.1) _⟩
              · obtain ⟨cap, fz, h2, h3, h4⟩ := HB.out.1
                exact ⟨cap, fz, h2.setOther ⟨gf, q, none⟩ hne _, h3, h4⟩
              · dsimp only
                by_cases e : i = q
                · rw [if_pos e, if_pos e]; exact Or.inl rfl
                · rw [if_neg e, if_neg e]; exact HG.out.2.2.1 i hi
              · dsimp only
                by_cases e : i = q
                · rw [if_pos e]; exact Or.inl rfl
                · rw [if_neg e]; exact HG.out.2.2.2.1 i hi
            clear HB
            go_wp2_with fail
            refine (HPq.out wb).mono ?_
            rintro e w' ⟨rfl, hw⟩
            have hw := hw.symm
            subst hw
            go_wp2
            go_roundw
            case rel => exact ⟨t + 1, _, _, by omega, by go_num, HN.out⟩
            case measure => simp [intOf]; omega
        · have hib : ¬ (t : Int) < (ln : Int) := by omega
          have hcb : ∀ i, i < N → Bt ((cw i : Nat) : Int) := fun i hi => by have := H3.out.2.2.2.2 i hi; unfold Bt; omega
          have hbl : ∀ {a : Int} {i : Nat}, i < N → Le1 a ((cw i : Nat) : Int) → Btl a := fun {a i} hi h => by
            rcases h with h | h
            · exact Or.inl h
            · rw [h]; exact (hcb i hi).l
          have hxc : ∀ i, i < N → Le1 (xb i) ((cw i : Nat) : Int) := fun i hi => (HG.out.2.2.1 i hi).trans (HG.out.2.2.2.1 i hi)
          obtain ⟨lf, hlf⟩ : ∃ lf, lf = zl K fun i => ((f i : Nat) : Int) := ⟨_, rfl⟩
          obtain ⟨okb, hokb⟩ : ∃ b, b = (rdp (pfr M K) M 0 xb).isSome := ⟨_, rfl⟩
          obtain ⟨isb, hisb⟩ : ∃ b, b = (rdp (pfr M K) M 0 yf).isSome := ⟨_, rfl⟩
          have hDec : ∀ (gx cx : Nat) (x : Nat → Int) (wx : World), Prt gx 0 N x wx → N ≤ cx → cx ≤ 9223372036854775807 → (∀ i, i < N → Le1 (x i) ((cw i : Nat) : Int)) → Calls Try.prog 22 #[.int .i64 (M : Nat), .int .i64 (K : Nat), .slice (some ⟨gx, 0, none⟩) N cx] wx fun e w' => ∃ v, e = .returned (.tuple #[v, .bool (rdp (pfr M K) M 0 x).isSome, .int .i64 0]) ∧ ((rdp (pfr M K) M 0 x).isSome = true → KI v lf w') ∧ Below wx.heap.size wx w' := fun gx cx x wx h1 h2 h3 h4 => by
            rw [hlf]
            exact dec_top hM5 HX.out.1 HX.out.2.1 H3.out.2.1 h1 h2 h3 (fun i hi => by have := h4 i hi; rwa [H3.out.2.2.2.1] at this)
          have hrow : ∀ {gx : Nat} {x : Nat → Int} {wx : World}, RowZ gx N x wx → (∀ i, i < N → Le1 (x i) ((cw i : Nat) : Int)) → Prt gx 0 N x wx := fun {gx x wx} h k => ⟨h.lt', fun i hi => by rw [Nat.zero_add]; exact h.cell i hi, fun i hi => hbl hi (k i hi)⟩
          have HO : Hid (okb = true → isb = true) := fun h => by
            cases hr : rdp (pfr M K) M 0 xb with
            | none => rw [hokb, hr] at h; cases h
            | some r =>
              obtain ⟨r', hr'⟩ := told_more (m := M) H3.out.2.1 (fun i hi => HG.out.2.2.1 i (by rw [HX.out.1]; exact hi)) (fun i hi => by have := HG.out.2.2.2.1 i (by rw [HX.out.1]; exact hi); rwa [H3.out.2.2.2.1] at this) hr
              rw [hisb, hr']; rfl
          have HD1 : Hid (Calls Try.prog 22 #[.int .i64 (M : Nat), .int .i64 (K : Nat), .slice (some ⟨gb, 0, none⟩) N cb1] wr fun e w' => ∃ v, e = .returned (.tuple #[v, .bool okb, .int .i64 0]) ∧ (okb = true → KI v lf w') ∧ Below wr.heap.size wr w') := by
            rw [hokb]
            exact hDec gb cb1 xb wr (hrow HG.out.1 hxc) H5.out.2.2.2.2.1 H5.out.2.2.2.2.2 hxc
          have HD2 : Hid (∀ wx, Prt gf 0 N yf wx → Calls Try.prog 22 #[.int .i64 (M : Nat), .int .i64 (K : Nat), .slice (some ⟨gf, 0, none⟩) N cf1] wx fun e w' => ∃ v, e = .returned (.tuple #[v, .bool isb, .int .i64 0]) ∧ (isb = true → KI v lf w') ∧ Below wx.heap.size wx w') := fun wx h => by
            rw [hisb]
            exact hDec gf cf1 yf wx h H6.out.2.2.2.2.2.1 H6.out.2.2.2.2.2.2 HG.out.2.2.2.1
          have HD3 : Hid (∀ wx, Wbt g 0 N cw wx → Calls Try.prog 22 #[.int .i64 (M : Nat), .int .i64 (K : Nat), .slice (some ⟨g, 0, none⟩) N cg] wx fun e w' => ∃ v, e = .returned (.tuple #[v, .bool true, .int .i64 0]) ∧ KI v lf w' ∧ Below wx.heap.size wx w') := fun wx h => by
            have h9 := hDec g cg (fun i => ((cw i : Nat) : Int)) wx ⟨h.1, h.2.1, fun i hi => (hcb i hi).l⟩ H4.out.2.1 H4.out.2.2.1 (fun i _ => Le1.refl _)
            have hs : (rdp (pfr M K) M 0 (fun i => ((cw i : Nat) : Int))).isSome = true := by
              obtain ⟨r, hr⟩ := told_all (m := M) H3.out.2.1
              rw [H3.out.2.2.2.1, hr]; rfl
            rw [hs] at h9
            exact h9.mono fun _ _ ⟨v, he, hk, hb⟩ => ⟨v, he, hk rfl, hb⟩
          have HT : Hid (∀ (gx cx : Nat) (fx : Nat → Nat) (wx : World), Wbt gx 0 N fx wx → N ≤ cx → cx ≤ 9223372036854775807 → Calls Try.prog 13 #[.int .i64 (M : Nat), .slice (some ⟨gx, 0, none⟩) N cx] wx fun e w' => ∃ g2 c2, e = .returned (.tuple #[.slice (some ⟨g2, 0, none⟩) N c2, .int .i64 0]) ∧ Wbt g2 0 N (ptr M fx) w' ∧ N ≤ c2 ∧ c2 ≤ 9223372036854775807 ∧ Below wx.heap.size wx w') := fun gx cx fx wx h1 h2 h3 => by
            refine (trans_top hM5 HX.out.1 h1 h2 h3).mono ?_
            rintro e w' ⟨v, rfl, ho, hb⟩
            obtain ⟨g2, c2, rfl, k1, k2, k3, _⟩ := own_wbt ho HX.out.2.2.1 (fun i hi => ptr_lt M (fun j hj => h1.2.2 j (by rw [HX.out.1]; exact hj)) i (by rw [← HX.out.1]; exact hi))
            exact ⟨g2, c2, rfl, k1, k2, k3, hb⟩
          have HS : Hid (∀ (va vb : Value) (l : List Int) (wx : World), KI va l wx → KI vb l wx → Calls Try.prog 23 #[va, vb] wx fun e w' => e = .returned (.bool true) ∧ Below wx.heap.size wx w') := fun va vb l wx h1 h2 => by
            have h := same_any h1.1 h2.1
            rw [decide_eq_true rfl] at h
            refine h.mono ?_
            rintro e w' ⟨rfl, nn, rfl⟩
            exact ⟨rfl, bel_drewN (Below.refl _ _) _⟩
          have HKa : Hid (∀ wx, SL bo K (fun i => ((f i : Nat) : Int)) wx → KI (.slice bo K cb) lf wx) := fun wx h => ⟨by rw [hlf]; exact rp_slI h.1 (by have := HX.out.2.1; omega), fun i hi => by
            cases bo with
            | none => cases hi
            | some a =>
              have hi : some a.block = some i := hi
              cases hi
              exact h.2 a rfl⟩
          have HKw : Hid (∀ (gx cx : Nat) (fx : Nat → Nat) (wx : World), Wbt gx 0 N fx wx → (∀ i, i < N → fx i = cw i) → KI (.slice (some ⟨gx, 0, none⟩) N cx) (zl N fun i => ((cw i : Nat) : Int)) wx) := fun gx cx fx wx h k => ⟨by
            rw [← zl_congr (z := fun i => ((fx i : Nat) : Int)) (fun i hi => by rw [k i hi])]
            exact rp_slI h.slz (by omega), fun i hi => by
            have hi : some gx = some i := hi
            cases hi
            exact h.1⟩
          have HPP : Hid (∀ i, i < N → ptr M (ptr M cw) i = cw i) := fun i hi => ptr_ptr M (fun j hj => H3.out.2.2.2.2 j (by rw [HX.out.1]; exact hj)) i (by rw [← HX.out.1]; exact hi)
          have H7 : Hid (Below w.heap.size w wr ∧ Prt gf 0 N yf wr ∧ Wbt g 0 N cw wr ∧ SL bo K (fun i => ((f i : Nat) : Int)) wr ∧ N ≤ cg ∧ cg ≤ 9223372036854775807) := ⟨bel_up' H4.out.2.2.2.1 HG.out.2.2.2.2, hrow HG.out.2.1 HG.out.2.2.2.1, H4.out.1.below HG.out.2.2.2.2, H4.out.2.2.2.2.below HG.out.2.2.2.2, H4.out.2.1, H4.out.2.2.1⟩
          clear hcb hbl hxc hlf hokb hisb hDec hrow HG
          cases okb with
          | true =>
            cases isb with
            | true =>
              go_wp2_with fail
              refine HD1.out.mono ?_
              rintro e x6 ⟨v1, rfl, hk6, hb6⟩
              have H8 : Hid (Below w.heap.size w x6 ∧ Prt gf 0 N yf x6 ∧ Wbt g 0 N cw x6 ∧ SL bo K (fun i => ((f i : Nat) : Int)) x6 ∧ KI v1 lf x6) := ⟨bel_up' H7.out.1 hb6, H7.out.2.1.bel hb6, H7.out.2.2.1.below hb6, H7.out.2.2.2.1.below hb6, hk6 (by first | trivial | rfl)⟩
              clear hk6 hb6 HD1
              go_wp2_with fail
              refine (HD2.out x6 H8.out.2.1).mono ?_
              rintro e x7 ⟨v2, rfl, hk7, hb7⟩
              have H9 : Hid (Below w.heap.size w x7 ∧ Wbt g 0 N cw x7 ∧ SL bo K (fun i => ((f i : Nat) : Int)) x7 ∧ KI v2 lf x7 ∧ KI v1 lf x7) := ⟨bel_up' H8.out.1 hb7, H8.out.2.2.1.below hb7, H8.out.2.2.2.1.below hb7, hk7 (by first | trivial | rfl), H8.out.2.2.2.2.below hb7⟩
              clear hk7 hb7 HD2
              go_wp2_with fail
              refine (HD3.out x7 H9.out.2.1).mono ?_
              rintro e x8 ⟨v3, rfl, hk8, hb8⟩
              have HA1 : Hid (Below w.heap.size w x8 ∧ Wbt g 0 N cw x8 ∧ SL bo K (fun i => ((f i : Nat) : Int)) x8 ∧ KI v3 lf x8 ∧ KI v2 lf x8 ∧ KI v1 lf x8) := ⟨bel_up' H9.out.1 hb8, H9.out.2.1.below hb8, H9.out.2.2.1.below hb8, hk8, H9.out.2.2.2.1.below hb8, H9.out.2.2.2.2.below hb8⟩
              clear hk8 hb8 HD3
              go_wp2_with fail
              refine (HT.out g cg cw x8 HA1.out.2.1 H7.out.2.2.2.2.1 H7.out.2.2.2.2.2).mono ?_
              rintro e x9 ⟨g9, c9, rfl, hw9, hc91, hc92, hb9⟩
              have HA2 : Hid (Below w.heap.size w x9 ∧ Wbt g 0 N cw x9 ∧ SL bo K (fun i => ((f i : Nat) : Int)) x9 ∧ KI v3 lf x9 ∧ KI v2 lf x9 ∧ KI v1 lf x9 ∧ Wbt g9 0 N (ptr M cw) x9 ∧ N ≤ c9 ∧ c9 ≤ 9223372036854775807) := ⟨bel_up' HA1.out.1 hb9, HA1.out.2.1.below hb9, HA1.out.2.2.1.below hb9, HA1.out.2.2.2.1.below hb9, HA1.out.2.2.2.2.1.below hb9, HA1.out.2.2.2.2.2.below hb9, hw9, hc91, hc92⟩
              clear hw9 hc91 hc92 hb9
              go_wp2_with fail
              refine (HT.out g9 c9 (ptr M cw) x9 HA2.out.2.2.2.2.2.2.1 HA2.out.2.2.2.2.2.2.2.1 HA2.out.2.2.2.2.2.2.2.2).mono ?_
              rintro e y0 ⟨g8, c8, rfl, hw8, _, _, hb8⟩
              have HB0 : Hid (Below w.heap.size w y0 ∧ KI (.slice (some ⟨g, 0, none⟩) N cg) (zl N fun i => ((cw i : Nat) : Int)) y0 ∧ KI (.slice bo K cb) lf y0 ∧ KI v3 lf y0 ∧ KI v2 lf y0 ∧ KI v1 lf y0 ∧ KI (.slice (some ⟨g8, 0, none⟩) N c8) (zl N fun i => ((cw i : Nat) : Int)) y0) := ⟨bel_up' HA2.out.1 hb8, HKw.out g cg cw y0 (HA2.out.2.1.below hb8) (fun _ _ => rfl), HKa.out y0 (HA2.out.2.2.1.below hb8), HA2.out.2.2.2.1.below hb8, HA2.out.2.2.2.2.1.below hb8, HA2.out.2.2.2.2.2.1.below hb8, HKw.out g8 c8 _ y0 hw8 HPP.out⟩
              clear hw8 hb8 HT HKa HKw HPP
              go_wp2_with fail
              refine (HS.out _ _ _ y0 HB0.out.2.2.2.1 HB0.out.2.2.1).mono ?_
              rintro e y1 ⟨rfl, hb⟩
              have HB1 : Hid (Below w.heap.size w y1 ∧ KI (.slice (some ⟨g, 0, none⟩) N cg) (zl N fun i => ((cw i : Nat) : Int)) y1 ∧ KI (.slice bo K cb) lf y1 ∧ KI v3 lf y1 ∧ KI v2 lf y1 ∧ KI v1 lf y1 ∧ KI (.slice (some ⟨g8, 0, none⟩) N c8) (zl N fun i => ((cw i : Nat) : Int)) y1) := ⟨bel_up' HB0.out.1 hb, HB0.out.2.1.below hb, HB0.out.2.2.1.below hb, HB0.out.2.2.2.1.below hb, HB0.out.2.2.2.2.1.below hb, HB0.out.2.2.2.2.2.1.below hb, HB0.out.2.2.2.2.2.2.below hb⟩
              clear hb
              go_wp2_with fail
              refine (HS.out _ _ _ y1 HB1.out.2.2.2.2.2.1 HB1.out.2.2.1).mono ?_
              rintro e y2 ⟨rfl, hb⟩
              have HB2 : Hid (Below w.heap.size w y2 ∧ KI (.slice (some ⟨g, 0, none⟩) N cg) (zl N fun i => ((cw i : Nat) : Int)) y2 ∧ KI (.slice bo K cb) lf y2 ∧ KI v3 lf y2 ∧ KI v2 lf y2 ∧ KI v1 lf y2 ∧ KI (.slice (some ⟨g8, 0, none⟩) N c8) (zl N fun i => ((cw i : Nat) : Int)) y2) := ⟨bel_up' HB1.out.1 hb, HB1.out.2.1.below hb, HB1.out.2.2.1.below hb, HB1.out.2.2.2.1.below hb, HB1.out.2.2.2.2.1.below hb, HB1.out.2.2.2.2.2.1.below hb, HB1.out.2.2.2.2.2.2.below hb⟩
              clear hb
              go_wp2_with fail
              refine (HS.out _ _ _ y2 HB2.out.2.2.2.2.1 HB2.out.2.2.1).mono ?_
              rintro e y3 ⟨rfl, hb⟩
              have HB3 : Hid (Below w.heap.size w y3 ∧ KI (.slice (some ⟨g, 0, none⟩) N cg) (zl N fun i => ((cw i : Nat) : Int)) y3 ∧ KI (.slice bo K cb) lf y3 ∧ KI v3 lf y3 ∧ KI v2 lf y3 ∧ KI v1 lf y3 ∧ KI (.slice (some ⟨g8, 0, none⟩) N c8) (zl N fun i => ((cw i : Nat) : Int)) y3) := ⟨bel_up' HB2.out.1 hb, HB2.out.2.1.below hb, HB2.out.2.2.1.below hb, HB2.out.2.2.2.1.below hb, HB2.out.2.2.2.2.1.below hb, HB2.out.2.2.2.2.2.1.below hb, HB2.out.2.2.2.2.2.2.below hb⟩
              clear hb
              go_wp2_with fail
              refine (HS.out _ _ _ y3 HB3.out.2.2.2.2.2.2 HB3.out.2.1).mono ?_
              rintro e y4 ⟨rfl, hb⟩
              have HB4 : Hid (Below w.heap.size w y4 ∧ KI (.slice (some ⟨g, 0, none⟩) N cg) (zl N fun i => ((cw i : Nat) : Int)) y4 ∧ KI (.slice bo K cb) lf y4 ∧ KI v3 lf y4 ∧ KI v2 lf y4 ∧ KI v1 lf y4 ∧ KI (.slice (some ⟨g8, 0, none⟩) N c8) (zl N fun i => ((cw i : Nat) : Int)) y4) := ⟨bel_up' HB3.out.1 hb, HB3.out.2.1.below hb, HB3.out.2.2.1.below hb, HB3.out.2.2.2.1.below hb, HB3.out.2.2.2.2.1.below hb, HB3.out.2.2.2.2.2.1.below hb, HB3.out.2.2.2.2.2.2.below hb⟩
              clear hb
              go_wp2
              go_ret
              exact ⟨rfl, HB4.out.1⟩
            | false => exact absurd (HO.out rfl) (by intro e; cases e)
          | false =>
            cases isb with
            | true =>
              go_wp2_with fail
              refine HD1.out.mono ?_
              rintro e x6 ⟨v1, rfl, hk6, hb6⟩
              have H8 : Hid (Below w.heap.size w x6 ∧ Prt gf 0 N yf x6 ∧ Wbt g 0 N cw x6 ∧ SL bo K (fun i => ((f i : Nat) : Int)) x6) := ⟨bel_up' H7.out.1 hb6, H7.out.2.1.bel hb6, H7.out.2.2.1.below hb6, H7.out.2.2.2.1.below hb6⟩
              clear hk6 hb6 HD1
              go_wp2_with fail
              refine (HD2.out x6 H8.out.2.1).mono ?_
              rintro e x7 ⟨v2, rfl, hk7, hb7⟩
              have H9 : Hid (Below w.heap.size w x7 ∧ Wbt g 0 N cw x7 ∧ SL bo K (fun i => ((f i : Nat) : Int)) x7 ∧ KI v2 lf x7) := ⟨bel_up' H8.out.1 hb7, H8.out.2.2.1.below hb7, H8.out.2.2.2.below hb7, hk7 (by first | trivial | rfl)⟩
              clear hk7 hb7 HD2
              go_wp2_with fail
              refine (HD3.out x7 H9.out.2.1).mono ?_
              rintro e x8 ⟨v3, rfl, hk8, hb8⟩
              have HA1 : Hid (Below w.heap.size w x8 ∧ Wbt g 0 N cw x8 ∧ SL bo K (fun i => ((f i : Nat) : Int)) x8 ∧ KI v3 lf x8 ∧ KI v2 lf x8) := ⟨bel_up' H9.out.1 hb8, H9.out.2.1.below hb8, H9.out.2.2.1.below hb8, hk8, H9.out.2.2.2.below hb8⟩
              clear hk8 hb8 HD3
              go_wp2_with fail
              refine (HT.out g cg cw x8 HA1.out.2.1 H7.out.2.2.2.2.1 H7.out.2.2.2.2.2).mono ?_
              rintro e x9 ⟨g9, c9, rfl, hw9, hc91, hc92, hb9⟩
              have HA2 : Hid (Below w.heap.size w x9 ∧ Wbt g 0 N cw x9 ∧ SL bo K (fun i => ((f i : Nat) : Int)) x9 ∧ KI v3 lf x9 ∧ KI v2 lf x9 ∧ Wbt g9 0 N (ptr M cw) x9 ∧ N ≤ c9 ∧ c9 ≤ 9223372036854775807) := ⟨bel_up' HA1.out.1 hb9, HA1.out.2.1.below hb9, HA1.out.2.2.1.below hb9, HA1.out.2.2.2.1.below hb9, HA1.out.2.2.2.2.below hb9, hw9, hc91, hc92⟩
              clear hw9 hc91 hc92 hb9
              go_wp2_with fail
              refine (HT.out g9 c9 (ptr M cw) x9 HA2.out.2.2.2.2.2.1 HA2.out.2.2.2.2.2.2.1 HA2.out.2.2.2.2.2.2.2).mono ?_
              rintro e y0 ⟨g8, c8, rfl, hw8, _, _, hb8⟩
              have HB0 : Hid (Below w.heap.size w y0 ∧ KI (.slice (some ⟨g, 0, none⟩) N cg) (zl N fun i => ((cw i : Nat) : Int)) y0 ∧ KI (.slice bo K cb) lf y0 ∧ KI v3 lf y0 ∧ KI v2 lf y0 ∧ KI (.slice (some ⟨g8, 0, none⟩) N c8) (zl N fun i => ((cw i : Nat) : Int)) y0) := ⟨bel_up' HA2.out.1 hb8, HKw.out g cg cw y0 (HA2.out.2.1.below hb8) (fun _ _ => rfl), HKa.out y0 (HA2.out.2.2.1.below hb8), HA2.out.2.2.2.1.below hb8, HA2.out.2.2.2.2.1.below hb8, HKw.out g8 c8 _ y0 hw8 HPP.out⟩
              clear hw8 hb8 HT HKa HKw HPP
              go_wp2_with fail
              refine (HS.out _ _ _ y0 HB0.out.2.2.2.1 HB0.out.2.2.1).mono ?_
              rintro e y1 ⟨rfl, hb⟩
              have HB1 : Hid (Below w.heap.size w y1 ∧ KI (.slice (some ⟨g, 0, none⟩) N cg) (zl N fun i => ((cw i : Nat) : Int)) y1 ∧ KI (.slice bo K cb) lf y1 ∧ KI v3 lf y1 ∧ KI v2 lf y1 ∧ KI (.slice (some ⟨g8, 0, none⟩) N c8) (zl N fun i => ((cw i : Nat) : Int)) y1) := ⟨bel_up' HB0.out.1 hb, HB0.out.2.1.below hb, HB0.out.2.2.1.below hb, HB0.out.2.2.2.1.below hb, HB0.out.2.2.2.2.1.below hb, HB0.out.2.2.2.2.2.below hb⟩
              clear hb
              go_wp2_with fail
              refine (HS.out _ _ _ y1 HB1.out.2.2.2.2.1 HB1.out.2.2.1).mono ?_
              rintro e y2 ⟨rfl, hb⟩
              have HB2 : Hid (Below w.heap.size w y2 ∧ KI (.slice (some ⟨g, 0, none⟩) N cg) (zl N fun i => ((cw i : Nat) : Int)) y2 ∧ KI (.slice bo K cb) lf y2 ∧ KI v3 lf y2 ∧ KI v2 lf y2 ∧ KI (.slice (some ⟨g8, 0, none⟩) N c8) (zl N fun i => ((cw i : Nat) : Int)) y2) := ⟨bel_up' HB1.out.1 hb, HB1.out.2.1.below hb, HB1.out.2.2.1.below hb, HB1.out.2.2.2.1.below hb, HB1.out.2.2.2.2.1.below hb, HB1.out.2.2.2.2.2.below hb⟩
              clear hb
              go_wp2_with fail
              refine (HS.out _ _ _ y2 HB2.out.2.2.2.2.2 HB2.out.2.1).mono ?_
              rintro e y3 ⟨rfl, hb⟩
              have HB3 : Hid (Below w.heap.size w y3 ∧ KI (.slice (some ⟨g, 0, none⟩) N cg) (zl N fun i => ((cw i : Nat) : Int)) y3 ∧ KI (.slice bo K cb) lf y3 ∧ KI v3 lf y3 ∧ KI v2 lf y3 ∧ KI (.slice (some ⟨g8, 0, none⟩) N c8) (zl N fun i => ((cw i : Nat) : Int)) y3) := ⟨bel_up' HB2.out.1 hb, HB2.out.2.1.below hb, HB2.out.2.2.1.below hb, HB2.out.2.2.2.1.below hb, HB2.out.2.2.2.2.1.below hb, HB2.out.2.2.2.2.2.below hb⟩
              clear hb
              go_wp2
              go_ret
              exact ⟨rfl, HB3.out.1⟩
            | false =>
              go_wp2_with fail
              refine HD1.out.mono ?_
              rintro e x6 ⟨v1, rfl, hk6, hb6⟩
              have H8 : Hid (Below w.heap.size w x6 ∧ Prt gf 0 N yf x6 ∧ Wbt g 0 N cw x6 ∧ SL bo K (fun i => ((f i : Nat) : Int)) x6) := ⟨bel_up' H7.out.1 hb6, H7.out.2.1.bel hb6, H7.out.2.2.1.below hb6, H7.out.2.2.2.1.below hb6⟩
              clear hk6 hb6 HD1
              go_wp2_with fail
              refine (HD2.out x6 H8.out.2.1).mono ?_
              rintro e x7 ⟨v2, rfl, hk7, hb7⟩
              have H9 : Hid (Below w.heap.size w x7 ∧ Wbt g 0 N cw x7 ∧ SL bo K (fun i => ((f i : Nat) : Int)) x7) := ⟨bel_up' H8.out.1 hb7, H8.out.2.2.1.below hb7, H8.out.2.2.2.below hb7⟩
              clear hk7 hb7 HD2
              go_wp2_with fail
              refine (HD3.out x7 H9.out.2.1).mono ?_
              rintro e x8 ⟨v3, rfl, hk8, hb8⟩
              have HA1 : Hid (Below w.heap.size w x8 ∧ Wbt g 0 N cw x8 ∧ SL bo K (fun i => ((f i : Nat) : Int)) x8 ∧ KI v3 lf x8) := ⟨bel_up' H9.out.1 hb8, H9.out.2.1.below hb8, H9.out.2.2.below hb8, hk8⟩
              clear hk8 hb8 HD3
              go_wp2_with fail
              refine (HT.out g cg cw x8 HA1.out.2.1 H7.out.2.2.2.2.1 H7.out.2.2.2.2.2).mono ?_
              rintro e x9 ⟨g9, c9, rfl, hw9, hc91, hc92, hb9⟩
              have HA2 : Hid (Below w.heap.size w x9 ∧ Wbt g 0 N cw x9 ∧ SL bo K (fun i => ((f i : Nat) : Int)) x9 ∧ KI v3 lf x9 ∧ Wbt g9 0 N (ptr M cw) x9 ∧ N ≤ c9 ∧ c9 ≤ 9223372036854775807) := ⟨bel_up' HA1.out.1 hb9, HA1.out.2.1.below hb9, HA1.out.2.2.1.below hb9, HA1.out.2.2.2.below hb9, hw9, hc91, hc92⟩
              clear hw9 hc91 hc92 hb9
              go_wp2_with fail
              refine (HT.out g9 c9 (ptr M cw) x9 HA2.out.2.2.2.2.1 HA2.out.2.2.2.2.2.1 HA2.out.2.2.2.2.2.2).mono ?_
              rintro e y0 ⟨g8, c8, rfl, hw8, _, _, hb8⟩
              have HB0 : Hid (Below w.heap.size w y0 ∧ KI (.slice (some ⟨g, 0, none⟩) N cg) (zl N fun i => ((cw i : Nat) : Int)) y0 ∧ KI (.slice bo K cb) lf y0 ∧ KI v3 lf y0 ∧ KI (.slice (some ⟨g8, 0, none⟩) N c8) (zl N fun i => ((cw i : Nat) : Int)) y0) := ⟨bel_up' HA2.out.1 hb8, HKw.out g cg cw y0 (HA2.out.2.1.below hb8) (fun _ _ => rfl), HKa.out y0 (HA2.out.2.2.1.below hb8), HA2.out.2.2.2.1.below hb8, HKw.out g8 c8 _ y0 hw8 HPP.out⟩
              clear hw8 hb8 HT HKa HKw HPP
              go_wp2_with fail
              refine (HS.out _ _ _ y0 HB0.out.2.2.2.1 HB0.out.2.2.1).mono ?_
              rintro e y1 ⟨rfl, hb⟩
              have HB1 : Hid (Below w.heap.size w y1 ∧ KI (.slice (some ⟨g, 0, none⟩) N cg) (zl N fun i => ((cw i : Nat) : Int)) y1 ∧ KI (.slice bo K cb) lf y1 ∧ KI v3 lf y1 ∧ KI (.slice (some ⟨g8, 0, none⟩) N c8) (zl N fun i => ((cw i : Nat) : Int)) y1) := ⟨bel_up' HB0.out.1 hb, HB0.out.2.1.below hb, HB0.out.2.2.1.below hb, HB0.out.2.2.2.1.below hb, HB0.out.2.2.2.2.below hb⟩
              clear hb
              go_wp2_with fail
              refine (HS.out _ _ _ y1 HB1.out.2.2.2.2 HB1.out.2.1).mono ?_
              rintro e y2 ⟨rfl, hb⟩
              have HB2 : Hid (Below w.heap.size w y2 ∧ KI (.slice (some ⟨g, 0, none⟩) N cg) (zl N fun i => ((cw i : Nat) : Int)) y2 ∧ KI (.slice bo K cb) lf y2 ∧ KI v3 lf y2 ∧ KI (.slice (some ⟨g8, 0, none⟩) N c8) (zl N fun i => ((cw i : Nat) : Int)) y2) := ⟨bel_up' HB1.out.1 hb, HB1.out.2.1.below hb, HB1.out.2.2.1.below hb, HB1.out.2.2.2.1.below hb, HB1.out.2.2.2.2.below hb⟩
              clear hb
              go_wp2
              go_ret
              exact ⟨rfl, HB2.out.1⟩
end Go.Proofs.Ytbfkacnpbelmlaa
