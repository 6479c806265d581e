/- Trellises: the reference's Spoken. -/
import Derived.Test.YtlljaliemldjkaaZKV22
namespace Go.Proofs.Ytlljaliemldjkaa
open Go.RowKit Go.Sort

set_option maxHeartbeats 16000000 in
set_option maxRecDepth 100000 in
theorem rspoken_any {ao so : Option Addr} {R ca l sc n a b : Nat} {z : Nat → Nat} {y : Nat → Int} {w : World} (hX : RlA ao R z w) (hY : SlZ so l y w) (hYl : LtB so w.heap.size) (hl : l = R * (n + mmr z R)) (hl24 : l ≤ 24) (hn : n ≤ 11) (hab : a ≤ b) (hb4 : b ≤ 4) :
    Calls Try.prog 33 #[.slice ao R ca, .slice so l sc, .int .i64 (n : Nat), .int .i64 (a : Nat), .int .i64 (b : Nat)] w fun e w' => ∃ v, e = .returned (.tuple #[v, .int .i64 (shE z R y a b n (mmr z R) 0 : Nat)]) ∧ OwnI w.heap.size v (zl n fun j => ((shE z R y a b n (mmr z R) (1 + j) : Nat) : Int)) w' ∧ Below w.heap.size w w' := by
  have HSg : Hid (∀ (g k : Nat) (wx : World), Below w.heap.size w wx → Row g n (dgs 2 n k) wx → Calls Try.prog 8 #[.slice ao R ca, .slice (some ⟨g, 0, none⟩) n n] wx fun e w' => ∃ bo cb, e = .returned (.slice bo l cb) ∧ SlZ bo l (fun i => ((sgn' z R (dgs 2 n k) n i : Nat) : Int)) w' ∧ Below wx.heap.size wx w') := fun g k wx hb hrow => by
    refine (rsigns_any (cb := n) (hX.below hb) (m := dgs 2 n k) ⟨(hrow.sl (Nat.le_refl _)).z, fun p hp => by cases hp; exact hrow.lt, fun i _ => dgs_le1 n k i⟩ (by omega)).mono ?_
    rintro e w' ⟨v, rfl, ho, hb'⟩
    rw [← hl] at ho
    obtain ⟨bo, cb, rfl, hs, _⟩ := OwnI.slz ho
    exact ⟨bo, cb, rfl, hs, hb'⟩
  obtain ⟨f, hf⟩ : ∃ f : Nat → Nat, f = fun k => prN (spc z R y a b (dgs 2 n k) n) l := ⟨_, rfl⟩
  have hfc : ∀ u, cpt z R y a b n (mmr z R) u = f u := fun u => by unfold cpt; rw [cpp_prN, ← hl, hf]
  have HP : Hid (∀ k i, i ≤ l → prN (spc z R y a b (dgs 2 n k) n) i ≤ 281474976710656) := fun k i hi => Nat.le_trans (prN_le (fun j => spc_le hab hb4 j) i) (Nat.le_trans (Nat.pow_le_pow_right (n := 4) (by omega) (show i ≤ 24 by omega)) (by decide))
  have HFk : Hid (∀ k, f k = prN (spc z R y a b (dgs 2 n k) n) l) := fun k => by rw [hf]
  obtain ⟨N, hN⟩ : ∃ N, N = 2 ^ n := ⟨_, rfl⟩
  have hN0 : 0 < N := by rw [hN]; exact Nat.pow_pos (by omega)
  have hN2 : N ≤ 2048 := by rw [hN]; exact Nat.le_trans (Nat.pow_le_pow_right (n := 2) (by omega) hn) (by decide)
  have HN : Hid (N = 2 ^ n) := hN
  have HSm : Hid (∀ k, k ≤ N → smN f k ≤ 576460752303423488) := fun k hk => Nat.le_trans (smN_le (C := 281474976710656) k (fun u _ => by rw [HFk.out u]; exact HP.out u l (Nat.le_refl _))) (by omega)
  have HSj : Hid (∀ k j, k ≤ N → smN (fun u => f u * dgs 2 n u j) k ≤ 576460752303423488) := fun k j hk => Nat.le_trans (smN_le (C := 281474976710656) k (fun u _ => by
    have h1 : f u ≤ 281474976710656 := by rw [HFk.out u]; exact HP.out u l (Nat.le_refl _)
    have h2 := Nat.mul_le_mul h1 (dgs_le1 n u j)
    rw [Nat.mul_one] at h2; exact h2)) (by omega)
  have HE0 : Hid (shE z R y a b n (mmr z R) 0 = smN f N ∧ zl n (fun j => ((shE z R y a b n (mmr z R) (1 + j) : Nat) : Int)) = zl n (fun j => ((smN (fun u => f u * dgs 2 n u j) N : Nat) : Int))) := by
    refine ⟨?_, zl_congr fun j hj => ?_⟩
    · rw [shE_all, hN]; exact smN_congr _ fun u _ => hfc u
    · rw [shE_one hj, hN, smN_congr (g := fun u => f u * dgs 2 n u j) _ fun u _ => by rw [hfc u]]
  rw [HE0.out.1, HE0.out.2]
  obtain ⟨ba, hba⟩ : ∃ ba, ba = b - a := ⟨_, rfl⟩
  have hbw : IntKind.i64.wrap ((b : Int) - (a : Int)) = (ba : Int) := by rw [show (b : Int) - (a : Int) = (ba : Int) by omega]; exact wrap_to (by omega) (by omega)
  have HBa : Hid (ba = b - a) := hba
  have HY : Hid (SlZ so l y w ∧ LtB so w.heap.size) := ⟨hY, hYl⟩
  clear hX hY hYl hl hf hfc hN hba HE0 hab
  go_enter Try.func33, Try.ntmps33
  go_upto_region 3 with (at_make; refine make_int rfl _ _ rfl _ n rfl rfl (by omega) (by omega) ?_; intro w0 hown0 hgrow0)
  have hz1 := rowE_zeros hown0
  have hb1 : Below w.heap.size w w0 := below_grown hgrow0 (Nat.le_refl _) (fun k hk => by simp at hk)
  obtain ⟨g1, hg1⟩ : ∃ g1, g1 = w.heap.size := ⟨_, rfl⟩
  rw [← hg1] at hz1
  rw [← hg1]
  have H1 : Hid (RowE g1 n (fun _ => 0) w0 ∧ Below w.heap.size w w0 ∧ g1 = w.heap.size) := ⟨hz1, hb1, hg1⟩
  clear hown0 hgrow0 hz1 hb1 hg1
  go_wp2_with (at_make; refine make_int rfl _ _ rfl _ n rfl rfl (by omega) (by omega) ?_; intro w1 hown1 hgrow1)
  obtain ⟨g, hg⟩ : ∃ g, g = w0.heap.size := ⟨_, rfl⟩
  have hb2 : Below w0.heap.size w0 w1 := below_grown hgrow1 (Nat.le_refl _) (fun k hk => by simp at hk)
  have H2 : Hid (RowE g1 n (fun _ => 0) w1 ∧ Row g n (dgs 2 n 0) w1 ∧ Below w.heap.size w w1 ∧ g1 < g ∧ w.heap.size ≤ g1) := by
    have h1 := RowF.lt H1.out.1
    exact ⟨RowF.below H1.out.1 hb2 h1, by rw [hg]; exact (row_zeros hown1).congr (fun j _ => dgs_zero.symm), bel_up' H1.out.2.1 hb2, by omega, by rw [H1.out.2.2]; exact Nat.le_refl _⟩
  rw [← hg]
  clear hown1 hgrow1 hb2 hg H1
  have HGG : Hid (g1 < g ∧ w.heap.size ≤ g1) := H2.out.2.2.2
  go_loopg [13, 15] N (fun gk va vm wr => ∃ (k A : Nat) (mb : Bool), k + gk = N ∧ va = .int .i64 (A : Nat) ∧ vm = .bool mb ∧ Hid (A = smN f k ∧ mb = decide (0 < gk) ∧ (0 < gk → Row g n (dgs 2 n k) wr) ∧ RowE g1 n (fun j => ((smN (fun u => f u * dgs 2 n u j) k : Nat) : Int)) wr ∧ Below w.heap.size w wr))
  case atStart => exact ⟨0, 0, true, by omega, rfl, rfl, rfl, by rw [decide_eq_true hN0], fun _ => H2.out.2.1, H2.out.1, H2.out.2.2.1⟩
  case round =>
    obtain ⟨k, A, mb, hkN, rfl, rfl, HG⟩ := hrel
    rename World => wr
    by_cases hgk : 0 < gk
    · have hmb : mb = true := by rw [HG.out.2.1, decide_eq_true hgk]
      subst hmb
      have hk2 : k < 2 ^ n := by rw [← HN.out]; omega
      have HNt : Hid (∀ wx, Row g n (dgs 2 n k) wx → Calls Try.prog 50 #[.slice (some ⟨g, 0, none⟩) n n, .int .i64 2] wx fun e w' => ∃ mb', e = .returned (.bool mb') ∧ wx.grownBy w' (some g) ∧ mb' = decide (0 < gk - 1) ∧ (0 < gk - 1 → Row g n (dgs 2 n (k + 1)) w')) := fun wx hrow => by
        refine (rnext_any FTw_in (dgm_mn (fld FTw_in) n k) (by omega) (hrow.congr (fun j hj => (dgm_lo hj).symm))).mono ?_
        rintro e w' ⟨hgr, ⟨rfl, c', hr', hmn, haf⟩ | ⟨rfl, hl, _⟩⟩
        · have h := dgs_next (fld FTw_in) hk2 hmn haf
          have h1 : k + 1 < 2 ^ n := h.1
          rw [← HN.out] at h1
          exact ⟨true, rfl, hgr, by rw [decide_eq_true (by omega)], fun _ => hr'.congr h.2⟩
        · have h : k + 1 = 2 ^ n := dgs_last (fld FTw_in) hk2 hl
          rw [← HN.out] at h
          exact ⟨false, rfl, hgr, by rw [decide_eq_false (by omega)], fun h2 => absurd h2 (by omega)⟩
      clear hk2
      go_wp2_with fail
      refine (HSg.out g k wr HG.out.2.2.2.2 (HG.out.2.2.1 hgk)).mono ?_
      rintro e w3 ⟨bo, cb, rfl, hs3, hb3⟩
      have H3 : Hid (SlZ bo l (fun i => ((sgn' z R (dgs 2 n k) n i : Nat) : Int)) w3 ∧ SlZ so l y w3 ∧ Row g n (dgs 2 n k) w3 ∧ RowE g1 n (fun j => ((smN (fun u => f u * dgs 2 n u j) k : Nat) : Int)) w3 ∧ Below w.heap.size w w3) := ⟨hs3, (HY.out.1.below HG.out.2.2.2.2 HY.out.2).below hb3 (HY.out.2.mono HG.out.2.2.2.2.size), (HG.out.2.2.1 hgk).below hb3 (HG.out.2.2.1 hgk).lt, RowF.below HG.out.2.2.2.1 hb3 (RowF.lt HG.out.2.2.2.1), bel_up' HG.out.2.2.2.2 hb3⟩
      clear hs3 hb3
      go_wp2
      go_loopw [17, 18] (fun vt vi wx => ∃ t i : Nat, vt = .int .i64 (t : Nat) ∧ vi = .int .i64 (i : Nat) ∧ i ≤ l ∧ t ≤ 281474976710656 ∧ Hid (t = prN (spc z R y a b (dgs 2 n k) n) i ∧ ∃ d, wx = w3.drewN d)) (fun _ vi _ => l - (intOf vi).toNat)
      case atStart => exact ⟨1, 0, rfl, rfl, by omega, by omega, rfl, 0, rfl⟩
      case round =>
        obtain ⟨t, i, rfl, rfl, hi, ht, HI⟩ := hrel
        rename World => wx
        by_cases hil : i < l
        · have hib : (i : Int) < (l : Int) := by omega
          have hib0 : (0 : Int) ≤ (i : Int) := by omega
          obtain ⟨ba1, oa1, hao, hca⟩ := H3.out.1 i hil
          obtain ⟨bb1, ob1, hbo, hcb⟩ := H3.out.2.1 i hil
          obtain ⟨x, hx⟩ : ∃ x : Int, x = ((sgn' z R (dgs 2 n k) n i : Nat) : Int) := ⟨_, rfl⟩
          obtain ⟨yy, hyy⟩ : ∃ yy, yy = y i := ⟨_, rfl⟩
          replace hca : wx.cell? ⟨ba1, oa1 + i, none⟩ = some (.int .i64 x) := by obtain ⟨d, hd⟩ := HI.out.2; rw [hd, hx]; exact hca
          replace hcb : wx.cell? ⟨bb1, ob1 + i, none⟩ = some (.int .i64 yy) := by obtain ⟨d, hd⟩ := HI.out.2; rw [hd, hyy]; exact hcb
          have HW : Hid (∀ e, Hid (∃ e', wx.drewN e = w3.drewN e')) := fun e => by
            obtain ⟨d, hd⟩ := HI.out.2
            exact ⟨_, by rw [hd, World.drewN_drewN]⟩
          subst hao
          subst hbo
          by_cases hxy : x = yy
          · have zxy : (x == yy) = true := by rw [hxy]; simp
            obtain ⟨t2, ht2⟩ : ∃ t2, t2 = t * ba := ⟨_, rfl⟩
            have HT : Hid (t2 = prN (spc z R y a b (dgs 2 n k) n) (i + 1)) := by
              show t2 = prN (spc z R y a b (dgs 2 n k) n) i * spc z R y a b (dgs 2 n k) n i
              unfold spc at *
              rw [← HI.out.1, ht2, if_pos (by rw [← hx, ← hyy, hxy]), HBa.out]
            have ht64 : t2 ≤ 281474976710656 := by rw [HT.out]; exact HP.out k (i + 1) hil
            have hzt : (t : Int) * (ba : Int) = (t2 : Int) := by rw [ht2]; exact (Int.natCast_mul t ba).symm
            have hwt : IntKind.i64.wrap (t2 : Int) = (t2 : Int) := by rw [IntWalk.i64_left]; exact IntWalk.wrap64_in _ ⟨by omega, by omega⟩
            clear hx hyy hxy ht2
            go_wp2
            go_quiet (fail)
            go_wp2
            go_roundw
            case rel => exact ⟨t2, i + 1, by first | rfl | go_num, by go_num, by omega, ht64, HT.out, (HW.out _).out⟩
            case measure => simp [intOf]; omega
          · have zxy : (x == yy) = false := beq_eq_false_iff_ne.2 hxy
            obtain ⟨t2, ht2⟩ : ∃ t2, t2 = t * a := ⟨_, rfl⟩
            have HT : Hid (t2 = prN (spc z R y a b (dgs 2 n k) n) (i + 1)) := by
              show t2 = prN (spc z R y a b (dgs 2 n k) n) i * spc z R y a b (dgs 2 n k) n i
              unfold spc at *
              rw [← HI.out.1, ht2, if_neg (by rw [← hx, ← hyy]; exact hxy)]
            have ht64 : t2 ≤ 281474976710656 := by rw [HT.out]; exact HP.out k (i + 1) hil
            have hzt : (t : Int) * (a : Int) = (t2 : Int) := by rw [ht2]; exact (Int.natCast_mul t a).symm
            have hwt : IntKind.i64.wrap (t2 : Int) = (t2 : Int) := by rw [IntWalk.i64_left]; exact IntWalk.wrap64_in _ ⟨by omega, by omega⟩
            clear hx hyy hxy ht2
            go_wp2
            go_quiet (fail)
            go_wp2
            go_roundw
            case rel => exact ⟨t2, i + 1, by first | rfl | go_num, by go_num, by omega, ht64, HT.out, (HW.out _).out⟩
            case measure => simp [intOf]; omega
        · have hib : ¬ (i : Int) < (l : Int) := by omega
          have hie : i = l := by omega
          have HTf : Hid (t = f k) := by show t = f k; rw [HI.out.1, HFk.out, hie]
          have H4 : Hid (Row g n (dgs 2 n k) wx ∧ RowE g1 n (fun j => ((smN (fun u => f u * dgs 2 n u j) k : Nat) : Int)) wx ∧ Below w.heap.size w wx) := by
            obtain ⟨d, hd⟩ := HI.out.2
            rw [hd]
            exact ⟨H3.out.2.2.1.drewN d, RowF.drewN H3.out.2.2.2.1 d, below_drewN2 H3.out.2.2.2.2 d⟩
          obtain ⟨A2, hA2⟩ : ∃ A2, A2 = A + t := ⟨_, rfl⟩
          have HA2 : Hid (A2 = smN f (k + 1)) := by show A2 = smN f k + f k; rw [hA2, HG.out.1, HTf.out]
          have hA64 : A2 ≤ 576460752303423488 := by rw [HA2.out]; exact HSm.out (k + 1) (by omega)
          have hAz : (A : Int) + (t : Int) = (A2 : Int) := by omega
          have hAw : IntKind.i64.wrap (A2 : Int) = (A2 : Int) := by rw [IntWalk.i64_left]; exact IntWalk.wrap64_in _ ⟨by omega, by omega⟩
          clear hie hA2
          go_wp2
          go_loopw [19] (fun vi wv => ∃ i : Nat, vi = .int .i64 (i : Nat) ∧ i ≤ n ∧ Hid (Row g n (dgs 2 n k) wv ∧ RowE g1 n (fun j => ((smN (fun u => f u * dgs 2 n u j) (if j < i then k + 1 else k) : Nat) : Int)) wv ∧ Below w.heap.size w wv)) (fun vi _ => n - (intOf vi).toNat)
          case atStart => exact ⟨0, rfl, by omega, H4.out⟩
          case round =>
            obtain ⟨q, rfl, hq, HV⟩ := hrel
            rename World => wv
            by_cases hqn : q < n
            · have hqb : (q : Int) < (n : Int) := by omega
              have hqb0 : (0 : Int) ≤ (q : Int) := by omega
              obtain ⟨o, ho⟩ : ∃ o, o = smN (fun u => f u * dgs 2 n u q) k := ⟨_, rfl⟩
              obtain ⟨m, hm⟩ : ∃ m, m = dgs 2 n k q := ⟨_, rfl⟩
              obtain ⟨tm, htm⟩ : ∃ tm, tm = t * m := ⟨_, rfl⟩
              obtain ⟨o2, ho2⟩ : ∃ o2, o2 = o + tm := ⟨_, rfl⟩
              have HO2 : Hid (o2 = smN (fun u => f u * dgs 2 n u q) (k + 1)) := by
                show o2 = smN (fun u => f u * dgs 2 n u q) k + f k * dgs 2 n k q
                rw [ho2, ho, htm, hm, HTf.out]
              have ho64 : o2 ≤ 576460752303423488 := by rw [HO2.out]; exact HSj.out (k + 1) q (by omega)
              have c1 : wv.cell? ⟨g1, q, none⟩ = some (.int .i64 (o : Nat)) := by
                have h : wv.cell? ⟨g1, q, none⟩ = some (.int .i64 ((smN (fun u => f u * dgs 2 n u q) (if q < q then k + 1 else k) : Nat) : Int)) := RowF.cell HV.out.2.1 q hqn
                rw [if_neg (by omega)] at h
                rw [ho]; exact h
              have c2 : wv.cell? ⟨g, q, none⟩ = some (.int .i64 (m : Nat)) := by rw [hm]; exact HV.out.1.cell q hqn
              have cf := RowF.free HV.out.2.1 q
              have hz1 : (t : Int) * (m : Int) = (tm : Int) := by rw [htm]; exact (Int.natCast_mul t m).symm
              have hw1 : IntKind.i64.wrap (tm : Int) = (tm : Int) := by rw [IntWalk.i64_left]; exact IntWalk.wrap64_in _ ⟨by omega, by omega⟩
              have hz2 : (o : Int) + (tm : Int) = (o2 : Int) := by omega
              have hw2 : IntKind.i64.wrap (o2 : Int) = (o2 : Int) := by rw [IntWalk.i64_left]; exact IntWalk.wrap64_in _ ⟨by omega, by omega⟩
              clear ho hm htm ho2
              go_wp2
              refine quiet_tail 14 (by kernel_rfl) (by kernel_rfl) ?_
              simp only [List.take_succ_cons, List.take_zero, List.drop_succ_cons, List.drop_zero]
              repeat (go_big_quiet_step (fail))
              refine wpQuiet_nil ?_
              intro wq hw'
              obtain ⟨nq, hwq⟩ := hw'
              have d1 : wq.cell? ⟨g1, q, none⟩ = some (.int .i64 (o : Nat)) := by rw [hwq]; exact c1
              have df : wq.frozen? ⟨g1, q, none⟩ = false := by rw [hwq]; exact cf
              obtain ⟨ws, hws⟩ : ∃ ws, ws = wq.setCell ⟨g1, q, none⟩ (.int .i64 (o2 : Nat)) := ⟨_, rfl⟩
              have HS : Hid (Row g n (dgs 2 n k) ws ∧ RowE g1 n (fun j => ((smN (fun u => f u * dgs 2 n u j) (if j < q + 1 then k + 1 else k) : Nat) : Int)) ws ∧ Below w.heap.size w ws) := by
                rw [hws, hwq]
                refine ⟨(HV.out.1.drewN nq).other (Below.heap_setCell _ _ _ _ (by have := HGG.out; show g ≠ g1; omega)), RowF.congr (RowE.store (RowF.drewN HV.out.2.1 nq) q ((o2 : Nat) : Int)) (fun j hj => ?_), (below_drewN2 HV.out.2.2 nq).setCell HGG.out.2 _⟩
                show Value.int .i64 (if j = q then ((o2 : Nat) : Int) else ((smN (fun u => f u * dgs 2 n u j) (if j < q then k + 1 else k) : Nat) : Int)) = Value.int .i64 ((smN (fun u => f u * dgs 2 n u j) (if j < q + 1 then k + 1 else k) : Nat) : Int)
                by_cases e : j = q
                · rw [if_pos e, e, if_pos (by omega), HO2.out]
                · rw [if_neg e]
                  by_cases e2 : j < q
                  · rw [if_pos e2, if_pos (by omega)]
                  · rw [if_neg e2, if_neg (by omega)]
              clear hwq c1 c2 cf
              go_wp2
              try rw [← hws]
              go_roundw
              case rel => exact ⟨q + 1, by go_num, by omega, HS.out⟩
              case measure => simp [intOf]; omega
            · have hqb : ¬ (q : Int) < (n : Int) := by omega
              have H5 : Hid (RowE g1 n (fun j => ((smN (fun u => f u * dgs 2 n u j) (k + 1) : Nat) : Int)) wv) := RowF.congr HV.out.2.1 (fun j hj => by show Value.int .i64 ((smN (fun u => f u * dgs 2 n u j) (if j < q then k + 1 else k) : Nat) : Int) = _; rw [if_pos (by omega)])
              go_wp2_with fail
              refine (HNt.out wv HV.out.1).mono ?_
              rintro e w7 ⟨mb', rfl, hg7, hmb', hrow7⟩
              have H7 : Hid (A2 = smN f (k + 1) ∧ mb' = decide (0 < gk - 1) ∧ (0 < gk - 1 → Row g n (dgs 2 n (k + 1)) w7) ∧ RowE g1 n (fun j => ((smN (fun u => f u * dgs 2 n u j) (k + 1) : Nat) : Int)) w7 ∧ Below w.heap.size w w7) := ⟨HA2.out, hmb', hrow7, RowF.grown H5.out hg7 (by intro c; have := Option.some.inj c; have := HGG.out; omega), HV.out.2.2.grown hg7 HV.out.2.2.size (fun q hq => by cases hq; have := HGG.out; omega)⟩
              clear hg7 hmb' hrow7
              go_wp2
              go_roundg (gk - 1)
              case measure => omega
              case rel => exact ⟨k + 1, A2, mb', by omega, rfl, rfl, H7.out⟩
    · have hmb : mb = false := by rw [HG.out.2.1, decide_eq_false hgk]
      subst hmb
      have hke : k = N := by omega
      have HE : Hid (A = smN f N ∧ OwnI w.heap.size (.slice (some ⟨g1, 0, none⟩) n n) (zl n (fun j => ((smN (fun u => f u * dgs 2 n u j) N : Nat) : Int))) wr) := by
        rw [← hke]
        exact ⟨HG.out.1, RowE.own HG.out.2.2.2.1 HGG.out.2 (by omega)⟩
      clear hke
      go_wp2
      refine bodyPost_ret (v := .tuple #[.slice (some ⟨g1, 0, none⟩) n n, .int .i64 (A : Nat)]) (by simp [results, Try.results33, go_sem]) rfl ?_
      exact ⟨_, by rw [HE.out.1], HE.out.2, HG.out.2.2.2.2⟩
end Go.Proofs.Ytlljaliemldjkaa
