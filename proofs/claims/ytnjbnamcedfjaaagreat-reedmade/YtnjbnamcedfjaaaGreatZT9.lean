/- Texts of ours, one behind the other: T9 X17 X18 S5 T10. -/
import Derived.Test.YtnjbnamcedfjaaaGreatZT3
import Derived.Test.YtnjbnamcedfjaaaGreatZX12
import Derived.Test.YtnjbnamcedfjaaaGreatZR9
import Derived.Test.YtnjbnamcedfjaaaGreatZL1
import Derived.Test.YtnjbnamcedfjaaaGreatZL10
import Derived.Test.YtnjbnamcedfjaaaGreatZX8
/- The reference's matrices: the rows that make all rows 0 (Null). -/
namespace Go.Proofs.YtnjbnamcedfjaaaGreat
open Go.RowKit Go.Sort

theorem rneg_nat {D : FD} (hD : D ∈ fieldsL) (gen : Nat) (v : Value) (a : Nat) (ha : a < D.q) (wr : World) :
    Calls Tryz.prog 50 #[.agg #[.int .i64 D.q, .int .i64 D.p, .int .i64 D.m, .int .i64 gen, v], .int .i64 a] wr fun e w' => e = .returned (.int .i64 (D.ng a : Nat)) ∧ Below wr.heap.size wr w' := by
  have h := rneg_any hD gen v a wr
  rw [negZ_nat (fld hD) ha] at h
  exact h
theorem RwsO.matR {base : Nat} {ro : Option Addr} {k rc n : Nat} {R : Nat → Nat → Nat} {vs : Nat → Value} {w : World} (h : RwsO base ro k rc n R vs w) : MatR ro k n R w := fun i hi => by
  obtain ⟨g, e, hc, _⟩ := h.cell i hi
  exact ⟨g, 0, _, e, by rw [Nat.zero_add]; exact hc, (h.row i hi).rwv⟩

set_option maxHeartbeats 8000000 in
set_option maxRecDepth 100000 in
theorem rnull_any {D : FD} (hD : D ∈ fieldsL) (gen gm cm : Nat) {ao : Option Addr} {m n N ca : Nat} {M : Nat → Nat → Nat} {w : World} (hN : N = n + 1) (hm : m ≤ 1000) (hn : n ≤ 900) (hel : ∀ i, i < m → El D (M i) ∧ Bd (n + 1) (M i)) (hA : MatR ao m n M w) (hM : ModAt D (.slice (some ⟨gm, 0, none⟩) (D.m + 1) cm) D.md w) :
    Calls Tryz.prog 51 #[.agg #[.int .i64 D.q, .int .i64 D.p, .int .i64 D.m, .int .i64 gen, .slice (some ⟨gm, 0, none⟩) (D.m + 1) cm], .slice ao m ca, .int .i64 (N : Nat)] w fun e w' => ∃ v k R p R2 p2, e = .returned v ∧ k ≤ m ∧ RRE D N k R p ∧ (∀ v, Spn D (RowsOf k R) v ↔ Spn D (RowsOf m M) v) ∧
      LLs w.heap.size v (rl (nct k p N) n R2) w' ∧ RRE D N (nct k p N) R2 p2 ∧ (∀ v, Spn D (RowsOf (nct k p N) R2) v ↔ Spn D (RowsOf (nct k p N) (nul D R p k N)) v) ∧ Below w.heap.size w w' := by
  have hbl : Below w.heap.size w (w.alloc (.cells #[.int .i64 D.q, .int .i64 D.p, .int .i64 D.m, .int .i64 gen, .slice (some ⟨gm, 0, none⟩) (D.m + 1) cm] 28)) := (Below.refl _ _).alloc (Nat.le_refl _) _
  have HF : Hid (D ∈ fieldsL ∧ (∀ i, i < m → El D (M i) ∧ Bd (n + 1) (M i)) ∧ MatR ao m n M w ∧ ModAt D (.slice (some ⟨gm, 0, none⟩) (D.m + 1) cm) D.md w) := ⟨hD, hel, hA, hM⟩
  have HB0 : Hid (Box w.heap.size D gen (.slice (some ⟨gm, 0, none⟩) (D.m + 1) cm) (w.alloc (.cells #[.int .i64 D.q, .int .i64 D.p, .int .i64 D.m, .int .i64 gen, .slice (some ⟨gm, 0, none⟩) (D.m + 1) cm] 28)) ∧ Below w.heap.size w (w.alloc (.cells #[.int .i64 D.q, .int .i64 D.p, .int .i64 D.m, .int .i64 gen, .slice (some ⟨gm, 0, none⟩) (D.m + 1) cm] 28))) := ⟨box_new D gen _ w, hbl⟩
  have HN : Hid (N = n + 1) := hN
  have hN9 : N ≤ 901 := by omega
  clear hD hel hA hM hbl hN
  go_enter Tryz.func51, Tryz.ntmps51
  go_wp2_with fail
  refine (rreduce_any HF.out.1 gen gm cm hm (by omega) HF.out.2.1 (HF.out.2.2.1.below HB0.out.2) (HF.out.2.2.2.below HB0.out.2)).mono ?_
  rintro e w1 ⟨vr, vp, k, R, p, rfl, hk, hvr, hvp, hR, hS, _, hb1⟩
  obtain ⟨ro, rc, vs, rfl, hrw⟩ := hvr.rws
  obtain ⟨po, pc, rfl, hpl⟩ := hvp.argL
  have hsa : (w.alloc (.cells #[.int .i64 D.q, .int .i64 D.p, .int .i64 D.m, .int .i64 gen, .slice (some ⟨gm, 0, none⟩) (D.m + 1) cm] 28)).heap.size = w.heap.size + 1 := by simp
  have hsz1 : w.heap.size < w1.heap.size := by have := hb1.size; omega
  rw [← HN.out] at hR
  have H1 : Hid (MatR ro k n R w1 ∧ SliceI (.slice po k pc) (zl k fun j => ((p j : Nat) : Int)) w1 ∧ ArgL po k pc (fun j => ((p j : Nat) : Int)) w1 ∧ RRE D N k R p ∧ (∀ v, Spn D (RowsOf k R) v ↔ Spn D (RowsOf m M) v) ∧ Below w.heap.size w w1 ∧ Box w.heap.size D gen (.slice (some ⟨gm, 0, none⟩) (D.m + 1) cm) w1) :=
    ⟨hrw.matR, hvp.slice (by rw [zl_len]; omega), hpl, hR, hS, bel_up' HB0.out.2 hb1, HB0.out.1.below hb1 (by omega)⟩
  have hvlt := fun q => (hvp.lt q)
  have HO : Hid (OwnI (w.heap.size + 1) (.slice po k pc) (zl k fun j => ((p j : Nat) : Int)) w1) := by rw [hsa] at hvp; exact hvp
  clear hvr hvp hR hS hb1 hrw hpl hvlt HB0 hsa
  go_wp2_with fail
  go_loopw [9, 10] (fun vl vc wr => ∃ c : Nat, c ≤ N ∧ vc = .int .i64 c ∧ Hid (LLs w1.heap.size vl (rl (nct k p c) n (nul D R p k c)) wr ∧ Below w1.heap.size w1 wr)) (fun _ vc _ => N - (intOf vc).toNat)
  case atStart => exact ⟨0, by omega, rfl, ⟨LLs.nil _ _, Below.refl _ _⟩⟩
  case round =>
    obtain ⟨c, hc, rfl, HG⟩ := hrel
    rename World => wA
    by_cases hlt : c < N
    · have hcb : (c : Int) < (N : Int) := by omega
      have HI : Hid (Calls Tryz.prog 31 #[.int .i64 (c : Nat), .slice po k pc] wA fun e w' => e = .returned (.bool (decide ((c : Int) ∈ zl k fun j => ((p j : Nat) : Int)))) ∧ ∃ d, w' = wA.drewN d) :=
        in_any (c : Int) ((HO.out.below HG.out.2 (fun q hq => (HO.out.lt q hq).2)).slice (by rw [zl_len]; omega))
      by_cases hfr : ∀ i, i < k → p i ≠ c
      · rw [decide_eq_false (fun h => free_zl.1 h hfr)] at HI
        have HFr : Hid (∀ i, i < k → p i ≠ c) := hfr
        clear hfr
        go_wp2_with fail
        refine HI.out.mono ?_
        rintro e wD ⟨rfl, d, hwD⟩
        have HD : Hid (LLs w1.heap.size u9 (rl (nct k p c) n (nul D R p k c)) wD ∧ Below w1.heap.size w1 wD) := by
          rw [hwD]
          have hbd : Below wA.heap.size wA (wA.drewN d) := ⟨rfl, rfl, rfl, Nat.le_refl _, fun _ _ => rfl⟩
          exact ⟨HG.out.1.below hbd (Nat.le_refl _), bel_up' HG.out.2 hbd⟩
        clear HI HG hwD wA
        go_wp2_with (at_make; refine make_int rfl _ _ rfl _ N rfl rfl rfl (by omega) ?_; intro w2 hown2 hgrow2; have hu0 := (row_zeros hown2).cell c hlt; have hf0 := (row_zeros hown2).free c)
        have HI2 : Hid (Row wD.heap.size N pnil w2 ∧ Below wD.heap.size wD w2) := ⟨row_zeros hown2, below_grown hgrow2 (Nat.le_refl _) (fun k hk => by simp at hk)⟩
        clear hown2 hgrow2 hu0 hf0
        obtain ⟨g, hg⟩ : ∃ g, g = wD.heap.size := ⟨_, rfl⟩
        have HI3 : Hid (Row g N pnil w2 ∧ Below wD.heap.size wD w2) := by rw [hg]; exact HI2.out
        rw [← hg]
        have hgD : wD.heap.size ≤ g := by omega
        clear HI2 hg
        go_loopw [12] (fun vi wi => ∃ i : Nat, i ≤ k ∧ vi = .int .i64 i ∧ Hid (Row g N (nrv D R p c i) wi ∧ Below wD.heap.size wD wi)) (fun vi _ => k - (intOf vi).toNat)
        case atStart => exact ⟨0, by omega, rfl, HI3.out.1.store c 1 (fun j _ => by show (if j = c then 1 else 0) = if j = c then 1 else pnil j; rfl), HI3.out.2.setCell hgD _⟩
        case round =>
          clear HI3
          obtain ⟨i, hi, rfl, HK⟩ := hrel
          rename World => wB
          by_cases hik : i < k
          · have hib : (i : Int) < (k : Int) := by omega
            have hib0 : (0 : Int) ≤ (i : Int) := by omega
            have hb1B := bel_up' HD.out.2 HK.out.2
            obtain ⟨bA, oA, uA, rfl, hcA, hrA⟩ := (H1.out.1.below hb1B) i hik
            obtain ⟨xA, cxA, rfl, hsA, hlA, _⟩ := hrA
            obtain ⟨bx, ox, rfl, hcx⟩ := hsA c (by have := HN.out; omega)
            have hplB := H1.out.2.2.1.sl.below hb1B H1.out.2.2.1.lt
            obtain ⟨bp, op, rfl, hcp⟩ := hplB i hik
            obtain ⟨x, hx⟩ : ∃ x, x = R i c := ⟨_, rfl⟩
            obtain ⟨y, hy⟩ : ∃ y, y = p i := ⟨_, rfl⟩
            obtain ⟨u, hu⟩ : ∃ u, u = D.ng x := ⟨_, rfl⟩
            rw [← hx] at hcx
            replace hcp : wB.cell? ⟨bp, op + i, none⟩ = some (.int .i64 ((p i : Nat) : Int)) := hcp
            rw [← hy] at hcp
            have hyN : y < N := by rw [hy]; exact H1.out.2.2.2.1.lt i hik
            have hyb : (y : Int) < (N : Int) := by omega
            have hnb : (c : Int) < (n : Int) + 1 := by have := HN.out; omega
            have hxq : x < D.q := by rw [hx]; exact H1.out.2.2.2.1.el i hik c
            have hbx := H1.out.2.2.2.2.2.2.below hb1B hsz1
            have k0 := cell_regrown hbx.c0
            have k1 := cell_regrown hbx.c1
            have k2 := cell_regrown hbx.c2
            have k3 := cell_regrown hbx.c3
            have k4 := cell_regrown hbx.c4
            have k5 := cell_regrown (HK.out.1.cell y hyN)
            have k6 := cell_regrown hcA
            have k7 := cell_regrown hcx
            have k8 := cell_regrown hcp
            have k10 := free_regrown HK.out.1.lt (HK.out.1.free y)
            have HC1 : Hid (∀ d os, Calls Tryz.prog 50 #[.agg #[.int .i64 D.q, .int .i64 D.p, .int .i64 D.m, .int .i64 gen, .slice (some ⟨gm, 0, none⟩) (D.m + 1) cm], .int .i64 (x : Nat)] (grow (redrawn wB d) os) fun e w'' => e = .returned (.int .i64 (u : Nat)) ∧ ∃ p : Regrown, w'' = grow (redrawn wB p.d) p.os) := fun d os => by
              rw [hu]
              exact Calls.regrown_of (rneg_nat HF.out.1 gen _ x hxq _)
            have HV : Hid (∀ j, j < N → nrv D R p c (i + 1) j = if j = y then u else nrv D R p c i j) := fun j _ => by
              rw [hu, hx, hy]; rfl
            clear hx hy hu hcx hcp hcA hbx hb1B hsA hlA hplB
            go_wp2
            refine below_tail 15 (by kernel_rfl) (by kernel_rfl) ?_
            simp only [List.take_succ_cons, List.take_zero, List.drop_succ_cons, List.drop_zero]
            repeat (go_big_quiet_step (first | (go_at_call 50; exact HC1.out _ _) | fail))
            refine wpQuiet_nil ?_
            intro _ hw'
            obtain ⟨⟨ds, oss⟩, hw''⟩ := hw'
            subst hw''
            have hb7 := below_regrown wB ds oss
            have H7 : Hid (Row g N (nrv D R p c i) (grow (redrawn wB ds) oss) ∧ Below wD.heap.size wD (grow (redrawn wB ds) oss)) := ⟨HK.out.1.below hb7 HK.out.1.lt, bel_up' HK.out.2 hb7⟩
            clear hb7
            go_wp2
            go_roundw
            case rel => exact ⟨i + 1, by omega, by go_num, H7.out.1.store y u HV.out, H7.out.2.setCell hgD _⟩
            case measure => simp [intOf]; omega
          · have hib : ¬ (i : Int) < (k : Int) := by omega
            have hie : i = k := by omega
            subst hie
            obtain ⟨lst, hov, hels⟩ := HD.out.1
            have hll : lst.length ≤ 1000000 := by rw [hels.1, rl_len]; have := nct_le i p c; omega
            have HV : Hid (OwnV w1.heap.size u9 lst wB ∧ Elms lst (rl (nct i p c) n (nul D R p i c)) wB ∧ Elm (.slice (some ⟨g, 0, none⟩) N N) (n, nrv D R p c i) wB) := by
              refine ⟨hov.below HK.out.2 (Nat.le_refl _), hels.below HK.out.2 (Nat.le_refl _), ⟨g, N, by rw [HN.out], by rw [HN.out]; exact Nat.le_refl _, by omega, ?_⟩⟩
              show Row g (n + 1) _ wB
              rw [← HN.out]; exact HK.out.1
            have hsB := HK.out.2.size
            have hsD := HD.out.2.size
            clear hov hels
            go_wp2_with (at_builtin; refine append_sl rfl _ _ rfl w1.heap.size u9 lst rfl (HV.out.1.below ((Below.refl _ _).alloc (Nat.le_refl _) _) (Nat.le_refl _)) ⟨wB.heap.size, 0, none⟩ 1 (.slice (some ⟨g, 0, none⟩) N N) rfl rfl (by rw [cell_of_row _ _ _ _ _ (0, 0) (two_new _)]; rfl) hll (by simp; omega) ?_; intro v' w6 hown6 hg6)
            have hal : Below wB.heap.size wB (wB.alloc (.cells #[.slice (some ⟨g, 0, none⟩) N N] 22)) := (Below.refl _ _).alloc (Nat.le_refl _) _
            have ho := HV.out.1.below hal (Nat.le_refl _)
            have hbw := bel_up' HD.out.2 (bel_up' HK.out.2 hal)
            have HR : Hid (LLs w1.heap.size v' (rl (nct i p (c + 1)) n (nul D R p i (c + 1))) w6 ∧ Below w1.heap.size w1 w6) := by
              refine ⟨⟨_, hown6, ?_⟩, hbw.grown hg6 (by simp; omega) (fun q hq => ho.open_ge q hq)⟩
              have h := ((HV.out.2.1.below hal (Nat.le_refl _)).snoc (HV.out.2.2.below hal (Nat.le_refl _))).grown ho hg6
              rw [nct_yes HFr.out, rl_succ, nul_at, rl_congr (R' := nul D R p i c) (fun j hj => nul_lo hj)]
              exact h
            clear hown6 hg6 ho hbw hal
            go_roundw
            case rel => exact ⟨c + 1, by omega, by go_num, HR.out⟩
            case measure => simp [intOf]; omega
      · rw [decide_eq_true (free_zl.2 hfr)] at HI
        have HD : Hid (∀ d, LLs w1.heap.size u9 (rl (nct k p (c + 1)) n (nul D R p k (c + 1))) (wA.drewN d) ∧ Below w1.heap.size w1 (wA.drewN d)) := fun d => by
          have hbd : Below wA.heap.size wA (wA.drewN d) := ⟨rfl, rfl, rfl, Nat.le_refl _, fun _ _ => rfl⟩
          rw [nct_no hfr, rl_congr (R' := nul D R p k c) (fun j hj => nul_lo hj)]
          exact ⟨HG.out.1.below hbd (Nat.le_refl _), bel_up' HG.out.2 hbd⟩
        clear hfr
        go_wp2_with fail
        refine HI.out.mono ?_
        rintro e wD ⟨rfl, d, rfl⟩
        go_wp2
        go_roundw
        case rel => exact ⟨c + 1, by omega, by go_num, HD.out d⟩
        case measure => simp [intOf]; omega
    · have hcb : ¬ (c : Int) < (N : Int) := by omega
      have hce : c = N := by omega
      subst hce
      obtain ⟨lo, lc, ls, rfl, hlw⟩ := HG.out.1.rws
      have HL : Hid (MatR lo (nct k p c) n (nul D R p k c) wA) := hlw.matR
      clear hlw
      have hbx := H1.out.2.2.2.2.2.2.below HG.out.2 hsz1
      have k0 := hbx.c0
      have k1 := hbx.c1
      have k2 := hbx.c2
      have k3 := hbx.c3
      have k4 := hbx.c4
      clear hbx
      go_wp2_with fail
      have hle := nct_le k p c
      refine (rreduce_any HF.out.1 gen gm cm (by omega) (by omega) (fun i hi => ⟨nul_el (fld HF.out.1) H1.out.2.2.2.1.el _ _, by rw [← HN.out]; exact nul_bd H1.out.2.2.2.1.lt hi⟩) HL.out (HF.out.2.2.2.below (bel_up' H1.out.2.2.2.2.2.1 (HG.out.2.mono (by exact Nat.le_refl _))))).mono ?_
      rintro e w7 ⟨vr, vp, k2', R2, p2, rfl, hk2, hvr, hvp, hR2, hS2, hmany, hb2⟩
      rw [← HN.out] at hR2
      have hke : k2' = nct k p c := by
        rcases hmany with h | ⟨j, hj, h⟩
        · exact h
        · exact absurd h (nul_ind (fld HF.out.1) hj)
      subst hke
      have HE : Hid (LLs wA.heap.size vr (rl (nct k p c) n R2) w7 ∧ RRE D c (nct k p c) R2 p2 ∧ (∀ v, Spn D (RowsOf (nct k p c) R2) v ↔ Spn D (RowsOf (nct k p c) (nul D R p k c)) v) ∧ Below wA.heap.size wA w7) := ⟨hvr, hR2, hS2, hb2⟩
      clear hvr hvp hR2 hS2 hmany hb2
      go_wp2
      go_ret
      have hs1 := H1.out.2.2.2.2.2.1.size
      have hs2 := HG.out.2.size
      refine ⟨_, k, R, p, R2, p2, rfl, hk, H1.out.2.2.2.1, H1.out.2.2.2.2.1, HE.out.1.mono (by omega), HE.out.2.1, HE.out.2.2.1, (bel_up' H1.out.2.2.2.2.2.1 (bel_up' HG.out.2 HE.out.2.2.2))⟩
end Go.Proofs.YtnjbnamcedfjaaaGreat

/- The program's matrices: is a number in a list (slices.Contains); the rows that make a reduced form 0 (madeNought). -/
namespace Go.Proofs.YtnjbnamcedfjaaaGreat
open Go.RowKit

set_option maxHeartbeats 2000000 in
set_option maxRecDepth 100000 in
theorem indexI_any {ao : Option Addr} {n ca : Nat} {z : Nat → Int} {w : World} (x : Int) (hs : SlZ ao n z w) (hn : n ≤ 1000000) :
    Calls Tryz.prog 43 #[.slice ao n ca, .int .i64 x] w fun e w' => w' = w ∧ ((∃ i : Nat, i < n ∧ z i = x ∧ e = .returned (.int .i64 i)) ∨ ((∀ j, j < n → z j ≠ x) ∧ e = .returned (.int .i64 (-1)))) := by
  have HS : Hid (SlZ ao n z w) := hs
  clear hs
  go_enter Tryz.func43, Tryz.ntmps43
  go_wp2
  go_loopw [5, 8] (fun _ i wr => ∃ r : Nat, r ≤ n ∧ i = .int .i64 r ∧ Hid (∀ j, j < r → z j ≠ x) ∧ wr = w) (fun _ i _ => n - (intOf i).toNat)
  case atStart => exact ⟨0, by omega, rfl, (show Hid _ from fun j hj => by omega), rfl⟩
  case round =>
    obtain ⟨r, hr, rfl, HH, rfl⟩ := hrel
    by_cases hlt : r < n
    · obtain ⟨b, off, rfl, hcz⟩ := HS.out r hlt
      have hib : (r : Int) < (n : Int) := by omega
      obtain ⟨y, hy⟩ : ∃ y, y = z r := ⟨_, rfl⟩
      rw [← hy] at hcz
      by_cases he : x = y
      · have hb : (x == y) = true := beq_iff_eq.2 he
        have HV : Hid (z r = x) := by rw [← hy, he]; rfl
        clear he hy
        go_wp2
        go_ret
        exact ⟨rfl, Or.inl ⟨r, hlt, HV.out, rfl⟩⟩
      · have hb : (x == y) = false := beq_eq_false_iff_ne.2 he
        have HV : Hid (∀ j, j < r + 1 → z j ≠ x) := fun j hj => by
          by_cases e : j = r
          · rw [e, ← hy]; exact fun e => he e.symm
          · exact HH.out j (by omega)
        clear he hy
        go_wp2
        go_roundw
        case rel => exact ⟨r + 1, by omega, by go_num, HV.out, by first | rfl | trivial⟩
        case measure => simp [intOf]; omega
    · have HV : Hid (∀ j, j < n → z j ≠ x) := fun j hj => HH.out j (by omega)
      go_wp2
      go_ret
      exact ⟨rfl, Or.inr ⟨HV.out, rfl⟩⟩

set_option maxHeartbeats 2000000 in
set_option maxRecDepth 100000 in
theorem contains_any {ao : Option Addr} {n ca : Nat} {z : Nat → Int} {w : World} (x : Int) (hs : SlZ ao n z w) (hn : n ≤ 1000000) :
    Calls Tryz.prog 29 #[.slice ao n ca, .int .i64 x] w fun e w' => e = .returned (.bool (decide (x ∈ zl n z))) ∧ w' = w := by
  have HS : Hid (SlZ ao n z w) := hs
  clear hs
  go_enter Tryz.func29, Tryz.ntmps29
  go_wp2_with fail
  refine (indexI_any x HS.out hn).mono ?_
  rintro e w' ⟨hw, ⟨i, hi, hz, rfl⟩ | ⟨hz, rfl⟩⟩
  · have hw := hw.symm
    subst hw
    have hge : (0 : Int) ≤ (i : Int) := by omega
    have HV : Hid (decide (x ∈ zl n z) = true) := by
      show _ = _
      rw [decide_eq_true_eq]; exact zl_mem.2 ⟨i, hi, hz⟩
    clear hz
    go_wp2
    go_ret
    exact ⟨by rw [HV.out]; rfl, rfl⟩
  · have hw := hw.symm
    subst hw
    have HV : Hid (decide (x ∈ zl n z) = false) := by
      show _ = _
      rw [decide_eq_false_iff_not]
      intro h
      obtain ⟨j, hj, e⟩ := zl_mem.1 h
      exact hz j hj e
    clear hz
    go_wp2
    go_ret
    exact ⟨by rw [HV.out]; rfl, rfl⟩

end Go.Proofs.YtnjbnamcedfjaaaGreat

/- The program's matrices: what makes all rows 0 (Null); matrices as they are told. -/
namespace Go.Proofs.YtnjbnamcedfjaaaGreat
open Go.RowKit

/-- The slice v reads as k rows R of n elements. -/
def RL (v : Value) (k n : Nat) (R : Nat → Nat → Nat) (w : World) : Prop := ∃ ao ca, v = .slice ao k ca ∧ ∀ i, i < k → ∃ b off x cx, ao = some ⟨b, off, none⟩ ∧ w.cell? ⟨b, off + i, none⟩ = some (.slice x n cx) ∧ Sl x n (R i) w
theorem RL.below {v : Value} {k n : Nat} {R : Nat → Nat → Nat} {w w' : World} (h : RL v k n R w) (hb : Below w.heap.size w w') : RL v k n R w' := by
  obtain ⟨ao, ca, e, h⟩ := h
  refine ⟨ao, ca, e, fun i hi => ?_⟩
  obtain ⟨b, off, x, cx, e1, hc, hs⟩ := h i hi
  exact ⟨b, off, x, cx, e1, ((bcell hb).1 b (off + i) (cell_lt hc)).trans hc, slz_below hs hb⟩
theorem RL.congr {v : Value} {k n : Nat} {R R' : Nat → Nat → Nat} {w : World} (h : RL v k n R w) (e : ∀ i, i < k → R i = R' i) : RL v k n R' w := by
  obtain ⟨ao, ca, e1, h⟩ := h
  exact ⟨ao, ca, e1, fun i hi => by rw [← e i hi]; exact h i hi⟩
theorem Mx.rl {B G m k j n : Nat} {R : Nat → Nat → Nat} {h : Nat → Nat} {w : World} (H : Mx B G m k n R h w) (hj : j ≤ k) (mc : Nat) : RL (.slice (some ⟨G, 0, none⟩) j mc) j n R w :=
  ⟨_, _, rfl, fun i hi => ⟨G, 0, _, n, rfl, by rw [Nat.zero_add]; exact H.cell i (by omega), (H.row i (by omega)).sl (Nat.le_refl _)⟩⟩
theorem LLs.rl {base : Nat} {v : Value} {k n : Nat} {R : Nat → Nat → Nat} {w : World} (h : LLs base v (rl k n R) w) : RL v k (n + 1) R w := by
  obtain ⟨ro, rc, vs, rfl, hw⟩ := h.rws
  refine ⟨ro, rc, rfl, fun i hi => ?_⟩
  obtain ⟨g, e, hc, _⟩ := hw.cell i hi
  obtain ⟨x, cx, e2, hs, _⟩ := (hw.row i hi).rwv
  exact ⟨g, 0, x, cx, e, by rw [Nat.zero_add, ← e2]; exact hc, hs⟩
theorem RL.nil (n : Nat) (R : Nat → Nat → Nat) (w : World) : RL (.slice none 0 0) 0 n R w := ⟨none, 0, rfl, fun i hi => by omega⟩

theorem Mx.any {B G m n n' : Nat} {R : Nat → Nat → Nat} {h : Nat → Nat} {w : World} (H : Mx B G m 0 n R h w) : Mx B G m 0 n' R h w :=
  ⟨by obtain ⟨f, hf, _⟩ := H.outer; exact ⟨f, hf, fun i hi => by omega⟩, fun i hi => by omega, H.geG, fun i hi => by omega, fun i hi => by omega, fun i hi => by omega, H.le⟩

end Go.Proofs.YtnjbnamcedfjaaaGreat

/- Plain mathematics: linear equations (Solve): the rows with what they are to be behind them. -/
namespace Go.Proofs.YtnjbnamcedfjaaaGreat

/-- The rows M of n numbers, each with one number more. -/
def aug (n : Nat) (M : Nat → Nat → Nat) (b : Nat → Nat) : Nat → Nat → Nat := fun i j => if j = n then b i else M i j
theorem aug_el {D : FD} {n : Nat} {M : Nat → Nat → Nat} {b : Nat → Nat} {i : Nat} (h : El D (M i)) (hb : b i < D.q) : El D (aug n M b i) := fun j => by
  unfold aug
  by_cases e : j = n
  · rw [if_pos e]; exact hb
  · rw [if_neg e]; exact h j
theorem aug_bd {n : Nat} {M : Nat → Nat → Nat} {b : Nat → Nat} {i : Nat} (h : Bd n (M i)) : Bd (n + 1) (aug n M b i) := fun j hj => by
  unfold aug
  rw [if_neg (by omega)]; exact h j (by omega)
/-- The solution that a reduced form tells, by its first r rows. -/
def slx (R : Nat → Nat → Nat) (p : Nat → Nat) (n : Nat) : Nat → Nat → Nat
  | 0, _ => 0
  | r + 1, j => if j = p r then R r n else slx R p n r j
/-- The first n numbers. -/
def cutN (n : Nat) (v : Nat → Nat) : Nat → Nat := fun j => if j < n then v j else 0
end Go.Proofs.YtnjbnamcedfjaaaGreat

/- The reference's matrices: linear equations (Solve). -/
namespace Go.Proofs.YtnjbnamcedfjaaaGreat
open Go.RowKit Go.Sort

theorem OwnI.elm {base : Nat} {v : Value} {n : Nat} {c : Nat → Nat} {w : World} (h : OwnI base v (zl (n + 1) fun j => ((c j : Nat) : Int)) w) : Elm v (n, c) w := by
  have h1 := h.ownC c (fun k hk => by rw [zl_len] at hk; rw [zl_getD _ _ k hk])
  rw [zl_len] at h1
  exact h1.elm

end Go.Proofs.YtnjbnamcedfjaaaGreat
