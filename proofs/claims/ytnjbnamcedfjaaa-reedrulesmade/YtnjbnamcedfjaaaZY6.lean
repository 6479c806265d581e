/- The reference's Shortest. -/
import Derived.Test.YtnjbnamcedfjaaaZY5
namespace Go.Proofs.Ytnjbnamcedfjaaa
open Go.RowKit Go.Sort

set_option maxHeartbeats 16000000 in
set_option maxRecDepth 100000 in
theorem rshortest_any {D : FD} (hD : D ∈ fieldsL) (gen gm cm : Nat) {so : Option Addr} {n sc L : Nat} {s : Nat → Nat} {w : World} (hn : n ≤ 128) (hS : Sl so n s w) (hlS : LtB so w.heap.size) (hs : El D s) (hL : L ≤ n)
    (hmin : ∀ C' L', Rul D C' L' → Gen D s C' L' n → L ≤ L') (hM : ModAt D (.slice (some ⟨gm, 0, none⟩) (D.m + 1) cm) D.md w) :
    Calls Try.prog 30 #[.agg #[.int .i64 D.q, .int .i64 D.p, .int .i64 D.m, .int .i64 gen, .slice (some ⟨gm, 0, none⟩) (D.m + 1) cm], .slice so n sc, .int .i64 (L : Nat)] w fun e w' => e = .returned (.bool true) ∧ Below w.heap.size w w' := by
  obtain ⟨wa, hwa⟩ : ∃ wa, wa = w.alloc (.cells #[.int .i64 D.q, .int .i64 D.p, .int .i64 D.m, .int .i64 gen, .slice (some ⟨gm, 0, none⟩) (D.m + 1) cm] 40) := ⟨_, rfl⟩
  have hba : Below w.heap.size w wa := by rw [hwa]; exact (Below.refl _ _).alloc (Nat.le_refl _) _
  have HF : Hid (D ∈ fieldsL ∧ Sl so n s wa ∧ LtB so wa.heap.size ∧ El D s ∧ (∀ C' L', Rul D C' L' → Gen D s C' L' n → L ≤ L') ∧ ModAt D (.slice (some ⟨gm, 0, none⟩) (D.m + 1) cm) D.md wa ∧ Below w.heap.size w wa) := ⟨hD, hS.below hba hlS, hlS.mono hba.size, hs, hmin, hM.below hba, hba⟩
  have HX : Hid (Box w.heap.size D gen (.slice (some ⟨gm, 0, none⟩) (D.m + 1) cm) wa ∧ wa.heap.size = w.heap.size + 1) := ⟨by rw [hwa]; exact box_new D gen _ w, by rw [hwa]; simp⟩
  clear hD hS hlS hs hmin hM hba
  go_enter Try.func30, Try.ntmps30
  go_wp2_with fail
  rw [← hwa]
  clear hwa
  go_loopw [7] (fun vc wr => ∃ c : Nat, c ≤ L ∧ vc = .int .i64 c ∧ Hid (Below wa.heap.size wa wr)) (fun vc _ => L - (intOf vc).toNat)
  case atStart => exact ⟨0, by omega, rfl, Below.refl _ _⟩
  case round =>
    obtain ⟨c, hc, rfl, HB⟩ := hrel
    rename World => w1
    by_cases hlt : c < L
    · have hcb : (c : Int) < (L : Int) := by omega
      go_wp2_with fail
      go_loopw [8, 9, 10, 11] (fun vm vb vz vi wr => ∃ (i r : Nat) (vs : Nat → Value) (bz : Bool), i ≤ n ∧ vz = .bool bz ∧ vi = .int .i64 i ∧ Hid (i = c + r ∧ bz = azr s c r ∧ ShS D s w1.heap.size c r r vm vs vb wr ∧ Below w1.heap.size w1 wr)) (fun _ _ _ vi _ => n - (intOf vi).toNat)
      case atStart => exact ⟨c, 0, fun _ => undef, true, by omega, rfl, rfl, rfl, rfl, ⟨⟨OwnV.nil _ _, fun j hj => absurd hj (by omega), fun j hj => absurd hj (by omega)⟩, OwnI.nil _ _, fun j hj => absurd hj (by omega)⟩, Below.refl _ _⟩
      case round =>
        obtain ⟨i, r, vs, bz, hi, rfl, rfl, HG⟩ := hrel
        rename World => wA
        by_cases hin : i < n
        · have hib : (i : Int) < (n : Int) := by omega
          obtain ⟨bS, oS, rfl, hcS0⟩ := (HF.out.2.1.below (bel_up' HB.out HG.out.2.2.2) HF.out.2.2.1) i (by omega)
          clear hcS0
          go_wp2_with fail
          go_loopw [12, 13] (fun vr vk wr => ∃ (k t : Nat), k ≤ c + 1 ∧ vk = .int .i64 k ∧ Hid (k = t + 1 ∧ OwnI wA.heap.size vr (zl t fun j => ((s (c + r - 1 - j) : Nat) : Int)) wr ∧ Below wA.heap.size wA wr)) (fun _ vk _ => c + 1 - (intOf vk).toNat)
          case atStart => exact ⟨1, 0, by omega, rfl, rfl, OwnI.nil _ _, Below.refl _ _⟩
          case round =>
            obtain ⟨k, t, hk, rfl, HK⟩ := hrel
            rename World => wB
            have hszB := HK.out.2.2.size
            by_cases hkc : k ≤ c
            · have hkb : (k : Int) ≤ (c : Int) := by omega
              have hkt := HK.out.1
              have hir := HG.out.1
              obtain ⟨q, hq⟩ : ∃ q, q = c + r - 1 - t := ⟨_, rfl⟩
              obtain ⟨_, _, e3, hcS⟩ := (HF.out.2.1.below (bel_up' HB.out (bel_up' HG.out.2.2.2 HK.out.2.2)) HF.out.2.2.1) q (by omega)
              cases e3
              have hw1 : IntKind.i64.wrap ((i : Int) - (k : Int)) = (q : Int) := wrap_to (by omega) (by omega)
              have hqn : (q : Int) < (n : Int) := by omega
              have ht : t ≤ 128 := by omega
              obtain ⟨x, hx⟩ : ∃ x, x = s q := ⟨_, rfl⟩
              rw [← hx] at hcS
              have HQ : Hid (k = t + 1 ∧ i = c + r ∧ q = c + r - 1 - t ∧ x = s q) := ⟨hkt, hir, hq, hx⟩
              clear hkt hir hq hx
              go_wp2_with (at_builtin; refine append_int rfl _ _ rfl wA.heap.size _ (zl t fun j => ((s (c + r - 1 - j) : Nat) : Int)) rfl (HK.out.2.1.alloc _) ⟨_, 0, none⟩ 1 (x : Int) rfl (by simp) (by rw [zl_len]; omega) (by simp; omega) ?_; intro v2 w3 hown3 hgrow3)
              have HR : Hid (OwnI wA.heap.size v2 (zl (t + 1) fun j => ((s (c + r - 1 - j) : Nat) : Int)) w3 ∧ Below wA.heap.size wA w3) := by
                refine ⟨?_, (HK.out.2.2.alloc hszB _).grown hgrow3 (by simp; omega) (fun k hk => (HK.out.2.1.lt k hk).1)⟩
                rw [zl_succ]
                rw [HQ.out.2.2.2, HQ.out.2.2.1] at hown3
                exact hown3
              clear hown3 hgrow3
              go_roundw
              case rel => exact ⟨k + 1, t + 1, by omega, by go_num, by rw [HQ.out.1], HR.out⟩
              case measure => simp [intOf]; omega
            · have hkb : ¬ (k : Int) ≤ (c : Int) := by omega
              have hkt := HK.out.1
              have htc : t = c := by omega
              subst htc
              obtain ⟨bo, cb, hbo, _⟩ := HK.out.2.1.argL
              subst hbo
              obtain ⟨_, _, e3, hcS⟩ := (HF.out.2.1.below (bel_up' HB.out (bel_up' HG.out.2.2.2 HK.out.2.2)) HF.out.2.2.1) i hin
              cases e3
              obtain ⟨x, hx⟩ : ∃ x, x = s i := ⟨_, rfl⟩
              rw [← hx] at hcS
              obtain ⟨zb, hz⟩ : ∃ zb, (((x : Nat) : Int) == 0) = zb := ⟨_, rfl⟩
              have hszA := HG.out.2.2.2.size
              have hir := HG.out.1
              have HQ : Hid (i = t + r ∧ x = s i ∧ zb = decide (s (t + r) = 0) ∧ x < D.q) := by
                refine ⟨hir, hx, ?_, by rw [hx]; exact HF.out.2.2.2.1 i⟩
                rw [← hz, hx, hir]
                by_cases e : s (t + r) = 0
                · rw [e]; rfl
                · rw [decide_eq_false e, beq_eq_false_iff_ne]; omega
              have hr128 : r ≤ 128 := by omega
              have H2 : Hid (ShS D s w1.heap.size t r r u8 vs u9 wB ∧ OwnI wA.heap.size (.slice bo t cb) (zl t fun j => ((s (t + r - 1 - j) : Nat) : Int)) wB ∧ Below w1.heap.size w1 wB ∧ (∀ k, u9.ownBlock = some k → k < wA.heap.size) ∧ bz = azr s t r) := ⟨HG.out.2.2.1.below HK.out.2.2, HK.out.2.1, bel_up' HG.out.2.2.2 HK.out.2.2, fun k hk => (HG.out.2.2.1.ob.lt k hk).2, HG.out.2.1⟩
              have hll : (vl r vs).length ≤ 1000000 := by rw [vl_len]; omega
              clear hx hkt hir HG HK
              go_wp2_with (at_builtin; refine append_sl rfl _ _ rfl w1.heap.size u8 (vl r vs) rfl (H2.out.1.mks.own.below ((Below.refl _ _).alloc (Nat.le_refl _) _) (Nat.le_refl _)) ⟨wB.heap.size, 0, none⟩ 1 (.slice bo t cb) rfl rfl (by rw [cell_of_row _ _ _ _ _ (0, 0) (two_new _)]; rfl) hll (by simp; omega) ?_; intro v' w6 hown6 hg6)
              have hal : Below wB.heap.size wB (wB.alloc (.cells #[.slice bo t cb] 22)) := (Below.refl _ _).alloc (Nat.le_refl _) _
              have H3 : Hid (ShS D s w1.heap.size t (r + 1) r v' (fun j => if j = r then .slice bo t cb else vs j) u9 w6 ∧ Below w1.heap.size w1 w6) := by
                have ho := H2.out.1.below hal
                exact ⟨ho.push HF.out.2.2.2.1 (H2.out.2.1.below hal (fun k hk => (H2.out.2.1.lt k hk).2)) hszA H2.out.2.2.2.1 hown6 hg6, (bel_up' H2.out.2.2.1 hal).grown hg6 (by simp; omega) (fun k hk => ho.mks.own.open_ge k hk)⟩
              clear hown6 hg6 hal
              have HK6 : Hid (∀ wx, Below w1.heap.size w1 wx → wx.cell? ⟨bS, oS + i, none⟩ = some (.int .i64 (x : Nat)) ∧ wx.cell? ⟨w.heap.size, 0, none⟩ = some (.int .i64 D.q) ∧ wx.cell? ⟨w.heap.size, 1, none⟩ = some (.int .i64 D.p) ∧ wx.cell? ⟨w.heap.size, 2, none⟩ = some (.int .i64 D.m) ∧ wx.cell? ⟨w.heap.size, 3, none⟩ = some (.int .i64 gen) ∧ wx.cell? ⟨w.heap.size, 4, none⟩ = some (.slice (some ⟨gm, 0, none⟩) (D.m + 1) cm)) := fun wx hx => by
                have hb6 := bel_up' HB.out hx
                obtain ⟨_, _, e4, hc⟩ := (HF.out.2.1.below hb6 HF.out.2.2.1) i hin
                cases e4
                have hbx := HX.out.1.below (B := wa.heap.size) hb6 (by have := HX.out.2; omega)
                exact ⟨by rw [HQ.out.2.1]; exact hc, hbx.c0, hbx.c1, hbx.c2, hbx.c3, hbx.c4⟩
              obtain ⟨y, hy⟩ : ∃ y, y = D.ng x := ⟨_, rfl⟩
              have HC1 : Hid (∀ wx, Calls Try.prog 73 #[.agg #[.int .i64 D.q, .int .i64 D.p, .int .i64 D.m, .int .i64 gen, .slice (some ⟨gm, 0, none⟩) (D.m + 1) cm], .int .i64 (x : Nat)] wx fun e w'' => e = .returned (.int .i64 (y : Nat)) ∧ Below wx.heap.size wx w'') := fun wx => by
                rw [hy]
                exact rneg_nat HF.out.1 gen _ x HQ.out.2.2.2 wx
              have HY : Hid (y = D.ng (s (t + r))) := by show y = _; rw [hy, HQ.out.2.1, HQ.out.1]
              have hsz6 := H3.out.2.size
              have hzl : (zl r fun t_1 => ((D.ng (s (t + t_1)) : Nat) : Int)).length ≤ 1000000 := by rw [zl_len]; omega
              clear hy hcS
              have hbc : Below w6.heap.size w6 w6 := Below.refl _ _
              have hz : Below w1.heap.size w1 w6 := H3.out.2
              have htest := HK6.out _ hz.drew
              refine wp_region_noPanic ?_
              go_region_held3 (fun wx => wx.cell? ⟨bS, oS + i, none⟩ = some (.int .i64 (x : Nat)) ∧ wx.cell? ⟨w.heap.size, 0, none⟩ = some (.int .i64 D.q) ∧ wx.cell? ⟨w.heap.size, 1, none⟩ = some (.int .i64 D.p) ∧ wx.cell? ⟨w.heap.size, 2, none⟩ = some (.int .i64 D.m) ∧ wx.cell? ⟨w.heap.size, 3, none⟩ = some (.int .i64 gen) ∧ wx.cell? ⟨w.heap.size, 4, none⟩ = some (.slice (some ⟨gm, 0, none⟩) (D.m + 1) cm))
                (first | go_keep | exact HK6.out _ (by first | exact hz | exact hz.drew | exact hz.alloc hz.size _ | exact hz.drew.alloc hz.size _))
                (first
                  | (go_at_call 73; refine (HC1.out _).mono ?_; rintro e w2 ⟨rfl, hb2⟩; replace hbc : Below w6.heap.size w6 w2 := bel_up' (by first | exact hbc | exact hbc.drew | exact hbc.alloc hbc.size _ | exact hbc.drew.alloc hbc.size _) hb2; replace hz : Below w1.heap.size w1 w2 := bel_up' H3.out.2 hbc)
                  | (refine step_append_int_at (by rfl) _ _ (by rfl) w1.heap.size u9 (zl r fun t_1 => ((D.ng (s (t + t_1)) : Nat) : Int)) (by rfl) ((H3.out.1.below (by first | exact hbc | exact hbc.drew | exact hbc.alloc hbc.size _ | exact hbc.drew.alloc hbc.size _)).ob) ⟨_, 0, none⟩ 1 (y : Int) (by rfl) (by simp) hzl (by have := hbc.size; first | omega | (simp; omega)) ?_; intro g9 c9 w9 hown9 hgrow9 hat9; replace hz : Below w1.heap.size w1 w9 := Below.grown (by first | exact hz | exact hz.drew | exact hz.alloc hz.size _ | exact hz.drew.alloc hz.size _) hgrow9 (by have := hbc.size; first | omega | (simp; omega)) (fun k hk => (H3.out.1.ob.lt k hk).1))
                  | fail)
              all_goals
                have HR : Hid (ShS D s w1.heap.size t (r + 1) (r + 1) v' (fun j => if j = r then .slice bo t cb else vs j) (.slice (some ⟨g9, 0, none⟩) ((zl r fun t_1 => ((D.ng (s (t + t_1)) : Nat) : Int)).length + 1) c9) w9 ∧ Below w1.heap.size w1 w9) := by
                  refine ⟨ShS.more (H3.out.1.below (by first | exact hbc.alloc hbc.size _ | exact hbc.drew.alloc hbc.size _)) ?_ hgrow9 hat9, hz⟩
                  rw [← HY.out]; exact hown9
                have hcS9 := (HK6.out _ hz).1
                clear hown9 hgrow9 hat9 hz hbc htest hb2
                refine NoPanic.normal ?_
                cases bz with
                | false =>
                  have HZ : Hid (false = azr s t (r + 1)) := by show false = (azr s t r && decide (s (t + r) = 0)); rw [← H2.out.2.2.2.2]; rfl
                  go_wp2
                  go_roundw
                  case rel => exact ⟨i + 1, r + 1, _, false, by omega, rfl, by go_num, by rw [HQ.out.1]; rfl, HZ.out, HR.out⟩
                  case measure => simp [intOf]; omega
                | true =>
                  have HZ : Hid (zb = azr s t (r + 1)) := by show zb = (azr s t r && decide (s (t + r) = 0)); rw [← H2.out.2.2.2.2, HQ.out.2.2.1]; rfl
                  go_wp2
                  go_roundw
                  case rel => exact ⟨i + 1, r + 1, _, zb, by omega, rfl, by go_num, by rw [HQ.out.1]; rfl, HZ.out, HR.out⟩
                  case measure => simp [intOf]; omega
        · have hib : ¬ (i : Int) < (n : Int) := by omega
          have hir := HG.out.1
          have hrn : r = n - c := by omega
          have HB2 : Hid (Below wa.heap.size wa wA) := bel_up' HB.out HG.out.2.2.2
          by_cases hc0 : c = 0
          · subst hc0
            have hbz : bz = false := by
              rw [HG.out.2.1]
              cases e : azr s 0 r with
              | false => rfl
              | true =>
                obtain ⟨j, hj, hne⟩ := short_zero (fld HF.out.1) HF.out.2.2.2.2.1 hlt
                have := azr_iff e j (by omega)
                rw [Nat.zero_add] at this
                exact absurd this hne
            subst hbz
            clear hir hrn
            go_wp2
            go_roundw
            case rel => exact ⟨1, by omega, by go_num, HB2.out⟩
            case measure => simp [intOf]; omega
          · obtain ⟨c1, hc1⟩ : ∃ c1, c = c1 + 1 := ⟨c - 1, by omega⟩
            obtain ⟨mo, mc, hmv, hMat⟩ := HG.out.2.2.1.mks.matR (M := fun i => cutN c fun j => s (c + i - 1 - j)) hc1 (fun j _ t ht => by unfold cutN; rw [if_pos ht])
            obtain ⟨bo, cb, hbv, hArg⟩ := HG.out.2.2.1.ob.argL
            subst hmv
            subst hbv
            have hr0 : 0 < r := by omega
            have HC : Hid (Calls Try.prog 74 #[.agg #[.int .i64 D.q, .int .i64 D.p, .int .i64 D.m, .int .i64 gen, .slice (some ⟨gm, 0, none⟩) (D.m + 1) cm], .slice mo r mc, .slice bo r cb] wA fun e w' => e = .returned (.tuple #[.slice none 0 0, .bool false]) ∧ Below wA.heap.size wA w') := by
              have F' := fld HF.out.1
              refine (rsolve_any HF.out.1 gen gm cm (b := fun i => D.ng (s (c + i))) hc1 hr0 (by omega) (by omega) (fun i _ => ⟨fun j => by unfold cutN; split; exact HF.out.2.2.2.1 _; exact zero_lt' F', fun j hj => by unfold cutN; rw [if_neg (by omega)]⟩) hMat (fun j hj => hArg.sl j hj) (fun i _ => ng_lt F' (HF.out.2.2.2.1 _)) (HF.out.2.2.2.2.2.1.below HB2.out)).mono ?_
              rintro e w' ⟨hb, k, R, p, _, hR, hsp, hres⟩
              rcases hres with ⟨_, rfl⟩ | ⟨hp, _⟩
              · exact ⟨rfl, hb⟩
              · rw [hrn] at hsp
                exact absurd hp (short_no F' HF.out.2.2.2.1 HF.out.2.2.2.2.1 hlt hR hsp)
            have hbx := HX.out.1.below (B := wa.heap.size) HB2.out (by have := HX.out.2; omega)
            obtain ⟨k0, k1, k2, k3, k4⟩ := hbx
            have hcz : (((c : Nat) : Int) == 0) = false := by rw [beq_eq_false_iff_ne]; omega
            have hrz : (((r : Nat) : Int) == 0) = false := by rw [beq_eq_false_iff_ne]; omega
            clear hir hrn hMat hArg hc1 HG
            go_wp2_with fail
            refine HC.out.mono ?_
            rintro e w5 ⟨rfl, hb5⟩
            have H5 : Hid (Below wa.heap.size wa w5) := bel_up' HB2.out hb5
            clear hb5 k0 k1 k2 k3 k4
            go_wp2
            go_roundw
            case rel => exact ⟨c + 1, by omega, by go_num, H5.out⟩
            case measure => simp [intOf]; omega
    · have hcb : ¬ (c : Int) < (L : Int) := by omega
      go_wp2
      go_ret
      exact ⟨rfl, bel_up' HF.out.2.2.2.2.2.2 HB.out⟩
end Go.Proofs.Ytnjbnamcedfjaaa
