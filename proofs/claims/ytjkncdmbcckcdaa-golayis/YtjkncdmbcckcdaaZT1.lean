/- The reference's matrices: a row less another (less). -/
import Derived.Test.YtjkncdmbcckcdaaZS2
import Derived.Test.YtjkncdmbcckcdaaZL10
namespace Go.Proofs.Ytjkncdmbcckcdaa
open Go.RowKit Go.Sort

/-- Numbers that are elements, in a list of the call's own. -/
theorem elm_of_own {base n : Nat} {v : Value} {c : Nat → Nat} {w : World} (h : OwnI base v (zl (n + 1) fun j => ((c j : Nat) : Int)) w) : Elm v (n, c) w ∧ ∀ k, v.ownBlock = some k → base ≤ k := by
  have h2 := h.ownC c (fun k hk => by rw [zl_len] at hk; exact zl_getD _ _ k hk)
  rw [zl_len] at h2
  exact ⟨h2.elm, h2.block⟩

set_option maxHeartbeats 8000000 in
set_option maxRecDepth 100000 in
theorem rless_any {D : FD} (hD : D ∈ fieldsL) (gen gm cm : Nat) {vr vo : Value} {n c : Nat} {r o : Nat → Nat} {w : World} (hn : n ≤ 1000) (hr : El D r) (ho : El D o) (hc : c < D.q) (hvr : Elm vr (n, r) w) (hvo : Elm vo (n, o) w) (hM : ModAt D (.slice (some ⟨gm, 0, none⟩) (D.m + 1) cm) D.md w) :
    Calls Try.prog 123 #[.agg #[.int .i64 D.q, .int .i64 D.p, .int .i64 D.m, .int .i64 gen, .slice (some ⟨gm, 0, none⟩) (D.m + 1) cm], vr, vo, .int .i64 c] w fun e w' => ∃ v, e = .returned v ∧ Elm v (n, plss D r o c) w' ∧ (∀ k, v.ownBlock = some k → w.heap.size ≤ k) ∧ Below w.heap.size w w' := by
  obtain ⟨gr, cr, rfl, _, _, hrr⟩ := hvr
  obtain ⟨go, co, rfl, _, _, hro⟩ := hvo
  have hbl : Below w.heap.size w (w.alloc (.cells #[.int .i64 D.q, .int .i64 D.p, .int .i64 D.m, .int .i64 gen, .slice (some ⟨gm, 0, none⟩) (D.m + 1) cm] 27)) := (Below.refl _ _).alloc (Nat.le_refl _) _
  have HF : Hid (D ∈ fieldsL ∧ El D r ∧ El D o ∧ Row gr (n + 1) r w ∧ Row go (n + 1) o w ∧ ModAt D (.slice (some ⟨gm, 0, none⟩) (D.m + 1) cm) D.md w) := ⟨hD, hr, ho, hrr, hro, hM⟩
  have HB0 : Hid (Box w.heap.size D gen (.slice (some ⟨gm, 0, none⟩) (D.m + 1) cm) (w.alloc (.cells #[.int .i64 D.q, .int .i64 D.p, .int .i64 D.m, .int .i64 gen, .slice (some ⟨gm, 0, none⟩) (D.m + 1) cm] 27)) ∧ Below w.heap.size w (w.alloc (.cells #[.int .i64 D.q, .int .i64 D.p, .int .i64 D.m, .int .i64 gen, .slice (some ⟨gm, 0, none⟩) (D.m + 1) cm] 27))) := ⟨box_new D gen _ w, hbl⟩
  clear hD hr ho hrr hro hM hbl
  go_enter Try.func123, Try.ntmps123
  go_wp2
  go_loopw [9, 10] (fun vl i wr => ∃ j : Nat, j ≤ n + 1 ∧ i = .int .i64 j ∧ Hid (OwnI (w.heap.size + 1) vl (zl j fun k => ((plss D r o c k : Nat) : Int)) wr ∧ Below w.heap.size w wr ∧ Box w.heap.size D gen (.slice (some ⟨gm, 0, none⟩) (D.m + 1) cm) wr) ∧ w.heap.size < wr.heap.size) (fun _ i _ => n + 1 - (intOf i).toNat)
  case atStart => exact ⟨0, by omega, rfl, ⟨OwnI.nil _ _, HB0.out.2, HB0.out.1⟩, by simp⟩
  case round =>
    clear HB0
    obtain ⟨j, hj, rfl, HG, hsz⟩ := hrel
    by_cases hlt : j < n + 1
    · have hib : (j : Int) < (n : Int) + 1 := by omega
      have hib0 : (0 : Int) ≤ (j : Int) := by omega
      obtain ⟨x, hx⟩ : ∃ x, x = r j := ⟨_, rfl⟩
      obtain ⟨y, hy⟩ : ∃ y, y = o j := ⟨_, rfl⟩
      obtain ⟨u, hu⟩ : ∃ u, u = plss D r o c j := ⟨_, rfl⟩
      have hc1 : wr.cell? ⟨gr, j, none⟩ = some (.int .i64 (x : Nat)) := by rw [hx]; exact (HF.out.2.2.2.1.below HG.out.2.1 HF.out.2.2.2.1.lt).cell j hlt
      have hc2 : wr.cell? ⟨go, j, none⟩ = some (.int .i64 (y : Nat)) := by rw [hy]; exact (HF.out.2.2.2.2.1.below HG.out.2.1 HF.out.2.2.2.2.1.lt).cell j hlt
      have HX : Hid (x = r j ∧ y = o j ∧ u = plss D r o c j) := ⟨hx, hy, hu⟩
      clear hx hy hu
      obtain ⟨bz, hbz⟩ : ∃ bz, bz = decide (¬ (c = 0 ∨ y = 0)) := ⟨_, rfl⟩
      have HBZ : Hid (bz = decide (¬ (c = 0 ∨ y = 0))) := hbz
      clear hbz
      go_upto_region 6 with fail
      go_cut [30] (fun vb wx => vb = .bool bz ∧ wx = wr)
      case first =>
        by_cases hz2 : c = 0
        · have hb1 : ((c : Int) != 0) = false := by rw [hz2]; rfl
          have hbz : bz = false := by rw [HBZ.out, decide_eq_false]; intro h; exact h (Or.inl hz2)
          clear hz2
          go_wp2
          go_meet
          case rel => exact ⟨by rw [hbz], rfl⟩
        · have hb1 : ((c : Int) != 0) = true := by rw [bne_iff_ne]; omega
          by_cases hz : y = 0
          · have hb2 : ((y : Int) != 0) = false := by rw [hz]; rfl
            have hbz : bz = false := by rw [HBZ.out, decide_eq_false]; intro h; exact h (Or.inr hz)
            clear hz2 hz
            go_wp2
            go_meet
            case rel => exact ⟨by rw [hbz], rfl⟩
          · have hb2 : ((y : Int) != 0) = true := by rw [bne_iff_ne]; omega
            have hbz : bz = true := by rw [HBZ.out, decide_eq_true]; omega
            clear hz2 hz
            go_wp2
            go_meet
            case rel => exact ⟨by rw [hbz], rfl⟩
      case rest =>
      obtain ⟨hv30, hwx⟩ := hcut
      have hwx := hwx.symm
      subst hv30 hwx
      go_upto_if 30 with fail
      go_cut [11] (fun vx wx => vx = .int .i64 (u : Nat) ∧ Hid (Below wr.heap.size wr wx))
      case first =>
        cases bz with
        | false =>
          have HU : Hid ((x : Int) = (u : Int)) := by
            show _ = _
            have hz : c = 0 ∨ y = 0 := by
              have h := HBZ.out
              exact Classical.byContradiction fun hn => by rw [decide_eq_true hn] at h; cases h
            have h := plss_zero (fld HF.out.1) o HF.out.2.1 (c := c) (k := j) (by rcases hz with h | h; exact Or.inl h; exact Or.inr (by rw [← HX.out.2.1]; exact h))
            rw [← HX.out.2.2, ← HX.out.1] at h
            omega
          go_wp2
          go_meet
          case rel => exact ⟨by rw [HU.out], Below.refl _ _⟩
        | true =>
          obtain ⟨m, hm⟩ : ∃ m, m = D.mul c y := ⟨_, rfl⟩
          have hxq : x < D.q := by rw [HX.out.1]; exact HF.out.2.1 j
          have hyq : y < D.q := by rw [HX.out.2.1]; exact HF.out.2.2.1 j
          have hmq : m < D.q := by rw [hm]; exact (fld HF.out.1).mul_lt _ _
          have k0 := cell_regrown HG.out.2.2.c0
          have k1 := cell_regrown HG.out.2.2.c1
          have k2 := cell_regrown HG.out.2.2.c2
          have k3 := cell_regrown HG.out.2.2.c3
          have k4 := cell_regrown HG.out.2.2.c4
          have k5 := cell_regrown hc2
          have HC1 : Hid (∀ d os, Calls Try.prog 55 #[.agg #[.int .i64 D.q, .int .i64 D.p, .int .i64 D.m, .int .i64 gen, .slice (some ⟨gm, 0, none⟩) (D.m + 1) cm], .int .i64 (c : Nat), .int .i64 (y : Nat)] (grow (redrawn wr d) os) fun e w'' => e = .returned (.int .i64 (m : Nat)) ∧ ∃ p : Regrown, w'' = grow (redrawn wr p.d) p.os) := fun d os => by
            rw [hm]
            exact Calls.regrown_of (rmul_nat HF.out.1 gen HF.out.2.2.2.2.2 c y hc hyq _ (bel_up' HG.out.2.1 (below_regrown wr d os)))
          have HC2 : Hid (∀ d os, Calls Try.prog 110 #[.agg #[.int .i64 D.q, .int .i64 D.p, .int .i64 D.m, .int .i64 gen, .slice (some ⟨gm, 0, none⟩) (D.m + 1) cm], .int .i64 (x : Nat), .int .i64 (m : Nat)] (grow (redrawn wr d) os) fun e w'' => e = .returned (.int .i64 (u : Nat)) ∧ ∃ p : Regrown, w'' = grow (redrawn wr p.d) p.os) := fun d os => by
            have h := rsub_any HF.out.1 gen (.slice (some ⟨gm, 0, none⟩) (D.m + 1) cm) (x : Nat) (m : Nat) (grow (redrawn wr d) os)
            rw [subZ_nat (fld HF.out.1) hxq hmq, show D.sb x m = u from by rw [HX.out.2.2, HX.out.1, hm, HX.out.2.1]; rfl] at h
            exact Calls.regrown_of h
          clear hm hc1 hc2
          go_wp2
          refine wp_region_quiet_below (by kernel_rfl) (by kernel_rfl) ?_
          repeat (go_big_quiet_step (first | (go_at_call 55; exact HC1.out _ _) | (go_at_call 110; exact HC2.out _ _)))
          refine wpQuiet_nil ?_
          intro _ hw'
          obtain ⟨⟨dq, osq⟩, hw''⟩ := hw'
          subst hw''
          have HBQ : Hid (Below wr.heap.size wr (grow (redrawn wr dq) osq)) := below_regrown wr dq osq
          clear k0 k1 k2 k3 k4 k5 HC1 HC2
          go_wp2
          go_meet
          case rel => exact ⟨rfl, HBQ.out⟩
      case rest =>
        obtain ⟨hv11, HBX⟩ := hcut
        subst hv11
        clear hc1 hc2
        have hsx := HBX.out.size
        have HGX : Hid (OwnI (w.heap.size + 1) u9 (zl j fun k => ((plss D r o c k : Nat) : Int)) wc ∧ Below w.heap.size w wc ∧ Box w.heap.size D gen (.slice (some ⟨gm, 0, none⟩) (D.m + 1) cm) wc) := ⟨HG.out.1.below HBX.out (fun k hk => (HG.out.1.lt k hk).2), bel_up' HG.out.2.1 HBX.out, HG.out.2.2.below HBX.out hsz⟩
        go_wp2_with (at_builtin; refine append_int rfl _ _ rfl (w.heap.size + 1) _ (zl j fun k => ((plss D r o c k : Nat) : Int)) rfl (HGX.out.1.alloc _) ⟨_, 0, none⟩ 1 u rfl (by simp) (by rw [zl_len]; omega) (by simp; omega) ?_; intro v2 w4 hown4 hg4)
        have hal : Below wc.heap.size wc (wc.alloc (.cells #[.int .i64 (u : Int)] 3)) := (Below.refl _ _).alloc (Nat.le_refl _) _
        have hs4 := hg4.size
        have HR : Hid (OwnI (w.heap.size + 1) v2 (zl (j + 1) fun k => ((plss D r o c k : Nat) : Int)) w4 ∧ Below w.heap.size w w4 ∧ Box w.heap.size D gen (.slice (some ⟨gm, 0, none⟩) (D.m + 1) cm) w4) := by
          refine ⟨by rw [zl_succ, ← HX.out.2.2]; exact hown4, (bel_up' HGX.out.2.1 hal).grown hg4 (by simp; omega) (fun k hk => by have := (HGX.out.1.lt k hk).1; omega), ?_⟩
          refine (HGX.out.2.2.below hal (by omega)).other (hg4.block w.heap.size (by simp; omega) fun e => ?_)
          have := (HGX.out.1.lt _ e.symm).1
          omega
        simp at hs4
        clear hown4 hg4 hal
        go_roundw
        case rel => exact ⟨j + 1, by omega, by go_num, HR.out, by omega⟩
        case measure => simp [intOf]; omega
    · have hib : ¬ (j : Int) < (n : Int) + 1 := by omega
      have hje : j = n + 1 := by omega
      subst hje
      go_wp2
      go_ret
      have h := elm_of_own HG.out.1
      exact ⟨_, rfl, h.1, fun k hk => by have := h.2 k hk; omega, HG.out.2.1⟩
end Go.Proofs.Ytjkncdmbcckcdaa
