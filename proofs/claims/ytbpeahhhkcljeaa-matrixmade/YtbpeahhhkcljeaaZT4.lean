/- The reference's matrices: products (Product). -/
import Derived.Test.YtbpeahhhkcljeaaZW9
namespace Go.Proofs.Ytbpeahhhkcljeaa
open Go.RowKit Go.Sort

/-- A row times a matrix: the first k numbers of the row. -/
def prodR (D : FD) (x : Nat → Nat) (B : Nat → Nat → Nat) : Nat → Nat → Nat
  | 0 => pnil
  | k + 1 => padd D (prodR D x B k) (pscale D (x k) (B k))
theorem prodR_el {D : FD} (F : Fld D) (x : Nat → Nat) (B : Nat → Nat → Nat) : ∀ k, El D (prodR D x B k)
  | 0 => el_nil F
  | k + 1 => el_add F (prodR_el F x B k) (el_scale F _ _)
theorem rl_succ (k n : Nat) (R : Nat → Nat → Nat) : rl (k + 1) n R = rl k n R ++ [(n, R k)] := by
  unfold rl
  rw [List.range_succ, List.map_append]; rfl

set_option maxHeartbeats 8000000 in
set_option maxRecDepth 100000 in
theorem rproduct_any {D : FD} (hD : D ∈ fieldsL) (gen gm cm : Nat) {ao bo : Option Addr} {m l n ca cb : Nat} {A B : Nat → Nat → Nat} {w : World} (hm : m ≤ 1000) (hl : l ≤ 1000) (hn : n ≤ 1000) (hA : ∀ i, i < m → El D (A i)) (hB : ∀ i, i < l + 1 → El D (B i)) (hMA : MatR ao m l A w) (hMB : MatR bo (l + 1) n B w) (hM : ModAt D (.slice (some ⟨gm, 0, none⟩) (D.m + 1) cm) D.md w) :
    Calls Try.prog 12 #[.agg #[.int .i64 D.q, .int .i64 D.p, .int .i64 D.m, .int .i64 gen, .slice (some ⟨gm, 0, none⟩) (D.m + 1) cm], .slice ao m ca, .slice bo (l + 1) cb] w fun e w' => ∃ v, e = .returned v ∧ LLs w.heap.size v (rl m n fun i => prodR D (A i) B (l + 1)) w' ∧ Below w.heap.size w w' := by
  have hbl : Below w.heap.size w (w.alloc (.cells #[.int .i64 D.q, .int .i64 D.p, .int .i64 D.m, .int .i64 gen, .slice (some ⟨gm, 0, none⟩) (D.m + 1) cm] 28)) := (Below.refl _ _).alloc (Nat.le_refl _) _
  have HF : Hid (D ∈ fieldsL ∧ (∀ i, i < m → El D (A i)) ∧ (∀ i, i < l + 1 → El D (B i)) ∧ MatR ao m l A w ∧ MatR bo (l + 1) n B w ∧ ModAt D (.slice (some ⟨gm, 0, none⟩) (D.m + 1) cm) D.md w) := ⟨hD, hA, hB, hMA, hMB, hM⟩
  have HB0 : Hid (Box w.heap.size D gen (.slice (some ⟨gm, 0, none⟩) (D.m + 1) cm) (w.alloc (.cells #[.int .i64 D.q, .int .i64 D.p, .int .i64 D.m, .int .i64 gen, .slice (some ⟨gm, 0, none⟩) (D.m + 1) cm] 28)) ∧ Below w.heap.size w (w.alloc (.cells #[.int .i64 D.q, .int .i64 D.p, .int .i64 D.m, .int .i64 gen, .slice (some ⟨gm, 0, none⟩) (D.m + 1) cm] 28))) := ⟨box_new D gen _ w, hbl⟩
  clear hD hA hB hMA hMB hM hbl
  go_enter Try.func12, Try.ntmps12
  go_wp2
  go_loopw [7, 8] (fun vl vi wr => ∃ i : Nat, i ≤ m ∧ vi = .int .i64 i ∧ Hid (LLs (w.heap.size + 1) vl (rl i n fun i => prodR D (A i) B (l + 1)) wr ∧ Below w.heap.size w wr ∧ Box w.heap.size D gen (.slice (some ⟨gm, 0, none⟩) (D.m + 1) cm) wr) ∧ w.heap.size < wr.heap.size) (fun _ vi _ => m - (intOf vi).toNat)
  case atStart => exact ⟨0, by omega, rfl, ⟨LLs.nil _ _, HB0.out.2, HB0.out.1⟩, by simp⟩
  case round =>
    clear HB0
    obtain ⟨i, hi, rfl, HG, hsz⟩ := hrel
    rename World => wA
    by_cases hlt : i < m
    · have hib : (i : Int) < (m : Int) := by omega
      have hib0 : (0 : Int) ≤ (i : Int) := by omega
      obtain ⟨bB, oB, ub, rfl, hcB, hrB⟩ := (HF.out.2.2.2.2.1.below HG.out.2.1) 0 (by omega)
      obtain ⟨Ab, cAb, rfl, _⟩ := hrB
      have hl0 : (0 : Int) < (l : Int) + 1 := by omega
      rw [Nat.add_zero] at hcB
      go_wp2_with (at_make; refine make_int rfl _ _ rfl _ (n + 1) rfl rfl (by omega) (by omega) ?_; intro w1 hown1 hgrow1)
      have HI : Hid (Row wA.heap.size (n + 1) pnil w1 ∧ Below wA.heap.size wA w1) := ⟨row_zeros hown1, below_grown hgrow1 (Nat.le_refl _) (fun k hk => by simp at hk)⟩
      clear hown1 hgrow1 hcB
      obtain ⟨g, hg⟩ : ∃ g, g = wA.heap.size := ⟨_, rfl⟩
      have HI2 : Hid (Row g (n + 1) pnil w1 ∧ Below wA.heap.size wA w1) := by rw [hg]; exact HI.out
      rw [← hg]
      have hgA : wA.heap.size ≤ g := by omega
      clear HI hg
      go_wp2_with fail
      go_loopw [10] (fun vk wi => ∃ k : Nat, k ≤ l + 1 ∧ vk = .int .i64 k ∧ Hid (Row g (n + 1) (prodR D (A i) B k) wi ∧ Below wA.heap.size wA wi)) (fun vk _ => l + 1 - (intOf vk).toNat)
      case atStart => exact ⟨0, by omega, rfl, HI2.out⟩
      case round =>
        clear HI2
        obtain ⟨k, hk, rfl, HK⟩ := hrel
        rename World => wB
        by_cases hkl : k < l + 1
        · have hkb : (k : Int) < (l : Int) + 1 := by omega
          have hkb0 : (0 : Int) ≤ (k : Int) := by omega
          go_wp2_with fail
          go_loopw [11] (fun vj wi => ∃ j : Nat, j ≤ n + 1 ∧ vj = .int .i64 j ∧ Hid (Row g (n + 1) (fun c => if c < j then prodR D (A i) B (k + 1) c else prodR D (A i) B k c) wi ∧ Below wA.heap.size wA wi)) (fun vj _ => n + 1 - (intOf vj).toNat)
          case atStart => exact ⟨0, by omega, rfl, HK.out.1.congr (fun c _ => by rw [if_neg (by omega)]), HK.out.2⟩
          case round =>
            clear HK
            obtain ⟨j, hj, rfl, HJ⟩ := hrel
            rename World => wC
            by_cases hjn : j < n + 1
            · have hjb : (j : Int) < (n : Int) + 1 := by omega
              have hjb0 : (0 : Int) ≤ (j : Int) := by omega
              have hbw := bel_up' HG.out.2.1 HJ.out.2
              obtain ⟨bA, oA, uA, rfl, hcA, hrA⟩ := (HF.out.2.2.2.1.below hbw) i hlt
              obtain ⟨xA, cxA, rfl, hsA, hlA, _⟩ := hrA
              obtain ⟨bx, ox, rfl, hcx⟩ := hsA k hkl
              obtain ⟨bB', oB', uB, eB, hcB, hrB⟩ := (HF.out.2.2.2.2.1.below hbw) k hkl
              cases eB
              obtain ⟨yB, cyB, rfl, hsB, hlB, _⟩ := hrB
              obtain ⟨by', oy, rfl, hcy⟩ := hsB j hjn
              obtain ⟨x, hx⟩ : ∃ x, x = A i k := ⟨_, rfl⟩
              obtain ⟨y, hy⟩ : ∃ y, y = B k j := ⟨_, rfl⟩
              obtain ⟨z, hz⟩ : ∃ z, z = prodR D (A i) B k j := ⟨_, rfl⟩
              obtain ⟨p, hp⟩ : ∃ p, p = D.mul x y := ⟨_, rfl⟩
              obtain ⟨u, hu⟩ : ∃ u, u = D.ad z p := ⟨_, rfl⟩
              have hcz : wC.cell? ⟨g, j, none⟩ = some (.int .i64 (z : Nat)) := by
                have h := HJ.out.1.cell j hjn
                rw [if_neg (by omega), ← hz] at h; exact h
              rw [← hx] at hcx
              rw [← hy] at hcy
              have F := fld HF.out.1
              have hxq : x < D.q := by rw [hx]; exact HF.out.2.1 i hlt k
              have hyq : y < D.q := by rw [hy]; exact HF.out.2.2.1 k hkl j
              have hzq : z < D.q := by rw [hz]; exact prodR_el F _ _ _ _
              have hpq : p < D.q := by rw [hp]; exact F.mul_lt _ _
              have hbx := HG.out.2.2.below HJ.out.2 hsz
              have k0 := cell_regrown hbx.c0
              have k1 := cell_regrown hbx.c1
              have k2 := cell_regrown hbx.c2
              have k3 := cell_regrown hbx.c3
              have k4 := cell_regrown hbx.c4
              have k5 := cell_regrown hcz
              have k6 := cell_regrown hcA
              have k7 := cell_regrown hcx
              have k8 := cell_regrown hcB
              have k9 := cell_regrown hcy
              have k10 := free_regrown HJ.out.1.lt (HJ.out.1.free j)
              have HC1 : Hid (∀ d os, Calls Try.prog 50 #[.agg #[.int .i64 D.q, .int .i64 D.p, .int .i64 D.m, .int .i64 gen, .slice (some ⟨gm, 0, none⟩) (D.m + 1) cm], .int .i64 (x : Nat), .int .i64 (y : Nat)] (grow (redrawn wC d) os) fun e w'' => e = .returned (.int .i64 (p : Nat)) ∧ ∃ p : Regrown, w'' = grow (redrawn wC p.d) p.os) := fun d os => by
                rw [hp]
                exact Calls.regrown_of (rmul_nat HF.out.1 gen HF.out.2.2.2.2.2 x y hxq hyq _ (bel_up' hbw (below_regrown wC d os)))
              have HC2 : Hid (∀ d os, Calls Try.prog 49 #[.agg #[.int .i64 D.q, .int .i64 D.p, .int .i64 D.m, .int .i64 gen, .slice (some ⟨gm, 0, none⟩) (D.m + 1) cm], .int .i64 (z : Nat), .int .i64 (p : Nat)] (grow (redrawn wC d) os) fun e w'' => e = .returned (.int .i64 (u : Nat)) ∧ ∃ p : Regrown, w'' = grow (redrawn wC p.d) p.os) := fun d os => by
                have h := radd_nat HF.out.1 gen (.slice (some ⟨gm, 0, none⟩) (D.m + 1) cm) z p hzq hpq (grow (redrawn wC d) os)
                rw [hu]
                exact Calls.regrown_of h
              have HV : Hid (∀ c, c < n + 1 → (if c < j + 1 then prodR D (A i) B (k + 1) c else prodR D (A i) B k c) = if c = j then u else if c < j then prodR D (A i) B (k + 1) c else prodR D (A i) B k c) := fun c _ => by
                by_cases e : c = j
                · rw [if_pos e, if_pos (by omega), hu, e, hz, hp, hx, hy]; rfl
                · rw [if_neg e]
                  by_cases e2 : c < j
                  · rw [if_pos e2, if_pos (by omega)]
                  · rw [if_neg e2, if_neg (by omega)]
              clear hx hy hz hp hu hcz hcx hcy hcA hcB hbx hbw hsA hsB hlA hlB F
              go_wp2
              refine below_tail 25 (by kernel_rfl) (by kernel_rfl) ?_
              simp only [List.take_succ_cons, List.take_zero, List.drop_succ_cons, List.drop_zero]
              repeat (go_big_quiet_step (first | (go_at_call 50; exact HC1.out _ _) | (go_at_call 49; exact HC2.out _ _)))
              refine wpQuiet_nil ?_
              intro _ hw'
              obtain ⟨⟨ds, oss⟩, hw''⟩ := hw'
              subst hw''
              have hb7 := below_regrown wC ds oss
              have H7 : Hid (Row g (n + 1) (fun c => if c < j then prodR D (A i) B (k + 1) c else prodR D (A i) B k c) (grow (redrawn wC ds) oss) ∧ Below wA.heap.size wA (grow (redrawn wC ds) oss)) := ⟨HJ.out.1.below hb7 HJ.out.1.lt, bel_up' HJ.out.2 hb7⟩
              clear hb7
              go_wp2
              go_roundw
              case rel => exact ⟨j + 1, by omega, by go_num, H7.out.1.store j u HV.out, H7.out.2.setCell hgA _⟩
              case measure => simp [intOf]; omega
            · have hjb : ¬ (j : Int) < (n : Int) + 1 := by omega
              have HK2 : Hid (Row g (n + 1) (prodR D (A i) B (k + 1)) wC) := HJ.out.1.congr (fun c hc => by rw [if_pos (by omega)])
              go_wp2
              go_roundw
              case rel => exact ⟨k + 1, by omega, by go_num, HK2.out, HJ.out.2⟩
              case measure => simp [intOf]; omega
        · have hkb : ¬ (k : Int) < (l : Int) + 1 := by omega
          have hke : k = l + 1 := by omega
          subst hke
          obtain ⟨lst, hov, hels⟩ := HG.out.1
          have hll : lst.length ≤ 1000000 := by rw [hels.1, rl_len]; omega
          have HV : Hid (OwnV (w.heap.size + 1) u7 lst wB ∧ Elms lst (rl i n fun i => prodR D (A i) B (l + 1)) wB ∧ Elm (.slice (some ⟨g, 0, none⟩) (n + 1) (n + 1)) (n, prodR D (A i) B (l + 1)) wB) := ⟨hov.below HK.out.2 (Nat.le_refl _), hels.below HK.out.2 (Nat.le_refl _), ⟨g, n + 1, rfl, Nat.le_refl _, by show n + 1 ≤ 9223372036854775807; omega, HK.out.1⟩⟩
          have hsB := HK.out.2.size
          clear hov hels
          go_wp2_with (at_builtin; refine append_sl rfl _ _ rfl (w.heap.size + 1) u7 lst rfl (HV.out.1.below ((Below.refl _ _).alloc (Nat.le_refl _) _) (Nat.le_refl _)) ⟨wB.heap.size, 0, none⟩ 1 (.slice (some ⟨g, 0, none⟩) (n + 1) (n + 1)) rfl rfl (by rw [cell_of_row _ _ _ _ _ (0, 0) (two_new _)]; rfl) hll (by simp; omega) ?_; intro v' w6 hown6 hg6)
          have hal : Below wB.heap.size wB (wB.alloc (.cells #[.slice (some ⟨g, 0, none⟩) (n + 1) (n + 1)] 23)) := (Below.refl _ _).alloc (Nat.le_refl _) _
          have ho := HV.out.1.below hal (Nat.le_refl _)
          have hs6 := hg6.size
          have hbw := bel_up' HG.out.2.1 (bel_up' HK.out.2 hal)
          have HR : Hid (LLs (w.heap.size + 1) v' (rl (i + 1) n fun i => prodR D (A i) B (l + 1)) w6 ∧ Below w.heap.size w w6 ∧ Box w.heap.size D gen (.slice (some ⟨gm, 0, none⟩) (D.m + 1) cm) w6) := by
            refine ⟨⟨_, hown6, ?_⟩, hbw.grown hg6 (by simp; omega) (fun k hk => by have := ho.open_ge k hk; omega), ?_⟩
            · have h := ((HV.out.2.1.below hal (Nat.le_refl _)).snoc (HV.out.2.2.below hal (Nat.le_refl _))).grown ho hg6
              rw [rl_succ]; exact h
            · refine ((HG.out.2.2.below HK.out.2 hsz).below hal (by omega)).other (hg6.block w.heap.size (by simp; omega) fun e => ?_)
              have := ho.open_ge _ e.symm
              omega
          simp at hs6
          clear hown6 hg6 ho hbw hal
          go_roundw
          case rel => exact ⟨i + 1, by omega, by go_num, HR.out, by omega⟩
          case measure => simp [intOf]; omega
    · have hib : ¬ (i : Int) < (m : Int) := by omega
      have hie : i = m := by omega
      subst hie
      go_wp2
      go_ret
      exact ⟨_, rfl, HG.out.1.mono (by omega), HG.out.2.1⟩
end Go.Proofs.Ytbpeahhhkcljeaa
