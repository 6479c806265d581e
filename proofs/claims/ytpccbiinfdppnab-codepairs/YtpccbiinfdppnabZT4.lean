/- Texts of ours, one behind the other: T4 T5. -/
import Derived.Test.YtpccbiinfdppnabZW9
/- The reference's matrices: products (Product). -/
namespace Go.Proofs.Ytpccbiinfdppnab
open Go.RowKit Go.Sort

/-- A row times a matrix: the first k numbers of the row. -/
def prodR (D : FD) (x : Nat → Nat) (B : Nat → Nat → Nat) : Nat → Nat → Nat
  | 0 => pnil
  | k + 1 => padd D (prodR D x B k) (pscale D (x k) (B k))
theorem prodR_el {D : FD} (F : Fld D) (x : Nat → Nat) (B : Nat → Nat → Nat) : ∀ k, El D (prodR D x B k)
  | 0 => el_nil F
  | k + 1 => el_add F (prodR_el F x B k) (el_scale F _ _)
theorem prodR_bd {D : FD} (F : Fld D) (x : Nat → Nat) {B : Nat → Nat → Nat} {n : Nat} : ∀ k, (∀ i, i < k → Bd n (B i)) → Bd n (prodR D x B k)
  | 0, _ => fun _ _ => rfl
  | k + 1, h => fun c hc => by
    show D.ad (prodR D x B k c) (D.mul (x k) (B k c)) = 0
    rw [prodR_bd F x k (fun i hi => h i (by omega)) c hc, h k (by omega) c hc, mul0 F, ad_zero F (zero_lt' F)]

theorem rl_succ (k n : Nat) (R : Nat → Nat → Nat) : rl (k + 1) n R = rl k n R ++ [(n, R k)] := by
  unfold rl
  rw [List.range_succ, List.map_append]; rfl

set_option maxHeartbeats 8000000 in
set_option maxRecDepth 100000 in
theorem rproduct_any {D : FD} (hD : D ∈ fieldsL) (gen gm cm : Nat) {ao bo : Option Addr} {m l n ca cb : Nat} {A B : Nat → Nat → Nat} {w : World} (hm : m ≤ 1000) (hl : l ≤ 1000) (hn : n ≤ 1000) (hA : ∀ i, i < m → El D (A i)) (hB : ∀ i, i < l + 1 → El D (B i)) (hMA : MatR ao m l A w) (hMB : MatR bo (l + 1) n B w) (hM : ModAt D (.slice (some ⟨gm, 0, none⟩) (D.m + 1) cm) D.md w) :
    Calls Try.prog 44 #[.agg #[.int .i64 D.q, .int .i64 D.p, .int .i64 D.m, .int .i64 gen, .slice (some ⟨gm, 0, none⟩) (D.m + 1) cm], .slice ao m ca, .slice bo (l + 1) cb] w fun e w' => ∃ v, e = .returned v ∧ LLs w.heap.size v (rl m n fun i => prodR D (A i) B (l + 1)) w' ∧ Below w.heap.size w w' := by
  have hbl : Below w.heap.size w (w.alloc (.cells #[.int .i64 D.q, .int .i64 D.p, .int .i64 D.m, .int .i64 gen, .slice (some ⟨gm, 0, none⟩) (D.m + 1) cm] 65)) := (Below.refl _ _).alloc (Nat.le_refl _) _
  have HF : Hid (D ∈ fieldsL ∧ (∀ i, i < m → El D (A i)) ∧ (∀ i, i < l + 1 → El D (B i)) ∧ MatR ao m l A w ∧ MatR bo (l + 1) n B w ∧ ModAt D (.slice (some ⟨gm, 0, none⟩) (D.m + 1) cm) D.md w) := ⟨hD, hA, hB, hMA, hMB, hM⟩
  have HB0 : Hid (Box w.heap.size D gen (.slice (some ⟨gm, 0, none⟩) (D.m + 1) cm) (w.alloc (.cells #[.int .i64 D.q, .int .i64 D.p, .int .i64 D.m, .int .i64 gen, .slice (some ⟨gm, 0, none⟩) (D.m + 1) cm] 65)) ∧ Below w.heap.size w (w.alloc (.cells #[.int .i64 D.q, .int .i64 D.p, .int .i64 D.m, .int .i64 gen, .slice (some ⟨gm, 0, none⟩) (D.m + 1) cm] 65))) := ⟨box_new D gen _ w, hbl⟩
  clear hD hA hB hMA hMB hM hbl
  go_enter Try.func44, Try.ntmps44
  go_wp2
  go_loopw [7, 8] (fun vl vi wr => ∃ i : Nat, i ≤ m ∧ vi = .int .i64 i ∧ Hid (LLs (w.heap.size + 1) vl (rl i n fun i => prodR D (A i) B (l + 1)) wr ∧ Below w.heap.size w wr ∧ Box w.heap.size D gen (.slice (some ⟨gm, 0, none⟩) (D.m + 1) cm) wr) ∧ w.heap.size < wr.heap.size) (fun _ vi _ => m - (intOf vi).toNat)
  case atStart => exact ⟨0, by omega, rfl, ⟨LLs.nil _ _, HB0.out.2, HB0.out.1⟩, by simp⟩
  case round =>
    clear HB0
    obtain ⟨i, hi, rfl, HG, hsz⟩ := hrel
    rename World => wA
    by_cases hlt : i < m
    · have hib : (i : Int) < (m : Int) := by omega
      have hib0 : (0 : Int) ≤ (i : Int) := by omega
      obtain ⟨bB, oB, ub, rfl, hcB, hrB⟩ := (HF.out.2.2.2.2.1.below HG.out.2.1) 0 (by omega)
      obtain ⟨Ab, cAb, rfl, _⟩ := hrB
      have hl0 : (0 : Int) < (l : Int) + 1 := by omega
      rw [Nat.add_zero] at hcB
      go_wp2_with (at_make; refine make_int rfl _ _ rfl _ (n + 1) rfl rfl (by omega) (by omega) ?_; intro w1 hown1 hgrow1)
      have HI : Hid (Row wA.heap.size (n + 1) pnil w1 ∧ Below wA.heap.size wA w1) := ⟨row_zeros hown1, below_grown hgrow1 (Nat.le_refl _) (fun k hk => by simp at hk)⟩
      clear hown1 hgrow1 hcB
      obtain ⟨g, hg⟩ : ∃ g, g = wA.heap.size := ⟨_, rfl⟩
      have HI2 : Hid (Row g (n + 1) pnil w1 ∧ Below wA.heap.size wA w1) := by rw [hg]; exact HI.out
      rw [← hg]
      have hgA : wA.heap.size ≤ g := by omega
      clear HI hg
      go_wp2_with fail
      go_loopw [10] (fun vk wi => ∃ k : Nat, k ≤ l + 1 ∧ vk = .int .i64 k ∧ Hid (Row g (n + 1) (prodR D (A i) B k) wi ∧ Below wA.heap.size wA wi)) (fun vk _ => l + 1 - (intOf vk).toNat)
      case atStart => exact ⟨0, by omega, rfl, HI2.out⟩
      case round =>
        clear HI2
        obtain ⟨k, hk, rfl, HK⟩ := hrel
        rename World => wB
        by_cases hkl : k < l + 1
        · have hkb : (k : Int) < (l : Int) + 1 := by omega
          have hkb0 : (0 : Int) ≤ (k : Int) := by omega
          go_wp2_with fail
          go_loopw [11] (fun vj wi => ∃ j : Nat, j ≤ n + 1 ∧ vj = .int .i64 j ∧ Hid (Row g (n + 1) (fun c => if c < j then prodR D (A i) B (k + 1) c else prodR D (A i) B k c) wi ∧ Below wA.heap.size wA wi)) (fun vj _ => n + 1 - (intOf vj).toNat)
          case atStart => exact ⟨0, by omega, rfl, HK.out.1.congr (fun c _ => by rw [if_neg (by omega)]), HK.out.2⟩
          case round =>
            clear HK
            obtain ⟨j, hj, rfl, HJ⟩ := hrel
            rename World => wC
            by_cases hjn : j < n + 1
            · have hjb : (j : Int) < (n : Int) + 1 := by omega
              have hjb0 : (0 : Int) ≤ (j : Int) := by omega
              have hbw := bel_up' HG.out.2.1 HJ.out.2
              obtain ⟨bA, oA, uA, rfl, hcA, hrA⟩ := (HF.out.2.2.2.1.below hbw) i hlt
              obtain ⟨xA, cxA, rfl, hsA, hlA, _⟩ := hrA
              obtain ⟨bx, ox, rfl, hcx⟩ := hsA k hkl
              obtain ⟨bB', oB', uB, eB, hcB, hrB⟩ := (HF.out.2.2.2.2.1.below hbw) k hkl
              cases eB
              obtain ⟨yB, cyB, rfl, hsB, hlB, _⟩ := hrB
              obtain ⟨by', oy, rfl, hcy⟩ := hsB j hjn
              obtain ⟨x, hx⟩ : ∃ x, x = A i k := ⟨_, rfl⟩
              obtain ⟨y, hy⟩ : ∃ y, y = B k j := ⟨_, rfl⟩
              obtain ⟨z, hz⟩ : ∃ z, z = prodR D (A i) B k j := ⟨_, rfl⟩
              obtain ⟨p, hp⟩ : ∃ p, p = D.mul x y := ⟨_, rfl⟩
              obtain ⟨u, hu⟩ : ∃ u, u = D.ad z p := ⟨_, rfl⟩
              have hcz : wC.cell? ⟨g, j, none⟩ = some (.int .i64 (z : Nat)) := by
                have h := HJ.out.1.cell j hjn
                rw [if_neg (by omega), ← hz] at h; exact h
              rw [← hx] at hcx
              rw [← hy] at hcy
              have F := fld HF.out.1
              have hxq : x < D.q := by rw [hx]; exact HF.out.2.1 i hlt k
              have hyq : y < D.q := by rw [hy]; exact HF.out.2.2.1 k hkl j
              have hzq : z < D.q := by rw [hz]; exact prodR_el F _ _ _ _
              have hpq : p < D.q := by rw [hp]; exact F.mul_lt _ _
              have hbx := HG.out.2.2.below HJ.out.2 hsz
              have k0 := cell_regrown hbx.c0
              have k1 := cell_regrown hbx.c1
              have k2 := cell_regrown hbx.c2
              have k3 := cell_regrown hbx.c3
              have k4 := cell_regrown hbx.c4
              have k5 := cell_regrown hcz
              have k6 := cell_regrown hcA
              have k7 := cell_regrown hcx
              have k8 := cell_regrown hcB
              have k9 := cell_regrown hcy
              have k10 := free_regrown HJ.out.1.lt (HJ.out.1.free j)
              have HC1 : Hid (∀ d os, Calls Try.prog 85 #[.agg #[.int .i64 D.q, .int .i64 D.p, .int .i64 D.m, .int .i64 gen, .slice (some ⟨gm, 0, none⟩) (D.m + 1) cm], .int .i64 (x : Nat), .int .i64 (y : Nat)] (grow (redrawn wC d) os) fun e w'' => e = .returned (.int .i64 (p : Nat)) ∧ ∃ p : Regrown, w'' = grow (redrawn wC p.d) p.os) := fun d os => by
                rw [hp]
                exact Calls.regrown_of (rmul_nat HF.out.1 gen HF.out.2.2.2.2.2 x y hxq hyq _ (bel_up' hbw (below_regrown wC d os)))
              have HC2 : Hid (∀ d os, Calls Try.prog 84 #[.agg #[.int .i64 D.q, .int .i64 D.p, .int .i64 D.m, .int .i64 gen, .slice (some ⟨gm, 0, none⟩) (D.m + 1) cm], .int .i64 (z : Nat), .int .i64 (p : Nat)] (grow (redrawn wC d) os) fun e w'' => e = .returned (.int .i64 (u : Nat)) ∧ ∃ p : Regrown, w'' = grow (redrawn wC p.d) p.os) := fun d os => by
                have h := radd_nat HF.out.1 gen (.slice (some ⟨gm, 0, none⟩) (D.m + 1) cm) z p hzq hpq (grow (redrawn wC d) os)
                rw [hu]
                exact Calls.regrown_of h
              have HV : Hid (∀ c, c < n + 1 → (if c < j + 1 then prodR D (A i) B (k + 1) c else prodR D (A i) B k c) = if c = j then u else if c < j then prodR D (A i) B (k + 1) c else prodR D (A i) B k c) := fun c _ => by
                by_cases e : c = j
                · rw [if_pos e, if_pos (by omega), hu, e, hz, hp, hx, hy]; rfl
                · rw [if_neg e]
                  by_cases e2 : c < j
                  · rw [if_pos e2, if_pos (by omega)]
                  · rw [if_neg e2, if_neg (by omega)]
              clear hx hy hz hp hu hcz hcx hcy hcA hcB hbx hbw hsA hsB hlA hlB F
              go_wp2
              refine below_tail 25 (by kernel_rfl) (by kernel_rfl) ?_
              simp only [List.take_succ_cons, List.take_zero, List.drop_succ_cons, List.drop_zero]
              repeat (go_big_quiet_step (first | (go_at_call 85; exact HC1.out _ _) | (go_at_call 84; exact HC2.out _ _)))
              refine wpQuiet_nil ?_
              intro _ hw'
              obtain ⟨⟨ds, oss⟩, hw''⟩ := hw'
              subst hw''
              have hb7 := below_regrown wC ds oss
              have H7 : Hid (Row g (n + 1) (fun c => if c < j then prodR D (A i) B (k + 1) c else prodR D (A i) B k c) (grow (redrawn wC ds) oss) ∧ Below wA.heap.size wA (grow (redrawn wC ds) oss)) := ⟨HJ.out.1.below hb7 HJ.out.1.lt, bel_up' HJ.out.2 hb7⟩
              clear hb7
              go_wp2
              go_roundw
              case rel => exact ⟨j + 1, by omega, by go_num, H7.out.1.store j u HV.out, H7.out.2.setCell hgA _⟩
              case measure => simp [intOf]; omega
            · have hjb : ¬ (j : Int) < (n : Int) + 1 := by omega
              have HK2 : Hid (Row g (n + 1) (prodR D (A i) B (k + 1)) wC) := HJ.out.1.congr (fun c hc => by rw [if_pos (by omega)])
              go_wp2
              go_roundw
              case rel => exact ⟨k + 1, by omega, by go_num, HK2.out, HJ.out.2⟩
              case measure => simp [intOf]; omega
        · have hkb : ¬ (k : Int) < (l : Int) + 1 := by omega
          have hke : k = l + 1 := by omega
          subst hke
          obtain ⟨lst, hov, hels⟩ := HG.out.1
          have hll : lst.length ≤ 1000000 := by rw [hels.1, rl_len]; omega
          have HV : Hid (OwnV (w.heap.size + 1) u7 lst wB ∧ Elms lst (rl i n fun i => prodR D (A i) B (l + 1)) wB ∧ Elm (.slice (some ⟨g, 0, none⟩) (n + 1) (n + 1)) (n, prodR D (A i) B (l + 1)) wB) := ⟨hov.below HK.out.2 (Nat.le_refl _), hels.below HK.out.2 (Nat.le_refl _), ⟨g, n + 1, rfl, Nat.le_refl _, by show n + 1 ≤ 9223372036854775807; omega, HK.out.1⟩⟩
          have hsB := HK.out.2.size
          clear hov hels
          go_wp2_with (at_builtin; refine append_sl rfl _ _ rfl (w.heap.size + 1) u7 lst rfl (HV.out.1.below ((Below.refl _ _).alloc (Nat.le_refl _) _) (Nat.le_refl _)) ⟨wB.heap.size, 0, none⟩ 1 (.slice (some ⟨g, 0, none⟩) (n + 1) (n + 1)) rfl rfl (by rw [cell_of_row _ _ _ _ _ (0, 0) (two_new _)]; rfl) hll (by simp; omega) ?_; intro v' w6 hown6 hg6)
          have hal : Below wB.heap.size wB (wB.alloc (.cells #[.slice (some ⟨g, 0, none⟩) (n + 1) (n + 1)] 22)) := (Below.refl _ _).alloc (Nat.le_refl _) _
          have ho := HV.out.1.below hal (Nat.le_refl _)
          have hs6 := hg6.size
          have hbw := bel_up' HG.out.2.1 (bel_up' HK.out.2 hal)
          have HR : Hid (LLs (w.heap.size + 1) v' (rl (i + 1) n fun i => prodR D (A i) B (l + 1)) w6 ∧ Below w.heap.size w w6 ∧ Box w.heap.size D gen (.slice (some ⟨gm, 0, none⟩) (D.m + 1) cm) w6) := by
            refine ⟨⟨_, hown6, ?_⟩, hbw.grown hg6 (by simp; omega) (fun k hk => by have := ho.open_ge k hk; omega), ?_⟩
            · have h := ((HV.out.2.1.below hal (Nat.le_refl _)).snoc (HV.out.2.2.below hal (Nat.le_refl _))).grown ho hg6
              rw [rl_succ]; exact h
            · refine ((HG.out.2.2.below HK.out.2 hsz).below hal (by omega)).other (hg6.block w.heap.size (by simp; omega) fun e => ?_)
              have := ho.open_ge _ e.symm
              omega
          simp at hs6
          clear hown6 hg6 ho hbw hal
          go_roundw
          case rel => exact ⟨i + 1, by omega, by go_num, HR.out, by omega⟩
          case measure => simp [intOf]; omega
    · have hib : ¬ (i : Int) < (m : Int) := by omega
      have hie : i = m := by omega
      subst hie
      go_wp2
      go_ret
      exact ⟨_, rfl, HG.out.1.mono (by omega), HG.out.2.1⟩
end Go.Proofs.Ytpccbiinfdppnab

/- The reference's matrices: which may be (MatrixMay). -/
namespace Go.Proofs.Ytpccbiinfdppnab
open Go.RowKit Go.Sort

/-- A matrix that is handed in: m lists of whatever length. -/
structure MatZ (ao : Option Addr) (m : Nat) (A : Nat → Option Addr) (N C : Nat → Nat) (Z : Nat → Nat → Int) (w : World) : Prop where
  cell : ∀ i, i < m → ∃ b off, ao = some ⟨b, off, none⟩ ∧ w.cell? ⟨b, off + i, none⟩ = some (.slice (A i) (N i) (C i))
  sl : ∀ i, i < m → SlZ (A i) (N i) (Z i) w
  le : ∀ i, i < m → N i ≤ C i
  cap : ∀ i, i < m → C i ≤ 9223372036854775807
  nil : ∀ i, i < m → A i = none → C i = 0
  few : ∀ i, i < m → N i ≤ 1000000
theorem MatZ.below {ao : Option Addr} {m : Nat} {A : Nat → Option Addr} {N C : Nat → Nat} {Z : Nat → Nat → Int} {w w' : World} (h : MatZ ao m A N C Z w) (hb : Below w.heap.size w w') : MatZ ao m A N C Z w' :=
  ⟨fun i hi => by
    obtain ⟨b, off, e, hc⟩ := h.cell i hi
    exact ⟨b, off, e, ((bcell hb).1 b (off + i) (cell_lt hc)).trans hc⟩, fun i hi => slz_below (h.sl i hi) hb, h.le, h.cap, h.nil, h.few⟩
/-- What is said of a row of n numbers, where the first row has n0. -/
def FD.mrow (D : FD) (n0 n : Nat) (z : Nat → Int) : Int := if n ≠ n0 ∨ n = 0 then 3 else if 64 < n then 4 else if D.allHas z n = true then 0 else 2
def FD.mchks (D : FD) (N : Nat → Nat) (Z : Nat → Nat → Int) : Nat → Int
  | 0 => 0
  | k + 1 => if D.mchks N Z k = 0 then D.mrow (N 0) (N k) (Z k) else D.mchks N Z k
/-- What is said of a matrix. -/
def FD.mchk (D : FD) (m : Nat) (N : Nat → Nat) (Z : Nat → Nat → Int) : Int := if 64 < m then 4 else D.mchks N Z m
theorem mchks_keep {D : FD} {N : Nat → Nat} {Z : Nat → Nat → Int} {e : Int} (he : e ≠ 0) {r : Nat} (h : D.mchks N Z r = e) : ∀ d, D.mchks N Z (r + d) = e
  | 0 => h
  | d + 1 => by rw [← Nat.add_assoc, FD.mchks, mchks_keep he h d, if_neg he]
theorem mchks_to {D : FD} {N : Nat → Nat} {Z : Nat → Nat → Int} {e : Int} (he : e ≠ 0) {r m : Nat} (h0 : D.mchks N Z r = 0) (hr : r < m) (hm : ¬ 64 < m) (h : D.mrow (N 0) (N r) (Z r) = e) : D.mchk m N Z = e := by
  unfold FD.mchk
  rw [if_neg hm]
  have h1 : D.mchks N Z (r + 1) = e := by rw [FD.mchks, if_pos h0, h]
  have := mchks_keep he h1 (m - (r + 1))
  rwa [show r + 1 + (m - (r + 1)) = m from by omega] at this
theorem mrow_zero {D : FD} {n0 n : Nat} {z : Nat → Int} (h : D.mrow n0 n z = 0) : n = n0 ∧ 1 ≤ n ∧ n ≤ 64 ∧ D.allHas z n = true := by
  unfold FD.mrow at h
  by_cases h1 : n ≠ n0 ∨ n = 0
  · rw [if_pos h1] at h; cases h
  · rw [if_neg h1] at h
    by_cases h2 : 64 < n
    · rw [if_pos h2] at h; cases h
    · rw [if_neg h2] at h
      by_cases h3 : D.allHas z n = true
      · exact ⟨by omega, by omega, by omega, h3⟩
      · rw [if_neg h3] at h; cases h
theorem mchks_zero {D : FD} {N : Nat → Nat} {Z : Nat → Nat → Int} : ∀ {k : Nat}, D.mchks N Z k = 0 → ∀ i, i < k → D.mrow (N 0) (N i) (Z i) = 0
  | 0, _, i, hi => by omega
  | k + 1, h, i, hi => by
    rw [FD.mchks] at h
    by_cases h0 : D.mchks N Z k = 0
    · rw [if_pos h0] at h
      by_cases e : i = k
      · rw [e]; exact h
      · exact mchks_zero h0 i (by omega)
    · rw [if_neg h0] at h; exact absurd h h0
/-- The numbers of a matrix that may be. -/
def mzc (N : Nat → Nat) (Z : Nat → Nat → Int) : Nat → Nat → Nat := fun i => zc (N i) (Z i)
theorem mchk_rows {D : FD} (F : Fld D) {ao : Option Addr} {m : Nat} {A : Nat → Option Addr} {N C : Nat → Nat} {Z : Nat → Nat → Int} {w : World} (h : D.mchk m N Z = 0) (hA : MatZ ao m A N C Z w) (hm : 0 < m) :
    m ≤ 64 ∧ ∃ n, N 0 = n + 1 ∧ n < 64 ∧ (∀ i, i < m → N i = n + 1 ∧ El D (mzc N Z i) ∧ Bd (n + 1) (mzc N Z i)) ∧ MatR ao m n (mzc N Z) w := by
  unfold FD.mchk at h
  by_cases h64 : 64 < m
  · rw [if_pos h64] at h; cases h
  · rw [if_neg h64] at h
    have hrow := mchks_zero h
    have h0 := mrow_zero (hrow 0 hm)
    obtain ⟨n, hn⟩ : ∃ n, N 0 = n + 1 := ⟨N 0 - 1, by omega⟩
    have key : ∀ i, i < m → N i = n + 1 ∧ D.chk (N i) (Z i) = 0 := fun i hi => by
      have h1 := mrow_zero (hrow i hi)
      refine ⟨by omega, ?_⟩
      unfold FD.chk
      rw [if_neg (by omega), if_pos h1.2.2.2]
    refine ⟨by omega, n, hn, by omega, fun i hi => ⟨(key i hi).1, zc_el F (key i hi).2, by have := zc_bd (N i) (Z i); rw [(key i hi).1] at this; unfold mzc; rw [(key i hi).1]; exact this⟩, fun i hi => ?_⟩
    obtain ⟨b, off, e, hc⟩ := hA.cell i hi
    have hk := key i hi
    have hsl := zc_sl hk.2 (hA.sl i hi)
    refine ⟨b, off, _, e, hc, A i, C i, by rw [hk.1], ?_, ?_, hA.nil i hi, by have := hA.le i hi; omega, hA.cap i hi⟩
    · have : Sl (A i) (N i) (zc (N i) (Z i)) w := hsl
      rw [hk.1] at this
      unfold mzc; rw [hk.1]; exact this
    · intro x hx
      obtain ⟨b', off', e', hc'⟩ := hA.sl i hi 0 (by omega)
      rw [hx] at e'
      cases e'
      exact cell_lt hc'

set_option maxHeartbeats 2000000 in
set_option maxRecDepth 100000 in
theorem matrixMay_none (q : Int) (h : ∀ D ∈ fieldsL, (D.q : Int) ≠ q) (v : Value) (w : World) :
    Calls Try.prog 42 #[.int .i64 q, v] w fun e w' => e = .returned (.int .i64 1) ∧ Below w.heap.size w w' := by
  have HB : Hid (∀ D ∈ fieldsL, (D.q : Int) ≠ q) := h
  clear h
  go_enter Try.func42, Try.ntmps42
  go_wp2_with fail
  refine (rfield_none q w HB.out).mono ?_
  rintro e w1 ⟨rfl, hb1⟩
  have HW : Hid (Below w.heap.size w w1) := hb1
  clear hb1
  unfold rf0
  go_wp2
  go_ret
  exact ⟨rfl, by first | exact HW.out | exact HW.out.alloc HW.out.size _⟩

set_option maxHeartbeats 8000000 in
set_option maxRecDepth 100000 in
theorem matrixMay_any {D : FD} (hD : D ∈ fieldsL) {ao : Option Addr} {m ca : Nat} {A : Nat → Option Addr} {N C : Nat → Nat} {Z : Nat → Nat → Int} {w : World} (hA : MatZ ao m A N C Z w) (hm : m ≤ 1000000) :
    Calls Try.prog 42 #[.int .i64 D.q, .slice ao m ca] w fun e w' => e = .returned (.int .i64 (D.mchk m N Z)) ∧ Below w.heap.size w w' := by
  have HA : Hid (D ∈ fieldsL ∧ MatZ ao m A N C Z w) := ⟨hD, hA⟩
  clear hD hA
  go_enter Try.func42, Try.ntmps42
  go_wp2_with fail
  refine (rfield_sl HA.out.1 w).mono ?_
  rintro e w1 ⟨gm, cm, rfl, hmod, hb1⟩
  have HM : Hid (ModAt D (.slice (some ⟨gm, 0, none⟩) (D.m + 1) cm) D.md w1 ∧ Below w.heap.size w w1) := ⟨hmod, hb1⟩
  clear hmod hb1
  unfold rf
  have HB0 : Hid (Box w1.heap.size D D.gen (.slice (some ⟨gm, 0, none⟩) (D.m + 1) cm) (w1.alloc (.cells #[.int .i64 D.q, .int .i64 D.p, .int .i64 D.m, .int .i64 D.gen, .slice (some ⟨gm, 0, none⟩) (D.m + 1) cm] 65)) ∧ Below w.heap.size w (w1.alloc (.cells #[.int .i64 D.q, .int .i64 D.p, .int .i64 D.m, .int .i64 D.gen, .slice (some ⟨gm, 0, none⟩) (D.m + 1) cm] 65))) := ⟨box_new D D.gen _ w1, HM.out.2.alloc HM.out.2.size _⟩
  by_cases h64 : 64 < m
  · have hz : (64 : Int) < (m : Int) := by omega
    have HV : Hid (D.mchk m N Z = 4) := by show _ = _; unfold FD.mchk; rw [if_pos h64]
    go_wp2
    go_ret
    exact ⟨ret_int (by rw [HV.out]), HB0.out.2⟩
  · have hz : ¬ (64 : Int) < (m : Int) := by omega
    go_wp2_with fail
    go_loopw [7] (fun vi wr => ∃ i : Nat, i ≤ m ∧ vi = .int .i64 i ∧ Hid (D.mchks N Z i = 0 ∧ Box w1.heap.size D D.gen (.slice (some ⟨gm, 0, none⟩) (D.m + 1) cm) wr ∧ Below w.heap.size w wr) ∧ w1.heap.size < wr.heap.size) (fun vi _ => m - (intOf vi).toNat)
    case atStart => exact ⟨0, by omega, rfl, ⟨rfl, HB0.out.1, HB0.out.2⟩, by simp⟩
    case round =>
      clear HB0
      obtain ⟨i, hi, rfl, HG, hsz⟩ := hrel
      rename World => wA
      by_cases hlt : i < m
      · have hib : (i : Int) < (m : Int) := by omega
        have hib0 : (0 : Int) ≤ (i : Int) := by omega
        have hm0 : (0 : Int) < (m : Int) := by omega
        obtain ⟨b, off, rfl, hci⟩ := (HA.out.2.below HG.out.2.2).cell i hlt
        obtain ⟨b', off', e', hc0⟩ := (HA.out.2.below HG.out.2.2).cell 0 (by omega)
        cases e'
        rw [Nat.add_zero] at hc0
        obtain ⟨Ni, hNi⟩ : ∃ Ni, Ni = N i := ⟨_, rfl⟩
        obtain ⟨N0, hN0⟩ : ∃ N0, N0 = N 0 := ⟨_, rfl⟩
        rw [← hNi] at hci
        rw [← hN0] at hc0
        have hfew : Ni ≤ 1000000 := by rw [hNi]; exact HA.out.2.few i hlt
        have HN : Hid (Ni = N i ∧ N0 = N 0) := ⟨hNi, hN0⟩
        clear hNi hN0
        by_cases hne : Ni = N0
        · by_cases hz0 : Ni = 0
          · have HV : Hid (D.mchk m N Z = 3) := mchks_to (by omega) HG.out.1 hlt h64 (by unfold FD.mrow; rw [if_pos (Or.inr (by rw [← HN.out.1]; exact hz0))])
            have hq1 : ((Ni : Int) != (N0 : Int)) = false := by rw [hne]; simp
            have hq2 : ((Ni : Int) == 0) = true := by rw [hz0]; rfl
            clear hne hz0
            go_wp2
            go_quiet (fail)
            go_wp2
            go_ret
            exact ⟨ret_int (by rw [HV.out]), below_drewN2 HG.out.2.2 _⟩
          · have hq1 : ((Ni : Int) != (N0 : Int)) = false := by rw [hne]; simp
            have hq2 : ((Ni : Int) == 0) = false := by rw [beq_eq_false_iff_ne]; omega
            have HNE : Hid (Ni = N0 ∧ ¬ Ni = 0) := ⟨hne, hz0⟩
            clear hne hz0
            by_cases h6 : 64 < Ni
            · have hq3 : (64 : Int) < (Ni : Int) := by omega
              have HV : Hid (D.mchk m N Z = 4) := mchks_to (by omega) HG.out.1 hlt h64 (by unfold FD.mrow; rw [if_neg (by rw [← HN.out.1, ← HN.out.2]; have := HNE.out; omega), if_pos (by rw [← HN.out.1]; exact h6)])
              go_wp2
              go_quiet (fail)
              go_wp2
              go_ret
              exact ⟨ret_int (by rw [HV.out]), below_drewN2 HG.out.2.2 _⟩
            · have hq3 : ¬ (64 : Int) < (Ni : Int) := by omega
              go_wp2
              go_quiet (fail)
              go_wp2_with fail
              go_loopw [8] (fun vk wi => ∃ k : Nat, k ≤ Ni ∧ vk = .int .i64 k ∧ Hid (D.allHas (Z i) k = true ∧ Below wA.heap.size wA wi)) (fun vk _ => Ni - (intOf vk).toNat)
              case atStart => exact ⟨0, by omega, rfl, rfl, below_drewN2 (Below.refl _ _) _⟩
              case round =>
                obtain ⟨k, hk, rfl, HK⟩ := hrel
                rename World => wB
                obtain ⟨b', off', e', hciB⟩ := (HA.out.2.below (bel_up HG.out.2.2 HK.out.2)).cell i hlt
                cases e'
                rw [← HN.out.1] at hciB
                by_cases hkn : k < Ni
                · have hkb : (k : Int) < (Ni : Int) := by omega
                  have hkb0 : (0 : Int) ≤ (k : Int) := by omega
                  obtain ⟨bx, ox, eA, hcx⟩ := (HA.out.2.below (bel_up HG.out.2.2 HK.out.2)).sl i hlt k (by rw [← HN.out.1]; exact hkn)
                  rw [eA] at hciB
                  obtain ⟨x, hx⟩ : ∃ x, x = Z i k := ⟨_, rfl⟩
                  rw [← hx] at hcx
                  obtain ⟨bb, hbb⟩ : ∃ bb, bb = D.has x := ⟨_, rfl⟩
                  have hbx := HG.out.2.1.below HK.out.2 hsz
                  have k0 := cell_regrown hbx.c0
                  have k1 := cell_regrown hbx.c1
                  have k2 := cell_regrown hbx.c2
                  have k3 := cell_regrown hbx.c3
                  have k4 := cell_regrown hbx.c4
                  have k5 := cell_regrown hciB
                  have k6 := cell_regrown hcx
                  have HC : Hid (∀ d os, Calls Try.prog 77 #[.agg #[.int .i64 D.q, .int .i64 D.p, .int .i64 D.m, .int .i64 D.gen, .slice (some ⟨gm, 0, none⟩) (D.m + 1) cm], .int .i64 x] (grow (redrawn wB d) os) fun e w'' => e = .returned (.bool bb) ∧ ∃ p : Regrown, w'' = grow (redrawn wB p.d) p.os) := fun d os => by
                    rw [hbb]
                    exact Calls.regrown_of (rhas_any D D.gen _ x (grow (redrawn wB d) os))
                  have HX : Hid (x = Z i k ∧ bb = D.has x) := ⟨hx, hbb⟩
                  clear hx hbb hbx hcx
                  go_wp2
                  refine wp_region_quiet_below (by kernel_rfl) (by kernel_rfl) ?_
                  repeat (go_big_quiet_step (first | (go_at_call 77; exact HC.out _ _)))
                  refine wpQuiet_nil ?_
                  intro _ hw'
                  obtain ⟨⟨dq, osq⟩, hw''⟩ := hw'
                  subst hw''
                  have HBQ : Hid (Below wA.heap.size wA (grow (redrawn wB dq) osq)) := bel_up HK.out.2 (below_regrown wB dq osq)
                  clear k0 k1 k2 k3 k4 k5 k6 HC
                  cases bb with
                  | true =>
                    have HK2 : Hid (D.allHas (Z i) (k + 1) = true) := by show _ = _; rw [FD.allHas, HK.out.1, ← HX.out.1, ← HX.out.2]; rfl
                    go_wp2
                    go_roundw
                    case rel => exact ⟨k + 1, by omega, by go_num, HK2.out, HBQ.out⟩
                    case measure => simp [intOf]; omega
                  | false =>
                    have HV : Hid (D.mchk m N Z = 2) := mchks_to (by omega) HG.out.1 hlt h64 (by
                      unfold FD.mrow
                      rw [if_neg (by rw [← HN.out.1, ← HN.out.2]; have := HNE.out; omega), if_neg (by rw [← HN.out.1]; exact h6), if_neg]
                      intro h
                      have h2 := allHas_iff.1 h k (by rw [← HN.out.1]; exact hkn)
                      rw [← HX.out.1, ← HX.out.2] at h2
                      cases h2)
                    go_wp2
                    go_ret
                    exact ⟨ret_int (by rw [HV.out]), bel_up HG.out.2.2 HBQ.out⟩
                · have hkb : ¬ (k : Int) < (Ni : Int) := by omega
                  have hke : k = Ni := by omega
                  have HS : Hid (D.mchks N Z (i + 1) = 0) := by
                    show _ = _
                    rw [FD.mchks, if_pos HG.out.1]
                    unfold FD.mrow
                    rw [if_neg (by rw [← HN.out.1, ← HN.out.2]; have := HNE.out; omega), if_neg (by rw [← HN.out.1]; exact h6), if_pos]
                    have h := HK.out.1
                    rw [hke, HN.out.1] at h; exact h
                  have hsB := HK.out.2.size
                  clear hke
                  go_wp2
                  go_roundw
                  case rel => exact ⟨i + 1, by omega, by go_num, ⟨HS.out, HG.out.2.1.below HK.out.2 hsz, bel_up HG.out.2.2 HK.out.2⟩, by omega⟩
                  case measure => simp [intOf]; omega
        · have hq1 : ((Ni : Int) != (N0 : Int)) = true := by rw [bne_iff_ne]; omega
          have HV : Hid (D.mchk m N Z = 3) := mchks_to (by omega) HG.out.1 hlt h64 (by unfold FD.mrow; rw [if_pos (Or.inl (by rw [← HN.out.1, ← HN.out.2]; exact hne))])
          clear hne
          go_wp2
          go_quiet (fail)
          go_wp2
          go_ret
          exact ⟨ret_int (by rw [HV.out]), below_drewN2 HG.out.2.2 _⟩
      · have hib : ¬ (i : Int) < (m : Int) := by omega
        have HV : Hid (D.mchk m N Z = 0) := by
          show _ = _
          unfold FD.mchk
          rw [if_neg h64, ← show i = m from by omega]
          exact HG.out.1
        go_wp2
        go_ret
        exact ⟨ret_int (by rw [HV.out]), HG.out.2.2⟩
end Go.Proofs.Ytpccbiinfdppnab
