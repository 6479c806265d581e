/- Texts of ours, one behind the other: T4 T5 T6. -/
import Derived.Test.YtbofcldmgjeklaaZW9
/- The reference's matrices: products (Product). -/
namespace Go.Proofs.Ytbofcldmgjeklaa
open Go.RowKit Go.Sort

/-- A row times a matrix: the first k numbers of the row. -/
def prodR (D : FD) (x : Nat → Nat) (B : Nat → Nat → Nat) : Nat → Nat → Nat
  | 0 => pnil
  | k + 1 => padd D (prodR D x B k) (pscale D (x k) (B k))
theorem prodR_el {D : FD} (F : Fld D) (x : Nat → Nat) (B : Nat → Nat → Nat) : ∀ k, El D (prodR D x B k)
  | 0 => el_nil F
  | k + 1 => el_add F (prodR_el F x B k) (el_scale F _ _)
theorem rl_succ (k n : Nat) (R : Nat → Nat → Nat) : rl (k + 1) n R = rl k n R ++ [(n, R k)] := by
  unfold rl
  rw [List.range_succ, List.map_append]; rfl

set_option maxHeartbeats 8000000 in
set_option maxRecDepth 100000 in
theorem rproduct_any {D : FD} (hD : D ∈ fieldsL) (gen gm cm : Nat) {ao bo : Option Addr} {m l n ca cb : Nat} {A B : Nat → Nat → Nat} {w : World} (hm : m ≤ 1000) (hl : l ≤ 1000) (hn : n ≤ 1000) (hA : ∀ i, i < m → El D (A i)) (hB : ∀ i, i < l + 1 → El D (B i)) (hMA : MatR ao m l A w) (hMB : MatR bo (l + 1) n B w) (hM : ModAt D (.slice (some ⟨gm, 0, none⟩) (D.m + 1) cm) D.md w) :
    Calls Try.prog 43 #[.agg #[.int .i64 D.q, .int .i64 D.p, .int .i64 D.m, .int .i64 gen, .slice (some ⟨gm, 0, none⟩) (D.m + 1) cm], .slice ao m ca, .slice bo (l + 1) cb] w fun e w' => ∃ v, e = .returned v ∧ LLs w.heap.size v (rl m n fun i => prodR D (A i) B (l + 1)) w' ∧ Below w.heap.size w w' := by
  have hbl : Below w.heap.size w (w.alloc (.cells #[.int .i64 D.q, .int .i64 D.p, .int .i64 D.m, .int .i64 gen, .slice (some ⟨gm, 0, none⟩) (D.m + 1) cm] 31)) := (Below.refl _ _).alloc (Nat.le_refl _) _
  have HF : Hid (D ∈ fieldsL ∧ (∀ i, i < m → El D (A i)) ∧ (∀ i, i < l + 1 → El D (B i)) ∧ MatR ao m l A w ∧ MatR bo (l + 1) n B w ∧ ModAt D (.slice (some ⟨gm, 0, none⟩) (D.m + 1) cm) D.md w) := ⟨hD, hA, hB, hMA, hMB, hM⟩
  have HB0 : Hid (Box w.heap.size D gen (.slice (some ⟨gm, 0, none⟩) (D.m + 1) cm) (w.alloc (.cells #[.int .i64 D.q, .int .i64 D.p, .int .i64 D.m, .int .i64 gen, .slice (some ⟨gm, 0, none⟩) (D.m + 1) cm] 31)) ∧ Below w.heap.size w (w.alloc (.cells #[.int .i64 D.q, .int .i64 D.p, .int .i64 D.m, .int .i64 gen, .slice (some ⟨gm, 0, none⟩) (D.m + 1) cm] 31))) := ⟨box_new D gen _ w, hbl⟩
  clear hD hA hB hMA hMB hM hbl
  go_enter Try.func43, Try.ntmps43
  go_wp2
  go_loopw [7, 8] (fun vl vi wr => ∃ i : Nat, i ≤ m ∧ vi = .int .i64 i ∧ Hid (LLs (w.heap.size + 1) vl (rl i n fun i => prodR D (A i) B (l + 1)) wr ∧ Below w.heap.size w wr ∧ Box w.heap.size D gen (.slice (some ⟨gm, 0, none⟩) (D.m + 1) cm) wr) ∧ w.heap.size < wr.heap.size) (fun _ vi _ => m - (intOf vi).toNat)
  case atStart => exact ⟨0, by omega, rfl, ⟨LLs.nil _ _, HB0.out.2, HB0.out.1⟩, by simp⟩
  case round =>
    clear HB0
    obtain ⟨i, hi, rfl, HG, hsz⟩ := hrel
    rename World => wA
    by_cases hlt : i < m
    · have hib : (i : Int) < (m : Int) := by omega
      have hib0 : (0 : Int) ≤ (i : Int) := by omega
      obtain ⟨bB, oB, ub, rfl, hcB, hrB⟩ := (HF.out.2.2.2.2.1.below HG.out.2.1) 0 (by omega)
      obtain ⟨Ab, cAb, rfl, _⟩ := hrB
      have hl0 : (0 : Int) < (l : Int) + 1 := by omega
      rw [Nat.add_zero] at hcB
      go_wp2_with (at_make; refine make_int rfl _ _ rfl _ (n + 1) rfl rfl (by omega) (by omega) ?_; intro w1 hown1 hgrow1)
      have HI : Hid (Row wA.heap.size (n + 1) pnil w1 ∧ Below wA.heap.size wA w1) := ⟨row_zeros hown1, below_grown hgrow1 (Nat.le_refl _) (fun k hk => by simp at hk)⟩
      clear hown1 hgrow1 hcB
      obtain ⟨g, hg⟩ : ∃ g, g = wA.heap.size := ⟨_, rfl⟩
      have HI2 : Hid (Row g (n + 1) pnil w1 ∧ Below wA.heap.size wA w1) := by rw [hg]; exact HI.out
      rw [← hg]
      have hgA : wA.heap.size ≤ g := by omega
      clear HI hg
      go_wp2_with fail
      go_loopw [10] (fun vk wi => ∃ k : Nat, k ≤ l + 1 ∧ vk = .int .i64 k ∧ Hid (Row g (n + 1) (prodR D (A i) B k) wi ∧ Below wA.heap.size wA wi)) (fun vk _ => l + 1 - (intOf vk).toNat)
      case atStart => exact ⟨0, by omega, rfl, HI2.out⟩
      case round =>
        clear HI2
        obtain ⟨k, hk, rfl, HK⟩ := hrel
        rename World => wB
        by_cases hkl : k < l + 1
        · have hkb : (k : Int) < (l : Int) + 1 := by omega
          have hkb0 : (0 : Int) ≤ (k : Int) := by omega
          go_wp2_with fail
          go_loopw [11] (fun vj wi => ∃ j : Nat, j ≤ n + 1 ∧ vj = .int .i64 j ∧ Hid (Row g (n + 1) (fun c => if c < j then prodR D (A i) B (k + 1) c else prodR D (A i) B k c) wi ∧ Below wA.heap.size wA wi)) (fun vj _ => n + 1 - (intOf vj).toNat)
          case atStart => exact ⟨0, by omega, rfl, HK.out.1.congr (fun c _ => by rw [if_neg (by omega)]), HK.out.2⟩
          case round =>
            clear HK
            obtain ⟨j, hj, rfl, HJ⟩ := hrel
            rename World => wC
            by_cases hjn : j < n + 1
            · have hjb : (j : Int) < (n : Int) + 1 := by omega
              have hjb0 : (0 : Int) ≤ (j : Int) := by omega
              have hbw := bel_up' HG.out.2.1 HJ.out.2
              obtain ⟨bA, oA, uA, rfl, hcA, hrA⟩ := (HF.out.2.2.2.1.below hbw) i hlt
              obtain ⟨xA, cxA, rfl, hsA, hlA, _⟩ := hrA
              obtain ⟨bx, ox, rfl, hcx⟩ := hsA k hkl
              obtain ⟨bB', oB', uB, eB, hcB, hrB⟩ := (HF.out.2.2.2.2.1.below hbw) k hkl
              cases eB
              obtain ⟨yB, cyB, rfl, hsB, hlB, _⟩ := hrB
              obtain ⟨by', oy, rfl, hcy⟩ := hsB j hjn
              obtain ⟨x, hx⟩ : ∃ x, x = A i k := ⟨_, rfl⟩
              obtain ⟨y, hy⟩ : ∃ y, y = B k j := ⟨_, rfl⟩
              obtain ⟨z, hz⟩ : ∃ z, z = prodR D (A i) B k j := ⟨_, rfl⟩
              obtain ⟨p, hp⟩ : ∃ p, p = D.mul x y := ⟨_, rfl⟩
              obtain ⟨u, hu⟩ : ∃ u, u = D.ad z p := ⟨_, rfl⟩
              have hcz : wC.cell? ⟨g, j, none⟩ = some (.int .i64 (z : Nat)) := by
                have h := HJ.out.1.cell j hjn
                rw [if_neg (by omega), ← hz] at h; exact h
              rw [← hx] at hcx
              rw [← hy] at hcy
              have F := fld HF.out.1
              have hxq : x < D.q := by rw [hx]; exact HF.out.2.1 i hlt k
              have hyq : y < D.q := by rw [hy]; exact HF.out.2.2.1 k hkl j
              have hzq : z < D.q := by rw [hz]; exact prodR_el F _ _ _ _
              have hpq : p < D.q := by rw [hp]; exact F.mul_lt _ _
              have hbx := HG.out.2.2.below HJ.out.2 hsz
              have k0 := cell_regrown hbx.c0
              have k1 := cell_regrown hbx.c1
              have k2 := cell_regrown hbx.c2
              have k3 := cell_regrown hbx.c3
              have k4 := cell_regrown hbx.c4
              have k5 := cell_regrown hcz
              have k6 := cell_regrown hcA
              have k7 := cell_regrown hcx
              have k8 := cell_regrown hcB
              have k9 := cell_regrown hcy
              have k10 := free_regrown HJ.out.1.lt (HJ.out.1.free j)
              have HC1 : Hid (∀ d os, Calls Try.prog 59 #[.agg #[.int .i64 D.q, .int .i64 D.p, .int .i64 D.m, .int .i64 gen, .slice (some ⟨gm, 0, none⟩) (D.m + 1) cm], .int .i64 (x : Nat), .int .i64 (y : Nat)] (grow (redrawn wC d) os) fun e w'' => e = .returned (.int .i64 (p : Nat)) ∧ ∃ p : Regrown, w'' = grow (redrawn wC p.d) p.os) := fun d os => by
                rw [hp]
                exact Calls.regrown_of (rmul_nat HF.out.1 gen HF.out.2.2.2.2.2 x y hxq hyq _ (bel_up' hbw (below_regrown wC d os)))
              have HC2 : Hid (∀ d os, Calls Try.prog 58 #[.agg #[.int .i64 D.q, .int .i64 D.p, .int .i64 D.m, .int .i64 gen, .slice (some ⟨gm, 0, none⟩) (D.m + 1) cm], .int .i64 (z : Nat), .int .i64 (p : Nat)] (grow (redrawn wC d) os) fun e w'' => e = .returned (.int .i64 (u : Nat)) ∧ ∃ p : Regrown, w'' = grow (redrawn wC p.d) p.os) := fun d os => by
                have h := radd_nat HF.out.1 gen (.slice (some ⟨gm, 0, none⟩) (D.m + 1) cm) z p hzq hpq (grow (redrawn wC d) os)
                rw [hu]
                exact Calls.regrown_of h
              have HV : Hid (∀ c, c < n + 1 → (if c < j + 1 then prodR D (A i) B (k + 1) c else prodR D (A i) B k c) = if c = j then u else if c < j then prodR D (A i) B (k + 1) c else prodR D (A i) B k c) := fun c _ => by
                by_cases e : c = j
                · rw [if_pos e, if_pos (by omega), hu, e, hz, hp, hx, hy]; rfl
                · rw [if_neg e]
                  by_cases e2 : c < j
                  · rw [if_pos e2, if_pos (by omega)]
                  · rw [if_neg e2, if_neg (by omega)]
              clear hx hy hz hp hu hcz hcx hcy hcA hcB hbx hbw hsA hsB hlA hlB F
              go_wp2
              refine below_tail 25 (by kernel_rfl) (by kernel_rfl) ?_
              simp only [List.take_succ_cons, List.take_zero, List.drop_succ_cons, List.drop_zero]
              repeat (go_big_quiet_step (first | (go_at_call 59; exact HC1.out _ _) | (go_at_call 58; exact HC2.out _ _)))
              refine wpQuiet_nil ?_
              intro _ hw'
              obtain ⟨⟨ds, oss⟩, hw''⟩ := hw'
              subst hw''
              have hb7 := below_regrown wC ds oss
              have H7 : Hid (Row g (n + 1) (fun c => if c < j then prodR D (A i) B (k + 1) c else prodR D (A i) B k c) (grow (redrawn wC ds) oss) ∧ Below wA.heap.size wA (grow (redrawn wC ds) oss)) := ⟨HJ.out.1.below hb7 HJ.out.1.lt, bel_up' HJ.out.2 hb7⟩
              clear hb7
              go_wp2
              go_roundw
              case rel => exact ⟨j + 1, by omega, by go_num, H7.out.1.store j u HV.out, H7.out.2.setCell hgA _⟩
              case measure => simp [intOf]; omega
            · have hjb : ¬ (j : Int) < (n : Int) + 1 := by omega
              have HK2 : Hid (Row g (n + 1) (prodR D (A i) B (k + 1)) wC) := HJ.out.1.congr (fun c hc => by rw [if_pos (by omega)])
              go_wp2
              go_roundw
              case rel => exact ⟨k + 1, by omega, by go_num, HK2.out, HJ.out.2⟩
              case measure => simp [intOf]; omega
        · have hkb : ¬ (k : Int) < (l : Int) + 1 := by omega
          have hke : k = l + 1 := by omega
          subst hke
          obtain ⟨lst, hov, hels⟩ := HG.out.1
          have hll : lst.length ≤ 1000000 := by rw [hels.1, rl_len]; omega
          have HV : Hid (OwnV (w.heap.size + 1) u7 lst wB ∧ Elms lst (rl i n fun i => prodR D (A i) B (l + 1)) wB ∧ Elm (.slice (some ⟨g, 0, none⟩) (n + 1) (n + 1)) (n, prodR D (A i) B (l + 1)) wB) := ⟨hov.below HK.out.2 (Nat.le_refl _), hels.below HK.out.2 (Nat.le_refl _), ⟨g, n + 1, rfl, Nat.le_refl _, by show n + 1 ≤ 9223372036854775807; omega, HK.out.1⟩⟩
          have hsB := HK.out.2.size
          clear hov hels
          go_wp2_with (at_builtin; refine append_sl rfl _ _ rfl (w.heap.size + 1) u7 lst rfl (HV.out.1.below ((Below.refl _ _).alloc (Nat.le_refl _) _) (Nat.le_refl _)) ⟨wB.heap.size, 0, none⟩ 1 (.slice (some ⟨g, 0, none⟩) (n + 1) (n + 1)) rfl rfl (by rw [cell_of_row _ _ _ _ _ (0, 0) (two_new _)]; rfl) hll (by simp; omega) ?_; intro v' w6 hown6 hg6)
          have hal : Below wB.heap.size wB (wB.alloc (.cells #[.slice (some ⟨g, 0, none⟩) (n + 1) (n + 1)] 22)) := (Below.refl _ _).alloc (Nat.le_refl _) _
          have ho := HV.out.1.below hal (Nat.le_refl _)
          have hs6 := hg6.size
          have hbw := bel_up' HG.out.2.1 (bel_up' HK.out.2 hal)
          have HR : Hid (LLs (w.heap.size + 1) v' (rl (i + 1) n fun i => prodR D (A i) B (l + 1)) w6 ∧ Below w.heap.size w w6 ∧ Box w.heap.size D gen (.slice (some ⟨gm, 0, none⟩) (D.m + 1) cm) w6) := by
            refine ⟨⟨_, hown6, ?_⟩, hbw.grown hg6 (by simp; omega) (fun k hk => by have := ho.open_ge k hk; omega), ?_⟩
            · have h := ((HV.out.2.1.below hal (Nat.le_refl _)).snoc (HV.out.2.2.below hal (Nat.le_refl _))).grown ho hg6
              rw [rl_succ]; exact h
            · refine ((HG.out.2.2.below HK.out.2 hsz).below hal (by omega)).other (hg6.block w.heap.size (by simp; omega) fun e => ?_)
              have := ho.open_ge _ e.symm
              omega
          simp at hs6
          clear hown6 hg6 ho hbw hal
          go_roundw
          case rel => exact ⟨i + 1, by omega, by go_num, HR.out, by omega⟩
          case measure => simp [intOf]; omega
    · have hib : ¬ (i : Int) < (m : Int) := by omega
      have hie : i = m := by omega
      subst hie
      go_wp2
      go_ret
      exact ⟨_, rfl, HG.out.1.mono (by omega), HG.out.2.1⟩
end Go.Proofs.Ytbofcldmgjeklaa

/- The reference's matrices: which may be (MatrixMay). -/
namespace Go.Proofs.Ytbofcldmgjeklaa
open Go.RowKit Go.Sort

/-- A matrix that is handed in: m lists of whatever length. -/
structure MatZ (ao : Option Addr) (m : Nat) (A : Nat → Option Addr) (N C : Nat → Nat) (Z : Nat → Nat → Int) (w : World) : Prop where
  cell : ∀ i, i < m → ∃ b off, ao = some ⟨b, off, none⟩ ∧ w.cell? ⟨b, off + i, none⟩ = some (.slice (A i) (N i) (C i))
  sl : ∀ i, i < m → SlZ (A i) (N i) (Z i) w
  le : ∀ i, i < m → N i ≤ C i
  cap : ∀ i, i < m → C i ≤ 9223372036854775807
  nil : ∀ i, i < m → A i = none → C i = 0
  few : ∀ i, i < m → N i ≤ 1000000
theorem MatZ.below {ao : Option Addr} {m : Nat} {A : Nat → Option Addr} {N C : Nat → Nat} {Z : Nat → Nat → Int} {w w' : World} (h : MatZ ao m A N C Z w) (hb : Below w.heap.size w w') : MatZ ao m A N C Z w' :=
  ⟨fun i hi => by
    obtain ⟨b, off, e, hc⟩ := h.cell i hi
    exact ⟨b, off, e, ((bcell hb).1 b (off + i) (cell_lt hc)).trans hc⟩, fun i hi => slz_below (h.sl i hi) hb, h.le, h.cap, h.nil, h.few⟩
/-- What is said of a row of n numbers, where the first row has n0. -/
def FD.mrow (D : FD) (n0 n : Nat) (z : Nat → Int) : Int := if n ≠ n0 ∨ n = 0 then 3 else if 64 < n then 4 else if D.allHas z n = true then 0 else 2
def FD.mchks (D : FD) (N : Nat → Nat) (Z : Nat → Nat → Int) : Nat → Int
  | 0 => 0
  | k + 1 => if D.mchks N Z k = 0 then D.mrow (N 0) (N k) (Z k) else D.mchks N Z k
/-- What is said of a matrix. -/
def FD.mchk (D : FD) (m : Nat) (N : Nat → Nat) (Z : Nat → Nat → Int) : Int := if 64 < m then 4 else D.mchks N Z m
theorem mchks_keep {D : FD} {N : Nat → Nat} {Z : Nat → Nat → Int} {e : Int} (he : e ≠ 0) {r : Nat} (h : D.mchks N Z r = e) : ∀ d, D.mchks N Z (r + d) = e
  | 0 => h
  | d + 1 => by rw [← Nat.add_assoc, FD.mchks, mchks_keep he h d, if_neg he]
theorem mchks_to {D : FD} {N : Nat → Nat} {Z : Nat → Nat → Int} {e : Int} (he : e ≠ 0) {r m : Nat} (h0 : D.mchks N Z r = 0) (hr : r < m) (hm : ¬ 64 < m) (h : D.mrow (N 0) (N r) (Z r) = e) : D.mchk m N Z = e := by
  unfold FD.mchk
  rw [if_neg hm]
  have h1 : D.mchks N Z (r + 1) = e := by rw [FD.mchks, if_pos h0, h]
  have := mchks_keep he h1 (m - (r + 1))
  rwa [show r + 1 + (m - (r + 1)) = m from by omega] at this
theorem mrow_zero {D : FD} {n0 n : Nat} {z : Nat → Int} (h : D.mrow n0 n z = 0) : n = n0 ∧ 1 ≤ n ∧ n ≤ 64 ∧ D.allHas z n = true := by
  unfold FD.mrow at h
  by_cases h1 : n ≠ n0 ∨ n = 0
  · rw [if_pos h1] at h; cases h
  · rw [if_neg h1] at h
    by_cases h2 : 64 < n
    · rw [if_pos h2] at h; cases h
    · rw [if_neg h2] at h
      by_cases h3 : D.allHas z n = true
      · exact ⟨by omega, by omega, by omega, h3⟩
      · rw [if_neg h3] at h; cases h
theorem mchks_zero {D : FD} {N : Nat → Nat} {Z : Nat → Nat → Int} : ∀ {k : Nat}, D.mchks N Z k = 0 → ∀ i, i < k → D.mrow (N 0) (N i) (Z i) = 0
  | 0, _, i, hi => by omega
  | k + 1, h, i, hi => by
    rw [FD.mchks] at h
    by_cases h0 : D.mchks N Z k = 0
    · rw [if_pos h0] at h
      by_cases e : i = k
      · rw [e]; exact h
      · exact mchks_zero h0 i (by omega)
    · rw [if_neg h0] at h; exact absurd h h0
/-- The numbers of a matrix that may be. -/
def mzc (N : Nat → Nat) (Z : Nat → Nat → Int) : Nat → Nat → Nat := fun i => zc (N i) (Z i)
theorem mchk_rows {D : FD} (F : Fld D) {ao : Option Addr} {m : Nat} {A : Nat → Option Addr} {N C : Nat → Nat} {Z : Nat → Nat → Int} {w : World} (h : D.mchk m N Z = 0) (hA : MatZ ao m A N C Z w) (hm : 0 < m) :
    m ≤ 64 ∧ ∃ n, N 0 = n + 1 ∧ n < 64 ∧ (∀ i, i < m → N i = n + 1 ∧ El D (mzc N Z i) ∧ Bd (n + 1) (mzc N Z i)) ∧ MatR ao m n (mzc N Z) w := by
  unfold FD.mchk at h
  by_cases h64 : 64 < m
  · rw [if_pos h64] at h; cases h
  · rw [if_neg h64] at h
    have hrow := mchks_zero h
    have h0 := mrow_zero (hrow 0 hm)
    obtain ⟨n, hn⟩ : ∃ n, N 0 = n + 1 := ⟨N 0 - 1, by omega⟩
    have key : ∀ i, i < m → N i = n + 1 ∧ D.chk (N i) (Z i) = 0 := fun i hi => by
      have h1 := mrow_zero (hrow i hi)
      refine ⟨by omega, ?_⟩
      unfold FD.chk
      rw [if_neg (by omega), if_pos h1.2.2.2]
    refine ⟨by omega, n, hn, by omega, fun i hi => ⟨(key i hi).1, zc_el F (key i hi).2, by have := zc_bd (N i) (Z i); rw [(key i hi).1] at this; unfold mzc; rw [(key i hi).1]; exact this⟩, fun i hi => ?_⟩
    obtain ⟨b, off, e, hc⟩ := hA.cell i hi
    have hk := key i hi
    have hsl := zc_sl hk.2 (hA.sl i hi)
    refine ⟨b, off, _, e, hc, A i, C i, by rw [hk.1], ?_, ?_, hA.nil i hi, by have := hA.le i hi; omega, hA.cap i hi⟩
    · have : Sl (A i) (N i) (zc (N i) (Z i)) w := hsl
      rw [hk.1] at this
      unfold mzc; rw [hk.1]; exact this
    · intro x hx
      obtain ⟨b', off', e', hc'⟩ := hA.sl i hi 0 (by omega)
      rw [hx] at e'
      cases e'
      exact cell_lt hc'

end Go.Proofs.Ytbofcldmgjeklaa

/- The reference's matrices: Reduce's regions that draw their order, each by itself. -/
namespace Go.Proofs.Ytbofcldmgjeklaa
open Go.RowKit Go.Sort

/-- The region of a number in a piece of code. -/
def regionIn (n : Nat) : Code → Option Code
  | .region i o b => if i = n then some (.region i o b) else none
  | .seq a b => match regionIn n a with
    | some c => some c
    | none => regionIn n b
  | .block _ c => regionIn n c
  | .scope c => regionIn n c
  | .loop c => regionIn n c
  | .cond _ a b => match regionIn n a with
    | some c => some c
    | none => regionIn n b
  | _ => none

set_option maxHeartbeats 8000000 in
set_option maxRecDepth 100000 in
theorem red23 {D : FD} {gen gm cm n s a y gR rc t gs cs g9 c9 G : Nat} {wE : World} {Q : Exit → Act → World → Prop} {d : Nat → Nat} {x0 x1 x3 x4 x5 x7 x8 x10 x12 x13 x15 x16 x17 x18 x19 x20 x21 x22 x23 x24 x25 x26 x27 x28 x29 x30 x31 x32 x33 x34 x35 x36 x37 x38 x39 x40 x41 x42 x43 x44 x45 x46 x47 x48 x49 x50 x51 x52 x53 x54 x55 x56 x57 x58 x59 x60 x61 x62 x63 x64 x65 x66 x67 x68 x69 x70 x71 x72 x73 x74 x75 x76 x77 x78 x79 x80 x81 x82 x83 x84 x85 x86 x87 x88 x89 x90 x91 x92 x93 x94 x95 x96 x97 x98 x99 x100 x101 x102 x103 x104 x105 x106 x107 x108 x109 x110 x111 x112 x113 x114 x115 x116 x117 x118 x119 x120 x121 x122 x123 x124 x125 x126 x127 x128 x129 x130 x131 x132 x133 x134 x135 x136 x137 x138 x139 x140 x141 x142 x143 x144 x145 x146 x147 x148 : Value} {cd : Code} (hcd : cd = ((Try.f89.body.bind (regionIn 23)).getD .skip))
    (hsb : (s : Int) < (t : Int)) (hsb0 : (0 : Int) ≤ (s : Int)) (hab : (a : Int) < (n : Int) + 1) (hab0 : (0 : Int) ≤ (a : Int))
    (k0 : wE.cell? ⟨G, 0, none⟩ = some (.int .i64 D.q)) (k1 : wE.cell? ⟨G, 1, none⟩ = some (.int .i64 D.p)) (k2 : wE.cell? ⟨G, 2, none⟩ = some (.int .i64 D.m)) (k3 : wE.cell? ⟨G, 3, none⟩ = some (.int .i64 gen)) (k4 : wE.cell? ⟨G, 4, none⟩ = some (.slice (some ⟨gm, 0, none⟩) (D.m + 1) cm))
    (hcR : wE.cell? ⟨gR, s, none⟩ = some (.slice (some ⟨gs, 0, none⟩) (n + 1) cs)) (hcy : wE.cell? ⟨gs, a, none⟩ = some (.int .i64 (y : Nat)))
    (hLE : ∀ w1, Below wE.heap.size wE w1 → Calls Try.prog 109 #[.agg #[.int .i64 D.q, .int .i64 D.p, .int .i64 D.m, .int .i64 gen, .slice (some ⟨gm, 0, none⟩) (D.m + 1) cm], .slice (some ⟨gs, 0, none⟩) (n + 1) cs, .slice (some ⟨g9, 0, none⟩) (n + 1) c9, .int .i64 y] w1 fun e w' => ∃ v, e = .returned v ∧ Elm v (n, d) w' ∧ Below wE.heap.size wE w' ∧ w'.cell? ⟨gR, s, none⟩ = some (.slice (some ⟨gs, 0, none⟩) (n + 1) cs) ∧ w'.frozen? ⟨gR, s, none⟩ = false)
    (hQ : ∀ (y92 y93 y94 y95 y96 y97 y98 y99 y100 y101 y102 y103 y104 y105 y106 y107 y108 : Value) (g2 cc2 : Nat) (w2 : World), Elm (.slice (some ⟨g2, 0, none⟩) (n + 1) cc2) (n, d) w2 → Below wE.heap.size wE w2 → Q .normal ⟨#[x0, x1, .pointer (some ⟨G, 0, none⟩), x3, x4, x5, .slice (some ⟨gR, 0, none⟩) t rc, x7, x8, .slice (some ⟨g9, 0, none⟩) (n + 1) c9, x10, .int .i64 a, x12, x13, .int .i64 s, x15, x16, x17, x18, x19, x20, x21, x22, x23, x24, x25, x26, x27, x28, x29, x30, x31, x32, x33, x34, x35, x36, x37, x38, x39, x40, x41, x42, x43, x44, x45, x46, x47, x48, x49, x50, x51, x52, x53, x54, x55, x56, x57, x58, x59, x60, x61, x62, x63, x64, x65, x66, x67, x68, x69, x70, x71, x72, x73, x74, x75, x76, x77, x78, x79, x80, x81, x82, x83, x84, x85, x86, x87, x88, x89, x90, x91, y92, y93, y94, y95, y96, y97, y98, y99, y100, y101, y102, y103, y104, y105, y106, y107, y108, x109, x110, x111, x112, x113, x114, x115, x116, x117, x118, x119, x120, x121, x122, x123, x124, x125, x126, x127, x128, x129, x130, x131, x132, x133, x134, x135, x136, x137, x138, x139, x140, x141, x142, x143, x144, x145, x146, x147, x148], []⟩ (w2.setCell ⟨gR, s, none⟩ (.slice (some ⟨g2, 0, none⟩) (n + 1) cc2))) :
    cd.wp Try.prog Q ⟨#[x0, x1, .pointer (some ⟨G, 0, none⟩), x3, x4, x5, .slice (some ⟨gR, 0, none⟩) t rc, x7, x8, .slice (some ⟨g9, 0, none⟩) (n + 1) c9, x10, .int .i64 a, x12, x13, .int .i64 s, x15, x16, x17, x18, x19, x20, x21, x22, x23, x24, x25, x26, x27, x28, x29, x30, x31, x32, x33, x34, x35, x36, x37, x38, x39, x40, x41, x42, x43, x44, x45, x46, x47, x48, x49, x50, x51, x52, x53, x54, x55, x56, x57, x58, x59, x60, x61, x62, x63, x64, x65, x66, x67, x68, x69, x70, x71, x72, x73, x74, x75, x76, x77, x78, x79, x80, x81, x82, x83, x84, x85, x86, x87, x88, x89, x90, x91, x92, x93, x94, x95, x96, x97, x98, x99, x100, x101, x102, x103, x104, x105, x106, x107, x108, x109, x110, x111, x112, x113, x114, x115, x116, x117, x118, x119, x120, x121, x122, x123, x124, x125, x126, x127, x128, x129, x130, x131, x132, x133, x134, x135, x136, x137, x138, x139, x140, x141, x142, x143, x144, x145, x146, x147, x148], []⟩ wE := by
  have HLE : Hid (∀ w1, Below wE.heap.size wE w1 → Calls Try.prog 109 #[.agg #[.int .i64 D.q, .int .i64 D.p, .int .i64 D.m, .int .i64 gen, .slice (some ⟨gm, 0, none⟩) (D.m + 1) cm], .slice (some ⟨gs, 0, none⟩) (n + 1) cs, .slice (some ⟨g9, 0, none⟩) (n + 1) c9, .int .i64 y] w1 fun e w' => ∃ v, e = .returned v ∧ Elm v (n, d) w' ∧ Below wE.heap.size wE w' ∧ w'.cell? ⟨gR, s, none⟩ = some (.slice (some ⟨gs, 0, none⟩) (n + 1) cs) ∧ w'.frozen? ⟨gR, s, none⟩ = false) := hLE
  have HQ : Hid _ := hQ
  clear hLE hQ
  subst hcd
  conv => arg 2; whnf
  refine wp_region_noPanic ?_
  go_region_with (first
    | (go_at_call 109; refine (HLE.out _ ?_).mono ?_; (first | exact (Below.refl _ _).drew | exact Below.refl _ _ | exact below_drewN2 (Below.refl _ _) _); rintro e w2 ⟨v2, rfl, he2, hb2, hc2, hf2⟩; obtain ⟨g2, cc2, rfl, he21, he22, he23⟩ := he2))
  all_goals
    exact NoPanic.normal (HQ.out _ _ _ _ _ _ _ _ _ _ _ _ _ _ _ _ _ g2 cc2 w2 ⟨g2, cc2, rfl, he21, he22, he23⟩ hb2)

end Go.Proofs.Ytbofcldmgjeklaa
