/- Texts of ours, one behind the other: S100 KY15 KY16 KY17 KY18 KY19 KY20 KY21 S101 KY22 KY23 KY24. -/
import Derived.Test.YtbnkekeeceicaaaZKX7
import Derived.Test.YtbnkekeeceicaaaZI24
import Derived.Test.YtbnkekeeceicaaaZKY10
import Derived.Test.YtbnkekeeceicaaaZKF2
import Derived.Test.YtbnkekeeceicaaaZKW8
import Derived.Test.YtbnkekeeceicaaaZL1
import Derived.Test.YtbnkekeeceicaaaZKF6
import Derived.Test.YtbnkekeeceicaaaZKG1
import Derived.Test.YtbnkekeeceicaaaZL10
import Derived.Test.YtbnkekeeceicaaaZKF5
import Derived.Test.YtbnkekeeceicaaaZKW4
/- Nets: what spans h vectors that don't hang on each other has rank h; what is in a span adds nothing to its rank. No Go text here. -/
namespace Go.Proofs.Ytbnkekeeceicaaa

end Go.Proofs.Ytbnkekeeceicaaa

/- Nets: what Plan and NetPlanMay say is the same. -/
namespace Go.Proofs.Ytbnkekeeceicaaa
open Go.RowKit Go.Sort

end Go.Proofs.Ytbnkekeeceicaaa

/- Nets: which plans may be asked for, where there is no field (the reference's NetPlanMay). -/
namespace Go.Proofs.Ytbnkekeeceicaaa
open Go.RowKit Go.Sort

end Go.Proofs.Ytbnkekeeceicaaa

/- Nets: what the reference's Reduce tells of the vectors that come to a node. -/
namespace Go.Proofs.Ytbnkekeeceicaaa
open Go.RowKit Go.Sort

theorem tlN_mem {T : Nat → Int} {x : Int} : ∀ m a, a < m → T a = x → a ∈ tlN T x m
  | 0, _, h, _ => absurd h (by omega)
  | m + 1, a, h, e => by
    show a ∈ (if T m = x then tlN T x m ++ [m] else tlN T x m)
    by_cases c : a = m
    · rw [c] at e ⊢
      rw [if_pos e]; simp
    · have := tlN_mem m a (by omega) e
      split
      · exact List.mem_append_left _ this
      · exact this
theorem nmem_getD {l : List Nat} {a : Nat} (h : a ∈ l) : ∃ k, k < l.length ∧ l.getD k 0 = a := by
  obtain ⟨k, hk, e⟩ := List.mem_iff_getElem.1 h
  exact ⟨k, hk, by rw [List.getD_eq_getElem?_getD, List.getElem?_eq_getElem hk]; exact e⟩
/-- The vectors of m edges, in memory. -/
structure VcM (G m h : Nat) (vo : Nat → Nat) (V : Nat → Nat → Nat) (w : World) : Prop where
  row : RowF G m 22 (fun e => .slice (some ⟨vo e, 0, none⟩) h h) w
  vec : ∀ e, e < m → Row (vo e) h (V e) w
theorem VcM.below {G m h : Nat} {vo : Nat → Nat} {V : Nat → Nat → Nat} {w w' : World} (H : VcM G m h vo V w) (hb : Below w.heap.size w w') : VcM G m h vo V w' :=
  ⟨H.row.below hb H.row.lt, fun e he => (H.vec e he).below hb (H.vec e he).lt⟩
theorem VcM.mat {G m h : Nat} {vo : Nat → Nat} {V : Nat → Nat → Nat} {w : World} (H : VcM G m h vo V w) (hh : h ≤ 64) : MatZ (some ⟨G, 0, none⟩) m (fun e => some ⟨vo e, 0, none⟩) (fun _ => h) (fun _ => h) (fun e c => ((V e c : Nat) : Int)) w :=
  ⟨fun i hi => ⟨G, 0, rfl, by rw [Nat.zero_add]; exact H.row.cell i hi⟩, fun i hi j hj => ⟨vo i, 0, rfl, by rw [Nat.zero_add]; exact (H.vec i hi).cell j hj⟩, fun _ _ => Nat.le_refl _, fun _ _ => by omega, fun _ _ e => (by cases e), fun _ _ => by omega⟩
end Go.Proofs.Ytbnkekeeceicaaa

/- Nets: a plan that carries is told to carry (the reference's Carries). -/
namespace Go.Proofs.Ytbnkekeeceicaaa
open Go.RowKit Go.Sort

end Go.Proofs.Ytbnkekeeceicaaa

/- Nets: what both sides say of flows, cuts and plans, as one. -/
namespace Go.Proofs.Ytbnkekeeceicaaa
open Go.RowKit Go.Sort

theorem EdZ.congr {eo : Option Addr} {m : Nat} {F T F' T' : Nat → Int} {w : World} (h : EdZ eo m F T w) (he : ∀ i, i < m → F i = F' i ∧ T i = T' i) : EdZ eo m F' T' w := fun j hj => by
  obtain ⟨b, off, e, h0, h1⟩ := h j hj
  rw [(he j hj).1] at h0
  rw [(he j hj).2] at h1
  exact ⟨b, off, e, h0, h1⟩
end Go.Proofs.Ytbnkekeeceicaaa

/- NetSays: whatever it is given (the walk). -/
namespace Go.Proofs.Ytbnkekeeceicaaa
open Go.RowKit Go.Sort

end Go.Proofs.Ytbnkekeeceicaaa

/- NetSays out of raw numbers (NetMade). -/
namespace Go.Proofs.Ytbnkekeeceicaaa
open Go.RowKit Go.Sort

theorem pick_nt (x : Int) (q : Nat) (hx : I64 x) (h1 : 1 ≤ q) (h2 : q ≤ 1000) : ∃ M : Nat, M < q ∧ ∀ w : World, Calls Try.prog 7 #[.int .i64 x, .int .i64 (q : Nat)] w fun e w' => e = .returned (.int .i64 (M : Nat)) ∧ w' = w := by
  have h3 := pick_lo x (q : Int) (by omega)
  have h4 := pick_hi x (q : Int) (by omega)
  exact ⟨(pick x (q : Int)).toNat, by omega, fun w => by rw [Int.toNat_of_nonneg h3]; exact pick_any x q w hx.1 hx.2 (by omega) (by omega)⟩
end Go.Proofs.Ytbnkekeeceicaaa

/- Nets: the fewest edges out of a set are no more than those out of any; who knows all products knows the message. No Go text here. -/
namespace Go.Proofs.Ytbnkekeeceicaaa

theorem cuB_min {m : Nat} {F T : Nat → Nat} {t : Nat} : ∀ R r, r < R → (2 * r + 1).testBit t = false → (cuB m F T t R).1 ≤ cpS m F T (2 * r + 1).testBit
  | 0, r, h, _ => absurd h (by omega)
  | R + 1, r, h, hb => by
    rw [cuB]
    by_cases e : r = R
    · subst e
      rw [if_neg (by rw [hb]; decide)]
      split
      · exact Nat.le_refl _
      · split
        · rename_i c1 c2; show (cuB m F T t r).1 ≤ _; omega
        · rename_i c1 c2; omega
    · have ih := cuB_min (m := m) (F := F) (T := T) R r (by omega) hb
      split
      · exact ih
      · split
        · rename_i c1; show cpS m F T (2 * R + 1).testBit ≤ _; omega
        · split
          · exact ih
          · exact ih
theorem cuB_cut {n m : Nat} {F T : Nat → Nat} {t : Nat} (hN : Nt n m F T) (hn : 0 < n) (ht : t < n) {S : Nat → Bool} (h0 : S 0 = true) (hs : S t = false) : (cuB m F T t (2 ^ (n - 1))).1 ≤ cpS m F T S := by
  have hlt := bnm_lt S n
  have hb0 := bnm_bit S n 0
  rw [decide_eq_true hn, h0, Nat.testBit_zero] at hb0
  have hodd : bnm S n % 2 = 1 := of_decide_eq_true hb0
  have hp : 2 ^ n = 2 * 2 ^ (n - 1) := by
    obtain ⟨k, rfl⟩ : ∃ k, n = k + 1 := ⟨n - 1, by omega⟩
    rw [Nat.pow_succ]; simp; omega
  have he : bnm S n = 2 * (bnm S n / 2) + 1 := by omega
  have hbt := bnm_bit S n t
  rw [decide_eq_true ht, hs] at hbt
  have h1 := cuB_min (m := m) (F := F) (T := T) (t := t) (2 ^ (n - 1)) (bnm S n / 2) (by omega) (by rw [← he]; exact hbt)
  rw [← he] at h1
  rw [cpS_cg hN (S' := S) (fun v hv => by rw [bnm_bit, decide_eq_true hv]; rfl)] at h1
  exact h1
theorem cuB_top {n m : Nat} {F T : Nat → Nat} {t : Nat} (hN : Nt n m F T) (hn : 0 < n) (ht : t < n) (h0 : t ≠ 0) : (cuB m F T t (2 ^ (n - 1))).1 ≤ m :=
  Nat.le_trans (cuB_cut hN hn ht (S := fun v => decide (v = 0)) (by simp) (by simp [h0])) (cpS_le _ _ _ _)
/-- Rows that nothing but noughts makes 0 have full rank. -/
theorem inj_rank {D : FD} (F : Fld D) {h k m : Nat} {R M : Nat → Nat → Nat} {p : Nat → Nat} (hR : RRE D h k R p) (hS : ∀ v, Spn D (RowsOf k R) v ↔ Spn D (RowsOf m M) v) (he : ∀ i, i < m → El D (M i)) (hinj : ∀ x, El D x → (∀ i, i < m → dot D (M i) x h = 0) → ∀ c, c < h → x c = 0) : k = h := by
  have hall := nct_all hR.mono hR.lt
  by_cases c : 0 < nct k p h
  · have h1 := hinj (nul D R p k h 0) (nul_el F hR.el h 0) (fun i hi => dot_spn F ((hS _).2 (spn_mem F (he i hi) ⟨i, hi, rfl⟩)) (fun v hv => by
      obtain ⟨i, hi, rfl⟩ := hv
      exact nul_orth F hR hi c)) (fcs k p h 0) (fcs_ok h 0 c).1
    rw [nul_one c c, if_pos rfl] at h1
    cases h1
  · omega
/-- One solution alone. -/
theorem inj_one {D : FD} (F : Fld D) {h m : Nat} {M : Nat → Nat → Nat} {a b y : Nat → Nat} (ha : El D a) (hb : El D b) (hinj : ∀ x, El D x → (∀ i, i < m → dot D (M i) x h = 0) → ∀ c, c < h → x c = 0) (h1 : ∀ i, i < m → dot D (M i) a h = y i) (h2 : ∀ i, i < m → dot D (M i) b h = y i) : ∀ c, c < h → a c = b c := by
  intro c hc
  have h3 := hinj (linD D a 1 b) (linD_el F ha) (fun i hi => by
    rw [dot_lin F ha (one_lt' F), h1 i hi, h2 i hi, F.mul_comm, mul1 F (by rw [← h2 i hi]; exact dot_lt F _ _ _)]
    exact sb_self F (by rw [← h2 i hi]; exact dot_lt F _ _ _)) c hc
  refine sb_eq_zero F (ha c) (hb c) ?_
  have h4 : linD D a 1 b c = D.ad (a c) (D.mul (D.ng 1) (b c)) := rfl
  rw [h4, F.mul_comm, mul_ng F (one_lt' F), mul1 F (hb c)] at h3
  exact h3
end Go.Proofs.Ytbnkekeeceicaaa

/- Nets: what is heard where a plan is right (Send, Hear). -/
namespace Go.Proofs.Ytbnkekeeceicaaa
open Go.RowKit Go.Sort

/-- Solve and Rank, where just one message has these products. -/
theorem solveQ {D : FD} (hD : D ∈ fieldsL) {m n : Nat} {N : Nat → Nat} {Z : Nat → Nat → Int} {y : Nat → Int} {x : Nat → Nat} (h0 : D.mchk m N Z = 0) (hm : 0 < m) (hN : N 0 = n + 1) (hall : D.allHas y m = true) (hx : El D x)
    (hsol : ∀ i, i < m → dot D (mzc N Z i) x (n + 1) = zc m y i) (hinj : ∀ d, El D d → (∀ i, i < m → dot D (mzc N Z i) d (n + 1) = 0) → ∀ c, c < n + 1 → d c = 0) : SvQ D m N Z y true (n + 1) (fun c => ((x c : Nat) : Int)) (n + 1) := by
  obtain ⟨n', k, R, p, k2, R2, p2, hN0, hn64, hm64, hkm, hel, hok⟩ := mok_free hD h0 hm
  have e : n' = n := by omega
  subst e
  have F := fld hD
  have hbq : ∀ i, i < m → zc m y i < D.q := fun i hi => (allHas_lt hall i hi).1
  obtain ⟨kr, Rr, pr, _, hRr, hSr⟩ := rre_ex hD (m := m) (n := n' + 1 + 1) (R := aug (n' + 1) (mzc N Z) (zc m y)) (fun i hi => aug_el (hel i hi).1 (hbq i hi)) (fun i hi => aug_bd (hel i hi).2)
  have hno := met_no F hRr (fun i hi => (hel i hi).1) hbq hSr (u := x) (fun i hi => by rw [dt_dot]; exact hsol i hi)
  have hsl := slx_solves F hRr hno (fun i hi => (hel i hi).1) hbq hSr
  have hone : ∀ c, c < n' + 1 → slx Rr pr (n' + 1) kr c = x c := inj_one F (slx_el F kr hRr.el) hx hinj (fun i hi => by rw [← dt_dot]; exact hsl i hi) hsol
  intro ao A C ca bo cb w hA hy
  have hmo := hok ao A C w hA
  refine ⟨?_, ?_⟩
  · refine (msolve_any hD hA (by omega) hy).mono ?_
    rintro e w' ⟨hb, hr⟩
    rcases hr with ⟨h9, _⟩ | ⟨_, h9, _⟩ | ⟨_, _, k', R', p', W, _, hW, hR', hS', hc⟩
    · exact absurd h0 h9
    · rw [hall] at h9; cases h9
    · have hWe : W = n' + 1 := by rw [hW hm, hN0]
      subst hWe
      refine ⟨?_, hb⟩
      rcases hc with ⟨hc, _⟩ | ⟨hc, v, rfl, hki⟩
      · obtain ⟨i, hi, e9⟩ := solve_no F hR' hc hRr (fun v => (hS' v).trans (hSr v).symm)
        exact absurd e9 (hno i hi)
      · obtain ⟨hk, he, _⟩ := solve_yes F hR' hc hRr (fun v => (hS' v).trans (hSr v).symm)
        have hz : zl (n' + 1) (fun c => ((slx R' p' (n' + 1) k' c : Nat) : Int)) = zl (n' + 1) (fun c => ((x c : Nat) : Int)) := zl_congr (fun c hc => by rw [slx_congr (n' + 1) k' he, ← hk, hone c hc])
        rw [hz] at hki
        obtain ⟨xo, xc, rfl⟩ := hki.open
        exact ⟨xo, xc, rfl, hki⟩
  · have hk : k = n' + 1 := inj_rank F hmo.rre hmo.spn (fun i hi => (hel i hi).1) hinj
    have h9 := c_rank (ca := ca) hmo
    rw [hk] at h9
    exact h9
end Go.Proofs.Ytbnkekeeceicaaa

/- Nets: how many edges go out of a set with the source and without the sink (across). -/
namespace Go.Proofs.Ytbnkekeeceicaaa
open Go.RowKit Go.Sort

/-- The set that a number tells, with the source and without the sink. -/
def acS (M t : Nat) : Nat → Bool := fun v => decide (v = 0) || (!decide (v = t) && M.testBit v)
/-- Does an edge go out of it? -/
def acP (M t : Nat) (F T : Nat → Nat) : Nat → Bool := fun i => acS M t (F i) && !acS M t (T i)
/-- How many of the first. -/
def acN (M t : Nat) (F T : Nat → Nat) (i : Nat) : Nat := ct (acP M t F T) i
theorem acN_yes {M t : Nat} {F T : Nat → Nat} {i : Nat} (h : acP M t F T i = true) : acN M t F T (i + 1) = acN M t F T i + 1 := by
  show ct (acP M t F T) i + (if acP M t F T i = true then 1 else 0) = _
  rw [if_pos h]; rfl
theorem acN_no {M t : Nat} {F T : Nat → Nat} {i : Nat} (h : acP M t F T i = false) : acN M t F T (i + 1) = acN M t F T i := by
  show ct (acP M t F T) i + (if acP M t F T i = true then 1 else 0) = _
  rw [if_neg (by rw [h]; decide)]; rfl
theorem acN_cut {n m t M : Nat} {F T : Nat → Nat} (hN : Nt n m F T) (hn : 0 < n) (ht : t < n) (h0 : t ≠ 0) : (cuB m F T t (2 ^ (n - 1))).1 ≤ acN M t F T m :=
  cuB_cut hN hn ht (S := acS M t) (by unfold acS; simp) (by unfold acS; simp [h0])
set_option maxHeartbeats 8000000 in
set_option maxRecDepth 100000 in
theorem across_any {n m t M ec : Nat} {eo : Option Addr} {F T : Nat → Nat} {w : World} (hE : EdZ eo m (fun i => ((F i : Nat) : Int)) (fun i => ((T i : Nat) : Int)) w) (hN : Nt n m F T) (hn10 : n ≤ 10) (hm : m ≤ 24) (h0 : t ≠ 0) :
    Calls Try.prog 9 #[.agg #[.int .i64 (n : Nat), .slice eo m ec], .int .i64 (M : Nat), .int .i64 (t : Nat)] w fun e w' => e = .returned (.int .i64 (acN M t F T m : Nat)) ∧ Below w.heap.size w w' := by
  obtain ⟨wa, hwa⟩ : ∃ wa, wa = w.alloc (.cells #[.int .i64 (n : Nat), .slice eo m ec] 25) := ⟨_, rfl⟩
  have hba : Below w.heap.size w wa := by rw [hwa]; exact (Below.refl _ _).alloc (Nat.le_refl _) _
  obtain ⟨B, hB⟩ : ∃ B, B = w.heap.size := ⟨_, rfl⟩
  have HA : Hid (NB B (n : Nat) (.slice eo m ec) wa ∧ Below w.heap.size w wa) := ⟨by rw [hwa, hB]; exact NB.new _ _ _, hba⟩
  have HE : Hid (EdZ eo m (fun i => ((F i : Nat) : Int)) (fun i => ((T i : Nat) : Int)) w ∧ Nt n m F T) := ⟨hE, hN⟩
  clear hE hN hba
  go_enter Try.func9, Try.ntmps9
  go_wp2
  rw [← hwa, ← hB]
  clear hwa hB
  go_loopw [7, 8] (fun vc vi wr => ∃ (i c : Nat), i ≤ m ∧ c ≤ i ∧ vc = .int .i64 (c : Nat) ∧ vi = .int .i64 (i : Nat) ∧ Hid (wr = wa ∧ c = acN M t F T i)) (fun _ vi _ => m - (RowKit.intOf vi).toNat)
  case atStart => exact ⟨0, 0, by omega, by omega, rfl, rfl, rfl, rfl⟩
  case round =>
    obtain ⟨i, c, hi, hci, rfl, rfl, HG0⟩ := hrel
    have HG : Hid (c = acN M t F T i) := HG0.out.2
    have hww := HG0.out.1
    clear HG0
    subst hww
    rename World => wr
    obtain ⟨c0, c1⟩ := HA.out.1
    by_cases hlt : i < m
    · have hib : (i : Int) < (m : Int) := by omega
      have hib0 : (0 : Int) ≤ (i : Int) := by omega
      obtain ⟨b, off, rfl, e0x, e1x⟩ := (HE.out.1.below HA.out.2) i hlt
      obtain ⟨x, hx⟩ : ∃ x, x = F i := ⟨_, rfl⟩
      obtain ⟨y, hy⟩ : ∃ y, y = T i := ⟨_, rfl⟩
      have e0 : wr.cell? ⟨b, off + i * 2, none⟩ = some (.int .i64 ((x : Nat) : Int)) := by rw [hx]; exact e0x
      have e1 : wr.cell? ⟨b, off + i * 2 + 1, none⟩ = some (.int .i64 ((y : Nat) : Int)) := by rw [hy]; exact e1x
      have hxy : x < y := by rw [hx, hy]; exact HE.out.2.up i hlt
      have hyn : y < n := by rw [hy]; exact HE.out.2.lt i hlt
      have HP : Hid (acP M t F T i = (acS M t x && !acS M t y)) := by show acP M t F T i = _; rw [hx, hy]; rfl
      clear e0x e1x hx hy
      have hx10 : x ≤ 10 := by omega
      have hy10 : y ≤ 10 := by omega
      have hwc : IntKind.i64.wrap ((c : Int) + 1) = (c : Int) + 1 := by
        have h9 : IntKind.i64.wrap ((c : Int) + 1) = ((c + 1 : Nat) : Int) := wrap_to (by omega) (by omega)
        rw [h9]; omega
      have hy0 : y ≠ 0 := by omega
      have hy0b : (((y : Nat) : Int) == 0) = false := beq_eq_false_iff_ne.2 (by omega)
      have hy0c : (((y : Nat) : Int) != 0) = true := bne_iff_ne.2 (by omega)
      by_cases ax : x = 0
      · have a1 : (((x : Nat) : Int) == 0) = true := by rw [ax]; rfl
        by_cases dt : y = t
        · have d1 : (((y : Nat) : Int) == ((t : Nat) : Int)) = true := beq_iff_eq.2 (by omega)
          have d2 : decide (y = t) = true := decide_eq_true dt
          have HL : Hid (acP M t F T i = true) := by
            show _ = _
            rw [HP.out]; unfold acS; simp [*]
          have HN2 : Hid (c + 1 = acN M t F T (i + 1)) := by
            show _ = _
            rw [acN_yes HL.out, ← HG.out]
          clear HP HL
          go_wp2
          go_roundw
          case rel => exact ⟨i + 1, c + 1, by omega, by omega, by go_num, by go_num, by first | trivial | rfl, HN2.out⟩
          case measure => simp [RowKit.intOf]; omega
        · have d1 : (((y : Nat) : Int) == ((t : Nat) : Int)) = false := beq_eq_false_iff_ne.2 (by omega)
          have d2 : decide (y = t) = false := decide_eq_false dt
          by_cases db : M.testBit y = true
          · have d3 := shr_yes db
            have HL : Hid (acP M t F T i = false) := by
              show _ = _
              rw [HP.out]; unfold acS; simp [*]
            have HN2 : Hid (c = acN M t F T (i + 1)) := by
              show _ = _
              rw [acN_no HL.out, ← HG.out]
            clear HP HL
            go_wp2
            go_roundw
            case rel => exact ⟨i + 1, c, by omega, by omega, by go_num, by go_num, by first | trivial | rfl, HN2.out⟩
            case measure => simp [RowKit.intOf]; omega
          · have db : M.testBit y = false := by simpa using db
            have d3 := shr_no db
            have HL : Hid (acP M t F T i = true) := by
              show _ = _
              rw [HP.out]; unfold acS; simp [*]
            have HN2 : Hid (c + 1 = acN M t F T (i + 1)) := by
              show _ = _
              rw [acN_yes HL.out, ← HG.out]
            clear HP HL
            go_wp2
            go_roundw
            case rel => exact ⟨i + 1, c + 1, by omega, by omega, by go_num, by go_num, by first | trivial | rfl, HN2.out⟩
            case measure => simp [RowKit.intOf]; omega
      · have a1 : (((x : Nat) : Int) == 0) = false := beq_eq_false_iff_ne.2 (by omega)
        by_cases at' : x = t
        · have a2 : (((x : Nat) : Int) != ((t : Nat) : Int)) = false := by rw [at']; simp
          have a3 : decide (x = t) = true := decide_eq_true at'
          have HL : Hid (acP M t F T i = false) := by
            show _ = _
            rw [HP.out]; unfold acS; simp [*]
          have HN2 : Hid (c = acN M t F T (i + 1)) := by
            show _ = _
            rw [acN_no HL.out, ← HG.out]
          clear HP HL
          go_wp2
          go_roundw
          case rel => exact ⟨i + 1, c, by omega, by omega, by go_num, by go_num, by first | trivial | rfl, HN2.out⟩
          case measure => simp [RowKit.intOf]; omega
        · have a2 : (((x : Nat) : Int) != ((t : Nat) : Int)) = true := bne_iff_ne.2 (by omega)
          have a3 : decide (x = t) = false := decide_eq_false at'
          by_cases ab : M.testBit x = true
          · have a4 := shr_yes ab
            by_cases dt : y = t
            · have d1 : (((y : Nat) : Int) == ((t : Nat) : Int)) = true := beq_iff_eq.2 (by omega)
              have d2 : decide (y = t) = true := decide_eq_true dt
              have HL : Hid (acP M t F T i = true) := by
                show _ = _
                rw [HP.out]; unfold acS; simp [*]
              have HN2 : Hid (c + 1 = acN M t F T (i + 1)) := by
                show _ = _
                rw [acN_yes HL.out, ← HG.out]
              clear HP HL
              go_wp2
              go_roundw
              case rel => exact ⟨i + 1, c + 1, by omega, by omega, by go_num, by go_num, by first | trivial | rfl, HN2.out⟩
              case measure => simp [RowKit.intOf]; omega
            · have d1 : (((y : Nat) : Int) == ((t : Nat) : Int)) = false := beq_eq_false_iff_ne.2 (by omega)
              have d2 : decide (y = t) = false := decide_eq_false dt
              by_cases db : M.testBit y = true
              · have d3 := shr_yes db
                have HL : Hid (acP M t F T i = false) := by
                  show _ = _
                  rw [HP.out]; unfold acS; simp [*]
                have HN2 : Hid (c = acN M t F T (i + 1)) := by
                  show _ = _
                  rw [acN_no HL.out, ← HG.out]
                clear HP HL
                go_wp2
                go_roundw
                case rel => exact ⟨i + 1, c, by omega, by omega, by go_num, by go_num, by first | trivial | rfl, HN2.out⟩
                case measure => simp [RowKit.intOf]; omega
              · have db : M.testBit y = false := by simpa using db
                have d3 := shr_no db
                have HL : Hid (acP M t F T i = true) := by
                  show _ = _
                  rw [HP.out]; unfold acS; simp [*]
                have HN2 : Hid (c + 1 = acN M t F T (i + 1)) := by
                  show _ = _
                  rw [acN_yes HL.out, ← HG.out]
                clear HP HL
                go_wp2
                go_roundw
                case rel => exact ⟨i + 1, c + 1, by omega, by omega, by go_num, by go_num, by first | trivial | rfl, HN2.out⟩
                case measure => simp [RowKit.intOf]; omega
          · have ab : M.testBit x = false := by simpa using ab
            have a4 := shr_no ab
            have HL : Hid (acP M t F T i = false) := by
              show _ = _
              rw [HP.out]; unfold acS; simp [*]
            have HN2 : Hid (c = acN M t F T (i + 1)) := by
              show _ = _
              rw [acN_no HL.out, ← HG.out]
            clear HP HL
            go_wp2
            go_roundw
            case rel => exact ⟨i + 1, c, by omega, by omega, by go_num, by go_num, by first | trivial | rfl, HN2.out⟩
            case measure => simp [RowKit.intOf]; omega
    · have e1 : i = m := by omega
      subst e1
      have HR : Hid (acN M t F T i = c) := HG.out.symm
      go_wp2
      go_ret
      exact ⟨by rw [HR.out]; rfl, HA.out.2⟩
end Go.Proofs.Ytbnkekeeceicaaa

/- Nets: what is sent by a plan that is right is heard by each sink. -/
namespace Go.Proofs.Ytbnkekeeceicaaa
open Go.RowKit Go.Sort

theorem nchk_fine {n m : Nat} {F T : Nat → Int} (h2 : 2 ≤ n) (h10 : n ≤ 10) (hm : m ≤ 24) (h : ∀ i, i < m → 0 ≤ F i ∧ F i < T i ∧ T i < (n : Int)) : nchkE (n : Nat) m F T = 0 := by
  have he : ∀ j, j ≤ m → edOk (n : Nat) F T j = true := fun j => by
    induction j with
    | zero => intro _; rfl
    | succ j ih => intro hj; exact edOk_yes (ih (by omega)) (h j (by omega))
  unfold nchkE
  rw [if_neg (by omega), if_pos (he m (Nat.le_refl _))]
theorem spchk_fine {q n h L : Nat} {tt : Nat → Nat} {E : Int} (hE : E = 0) (h1 : 1 ≤ h) (h24 : h ≤ 24) (hL : 1 ≤ L) (hq : L ≤ q) (ht : ∀ s, s < L → 1 ≤ tt s ∧ tt s < n) (hd : ∀ i j, i < j → j < L → tt i ≠ tt j) : spchk (q : Nat) (n : Nat) (h : Nat) L (fun s => ((tt s : Nat) : Int)) E = 0 := by
  have hs : ∀ j, j ≤ L → snks (n : Nat) (fun s => ((tt s : Nat) : Int)) j = 0 := fun j => by
    induction j with
    | zero => intro _; rfl
    | succ j ih =>
      intro hj
      have h9 := ht j (by omega)
      show (if snks (n : Nat) (fun s => ((tt s : Nat) : Int)) j ≠ 0 then snks (n : Nat) (fun s => ((tt s : Nat) : Int)) j else if ((tt j : Nat) : Int) < 1 ∨ (n : Int) ≤ ((tt j : Nat) : Int) then 10 else if ((tt j : Nat) : Int) ∈ zl j (fun s => ((tt s : Nat) : Int)) then 7 else 0) = 0
      rw [if_neg (fun c => c (ih (by omega))), if_neg (by omega), if_neg]
      intro hm
      unfold zl at hm
      obtain ⟨i, hi, e⟩ := List.mem_map.1 hm
      rw [List.mem_range] at hi
      exact hd i j hi (by omega) (by omega)
  unfold spchk
  rw [if_neg (fun c => c hE), if_neg (by omega), if_neg (by omega)]
  exact hs L (Nat.le_refl _)
/-- The least of the first, or one more than m. -/
def hmn (m : Nat) (f : Nat → Nat) : Nat → Nat
  | 0 => m + 1
  | i + 1 => if f i < hmn m f i then f i else hmn m f i
theorem hmn_le {m : Nat} {f : Nat → Nat} : ∀ L j, j < L → hmn m f L ≤ f j
  | 0, j, h => absurd h (by omega)
  | L + 1, j, h => by
    show (if f L < hmn m f L then f L else hmn m f L) ≤ f j
    by_cases e : j = L
    · rw [e]; split <;> omega
    · have := hmn_le (m := m) (f := f) L j (by omega)
      split <;> omega
theorem hmn_is {m : Nat} {f : Nat → Nat} : ∀ L, hmn m f L = m + 1 ∨ ∃ j, j < L ∧ hmn m f L = f j
  | 0 => Or.inl rfl
  | L + 1 => by
    show (if f L < hmn m f L then f L else hmn m f L) = m + 1 ∨ ∃ j, j < L + 1 ∧ (if f L < hmn m f L then f L else hmn m f L) = f j
    by_cases c : f L < hmn m f L
    · rw [if_pos c]; exact Or.inr ⟨L, by omega, rfl⟩
    · rw [if_neg c]
      rcases hmn_is (m := m) (f := f) L with e | ⟨j, hj, e⟩
      · exact Or.inl e
      · exact Or.inr ⟨j, by omega, e⟩
theorem nt_slz {ao : Option Addr} {vn k ca : Nat} {z : Nat → Int} {w : World} (h : SliceI (.slice ao vn ca) (zl k z) w) : vn = k ∧ SlZ ao k z w := by
  rcases h with ⟨h1, ao', c', e⟩ | ⟨h1, _, b, off, cap, e, hc⟩
  · have hk : k = 0 := by
      have := congrArg List.length h1
      rw [zl_len] at this
      exact this
    cases e
    exact ⟨hk.symm, fun j hj => absurd hj (by omega)⟩
  · rw [zl_len] at e hc
    cases e
    exact ⟨rfl, fun j hj => ⟨b, off, rfl, by rw [hc j hj, zl_getD _ z j hj]⟩⟩
theorem send_top {D : FD} (hD : D ∈ fieldsL) {G m h cb : Nat} {bo : Option Addr} {vo : Nat → Nat} {V : Nat → Nat → Nat} {x : Nat → Nat} {w : World} (hV : VcM G m h vo V w) (hel : ∀ e, e < m → El D (V e) ∧ Bd h (V e)) (hm0 : 0 < m) (hm : m ≤ 24) (h1 : 1 ≤ h) (h24 : h ≤ 24) (hx : El D x) (hxb : Bd h x) (hY : SlZ bo h (fun j => ((x j : Nat) : Int)) w) :
    Calls Try.prog 12 #[.int .i64 D.q, .slice (some ⟨G, 0, none⟩) m m, .slice bo h cb] w fun e w' => ∃ co cc, e = .returned (.tuple #[.slice co m cc, .int .i64 0]) ∧ SlZ co m (fun i => ((dot D (V i) x h : Nat) : Int)) w' ∧ Below w.heap.size w w' := by
  have hz : D.sdchk m (fun _ => h) (fun e c => ((V e c : Nat) : Int)) h (fun j => ((x j : Nat) : Int)) = 0 := by
    unfold FD.sdchk
    have h0 := vmchk (D := D) (m := m) (h := h) (L := V) (by omega) (by omega) (by omega) (fun i hi => (hel i hi).1)
    rw [if_neg (fun c => c h0), if_neg (fun c => c.2 rfl), if_pos (allHas_iff.2 (fun j _ => has_of_lt (hx j)))]
  have h9 := nSend_any (ca := m) (cb := cb) hD (hV.mat (by omega)) (by omega) hY (by omega)
  rw [hz] at h9
  refine h9.mono ?_
  rintro e w' ⟨hb, co, vn, cc, rfl, hr⟩
  rcases hr with ⟨h0, _⟩ | ⟨_, hs⟩
  · exact absurd rfl h0
  · have hl : zl m (fun i => ((dot D (mzc (fun _ => h) (fun e c => ((V e c : Nat) : Int)) i) (zc h fun j => ((x j : Nat) : Int)) h : Nat) : Int)) = zl m (fun i => ((dot D (V i) x h : Nat) : Int)) := zl_congr (fun i hi => by
      rw [zc_cast hxb, show mzc (fun _ => h) (fun e c => ((V e c : Nat) : Int)) i = V i from zc_cast (hel i hi).2])
    rw [hl] at hs
    obtain ⟨rfl, hS⟩ := nt_slz hs
    exact ⟨co, cc, rfl, hS, hb⟩
theorem hear_top {D : FD} (hD : D ∈ fieldsL) {n G m h L ec cc : Nat} {eo co : Option Addr} {F T tt vo : Nat → Nat} {V : Nat → Nat → Nat} {x : Nat → Nat} {w : World} (hE : EdZ eo m (fun i => ((F i : Nat) : Int)) (fun i => ((T i : Nat) : Int)) w) (hck : nchkE (n : Nat) m (fun i => ((F i : Nat) : Int)) (fun i => ((T i : Nat) : Int)) = 0) (hV : VcM G m h vo V w) (hP : PlV D m h L F T tt V) (hm : m ≤ 24) (h1 : 1 ≤ h) (h24 : h ≤ 24) (hx : El D x) (hY : SlZ co m (fun i => ((dot D (V i) x h : Nat) : Int)) w) {s : Nat} (hs : s < L) (ht : 1 ≤ tt s ∧ tt s < n) :
    Calls Try.prog 13 #[.int .i64 D.q, .agg #[.int .i64 (n : Nat), .slice eo m ec], .slice (some ⟨G, 0, none⟩) m m, .slice co m cc, .int .i64 (tt s : Nat)] w fun e w' => ∃ v, e = .returned (.tuple #[v, .int .i64 0]) ∧ SliceI v (zl h fun j => ((x j : Nat) : Int)) w' ∧ Below w.heap.size w w' := by
  have FF := fld hD
  obtain ⟨k, hk⟩ : ∃ k, h = k + 1 := ⟨h - 1, by omega⟩
  obtain ⟨l, hl⟩ : ∃ l, l = tlN (fun i => ((T i : Nat) : Int)) ((tt s : Nat) : Int) m := ⟨_, rfl⟩
  have hlt : ∀ i ∈ l, i < m := fun i hi => by rw [hl] at hi; exact tlN_lt m i hi
  have hlen : l.length ≤ m := by rw [hl]; exact tlN_len _ _ m
  obtain ⟨Lv, hB, hLv⟩ := hP.snk s hs
  have hmem : ∀ a, a < m → T a = tt s → a ∈ l := fun a ha hT => by rw [hl]; exact tlN_mem m a ha (by show ((T a : Nat) : Int) = _; rw [hT])
  have hpos : 0 < l.length := by
    obtain ⟨a, ha, hT, _⟩ := hLv 0 (by omega)
    exact List.length_pos_of_mem (hmem a ha hT)
  have hm0 : 0 < m := by omega
  have hsk : skchk (n : Nat) (tt s : Nat) (nchkE (n : Nat) m (fun i => ((F i : Nat) : Int)) (fun i => ((T i : Nat) : Int))) = 0 := by
    unfold skchk; rw [if_neg (fun c => c hck), if_neg (by omega)]
  have hmc := vmchk (D := D) (m := m) (h := h) (L := V) (by omega) (by omega) (by omega) (fun i hi => (hP.el i hi).1)
  have hah : D.allHas (fun i => ((dot D (V i) x h : Nat) : Int)) m = true := allHas_iff.2 (fun j _ => has_of_lt (dot_lt FF _ _ _))
  have hhr : D.hrchk (skchk (n : Nat) (tt s : Nat) (nchkE (n : Nat) m (fun i => ((F i : Nat) : Int)) (fun i => ((T i : Nat) : Int)))) m (fun _ => h) (fun e c => ((V e c : Nat) : Int)) m m (fun i => ((dot D (V i) x h : Nat) : Int)) = 0 := by
    unfold FD.hrchk
    rw [if_neg (fun c => c hsk), if_neg (fun c => c hmc), if_neg (by omega), if_pos hah]
  have hmz : ∀ i, i < l.length → mzc (fun _ => h) (fun i c => ((V (l.getD i 0) c : Nat) : Int)) i = V (l.getD i 0) := fun i hi => zc_cast (hP.el _ (sel_lt hlt i hi)).2
  have hSv : SvQ D l.length (fun _ => h) (fun i c => ((V (l.getD i 0) c : Nat) : Int)) (fun i => ((dot D (V (l.getD i 0)) x h : Nat) : Int)) true (k + 1) (fun c => ((x c : Nat) : Int)) (k + 1) := by
    refine solveQ hD (vmchk (D := D) (m := l.length) (h := h) (L := fun i => V (l.getD i 0)) (by omega) (by omega) (by omega) (fun i hi => (hP.el _ (sel_lt hlt i hi)).1)) hpos hk (allHas_iff.2 (fun j _ => has_of_lt (dot_lt FF _ _ _))) hx (fun i hi => ?_) (fun d hd h0 => ?_)
    · rw [hmz i hi, ← hk]
      unfold zc
      rw [if_pos hi, Int.toNat_natCast]
    · rw [← hk]
      refine hB.inj d hd (fun j hj => ?_)
      obtain ⟨a, ha, hT, e⟩ := hLv j hj
      obtain ⟨i, hi, ei⟩ := nmem_getD (hmem a ha hT)
      have h9 := h0 i hi
      rw [hmz i hi, ← hk, ei] at h9
      rw [e]; exact h9
  have h9 := nHear_any hD (n : Nat) (tt s : Nat) (ec := ec) (ca := m) (cc := cc) hE (hV.mat (by omega)) hY (by omega) (by omega) (by omega) (okb := true) (L := k + 1) (k := k + 1) (s := fun c => ((x c : Nat) : Int)) (fun _ _ => by rw [← hl]; exact hSv)
  rw [if_neg (fun c => c hhr), ← hl, decide_eq_true hpos, ← hk, decide_eq_false (by omega)] at h9
  refine h9.mono ?_
  rintro e w' ⟨hb, vo', vn, vc, rfl, hr⟩
  rcases hr with ⟨h0, _⟩ | ⟨_, hsI⟩
  · exact absurd rfl h0
  · exact ⟨_, rfl, hsI, hb⟩
theorem edz_nat {eo : Option Addr} {k m : Nat} {F T : Nat → Int} {w : World} (hE : EdZ eo m F T w) (h2 : 2 ≤ k) (h10 : k ≤ 10) (hm : m ≤ 24) (h : ∀ i, i < m → 0 ≤ F i ∧ F i < T i ∧ T i < (k : Int)) : ∃ Fn Tn : Nat → Nat, EdZ eo m (fun i => ((Fn i : Nat) : Int)) (fun i => ((Tn i : Nat) : Int)) w ∧ Nt k m Fn Tn ∧ nchkE (k : Nat) m (fun i => ((Fn i : Nat) : Int)) (fun i => ((Tn i : Nat) : Int)) = 0 := by
  refine ⟨fun i => (F i).toNat, fun i => (T i).toNat, fun j hj => ?_, ⟨fun i hi => ?_, fun i hi => ?_⟩, nchk_fine h2 h10 hm (fun i hi => ?_)⟩
  · obtain ⟨b, off, e, h0, h1⟩ := hE j hj
    have := h j hj
    refine ⟨b, off, e, ?_, ?_⟩
    · show _ = some (Value.int .i64 (((F j).toNat : Nat) : Int)); rw [h0, Int.toNat_of_nonneg (by omega)]
    · show _ = some (Value.int .i64 (((T j).toNat : Nat) : Int)); rw [h1, Int.toNat_of_nonneg (by omega)]
  · have := h i hi; show (F i).toNat < (T i).toNat; omega
  · have := h i hi; show (T i).toNat < k; omega
  · have := h i hi
    show 0 ≤ (((F i).toNat : Nat) : Int) ∧ (((F i).toNat : Nat) : Int) < (((T i).toNat : Nat) : Int) ∧ (((T i).toNat : Nat) : Int) < (k : Int)
    omega
end Go.Proofs.Ytbnkekeeceicaaa
