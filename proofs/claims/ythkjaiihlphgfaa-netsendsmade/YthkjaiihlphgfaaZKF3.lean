/- Nets: which edges come to a node; what their vectors tell (only; the reference's into). -/
import Derived.Test.YthkjaiihlphgfaaZKF2
import Derived.Test.YthkjaiihlphgfaaZO3
namespace Go.Proofs.Ythkjaiihlphgfaa
open Go.RowKit Go.Sort

/-- The edges that end at a node. -/
def tlN (T : Nat → Int) (x : Int) : Nat → List Nat
  | 0 => []
  | i + 1 => if T i = x then tlN T x i ++ [i] else tlN T x i
theorem tlN_lt {T : Nat → Int} {x : Int} : ∀ m, ∀ i ∈ tlN T x m, i < m
  | 0, i, h => by cases h
  | m + 1, i, h => by
    have h : i ∈ (if T m = x then tlN T x m ++ [m] else tlN T x m) := h
    by_cases e : T m = x
    · rw [if_pos e] at h
      rcases List.mem_append.1 h with h | h
      · have := tlN_lt m i h; omega
      · rw [List.mem_singleton.1 h]; omega
    · rw [if_neg e] at h
      have := tlN_lt m i h; omega
theorem tlN_len (T : Nat → Int) (x : Int) : ∀ m, (tlN T x m).length ≤ m
  | 0 => Nat.le_refl _
  | m + 1 => by
    have := tlN_len T x m
    show (if T m = x then tlN T x m ++ [m] else tlN T x m).length ≤ m + 1
    split
    · rw [List.length_append]; show _ + 1 ≤ _; omega
    · omega
/-- Rows, as values. -/
def rowsN (A : Nat → Option Addr) (N C : Nat → Nat) (l : List Nat) : List Value := l.map fun i => .slice (A i) (N i) (C i)
theorem sel_lt {l : List Nat} {m : Nat} (hl : ∀ i ∈ l, i < m) (k : Nat) (hk : k < l.length) : l.getD k 0 < m := hl _ (by rw [List.getD_eq_getElem?_getD, List.getElem?_eq_getElem hk]; exact List.getElem_mem hk)
theorem sel_mat {base m : Nat} {ao : Option Addr} {v : Value} {A : Nat → Option Addr} {N C : Nat → Nat} {Z : Nat → Nat → Int} {l : List Nat} {w : World} (ho : OwnV base v (rowsN A N C l) w) (hA : MatZ ao m A N C Z w) (hl : ∀ i ∈ l, i < m) :
    ∃ vo vc, v = .slice vo l.length vc ∧ MatZ vo l.length (fun k => A (l.getD k 0)) (fun k => N (l.getD k 0)) (fun k => C (l.getD k 0)) (fun k => Z (l.getD k 0)) w := by
  obtain ⟨vo, vc, hv, _, _, _, hc⟩ := ho.open
  have hlen : (rowsN A N C l).length = l.length := by unfold rowsN; exact List.length_map ..
  rw [hlen] at hv
  have hm := sel_lt hl
  refine ⟨vo, vc, hv, fun k hk => ?_, fun k hk => hA.sl _ (hm k hk), fun k hk => hA.le _ (hm k hk), fun k hk => hA.cap _ (hm k hk), fun k hk => hA.nil _ (hm k hk), fun k hk => hA.few _ (hm k hk)⟩
  have hg : (rowsN A N C l)[k]? = some (.slice (A (l.getD k 0)) (N (l.getD k 0)) (C (l.getD k 0))) := by
    unfold rowsN
    rw [List.getElem?_map, List.getD_eq_getElem?_getD, List.getElem?_eq_getElem hk]; rfl
  obtain ⟨g, e, h1, _⟩ := hc k _ hg
  exact ⟨g, 0, e, by rw [Nat.zero_add]; exact h1⟩
theorem map_zlN (l : List Nat) (y : Nat → Int) : l.map y = zl l.length (fun k => y (l.getD k 0)) := by
  apply List.ext_getElem
  · rw [List.length_map, zl_len]
  · intro i h1 h2
    rw [List.length_map] at h1
    have h3 := zl_get l.length (fun k => y (l.getD k 0)) i h1
    rw [List.getElem?_eq_getElem h2] at h3
    rw [Option.some.inj h3, List.getElem_map, List.getD_eq_getElem?_getD, List.getElem?_eq_getElem h1]
    rfl
theorem sel_chk {D : FD} {m : Nat} {N : Nat → Nat} {Z : Nat → Nat → Int} {l : List Nat} (h : D.mchk m N Z = 0) (hl : ∀ i ∈ l, i < m) (h64 : l.length ≤ 64) (h0 : 0 < l.length) : D.mchk l.length (fun k => N (l.getD k 0)) (fun k => Z (l.getD k 0)) = 0 ∧ N (l.getD 0 0) = N 0 := by
  unfold FD.mchk at h
  by_cases h65 : 64 < m
  · rw [if_pos h65] at h; cases h
  · rw [if_neg h65] at h
    have hrow := mchks_zero h
    have hN : ∀ k, k < l.length → N (l.getD k 0) = N 0 := fun k hk => (mrow_zero (hrow _ (sel_lt hl k hk))).1
    refine ⟨mchk_of h64 (fun k hk => ?_), hN 0 h0⟩
    show D.mrow (N (l.getD 0 0)) (N (l.getD k 0)) (Z (l.getD k 0)) = 0
    rw [hN 0 h0]
    exact hrow _ (sel_lt hl k hk)
theorem mchk_el {D : FD} (F : Fld D) {m : Nat} {N : Nat → Nat} {Z : Nat → Nat → Int} (h : D.mchk m N Z = 0) (hm : 0 < m) :
    m ≤ 64 ∧ ∃ n, N 0 = n + 1 ∧ n < 64 ∧ ∀ i, i < m → El D (mzc N Z i) ∧ Bd (n + 1) (mzc N Z i) := by
  unfold FD.mchk at h
  by_cases h64 : 64 < m
  · rw [if_pos h64] at h; cases h
  · rw [if_neg h64] at h
    have hrow := mchks_zero h
    have h0 := mrow_zero (hrow 0 hm)
    obtain ⟨n, hn⟩ : ∃ n, N 0 = n + 1 := ⟨N 0 - 1, by omega⟩
    have key : ∀ i, i < m → N i = n + 1 ∧ D.chk (N i) (Z i) = 0 := fun i hi => by
      have h1 := mrow_zero (hrow i hi)
      refine ⟨by omega, ?_⟩
      unfold FD.chk
      rw [if_neg (by omega), if_pos h1.2.2.2]
    refine ⟨by omega, n, hn, by omega, fun i hi => ⟨zc_el F (key i hi).2, ?_⟩⟩
    have := zc_bd (N i) (Z i)
    rw [(key i hi).1] at this
    unfold mzc
    rw [(key i hi).1]; exact this
/-- What is told of a matrix, wherever it lies. -/
theorem mok_free {D : FD} (hD : D ∈ fieldsL) {m : Nat} {N : Nat → Nat} {Z : Nat → Nat → Int} (h0 : D.mchk m N Z = 0) (hm : 0 < m) : ∃ n k R p k2 R2 p2, N 0 = n + 1 ∧ n < 64 ∧ m ≤ 64 ∧ k ≤ m ∧ (∀ i, i < m → El D (mzc N Z i) ∧ Bd (n + 1) (mzc N Z i)) ∧ ∀ ao A C w, MatZ ao m A N C Z w → MOk D ao m n A N C Z w k R p k2 R2 p2 := by
  obtain ⟨h1, n, h2, h3, h4⟩ := mchk_el (fld hD) h0 hm
  obtain ⟨k, R, p, a1, a2, a3⟩ := rre_ex hD (m := m) (n := n + 1) (R := mzc N Z) (fun i hi => (h4 i hi).1) (fun i hi => (h4 i hi).2)
  obtain ⟨k2, R2, p2, b1, b2, b3⟩ := rre_ex hD (m := nct k p (n + 1)) (n := n + 1) (R := nul D R p k (n + 1)) (fun i _ => nul_el (fld hD) a2.el _ _) (fun i hi => nul_bd a2.lt hi)
  exact ⟨n, k, R, p, k2, R2, p2, h2, h3, h1, a1, h4, fun ao A C w ha => ⟨hD, ha, h0, hm, h1, h3, h2, h4, a1, a2, a3, b1, b2, b3⟩⟩
/-- What both sides' Solve tell, wherever it lies. -/
theorem solveF {D : FD} (hD : D ∈ fieldsL) {m : Nat} {N : Nat → Nat} {Z : Nat → Nat → Int} {y : Nat → Int} (h0 : D.mchk m N Z = 0) (hm : 0 < m) (hall : D.allHas y m = true) : ∃ (okb : Bool) (L : Nat) (s : Nat → Int) (k : Nat), L ≤ 1000 ∧ k ≤ 64 ∧ ∀ (ao : Option Addr) (A : Nat → Option Addr) (C : Nat → Nat) (ca : Nat) (bo : Option Addr) (cb : Nat) (w : World), MatZ ao m A N C Z w → SlZ bo m y w →
    (∀ (gen gm cm : Nat), ModAt D (.slice (some ⟨gm, 0, none⟩) (D.m + 1) cm) D.md w → Calls Try.prog 61 #[.agg #[.int .i64 D.q, .int .i64 D.p, .int .i64 D.m, .int .i64 gen, .slice (some ⟨gm, 0, none⟩) (D.m + 1) cm], .slice ao m ca, .slice bo m cb] w fun e w' => (∃ xo xc, e = .returned (.tuple #[.slice xo L xc, .bool okb]) ∧ KI (.slice xo L xc) (zl L s) w') ∧ Below w.heap.size w w') ∧
    (Calls Try.prog 99 #[.int .i64 D.q, .slice ao m ca, .slice bo m cb] w fun e w' => (∃ xo xc, e = .returned (.tuple #[.slice xo L xc, .bool okb, .int .i64 0]) ∧ KI (.slice xo L xc) (zl L s) w') ∧ Below w.heap.size w w') ∧
    (Calls Try.prog 98 #[.int .i64 D.q, .slice ao m ca] w fun e w' => e = .returned (.tuple #[.int .i64 (k : Nat), .int .i64 0]) ∧ Below w.heap.size w w') ∧
    (∀ (gen gm cm : Nat), ModAt D (.slice (some ⟨gm, 0, none⟩) (D.m + 1) cm) D.md w → Calls Try.prog 62 #[.agg #[.int .i64 D.q, .int .i64 D.p, .int .i64 D.m, .int .i64 gen, .slice (some ⟨gm, 0, none⟩) (D.m + 1) cm], .slice ao m ca] w fun e w' => (∃ ro rc po pc, e = .returned (.tuple #[.slice ro k rc, .slice po k pc])) ∧ Below w.heap.size w w') := by
  obtain ⟨n, k, R, p, k2, R2, p2, hN0, hn64, hm64, hkm, hel, hok⟩ := mok_free hD h0 hm
  have F := fld hD
  have hbq : ∀ i, i < m → zc m y i < D.q := fun i hi => (allHas_lt hall i hi).1
  obtain ⟨kr, Rr, pr, _, hRr, hSr⟩ := rre_ex hD (m := m) (n := n + 1 + 1) (R := aug (n + 1) (mzc N Z) (zc m y)) (fun i hi => aug_el (hel i hi).1 (hbq i hi)) (fun i hi => aug_bd (hel i hi).2)
  have kinil : ∀ wx s, KI (.slice none 0 0) (zl 0 s) wx := fun wx s => ⟨Or.inl ⟨rfl, _, _, rfl⟩, fun q hq => by cases hq⟩
  have hprog : ∀ (ao : Option Addr) (A : Nat → Option Addr) (C : Nat → Nat) (ca : Nat) (bo : Option Addr) (cb : Nat) (w : World), MatZ ao m A N C Z w → SlZ bo m y w → Calls Try.prog 99 #[.int .i64 D.q, .slice ao m ca, .slice bo m cb] w fun e w' => Below w.heap.size w w' ∧ (((∃ i, i < kr ∧ pr i = n + 1) ∧ e = .returned (.tuple #[.slice none 0 0, .bool false, .int .i64 0])) ∨ ((∀ i, i < kr → pr i ≠ n + 1) ∧ ∃ v, e = .returned (.tuple #[v, .bool true, .int .i64 0]) ∧ KI v (zl (n + 1) fun c => ((slx Rr pr (n + 1) kr c : Nat) : Int)) w')) := fun ao A C ca bo cb w hA hy => by
    refine (msolve_any hD hA (by omega) hy).mono ?_
    rintro e w' ⟨hb, hr⟩
    rcases hr with ⟨h9, _⟩ | ⟨_, h9, _⟩ | ⟨_, _, k', R', p', W, _, hW, hR', hS', hc⟩
    · exact absurd h0 h9
    · rw [hall] at h9; cases h9
    · have hWe : W = n + 1 := by rw [hW hm, hN0]
      subst hWe
      refine ⟨hb, ?_⟩
      rcases hc with ⟨hc, rfl⟩ | ⟨hc, v, rfl, hki⟩
      · exact Or.inl ⟨solve_no F hR' hc hRr (fun v => (hS' v).trans (hSr v).symm), rfl⟩
      · obtain ⟨hk, he, hne⟩ := solve_yes F hR' hc hRr (fun v => (hS' v).trans (hSr v).symm)
        refine Or.inr ⟨hne, v, rfl, ?_⟩
        rw [hk, ← slx_congr (n + 1) k' he]; exact hki
  have href : ∀ (ao : Option Addr) (A : Nat → Option Addr) (C : Nat → Nat) (ca : Nat) (bo : Option Addr) (cb : Nat) (w : World), MatZ ao m A N C Z w → SlZ bo m y w → ∀ (gen gm cm : Nat), ModAt D (.slice (some ⟨gm, 0, none⟩) (D.m + 1) cm) D.md w → Calls Try.prog 61 #[.agg #[.int .i64 D.q, .int .i64 D.p, .int .i64 D.m, .int .i64 gen, .slice (some ⟨gm, 0, none⟩) (D.m + 1) cm], .slice ao m ca, .slice bo m cb] w fun e w' => Below w.heap.size w w' ∧ (((∃ i, i < kr ∧ pr i = n + 1) ∧ e = .returned (.tuple #[.slice none 0 0, .bool false])) ∨ ((∀ i, i < kr → pr i ≠ n + 1) ∧ ∃ v, e = .returned (.tuple #[v, .bool true]) ∧ KI v (zl (n + 1) fun c => ((slx Rr pr (n + 1) kr c : Nat) : Int)) w')) := fun ao A C ca bo cb w hA hy gen gm cm hM => by
    refine (rsolve_any hD gen gm cm rfl hm (by omega) (by omega) hel (hok ao A C w hA).matR (allHas_sl hall hy) hbq hM).mono ?_
    rintro e w' ⟨hb, k', R', p', _, hR', hS', hc⟩
    obtain ⟨rfl, he⟩ := rre_uniq F hR' hRr (fun v => (hS' v).trans (hSr v).symm)
    refine ⟨hb, ?_⟩
    rcases hc with ⟨⟨i, hi, e1⟩, rfl⟩ | ⟨hc, v, rfl, hki⟩
    · exact Or.inl ⟨⟨i, hi, by rw [← (he i hi).1]; exact e1⟩, rfl⟩
    · refine Or.inr ⟨fun i hi => by rw [← (he i hi).1]; exact hc i hi, v, rfl, ?_⟩
      rw [← slx_congr (n + 1) k' he]; exact hki
  have hrank : ∀ (ao : Option Addr) (A : Nat → Option Addr) (C : Nat → Nat) (ca : Nat) (w : World), MatZ ao m A N C Z w → Calls Try.prog 98 #[.int .i64 D.q, .slice ao m ca] w fun e w' => e = .returned (.tuple #[.int .i64 (k : Nat), .int .i64 0]) ∧ Below w.heap.size w w' := fun ao A C ca w hA => c_rank (hok ao A C w hA)
  have hred : ∀ (ao : Option Addr) (A : Nat → Option Addr) (C : Nat → Nat) (ca : Nat) (w : World), MatZ ao m A N C Z w → ∀ (gen gm cm : Nat), ModAt D (.slice (some ⟨gm, 0, none⟩) (D.m + 1) cm) D.md w → Calls Try.prog 62 #[.agg #[.int .i64 D.q, .int .i64 D.p, .int .i64 D.m, .int .i64 gen, .slice (some ⟨gm, 0, none⟩) (D.m + 1) cm], .slice ao m ca] w fun e w' => (∃ ro rc po pc, e = .returned (.tuple #[.slice ro k rc, .slice po k pc])) ∧ Below w.heap.size w w' := fun ao A C ca w hA gen gm cm hM => by
    refine (c_rred (hok ao A C w hA) gen gm cm hM).mono ?_
    rintro e w' ⟨ro, rc, po, pc, rfl, _, _, hb⟩
    exact ⟨⟨ro, rc, po, pc, rfl⟩, hb⟩
  by_cases hdec : ∃ i, i < kr ∧ pr i = n + 1
  · refine ⟨false, 0, fun _ => 0, k, by omega, by omega, fun ao A C ca bo cb w hA hy => ⟨fun gen gm cm hM => (href ao A C ca bo cb w hA hy gen gm cm hM).mono ?_, (hprog ao A C ca bo cb w hA hy).mono ?_, hrank ao A C ca w hA, hred ao A C ca w hA⟩⟩
    · rintro e w' ⟨hb, hc⟩
      rcases hc with ⟨_, rfl⟩ | ⟨hc, _⟩
      · exact ⟨⟨none, 0, rfl, kinil _ _⟩, hb⟩
      · obtain ⟨i, hi, e⟩ := hdec
        exact absurd e (hc i hi)
    · rintro e w' ⟨hb, hc⟩
      rcases hc with ⟨_, rfl⟩ | ⟨hc, _⟩
      · exact ⟨⟨none, 0, rfl, kinil _ _⟩, hb⟩
      · obtain ⟨i, hi, e⟩ := hdec
        exact absurd e (hc i hi)
  · refine ⟨true, n + 1, fun c => ((slx Rr pr (n + 1) kr c : Nat) : Int), k, by omega, by omega, fun ao A C ca bo cb w hA hy => ⟨fun gen gm cm hM => (href ao A C ca bo cb w hA hy gen gm cm hM).mono ?_, (hprog ao A C ca bo cb w hA hy).mono ?_, hrank ao A C ca w hA, hred ao A C ca w hA⟩⟩
    · rintro e w' ⟨hb, hc⟩
      rcases hc with ⟨hc, _⟩ | ⟨_, v, rfl, hki⟩
      · exact absurd hc hdec
      · obtain ⟨xo, xc, rfl⟩ := hki.open
        exact ⟨⟨xo, xc, rfl, hki⟩, hb⟩
    · rintro e w' ⟨hb, hc⟩
      rcases hc with ⟨hc, _⟩ | ⟨_, v, rfl, hki⟩
      · exact absurd hc hdec
      · obtain ⟨xo, xc, rfl⟩ := hki.open
        exact ⟨⟨xo, xc, rfl, hki⟩, hb⟩

/-- What is heard: a list, or that it fails. -/
def HrP (ok : Bool) (L : List Int) (w : World) (x : Ending) (w' : World) : Prop := Below w.heap.size w w' ∧ ∃ vo vn vc, x = .returned (.tuple #[.slice vo vn vc, .int .i64 (if ok = true then 0 else 9)]) ∧ ((ok = false ∧ vn = 0) ∨ (ok = true ∧ SliceI (.slice vo vn vc) L w'))

set_option maxHeartbeats 2000000 in
set_option maxRecDepth 100000 in
theorem nonly_zero {D : FD} (hD : D ∈ fieldsL) {ao bo : Option Addr} {ca cb : Nat} {w : World} :
    Calls Try.prog 64 #[.int .i64 D.q, .slice ao 0 ca, .slice bo 0 cb] w (HrP false [] w) := by
  have HR : Hid (Calls Try.prog 98 #[.int .i64 D.q, .slice ao 0 ca] w fun e w' => ∃ k : Nat, e = .returned (.tuple #[.int .i64 (k : Nat), .int .i64 0]) ∧ Below w.heap.size w w') := by
    refine (mrank_any (A := fun _ => none) (N := fun _ => 0) (C := fun _ => 0) (Z := fun _ _ => 0) hD ⟨fun i hi => absurd hi (by omega), fun i hi => absurd hi (by omega), fun i hi => absurd hi (by omega), fun i hi => absurd hi (by omega), fun i hi => absurd hi (by omega), fun i hi => absurd hi (by omega)⟩ (by omega)).mono ?_
    rintro e w' ⟨hb, hr⟩
    rcases hr with ⟨h0, _⟩ | ⟨_, k', R', p', W, rfl, _⟩
    · exact absurd (mchk_none D _ _) h0
    · exact ⟨k', rfl, hb⟩
  clear hD
  go_enter Try.func64, Try.ntmps64
  go_wp2_with fail
  refine HR.out.mono ?_
  rintro e w1 ⟨k, rfl, hb⟩
  have HB : Hid (Below w.heap.size w w1) := hb
  clear hb
  go_wp2
  go_ret2
  exact ⟨HB.out, none, 0, 0, rfl, Or.inl ⟨rfl, rfl⟩⟩

set_option maxHeartbeats 4000000 in
set_option maxRecDepth 100000 in
theorem nonly_pos (q : Int) {uo : Option Addr} {b0 o0 K vc N0 cc uc k L : Nat} {x0 : Option Addr} {okb : Bool} {s : Nat → Int} {w : World} (hK : 0 < K) (hK2 : K ≤ 64) (hc : w.cell? ⟨b0, o0, none⟩ = some (.slice x0 N0 cc))
    (h1 : Calls Try.prog 98 #[.int .i64 q, .slice (some ⟨b0, o0, none⟩) K vc] w fun e w' => e = .returned (.tuple #[.int .i64 (k : Nat), .int .i64 0]) ∧ Below w.heap.size w w')
    (h2 : ∀ wx, Below w.heap.size w wx → Calls Try.prog 99 #[.int .i64 q, .slice (some ⟨b0, o0, none⟩) K vc, .slice uo K uc] wx fun e w' => (∃ xo xc, e = .returned (.tuple #[.slice xo L xc, .bool okb, .int .i64 0]) ∧ KI (.slice xo L xc) (zl L s) w') ∧ Below wx.heap.size wx w') :
    Calls Try.prog 64 #[.int .i64 q, .slice (some ⟨b0, o0, none⟩) K vc, .slice uo K uc] w (HrP (okb && !decide (k < N0)) (zl L s) w) := by
  have H1 : Hid (Calls Try.prog 98 #[.int .i64 q, .slice (some ⟨b0, o0, none⟩) K vc] w fun e w' => e = .returned (.tuple #[.int .i64 (k : Nat), .int .i64 0]) ∧ Below w.heap.size w w') := h1
  have H2 : Hid _ := h2
  have HC : Hid (w.cell? ⟨b0, o0, none⟩ = some (.slice x0 N0 cc)) := hc
  have hKz : ((K : Int) == 0) = false := by rw [beq_eq_false_iff_ne]; omega
  have hKb : (0 : Int) < (K : Int) := by omega
  clear h1 h2 hc
  go_enter Try.func64, Try.ntmps64
  go_wp2_with fail
  refine H1.out.mono ?_
  rintro e w1 ⟨rfl, hb⟩
  have HB : Hid (Below w.heap.size w w1) := hb
  have hc1 : w1.cell? ⟨b0, o0, none⟩ = some (.slice x0 N0 cc) := ((bcell hb).1 b0 o0 (cell_lt HC.out)).trans HC.out
  clear hb
  by_cases hkN : k < N0
  · have hkb : (k : Int) < (N0 : Int) := by omega
    have HV : Hid ((okb && !decide (k < N0)) = false) := by show _ = _; rw [decide_eq_true hkN, Bool.not_true, Bool.and_false]
    clear hkN
    go_wp2
    go_ret2
    exact ⟨HB.out, none, 0, 0, by rw [HV.out]; rfl, Or.inl ⟨HV.out, rfl⟩⟩
  · have hkb : ¬ (k : Int) < (N0 : Int) := by omega
    have HV : Hid ((okb && !decide (k < N0)) = okb) := by show _ = _; rw [decide_eq_false hkN, Bool.not_false, Bool.and_true]
    clear hkN
    go_wp2_with fail
    refine (H2.out w1 HB.out).mono ?_
    rintro e w2 ⟨⟨xo, xc, rfl, hki⟩, hb2⟩
    have H3 : Hid (KI (.slice xo L xc) (zl L s) w2 ∧ Below w.heap.size w w2) := ⟨hki, bel_up' HB.out hb2⟩
    clear hki hb2
    cases okb with
    | false =>
      go_wp2
      go_ret2
      exact ⟨H3.out.2, none, 0, 0, by rw [HV.out]; rfl, Or.inl ⟨HV.out, rfl⟩⟩
    | true =>
      go_wp2
      go_ret2
      exact ⟨H3.out.2, xo, L, xc, by rw [HV.out]; rfl, Or.inr ⟨HV.out, H3.out.1.1⟩⟩

set_option maxHeartbeats 4000000 in
set_option maxRecDepth 100000 in
theorem rinto_any (n x : Int) {eo ao : Option Addr} {m ec ca : Nat} {F T : Nat → Int} {A : Nat → Option Addr} {N C : Nat → Nat} {Z : Nat → Nat → Int} {a1 a2 a3 a4 : Int} {fo : Option Addr} {fn fc : Nat} {w : World} (hE : EdZ eo m F T w) (hA : MatZ ao m A N C Z w) (hm : m ≤ 64) :
    Calls Try.prog 60 #[.agg #[.int .i64 a1, .int .i64 a2, .int .i64 a3, .int .i64 a4, .slice fo fn fc], .agg #[.int .i64 n, .slice eo m ec], .slice ao m ca, .int .i64 x] w fun e w' => ∃ v, e = .returned v ∧ OwnV w.heap.size v (rowsN A N C (tlN T x m)) w' ∧ Below w.heap.size w w' := by
  obtain ⟨wa, hwa⟩ : ∃ wa, wa = w.alloc (.cells #[.int .i64 a1, .int .i64 a2, .int .i64 a3, .int .i64 a4, .slice fo fn fc] 31) := ⟨_, rfl⟩
  have hba : Below w.heap.size w wa := by rw [hwa]; exact (Below.refl _ _).alloc (Nat.le_refl _) _
  obtain ⟨wb, hwb⟩ : ∃ wb, wb = wa.alloc (.cells #[.int .i64 n, .slice eo m ec] 24) := ⟨_, rfl⟩
  have hbb : Below wa.heap.size wa wb := by rw [hwb]; exact (Below.refl _ _).alloc (Nat.le_refl _) _
  obtain ⟨B, hB⟩ : ∃ B, B = w.heap.size + 1 := ⟨_, rfl⟩
  have hsa : wa.heap.size = w.heap.size + 1 := by rw [hwa]; simp
  have HA : Hid (NB B n (.slice eo m ec) wb ∧ EdZ eo m F T w ∧ MatZ ao m A N C Z w ∧ Below w.heap.size w wb ∧ w.heap.size ≤ B ∧ B < wb.heap.size) := ⟨by rw [hB, ← hsa, hwb]; exact NB.new _ _ _, hE, hA, bel_up' hba hbb, by omega, by rw [hB, ← hsa, hwb]; simp⟩
  clear hE hA hba hbb hsa
  go_enter Try.func60, Try.ntmps60
  go_wp2
  rw [← hwa, ← hwb, ← hB]
  clear hwa hwb hB
  go_loopw [9, 10] (fun vl vi wx => ∃ i : Nat, i ≤ m ∧ vi = .int .i64 (i : Nat) ∧ Hid (OwnV wb.heap.size vl (rowsN A N C (tlN T x i)) wx ∧ Below wb.heap.size wb wx)) (fun _ vi _ => m - (intOf vi).toNat)
  case atStart => exact ⟨0, by omega, rfl, OwnV.nil _ _, Below.refl _ _⟩
  case round =>
    obtain ⟨i, hi, rfl, HI⟩ := hrel
    rename World => wr
    have hcb := HA.out.1.keep HI.out.2
    obtain ⟨c0, c1⟩ := hcb
    have hszr := HI.out.2.size
    by_cases hlt : i < m
    · have hib : (i : Int) < (m : Int) := by omega
      have hib0 : (0 : Int) ≤ (i : Int) := by omega
      obtain ⟨b, off, rfl, e0, e1⟩ := (HA.out.2.1.below (bel_up' HA.out.2.2.2.1 HI.out.2)) i hlt
      obtain ⟨y, hy⟩ : ∃ y, y = T i := ⟨_, rfl⟩
      rw [← hy] at e1
      by_cases hyx : y = x
      · have hz : (y == x) = true := by rw [hyx]; simp
        obtain ⟨bv, ov, rfl, hcv⟩ := (HA.out.2.2.1.below (bel_up' HA.out.2.2.2.1 HI.out.2)).cell i hlt
        obtain ⟨Ai, hAi⟩ : ∃ Ai, Ai = A i := ⟨_, rfl⟩
        obtain ⟨Ni, hNi⟩ : ∃ Ni, Ni = N i := ⟨_, rfl⟩
        obtain ⟨Ci, hCi⟩ : ∃ Ci, Ci = C i := ⟨_, rfl⟩
        have HV : Hid (rowsN A N C (tlN T x (i + 1)) = rowsN A N C (tlN T x i) ++ [.slice Ai Ni Ci]) := by
          show rowsN A N C (if T i = x then tlN T x i ++ [i] else tlN T x i) = _
          rw [if_pos (by rw [← hy]; exact hyx), hAi, hNi, hCi]
          unfold rowsN
          rw [List.map_append]; rfl
        rw [← hAi, ← hNi, ← hCi] at hcv
        have hll : (rowsN A N C (tlN T x i)).length ≤ 1000000 := by unfold rowsN; rw [List.length_map]; have := tlN_len T x i; omega
        clear hyx hy hAi hNi hCi
        go_wp2_with (at_builtin; refine append_sl rfl _ _ rfl wb.heap.size u9 (rowsN A N C (tlN T x i)) rfl (HI.out.1.below ((Below.refl _ _).alloc (Nat.le_refl _) _) (Nat.le_refl _)) ⟨wr.heap.size, 0, none⟩ 1 (.slice Ai Ni Ci) rfl rfl (by rw [cell_of_row _ _ _ _ _ (0, 0) (two_new _)]; rfl) hll (by simp; omega) ?_; intro v' w6 hown6 hg6)
        have HR : Hid (OwnV wb.heap.size v' (rowsN A N C (tlN T x (i + 1))) w6 ∧ Below wb.heap.size wb w6) := by
          have hal : Below wr.heap.size wr (wr.alloc (.cells #[.slice Ai Ni Ci] 26)) := (Below.refl _ _).alloc (Nat.le_refl _) _
          exact ⟨by rw [HV.out]; exact hown6, (bel_up' HI.out.2 hal).grown hg6 (by simp; omega) (fun k hk => HI.out.1.open_ge k hk)⟩
        clear hown6 hg6
        go_roundw
        case rel => exact ⟨i + 1, by omega, by go_num, HR.out⟩
        case measure => simp [intOf]; omega
      · have hz : (y == x) = false := beq_eq_false_iff_ne.2 hyx
        have HV : Hid (tlN T x (i + 1) = tlN T x i) := if_neg (by rw [← hy]; exact hyx)
        clear hyx hy
        go_wp2
        go_roundw
        case rel => exact ⟨i + 1, by omega, by go_num, by rw [HV.out]; exact HI.out.1, HI.out.2⟩
        case measure => simp [intOf]; omega
    · have hib : ¬ (i : Int) < (m : Int) := by omega
      have hie : m = i := by omega
      subst hie
      have HR : Hid (OwnV w.heap.size u9 (rowsN A N C (tlN T x m)) wr ∧ Below w.heap.size w wr) := by
        refine ⟨?_, bel_up' HA.out.2.2.2.1 HI.out.2⟩
        obtain ⟨h1, h2⟩ := HI.out.1
        refine ⟨h1, ?_⟩
        rcases h2 with h2 | ⟨g, cap, cur, hv, hg, r⟩
        · exact Or.inl h2
        · exact Or.inr ⟨g, cap, cur, hv, Nat.le_trans HA.out.2.2.2.1.size hg, r⟩
      go_wp2
      go_ret
      exact ⟨_, rfl, HR.out⟩
end Go.Proofs.Ythkjaiihlphgfaa
