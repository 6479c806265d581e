/- Texts of ours, one behind the other: KY15 KY16 KY17. -/
import Derived.Test.YtbnkekeeceicaaaGreatZKY12
import Derived.Test.YtbnkekeeceicaaaGreatZKF1
/- Nets: what Plan and NetPlanMay say is the same. -/
namespace Go.Proofs.YtbnkekeeceicaaaGreat
open Go.RowKit Go.Sort

theorem ctLs_yes {n m h : Nat} {F T tt : Nat → Nat} : ∀ L, ctLs n m h F T tt L = true ↔ ∃ s, s < L ∧ (cuB m F T (tt s) (2 ^ (n - 1))).1 < h
  | 0 => ⟨fun c => (by cases c), fun ⟨s, hs, _⟩ => absurd hs (by omega)⟩
  | i + 1 => by
    have ih := ctLs_yes (n := n) (m := m) (h := h) (F := F) (T := T) (tt := tt) i
    show (ctLs n m h F T tt i || decide ((cuB m F T (tt i) (2 ^ (n - 1))).1 < h)) = true ↔ _
    rw [Bool.or_eq_true, ih, decide_eq_true_iff]
    constructor
    · rintro (⟨s, hs, q⟩ | q)
      · exact ⟨s, by omega, q⟩
      · exact ⟨i, by omega, q⟩
    · rintro ⟨s, hs, q⟩
      by_cases c : s = i
      · rw [c] at q; exact Or.inr q
      · exact Or.inl ⟨s, by omega, q⟩
theorem ctLs_no {n m h : Nat} {F T tt : Nat → Nat} {L : Nat} (H : ∀ s, s < L → h ≤ (cuB m F T (tt s) (2 ^ (n - 1))).1) : ctLs n m h F T tt L = false := by
  cases q : ctLs n m h F T tt L with
  | false => rfl
  | true =>
    obtain ⟨s, hs, c⟩ := (ctLs_yes L).1 q
    have := H s hs
    omega
end Go.Proofs.YtbnkekeeceicaaaGreat

/- Nets: which plans may be asked for, where there is no field (the reference's NetPlanMay). -/
namespace Go.Proofs.YtbnkekeeceicaaaGreat
open Go.RowKit Go.Sort

set_option maxHeartbeats 2000000 in
set_option maxRecDepth 100000 in
theorem rplanMay_none (q n h : Int) {E1 : Int} (hE1 : E1 ≠ 0) {eo so : Option Addr} {m ec L sc : Nat} {w : World}
    (h2 : ∀ wx, Below w.heap.size w wx → Calls Tryz.prog 15 #[.int .i64 q] wx fun e w' => (∃ (a b c d : Int) (fo : Option Addr) (fn fc : Nat), e = .returned (.tuple #[.agg #[.int .i64 a, .int .i64 b, .int .i64 c, .int .i64 d, .slice fo fn fc], .int .i64 E1])) ∧ Below wx.heap.size wx w') :
    Calls Tryz.prog 13 #[.int .i64 q, .agg #[.int .i64 n, .slice eo m ec], .slice so L sc, .int .i64 h] w fun e w' => e = .returned (.int .i64 E1) ∧ Below w.heap.size w w' := by
  obtain ⟨wa, hwa⟩ : ∃ wa, wa = w.alloc (.cells #[.int .i64 n, .slice eo m ec] 24) := ⟨_, rfl⟩
  have hba : Below w.heap.size w wa := by rw [hwa]; exact (Below.refl _ _).alloc (Nat.le_refl _) _
  have HFi := h2 wa hba
  have HA : Hid (Below w.heap.size w wa) := hba
  have z0 : (E1 == 0) = false := by simp [hE1]
  have z1 : (E1 != 0) = true := bne_iff_ne.2 hE1
  clear h2 hba hE1
  go_enter Tryz.func13, Tryz.ntmps13
  go_wp2_with fail
  rw [← hwa]
  clear hwa
  refine HFi.mono ?_
  rintro e w1 ⟨⟨a, b, c, d, fo, fn, fc, rfl⟩, hb1⟩
  obtain ⟨wb, hwb⟩ : ∃ wb, wb = w1.alloc (.cells #[.int .i64 a, .int .i64 b, .int .i64 c, .int .i64 d, .slice fo fn fc] 42) := ⟨_, rfl⟩
  have hbb : Below w1.heap.size w1 wb := by rw [hwb]; exact (Below.refl _ _).alloc (Nat.le_refl _) _
  have HB : Hid (Below w.heap.size w wb) := bel_up' (bel_up' HA.out hb1) hbb
  rw [hwb] at HB
  clear hbb hb1 HFi hwb
  go_wp2
  go_ret
  exact ⟨rfl, HB.out⟩
end Go.Proofs.YtbnkekeeceicaaaGreat

/- Nets: what the reference's Reduce tells of the vectors that come to a node. -/
namespace Go.Proofs.YtbnkekeeceicaaaGreat
open Go.RowKit Go.Sort

theorem tlN_mem {T : Nat → Int} {x : Int} : ∀ m a, a < m → T a = x → a ∈ tlN T x m
  | 0, _, h, _ => absurd h (by omega)
  | m + 1, a, h, e => by
    show a ∈ (if T m = x then tlN T x m ++ [m] else tlN T x m)
    by_cases c : a = m
    · rw [c] at e ⊢
      rw [if_pos e]; simp
    · have := tlN_mem m a (by omega) e
      split
      · exact List.mem_append_left _ this
      · exact this
theorem nmem_getD {l : List Nat} {a : Nat} (h : a ∈ l) : ∃ k, k < l.length ∧ l.getD k 0 = a := by
  obtain ⟨k, hk, e⟩ := List.mem_iff_getElem.1 h
  exact ⟨k, hk, by rw [List.getD_eq_getElem?_getD, List.getElem?_eq_getElem hk]; exact e⟩
/-- How many rows Reduce tells. -/
def RdK (k : Nat) (w : World) (e : Ending) (w' : World) : Prop := ∃ ro rc vp, e = .returned (.tuple #[.slice ro k rc, vp]) ∧ Below w.heap.size w w'
theorem red_len {D : FD} (hD : D ∈ fieldsL) {m n : Nat} {M : Nat → Nat → Nat} (hm : m ≤ 1000) (hn : n ≤ 1000) (hel : ∀ i, i < m → El D (M i) ∧ Bd (n + 1) (M i)) : ∃ k R p, RRE D (n + 1) k R p ∧ (∀ v, Spn D (RowsOf k R) v ↔ Spn D (RowsOf m M) v) ∧
    ∀ (gen gm cm ca : Nat) (ao : Option Addr) (w : World), MatR ao m n M w → ModAt D (.slice (some ⟨gm, 0, none⟩) (D.m + 1) cm) D.md w → Calls Tryz.prog 39 #[.agg #[.int .i64 D.q, .int .i64 D.p, .int .i64 D.m, .int .i64 gen, .slice (some ⟨gm, 0, none⟩) (D.m + 1) cm], .slice ao m ca] w (RdK k w) := by
  obtain ⟨k, R, p, _, hR, hS⟩ := rre_ex hD (m := m) (n := n + 1) (R := M) (fun i hi => (hel i hi).1) (fun i hi => (hel i hi).2)
  refine ⟨k, R, p, hR, hS, fun gen gm cm ca ao w hA hM => (rreduce_any hD gen gm cm hm hn hel hA hM).mono ?_⟩
  rintro e w' ⟨vr, vp, k', R', p', rfl, _, ⟨l, hl1, hl2⟩, _, hR', hS', _, hb⟩
  obtain ⟨vo, vc, hv, _⟩ := hl1.open
  have hk := (rre_uniq (fld hD) hR' hR (fun v => (hS' v).trans (hS v).symm)).1
  have hlen : l.length = k := by rw [hl2.1, rl_len]; exact hk
  rw [hlen] at hv
  exact ⟨vo, vc, vp, by rw [hv], hb⟩
/-- The vectors of m edges, in memory. -/
structure VcM (G m h : Nat) (vo : Nat → Nat) (V : Nat → Nat → Nat) (w : World) : Prop where
  row : RowF G m 25 (fun e => .slice (some ⟨vo e, 0, none⟩) h h) w
  vec : ∀ e, e < m → Row (vo e) h (V e) w
theorem VcM.below {G m h : Nat} {vo : Nat → Nat} {V : Nat → Nat → Nat} {w w' : World} (H : VcM G m h vo V w) (hb : Below w.heap.size w w') : VcM G m h vo V w' :=
  ⟨H.row.below hb H.row.lt, fun e he => (H.vec e he).below hb (H.vec e he).lt⟩
theorem VcM.mat {G m h : Nat} {vo : Nat → Nat} {V : Nat → Nat → Nat} {w : World} (H : VcM G m h vo V w) (hh : h ≤ 64) : MatZ (some ⟨G, 0, none⟩) m (fun e => some ⟨vo e, 0, none⟩) (fun _ => h) (fun _ => h) (fun e c => ((V e c : Nat) : Int)) w :=
  ⟨fun i hi => ⟨G, 0, rfl, by rw [Nat.zero_add]; exact H.row.cell i hi⟩, fun i hi j hj => ⟨vo i, 0, rfl, by rw [Nat.zero_add]; exact (H.vec i hi).cell j hj⟩, fun _ _ => Nat.le_refl _, fun _ _ => by omega, fun _ _ e => (by cases e), fun _ _ => by omega⟩
theorem own_matR {base h n : Nat} (hh : h = n + 1) (h64 : h ≤ 64) {v : Value} {vo : Nat → Nat} {V : Nat → Nat → Nat} {l : List Nat} {w : World} (ho : OwnV base v (rowsN (fun s => some ⟨vo s, 0, none⟩) (fun _ => h) (fun _ => h) l) w) (hr : ∀ s ∈ l, Row (vo s) h (V s) w) :
    ∃ ao ca, v = .slice ao l.length ca ∧ MatR ao l.length n (fun k => V (l.getD k 0)) w := by
  obtain ⟨ao, ca, e, _, hm⟩ := ownV_mat ho hr h64
  refine ⟨ao, ca, e, fun i hi => ?_⟩
  obtain ⟨b, off, e2, hc⟩ := hm.cell i hi
  have hrow := hr _ (List.getElem_mem hi)
  have hg : l.getD i 0 = l[i] := by rw [List.getD_eq_getElem?_getD, List.getElem?_eq_getElem hi]; rfl
  rw [← hg] at hrow
  refine ⟨b, off, _, e2, hc, some ⟨vo (l.getD i 0), 0, none⟩, h, by rw [hh], ?_, ?_, fun e => (by cases e), by omega, by omega⟩
  · exact hrow.sl (by omega)
  · intro x hx
    cases hx
    exact hrow.lt
/-- What Reduce tells of these vectors. -/
def RdC (D : FD) (h m k : Nat) (vo : Nat → Nat) (V : Nat → Nat → Nat) (l : List Nat) : Prop := ∀ (gen gm cm base : Nat) (v : Value) (w : World), OwnV base v (rowsN (fun s => some ⟨vo s, 0, none⟩) (fun _ => h) (fun _ => h) l) w → (∀ e, e < m → Row (vo e) h (V e) w) → ModAt D (.slice (some ⟨gm, 0, none⟩) (D.m + 1) cm) D.md w → Calls Tryz.prog 39 #[.agg #[.int .i64 D.q, .int .i64 D.p, .int .i64 D.m, .int .i64 gen, .slice (some ⟨gm, 0, none⟩) (D.m + 1) cm], v] w (RdK k w)
theorem rdc_of {D : FD} {h n m k : Nat} (hh : h = n + 1) (h64 : h ≤ 64) {vo : Nat → Nat} {V M : Nat → Nat → Nat} {l : List Nat} (hl : ∀ i ∈ l, i < m) (hM : ∀ i, i < l.length → M i = V (l.getD i 0))
    (H : ∀ (gen gm cm ca : Nat) (ao : Option Addr) (w : World), MatR ao l.length n M w → ModAt D (.slice (some ⟨gm, 0, none⟩) (D.m + 1) cm) D.md w → Calls Tryz.prog 39 #[.agg #[.int .i64 D.q, .int .i64 D.p, .int .i64 D.m, .int .i64 gen, .slice (some ⟨gm, 0, none⟩) (D.m + 1) cm], .slice ao l.length ca] w (RdK k w)) : RdC D h m k vo V l := by
  intro gen gm cm base v w ho hv hMd
  obtain ⟨ao, ca, rfl, hA⟩ := own_matR hh h64 ho (fun s hs => hv s (hl s hs))
  refine H gen gm cm ca ao w (fun i hi => ?_) hMd
  obtain ⟨b, off, u, h1, h2, h3⟩ := hA i hi
  exact ⟨b, off, u, h1, h2, by rw [hM i hi]; exact h3⟩
/-- An edge's vector is in the span of those that come to where it begins: both ranks are the same. -/
theorem car_two {D : FD} (hD : D ∈ fieldsL) {m h k : Nat} {F T tt : Nat → Nat} {V : Nat → Nat → Nat} (hP : PlV D m h k F T tt V) (hm : m ≤ 24) (h1 : 1 ≤ h) (h24 : h ≤ 24) (vo : Nat → Nat) {e : Nat} (he : e < m) (hF : F e ≠ 0) :
    ∃ r, RdC D h m r vo V (tlN (fun i => ((T i : Nat) : Int)) ((F e : Nat) : Int) m) ∧ RdC D h m r vo V (tlN (fun i => ((T i : Nat) : Int)) ((F e : Nat) : Int) m ++ [e]) := by
  obtain ⟨n, hn⟩ : ∃ n, h = n + 1 := ⟨h - 1, by omega⟩
  obtain ⟨l, hl⟩ : ∃ l, l = tlN (fun i => ((T i : Nat) : Int)) ((F e : Nat) : Int) m := ⟨_, rfl⟩
  have hlt : ∀ i ∈ l, i < m := fun i hi => by rw [hl] at hi; exact tlN_lt m i hi
  have hlen : l.length ≤ m := by rw [hl]; exact tlN_len _ _ m
  rw [← hl]
  have hlt2 : ∀ i ∈ l ++ [e], i < m := fun i hi => by
    rcases List.mem_append.1 hi with q | q
    · exact hlt i q
    · rw [List.mem_singleton.1 q]; exact he
  have hlen2 : (l ++ [e]).length = l.length + 1 := by rw [List.length_append]; rfl
  have hat : ∀ i, i < l.length → (l ++ [e]).getD i 0 = l.getD i 0 := fun i hi => by
    rw [List.getD_eq_getElem?_getD, List.getElem?_append_left hi, List.getD_eq_getElem?_getD]
  have hend : (l ++ [e]).getD l.length 0 = e := by rw [List.getD_eq_getElem?_getD]; simp
  have hel : ∀ i, i < l.length + 1 → El D (V ((l ++ [e]).getD i 0)) ∧ Bd (n + 1) (V ((l ++ [e]).getD i 0)) := fun i hi => by
    rw [← hn]; exact hP.el _ (sel_lt hlt2 i (by omega))
  obtain ⟨k1, R1, p1, a1, a2, a3⟩ := red_len hD (m := l.length) (n := n) (M := fun i => V ((l ++ [e]).getD i 0)) (by omega) (by omega) (fun i hi => hel i (by omega))
  obtain ⟨k2, R2, p2, b1, b2, b3⟩ := red_len hD (m := l.length + 1) (n := n) (M := fun i => V ((l ++ [e]).getD i 0)) (by omega) (by omega) hel
  have hin : Spn D (RowsOf l.length fun i => V ((l ++ [e]).getD i 0)) (V ((l ++ [e]).getD l.length 0)) := by
    rw [hend]
    rcases hP.car e he with q | q
    · exact absurd q hF
    · refine spn_le (fld hD) (fun v hv => ?_) q
      obtain ⟨a, ha, hT, rfl⟩ := hv
      obtain ⟨j, hj, ej⟩ := nmem_getD (show a ∈ l by rw [hl]; exact tlN_mem m a ha (by show ((T a : Nat) : Int) = _; rw [hT]))
      exact spn_mem (fld hD) (hP.el a ha).1 ⟨j, hj, by show V a = V ((l ++ [e]).getD j 0); rw [hat j hj, ej]⟩
  have hk := rank_in (fld hD) (fun i hi => (hel i hi).1) a1 a2 b1 b2 hin
  refine ⟨k1, rdc_of hn (by omega) hlt (fun i hi => by show V ((l ++ [e]).getD i 0) = _; rw [hat i hi]) a3, rdc_of hn (by omega) hlt2 (fun _ _ => rfl) ?_⟩
  rw [hlen2, hk]
  exact b3
/-- What comes to a sink has rank h. -/
theorem snk_one {D : FD} (hD : D ∈ fieldsL) {m h k : Nat} {F T tt : Nat → Nat} {V : Nat → Nat → Nat} (hP : PlV D m h k F T tt V) (hm : m ≤ 24) (h1 : 1 ≤ h) (h24 : h ≤ 24) (vo : Nat → Nat) {s : Nat} (hs : s < k) :
    RdC D h m h vo V (tlN (fun i => ((T i : Nat) : Int)) ((tt s : Nat) : Int) m) := by
  obtain ⟨n, hn⟩ : ∃ n, h = n + 1 := ⟨h - 1, by omega⟩
  obtain ⟨l, hl⟩ : ∃ l, l = tlN (fun i => ((T i : Nat) : Int)) ((tt s : Nat) : Int) m := ⟨_, rfl⟩
  have hlt : ∀ i ∈ l, i < m := fun i hi => by rw [hl] at hi; exact tlN_lt m i hi
  have hlen : l.length ≤ m := by rw [hl]; exact tlN_len _ _ m
  rw [← hl]
  have hel : ∀ i, i < l.length → El D (V (l.getD i 0)) ∧ Bd (n + 1) (V (l.getD i 0)) := fun i hi => by
    rw [← hn]; exact hP.el _ (sel_lt hlt i hi)
  obtain ⟨k1, R1, p1, a1, a2, a3⟩ := red_len hD (m := l.length) (n := n) (M := fun i => V (l.getD i 0)) (by omega) (by omega) hel
  obtain ⟨Lv, hB, hLv⟩ := hP.snk s hs
  rw [← hn] at a1
  have hk := bas_rank (fld hD) a1 hB (fun j hj => (a2 _).2 (by
    obtain ⟨a, ha, hT, e⟩ := hLv j hj
    obtain ⟨i, hi, ei⟩ := nmem_getD (show a ∈ l by rw [hl]; exact tlN_mem m a ha (by show ((T a : Nat) : Int) = _; rw [hT]))
    rw [e]
    exact spn_mem (fld hD) (hP.el a ha).1 ⟨i, hi, by show V a = V (l.getD i 0); rw [ei]⟩))
  rw [hk] at a3
  exact rdc_of hn (by omega) hlt (fun _ _ => rfl) a3
end Go.Proofs.YtbnkekeeceicaaaGreat
