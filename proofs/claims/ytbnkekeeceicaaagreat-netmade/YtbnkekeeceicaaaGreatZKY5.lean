/- Texts of ours, one behind the other: KY5 KY6 KY6b. -/
import Derived.Test.YtbnkekeeceicaaaGreatZKY2
import Derived.Test.YtbnkekeeceicaaaGreatZKW8
import Derived.Test.YtbnkekeeceicaaaGreatZKF1
/- Nets: a sum of multiples of some vectors whose product with none of others is 0 (meeting). -/
namespace Go.Proofs.YtbnkekeeceicaaaGreat
open Go.RowKit Go.Sort

theorem jnV_is {D : FD} (F : Fld D) {z h : Nat} {a b : Nat → Nat} (ha : Bd h a) (hb : Bd h b) : jnV D z a b h = padd D (pscale D z a) b := by
  funext c
  unfold jnV
  by_cases q : c < h
  · rw [if_pos q]; rfl
  · rw [if_neg q]
    show 0 = D.ad (D.mul z (a c)) (b c)
    rw [ha c (by omega), hb c (by omega), mul0 F, ad_zero F (zero_lt' F)]
theorem jnV_bd (D : FD) (z : Nat) (a b : Nat → Nat) (h : Nat) : Bd h (jnV D z a b h) := fun c hc => by unfold jnV; rw [if_neg (by omega)]
theorem MatZ.less {ao : Option Addr} {m k : Nat} {A : Nat → Option Addr} {N C : Nat → Nat} {Z : Nat → Nat → Int} {w : World} (h : MatZ ao m A N C Z w) (hk : k ≤ m) : MatZ ao k A N C Z w :=
  ⟨fun i hi => h.cell i (by omega), fun i hi => h.sl i (by omega), fun i hi => h.le i (by omega), fun i hi => h.cap i (by omega), fun i hi => h.nil i (by omega), fun i hi => h.few i (by omega)⟩
/-- A sum that meets the first i. -/
def MtS (D : FD) (h k i base : Nat) (X Y : Nat → Nat → Nat) (W : World) (gx : Nat) (o : Nat → Nat) (w' : World) : Prop := base ≤ gx ∧ Row gx h o w' ∧ El D o ∧ Bd h o ∧ Spn D (RowsOf k X) o ∧ (∀ j, j < i → dot D o (Y j) h ≠ 0) ∧ Below base W w'
def MtP (D : FD) (h k base : Nat) (X Y : Nat → Nat → Nat) (W : World) (e : Ending) (w' : World) : Prop := ∃ gx o, e = .returned (.slice (some ⟨gx, 0, none⟩) h h) ∧ MtS D h k k base X Y W gx o w'
set_option maxHeartbeats 4000000 in
set_option maxRecDepth 100000 in
theorem meeting_any {D : FD} (hD : D ∈ fieldsL) {Fb T : Nat} {g : Nat → Value} {xo yo : Option Addr} {h k cx cy : Nat} {AX AY : Nat → Option Addr} {CX CY : Nat → Nat} {X Y : Nat → Nat → Nat} {w : World} (hF : FAt Fb T D g w) (h1 : 1 ≤ h) (h64 : h ≤ 64) (hk : k ≤ D.q) (hcy : k ≤ cy) (hX : MatZ xo k AX (fun _ => h) CX (fun r c => ((X r c : Nat) : Int)) w) (hY : MatZ yo k AY (fun _ => h) CY (fun r c => ((Y r c : Nat) : Int)) w) (eX : ∀ j, j < k → El D (X j)) (bX : ∀ j, j < k → Bd h (X j)) (eY : ∀ j, j < k → El D (Y j)) (hne : ∀ j, j < k → dot D (X j) (Y j) h ≠ 0) :
    Calls Tryz.prog 53 #[.pointer (some ⟨Fb, 0, none⟩), .slice xo k cx, .slice yo k cy, .int .i64 (h : Nat)] w (MtP D h k w.heap.size X Y w) := by
  have hkm : k ≤ 64 := Nat.le_trans hk (fld hD).q64
  have HF : Hid (FAt Fb T D g w ∧ D ∈ fieldsL ∧ MatZ xo k AX (fun _ => h) CX (fun r c => ((X r c : Nat) : Int)) w ∧ MatZ yo k AY (fun _ => h) CY (fun r c => ((Y r c : Nat) : Int)) w ∧ (∀ j, j < k → El D (X j)) ∧ (∀ j, j < k → Bd h (X j)) ∧ (∀ j, j < k → El D (Y j)) ∧ (∀ j, j < k → dot D (X j) (Y j) h ≠ 0) ∧ k ≤ D.q) := ⟨hF, hD, hX, hY, eX, bX, eY, hne, hk⟩
  clear hD hF hX hY eX bX eY hne hk
  go_enter Tryz.func53, Tryz.ntmps53
  go_wp2_with (at_make; refine make_int rfl _ _ rfl _ h rfl rfl (by omega) (by omega) ?_; intro w1 hown1 hgrow1)
  have H1 : Hid (MtS D h k 0 w.heap.size X Y w w.heap.size pnil w1) := ⟨Nat.le_refl _, row_zeros hown1, el_nil (fld HF.out.2.1), fun _ _ => rfl, spn_nil D _, fun j hj => absurd hj (by omega), below_grown hgrow1 (Nat.le_refl _) (fun k hk => by simp at hk)⟩
  clear hown1 hgrow1
  go_loopw [9, 16] (fun vo vi wr => ∃ (i gx : Nat) (o : Nat → Nat), i ≤ k ∧ vi = .int .i64 i ∧ vo = .slice (some ⟨gx, 0, none⟩) h h ∧ Hid (MtS D h k i w.heap.size X Y w gx o wr)) (fun _ vi _ => k - (RowKit.intOf vi).toNat)
  case atStart => exact ⟨0, _, _, by omega, rfl, rfl, H1⟩
  case round =>
    obtain ⟨i, gx, o, hi, rfl, rfl, HG⟩ := hrel
    rename World => wr
    by_cases hlt : i < k
    · have hib : (i : Int) < (k : Int) := by omega
      have hib0 : (0 : Int) ≤ (i : Int) := by omega
      have hic : (i : Int) ≤ (cy : Int) := by omega
      obtain ⟨a1, a2, a3, a4, a5, a6, a7⟩ := HG.out
      have hMX := HF.out.2.2.1.below a7
      have hMY := HF.out.2.2.2.1.below a7
      have hat := HF.out.1.below a7 HF.out.1.ltF HF.out.1.ltT
      obtain ⟨b1, o1, hxo, hcX⟩ := hMX.cell i hlt
      obtain ⟨b2, o2, hyo, hcY⟩ := hMY.cell i hlt
      have hcX : wr.cell? ⟨b1, o1 + i, none⟩ = some (.slice (AX i) h (CX i)) := hcX
      have hcY : wr.cell? ⟨b2, o2 + i, none⟩ = some (.slice (AY i) h (CY i)) := hcY
      have HP : Hid (∀ ca cb, Calls Tryz.prog 69 #[.pointer (some ⟨Fb, 0, none⟩), .slice (some ⟨gx, 0, none⟩) h ca, .slice (AY i) h cb] wr fun e w' => e = .returned (.int .i64 (dot D o (Y i) h : Nat)) ∧ ∃ d, w' = wr.drewN d) := fun ca cb => nproduct_any HF.out.2.1 hat (a2.sl (Nat.le_refl _)) (show Sl (AY i) h (Y i) wr from hMY.sl i hlt) (by omega) (fun j _ => a3 j) (fun j _ => HF.out.2.2.2.2.2.2.1 i hlt j)
      obtain ⟨dd, hdd⟩ : ∃ dd, dd = dot D o (Y i) h := ⟨_, rfl⟩
      have HDD : Hid (dd = dot D o (Y i) h) := hdd
      rw [← hdd] at HP
      have HJn : Hid (∀ d ca cb cc, Calls Tryz.prog 70 #[.pointer (some ⟨Fb, 0, none⟩), .slice (some ⟨gx, 0, none⟩) h ca, .slice (AX i) h cb, .slice yo i cc] (wr.drewN d) (JnP D h i (wr.drewN d).heap.size o (X i) Y (wr.drewN d))) := fun d ca cb cc => joined_any HF.out.2.1 (hat.drewN d) h1 h64 (by have := HF.out.2.2.2.2.2.2.2.2; omega) (by omega) ((a2.sl (Nat.le_refl _)).drewN d) ((show Sl (AX i) h (X i) wr from hMX.sl i hlt).drewN d) a3 (HF.out.2.2.2.2.1 i hlt) ((hMY.less (Nat.le_of_lt hlt)).below (below_drewN2 (Below.refl _ _) d)) (fun j hj => HF.out.2.2.2.2.2.2.1 j (by omega)) a6
      clear a1 a2 a3 a4 a5 a6 a7 hMX hMY hat hdd
      subst hxo hyo
      by_cases hd0 : dd = 0
      · have HD0 : Hid (dot D o (Y i) h = 0) := by show _ = _; rw [← HDD.out]; exact hd0
        subst hd0
        clear HDD
        go_wp2_with (first | (go_at_call 69; refine (HP.out _ _).mono ?_; rintro e w' ⟨rfl, d, hw⟩; subst hw) | (go_at_call 70; refine (HJn.out _ _ _ _).mono ?_; rintro e w' ⟨gy, z, rfl, k1, k2, k3, k4, k5⟩))
        go_roundw
        case rel =>
          obtain ⟨a1, a2, a3, a4, a5, a6, a7⟩ := HG.out
          have F := fld HF.out.2.1
          have hXe := HF.out.2.2.2.2.1 i hlt
          have hXb := HF.out.2.2.2.2.2.1 i hlt
          refine ⟨i + 1, gy, jnV D z o (X i) h, by omega, by go_num, rfl, Nat.le_trans a7.size k1, k2, jnV_el F z o hXe h, jnV_bd D z o (X i) h, ?_, fun j hj => ?_, bel_up' (below_drewN2 a7 d) k5⟩
          · rw [jnV_is F a4 hXb]
            exact spn_add F (spn_scale F z a5) (spn_mem F hXe ⟨i, hlt, rfl⟩)
          · by_cases e : j = i
            · rw [e, jnV_dot F hXe, HD0.out, mul0 F, zero_ad F (dot_lt F _ _ _)]
              exact HF.out.2.2.2.2.2.2.2.1 i hlt
            · exact k4 j (by omega)
        case measure => simp [RowKit.intOf]; omega
      · have HD0 : Hid (dot D o (Y i) h ≠ 0) := by show _ ≠ _; rw [← HDD.out]; exact hd0
        have hdz : ((dd : Nat) : Int) ≠ 0 := by omega
        clear HDD
        go_wp2_with (first | (go_at_call 69; refine (HP.out _ _).mono ?_; rintro e w' ⟨rfl, d, hw⟩; subst hw))
        go_roundw
        case rel =>
          obtain ⟨a1, a2, a3, a4, a5, a6, a7⟩ := HG.out
          refine ⟨i + 1, gx, o, by omega, by go_num, rfl, a1, a2.drewN _, a3, a4, a5, fun j hj => ?_, below_drewN2 a7 _⟩
          by_cases e : j = i
          · rw [e]; exact HD0.out
          · exact a6 j (by omega)
        case measure => simp [RowKit.intOf]; omega
    · have e : i = k := by omega
      subst e
      go_wp2
      go_ret
      exact ⟨gx, o, rfl, HG.out⟩
end Go.Proofs.YtbnkekeeceicaaaGreat

/- Nets: all sinks' fronts; what stands of them while an edge is passed. -/
namespace Go.Proofs.YtbnkekeeceicaaaGreat
open Go.RowKit Go.Sort Go.Maps

/-- k fronts: a map from edges to ways, and the last vectors of h ways. -/
structure Frs (fb k h : Nat) (mb lb : Nat → Nat) (vb : Nat → Nat → Nat) (As : Nat → List Nat) (wy : Nat → Nat → Nat) (L : Nat → Nat → Nat → Nat) (w : World) : Prop where
  c0 : ∀ s, s < k → w.cell? ⟨fb, s * 2, none⟩ = some (.map (some (mb s)))
  c1 : ∀ s, s < k → w.cell? ⟨fb, s * 2 + 1, none⟩ = some (.slice (some ⟨lb s, 0, none⟩) h h)
  mp : ∀ s, s < k → MapN (mb s) (As s) (fun e => ((wy s e : Nat) : Int)) w
  rows : ∀ s, s < k → RowF (lb s) h 25 (fun j => .slice (some ⟨vb s j, 0, none⟩) h h) w
  vec : ∀ s, s < k → ∀ j, j < h → Row (vb s j) h (L s j) w
  inj : ∀ s, s < k → ∀ t, t < k → lb s = lb t → s = t
theorem Frs.below {fb k h : Nat} {mb lb : Nat → Nat} {vb : Nat → Nat → Nat} {As : Nat → List Nat} {wy : Nat → Nat → Nat} {L : Nat → Nat → Nat → Nat} {w w' : World} (H : Frs fb k h mb lb vb As wy L w) (hb : Below w.heap.size w w') : Frs fb k h mb lb vb As wy L w' :=
  ⟨fun s hs => ((bcell hb).1 _ _ (cell_lt (H.c0 s hs))).trans (H.c0 s hs), fun s hs => ((bcell hb).1 _ _ (cell_lt (H.c1 s hs))).trans (H.c1 s hs), fun s hs => (H.mp s hs).below hb, fun s hs => (H.rows s hs).other (hb.block _ (H.rows s hs).lt), fun s hs j hj => (H.vec s hs j hj).below hb (H.vec s hs j hj).lt, H.inj⟩
theorem Frs.mat {fb k h : Nat} {mb lb : Nat → Nat} {vb : Nat → Nat → Nat} {As : Nat → List Nat} {wy : Nat → Nat → Nat} {L : Nat → Nat → Nat → Nat} {w : World} (H : Frs fb k h mb lb vb As wy L w) {s : Nat} (hs : s < k) (hh : h ≤ 64) : MatZ (some ⟨lb s, 0, none⟩) h (fun j => some ⟨vb s j, 0, none⟩) (fun _ => h) (fun _ => h) (fun j c => ((L s j c : Nat) : Int)) w :=
  ⟨fun j hj => ⟨lb s, 0, rfl, by rw [Nat.zero_add]; exact (H.rows s hs).cell j hj⟩, fun j hj => (H.vec s hs j hj).sl (Nat.le_refl _), fun _ _ => Nat.le_refl _, fun _ _ => by show h ≤ _; omega, fun _ _ e => (by cases e), fun _ _ => by show h ≤ _; omega⟩
/-- Two lists of the call's own that begin with different things lie in different blocks. -/
theorem ownV_two {base : Nat} {v1 v2 : Value} {l1 l2 : List Value} {w : World} (h1 : OwnV base v1 l1 w) (h2 : OwnV base v2 l2 w) (n1 : l1 = [] → v1 = .slice none 0 0) (n2 : l2 = [] → v2 = .slice none 0 0) (hne : ∀ a b, l1[0]? = some a → l2[0]? = some b → a ≠ b) : v1.ownBlock = none ∨ v1.ownBlock ≠ v2.ownBlock := by
  cases l1 with
  | nil => exact Or.inl (by rw [n1 rfl]; rfl)
  | cons a l1 =>
    cases l2 with
    | nil =>
      by_cases c : v1.ownBlock = none
      · exact Or.inl c
      · exact Or.inr (by rw [n2 rfl]; exact c)
    | cons b l2 =>
      obtain ⟨o1, c1, e1, _, _, _, k1⟩ := h1.open
      obtain ⟨o2, c2, e2, _, _, _, k2⟩ := h2.open
      obtain ⟨g1, q1, r1, _⟩ := k1 0 a rfl
      obtain ⟨g2, q2, r2, _⟩ := k2 0 b rfl
      subst q1 q2 e1 e2
      refine Or.inr fun e => ?_
      have e : some g1 = some g2 := e
      cases e
      rw [r1] at r2
      exact hne a b rfl rfl (Option.some.inj r2)
/-- The fronts that take an edge. -/
def tkE (As : Nat → List Nat) (e : Nat) : Nat → Int := fun s => if e ∈ As s then 1 else 0
def tkL (As : Nat → List Nat) (e i : Nat) : List Nat := tlN (tkE As e) 1 i
theorem tkL_yes {As : Nat → List Nat} {e i : Nat} (h : e ∈ As i) : tkL As e (i + 1) = tkL As e i ++ [i] := by
  show (if tkE As e i = 1 then tlN (tkE As e) 1 i ++ [i] else tlN (tkE As e) 1 i) = _
  rw [if_pos (by unfold tkE; rw [if_pos h])]; rfl
theorem tkL_no {As : Nat → List Nat} {e i : Nat} (h : e ∉ As i) : tkL As e (i + 1) = tkL As e i := by
  show (if tkE As e i = 1 then tlN (tkE As e) 1 i ++ [i] else tlN (tkE As e) 1 i) = _
  rw [if_neg (by unfold tkE; rw [if_neg h]; decide)]; rfl
theorem tkL_lt {As : Nat → List Nat} {e i : Nat} : ∀ s ∈ tkL As e i, s < i := tlN_lt i
theorem tkL_mem {As : Nat → List Nat} {e : Nat} : ∀ i, ∀ s ∈ tkL As e i, e ∈ As s
  | 0, s, h => (by cases h)
  | i + 1, s, h => by
    by_cases c : e ∈ As i
    · rw [tkL_yes c] at h
      rcases List.mem_append.1 h with h | h
      · exact tkL_mem i s h
      · rw [List.mem_singleton.1 h]; exact c
    · rw [tkL_no c] at h; exact tkL_mem i s h
theorem tkL_in {As : Nat → List Nat} {e s : Nat} (h : e ∈ As s) : ∀ i, s < i → s ∈ tkL As e i
  | 0, hs => absurd hs (by omega)
  | i + 1, hs => by
    by_cases c : s = i
    · subst c; rw [tkL_yes h]; simp
    · have ih := tkL_in h i (by omega)
      by_cases d : e ∈ As i
      · rw [tkL_yes d]; exact List.mem_append_left _ ih
      · rw [tkL_no d]; exact ih
theorem tkL_len (As : Nat → List Nat) (e i : Nat) : (tkL As e i).length ≤ i := tlN_len _ _ _
/-- What stands when i fronts have been asked. -/
structure PsI (D : FD) (h base e : Nat) (As : Nat → List Nat) (wy : Nat → Nat → Nat) (L : Nat → Nat → Nat → Nat) (vb : Nat → Nat → Nat) (i : Nat) (v9 v10 : Value) (yb : Nat → Nat) (Y : Nat → Nat → Nat) (W wr : World) : Prop where
  xs : OwnV base v9 (rowsN (fun s => some ⟨vb s (wy s e), 0, none⟩) (fun _ => h) (fun _ => h) (tkL As e i)) wr
  ys : OwnV base v10 (rowsN (fun s => some ⟨yb s, 0, none⟩) (fun _ => h) (fun _ => h) (tkL As e i)) wr
  nx : tkL As e i = [] → v9 = .slice none 0 0
  ny : tkL As e i = [] → v10 = .slice none 0 0
  row : ∀ s ∈ tkL As e i, base ≤ yb s ∧ Row (yb s) h (Y s) wr ∧ El D (Y s) ∧ ∀ j, j < h → dot D (L s j) (Y s) h = if j = wy s e then 1 else 0
  vlt : ∀ s ∈ tkL As e i, vb s (wy s e) < base
  bel : Below base W wr
theorem PsI.below {D : FD} {h base e : Nat} {As : Nat → List Nat} {wy : Nat → Nat → Nat} {L : Nat → Nat → Nat → Nat} {vb : Nat → Nat → Nat} {i : Nat} {v9 v10 : Value} {yb : Nat → Nat} {Y : Nat → Nat → Nat} {W w w' : World} (H : PsI D h base e As wy L vb i v9 v10 yb Y W w) (hb : Below w.heap.size w w') (hB : base ≤ W.heap.size) : PsI D h base e As wy L vb i v9 v10 yb Y W w' :=
  ⟨H.xs.below hb (Nat.le_refl _), H.ys.below hb (Nat.le_refl _), H.nx, H.ny, fun s hs => ⟨(H.row s hs).1, (H.row s hs).2.1.below hb (H.row s hs).2.1.lt, (H.row s hs).2.2⟩, H.vlt, bel_up' H.bel hb hB⟩
theorem rowsN_nil {A : Nat → Option Addr} {N C : Nat → Nat} {l : List Nat} (h : rowsN A N C l = []) : l = [] := by
  cases l with
  | nil => rfl
  | cons a l => cases h
/-- The first of the one and the first of the other differ. -/
theorem rows_apart {l : List Nat} {va ya : Nat → Nat} {h base : Nat} {r : List Value} (hv : ∀ s ∈ l, va s < base) (hy : ∀ s ∈ l, base ≤ ya s) (a b : Value) (ha : (rowsN (fun s => some ⟨va s, 0, none⟩) (fun _ => h) (fun _ => h) l ++ r)[0]? = some a) (hb : (rowsN (fun s => some ⟨ya s, 0, none⟩) (fun _ => h) (fun _ => h) l)[0]? = some b) : a ≠ b := by
  cases l with
  | nil => cases hb
  | cons s t =>
    have ha : some (Value.slice (some ⟨va s, 0, none⟩) h h) = some a := ha
    have hb : some (Value.slice (some ⟨ya s, 0, none⟩) h h) = some b := hb
    cases ha
    cases hb
    intro e
    have e : va s = ya s := by injection e with e1; injection e1 with e2; injection e2
    have h1 := hv s (by simp)
    have h2 := hy s (by simp)
    omega
theorem PsI.yx {D : FD} {h base e : Nat} {As : Nat → List Nat} {wy : Nat → Nat → Nat} {L : Nat → Nat → Nat → Nat} {vb : Nat → Nat → Nat} {i : Nat} {v9 v10 : Value} {yb : Nat → Nat} {Y : Nat → Nat → Nat} {W w : World} (H : PsI D h base e As wy L vb i v9 v10 yb Y W w) : v10.ownBlock = none ∨ v10.ownBlock ≠ v9.ownBlock :=
  ownV_two H.ys H.xs (fun q => H.ny (rowsN_nil q)) (fun q => H.nx (rowsN_nil q)) (fun a b ha hb => Ne.symm (rows_apart (r := []) H.vlt (fun s hs => (H.row s hs).1) b a (by rw [List.append_nil]; exact hb) ha))
theorem psI_push {D : FD} {h e : Nat} {As : Nat → List Nat} {wy : Nat → Nat → Nat} {L : Nat → Nat → Nat → Nat} {vb : Nat → Nat → Nat} {i y x gx : Nat} {v2 v5 u10 : Value} {yb : Nat → Nat} {sv : Nat → Nat} {Y : Nat → Nat → Nat} {w w4 w5 : World} (hin : e ∈ As i) (hx : x = vb i (wy i e)) (hxl : x < w.heap.size) (hy : y = wy i e) (ny : tkL As e i = [] → u10 = .slice none 0 0) (hv : ∀ s ∈ tkL As e i, vb s (wy s e) < w.heap.size)
    (o9 : OwnV w.heap.size v2 (rowsN (fun s => some ⟨vb s (wy s e), 0, none⟩) (fun _ => h) (fun _ => h) (tkL As e i) ++ [.slice (some ⟨x, 0, none⟩) h h]) w4) (o10 : OwnV w.heap.size u10 (rowsN (fun s => some ⟨yb s, 0, none⟩) (fun _ => h) (fun _ => h) (tkL As e i)) w4)
    (hr : ∀ s ∈ tkL As e i, w.heap.size ≤ yb s ∧ Row (yb s) h (Y s) w4 ∧ El D (Y s) ∧ ∀ j, j < h → dot D (L s j) (Y s) h = if j = wy s e then 1 else 0) (hgx : w.heap.size ≤ gx) (hrow : Row gx h sv w4) (he : El D sv) (hd : ∀ j, j < h → dot D (L i j) sv h = if j = y then 1 else 0)
    (hown : OwnV w.heap.size v5 (rowsN (fun s => some ⟨yb s, 0, none⟩) (fun _ => h) (fun _ => h) (tkL As e i) ++ [.slice (some ⟨gx, 0, none⟩) h h]) w5) (hg : w4.grownBy w5 u10.ownBlock) (hb : Below w.heap.size w w5) :
    PsI D h w.heap.size e As wy L vb (i + 1) v2 v5 (fun s => if s = i then gx else yb s) (fun s => if s = i then sv else Y s) w w5 := by
  have hlt : ∀ s ∈ tkL As e i, s ≠ i := fun s hs => by have := tkL_lt s hs; omega
  have hne : tkL As e (i + 1) ≠ [] := by rw [tkL_yes hin]; simp
  refine ⟨?_, ?_, fun q => absurd q hne, fun q => absurd q hne, fun s hs => ?_, fun s hs => ?_, hb⟩
  · have h1 := o9.grown hg (ownV_two o9 o10 (fun q => absurd q (by simp)) (fun q => ny (rowsN_nil q)) (rows_apart hv (fun s hs => (hr s hs).1)))
    rw [tkL_yes hin]
    unfold rowsN
    rw [List.map_append]
    rw [hx] at h1
    exact h1
  · rw [tkL_yes hin]
    unfold rowsN
    rw [List.map_append]
    have e1 : (tkL As e i).map (fun s => Value.slice ((fun s => some ⟨if s = i then gx else yb s, 0, none⟩) s) h h) = (tkL As e i).map (fun s => Value.slice (some ⟨yb s, 0, none⟩) h h) := List.map_congr_left (fun s hs => by show Value.slice (some ⟨if s = i then gx else yb s, 0, none⟩) h h = _; rw [if_neg (hlt s hs)])
    rw [e1]
    have e2 : [i].map (fun s => Value.slice ((fun s => some ⟨if s = i then gx else yb s, 0, none⟩) s) h h) = [.slice (some ⟨gx, 0, none⟩) h h] := by simp
    rw [e2]
    exact hown
  · rw [tkL_yes hin] at hs
    rcases List.mem_append.1 hs with hs | hs
    · rw [if_neg (hlt s hs), if_neg (hlt s hs)]
      have h1 := hr s hs
      exact ⟨h1.1, h1.2.1.other (hg.block _ h1.2.1.lt (h1.2.1.apart o10)), h1.2.2⟩
    · rw [List.mem_singleton.1 hs, if_pos rfl, if_pos rfl]
      exact ⟨hgx, hrow.other (hg.block _ hrow.lt (hrow.apart o10)), he, fun j hj => by rw [hd j hj, hy]⟩
  · rw [tkL_yes hin] at hs
    rcases List.mem_append.1 hs with hs | hs
    · exact hv s hs
    · rw [List.mem_singleton.1 hs, ← hx]; exact hxl
theorem PsI.skip {D : FD} {h base e : Nat} {As : Nat → List Nat} {wy : Nat → Nat → Nat} {L : Nat → Nat → Nat → Nat} {vb : Nat → Nat → Nat} {i : Nat} {v9 v10 : Value} {yb : Nat → Nat} {Y : Nat → Nat → Nat} {W w : World} (H : PsI D h base e As wy L vb i v9 v10 yb Y W w) (hn : e ∉ As i) : PsI D h base e As wy L vb (i + 1) v9 v10 yb Y W w := by
  have e1 := tkL_no hn
  exact ⟨by rw [e1]; exact H.xs, by rw [e1]; exact H.ys, by rw [e1]; exact H.nx, by rw [e1]; exact H.ny, by rw [e1]; exact H.row, by rw [e1]; exact H.vlt, H.bel⟩
end Go.Proofs.YtbnkekeeceicaaaGreat

/- Nets: the fronts when one last vector is another. -/
namespace Go.Proofs.YtbnkekeeceicaaaGreat
open Go.RowKit Go.Sort Go.Maps

/-- All blocks but own ones lie as they lay. -/
structure Kps (own : Nat → Prop) (X Y : World) : Prop where
  os : Y.os = X.os
  tape : Y.tape = X.tape
  output : Y.output = X.output
  size : X.heap.size ≤ Y.heap.size
  same : ∀ k, k < X.heap.size → ¬ own k → Y.heap[k]? = X.heap[k]?
theorem Kps.refl (own : Nat → Prop) (X : World) : Kps own X X := ⟨rfl, rfl, rfl, Nat.le_refl _, fun _ _ _ => rfl⟩
theorem Kps.trans {own : Nat → Prop} {X Y Z : World} (h : Kps own X Y) (k : Kps own Y Z) : Kps own X Z :=
  ⟨k.os.trans h.os, k.tape.trans h.tape, k.output.trans h.output, Nat.le_trans h.size k.size, fun i hi hn => (k.same i (Nat.lt_of_lt_of_le hi h.size) hn).trans (h.same i hi hn)⟩
theorem Kps.of_below {own : Nat → Prop} {X Y : World} (h : Below X.heap.size X Y) : Kps own X Y := ⟨h.os, h.tape, h.output, h.size, fun k hk _ => h.block k hk⟩
theorem Kps.setCell {own : Nat → Prop} (X : World) (a : Addr) (v : Value) (hl : own a.block) : Kps own X (X.setCell a v) :=
  ⟨rfl, rfl, rfl, by simp [World.setCell], fun k _ hn => Below.heap_setCell X a v k (fun e => hn (by rw [e]; exact hl))⟩
theorem Kps.below {own : Nat → Prop} {X Y : World} (h : Kps own X Y) {B : Nat} (hB : B ≤ X.heap.size) (hn : ∀ k, k < B → ¬ own k) : Below B X Y := ⟨h.os, h.tape, h.output, h.size, fun k hk => h.same k (by omega) (hn k hk)⟩
/-- Rows of a list of the call's own, handed in. -/
theorem ownV_mat {base h : Nat} {v : Value} {a : Nat → Nat} {R : Nat → Nat → Nat} {l : List Nat} {w : World} (ho : OwnV base v (rowsN (fun s => some ⟨a s, 0, none⟩) (fun _ => h) (fun _ => h) l) w) (hr : ∀ s ∈ l, Row (a s) h (R s) w) (hh : h ≤ 64) :
    ∃ vo vc, v = .slice vo l.length vc ∧ l.length ≤ vc ∧ MatZ vo l.length (fun k => some ⟨a (l.getD k 0), 0, none⟩) (fun _ => h) (fun _ => h) (fun r c => ((R (l.getD r 0) c : Nat) : Int)) w := by
  have hlen : (rowsN (fun s => some ⟨a s, 0, none⟩) (fun _ => h) (fun _ => h) l).length = l.length := by unfold rowsN; exact List.length_map ..
  obtain ⟨vo, vc, hv, hvn, _, _, hc⟩ := ho.open
  have hle : l.length ≤ vc := by
    rcases ho.2 with ⟨h1, h2⟩ | ⟨g, cap, cur, hv2, hg, hh2, hle, _⟩
    · rw [hlen] at h2; omega
    · rw [hv] at hv2
      cases hv2
      rw [hlen] at hle
      omega
  rw [hlen] at hv
  refine ⟨vo, vc, hv, hle, fun k hk => ?_, fun k hk => (hr _ (getD_inl hk)).sl (Nat.le_refl _), fun _ _ => Nat.le_refl _, fun _ _ => by show h ≤ _; omega, fun _ _ e => (by cases e), fun _ _ => by show h ≤ _; omega⟩
  have hg : (rowsN (fun s => some ⟨a s, 0, none⟩) (fun _ => h) (fun _ => h) l)[k]? = some (.slice (some ⟨a (l.getD k 0), 0, none⟩) h h) := by
    unfold rowsN
    rw [List.getElem?_map, List.getD_eq_getElem?_getD, List.getElem?_eq_getElem hk]; rfl
  obtain ⟨g, e, h1, _⟩ := hc k _ hg
  exact ⟨g, 0, e, by rw [Nat.zero_add]; exact h1⟩
theorem rowF_ne_row {G m g n : Nat} {f : Nat → Value} {c : Nat → Nat} {w : World} (h : RowF G m 25 f w) (r : Row g n c w) : g ≠ G := by
  intro e
  obtain ⟨cs, h1, _⟩ := h
  obtain ⟨cap, f2, ⟨cs2, h2, _⟩, _⟩ := r
  rw [e, h1] at h2
  injection h2 with h3
  injection h3 with h4 h5
  exact absurd h5 (by decide)
theorem rowF_ne_map {G m B : Nat} {f : Nat → Value} {L : List Nat} {c : Nat → Int} {w : World} (h : RowF G m 25 f w) (r : MapN B L c w) : B ≠ G := by
  intro e
  obtain ⟨cs, h1, _⟩ := h
  obtain ⟨D, ⟨es, clock, hb, _⟩, _⟩ := r
  rw [e, h1] at hb
  cases hb
theorem rowF_ne_cell {G m b o : Nat} {f : Nat → Value} {v : Value} {w : World} (h : RowF G m 25 f w) (r : w.cell? ⟨b, o, none⟩ = some v) (hn : ∀ j, j < m → f j ≠ v) : b ≠ G := by
  intro e
  rw [e] at r
  obtain ⟨cs, h1, h2, h3⟩ := h
  rw [cell_of_row w G o cs 25 (0, 0) h1] at r
  have ho : o < m := by
    rcases Nat.lt_or_ge o m with q | q
    · exact q
    · rw [Array.getElem?_eq_none (by omega)] at r; cases r
  rw [h3 o ho] at r
  exact hn o ho (Option.some.inj r)
/-- One last vector is another. -/
theorem Frs.put {fb k h : Nat} {mb lb : Nat → Nat} {vb : Nat → Nat → Nat} {As : Nat → List Nat} {wy : Nat → Nat → Nat} {L : Nat → Nat → Nat → Nat} {w : World} (H : Frs fb k h mb lb vb As wy L w) {i y gx : Nat} {o : Nat → Nat} (hi : i < k) (hR : Row gx h o w) :
    Frs fb k h mb lb (fun s j => if s = i ∧ j = y then gx else vb s j) As wy (fun s j => if s = i ∧ j = y then o else L s j) (w.setCell ⟨lb i, y, none⟩ (.slice (some ⟨gx, 0, none⟩) h h)) := by
  have hfb : fb ≠ lb i := rowF_ne_cell (H.rows i hi) (H.c0 i hi) (fun j hj q => by cases q)
  refine ⟨fun s hs => ?_, fun s hs => ?_, fun s hs => ?_, fun s hs => ?_, fun s hs j hj => ?_, H.inj⟩
  · rw [World.cell?_setCell_far _ _ _ _ (Ne.symm hfb)]; exact H.c0 s hs
  · rw [World.cell?_setCell_far _ _ _ _ (Ne.symm hfb)]; exact H.c1 s hs
  · exact (H.mp s hs).same (Below.heap_setCell w ⟨lb i, y, none⟩ _ (mb s) (rowF_ne_map (H.rows i hi) (H.mp s hs)))
  · by_cases e : s = i
    · subst e
      refine ((H.rows s hs).store y (.slice (some ⟨gx, 0, none⟩) h h)).congr (fun j _ => ?_)
      unfold upd
      by_cases e2 : j = y
      · rw [if_pos e2, if_pos ⟨rfl, e2⟩]
      · rw [if_neg e2, if_neg (fun q => e2 q.2)]
    · refine ((H.rows s hs).other (Below.heap_setCell w ⟨lb i, y, none⟩ _ (lb s) (fun q => e (H.inj s hs i hi q)))).congr (fun j _ => ?_)
      rw [if_neg (fun q => e q.1)]
  · have hk : ∀ {g : Nat} {c : Nat → Nat}, Row g h c w → Row g h c (w.setCell ⟨lb i, y, none⟩ (.slice (some ⟨gx, 0, none⟩) h h)) := fun r => r.other (Below.heap_setCell w ⟨lb i, y, none⟩ _ _ (rowF_ne_row (H.rows i hi) r))
    by_cases e : s = i ∧ j = y
    · rw [if_pos e, if_pos e]; exact hk hR
    · rw [if_neg e, if_neg e]; exact hk (H.vec s hs j hj)
/-- The vectors' blocks, and the vectors, when i fronts have been led over the edge e. -/
def psV (As : Nat → List Nat) (wy : Nat → Nat → Nat) (e gx : Nat) (vb : Nat → Nat → Nat) (i : Nat) : Nat → Nat → Nat := fun s j => if (s < i ∧ e ∈ As s) ∧ j = wy s e then gx else vb s j
def psL (As : Nat → List Nat) (wy : Nat → Nat → Nat) (e : Nat) (o : Nat → Nat) (L : Nat → Nat → Nat → Nat) (i : Nat) : Nat → Nat → Nat → Nat := fun s j => if (s < i ∧ e ∈ As s) ∧ j = wy s e then o else L s j
theorem ps_iff {As : Nat → List Nat} {wy : Nat → Nat → Nat} {e i s j : Nat} (hin : e ∈ As i) : ((s < i + 1 ∧ e ∈ As s) ∧ j = wy s e) ↔ ((s = i ∧ j = wy i e) ∨ ((s < i ∧ e ∈ As s) ∧ j = wy s e)) := by
  constructor
  · rintro ⟨⟨h1, h2⟩, h3⟩
    by_cases q : s = i
    · subst q; exact Or.inl ⟨rfl, h3⟩
    · exact Or.inr ⟨⟨by omega, h2⟩, h3⟩
  · rintro (⟨h1, h2⟩ | ⟨⟨h1, h2⟩, h3⟩)
    · subst h1; exact ⟨⟨by omega, hin⟩, h2⟩
    · exact ⟨⟨by omega, h2⟩, h3⟩
theorem psV_put {As : Nat → List Nat} {wy : Nat → Nat → Nat} {e gx i : Nat} {vb : Nat → Nat → Nat} (hin : e ∈ As i) : (fun s j => if s = i ∧ j = wy i e then gx else psV As wy e gx vb i s j) = psV As wy e gx vb (i + 1) := by
  funext s j
  unfold psV
  have := ps_iff (wy := wy) (s := s) (j := j) hin
  by_cases q : s = i ∧ j = wy i e
  · rw [if_pos q, if_pos (this.2 (Or.inl q))]
  · rw [if_neg q]
    by_cases r : (s < i ∧ e ∈ As s) ∧ j = wy s e
    · rw [if_pos r, if_pos (this.2 (Or.inr r))]
    · rw [if_neg r, if_neg (fun c => (this.1 c).elim q r)]
theorem psL_put {As : Nat → List Nat} {wy : Nat → Nat → Nat} {e i : Nat} {o : Nat → Nat} {L : Nat → Nat → Nat → Nat} (hin : e ∈ As i) : (fun s j => if s = i ∧ j = wy i e then o else psL As wy e o L i s j) = psL As wy e o L (i + 1) := by
  funext s j
  unfold psL
  have := ps_iff (wy := wy) (s := s) (j := j) hin
  by_cases q : s = i ∧ j = wy i e
  · rw [if_pos q, if_pos (this.2 (Or.inl q))]
  · rw [if_neg q]
    by_cases r : (s < i ∧ e ∈ As s) ∧ j = wy s e
    · rw [if_pos r, if_pos (this.2 (Or.inr r))]
    · rw [if_neg r, if_neg (fun c => (this.1 c).elim q r)]
theorem ps_skip {As : Nat → List Nat} {wy : Nat → Nat → Nat} {e i s j : Nat} (hin : e ∉ As i) : ((s < i + 1 ∧ e ∈ As s) ∧ j = wy s e) ↔ ((s < i ∧ e ∈ As s) ∧ j = wy s e) := by
  constructor
  · rintro ⟨⟨h1, h2⟩, h3⟩
    refine ⟨⟨?_, h2⟩, h3⟩
    by_cases q : s = i
    · subst q; exact absurd h2 hin
    · omega
  · rintro ⟨⟨h1, h2⟩, h3⟩
    exact ⟨⟨by omega, h2⟩, h3⟩
theorem psV_skip {As : Nat → List Nat} {wy : Nat → Nat → Nat} {e gx i : Nat} {vb : Nat → Nat → Nat} (hin : e ∉ As i) : psV As wy e gx vb (i + 1) = psV As wy e gx vb i := by
  funext s j
  unfold psV
  simp only [ps_skip hin]
theorem psL_skip {As : Nat → List Nat} {wy : Nat → Nat → Nat} {e i : Nat} {o : Nat → Nat} {L : Nat → Nat → Nat → Nat} (hin : e ∉ As i) : psL As wy e o L (i + 1) = psL As wy e o L i := by
  funext s j
  unfold psL
  simp only [ps_skip hin]
theorem psV_zero (As : Nat → List Nat) (wy : Nat → Nat → Nat) (e gx : Nat) (vb : Nat → Nat → Nat) : psV As wy e gx vb 0 = vb := by
  funext s j
  unfold psV
  rw [if_neg (fun q => by omega)]
theorem psL_zero (As : Nat → List Nat) (wy : Nat → Nat → Nat) (e : Nat) (o : Nat → Nat) (L : Nat → Nat → Nat → Nat) : psL As wy e o L 0 = L := by
  funext s j
  unfold psL
  rw [if_neg (fun q => by omega)]
/-- What pass tells. -/
structure PsP (D : FD) (fb k h e : Nat) (mb lb : Nat → Nat) (vb : Nat → Nat → Nat) (As : Nat → List Nat) (wy : Nat → Nat → Nat) (L : Nat → Nat → Nat → Nat) (W : World) (gx : Nat) (o : Nat → Nat) (w' : World) : Prop where
  ge : W.heap.size ≤ gx
  row : Row gx h o w'
  el : El D o
  bd : Bd h o
  spn : Spn D (fun v => ∃ s, s < k ∧ e ∈ As s ∧ v = L s (wy s e)) o
  frs : Frs fb k h mb lb (psV As wy e gx vb k) As wy (psL As wy e o L k) w'
  bas : ∀ s, s < k → Bas D h (psL As wy e o L k s) ∧ ∀ j, j < h → Bd h (psL As wy e o L k s j)
  kps : Kps (fun b => ∃ s, s < k ∧ b = lb s) W w'
def PsQ (D : FD) (fb k h e : Nat) (mb lb : Nat → Nat) (vb : Nat → Nat → Nat) (As : Nat → List Nat) (wy : Nat → Nat → Nat) (L : Nat → Nat → Nat → Nat) (W : World) (r : Ending) (w' : World) : Prop := ∃ gx o, r = .returned (.slice (some ⟨gx, 0, none⟩) h h) ∧ PsP D fb k h e mb lb vb As wy L W gx o w'
theorem ps_bas {D : FD} (hD : D ∈ fieldsL) {k h e : Nat} {As : Nat → List Nat} {wy : Nat → Nat → Nat} {L : Nat → Nat → Nat → Nat} {o : Nat → Nat} {Y : Nat → Nat → Nat} (hw : ∀ s, s < k → e ∈ As s → wy s e < h) (hB : ∀ s, s < k → Bas D h (L s)) (hBd : ∀ s, s < k → ∀ j, j < h → Bd h (L s j)) (eo : El D o) (bo : Bd h o) (hY : ∀ s ∈ tkL As e k, (∀ j, j < h → dot D (L s j) (Y s) h = if j = wy s e then 1 else 0) ∧ dot D o (Y s) h ≠ 0) : ∀ s, s < k → Bas D h (psL As wy e o L k s) ∧ ∀ j, j < h → Bd h (psL As wy e o L k s j) := by
  intro s hs
  by_cases c : e ∈ As s
  · have e1 : psL As wy e o L k s = fun j => if j = wy s e then o else L s j := by
      funext j
      unfold psL
      by_cases q : j = wy s e
      · rw [if_pos q, if_pos ⟨⟨hs, c⟩, q⟩]
      · rw [if_neg q, if_neg (fun r => q r.2)]
    have h1 := hY s (tkL_in c k hs)
    rw [e1]
    refine ⟨(hB s hs).swap hD (hw s hs c) eo h1.1 h1.2, fun j hj => ?_⟩
    show Bd h (if j = wy s e then o else L s j)
    split
    · exact bo
    · exact hBd s hs j hj
  · have e1 : psL As wy e o L k s = L s := by
      funext j
      unfold psL
      rw [if_neg (fun r => c r.1.2)]
    rw [e1]
    exact ⟨hB s hs, hBd s hs⟩
end Go.Proofs.YtbnkekeeceicaaaGreat
