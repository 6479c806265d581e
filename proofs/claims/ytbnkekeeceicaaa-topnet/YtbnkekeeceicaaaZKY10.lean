/- Texts of ours, one behind the other: KY10 S99 KY11 KY12 KY13 KY14. -/
import Derived.Test.YtbnkekeeceicaaaZKY8
import Derived.Test.YtbnkekeeceicaaaZS92
import Derived.Test.YtbnkekeeceicaaaZKW8
import Derived.Test.YtbnkekeeceicaaaZR5
import Derived.Test.YtbnkekeeceicaaaZKW4
import Derived.Test.YtbnkekeeceicaaaZKF6
/- Nets: the fronts while they are made. -/
namespace Go.Proofs.Ytbnkekeeceicaaa
open Go.RowKit Go.Sort Go.Maps

theorem gd_left {l : List (Nat × Nat)} {p : Nat × Nat} {s : Nat} (h : s < l.length) : (l ++ [p]).getD s (0, 0) = l.getD s (0, 0) := by
  rw [List.getD_eq_getElem?_getD, List.getD_eq_getElem?_getD, List.getElem?_append_left h]
theorem gd_last {l : List (Nat × Nat)} {p : Nat × Nat} {s : Nat} (h : s = l.length) : (l ++ [p]).getD s (0, 0) = p := by
  rw [List.getD_eq_getElem?_getD, h, List.getElem?_append_right (Nat.le_refl _), Nat.sub_self]; rfl
/-- i fronts. -/
structure FrB (base h m : Nat) (F T : Nat → Nat) (tt : Nat → Nat) (i : Nat) (v : Value) (l : List (Nat × Nat)) (vb : Nat → Nat → Nat) (As : Nat → List Nat) (wy : Nat → Nat → Nat) (P : Nat → Nat → List Nat) (us : Nat → Nat → Bool) (W w : World) : Prop where
  own : OwnR base h v l w
  len : l.length = i
  mp : ∀ s, s < i → MapN (l.getD s (0, 0)).1 (As s) (fun e => ((wy s e : Nat) : Int)) w
  rows : ∀ s, s < i → RowF (l.getD s (0, 0)).2 h 22 (fun j => .slice (some ⟨vb s j, 0, none⟩) h h) w
  vec : ∀ s, s < i → ∀ j, j < h → Row (vb s j) h (uniV j) w
  inj : ∀ s, s < i → ∀ t, t < i → (l.getD s (0, 0)).2 = (l.getD t (0, 0)).2 → s = t
  ge : ∀ s, s < i → base ≤ (l.getD s (0, 0)).2
  way : ∀ s, s < i → Wys m F T (us s) (tt s) h (As s) (wy s) (P s) h
  emp : ∀ s, s < i → ∀ j, h ≤ j → P s j = []
  bel : Below base W w
theorem FrB.nil {base h m : Nat} {F T tt : Nat → Nat} {vb : Nat → Nat → Nat} {As : Nat → List Nat} {wy : Nat → Nat → Nat} {P : Nat → Nat → List Nat} {us : Nat → Nat → Bool} {W w : World} (hb : Below base W w) : FrB base h m F T tt 0 (.slice none 0 0) [] vb As wy P us W w :=
  ⟨OwnR.nil _ _ _, rfl, fun s hs => absurd hs (by omega), fun s hs => absurd hs (by omega), fun s hs => absurd hs (by omega), fun s hs => absurd hs (by omega), fun s hs => absurd hs (by omega), fun s hs => absurd hs (by omega), fun s hs => absurd hs (by omega), hb⟩
theorem FrB.below {base h m : Nat} {F T tt : Nat → Nat} {i : Nat} {v : Value} {l : List (Nat × Nat)} {vb : Nat → Nat → Nat} {As : Nat → List Nat} {wy : Nat → Nat → Nat} {P : Nat → Nat → List Nat} {us : Nat → Nat → Bool} {W w w' : World} (H : FrB base h m F T tt i v l vb As wy P us W w) (hb : Below w.heap.size w w') (hB : base ≤ W.heap.size) : FrB base h m F T tt i v l vb As wy P us W w' :=
  ⟨H.own.below hb (Nat.le_refl _), H.len, fun s hs => (H.mp s hs).below hb, fun s hs => (H.rows s hs).other (hb.block _ (H.rows s hs).lt), fun s hs j hj => (H.vec s hs j hj).below hb (H.vec s hs j hj).lt, H.inj, H.ge, H.way, H.emp, bel_up' H.bel hb hB⟩
theorem FrB.push {base h m : Nat} {F T tt : Nat → Nat} {i : Nat} {v v' : Value} {l : List (Nat × Nat)} {vb : Nat → Nat → Nat} {As : Nat → List Nat} {wy : Nat → Nat → Nat} {P : Nat → Nat → List Nat} {us : Nat → Nat → Bool} {W w w2 : World} (H : FrB base h m F T tt i v l vb As wy P us W w) {B G : Nat} {v0 : Nat → Nat} {A0 : List Nat} {wy0 : Nat → Nat} {P0 : Nat → List Nat} {us0 : Nat → Bool}
    (hm : MapN B A0 (fun e => ((wy0 e : Nat) : Int)) w) (hr : RowF G h 22 (fun j => .slice (some ⟨v0 j, 0, none⟩) h h) w) (hv : ∀ j, j < h → Row (v0 j) h (uniV j) w) (hG : base ≤ G) (hne : ∀ s, s < i → (l.getD s (0, 0)).2 ≠ G) (hW : Wys m F T us0 (tt i) h A0 wy0 P0 h) (hE0 : ∀ j, h ≤ j → P0 j = []) (ho : OwnR base h v' (l ++ [(B, G)]) w2) (hg : w.grownBy w2 v.ownBlock) (hb : Below base W w2) :
    FrB base h m F T tt (i + 1) v' (l ++ [(B, G)]) (fun s => if s = i then v0 else vb s) (fun s => if s = i then A0 else As s) (fun s => if s = i then wy0 else wy s) (fun s => if s = i then P0 else P s) (fun s => if s = i then us0 else us s) W w2 := by
  have hlen := H.len
  have kM : ∀ {B : Nat} {A : List Nat} {c : Nat → Int}, MapN B A c w → MapN B A c w2 := fun r => r.same (hg.block _ r.lt (H.own.map r))
  have kR : ∀ {G : Nat} {f : Nat → Value}, RowF G h 22 f w → RowF G h 22 f w2 := fun r => r.other (hg.block _ r.lt (H.own.row (by decide) r))
  have kV : ∀ {g : Nat} {c : Nat → Nat}, Row g h c w → Row g h c w2 := fun r => r.other (hg.block _ r.lt (by obtain ⟨cap, f, hf, _⟩ := r; exact H.own.row (by decide) hf))
  have hlt : ∀ s, s < i + 1 → s ≠ i → s < i := fun s h1 h2 => by omega
  refine ⟨ho, by rw [List.length_append, hlen]; rfl, fun s hs => ?_, fun s hs => ?_, fun s hs j hj => ?_, fun s hs t ht => ?_, fun s hs => ?_, fun s hs => ?_, fun s hs j hj => ?_, hb⟩
  · by_cases c : s = i
    · rw [if_pos c, if_pos c, gd_last (by omega)]; exact kM hm
    · rw [if_neg c, if_neg c, gd_left (by have := hlt s hs c; omega)]; exact kM (H.mp s (hlt s hs c))
  · by_cases c : s = i
    · rw [if_pos c, gd_last (by omega)]; exact kR hr
    · rw [if_neg c, gd_left (by have := hlt s hs c; omega)]; exact kR (H.rows s (hlt s hs c))
  · by_cases c : s = i
    · rw [if_pos c]; exact kV (hv j hj)
    · rw [if_neg c]; exact kV (H.vec s (hlt s hs c) j hj)
  · by_cases c : s = i
    · by_cases d : t = i
      · intro _; omega
      · rw [gd_last (show s = l.length by omega), gd_left (show t < l.length by have := hlt t ht d; omega)]
        intro e
        exact absurd e.symm (hne t (hlt t ht d))
    · by_cases d : t = i
      · rw [gd_last (show t = l.length by omega), gd_left (show s < l.length by have := hlt s hs c; omega)]
        intro e
        exact absurd e (hne s (hlt s hs c))
      · rw [gd_left (show t < l.length by have := hlt t ht d; omega), gd_left (show s < l.length by have := hlt s hs c; omega)]
        exact H.inj s (hlt s hs c) t (hlt t ht d)
  · by_cases c : s = i
    · rw [gd_last (by omega)]; exact hG
    · rw [gd_left (by have := hlt s hs c; omega)]; exact H.ge s (hlt s hs c)
  · by_cases c : s = i
    · simp only [if_pos c]; rw [c]; exact hW
    · simp only [if_neg c]; exact H.way s (hlt s hs c)
  · by_cases c : s = i
    · rw [if_pos c]; exact hE0 j hj
    · rw [if_neg c]; exact H.emp s (hlt s hs c) j hj
theorem FrB.frs {base h m : Nat} {F T tt : Nat → Nat} {i : Nat} {v : Value} {l : List (Nat × Nat)} {vb : Nat → Nat → Nat} {As : Nat → List Nat} {wy : Nat → Nat → Nat} {P : Nat → Nat → List Nat} {us : Nat → Nat → Bool} {W w : World} (H : FrB base h m F T tt i v l vb As wy P us W w) (hi : 0 < i) : ∃ g cap, v = .slice (some ⟨g, 0, none⟩) i cap ∧ Frs g i h (fun s => (l.getD s (0, 0)).1) (fun s => (l.getD s (0, 0)).2) vb As wy (fun _ j => uniV j) w := by
  have hlen := H.len
  obtain ⟨g, cap, hv, _, _, hc⟩ := H.own.open (by omega)
  rw [hlen] at hv
  exact ⟨g, cap, hv, fun s hs => (hc s (by omega)).1, fun s hs => (hc s (by omega)).2, H.mp, H.rows, H.vec, H.inj⟩
theorem Frs.cg {fb k h : Nat} {mb lb : Nat → Nat} {vb : Nat → Nat → Nat} {As : Nat → List Nat} {wy : Nat → Nat → Nat} {L L' : Nat → Nat → Nat → Nat} {w : World} (H : Frs fb k h mb lb vb As wy L w) (e : ∀ s, s < k → ∀ j, j < h → L s j = L' s j) : Frs fb k h mb lb vb As wy L' w := ⟨H.c0, H.c1, H.mp, H.rows, fun s hs j hj => by rw [← e s hs j hj]; exact H.vec s hs j hj, H.inj⟩
theorem Bas.cg {D : FD} {h : Nat} {L L' : Nat → Nat → Nat} (H : Bas D h L) (e : ∀ j, j < h → L j = L' j) : Bas D h L' := by
  obtain ⟨Y, hY, hd⟩ := H.du
  exact ⟨fun j hj => by rw [← e j hj]; exact H.el j hj, ⟨Y, hY, fun i j hi hj => by rw [← e i hi]; exact hd i j hi hj⟩, fun x hx h0 => H.inj x hx (fun j hj => by rw [e j hj]; exact h0 j hj)⟩
theorem Frs.far {fb k h : Nat} {mb lb : Nat → Nat} {vb : Nat → Nat → Nat} {As : Nat → List Nat} {wy : Nat → Nat → Nat} {L : Nat → Nat → Nat → Nat} {w : World} (H : Frs fb k h mb lb vb As wy L w) {G m o : Nat} {f : Nat → Value} {v : Value} (hf : RowF G m 22 f w) (hfg : fb ≠ G) (hl : ∀ s, s < k → lb s ≠ G) : Frs fb k h mb lb vb As wy L (w.setCell ⟨G, o, none⟩ v) :=
  ⟨fun s hs => by rw [World.cell?_setCell_far _ _ _ _ (Ne.symm hfg)]; exact H.c0 s hs, fun s hs => by rw [World.cell?_setCell_far _ _ _ _ (Ne.symm hfg)]; exact H.c1 s hs, fun s hs => (H.mp s hs).same (Below.heap_setCell w ⟨G, o, none⟩ _ (mb s) (rowF_ne_map hf (H.mp s hs))), fun s hs => (H.rows s hs).other (Below.heap_setCell w ⟨G, o, none⟩ _ (lb s) (hl s hs)), fun s hs j hj => (H.vec s hs j hj).other (Below.heap_setCell w ⟨G, o, none⟩ _ _ (rowF_ne_row hf (H.vec s hs j hj))), H.inj⟩
/-- What stands when r edges have their vectors. -/
structure PlI (D : FD) (fg k h m G gO : Nat) (F T : Nat → Nat) (mb lb : Nat → Nat) (As : Nat → List Nat) (wy : Nat → Nat → Nat) (P : Nat → Nat → List Nat) (od : Nat → Nat) (W : World) (r : Nat) (vb : Nat → Nat → Nat) (vo : Nat → Nat) (V : Nat → Nat → Nat) (w : World) : Prop where
  frs : Frs fg k h mb lb vb As wy (fun s => vcP V (dnB od r) (P s)) w
  out : ∃ f, RowF G m 22 f w ∧ ∀ e, dnB od r e = true → f e = .slice (some ⟨vo e, 0, none⟩) h h
  vec : ∀ e, dnB od r e = true → Row (vo e) h (V e) w
  ord : Row gO m od w
  bas : ∀ s, s < k → Bas D h (vcP V (dnB od r) (P s)) ∧ ∀ j, j < h → Bd h (vcP V (dnB od r) (P s) j)
  el : ∀ e, dnB od r e = true → El D (V e) ∧ Bd h (V e)
  car : ∀ e, dnB od r e = true → F e = 0 ∨ Spn D (fun v => ∃ a, a < m ∧ T a = F e ∧ dnB od r a = true ∧ v = V a) (V e)
  bel : Below W.heap.size W w
theorem dnB_zero {od : Nat → Nat} {e : Nat} {p : Prop} (h : dnB od 0 e = true) : p := by
  obtain ⟨i, hi, _⟩ := dnB_yes.1 h
  omega
/-- One edge more. -/
theorem PlI.next {D : FD} (hD : D ∈ fieldsL) {fg k h m G gO : Nat} {F T : Nat → Nat} {mb lb : Nat → Nat} {As : Nat → List Nat} {wy : Nat → Nat → Nat} {P : Nat → Nat → List Nat} {us : Nat → Nat → Bool} {tt : Nat → Nat} {od : Nat → Nat} {W : World} {r : Nat} {vb : Nat → Nat → Nat} {vo : Nat → Nat} {V : Nat → Nat → Nat} {w w' : World} {gx : Nat} {o : Nat → Nat}
    (H : PlI D fg k h m G gO F T mb lb As wy P od W r vb vo V w) (hup : ∀ i, i < m → F i < T i) (hW : ∀ s, s < k → Wys m F T (us s) (tt s) h (As s) (wy s) (P s) h) (hwl : ∀ s, s < k → ∀ e, e ∈ As s → wy s e < h) (hO : Odr m F od) (hr : r < m) (hlG : ∀ s, s < k → lb s ≠ G ∧ W.heap.size ≤ lb s) (hGW : W.heap.size ≤ G) (hfG : fg ≠ G)
    (Q : PsP D fg k h (od r) mb lb vb As wy (fun s => vcP V (dnB od r) (P s)) w gx o w') :
    PlI D fg k h m G gO F T mb lb As wy P od W (r + 1) (psV As wy (od r) gx vb k) (fun e => if e = od r then gx else vo e) (updV V (od r) o) (w'.setCell ⟨G, od r, none⟩ (.slice (some ⟨gx, 0, none⟩) h h)) := by
  have F' := fld hD
  obtain ⟨f, hf, hfe⟩ := H.out
  have hf' : RowF G m 22 f w' := hf.other (Q.kps.same G hf.lt (fun ⟨s, hs, q⟩ => (hlG s hs).1 q.symm))
  have kV : ∀ {g n : Nat} {c : Nat → Nat}, Row g n c w → Row g n c w' := fun x => x.other (Q.kps.same _ x.lt (fun ⟨s, hs, q⟩ => rowF_ne_row (H.frs.rows s hs) x q))
  have kS : ∀ {g n : Nat} {c : Nat → Nat}, Row g n c w' → Row g n c (w'.setCell ⟨G, od r, none⟩ (.slice (some ⟨gx, 0, none⟩) h h)) := fun x => x.other (Below.heap_setCell w' ⟨G, od r, none⟩ _ _ (rowF_ne_row hf' x))
  have hL : ∀ s, s < k → ∀ j, j < h → psL As wy (od r) o (fun s => vcP V (dnB od r) (P s)) k s j = vcP (updV V (od r) o) (dnB od (r + 1)) (P s) j := fun s hs j hj => by
    rw [vcP_next hup (hW s hs) hO hr hj]
    unfold psL
    by_cases c : od r ∈ As s ∧ j = wy s (od r)
    · rw [if_pos c, if_pos ⟨⟨hs, c.1⟩, c.2⟩]
    · rw [if_neg c, if_neg (fun q => c ⟨q.1.2, q.2⟩)]
  have hold : ∀ e, dnB od (r + 1) e = true → e ≠ od r → dnB od r e = true := fun e he hne => by rw [dnB_next hne] at he; exact he
  have hupV : ∀ e, e ≠ od r → updV V (od r) o e = V e := fun e hne => by unfold updV; rw [if_neg hne]
  have hupE : updV V (od r) o (od r) = o := by unfold updV; rw [if_pos rfl]
  have hfs := Q.frs.cg hL
  refine ⟨?_, ⟨_, hf'.store (od r) _, fun e he => ?_⟩, fun e he => ?_, kS (kV H.ord), fun s hs => ?_, fun e he => ?_, fun e he => ?_, ?_⟩
  · exact hfs.far hf' hfG (fun s hs => (hlG s hs).1)
  · unfold upd
    by_cases c : e = od r
    · rw [if_pos c, if_pos c]
    · rw [if_neg c, if_neg c]; exact hfe e (hold e he c)
  · by_cases c : e = od r
    · rw [if_pos c, c, hupE]; exact kS Q.row
    · rw [if_neg c, hupV e c]; exact kS (kV (H.vec e (hold e he c)))
  · have h1 := Q.bas s hs
    exact ⟨h1.1.cg (hL s hs), fun j hj => by rw [← hL s hs j hj]; exact h1.2 j hj⟩
  · by_cases c : e = od r
    · rw [c, hupE]; exact ⟨Q.el, Q.bd⟩
    · rw [hupV e c]; exact H.el e (hold e he c)
  · have hkeep : ∀ a, dnB od r a = true → dnB od (r + 1) a = true ∧ updV V (od r) o a = V a := fun a ha => by
      have hne : a ≠ od r := fun q => by rw [q, hO.fresh hr] at ha; cases ha
      exact ⟨by rw [dnB_next hne]; exact ha, hupV a hne⟩
    by_cases c : e = od r
    · rw [c, hupE]
      by_cases z : F (od r) = 0
      · exact Or.inl z
      · refine Or.inr (spn_le F' (fun v hv => ?_) Q.spn)
        obtain ⟨s, hs, hin, rfl⟩ := hv
        rcases vcP_at (V := V) hup (hW s hs) hO hr hin (hwl s hs _ hin) with q | ⟨a, h1, h2, h3, h4⟩
        · exact absurd q z
        · rw [h4]
          exact spn_mem F' (H.el a h3).1 ⟨a, h1, h2, (hkeep a h3).1, (hkeep a h3).2.symm⟩
    · rw [hupV e c]
      rcases H.car e (hold e he c) with q | q
      · exact Or.inl q
      · refine Or.inr (spn_le F' (fun v hv => ?_) q)
        obtain ⟨a, h1, h2, h3, rfl⟩ := hv
        exact spn_mem F' (H.el a h3).1 ⟨a, h1, h2, (hkeep a h3).1, (hkeep a h3).2.symm⟩
  · exact (H.bel.trans (Q.kps.below (B := W.heap.size) H.bel.size (fun b hb ⟨s, hs, q⟩ => by have := (hlG s hs).2; omega))).setCell hGW _
end Go.Proofs.Ytbnkekeeceicaaa

/- Nets: no cut is less than a flow. No Go text here. -/
namespace Go.Proofs.Ytbnkekeeceicaaa

theorem cuB_ge {n m : Nat} {F T : Nat → Nat} {us : Nat → Bool} {t k : Nat} (hN : Nt n m F T) (hn : 0 < n) (h0 : t ≠ 0) (h : Flw m F T us t k) : ∀ r, k ≤ (cuB m F T t r).1
  | 0 => by
    have h1 := h.le hN hn (S := fun v => decide (v = 0)) (by simp) (by simp [h0])
    have h2 := cpS_le m F T (fun v => decide (v = 0))
    show k ≤ m + 1
    omega
  | r + 1 => by
    have ih := cuB_ge hN hn h0 h r
    rw [cuB]
    by_cases c : (2 * r + 1).testBit t = true
    · rw [if_pos c]; exact ih
    · rw [if_neg c]
      have hb : (2 * r + 1).testBit t = false := by simpa using c
      have h1 := h.le hN hn (S := (2 * r + 1).testBit) (by rw [Nat.testBit_zero]; exact decide_eq_true (by omega)) hb
      split
      · exact h1
      · split
        · exact ih
        · exact ih
end Go.Proofs.Ytbnkekeeceicaaa

/- Nets: of each edge its vector (Plan). -/
namespace Go.Proofs.Ytbnkekeeceicaaa
open Go.RowKit Go.Sort Go.Maps

/-- A plan: the vectors of m edges. -/
structure PlV (D : FD) (m h k : Nat) (F T tt : Nat → Nat) (V : Nat → Nat → Nat) : Prop where
  el : ∀ e, e < m → El D (V e) ∧ Bd h (V e)
  car : ∀ e, e < m → F e = 0 ∨ Spn D (fun v => ∃ a, a < m ∧ T a = F e ∧ v = V a) (V e)
  snk : ∀ s, s < k → ∃ Lv, Bas D h Lv ∧ ∀ j, j < h → ∃ a, a < m ∧ T a = tt s ∧ Lv j = V a
/-- What Plan tells, of a net and sinks that may be. -/
def PlnP (D : FD) (n m h k : Nat) (F T tt : Nat → Nat) (W : World) (r : Ending) (w' : World) : Prop :=
  ((∃ s, s < k ∧ (cuB m F T (tt s) (2 ^ (n - 1))).1 < h) ∧ r = .returned (.tuple #[.slice none 0 0, .int .i64 9]) ∧ Below W.heap.size W w') ∨
  ((∀ s, s < k → h ≤ (cuB m F T (tt s) (2 ^ (n - 1))).1) ∧ ∃ (G : Nat) (vo : Nat → Nat) (V : Nat → Nat → Nat), r = .returned (.tuple #[.slice (some ⟨G, 0, none⟩) m m, .int .i64 0]) ∧ W.heap.size ≤ G ∧ RowF G m 22 (fun e => .slice (some ⟨vo e, 0, none⟩) h h) w' ∧ (∀ e, e < m → Row (vo e) h (V e) w') ∧ PlV D m h k F T tt V ∧ Below W.heap.size W w')
set_option maxHeartbeats 8000000 in
set_option maxRecDepth 100000 in
theorem plan_any {D : FD} (hD : D ∈ fieldsL) {n h k : Nat} {eo so : Option Addr} {m ec sc : Nat} {F T tt : Nat → Nat} {w : World} (hE : EdZ eo m (fun i => ((F i : Nat) : Int)) (fun i => ((T i : Nat) : Int)) w) (hN : Nt n m F T) (hn : 0 < n) (hn10 : n ≤ 10) (hm : m ≤ 24) (h1 : 1 ≤ h) (h24 : h ≤ 24) (hk1 : 1 ≤ k) (hkq : k ≤ D.q) (hS : SlZ so k (fun s => ((tt s : Nat) : Int)) w) (hsc : k ≤ sc) (ht : ∀ s, s < k → tt s < n ∧ tt s ≠ 0)
    (hC : ∀ wx, Below w.heap.size w wx → Calls Try.prog 20 #[.int .i64 D.q, .agg #[.int .i64 (n : Nat), .slice eo m ec], .slice so k sc, .int .i64 (h : Nat)] wx fun e w' => e = .returned (.int .i64 0) ∧ Below wx.heap.size wx w') :
    Calls Try.prog 10 #[.int .i64 D.q, .agg #[.int .i64 (n : Nat), .slice eo m ec], .slice so k sc, .int .i64 (h : Nat)] w (PlnP D n m h k F T tt w) := by
  have hk64 : k ≤ 64 := Nat.le_trans hkq (fld hD).q64
  obtain ⟨wa, hwa⟩ : ∃ wa, wa = w.alloc (.cells #[.int .i64 (n : Nat), .slice eo m ec] 25) := ⟨_, rfl⟩
  have hba : Below w.heap.size w wa := by rw [hwa]; exact (Below.refl _ _).alloc (Nat.le_refl _) _
  have HA : Hid (NB w.heap.size (n : Nat) (.slice eo m ec) wa ∧ Below w.heap.size w wa) := ⟨by rw [hwa]; exact NB.new _ _ _, hba⟩
  have HP : Hid (EdZ eo m (fun i => ((F i : Nat) : Int)) (fun i => ((T i : Nat) : Int)) w ∧ Nt n m F T ∧ SlZ so k (fun s => ((tt s : Nat) : Int)) w ∧ (∀ s, s < k → tt s < n ∧ tt s ≠ 0) ∧ D ∈ fieldsL) := ⟨hE, hN, hS, ht, hD⟩
  have HCk : Hid (∀ wx, Below w.heap.size w wx → Calls Try.prog 20 #[.int .i64 D.q, .agg #[.int .i64 (n : Nat), .slice eo m ec], .slice so k sc, .int .i64 (h : Nat)] wx fun e w' => e = .returned (.int .i64 0) ∧ Below wx.heap.size wx w') := hC
  have HNw : Hid (Calls Try.prog 19 #[.int .i64 D.q] wa fun e w' => ∃ F T g, e = .returned (.tuple #[.pointer (some ⟨F, 0, none⟩), .int .i64 0]) ∧ FAt F T D g w' ∧ wa.heap.size ≤ F ∧ wa.heap.size ≤ T ∧ Below wa.heap.size wa w') := new_any hD wa
  have HFi : Hid (∀ s wx, s < k → Below w.heap.size w wx → Calls Try.prog 18 #[.agg #[.int .i64 (n : Nat), .slice eo m ec], .int .i64 (tt s : Nat), .int .i64 (h : Nat)] wx (FilP n (tt s) h eo m ec F T wx)) := fun s wx hs hb => sfill_any (hE.below hb) hN hn hn10 (by omega) (ht s hs).1 (by omega)
  have HKq : Hid (k ≤ D.q) := hkq
  clear hE hN hS ht hD hC hba hkq
  go_enter Try.func10, Try.ntmps10
  go_wp2_with fail
  rw [← hwa]
  clear hwa
  refine HNw.out.mono ?_
  rintro e w1 ⟨Fb, Tb, g, rfl, hat, hFb, hTb, hb1⟩
  have H1 : Hid (FAt Fb Tb D g w1 ∧ NB w.heap.size (n : Nat) (.slice eo m ec) w1 ∧ Below w.heap.size w w1) := ⟨hat, HA.out.1.keep hb1, bel_up' HA.out.2 hb1⟩
  clear hat hFb hTb hb1 HNw HA
  obtain ⟨c0, c1⟩ := H1.out.2.1
  go_wp2_with fail
  refine (HCk.out w1 H1.out.2.2).mono ?_
  rintro e w2 ⟨rfl, hb2⟩
  have H2 : Hid (FAt Fb Tb D g w2 ∧ NB w.heap.size (n : Nat) (.slice eo m ec) w2 ∧ Below w.heap.size w w2) := ⟨H1.out.1.below hb2 H1.out.1.ltF H1.out.1.ltT, H1.out.2.1.keep hb2, bel_up' H1.out.2.2 hb2⟩
  clear hb2 c0 c1 H1 HCk
  go_wp2
  go_loopw [13, 38] (fun v13 vi wr => ∃ (i : Nat) (l : List (Nat × Nat)) (vb : Nat → Nat → Nat) (As : Nat → List Nat) (wy : Nat → Nat → Nat) (P : Nat → Nat → List Nat) (us : Nat → Nat → Bool), i ≤ k ∧ vi = .int .i64 i ∧ Hid (FrB w2.heap.size h m F T tt i v13 l vb As wy P us w2 wr ∧ ∀ s, s < i → h ≤ (cuB m F T (tt s) (2 ^ (n - 1))).1)) (fun _ vi _ => k - (RowKit.intOf vi).toNat)
  case atStart => exact ⟨0, [], fun _ _ => 0, fun _ => [], fun _ _ => 0, fun _ _ => [], fun _ _ => false, by omega, rfl, FrB.nil (Below.refl _ _), fun s hs => absurd hs (by omega)⟩
  case round =>
    obtain ⟨i, l, vb, As, wy, P, us, hi, rfl, HG⟩ := hrel
    rename World => wr
    by_cases hlt : i < k
    · have hib : (i : Int) < (k : Int) := by omega
      have hib0 : (0 : Int) ≤ (i : Int) := by omega
      have hbr : Below w.heap.size w wr := bel_up' H2.out.2.2 HG.out.1.bel
      obtain ⟨b, off, rfl, hcs⟩ := (slz_below HP.out.2.2.1 hbr) i hlt
      obtain ⟨c0, c1⟩ := H2.out.2.1.keep HG.out.1.bel
      have HBR : Hid (Below w.heap.size w wr) := hbr
      clear hbr
      go_wp2_with fail
      refine (HFi.out i wr hlt HBR.out).mono ?_
      rintro e w3 ⟨B, ub, us0, kk, rfl, hSt, hFl, hkk, hno, _, hb3⟩
      have c4 := hSt.c4
      have HFl : Hid (StB B ub n (tt i) kk eo m ec us0 w3 ∧ Flw m F T us0 (tt i) kk ∧ (kk < h → (cuB m F T (tt i) (2 ^ (n - 1))).1 < h) ∧ Below w.heap.size w w3 ∧ Below wr.heap.size wr w3) := ⟨hSt, hFl, fun q => by
        obtain ⟨L, bt, hR, htL⟩ := hno q
        rw [cuB_flow HP.out.2.1 hn hFl hR htL]; exact q, bel_up' HBR.out hb3, hb3⟩
      have HKK : Hid (kk ≤ h) := hkk
      clear hSt hFl hkk hno hb3 c0 c1
      by_cases hkh : kk < h
      · have hkb : (kk : Int) < (h : Int) := by omega
        go_wp2
        go_ret2
        exact Or.inl ⟨⟨i, hlt, HFl.out.2.2.1 hkh⟩, rfl, HFl.out.2.2.2.1⟩
      · have hke : h = kk := by have := HKK.out; omega
        subst hke
        obtain ⟨B0, hB0⟩ : ∃ B0, B0 = w3.heap.size := ⟨_, rfl⟩
        have HWy : Hid (Calls Try.prog 21 #[.pointer (some ⟨B, 0, none⟩)] w3 (WaysP m F T us0 (tt i) h w3)) := sways_any HFl.out.1 (HP.out.1.below HFl.out.2.2.2.1) HP.out.2.1 hn (by omega) (by omega) HFl.out.2.1
        have hkb : ¬ (h : Int) < (h : Int) := by omega
        clear hkh
        go_wp2_with fail
        refine HWy.out.mono ?_
        rintro e w4 ⟨A0, wy0, P0, rfl, hmp, hWs, hPe, hb4⟩
        have HPe : Hid (∀ j, h ≤ j → P0 j = []) := hPe
        clear hPe
        rw [← hB0]
        rw [← hB0] at hmp
        obtain ⟨G, hG⟩ : ∃ G, G = w4.heap.size := ⟨_, rfl⟩
        have H4 : Hid (MapN B0 A0 (fun e => ((wy0 e : Nat) : Int)) w4 ∧ Wys m F T us0 (tt i) h A0 wy0 P0 h ∧ Below wr.heap.size wr w4 ∧ G = w4.heap.size) := ⟨hmp, hWs, bel_up' HFl.out.2.2.2.2 hb4, hG⟩
        clear hmp hWs hb4 hB0 c4
        go_wp2_with fail
        refine (units_any (n := h) (by omega)).mono ?_
        rintro e w5 ⟨rfl, ⟨hh, hmx⟩, hb5⟩
        rw [← hG]
        rw [← hG] at hmx
        obtain ⟨w6, hw6⟩ : ∃ w6, w6 = w5.alloc (.cells #[.map (some B0), .slice (some ⟨G, 0, none⟩) h h] 62) := ⟨_, rfl⟩
        have hb6 : Below w5.heap.size w5 w6 := by rw [hw6]; exact (Below.refl _ _).alloc (Nat.le_refl _) _
        have hbr6 : Below wr.heap.size wr w6 := bel_up' (bel_up' H4.out.2.2.1 hb5) hb6
        have H6 : Hid (FrB w2.heap.size h m F T tt i u13 l vb As wy P us w2 w6 ∧ MapN B0 A0 (fun e => ((wy0 e : Nat) : Int)) w6 ∧ RowF G h 22 (fun j => .slice (some ⟨hh j, 0, none⟩) h h) w6 ∧ (∀ j, j < h → Row (hh j) h (uniV j) w6) ∧ w2.heap.size ≤ G ∧ (∀ s, s < i → (l.getD s (0, 0)).2 ≠ G) ∧ Wys m F T us0 (tt i) h A0 wy0 P0 h ∧ w6.cell? ⟨w5.heap.size, 0, none⟩ = some (.map (some B0)) ∧ w6.cell? ⟨w5.heap.size, 1, none⟩ = some (.slice (some ⟨G, 0, none⟩) h h)) := by
          refine ⟨HG.out.1.below hbr6 (Nat.le_refl _), (H4.out.1.below hb5).below hb6, ?_, fun j hj => (hmx.row j hj).below hb6 (hmx.row j hj).lt, ?_, fun s hs => ?_, H4.out.2.1, ?_, ?_⟩
          · obtain ⟨f, hf, hfe⟩ := hmx.outer
            exact (hf.congr (fun o ho => hfe o ho)).other (hb6.block _ hf.lt)
          · have a1 := HG.out.1.bel.size; have a2 := H4.out.2.2.1.size; omega
          · have a1 := (HG.out.1.rows s hs).lt; have a2 := H4.out.2.2.1.size; omega
          · rw [hw6, cell_of_row _ _ _ _ _ (0, 0) (two_new _)]; rfl
          · rw [hw6, cell_of_row _ _ _ _ _ (0, 0) (two_new _)]; rfl
        have HW6 : Hid (w6 = w5.alloc (.cells #[.map (some B0), .slice (some ⟨G, 0, none⟩) h h] 62)) := hw6
        rw [hw6] at H6
        clear hmx hb5 hb6 hbr6 hw6 hG
        go_wp2_with (at_builtin; refine append_fr rfl _ _ rfl w2.heap.size h u13 l rfl H6.out.1.own w5.heap.size 1 (B0, G) rfl H6.out.2.2.2.2.2.2.2.1 H6.out.2.2.2.2.2.2.2.2 (by have := H6.out.1.len; omega) H6.out.1.bel.size ?_; intro v7 w7 hown7 hg7)
        have H7 := H6.out.1.push H6.out.2.1 H6.out.2.2.1 H6.out.2.2.2.1 H6.out.2.2.2.2.1 H6.out.2.2.2.2.2.1 H6.out.2.2.2.2.2.2.1 HPe.out hown7 hg7 (Below.grown H6.out.1.bel hg7 H6.out.1.bel.size (fun q hq => (World.ownsRow.lt H6.out.1.own q hq).1))
        have H7h : Hid _ := H7
        clear H7 hown7 hg7
        go_roundw
        case rel =>
          refine ⟨i + 1, _, _, _, _, _, _, by omega, by go_num, H7h.out, fun s hs => ?_⟩
          by_cases c : s = i
          · rw [c]; exact cuB_ge HP.out.2.1 hn (HP.out.2.2.2.1 i hlt).2 HFl.out.2.1 _
          · exact HG.out.2 s (by omega)
        case measure => simp [RowKit.intOf]; omega
    · have e1 : i = k := by omega
      subst e1
      obtain ⟨fg, fc, hv, hfr⟩ := HG.out.1.frs (by omega)
      have hfgl : fg < wr.heap.size := cell_lt (hfr.c0 0 (by omega))
      obtain ⟨mb, hmb⟩ : ∃ mb : Nat → Nat, mb = fun s => (l.getD s (0, 0)).1 := ⟨_, rfl⟩
      obtain ⟨lb, hlb⟩ : ∃ lb : Nat → Nat, lb = fun s => (l.getD s (0, 0)).2 := ⟨_, rfl⟩
      rw [← hmb, ← hlb] at hfr
      have HLb : Hid (∀ s, s < i → w2.heap.size ≤ lb s ∧ lb s < wr.heap.size) := fun s hs => ⟨by rw [hlb]; exact HG.out.1.ge s hs, (hfr.rows s hs).lt⟩
      have hwl : ∀ s, s < i → ∀ e, e ∈ As s → wy s e < h := fun s hs e he => by
        rcases Nat.lt_or_ge (wy s e) h with q | q
        · exact q
        · have h9 := ((HG.out.1.way s hs).of' e (wy s e)).2 ⟨he, rfl⟩
          rw [HG.out.1.emp s hs _ q] at h9
          exact absurd h9 (by simp)
      have HWl : Hid ((∀ s, s < i → ∀ e, e ∈ As s → wy s e < h) ∧ (∀ s, s < i → Wys m F T (us s) (tt s) h (As s) (wy s) (P s) h) ∧ ∀ s, s < i → h ≤ (cuB m F T (tt s) (2 ^ (n - 1))).1) := ⟨hwl, HG.out.1.way, HG.out.2⟩
      clear hwl
      have HR : Hid (Frs fg i h mb lb vb As wy (fun _ j => uniV j) wr ∧ fg < wr.heap.size ∧ Below w2.heap.size w2 wr ∧ Below w.heap.size w wr ∧ NB w.heap.size (n : Nat) (.slice eo m ec) wr) := ⟨hfr, hfgl, HG.out.1.bel, bel_up' H2.out.2.2 HG.out.1.bel, H2.out.2.1.keep HG.out.1.bel⟩
      have HBy : Hid (∀ wx, Below w.heap.size w wx → Calls Try.prog 23 #[.slice eo m ec] wx (OdrP m F wx)) := fun wx hb => bysrc_any (HP.out.1.below hb) (by omega) (fun j hj => by have := HP.out.2.1.up j hj; have := HP.out.2.1.lt j hj; omega)
      obtain ⟨c0, c1⟩ := HR.out.2.2.2.2
      subst hv
      clear hfr hfgl hmb hlb HG HFi
      obtain ⟨G, hG⟩ : ∃ G, G = wr.heap.size := ⟨_, rfl⟩
      go_wp2_with (at_make; refine make_sls rfl _ _ rfl _ m rfl rfl rfl (by omega) ?_; intro w3 hrow3 hgrow3; have hb3 : Below wr.heap.size wr w3 := below_grown hgrow3 (Nat.le_refl _) (fun q hq => by simp at hq); have hn3 := HR.out.2.2.2.2.keep hb3; have d0 := hn3.c0; have d1 := hn3.c1)
      refine (HBy.out w3 (bel_up' HR.out.2.2.2.1 hb3)).mono ?_
      rintro e w4 ⟨gO, od, rfl, hord, hOd, hgO, hb4⟩
      have hb34 : Below wr.heap.size wr w4 := bel_up' hb3 hb4
      have H4 : Hid (PlI D fg i h m G gO F T mb lb As wy P od w2 0 vb (fun _ => 0) (fun _ _ => 0) w4 ∧ Odr m F od ∧ (∀ s, s < i → lb s ≠ G ∧ w2.heap.size ≤ lb s) ∧ w2.heap.size ≤ G ∧ fg ≠ G) := by
        refine ⟨⟨(HR.out.1.below hb34).cg (fun s _ j _ => (vcP_start _ od (P s) j).symm), ⟨_, (show RowF G m 22 _ w3 by rw [hG]; exact hrow3).other (hb4.block _ (by rw [hG]; exact hrow3.lt)), fun e he => dnB_zero he⟩, fun e he => dnB_zero he, hord, fun s hs => ⟨(Bas.start (fld HP.out.2.2.2.2) h).cg (fun j _ => (vcP_start _ od (P s) j).symm), fun j hj => by rw [vcP_start]; exact uniV_bd hj⟩, fun e he => dnB_zero he, fun e he => dnB_zero he, bel_up' HR.out.2.2.1 hb34⟩, hOd, fun s hs => ⟨by have := (HLb.out s hs).2; omega, (HLb.out s hs).1⟩, by have := HR.out.2.2.1.size; omega, by have := HR.out.2.1; omega⟩
      rw [← hG]
      clear hb3 hb4 hb34 hrow3 hgrow3 hn3 d0 d1 hord hOd hgO hG c0 c1
      go_wp2
      go_loopw [69] (fun vi wx => ∃ (r : Nat) (vb : Nat → Nat → Nat) (vo : Nat → Nat) (V : Nat → Nat → Nat), r ≤ m ∧ vi = .int .i64 r ∧ Hid (PlI D fg i h m G gO F T mb lb As wy P od w2 r vb vo V wx)) (fun vi _ => m - (RowKit.intOf vi).toNat)
      case atStart => exact ⟨0, _, _, _, by omega, rfl, H4.out.1⟩
      case round =>
        obtain ⟨r, vb1, vo, V, hr, rfl, HI⟩ := hrel
        rename World => wx
        by_cases hlr : r < m
        · have hrb : (r : Int) < (m : Int) := by omega
          have hrb0 : (0 : Int) ≤ (r : Int) := by omega
          have hco := HI.out.ord.cell r hlr
          have hxm := H4.out.2.1.lt r hlr
          obtain ⟨x, hx⟩ : ∃ x, x = od r := ⟨_, rfl⟩
          rw [← hx] at hco hxm
          have hxb : (x : Int) < (m : Int) := by omega
          have hxb0 : (0 : Int) ≤ (x : Int) := by omega
          have HPs : Hid (∀ fc, Calls Try.prog 24 #[.pointer (some ⟨Fb, 0, none⟩), .slice (some ⟨fg, 0, none⟩) i fc, .int .i64 (x : Nat), .int .i64 (h : Nat)] wx (PsQ D fg i h x mb lb vb1 As wy (fun s => vcP V (dnB od r) (P s)) wx)) := fun fc => pass_any HP.out.2.2.2.2 (H2.out.1.below HI.out.bel H2.out.1.ltF H2.out.1.ltT) h1 (by omega) HKq.out (by omega) HI.out.frs (fun s hs he => HWl.out.1 s hs x he) (fun s hs => (HI.out.bas s hs).1) (fun s hs => (HI.out.bas s hs).2)
          have HNx : Hid (∀ {gx : Nat} {o : Nat → Nat} {w6 : World}, PsP D fg i h x mb lb vb1 As wy (fun s => vcP V (dnB od r) (P s)) wx gx o w6 → PlI D fg i h m G gO F T mb lb As wy P od w2 (r + 1) (psV As wy (od r) gx vb1 i) (fun e => if e = od r then gx else vo e) (updV V (od r) o) (w6.setCell ⟨G, x, none⟩ (.slice (some ⟨gx, 0, none⟩) h h))) := fun {gx o w6} Q => by
            rw [hx] at Q ⊢
            exact HI.out.next HP.out.2.2.2.2 HP.out.2.1.up HWl.out.2.1 HWl.out.1 H4.out.2.1 hlr H4.out.2.2.1 H4.out.2.2.2.1 H4.out.2.2.2.2 Q
          clear hx
          go_wp2_with fail
          refine (HPs.out _).mono ?_
          rintro e w6 ⟨gx, o, rfl, hQ⟩
          obtain ⟨f, hf, _⟩ := HI.out.out
          have hf6 : RowF G m 22 f w6 := hf.other (hQ.kps.same G hf.lt (fun ⟨s, hs, q⟩ => (H4.out.2.2.1 s hs).1 q.symm))
          have hcG := hf6.cell x hxm
          have hfG := hf6.free x
          have HN2 : Hid _ := HNx.out hQ
          clear hf6 hf hQ
          go_wp2
          go_roundw
          case rel => exact ⟨r + 1, _, _, _, by omega, by go_num, HN2⟩
          case measure => simp [RowKit.intOf]; omega
        · have e2 : r = m := by omega
          subst e2
          go_wp2
          go_ret2
          have hall : ∀ e, e < r → dnB od r e = true := fun e he => by
            obtain ⟨j, hj, q⟩ := H4.out.2.1.all e he
            exact dnB_yes.2 ⟨j, hj, q⟩
          obtain ⟨f, hf, hfe⟩ := HI.out.out
          refine Or.inr ⟨HWl.out.2.2, G, vo, V, rfl, ?_, hf.congr (fun e he => hfe e (hall e he)), fun e he => HI.out.vec e (hall e he), ⟨fun e he => HI.out.el e (hall e he), fun e he => ?_, fun s hs => ?_⟩, bel_up' H2.out.2.2 HI.out.bel⟩
          · have a1 := H4.out.2.2.2.1; have a2 := H2.out.2.2.size; omega
          · rcases HI.out.car e (hall e he) with q | q
            · exact Or.inl q
            · refine Or.inr (spn_le (fld HP.out.2.2.2.2) (fun v hv => ?_) q)
              obtain ⟨a, q1, q2, q3, rfl⟩ := hv
              exact spn_mem (fld HP.out.2.2.2.2) (HI.out.el a q3).1 ⟨a, q1, q2, rfl⟩
          · exact ⟨_, (HI.out.bas s hs).1, fun j hj => vcP_end (HWl.out.2.1 s hs) H4.out.2.1 (HP.out.2.2.2.1 s hs).2 hj⟩
end Go.Proofs.Ytbnkekeeceicaaa

/- Nets: Plan where it says an error at once. -/
namespace Go.Proofs.Ytbnkekeeceicaaa
open Go.RowKit Go.Sort

end Go.Proofs.Ytbnkekeeceicaaa

/- Nets: which plans may be asked for (the reference's NetPlanMay). -/
namespace Go.Proofs.Ytbnkekeeceicaaa
open Go.RowKit Go.Sort

theorem slz_slI {ao : Option Addr} {n cap : Nat} {z : Nat → Int} {w : World} (h : SlZ ao n z w) (hn : n ≤ 1000000) : SliceI (.slice ao n cap) (zl n z) w := by
  by_cases h0 : n = 0
  · subst h0
    exact Or.inl ⟨rfl, ao, cap, rfl⟩
  · obtain ⟨b, off, rfl, _⟩ := h 0 (by omega)
    refine Or.inr ⟨fun e => ?_, by rw [zl_len]; exact hn, b, off, cap, by rw [zl_len], fun j hj => ?_⟩
    · have := congrArg List.length e
      rw [zl_len] at this
      exact h0 this
    · rw [zl_len] at hj
      obtain ⟨b', off', e, hc⟩ := h j hj
      cases e
      rw [zl_getD n z j hj]; exact hc
end Go.Proofs.Ytbnkekeeceicaaa

/- Nets: which plans may be asked for, where net and sinks may be (the reference's NetPlanMay). -/
namespace Go.Proofs.Ytbnkekeeceicaaa
open Go.RowKit Go.Sort

end Go.Proofs.Ytbnkekeeceicaaa
