/- Texts of ours, one behind the other: W11 Q3 Q4 Q5 Q6 I1 I2 I3 I4 I5. -/
import Derived.Deep.RegionHeld3
import Derived.WalkKit
import Derived.Test.YtdfneklnpghhmaaGreatDoorZO2
import Derived.Test.YtdfneklnpghhmaaGreatDoorZX12
import Derived.Test.YtdfneklnpghhmaaGreatDoorZL10
/- A region that draws its order and whose last operation, which waits for all others, writes what another one reads. No Go text here. -/
namespace Go.Proofs.YtdfneklnpghhmaaGreatDoor
open Go

/-- Whatever order is picked from here on; S holds behind every operation but number L. -/
def wpAnyX (P : Program) (ops : Array Oper) (Q : Exit → Act → World → Prop) (S : World → Prop) (L : Nat) : Nat → Array Bool → Act → World → Prop
  | 0, s, a, w => Region.ready .any ops s = [] ∧ Q .normal a w
  | f + 1, s, a, w => (Region.ready .any ops s = [] → Q .normal a w) ∧ ∀ i ∈ Region.ready .any ops s, wpOp P ops Q i (fun a' w' => (i ≠ L → S w') ∧ wpAnyX P ops Q S L f (s.setIfInBounds i true) a' w') a w
theorem wpAny_of_X {P : Program} {ops : Array Oper} {Q : Exit → Act → World → Prop} {S : World → Prop} {L : Nat} : ∀ (f : Nat) (s : Array Bool) (a : Act) (w : World), wpAnyX P ops Q S L f s a w → wpAny P .any ops Q f s a w
  | 0, _, _, _, h => h
  | f + 1, _, _, _, h => ⟨h.1, fun i hi => wpOp_mono (fun a' w' h' => wpAny_of_X f _ a' w' h'.2) (h.2 i hi)⟩
/-- Does number L wait for number i? -/
def waitsB (ops : Array Oper) (L i : Nat) : Bool := ((ops[L]?).map fun o => o.after.any fun e => Region.binds .any e && e.on == i).getD false
theorem waits_not {ops : Array Oper} {L i : Nat} {s : Array Bool} (h : waitsB ops L i = true) (hi : s.getD i true = false) : L ∉ Region.ready .any ops s := by
  intro hL
  obtain ⟨_, o, ho, hall⟩ := mem_ready.1 hL
  unfold waitsB at h
  rw [ho] at h
  obtain ⟨e, he, hb⟩ := Array.any_eq_true'.1 (show (o.after.any fun e => Region.binds .any e && e.on == i) = true from h)
  rw [Bool.and_eq_true, beq_iff_eq] at hb
  have h1 := hall e he hb.1
  rw [hb.2] at h1
  rcases Nat.lt_or_ge i s.size with h' | h'
  · simp [h'] at hi h1; rw [hi] at h1; cases h1
  · simp [Array.getElem?_eq_none h'] at h1
theorem wpAnyX_first {P : Program} {ops : Array Oper} {Q : Exit → Act → World → Prop} {S : World → Prop} {L i : Nat} {oi : Oper} {v : Value} (hi : ops[i]? = some oi) (hsel : ∀ (j : Nat) (o : Oper) cs b, ops[j]? = some o → o.op ≠ .select cs b)
    (hQ : ∀ c a w, Q (.panic c) (a.put oi.dst v) w → Q (.panic c) a w) (hL : waitsB ops L i = true) :
    ∀ (f : Nat) (s : Array Bool) (a : Act) (w : World),
      (∀ j oj, ops[j]? = some oj → j ≠ i → s.getD j true = false → (∀ e ∈ oj.after, Region.binds .any e = true → e.on ≠ i) → oi.apart ops oj = true) →
      i ∈ Region.ready .any ops s → YieldsIf P ops S oi v a → S w →
      wpAnyX P ops Q S L f (s.setIfInBounds i true) (a.put oi.dst v) w → wpAnyX P ops Q S L (f + 1) s a w := by
  intro f
  induction f with
  | zero =>
    intro s a w _ hr hy hS H
    refine ⟨fun h => (by rw [h] at hr; cases hr), fun j hj => ?_⟩
    by_cases hji : j = i
    · subst hji; exact hy.wpOp hi hS ⟨fun _ => hS, H⟩
    · have := ready_mono hj hji
      rw [H.1] at this
      cases this
  | succ f ih =>
    intro s a w hfree hr hy hS H
    refine ⟨fun h => (by rw [h] at hr; cases hr), fun j hj => ?_⟩
    by_cases hji : j = i
    · subst hji; exact hy.wpOp hi hS ⟨fun _ => hS, H⟩
    · have h1 := H.2 j (ready_mono hj hji)
      have hjL : j ≠ L := fun e => waits_not hL (mem_ready.1 hr).1 (e ▸ hj)
      obtain ⟨hjun, oj, hoj, hall⟩ := mem_ready.1 hj
      have hnot : ∀ e ∈ oj.after, Region.binds .any e = true → e.on ≠ i := fun e he hb heq => by
        have h1 := hall e he hb
        have h0 := (mem_ready.1 hr).1
        rw [heq] at h1
        rcases Nat.lt_or_ge i s.size with h' | h'
        · simp [h'] at h0 h1; rw [h0] at h1; cases h1
        · simp [Array.getElem?_eq_none h'] at h1
      have h2 := wpOp_putIf hoj (hfree j oj hoj hji hjun hnot) (fun cs b => hsel i oi cs b hi) (fun cs b => hsel j oj cs b hoj) hQ hy h1
      have hfree' : ∀ k ok, ops[k]? = some ok → k ≠ i → (s.setIfInBounds j true).getD k true = false →
          (∀ e ∈ ok.after, Region.binds .any e = true → e.on ≠ i) → oi.apart ops ok = true := fun k ok hk hki hun hno => by
        refine hfree k ok hk hki ?_ hno
        by_cases hjk : j = k
        · subst hjk; exact hjun
        · rw [getD_set_ne true hjk] at hun; exact hun
      refine wpOp_mono (fun a' w' h3 => ⟨fun _ => h3.2.1 hjL, ih (s.setIfInBounds j true) a' w' hfree' (ready_mono hr (Ne.symm hji)) h3.1 (h3.2.1 hjL) ?_⟩) h2
      rw [Array.setIfInBounds_comm _ _ hji]
      exact h3.2.2
/-- Take number i first. -/
theorem wpAnyX_take {P : Program} {ops : Array Oper} {Q : Exit → Act → World → Prop} {S : World → Prop} {L i : Nat} {oi : Oper} {v : Value} {f : Nat} {s : Array Bool} {a : Act} {w : World} (hi : ops[i]? = some oi)
    (hs : Region.noSelect ops = true) (hf : Region.free .any ops s i = true) (hr : (Region.ready .any ops s).contains i = true) (hL : waitsB ops L i = true)
    (hQ : ∀ c a w, Q (.panic c) (a.put oi.dst v) w → Q (.panic c) a w) (hS : S w) (hy : YieldsIf P ops S oi v a)
    (h : wpAnyX P ops Q S L f (s.setIfInBounds i true) (a.put oi.dst v) w) : wpAnyX P ops Q S L (f + 1) s a w :=
  wpAnyX_first hi (Region.noSelect_spec hs) hQ hL f s a w (Region.free_spec hi hf) (by simpa using hr) hy hS h
/-- Number i is the only one that may come now. -/
theorem wpAnyX_one {P : Program} {ops : Array Oper} {Q : Exit → Act → World → Prop} {S : World → Prop} {L i : Nat} {o : Oper} {f : Nat} {s : Array Bool} {a : Act} {w : World} (hr : Region.ready .any ops s = [i]) (ho : ops[i]? = some o)
    (h : ∀ K : Act → World → Prop, (∀ a' w', (i ≠ L → S w') → wpAnyX P ops Q S L f (s.setIfInBounds i true) a' w' → K a' w') → if Region.wanted o (yielded ops a.tmps) = true then Oper.wp P o a w K Q else K (a.put o.dst undef) w) : wpAnyX P ops Q S L (f + 1) s a w := by
  refine ⟨fun e => (by rw [hr] at e; cases e), fun j hj => ?_⟩
  rw [hr, List.mem_singleton] at hj
  subst hj
  have h1 := h (fun a' w' => (j ≠ L → S w') ∧ wpAnyX P ops Q S L f (s.setIfInBounds j true) a' w') (fun a' w' h1 h2 => ⟨h1, h2⟩)
  unfold wpOp
  simp only [ho]
  split
  · rename_i hw
    rw [if_pos hw] at h1
    exact Or.inl h1
  · rename_i hw
    rw [if_neg hw] at h1
    exact h1
theorem wpAnyX_done {P : Program} {ops : Array Oper} {Q : Exit → Act → World → Prop} {S : World → Prop} {L : Nat} {s : Array Bool} {a : Act} {w : World} (hr : Region.ready .any ops s = []) (h : Q .normal a w) : wpAnyX P ops Q S L 0 s a w := ⟨hr, h⟩
theorem wp_region_X {P : Program} {ops : Array Oper} {Q : Exit → Act → World → Prop} {S : World → Prop} (L : Nat) {id : Nat} {a : Act} {w : World} (hm : P.follows .mixedOrders = true)
    (h : wpAnyX P ops Q S L ops.size (Array.replicate ops.size false) a w.drew) : (Code.region id ops true).wp P Q a w :=
  wp_region_any hm (wpAny_of_X _ _ _ _ h)
end Go.Proofs.YtdfneklnpghhmaaGreatDoor

/- The program's products: pairs of powers, two cells each. -/
namespace Go.Proofs.YtdfneklnpghhmaaGreatDoor
open Go.RowKit Go.Sort

end Go.Proofs.YtdfneklnpghhmaaGreatDoor

/- The program's valuesAt: all products at an x and a y. -/
namespace Go.Proofs.YtdfneklnpghhmaaGreatDoor
open Go.RowKit Go.Sort

end Go.Proofs.YtdfneklnpghhmaaGreatDoor

/- The program's byPowers: numbers laid by their powers of y. -/
namespace Go.Proofs.YtdfneklnpghhmaaGreatDoor
open Go.RowKit Go.Sort

theorem OwnI.form {base : Nat} {v : Value} {l : List Int} {w : World} (h : OwnI base v l w) : ∃ ao cap, v = .slice ao l.length cap := by
  rcases h.2 with ⟨h1, h2⟩ | ⟨g, cap, cur, hv, _⟩
  · exact ⟨none, 0, by rw [h1, h2]⟩
  · exact ⟨_, cap, hv⟩
end Go.Proofs.YtdfneklnpghhmaaGreatDoor

/- The program's Sudan. -/
namespace Go.Proofs.YtdfneklnpghhmaaGreatDoor
open Go.RowKit Go.Sort

theorem Mx.matZ {B G m n : Nat} {R : Nat → Nat → Nat} {h : Nat → Nat} {w : World} (H : Mx B G m m n R h w) (hn : n ≤ 1000000) : MatZ (some ⟨G, 0, none⟩) m (fun i => some ⟨h i, 0, none⟩) (fun _ => n) (fun _ => n) (fun i j => ((R i j : Nat) : Int)) w :=
  ⟨fun i hi => ⟨G, 0, rfl, by rw [Nat.zero_add]; exact H.cell i hi⟩, fun i hi => (H.row i hi).sl (Nat.le_refl _), fun _ _ => Nat.le_refl _, fun _ _ => by omega, fun _ _ e => (by cases e), fun _ _ => hn⟩
end Go.Proofs.YtdfneklnpghhmaaGreatDoor

/- Codes: what is said of one (the program's code.Check, the reference's CodeMay). -/
namespace Go.Proofs.YtdfneklnpghhmaaGreatDoor
open Go.RowKit Go.Sort

/-- A code's cells, in block b. -/
structure CB (b : Nat) (q n : Int) (v : Value) (w : World) : Prop where
  c0 : w.cell? ⟨b, 0, none⟩ = some (.int .i64 q)
  c1 : w.cell? ⟨b, 1, none⟩ = some (.int .i64 n)
  c2 : w.cell? ⟨b, 2, none⟩ = some v
theorem CB.new (q n : Int) (v : Value) (w : World) : CB w.heap.size q n v (w.alloc (.cells #[.int .i64 q, .int .i64 n, v] 24)) :=
  ⟨by rw [cell_of_row _ _ _ _ _ (0, 0) (two_new _)]; rfl, by rw [cell_of_row _ _ _ _ _ (0, 0) (two_new _)]; rfl, by rw [cell_of_row _ _ _ _ _ (0, 0) (two_new _)]; rfl⟩
theorem CB.below {b B : Nat} {q n : Int} {v : Value} {w w' : World} (h : CB b q n v w) (hb : Below B w w') (hB : b < B) : CB b q n v w' := by
  have e : ∀ o, w'.cell? ⟨b, o, none⟩ = w.cell? ⟨b, o, none⟩ := fun o => by simp [World.cell?, hb.block b hB]
  exact ⟨(e 0).trans h.c0, (e 1).trans h.c1, (e 2).trans h.c2⟩
theorem CB.keep {b : Nat} {q n : Int} {v : Value} {w w' : World} (h : CB b q n v w) (hb : Below w.heap.size w w') : CB b q n v w' := h.below hb (cell_lt h.c0)
/-- What is said of a code. -/
def FD.cchk (D : FD) (n : Int) (m : Nat) (N : Nat → Nat) (Z : Nat → Nat → Int) : Int := if n < 1 ∨ 64 < n then 4 else if D.mchk m N Z ≠ 0 then D.mchk m N Z else if 0 < m ∧ ((N 0 : Nat) : Int) ≠ n then 3 else 0

set_option maxHeartbeats 4000000 in
set_option maxRecDepth 100000 in
theorem ccheck_any {D : FD} (hD : D ∈ fieldsL) {ao : Option Addr} {m ca : Nat} {A : Nat → Option Addr} {N C : Nat → Nat} {Z : Nat → Nat → Int} (n : Int) {w : World} (hA : MatZ ao m A N C Z w) (hm : m ≤ 1000000) :
    Calls Tryz.prog 47 #[.agg #[.int .i64 D.q, .int .i64 n, .slice ao m ca]] w fun e w' => e = .returned (.int .i64 (D.cchk n m N Z)) ∧ Below w.heap.size w w' := by
  obtain ⟨wa, hwa⟩ : ∃ wa, wa = w.alloc (.cells #[.int .i64 D.q, .int .i64 n, .slice ao m ca] 24) := ⟨_, rfl⟩
  have hba : Below w.heap.size w wa := by rw [hwa]; exact (Below.refl _ _).alloc (Nat.le_refl _) _
  have HA : Hid (D ∈ fieldsL ∧ MatZ ao m A N C Z w ∧ Below w.heap.size w wa ∧ CB w.heap.size D.q n (.slice ao m ca) wa ∧ wa.heap.size = w.heap.size + 1) := ⟨hD, hA, hba, by rw [hwa]; exact CB.new _ _ _ _, by rw [hwa]; simp⟩
  obtain ⟨e0, he0⟩ : ∃ e0, e0 = D.mchk m N Z := ⟨_, rfl⟩
  obtain ⟨E, hE⟩ : ∃ E, E = D.cchk n m N Z := ⟨_, rfl⟩
  rw [← hE]
  have HE : Hid (E = D.cchk n m N Z ∧ e0 = D.mchk m N Z) := ⟨hE, he0⟩
  clear hD hA hba he0 hE
  go_enter Tryz.func47, Tryz.ntmps47
  go_wp2_with fail
  rw [← hwa]
  clear hwa
  refine (new_any HA.out.1 wa).mono ?_
  rintro e w1 ⟨F, T, g, rfl, _, _, _, hb1⟩
  have H1 : Hid (Below w.heap.size w w1 ∧ CB w.heap.size D.q n (.slice ao m ca) w1 ∧ w.heap.size < w1.heap.size) := by
    have := hb1.size
    have := HA.out.2.2.2.2
    exact ⟨bel_up' HA.out.2.2.1 hb1, HA.out.2.2.2.1.keep hb1, by omega⟩
  clear hb1
  have hcb := H1.out.2.1
  obtain ⟨c0, c1, c2⟩ := hcb
  by_cases h1 : n < 1
  · have HF : Hid (E = 4) := by show E = 4; rw [HE.out.1]; unfold FD.cchk; rw [if_pos (Or.inl h1)]
    go_wp2
    go_ret
    exact ⟨by rw [HF.out]; rfl, H1.out.1⟩
  · by_cases h2 : 64 < n
    · have HF : Hid (E = 4) := by show E = 4; rw [HE.out.1]; unfold FD.cchk; rw [if_pos (Or.inr h2)]
      go_wp2
      go_ret
      exact ⟨by rw [HF.out]; rfl, H1.out.1⟩
    · have HF : Hid (E = if e0 ≠ 0 then e0 else if 0 < m ∧ ((N 0 : Nat) : Int) ≠ n then 3 else 0) := by show E = _; rw [HE.out.1, HE.out.2]; unfold FD.cchk; rw [if_neg (by omega)]
      go_wp2_with fail
      refine (mcheck_any HA.out.1 (HA.out.2.1.below H1.out.1) hm).mono ?_
      rintro e w2 ⟨rfl, hb2⟩
      rw [← HE.out.2]
      have H2 : Hid (Below w.heap.size w w2 ∧ CB w.heap.size D.q n (.slice ao m ca) w2) := ⟨bel_up' H1.out.1 hb2, H1.out.2.1.keep hb2⟩
      clear hb2 c0 c1 c2
      have hcb := H2.out.2
      obtain ⟨c0, c1, c2⟩ := hcb
      by_cases hz : e0 = 0
      · have hz1 : (e0 != 0) = false := by rw [hz]; rfl
        by_cases hm0 : 0 < m
        · obtain ⟨b, off, hao, hc⟩ := (HA.out.2.1.below H2.out.1).cell 0 hm0
          subst hao
          have hmb : (0 : Int) < (m : Int) := by omega
          have hc : w2.cell? ⟨b, off, none⟩ = some (.slice (A 0) (N 0) (C 0)) := hc
          obtain ⟨N0, hN0⟩ : ∃ N0, N0 = N 0 := ⟨_, rfl⟩
          rw [← hN0] at hc
          have HG : Hid (E = if ((N0 : Nat) : Int) ≠ n then 3 else 0) := by
            show E = _
            rw [HF.out, if_neg (fun h => h hz), hN0]
            by_cases h : ((N 0 : Nat) : Int) ≠ n
            · rw [if_pos h, if_pos ⟨hm0, h⟩]
            · rw [if_neg h, if_neg (fun x => h x.2)]
          clear hN0
          have hd : decide ((0 : Int) < (m : Int)) = true := decide_eq_true hmb
          by_cases hn : ((N0 : Nat) : Int) = n
          · have HG2 : Hid (E = 0) := by show E = 0; rw [HG.out, if_neg (fun h => h hn)]
            have hnb : (((N0 : Nat) : Int) != n) = false := by rw [bne_eq_false_iff_eq]; exact hn
            clear hn
            go_wp2
            go_quiet (fail)
            go_wp2
            go_ret
            exact ⟨by rw [HG2.out]; rfl, below_drewN2 H2.out.1 _⟩
          · have HG2 : Hid (E = 3) := by show E = 3; rw [HG.out, if_pos hn]
            have hnb : (((N0 : Nat) : Int) != n) = true := by rw [bne_iff_ne]; exact hn
            clear hn
            go_wp2
            go_quiet (fail)
            go_wp2
            go_ret
            exact ⟨by rw [HG2.out]; rfl, below_drewN2 H2.out.1 _⟩
        · have HG : Hid (E = 0) := by show E = 0; rw [HF.out, if_neg (fun h => h hz), if_neg (fun h => hm0 h.1)]
          have hd : decide ((0 : Int) < (m : Int)) = false := decide_eq_false (by omega)
          go_wp2
          go_quiet (fail)
          go_wp2
          go_ret
          exact ⟨by rw [HG.out]; rfl, below_drewN2 H2.out.1 _⟩
      · have hz1 : (e0 != 0) = true := by rw [bne_iff_ne]; exact hz
        have HG : Hid (E = e0) := by show E = e0; rw [HF.out, if_pos hz]
        go_wp2
        go_ret
        exact ⟨by rw [HG.out]; rfl, H2.out.1⟩
set_option maxHeartbeats 2000000 in
set_option maxRecDepth 100000 in
theorem ccheck_none (q : Int) (h : ∀ D ∈ fieldsL, (D.q : Int) ≠ q) (n : Int) (ao : Option Addr) (m ca : Nat) (w : World) :
    Calls Tryz.prog 47 #[.agg #[.int .i64 q, .int .i64 n, .slice ao m ca]] w fun e w' => e = .returned (.int .i64 1) ∧ Below w.heap.size w w' := by
  have HB : Hid (∀ D ∈ fieldsL, (D.q : Int) ≠ q) := h
  clear h
  go_enter Tryz.func47, Tryz.ntmps47
  go_wp2_with fail
  refine (new_none q _ HB.out).mono ?_
  rintro e w' ⟨rfl, hw⟩
  have hw := hw.symm
  subst hw
  go_wp2
  go_ret
  exact ⟨rfl, (Below.refl _ _).alloc (Nat.le_refl _) _⟩
end Go.Proofs.YtdfneklnpghhmaaGreatDoor

/- Codes: the reference's CodeMay. -/
namespace Go.Proofs.YtdfneklnpghhmaaGreatDoor
open Go.RowKit Go.Sort

set_option maxHeartbeats 4000000 in
set_option maxRecDepth 100000 in
theorem rcodeMay_any {D : FD} (hD : D ∈ fieldsL) {ao : Option Addr} {m ca : Nat} {A : Nat → Option Addr} {N C : Nat → Nat} {Z : Nat → Nat → Int} (n : Int) {w : World} (hA : MatZ ao m A N C Z w) (hm : m ≤ 1000000) :
    Calls Tryz.prog 19 #[.agg #[.int .i64 D.q, .int .i64 n, .slice ao m ca]] w fun e w' => e = .returned (.int .i64 (D.cchk n m N Z)) ∧ Below w.heap.size w w' := by
  obtain ⟨wa, hwa⟩ : ∃ wa, wa = w.alloc (.cells #[.int .i64 D.q, .int .i64 n, .slice ao m ca] 24) := ⟨_, rfl⟩
  have hba : Below w.heap.size w wa := by rw [hwa]; exact (Below.refl _ _).alloc (Nat.le_refl _) _
  have HA : Hid (D ∈ fieldsL ∧ MatZ ao m A N C Z w ∧ Below w.heap.size w wa ∧ CB w.heap.size D.q n (.slice ao m ca) wa ∧ wa.heap.size = w.heap.size + 1) := ⟨hD, hA, hba, by rw [hwa]; exact CB.new _ _ _ _, by rw [hwa]; simp⟩
  obtain ⟨e0, he0⟩ : ∃ e0, e0 = D.mchk m N Z := ⟨_, rfl⟩
  obtain ⟨E, hE⟩ : ∃ E, E = D.cchk n m N Z := ⟨_, rfl⟩
  rw [← hE]
  have HE : Hid (E = D.cchk n m N Z ∧ e0 = D.mchk m N Z) := ⟨hE, he0⟩
  clear hD hA hba he0 hE
  go_enter Tryz.func19, Tryz.ntmps19
  go_wp2_with fail
  rw [← hwa]
  clear hwa
  refine (rfield_sl HA.out.1 wa).mono ?_
  rintro e w1 ⟨gm, cm, rfl, _, hb1⟩
  unfold rf
  obtain ⟨wb, hwb⟩ : ∃ wb, wb = w1.alloc (.cells #[.int .i64 D.q, .int .i64 D.p, .int .i64 D.m, .int .i64 D.gen, .slice (some ⟨gm, 0, none⟩) (D.m + 1) cm] 65) := ⟨_, rfl⟩
  have hbb : Below w1.heap.size w1 wb := by rw [hwb]; exact (Below.refl _ _).alloc (Nat.le_refl _) _
  have H1 : Hid (Below w.heap.size w wb ∧ CB w.heap.size D.q n (.slice ao m ca) wb ∧ CB w.heap.size D.q n (.slice ao m ca) w1 ∧ w.heap.size < w1.heap.size) := by
    have := hb1.size
    have := HA.out.2.2.2.2
    exact ⟨bel_up' (bel_up' HA.out.2.2.1 hb1) hbb, (HA.out.2.2.2.1.keep hb1).keep hbb, HA.out.2.2.2.1.keep hb1, by omega⟩
  clear hb1 hbb
  have hcb := H1.out.2.2.1
  have hlt := H1.out.2.2.2
  obtain ⟨c0, c1, c2⟩ := hcb
  by_cases h1 : n < 1
  · have HF : Hid (E = 4) := by show E = 4; rw [HE.out.1]; unfold FD.cchk; rw [if_pos (Or.inl h1)]
    go_wp2
    rw [← hwb]
    go_ret
    exact ⟨by rw [HF.out]; rfl, H1.out.1⟩
  · by_cases h2 : 64 < n
    · have HF : Hid (E = 4) := by show E = 4; rw [HE.out.1]; unfold FD.cchk; rw [if_pos (Or.inr h2)]
      go_wp2
      rw [← hwb]
      go_ret
      exact ⟨by rw [HF.out]; rfl, H1.out.1⟩
    · have HF : Hid (E = if e0 ≠ 0 then e0 else if 0 < m ∧ ((N 0 : Nat) : Int) ≠ n then 3 else 0) := by show E = _; rw [HE.out.1, HE.out.2]; unfold FD.cchk; rw [if_neg (by omega)]
      go_wp2_with fail
      rw [← hwb]
      clear hwb
      refine (matrixMay_any HA.out.1 (HA.out.2.1.below H1.out.1) hm).mono ?_
      rintro e w2 ⟨rfl, hb2⟩
      rw [← HE.out.2]
      have H2 : Hid (Below w.heap.size w w2 ∧ CB w.heap.size D.q n (.slice ao m ca) w2) := ⟨bel_up' H1.out.1 hb2, H1.out.2.1.keep hb2⟩
      clear hb2 c0 c1 c2
      have hcb := H2.out.2
      obtain ⟨c0, c1, c2⟩ := hcb
      by_cases hz : e0 = 0
      · have hz1 : (e0 == 0) = true := by rw [hz]; rfl
        by_cases hm0 : 0 < m
        · obtain ⟨b, off, hao, hc⟩ := (HA.out.2.1.below H2.out.1).cell 0 hm0
          subst hao
          have hmb : (0 : Int) < (m : Int) := by omega
          have hc : w2.cell? ⟨b, off, none⟩ = some (.slice (A 0) (N 0) (C 0)) := hc
          obtain ⟨N0, hN0⟩ : ∃ N0, N0 = N 0 := ⟨_, rfl⟩
          rw [← hN0] at hc
          have HG : Hid (E = if ((N0 : Nat) : Int) ≠ n then 3 else 0) := by
            show E = _
            rw [HF.out, if_neg (fun h => h hz), hN0]
            by_cases h : ((N 0 : Nat) : Int) ≠ n
            · rw [if_pos h, if_pos ⟨hm0, h⟩]
            · rw [if_neg h, if_neg (fun x => h x.2)]
          clear hN0
          have hd : decide ((0 : Int) < (m : Int)) = true := decide_eq_true hmb
          by_cases hn : ((N0 : Nat) : Int) = n
          · have HG2 : Hid (E = e0) := by show E = e0; rw [HG.out, if_neg (fun h => h hn), hz]
            have hnb : (((N0 : Nat) : Int) != n) = false := by rw [bne_eq_false_iff_eq]; exact hn
            clear hn hz
            go_wp2
            go_quiet (fail)
            go_wp2
            go_ret
            exact ⟨by rw [HG2.out]; rfl, below_drewN2 H2.out.1 _⟩
          · have HG2 : Hid (E = 3) := by show E = 3; rw [HG.out, if_pos hn]
            have hnb : (((N0 : Nat) : Int) != n) = true := by rw [bne_iff_ne]; exact hn
            clear hn hz
            go_wp2
            go_quiet (fail)
            go_wp2
            go_ret
            exact ⟨by rw [HG2.out]; rfl, below_drewN2 H2.out.1 _⟩
        · have HG : Hid (E = e0) := by show E = e0; rw [HF.out, if_neg (fun h => h hz), if_neg (fun h => hm0 h.1), hz]
          have hd : decide ((0 : Int) < (m : Int)) = false := decide_eq_false (by omega)
          clear hz
          go_wp2
          go_quiet (fail)
          go_wp2
          go_ret
          exact ⟨by rw [HG.out]; rfl, below_drewN2 H2.out.1 _⟩
      · have hz1 : (e0 == 0) = false := by rw [beq_eq_false_iff_ne]; exact hz
        have HG : Hid (E = e0) := by show E = e0; rw [HF.out, if_pos hz]
        go_wp2
        go_quiet (fail)
        go_wp2
        go_ret
        exact ⟨by rw [HG.out]; rfl, below_drewN2 H2.out.1 _⟩
set_option maxHeartbeats 2000000 in
set_option maxRecDepth 100000 in
theorem rcodeMay_none (q : Int) (h : ∀ D ∈ fieldsL, (D.q : Int) ≠ q) (n : Int) (ao : Option Addr) (m ca : Nat) (w : World) :
    Calls Tryz.prog 19 #[.agg #[.int .i64 q, .int .i64 n, .slice ao m ca]] w fun e w' => e = .returned (.int .i64 1) ∧ Below w.heap.size w w' := by
  have HB : Hid (∀ D ∈ fieldsL, (D.q : Int) ≠ q) := h
  clear h
  go_enter Tryz.func19, Tryz.ntmps19
  go_wp2_with fail
  refine (rfield_none q _ HB.out).mono ?_
  rintro e w' ⟨rfl, hb⟩
  have H : Hid (∀ o, Below w.heap.size w (w'.alloc o)) := fun o => bel_up' (bel_up' ((Below.refl _ _).alloc (Nat.le_refl _) _) hb) ((Below.refl _ _).alloc (Nat.le_refl _) _)
  clear hb
  unfold rf0
  go_wp2
  go_ret
  exact ⟨rfl, H.out _⟩
end Go.Proofs.YtdfneklnpghhmaaGreatDoor

/- Independent rows: the reduced form has as many; what makes nothing 0 but 0. Plain mathematics. -/
namespace Go.Proofs.YtdfneklnpghhmaaGreatDoor
open Go.RowKit

end Go.Proofs.YtdfneklnpghhmaaGreatDoor

/- Codes: one form, and the dual (the program's oneForm, unit, dual). -/
namespace Go.Proofs.YtdfneklnpghhmaaGreatDoor
open Go.RowKit Go.Sort

/-- The reduced form of m rows. -/
def Red (D : FD) (n m : Nat) (M : Nat → Nat → Nat) (k : Nat) (R : Nat → Nat → Nat) : Prop := ∃ p, RRE D n k R p ∧ ∀ v, Spn D (RowsOf k R) v ↔ Spn D (RowsOf m M) v
theorem Red.uniq {D : FD} (F : Fld D) {n m m' k k' : Nat} {M M' R R' : Nat → Nat → Nat} (h : Red D n m M k R) (h' : Red D n m' M' k' R') (hs : ∀ v, Spn D (RowsOf m M) v ↔ Spn D (RowsOf m' M') v) : k = k' ∧ ∀ i, i < k → R i = R' i := by
  obtain ⟨p, h1, h2⟩ := h
  obtain ⟨p', h1', h2'⟩ := h'
  obtain ⟨e, h⟩ := rre_uniq F h1 h1' (fun v => ((h2 v).trans (hs v)).trans (h2' v).symm)
  exact ⟨e, fun i hi => (h i hi).2⟩
theorem Red.rows {D : FD} {n m k : Nat} {M R : Nat → Nat → Nat} (h : Red D n m M k R) : (∀ i, i < k → El D (R i)) ∧ ∀ i, i < k → Bd n (R i) := by
  obtain ⟨p, h3, _⟩ := h
  exact ⟨h3.el, h3.bd⟩
theorem rre_le {p : Nat → Nat} {n : Nat} : ∀ k, (∀ i j, i < j → j < k → p i < p j) → (∀ i, i < k → p i < n) → k ≤ n := by
  intro k hm hl
  have key : ∀ i, i < k → i ≤ p i := fun i => by
    induction i with
    | zero => intro _; omega
    | succ i ih =>
      intro hi
      have := ih (by omega)
      have := hm i (i + 1) (by omega) hi
      omega
  rcases Nat.eq_zero_or_pos k with h | h
  · omega
  · have := key (k - 1) (by omega)
    have := hl (k - 1) (by omega)
    omega
theorem Red.le {D : FD} {n m k : Nat} {M R : Nat → Nat → Nat} (h : Red D n m M k R) : k ≤ n := by
  obtain ⟨p, h3, _⟩ := h
  exact rre_le k h3.mono h3.lt
/-- A code's rows as they are handed in: m rows of n elements. -/
structure CdZ (D : FD) (ao : Option Addr) (m n : Nat) (A : Nat → Option Addr) (N C : Nat → Nat) (Z : Nat → Nat → Int) (w : World) : Prop where
  mat : MatZ ao m A N C Z w
  chk : D.mchk m N Z = 0
  wd : 0 < m → N 0 = n
  n1 : 1 ≤ n
  n64 : n ≤ 64
theorem CdZ.below {D : FD} {ao : Option Addr} {m n : Nat} {A : Nat → Option Addr} {N C : Nat → Nat} {Z : Nat → Nat → Int} {w w' : World} (h : CdZ D ao m n A N C Z w) (hb : Below w.heap.size w w') : CdZ D ao m n A N C Z w' := ⟨h.mat.below hb, h.chk, h.wd, h.n1, h.n64⟩
theorem CdZ.rows {D : FD} (F : Fld D) {ao : Option Addr} {m n : Nat} {A : Nat → Option Addr} {N C : Nat → Nat} {Z : Nat → Nat → Int} {w : World} (h : CdZ D ao m n A N C Z w) : m ≤ 64 ∧ (∀ i, i < m → El D (mzc N Z i)) ∧ (∀ i, i < m → Bd n (mzc N Z i)) ∧ MatR ao m (n - 1) (mzc N Z) w := by
  have hn := h.n1
  rcases Nat.eq_zero_or_pos m with e | e
  · exact ⟨by omega, fun i hi => absurd hi (by omega), fun i hi => absurd hi (by omega), fun i hi => absurd hi (by omega)⟩
  · obtain ⟨h1, n', h2, h3, h4, h5⟩ := mchk_rows F h.chk h.mat e
    have hn' : n' + 1 = n := by have := h.wd e; omega
    have e2 : n - 1 = n' := by omega
    rw [e2, ← hn']
    exact ⟨h1, fun i hi => (h4 i hi).2.1, fun i hi => (h4 i hi).2.2, h5⟩
theorem CdZ.few {D : FD} (F : Fld D) {ao : Option Addr} {m n : Nat} {A : Nat → Option Addr} {N C : Nat → Nat} {Z : Nat → Nat → Int} {w : World} (h : CdZ D ao m n A N C Z w) : m ≤ 1000000 := by
  have := (h.rows F).1
  omega
theorem rows_congr {D : FD} {k : Nat} {R R' : Nat → Nat → Nat} (h : ∀ i, i < k → R i = R' i) (v : Nat → Nat) : Spn D (RowsOf k R) v ↔ Spn D (RowsOf k R') v := by
  refine spn_congr (fun v => ⟨fun ⟨i, hi, e⟩ => ⟨i, hi, by rw [e, h i hi]⟩, fun ⟨i, hi, e⟩ => ⟨i, hi, by rw [e, h i hi]⟩⟩) v
/-- Where a call's answer is laid: three cells that may be written. -/
structure RB (b : Nat) (w : World) : Prop where
  c0 : ∃ v, w.cell? ⟨b, 0, none⟩ = some v
  c1 : ∃ v, w.cell? ⟨b, 1, none⟩ = some v
  c2 : ∃ v, w.cell? ⟨b, 2, none⟩ = some v
  f0 : w.frozen? ⟨b, 0, none⟩ = false
  f1 : w.frozen? ⟨b, 1, none⟩ = false
  f2 : w.frozen? ⟨b, 2, none⟩ = false
theorem RB.new (x y z : Value) (w : World) : RB w.heap.size (w.alloc (.cells #[x, y, z] 24)) :=
  ⟨⟨_, by rw [cell_of_row _ _ _ _ _ (0, 0) (two_new _)]; rfl⟩, ⟨_, by rw [cell_of_row _ _ _ _ _ (0, 0) (two_new _)]; rfl⟩, ⟨_, by rw [cell_of_row _ _ _ _ _ (0, 0) (two_new _)]; rfl⟩, frozen_of_row _ _ _ _ _ (two_new _), frozen_of_row _ _ _ _ _ (two_new _), frozen_of_row _ _ _ _ _ (two_new _)⟩
theorem RB.keep {b : Nat} {w w' : World} (h : RB b w) (hb : Below w.heap.size w w') : RB b w' := by
  obtain ⟨v0, h0⟩ := h.c0
  obtain ⟨v1, h1⟩ := h.c1
  obtain ⟨v2, h2⟩ := h.c2
  have hh := hb.block b (cell_lt h0)
  have e : ∀ o, w'.cell? ⟨b, o, none⟩ = w.cell? ⟨b, o, none⟩ := fun o => by simp [World.cell?, hh]
  have f : ∀ o, w'.frozen? ⟨b, o, none⟩ = w.frozen? ⟨b, o, none⟩ := fun o => by simp [World.frozen?, hh]
  exact ⟨⟨v0, (e 0).trans h0⟩, ⟨v1, (e 1).trans h1⟩, ⟨v2, (e 2).trans h2⟩, (f 0).trans h.f0, (f 1).trans h.f1, (f 2).trans h.f2⟩
theorem rre_none (D : FD) (n : Nat) (R : Nat → Nat → Nat) (p : Nat → Nat) : RRE D n 0 R p := ⟨fun i hi => absurd hi (by omega), fun i hi => absurd hi (by omega), fun i hi => absurd hi (by omega), fun i j _ hj => absurd hj (by omega), fun i hi => absurd hi (by omega), fun i j hi => absurd hi (by omega), fun i c hi => absurd hi (by omega)⟩
/-- The answer is laid. -/
def laid (w : World) (b : Nat) (q n : Int) (v : Value) : World := ((w.setCell ⟨b, 0, none⟩ (.int .i64 q)).setCell ⟨b, 1, none⟩ (.int .i64 n)).setCell ⟨b, 2, none⟩ v
theorem laid_cb {b : Nat} {w : World} (h : RB b w) (q n : Int) (v : Value) : CB b q n v (laid w b q n v) := by
  obtain ⟨v0, h0⟩ := h.c0
  obtain ⟨v1, h1⟩ := h.c1
  obtain ⟨v2, h2⟩ := h.c2
  have n01 : (⟨b, 0, none⟩ : Addr) ≠ ⟨b, 1, none⟩ := fun e => by cases e
  have n02 : (⟨b, 0, none⟩ : Addr) ≠ ⟨b, 2, none⟩ := fun e => by cases e
  have n12 : (⟨b, 1, none⟩ : Addr) ≠ ⟨b, 2, none⟩ := fun e => by cases e
  unfold laid
  refine ⟨?_, ?_, ?_⟩
  · rw [World.cell?_setCell_other _ _ _ _ n02.symm, World.cell?_setCell_other _ _ _ _ n01.symm, World.cell?_setCell_same _ _ _ h0]
  · rw [World.cell?_setCell_other _ _ _ _ n12.symm]
    exact World.cell?_setCell_same _ _ _ (by rw [World.cell?_setCell_other _ _ _ _ n01]; exact h1)
  · exact World.cell?_setCell_same _ _ _ (by rw [World.cell?_setCell_other _ _ _ _ n12, World.cell?_setCell_other _ _ _ _ n02]; exact h2)
theorem laid_heap (w : World) (b : Nat) (q n : Int) (v : Value) {g : Nat} (h : g ≠ b) : (laid w b q n v).heap[g]? = w.heap[g]? := by
  unfold laid
  rw [Below.heap_setCell _ _ _ _ h, Below.heap_setCell _ _ _ _ h, Below.heap_setCell _ _ _ _ h]
theorem laid_below {B b : Nat} {u w : World} (h : Below B u w) (hb : B ≤ b) (q n : Int) (v : Value) : Below B u (laid w b q n v) := ((h.setCell hb _).setCell hb _).setCell hb _
theorem laid_mv {B b : Nat} {w : World} {v : Value} {k n' : Nat} {R : Nat → Nat → Nat} (h : MV B v k n' R w) (hb : b < B) (q n : Int) (u : Value) : MV B v k n' R (laid w b q n u) := by
  rcases h with h | ⟨G, mc, m, hh, ev, hm⟩
  · exact Or.inl h
  · exact Or.inr ⟨G, mc, m, hh, ev, hm.keep (laid_heap w b q n u (by have := hm.geG; omega)) (fun i hi => laid_heap w b q n u (by have := hm.ge i hi; omega))⟩
theorem MV.mono {B B' : Nat} {v : Value} {k n : Nat} {R : Nat → Nat → Nat} {w : World} (h : MV B v k n R w) (hB : B' ≤ B) : MV B' v k n R w := by
  rcases h with h | ⟨G, mc, m, hh, ev, hm⟩
  · exact Or.inl h
  · exact Or.inr ⟨G, mc, m, hh, ev, hm.mono hB⟩
theorem Mx.less {B G m k j n : Nat} {R : Nat → Nat → Nat} {h : Nat → Nat} {w : World} (H : Mx B G m k n R h w) (hj : j ≤ k) : Mx B G m j n R h w := by
  obtain ⟨f, hf, hf'⟩ := H.outer
  exact ⟨⟨f, hf, fun i hi => hf' i (by omega)⟩, fun i hi => H.row i (by omega), H.geG, fun i hi => H.ge i (by omega), fun i hi j hj => H.inj i (by omega) j (by omega), fun i hi => H.ne i (by omega), by have := H.le; omega⟩

end Go.Proofs.YtdfneklnpghhmaaGreatDoor

/- Codes: the rows that tell one place each (unit), and the dual. -/
namespace Go.Proofs.YtdfneklnpghhmaaGreatDoor
open Go.RowKit Go.Sort

theorem MV.form {B : Nat} {v : Value} {k n : Nat} {R : Nat → Nat → Nat} {w : World} (h : MV B v k n R w) : ∃ ro rc, v = .slice ro k rc := by
  rcases h with ⟨e, ao, ca, ev⟩ | ⟨G, mc, m, hh, ev, hm⟩
  · rw [e]; exact ⟨ao, ca, ev⟩
  · exact ⟨_, _, ev⟩

end Go.Proofs.YtdfneklnpghhmaaGreatDoor
