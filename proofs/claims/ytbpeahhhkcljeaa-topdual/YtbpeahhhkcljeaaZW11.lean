/- Texts of ours, one behind the other: W11 I1 I2 I3. -/
import Derived.Deep.RegionHeld3
import Derived.WalkKit
import Derived.Test.YtbpeahhhkcljeaaZX18
import Derived.Test.YtbpeahhhkcljeaaZL10
/- A region that draws its order and whose last operation, which waits for all others, writes what another one reads. No Go text here. -/
namespace Go.Proofs.Ytbpeahhhkcljeaa
open Go

/-- Whatever order is picked from here on; S holds behind every operation but number L. -/
def wpAnyX (P : Program) (ops : Array Oper) (Q : Exit → Act → World → Prop) (S : World → Prop) (L : Nat) : Nat → Array Bool → Act → World → Prop
  | 0, s, a, w => Region.ready .any ops s = [] ∧ Q .normal a w
  | f + 1, s, a, w => (Region.ready .any ops s = [] → Q .normal a w) ∧ ∀ i ∈ Region.ready .any ops s, wpOp P ops Q i (fun a' w' => (i ≠ L → S w') ∧ wpAnyX P ops Q S L f (s.setIfInBounds i true) a' w') a w
theorem wpAny_of_X {P : Program} {ops : Array Oper} {Q : Exit → Act → World → Prop} {S : World → Prop} {L : Nat} : ∀ (f : Nat) (s : Array Bool) (a : Act) (w : World), wpAnyX P ops Q S L f s a w → wpAny P .any ops Q f s a w
  | 0, _, _, _, h => h
  | f + 1, _, _, _, h => ⟨h.1, fun i hi => wpOp_mono (fun a' w' h' => wpAny_of_X f _ a' w' h'.2) (h.2 i hi)⟩
/-- Does number L wait for number i? -/
def waitsB (ops : Array Oper) (L i : Nat) : Bool := ((ops[L]?).map fun o => o.after.any fun e => Region.binds .any e && e.on == i).getD false
theorem waits_not {ops : Array Oper} {L i : Nat} {s : Array Bool} (h : waitsB ops L i = true) (hi : s.getD i true = false) : L ∉ Region.ready .any ops s := by
  intro hL
  obtain ⟨_, o, ho, hall⟩ := mem_ready.1 hL
  unfold waitsB at h
  rw [ho] at h
  obtain ⟨e, he, hb⟩ := Array.any_eq_true'.1 (show (o.after.any fun e => Region.binds .any e && e.on == i) = true from h)
  rw [Bool.and_eq_true, beq_iff_eq] at hb
  have h1 := hall e he hb.1
  rw [hb.2] at h1
  rcases Nat.lt_or_ge i s.size with h' | h'
  · simp [h'] at hi h1; rw [hi] at h1; cases h1
  · simp [Array.getElem?_eq_none h'] at h1
theorem wpAnyX_first {P : Program} {ops : Array Oper} {Q : Exit → Act → World → Prop} {S : World → Prop} {L i : Nat} {oi : Oper} {v : Value} (hi : ops[i]? = some oi) (hsel : ∀ (j : Nat) (o : Oper) cs b, ops[j]? = some o → o.op ≠ .select cs b)
    (hQ : ∀ c a w, Q (.panic c) (a.put oi.dst v) w → Q (.panic c) a w) (hL : waitsB ops L i = true) :
    ∀ (f : Nat) (s : Array Bool) (a : Act) (w : World),
      (∀ j oj, ops[j]? = some oj → j ≠ i → s.getD j true = false → (∀ e ∈ oj.after, Region.binds .any e = true → e.on ≠ i) → oi.apart ops oj = true) →
      i ∈ Region.ready .any ops s → YieldsIf P ops S oi v a → S w →
      wpAnyX P ops Q S L f (s.setIfInBounds i true) (a.put oi.dst v) w → wpAnyX P ops Q S L (f + 1) s a w := by
  intro f
  induction f with
  | zero =>
    intro s a w _ hr hy hS H
    refine ⟨fun h => (by rw [h] at hr; cases hr), fun j hj => ?_⟩
    by_cases hji : j = i
    · subst hji; exact hy.wpOp hi hS ⟨fun _ => hS, H⟩
    · have := ready_mono hj hji
      rw [H.1] at this
      cases this
  | succ f ih =>
    intro s a w hfree hr hy hS H
    refine ⟨fun h => (by rw [h] at hr; cases hr), fun j hj => ?_⟩
    by_cases hji : j = i
    · subst hji; exact hy.wpOp hi hS ⟨fun _ => hS, H⟩
    · have h1 := H.2 j (ready_mono hj hji)
      have hjL : j ≠ L := fun e => waits_not hL (mem_ready.1 hr).1 (e ▸ hj)
      obtain ⟨hjun, oj, hoj, hall⟩ := mem_ready.1 hj
      have hnot : ∀ e ∈ oj.after, Region.binds .any e = true → e.on ≠ i := fun e he hb heq => by
        have h1 := hall e he hb
        have h0 := (mem_ready.1 hr).1
        rw [heq] at h1
        rcases Nat.lt_or_ge i s.size with h' | h'
        · simp [h'] at h0 h1; rw [h0] at h1; cases h1
        · simp [Array.getElem?_eq_none h'] at h1
      have h2 := wpOp_putIf hoj (hfree j oj hoj hji hjun hnot) (fun cs b => hsel i oi cs b hi) (fun cs b => hsel j oj cs b hoj) hQ hy h1
      have hfree' : ∀ k ok, ops[k]? = some ok → k ≠ i → (s.setIfInBounds j true).getD k true = false →
          (∀ e ∈ ok.after, Region.binds .any e = true → e.on ≠ i) → oi.apart ops ok = true := fun k ok hk hki hun hno => by
        refine hfree k ok hk hki ?_ hno
        by_cases hjk : j = k
        · subst hjk; exact hjun
        · rw [getD_set_ne true hjk] at hun; exact hun
      refine wpOp_mono (fun a' w' h3 => ⟨fun _ => h3.2.1 hjL, ih (s.setIfInBounds j true) a' w' hfree' (ready_mono hr (Ne.symm hji)) h3.1 (h3.2.1 hjL) ?_⟩) h2
      rw [Array.setIfInBounds_comm _ _ hji]
      exact h3.2.2
/-- Take number i first. -/
theorem wpAnyX_take {P : Program} {ops : Array Oper} {Q : Exit → Act → World → Prop} {S : World → Prop} {L i : Nat} {oi : Oper} {v : Value} {f : Nat} {s : Array Bool} {a : Act} {w : World} (hi : ops[i]? = some oi)
    (hs : Region.noSelect ops = true) (hf : Region.free .any ops s i = true) (hr : (Region.ready .any ops s).contains i = true) (hL : waitsB ops L i = true)
    (hQ : ∀ c a w, Q (.panic c) (a.put oi.dst v) w → Q (.panic c) a w) (hS : S w) (hy : YieldsIf P ops S oi v a)
    (h : wpAnyX P ops Q S L f (s.setIfInBounds i true) (a.put oi.dst v) w) : wpAnyX P ops Q S L (f + 1) s a w :=
  wpAnyX_first hi (Region.noSelect_spec hs) hQ hL f s a w (Region.free_spec hi hf) (by simpa using hr) hy hS h
/-- Number i is the only one that may come now. -/
theorem wpAnyX_one {P : Program} {ops : Array Oper} {Q : Exit → Act → World → Prop} {S : World → Prop} {L i : Nat} {o : Oper} {f : Nat} {s : Array Bool} {a : Act} {w : World} (hr : Region.ready .any ops s = [i]) (ho : ops[i]? = some o)
    (h : ∀ K : Act → World → Prop, (∀ a' w', (i ≠ L → S w') → wpAnyX P ops Q S L f (s.setIfInBounds i true) a' w' → K a' w') → if Region.wanted o (yielded ops a.tmps) = true then Oper.wp P o a w K Q else K (a.put o.dst undef) w) : wpAnyX P ops Q S L (f + 1) s a w := by
  refine ⟨fun e => (by rw [hr] at e; cases e), fun j hj => ?_⟩
  rw [hr, List.mem_singleton] at hj
  subst hj
  have h1 := h (fun a' w' => (j ≠ L → S w') ∧ wpAnyX P ops Q S L f (s.setIfInBounds j true) a' w') (fun a' w' h1 h2 => ⟨h1, h2⟩)
  unfold wpOp
  simp only [ho]
  split
  · rename_i hw
    rw [if_pos hw] at h1
    exact Or.inl h1
  · rename_i hw
    rw [if_neg hw] at h1
    exact h1
theorem wpAnyX_done {P : Program} {ops : Array Oper} {Q : Exit → Act → World → Prop} {S : World → Prop} {L : Nat} {s : Array Bool} {a : Act} {w : World} (hr : Region.ready .any ops s = []) (h : Q .normal a w) : wpAnyX P ops Q S L 0 s a w := ⟨hr, h⟩
theorem wp_region_X {P : Program} {ops : Array Oper} {Q : Exit → Act → World → Prop} {S : World → Prop} (L : Nat) {id : Nat} {a : Act} {w : World} (hm : P.follows .mixedOrders = true)
    (h : wpAnyX P ops Q S L ops.size (Array.replicate ops.size false) a w.drew) : (Code.region id ops true).wp P Q a w :=
  wp_region_any hm (wpAny_of_X _ _ _ _ h)
end Go.Proofs.Ytbpeahhhkcljeaa

/- Codes: what is said of one (the program's code.Check, the reference's CodeMay). -/
namespace Go.Proofs.Ytbpeahhhkcljeaa
open Go.RowKit Go.Sort

/-- A code's cells, in block b. -/
structure CB (b : Nat) (q n : Int) (v : Value) (w : World) : Prop where
  c0 : w.cell? ⟨b, 0, none⟩ = some (.int .i64 q)
  c1 : w.cell? ⟨b, 1, none⟩ = some (.int .i64 n)
  c2 : w.cell? ⟨b, 2, none⟩ = some v
theorem CB.new (q n : Int) (v : Value) (w : World) : CB w.heap.size q n v (w.alloc (.cells #[.int .i64 q, .int .i64 n, v] 43)) :=
  ⟨by rw [cell_of_row _ _ _ _ _ (0, 0) (two_new _)]; rfl, by rw [cell_of_row _ _ _ _ _ (0, 0) (two_new _)]; rfl, by rw [cell_of_row _ _ _ _ _ (0, 0) (two_new _)]; rfl⟩
theorem CB.below {b B : Nat} {q n : Int} {v : Value} {w w' : World} (h : CB b q n v w) (hb : Below B w w') (hB : b < B) : CB b q n v w' := by
  have e : ∀ o, w'.cell? ⟨b, o, none⟩ = w.cell? ⟨b, o, none⟩ := fun o => by simp [World.cell?, hb.block b hB]
  exact ⟨(e 0).trans h.c0, (e 1).trans h.c1, (e 2).trans h.c2⟩
theorem CB.keep {b : Nat} {q n : Int} {v : Value} {w w' : World} (h : CB b q n v w) (hb : Below w.heap.size w w') : CB b q n v w' := h.below hb (cell_lt h.c0)
/-- What is said of a code. -/
def FD.cchk (D : FD) (n : Int) (m : Nat) (N : Nat → Nat) (Z : Nat → Nat → Int) : Int := if n < 1 ∨ 64 < n then 4 else if D.mchk m N Z ≠ 0 then D.mchk m N Z else if 0 < m ∧ ((N 0 : Nat) : Int) ≠ n then 3 else 0

set_option maxHeartbeats 4000000 in
set_option maxRecDepth 100000 in
theorem ccheck_any {D : FD} (hD : D ∈ fieldsL) {ao : Option Addr} {m ca : Nat} {A : Nat → Option Addr} {N C : Nat → Nat} {Z : Nat → Nat → Int} (n : Int) {w : World} (hA : MatZ ao m A N C Z w) (hm : m ≤ 1000000) :
    Calls Try.prog 26 #[.agg #[.int .i64 D.q, .int .i64 n, .slice ao m ca]] w fun e w' => e = .returned (.int .i64 (D.cchk n m N Z)) ∧ Below w.heap.size w w' := by
  obtain ⟨wa, hwa⟩ : ∃ wa, wa = w.alloc (.cells #[.int .i64 D.q, .int .i64 n, .slice ao m ca] 43) := ⟨_, rfl⟩
  have hba : Below w.heap.size w wa := by rw [hwa]; exact (Below.refl _ _).alloc (Nat.le_refl _) _
  have HA : Hid (D ∈ fieldsL ∧ MatZ ao m A N C Z w ∧ Below w.heap.size w wa ∧ CB w.heap.size D.q n (.slice ao m ca) wa ∧ wa.heap.size = w.heap.size + 1) := ⟨hD, hA, hba, by rw [hwa]; exact CB.new _ _ _ _, by rw [hwa]; simp⟩
  obtain ⟨e0, he0⟩ : ∃ e0, e0 = D.mchk m N Z := ⟨_, rfl⟩
  obtain ⟨E, hE⟩ : ∃ E, E = D.cchk n m N Z := ⟨_, rfl⟩
  rw [← hE]
  have HE : Hid (E = D.cchk n m N Z ∧ e0 = D.mchk m N Z) := ⟨hE, he0⟩
  clear hD hA hba he0 hE
  go_enter Try.func26, Try.ntmps26
  go_wp2_with fail
  rw [← hwa]
  clear hwa
  refine (new_any HA.out.1 wa).mono ?_
  rintro e w1 ⟨F, T, g, rfl, _, _, _, hb1⟩
  have H1 : Hid (Below w.heap.size w w1 ∧ CB w.heap.size D.q n (.slice ao m ca) w1 ∧ w.heap.size < w1.heap.size) := by
    have := hb1.size
    have := HA.out.2.2.2.2
    exact ⟨bel_up' HA.out.2.2.1 hb1, HA.out.2.2.2.1.keep hb1, by omega⟩
  clear hb1
  have hcb := H1.out.2.1
  obtain ⟨c0, c1, c2⟩ := hcb
  by_cases h1 : n < 1
  · have HF : Hid (E = 4) := by show E = 4; rw [HE.out.1]; unfold FD.cchk; rw [if_pos (Or.inl h1)]
    go_wp2
    go_ret
    exact ⟨by rw [HF.out]; rfl, H1.out.1⟩
  · by_cases h2 : 64 < n
    · have HF : Hid (E = 4) := by show E = 4; rw [HE.out.1]; unfold FD.cchk; rw [if_pos (Or.inr h2)]
      go_wp2
      go_ret
      exact ⟨by rw [HF.out]; rfl, H1.out.1⟩
    · have HF : Hid (E = if e0 ≠ 0 then e0 else if 0 < m ∧ ((N 0 : Nat) : Int) ≠ n then 3 else 0) := by show E = _; rw [HE.out.1, HE.out.2]; unfold FD.cchk; rw [if_neg (by omega)]
      go_wp2_with fail
      refine (mcheck_any HA.out.1 (HA.out.2.1.below H1.out.1) hm).mono ?_
      rintro e w2 ⟨rfl, hb2⟩
      rw [← HE.out.2]
      have H2 : Hid (Below w.heap.size w w2 ∧ CB w.heap.size D.q n (.slice ao m ca) w2) := ⟨bel_up' H1.out.1 hb2, H1.out.2.1.keep hb2⟩
      clear hb2 c0 c1 c2
      have hcb := H2.out.2
      obtain ⟨c0, c1, c2⟩ := hcb
      by_cases hz : e0 = 0
      · have hz1 : (e0 != 0) = false := by rw [hz]; rfl
        by_cases hm0 : 0 < m
        · obtain ⟨b, off, hao, hc⟩ := (HA.out.2.1.below H2.out.1).cell 0 hm0
          subst hao
          have hmb : (0 : Int) < (m : Int) := by omega
          have hc : w2.cell? ⟨b, off, none⟩ = some (.slice (A 0) (N 0) (C 0)) := hc
          obtain ⟨N0, hN0⟩ : ∃ N0, N0 = N 0 := ⟨_, rfl⟩
          rw [← hN0] at hc
          have HG : Hid (E = if ((N0 : Nat) : Int) ≠ n then 3 else 0) := by
            show E = _
            rw [HF.out, if_neg (fun h => h hz), hN0]
            by_cases h : ((N 0 : Nat) : Int) ≠ n
            · rw [if_pos h, if_pos ⟨hm0, h⟩]
            · rw [if_neg h, if_neg (fun x => h x.2)]
          clear hN0
          have hd : decide ((0 : Int) < (m : Int)) = true := decide_eq_true hmb
          by_cases hn : ((N0 : Nat) : Int) = n
          · have HG2 : Hid (E = 0) := by show E = 0; rw [HG.out, if_neg (fun h => h hn)]
            have hnb : (((N0 : Nat) : Int) != n) = false := by rw [bne_eq_false_iff_eq]; exact hn
            clear hn
            go_wp2
            go_quiet (fail)
            go_wp2
            go_ret
            exact ⟨by rw [HG2.out]; rfl, below_drewN2 H2.out.1 _⟩
          · have HG2 : Hid (E = 3) := by show E = 3; rw [HG.out, if_pos hn]
            have hnb : (((N0 : Nat) : Int) != n) = true := by rw [bne_iff_ne]; exact hn
            clear hn
            go_wp2
            go_quiet (fail)
            go_wp2
            go_ret
            exact ⟨by rw [HG2.out]; rfl, below_drewN2 H2.out.1 _⟩
        · have HG : Hid (E = 0) := by show E = 0; rw [HF.out, if_neg (fun h => h hz), if_neg (fun h => hm0 h.1)]
          have hd : decide ((0 : Int) < (m : Int)) = false := decide_eq_false (by omega)
          go_wp2
          go_quiet (fail)
          go_wp2
          go_ret
          exact ⟨by rw [HG.out]; rfl, below_drewN2 H2.out.1 _⟩
      · have hz1 : (e0 != 0) = true := by rw [bne_iff_ne]; exact hz
        have HG : Hid (E = e0) := by show E = e0; rw [HF.out, if_pos hz]
        go_wp2
        go_ret
        exact ⟨by rw [HG.out]; rfl, H2.out.1⟩
end Go.Proofs.Ytbpeahhhkcljeaa

/- Codes: the reference's CodeMay. -/
namespace Go.Proofs.Ytbpeahhhkcljeaa
open Go.RowKit Go.Sort

end Go.Proofs.Ytbpeahhhkcljeaa

/- Independent rows: the reduced form has as many; what makes nothing 0 but 0. Plain mathematics. -/
namespace Go.Proofs.Ytbpeahhhkcljeaa
open Go.RowKit

theorem lft_ex {D : FD} (F : Fld D) {n k : Nat} {R : Nat → Nat → Nat} {p r0 : Nat → Nat} (h : RRE D n k R p) (he : El D r0) (hb : Bd n r0) : ∀ t, t ≤ k → ∃ r, Lft D n k R p r0 t r
  | 0, _ => ⟨r0, lft_first F he hb⟩
  | t + 1, ht => by
    obtain ⟨r, hr⟩ := lft_ex F h he hb t (by omega)
    exact ⟨_, lft_step F h he hr (by omega)⟩
theorem first_nz {r : Nat → Nat} : ∀ n, Bd n r → r ≠ pnil → ∃ c, c < n ∧ r c ≠ 0 ∧ ∀ c', c' < c → r c' = 0 := by
  have key : ∀ n, (∀ c, c < n → r c = 0) ∨ ∃ c, c < n ∧ r c ≠ 0 ∧ ∀ c', c' < c → r c' = 0 := by
    intro n
    induction n with
    | zero => exact Or.inl fun c hc => absurd hc (by omega)
    | succ n ih =>
      rcases ih with ih | ⟨c, h1, h2, h3⟩
      · by_cases e : r n = 0
        · refine Or.inl fun c hc => ?_
          by_cases ec : c = n
          · rw [ec]; exact e
          · exact ih c (by omega)
        · exact Or.inr ⟨n, by omega, e, ih⟩
      · exact Or.inr ⟨c, by omega, h2, h3⟩
  intro n hb hn
  rcases key n with h | h
  · exfalso
    refine hn (funext fun c => ?_)
    by_cases hc : c < n
    · exact h c hc
    · exact hb c (by omega)
  · exact h
theorem piv_at {p : Nat → Nat} {a : Nat} : ∀ k, (∀ i j, i < j → j < k → p i < p j) → (∀ j, j < k → p j ≠ a) → ∃ t, t ≤ k ∧ (∀ j, j < t → p j < a) ∧ ∀ j, t ≤ j → j < k → a < p j
  | 0, _, _ => ⟨0, Nat.le_refl _, fun j hj => absurd hj (by omega), fun j _ hj => absurd hj (by omega)⟩
  | k + 1, hm, hne => by
    obtain ⟨t, h1, h2, h3⟩ := piv_at k (fun i j hij hj => hm i j hij (by omega)) (fun j hj => hne j (by omega))
    by_cases e : t = k
    · by_cases e2 : p k < a
      · refine ⟨k + 1, Nat.le_refl _, fun j hj => ?_, fun j h4 h5 => absurd h5 (by omega)⟩
        by_cases ej : j = k
        · rw [ej]; exact e2
        · exact h2 j (by omega)
      · refine ⟨k, by omega, fun j hj => h2 j (by omega), fun j h4 h5 => ?_⟩
        have : j = k := by omega
        have := hne k (by omega)
        rw [show j = k from by omega]; omega
    · refine ⟨t, by omega, h2, fun j h4 h5 => ?_⟩
      by_cases ej : j = k
      · rw [ej]
        have := h3 t (Nat.le_refl _) (by omega)
        have := hm t k (by omega) (by omega)
        omega
      · exact h3 j h4 (by omega)
/-- Rows none of which hangs on those ahead of it: the reduced form has as many. -/
theorem rre_full {D : FD} (hD : D ∈ fieldsL) {n : Nat} {M : Nat → Nat → Nat} : ∀ m, (∀ i, i < m → El D (M i)) → (∀ i, i < m → Bd n (M i)) → (∀ j, j < m → ¬ Spn D (RowsOf j M) (M j)) → ∃ R p, RRE D n m R p ∧ ∀ v, Spn D (RowsOf m R) v ↔ Spn D (RowsOf m M) v
  | 0, _, _, _ => ⟨M, fun _ => 0, ⟨fun i hi => absurd hi (by omega), fun i hi => absurd hi (by omega), fun i hi => absurd hi (by omega), fun i j _ hj => absurd hj (by omega), fun i hi => absurd hi (by omega), fun i j hi => absurd hi (by omega), fun i c hi => absurd hi (by omega)⟩, fun v => Iff.rfl⟩
  | m + 1, he, hb, hi => by
    have F := fld hD
    obtain ⟨R, p, hR, hS⟩ := rre_full hD m (fun i h => he i (by omega)) (fun i h => hb i (by omega)) (fun j h => hi j (by omega))
    obtain ⟨r, hl⟩ := lft_ex F hR (he m (by omega)) (hb m (by omega)) m (Nat.le_refl _)
    have hr : r ≠ pnil := fun e => by
      have h1 := hl.spn
      rw [e, psub_nil F (he m (by omega))] at h1
      exact hi m (by omega) ((hS _).1 h1)
    obtain ⟨c, hc1, hc2, hc3⟩ := first_nz n hl.bd hr
    have hinv := inv_is hD (hl.el c) hc2
    obtain ⟨t, ht1, ht2, ht3⟩ := piv_at (a := c) m hR.mono (fun j hj e => hc2 (by rw [← e]; exact hl.zero j hj))
    refine ⟨_, _, rre_ins F hR (r := pscale D (D.pw (r c) (D.q - 2)) r) (el_scale F _ _) (fun j hj => ?_) hc1 ?_ (fun c' h => ?_) (fun j hj => ?_) ht1 ht2 ht3, fun v => red_put F hR (fun j hj => he j (by omega)) hS hl hinv ht1 v⟩
    · show D.mul _ (r j) = 0
      rw [hl.bd j hj]; exact mul0 F _
    · show D.mul _ (r c) = 1
      rw [F.mul_comm]; exact hinv
    · show D.mul _ (r c') = 0
      rw [hc3 c' h]; exact mul0 F _
    · show D.mul _ (r (p j)) = 0
      rw [hl.zero j hj]; exact mul0 F _
/-- What makes the rows of a reduced form 0: as many as there are free columns. -/
theorem nul_full {D : FD} (hD : D ∈ fieldsL) {n k k2 : Nat} {R R2 : Nat → Nat → Nat} {p p2 : Nat → Nat} (h : RRE D n k R p) (h2 : RRE D n k2 R2 p2) (hS : ∀ v, Spn D (RowsOf k2 R2) v ↔ Spn D (RowsOf (nct k p n) (nul D R p k n)) v) : k2 = nct k p n := by
  obtain ⟨R3, p3, h3, hS3⟩ := rre_full hD (n := n) (M := nul D R p k n) (nct k p n) (fun i _ => nul_el (fld hD) h.el _ _) (fun i hi => nul_bd h.lt hi) (fun j hj => nul_ind (fld hD) hj)
  exact (rre_uniq (fld hD) h2 h3 (fun v => (hS v).trans (hS3 v).symm)).1
/-- The rows that tell one place each. -/
def unr (i j : Nat) : Nat := if j = i then 1 else 0
theorem unr_rre {D : FD} (F : Fld D) (n : Nat) : RRE D n n unr (fun i => i) := by
  have h1 := F.q2
  refine ⟨fun i _ j => ?_, fun i hi j hj => ?_, fun i hi => hi, fun i j h _ => h, fun i _ => if_pos rfl, fun i j _ _ h => if_neg (fun e => h e.symm), fun i c _ h => if_neg (by omega)⟩
  · unfold unr
    split <;> omega
  · exact if_neg (by omega)
theorem fcs_none (p : Nat → Nat) : ∀ c, nct 0 p c = c ∧ ∀ i, i < c → fcs 0 p c i = i
  | 0 => ⟨rfl, fun i hi => absurd hi (by omega)⟩
  | c + 1 => by
    obtain ⟨h1, h2⟩ := fcs_none p c
    refine ⟨by rw [nct_yes (fun i hi => absurd hi (by omega)), h1], fun i hi => ?_⟩
    by_cases e : i = c
    · have := fcs_at 0 p c
      rw [h1] at this
      rw [e]; exact this
    · rw [fcs_lo (by omega)]; exact h2 i (by omega)
theorem nul_none {D : FD} (R : Nat → Nat → Nat) (p : Nat → Nat) (n i : Nat) (hi : i < n) : nul D R p 0 n i = unr i := by
  unfold nul
  rw [(fcs_none p n).2 i hi]
  rfl
end Go.Proofs.Ytbpeahhhkcljeaa
