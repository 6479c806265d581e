/- Texts of ours, one behind the other: U2 W4. -/
import Derived.Test.YtcgmllamiaflcaaZN2
import Derived.StillTail
import Derived.Deep.QuietTactic
import Derived.BigQuiet
import Derived.WalkKit
/- The program's polynomials: values, products. -/
namespace Go.Proofs.Ytcgmllamiaflcaa
open Go.RowKit

/-- A row's first cells are the coefficients c. -/
def Row (g N : Nat) (c : Nat → Nat) (w : World) : Prop := ∃ cap f, RowF g cap 3 f w ∧ N ≤ cap ∧ ∀ k, k < N → f k = .int .i64 (c k : Nat)
theorem Row.cell {g N : Nat} {c : Nat → Nat} {w : World} (h : Row g N c w) (k : Nat) (hk : k < N) : w.cell? ⟨g, k, none⟩ = some (.int .i64 (c k : Nat)) := by
  obtain ⟨cap, f, hf, hN, he⟩ := h
  rw [hf.cell k (by omega), he k hk]
theorem Row.free {g N : Nat} {c : Nat → Nat} {w : World} (h : Row g N c w) (k : Nat) : w.frozen? ⟨g, k, none⟩ = false := by
  obtain ⟨cap, f, hf, hN, he⟩ := h
  exact hf.free k
theorem Row.lt {g N : Nat} {c : Nat → Nat} {w : World} (h : Row g N c w) : g < w.heap.size := by
  obtain ⟨cap, f, hf, hN, he⟩ := h
  exact hf.lt
theorem Row.drewN {g N : Nat} {c : Nat → Nat} {w : World} (h : Row g N c w) (k : Nat) : Row g N c (w.drewN k) := by
  obtain ⟨cap, f, hf, hN, he⟩ := h
  exact ⟨cap, f, hf.drewN k, hN, he⟩
theorem Row.store {g N : Nat} {c d : Nat → Nat} {w : World} (h : Row g N c w) (k v : Nat) (hd : ∀ j, j < N → d j = if j = k then v else c j) : Row g N d (w.setCell ⟨g, k, none⟩ (.int .i64 (v : Nat))) := by
  obtain ⟨cap, f, hf, hN, he⟩ := h
  refine ⟨cap, _, hf.store k _, hN, fun j hj => ?_⟩
  unfold upd
  rw [hd j hj]
  split
  · rfl
  · exact he j hj
theorem Row.congr {g N : Nat} {c d : Nat → Nat} {w : World} (h : Row g N c w) (e : ∀ k, k < N → c k = d k) : Row g N d w := by
  obtain ⟨cap, f, hf, hN, he⟩ := h
  exact ⟨cap, f, hf, hN, fun k hk => by rw [he k hk, e k hk]⟩
theorem Row.less {g N M : Nat} {c : Nat → Nat} {w : World} (h : Row g N c w) (hM : M ≤ N) : Row g M c w := by
  obtain ⟨cap, f, hf, hN, he⟩ := h
  exact ⟨cap, f, hf, by omega, fun k hk => he k (by omega)⟩
theorem Row.below {g N B : Nat} {c : Nat → Nat} {w w' : World} (h : Row g N c w) (hb : Below B w w') (hB : g < B) : Row g N c w' := by
  obtain ⟨cap, f, hf, hN, he⟩ := h
  exact ⟨cap, f, hf.below hb hB, hN, he⟩
theorem Row.other {g N : Nat} {c : Nat → Nat} {w w' : World} (h : Row g N c w) (e : w'.heap[g]? = w.heap[g]?) : Row g N c w' := by
  obtain ⟨cap, f, hf, hN, he⟩ := h
  exact ⟨cap, f, hf.other e, hN, he⟩
theorem Row.sl {g N : Nat} {c : Nat → Nat} {w : World} (h : Row g N c w) {n : Nat} (hn : n ≤ N) : Sl (some ⟨g, 0, none⟩) n c w := fun j hj => ⟨g, 0, rfl, by rw [Nat.zero_add]; exact h.cell j (by omega)⟩
theorem row_zeros {base n : Nat} {w : World} (h : OwnI base (.slice (some ⟨base, 0, none⟩) n n) (List.replicate n 0) w) : Row base n pnil w := by
  rcases h.2 with ⟨h1, _⟩ | ⟨g, cap, cur, hv, hg, hh, hle, hcm, hsz, htake⟩
  · cases h1
  · simp only [List.length_replicate, Value.slice.injEq, Option.some.injEq, Addr.mk.injEq, and_true, true_and] at hv
    obtain ⟨rfl, rfl⟩ := hv
    by_cases h0 : n = 0
    · exact ⟨n, fun _ => .int .i64 0, ⟨cur, hh, by omega, fun o ho => by omega⟩, Nat.le_refl _, fun k hk => by omega⟩
    · obtain ⟨gl, cl, fl, hvl, hgl, hgl', hll, hcl, hrl, hfl⟩ := h.row n (by simp) (by omega)
      simp only [Value.slice.injEq, Option.some.injEq, Addr.mk.injEq, and_true, true_and] at hvl
      obtain ⟨rfl, rfl⟩ := hvl
      exact ⟨n, fl, hrl, Nat.le_refl _, fun k hk => by rw [hfl k hk, list_getD_replicate]; rfl⟩

/-- The slice v, made behind block number base, holds the n coefficients c. -/
def OwnP (base : Nat) (v : Value) (n : Nat) (c : Nat → Nat) (w : World) : Prop :=
  ∃ ao cap, v = .slice ao n cap ∧ n ≤ cap ∧ cap ≤ 9223372036854775807 ∧ GeB ao base ∧ LtB ao w.heap.size ∧ (ao = none → cap = 0) ∧ (0 < n → ∃ g, ao = some ⟨g, 0, none⟩ ∧ Row g n c w)
theorem OwnP.of_row {base g n N cap : Nat} {c : Nat → Nat} {w : World} (h : Row g N c w) (hn : n ≤ N) (hN : n ≤ cap) (hcap : cap ≤ 9223372036854775807) (hb : base ≤ g) : OwnP base (.slice (some ⟨g, 0, none⟩) n cap) n c w :=
  ⟨_, cap, rfl, hN, hcap, fun x hx => by cases hx; exact hb, fun x hx => by cases hx; exact h.lt, fun e => (by cases e), fun _ => ⟨g, rfl, h.less hn⟩⟩
theorem OwnP.below {base B n : Nat} {v : Value} {c : Nat → Nat} {w w' : World} (h : OwnP base v n c w) (hb : Below B w w') (hB : w.heap.size ≤ B) : OwnP base v n c w' := by
  obtain ⟨ao, cap, hv, h1, h2, hg, hl, hz, hr⟩ := h
  refine ⟨ao, cap, hv, h1, h2, hg, hl.mono hb.size, hz, fun h0 => ?_⟩
  obtain ⟨g, e, hrow⟩ := hr h0
  exact ⟨g, e, hrow.below hb (Nat.lt_of_lt_of_le (hl _ e) hB)⟩
theorem OwnP.mono {base base' n : Nat} {v : Value} {c : Nat → Nat} {w : World} (h : OwnP base v n c w) (hb : base' ≤ base) : OwnP base' v n c w := by
  obtain ⟨ao, cap, hv, h1, h2, hg, hl, hz, hr⟩ := h
  exact ⟨ao, cap, hv, h1, h2, hg.mono hb, hl, hz, hr⟩
theorem OwnP.congr {base n : Nat} {v : Value} {c d : Nat → Nat} {w : World} (h : OwnP base v n c w) (e : ∀ k, k < n → c k = d k) : OwnP base v n d w := by
  obtain ⟨ao, cap, hv, h1, h2, hg, hl, hz, hr⟩ := h
  refine ⟨ao, cap, hv, h1, h2, hg, hl, hz, fun h0 => ?_⟩
  obtain ⟨g, e', hrow⟩ := hr h0
  exact ⟨g, e', hrow.congr e⟩
theorem OwnP.drewN {base n : Nat} {v : Value} {c : Nat → Nat} {w : World} (h : OwnP base v n c w) (k : Nat) : OwnP base v n c (w.drewN k) := by
  obtain ⟨ao, cap, hv, h1, h2, hg, hl, hz, hr⟩ := h
  refine ⟨ao, cap, hv, h1, h2, hg, hl, hz, fun h0 => ?_⟩
  obtain ⟨g, e', hrow⟩ := hr h0
  exact ⟨g, e', hrow.drewN k⟩
/-- Opened: where it lies. -/
theorem OwnP.open {base n : Nat} {v : Value} {c : Nat → Nat} {w : World} (h : OwnP base v n c w) : ∃ ao cap, v = .slice ao n cap ∧ n ≤ cap ∧ cap ≤ 9223372036854775807 ∧ GeB ao base ∧ LtB ao w.heap.size ∧ (ao = none → cap = 0) ∧ Sl ao n c w := by
  obtain ⟨ao, cap, hv, h1, h2, hg, hl, hz, hr⟩ := h
  refine ⟨ao, cap, hv, h1, h2, hg, hl, hz, fun j hj => ?_⟩
  obtain ⟨g, e, hrow⟩ := hr (by omega)
  exact ⟨g, 0, e, by rw [Nat.zero_add]; exact hrow.cell j hj⟩

/-- The product while it is made: r rows, and j places of the next one. -/
def pin (D : FD) (a b : Nat → Nat) (r j : Nat) : Nat → Nat := fun k => if r ≤ k ∧ k < r + j then pmul D (r + 1) a b k else pmul D r a b k
theorem pin_zero (D : FD) (a b : Nat → Nat) (r : Nat) : pin D a b r 0 = pmul D r a b := by funext k; unfold pin; rw [if_neg (by omega)]
theorem pin_all {D : FD} (F : Fld D) {a b : Nat → Nat} {m : Nat} (hb : Bd m b) (r : Nat) : pin D a b r m = pmul D (r + 1) a b := by
  funext k
  unfold pin
  by_cases h : r ≤ k ∧ k < r + m
  · rw [if_pos h]
  · rw [if_neg h]
    show _ = D.ad (pmul D r a b k) (psh r (pscale D (a r) b) k)
    unfold psh pscale
    by_cases h2 : r ≤ k
    · rw [if_pos h2, hb (k - r) (by omega), mul0 F, ad_zero F (el_mul F a b r k)]
    · rw [if_neg h2, ad_zero F (el_mul F a b r k)]
theorem pin_at (D : FD) (a b : Nat → Nat) (r j : Nat) : pin D a b r j (r + j) = pmul D r a b (r + j) := by unfold pin; rw [if_neg (by omega)]
theorem pin_new (D : FD) (a b : Nat → Nat) (r j : Nat) : D.ad (pmul D r a b (r + j)) (D.mul (a r) (b j)) = pmul D (r + 1) a b (r + j) := by
  show _ = D.ad (pmul D r a b (r + j)) (psh r (pscale D (a r) b) (r + j))
  unfold psh pscale
  rw [if_pos (by omega), Nat.add_sub_cancel_left]
theorem pin_step (D : FD) (a b : Nat → Nat) (r j k : Nat) : pin D a b r (j + 1) k = if k = r + j then pmul D (r + 1) a b (r + j) else pin D a b r j k := by
  unfold pin
  by_cases h : k = r + j
  · rw [if_pos h, if_pos (by omega), h]
  · rw [if_neg h]
    by_cases h2 : r ≤ k ∧ k < r + j
    · rw [if_pos h2, if_pos (by omega)]
    · rw [if_neg h2, if_neg (by omega)]

end Go.Proofs.Ytcgmllamiaflcaa

/- A region that draws its order: calls and reads that leave the world alone but for draws, and behind all of them, one after the other, what writes. One walk serves every order. No Go text here. -/
namespace Go.Proofs.Ytcgmllamiaflcaa
open Go

/-- Every order of the first n operations, each quiet in the class C; then L. -/
def HeadAll (P : Program) (ops : Array Oper) (C : World → Prop) (n : Nat) (L : Array Bool → Act → Prop) : Nat → Array Bool → Act → Prop
  | 0, s, a => L s a
  | f + 1, s, a => Region.ready .any ops s ≠ [] ∧ ∀ i, i ∈ Region.ready .any ops s → i < n ∧ qOp P ops C i (HeadAll P ops C n L f (s.setIfInBounds i true)) a

theorem head_any {P : Program} {ops : Array Oper} {C : World → Prop} {n g : Nat} {L : Array Bool → Act → Prop} {Q : Exit → Act → World → Prop} (hL : ∀ s a w, C w → L s a → wpAny P .any ops Q g s a w) :
    ∀ (f : Nat) (s : Array Bool) (a : Act) (w : World), C w → HeadAll P ops C n L f s a → wpAny P .any ops Q (f + g) s a w := by
  intro f
  induction f with
  | zero => intro s a w hw h; rw [Nat.zero_add]; exact hL s a w hw h
  | succ f ih =>
    intro s a w hw h
    rw [show f + 1 + g = f + g + 1 from by omega]
    exact ⟨fun e => absurd e h.1, fun i hi => wpOp_of_qOp hw (fun a' w' hw' h' => ih _ a' w' hw' h') (h.2 i hi).2⟩

/-- What is ready may be taken first, if all others that don't wait for it are apart from it. -/
theorem head_first {P : Program} {ops : Array Oper} {C : World → Prop} {n i : Nat} {oi : Oper} {v : Value} {L : Array Bool → Act → Prop} (hi : ops[i]? = some oi)
    (hsel : ∀ (j : Nat) (o : Oper) cs b, ops[j]? = some o → o.op ≠ .select cs b) (hs : Region.sinkB .any ops n = true) (hc : Region.chainB .any ops n = true) (hn : n < ops.size) (hin : i < n)
    (hdone : ∀ s a, L s a → ∀ j, j ∈ Region.ready .any ops s → n ≤ j) :
    ∀ (f : Nat) (s : Array Bool) (a : Act), HeadInv .any ops n s →
      (∀ j oj, ops[j]? = some oj → j ≠ i → s.getD j true = false → (∀ e ∈ oj.after, Region.binds .any e = true → e.on ≠ i) → oi.apart ops oj = true) →
      i ∈ Region.ready .any ops s → YieldsIn P ops C oi v a → HeadAll P ops C n L f (s.setIfInBounds i true) (a.put oi.dst v) → HeadAll P ops C n L (f + 1) s a := by
  intro f
  induction f with
  | zero =>
    intro s a inv _ hr hy H
    refine ⟨fun e => (by rw [e] at hr; cases hr), fun j hj => ?_⟩
    have hjn : j < n := Nat.lt_of_not_le fun h => tail_waits hs hc hn inv _ i rfl hin (mem_ready.1 hr).1 j h hj
    by_cases e : j = i
    · exact ⟨hjn, by subst e; exact hy.qOp hi H⟩
    · exact absurd (hdone _ _ H j (ready_mono hj e)) (by omega)
  | succ f ih =>
    intro s a inv hfree hr hy H
    refine ⟨fun e => (by rw [e] at hr; cases hr), fun j hj => ?_⟩
    have hun := (mem_ready.1 hr).1
    have hjn : j < n := Nat.lt_of_not_le fun h => tail_waits hs hc hn inv _ i rfl hin hun j h hj
    by_cases e : j = i
    · exact ⟨hjn, by subst e; exact hy.qOp hi H⟩
    · obtain ⟨hju, oj, hoj, hall⟩ := mem_ready.1 hj
      have hno : ∀ d ∈ oj.after, Region.binds .any d = true → d.on ≠ i := fun d hd hb heq => by
        have t := hall d hd hb
        rw [heq, getD_both hun] at t
        cases t
      have h2 := qOp_put hoj (hfree j oj hoj e hju hno) (fun cs b => hsel i oi cs b hi) (fun cs b => hsel j oj cs b hoj) hy (H.2 j (ready_mono hj e)).2
      refine ⟨hjn, qOp_mono (fun a' h3 => ?_) h2⟩
      refine ih (s.setIfInBounds j true) a' (inv.set hj hjn) (fun k ok hk hki hun hno => hfree k ok hk hki ?_ hno) (ready_mono hr (fun x => e x.symm)) h3.1 ?_
      · by_cases hjk : j = k
        · subst hjk; exact hju
        · rw [getD_set_ne true hjk] at hun; exact hun
      · rw [Array.setIfInBounds_comm _ _ e]; exact h3.2

theorem head_lex {P : Program} {ops : Array Oper} {C : World → Prop} {n g : Nat} {K : Act → Prop} (hsel : Region.noSelect ops = true) (hs : Region.sinkB .any ops n = true) (hc : Region.chainB .any ops n = true) (hn : n < ops.size) :
    ∀ (l : List Oper) (k : Nat) (s : Array Bool) (a : Act), (∀ j, j < l.length → l[j]? = ops[k + j]?) → k + l.length = n → HeadInv .any ops n s →
      Region.lexHead .any ops g l.length k s = true → wpQuiet P ops C K l a → HeadAll P ops C n (fun s' a' => Region.seqB .any ops g n s' = true ∧ K a') l.length s a := by
  intro l
  induction l with
  | nil =>
    intro k s a _ hk _ hB h
    have e : k = n := by simpa using hk
    subst e
    exact ⟨by simpa [Region.lexHead] using hB, h⟩
  | cons o l ih =>
    intro k s a hl hk inv hB h
    have h0 : ops[k]? = some o := by simpa using (hl 0 (by simp)).symm
    simp only [List.length_cons, Region.lexHead, Bool.and_eq_true] at hB
    obtain ⟨⟨hr, hf⟩, hB'⟩ := hB
    simp only [List.length_cons] at hk
    have hr' : k ∈ Region.ready .any ops s := by simpa using hr
    have hq : qOp P ops C k (wpQuiet P ops C K l) a := by unfold qOp; simp only [h0]; exact h
    obtain ⟨v, hy, hK⟩ := yieldsIn_of_qOp h0 hq
    refine head_first h0 (Region.noSelect_spec hsel) hs hc hn (by omega) (fun s' a' hL => seqB_ready hL.1) l.length s a inv (Region.free_spec h0 hf) hr' hy ?_
    exact ih (k + 1) _ _ (fun j hj => by have := hl (j + 1) (by simp; omega); simpa [Nat.add_assoc, Nat.add_comm 1 j] using this) (by omega) (inv.set hr' (by omega)) hB' hK

/-- The first n operations by one walk, all quiet; the others behind them, in order. -/
theorem quiet_tail {P : Program} {id : Nat} {Q : Exit → Act → World → Prop} {a : Act} {w : World} {l : List Oper} (n : Nat) (hm : P.follows .mixedOrders = true) (hB : Region.lexTailB .any l.toArray n = true)
    (h : wpQuiet P l.toArray (fun w' => ∃ k, w' = w.drewN k) (fun a' => ∀ w', (∃ k, w' = w.drewN k) → wpList P l.toArray Q (l.drop n) a' w') (l.take n) a) : (Code.region id l.toArray true).wp P Q a w := by
  simp only [Region.lexTailB, Bool.and_eq_true, decide_eq_true_eq] at hB
  obtain ⟨⟨⟨⟨hsel, hn⟩, hs⟩, hc⟩, hlex⟩ := hB
  have hn' : n < l.length := by simpa using hn
  have htl : (l.take n).length = n := by simp; omega
  have hdl : (l.drop n).length = l.toArray.size - n := by simp
  have inv0 : HeadInv .any l.toArray n (Array.replicate l.toArray.size false) :=
    ⟨by simp, fun j oj _ hl => (by rw [getD_replicate_false] at hl; cases hl), fun t _ ht => getD_in (by simpa using ht) (getD_replicate_false _ _)⟩
  have H := head_lex (g := l.toArray.size - n) hsel hs hc hn (l.take n) 0 _ a (fun j hj => by
    have hj' : j < n := by rw [htl] at hj; exact hj
    simp [hj']) (by simpa using htl) inv0 (by rw [htl]; exact hlex) h
  refine wp_region_any hm ?_
  have R := head_any (Q := Q) (g := l.toArray.size - n) (fun s a' w' hw' hL => by
    have := wpAny_of_seq (md := .any) (Q' := Q) (l.drop n) n s a' w' (fun j => by simp [List.getElem?_drop]) (by rw [hdl]; exact hL.1) (hL.2 w' hw')
    rwa [hdl] at this) _ _ _ _ (show ∃ k, { w with drawn := w.drawn + 1 } = w.drewN k from ⟨1, rfl⟩) H
  rw [htl, show n + (l.toArray.size - n) = l.toArray.size by omega] at R
  exact R
end Go.Proofs.Ytcgmllamiaflcaa
