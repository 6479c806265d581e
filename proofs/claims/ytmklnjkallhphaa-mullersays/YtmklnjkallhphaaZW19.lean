/- Texts of ours, one behind the other: W19 W20 KO8. -/
import Derived.Test.YtmklnjkallhphaaZKE3
import Derived.Test.YtmklnjkallhphaaZV7
import Derived.Test.YtmklnjkallhphaaZI10
import Derived.OwnWalkIn
import Derived.Test.YtmklnjkallhphaaZKO4
/- A range over a function whose rounds lay memory and change it again later. No Go text here. -/
namespace Go.Proofs.Ytmklnjkallhphaa
open Go.RowKit

/-- The law of W14 where the rounds may also change what they lay themselves: all but the loop's two blocks may be their own. -/
theorem range_lawG {P : Program} {g : Operand} {ps : Array Tmp} {assign body : Code} {Q : Exit → Act → World → Prop} {a : Act} {w : World} {gf : Nat} {lb : Array Value}
    (hg : a.eval g = .func (.func gf) #[] lb) (eg : ∀ args w, (callFunc gf args).run P w = .ok (.enter gf args) w)
    {N : Nat} {E : Nat → Array Value → World → Prop} {own : Nat → Prop} (hseq : SeqI P gf lb N E own w) (ho1 : ¬ own w.heap.size) (ho2 : ¬ own (w.heap.size + 1))
    (hps : ∀ r args X, E r args X → args.size = ps.size)
    (I : Nat → World → Prop) (hI : ∀ r X Y, I r X → GrC w.heap.size X Y → I r Y) (hE : ∀ r args X Y, E r args X → GrC w.heap.size X Y → E r args Y) (h0 : I 0 w) (a₁ : Array Value → Act)
    (hassign : ∀ (l r : Nat) (args : Array Value) (X : World) (K : Act → World → Prop), E r args X → K (a₁ args) X →
      assign.wpIn (Fence.wide.inRound l) 0 P (Exit.then K (fun _ _ _ => False)) { tmps := (ps.zip args).foldl (fun t (p, v) => t.setIfInBounds p v) a.tmps, defers := [] } X)
    (hbody : ∀ (l r : Nat) (args : Array Value) (X : World), r < N → w.heap.size + 2 ≤ X.heap.size → I r X → E r args X → body.wpIn (Fence.wide.inRound l) 0 P (fun e _ Y => e = .normal ∧ KpO own X Y ∧ I (r + 1) Y) (a₁ args) X)
    (hdone : ∀ (D : Nat) (W : World), w.heap.size ≤ D → I N W → W.heap[D]? = some (.deferred (some [])) → Q .normal { a with defers := { target := .collected D, args := #[] } :: a.defers } W) :
    (Code.rangeFunc g ps assign body).wp P Q a w := by
  refine (wpIn_wide (n := 0)).1 (wpIn_rangeFunc ?_)
  intro fn hfn
  obtain ⟨B, hB⟩ : ∃ B, B = w.heap.size := ⟨_, rfl⟩
  obtain ⟨rc, hrc⟩ : ∃ rc : LoopState → Option Code → Loop, rc = fun st pe => { state := st, pending := pe, fn, tmps := a.tmps, params := ps, assign, body, defers := w.heap.size } := ⟨_, rfl⟩
  obtain ⟨W, hW⟩ : ∃ W, W = (w.alloc (.deferred (some []))).alloc (.loop (rc .ready none)) := ⟨_, rfl⟩
  have hs1 : (w.alloc (.deferred (some []))).heap.size = B + 1 := by rw [World.size_alloc, hB]
  have hsW : W.heap.size = B + 2 := by rw [hW, World.size_alloc, hs1]
  have hlW : W.heap[B + 1]? = some (.loop (rc .ready none)) := by rw [hW, ← hs1]; exact World.alloc_heap_new _ _
  have hdW : W.heap[B]? = some (.deferred (some [])) := by rw [hW, Below.heap_alloc _ _ _ (by rw [hs1]; omega), hB]; exact World.alloc_heap_new w _
  have hbW : Below w.heap.size w W := by rw [hW]; exact ((Below.refl _ w).alloc (Nat.le_refl _) _).alloc (by simp) _
  have hIW : I 0 W := hI 0 w W h0 (.of_below hbW)
  refine ⟨B + 1, [{ target := .collected w.heap.size, args := #[] }], W, { target := .fn (.func gf) lb, args := #[.func (.yield (B + 1)) #[] #[]] }, W, gf, #[.func (.yield (B + 1)) #[] #[]] ++ lb, W, ?_, ?_, fun _ _ => trivial, ?_, fun h => (by cases h), ?_⟩
  · rw [hW, hrc, hB]; exact run_enterLoop_outer _ _ _ _ _
  · simp only [resolve, hg]
    simp [go_sem]
  · simp [invoke, go_sem, eg]
  refine (hseq (B + 1) (fun r X => I r X ∧ X.heap[B + 1]? = some (.loop (rc .ready none)) ∧ X.heap[B]? = some (.deferred (some []))) W hbW (by omega) (by omega) ?_ ?_ ⟨hIW, hlW, hdW⟩).mono ?_
  · rintro r X Y ⟨h1, h2, h3⟩ hb
    exact ⟨hI r X Y h1 (.of_below hb), (hb.block _ (Array.getElem?_eq_some_iff.1 h2).1).trans h2, (hb.block _ (Array.getElem?_eq_some_iff.1 h3).1).trans h3⟩
  · rintro r args X hr ⟨hi, hl, hd⟩ he
    have hy := run_yield (P := P) (args := args) hl (by rw [hrc]; exact hps r args X he)
    rw [hrc] at hy
    refine ⟨fn, _, assign, body, hy, roundIn_of_wpIn hfn (hassign _ r args X _ he ⟨_, run_beginRound hl (by rw [hrc]), ?_⟩)⟩
    obtain ⟨X2, hX2⟩ : ∃ X2, X2 = X.putObj (B + 1) (.loop { rc .ready none with state := .busy }) := ⟨_, rfl⟩
    have hg2 : GrC w.heap.size X X2 := by rw [hX2]; exact .put _ (by omega) hl rfl
    have hl2 : X2.heap[B + 1]? = some (.loop { rc .ready none with state := .busy }) := by rw [hX2]; exact World.putObj_heap_same (Array.getElem?_eq_some_iff.1 hl).1
    have hd2 : X2.heap[B]? = some (.deferred (some [])) := by rw [hX2]; exact (World.putObj_heap_other (by omega)).trans hd
    have hk2 : KpO (fun k => own k ∨ k = B + 1) X X2 := by rw [hX2]; exact .put _ _ _ (Or.inr rfl)
    rw [← hX2]
    refine wpIn_mono (hbody (B + 1) r args X2 hr (by have := (Array.getElem?_eq_some_iff.1 hl2).1; omega) (hI r X X2 hi hg2) (hE r args X X2 he hg2)) ?_
    rintro e a3 Y ⟨rfl, hk, hi3⟩
    have hl3 : Y.heap[B + 1]? = some (.loop { rc .ready none with state := .busy }) := (hk.same _ (Array.getElem?_eq_some_iff.1 hl2).1 (by rw [hB]; exact ho2)).trans hl2
    have hd3 : Y.heap[B]? = some (.deferred (some [])) := (hk.same _ (Array.getElem?_eq_some_iff.1 hd2).1 (by rw [hB]; exact ho1)).trans hd2
    have he3 := run_endRound (P := P) none hl3
    refine ⟨_, _, he3, rfl, ⟨hI _ Y _ hi3 (.put _ (by omega) hl3 rfl), ?_, (World.putObj_heap_other (by omega)).trans hd3⟩, (hk2.trans (hk.mono fun k h => Or.inl h)).trans (.put _ _ _ (Or.inr rfl))⟩
    rw [World.putObj_heap_same (Array.getElem?_eq_some_iff.1 hl3).1, hrc]
    rfl
  · rintro e Y ⟨⟨v, rfl⟩, hi, hl, hd⟩
    have he := run_endLoop (P := P) hl (by rw [hrc]; simp)
    refine ⟨none, _, by rw [he, hrc], ?_⟩
    have := hdone B (Y.putObj (B + 1) (.loop { rc .ready none with state := .exhausted })) (by omega) (hI _ Y _ hi (.put _ (by omega) hl rfl)) ((World.putObj_heap_other (by omega)).trans hd)
    rw [hB] at this ⊢
    simpa [hrc] using this
end Go.Proofs.Ytmklnjkallhphaa

/- In a round of a range over a function: a list of numbers made; a list put behind lists. -/
namespace Go.Proofs.Ytmklnjkallhphaa
open Go.RowKit

theorem make_int_in {F : Fence} {nF : Nat} {ops : Array Oper} {rest : List Oper} {o : Oper} {a : Act} {w : World} {Q : Exit → Act → World → Prop} (hg : o.guard = none) (l c : Operand) (hop : o.op = Op.makeSlice 22 l c)
    (N : Nat) (hl : a.eval l = .int .i64 (N : Nat)) (hc : a.eval c = .int .i64 (N : Nat)) (hn : N ≤ 1000000)
    (hK : ∀ w', Row w.heap.size N pnil w' → Below w.heap.size w w' → wpListIn F nF Try.prog ops Q rest (a.put o.dst (.slice (some ⟨w.heap.size, 0, none⟩) N N)) w') : wpListIn F nF Try.prog ops Q (o :: rest) a w := by
  refine wpListIn_plain hg fun K hK' => ?_
  obtain ⟨w', hrun, r1, r2⟩ := make_run N hn w
  unfold Oper.wpIn
  refine ⟨?_, ?_⟩
  · simp [Oper.about, hop]
  · rw [Oper.semAt_plain F _ _ (by rw [hop]; intro c hc'; cases hc')]
    simp [execOp, hop, hl, hc, hrun, Result.andThen]
    exact hK' _ _ (hK w' r1 r2)
theorem append_sl_in {F : Fence} {nF : Nat} {ops : Array Oper} {rest : List Oper} {o : Oper} {a : Act} {w : World} {Q : Exit → Act → World → Prop} (hgd : o.guard = none) (s x : Operand)
    (ho : o.op = .call { callee := .builtin .append, args := #[s, x], argTypes := #[25, 25] })
    (base : Nat) (v : Value) (l : List Value) (hs : a.eval s = v) (hown : OwnV base v l w) (ad : Addr) (c : Nat) (y : Value) (hy : y.oneCell' = true) (hx : a.eval x = .slice (some ad) 1 c) (hcell : w.cell? ad = some y)
    (hlen : l.length ≤ 1000000) (hbase : base ≤ w.heap.size)
    (h : ∀ v' w', OwnV base v' (l ++ [y]) w' → w.grownBy w' v.ownBlock → wpListIn F nF Try.prog ops Q rest (a.put o.dst v') w') : wpListIn F nF Try.prog ops Q (o :: rest) a w := by
  obtain ⟨i0, hi, hz0, hz1, hz2⟩ := info_parts Try.infoSl
  refine wpListIn_append_own _ hgd s x 25 ho base 22 i0 (.slice none 0 0) 1 24 Try.underlying25 hi hz0 hz1 hz2 rfl (by decide) v l.length _ hs hown ad 1 c [y] hx rfl ?_ ?_ ?_ ?_ hbase ?_
  · intro j u hj
    match j, hj with
    | 0, hj =>
      simp at hj; subst hj
      have : ad.add 0 = ad := by cases ad with | mk b o s => cases s <;> simp [Addr.add]
      rw [this]; exact hcell
  · intro u hu; simp at hu; subst hu; exact hy
  · unfold maxLen; omega
  · omega
  · intro v' w' hown' hgrow _
    refine h v' w' ?_ hgrow
    unfold OwnV
    rw [List.length_append]
    exact hown'
theorem OwnV.lt {base : Nat} {v : Value} {l : List Value} {w : World} (h : OwnV base v l w) : ∀ k, v.ownBlock = some k → base ≤ k ∧ k < w.heap.size := World.ownsRow.lt h
theorem OwnV.grc {base B : Nat} {v : Value} {l : List Value} {X Y : World} (h : OwnV base v l X) (hg : GrC B X Y) : OwnV base v l Y := by
  obtain ⟨h1, h2⟩ := h
  refine ⟨h1, ?_⟩
  rcases h2 with h2 | ⟨g, cap, cur, hv, hgb, hh, r⟩
  · exact Or.inl h2
  · exact Or.inr ⟨g, cap, cur, hv, hgb, by rw [hg.same g (lt_of_block hh) (Or.inr fun o ho => by rw [hh] at ho; cases ho; rfl)]; exact hh, r⟩
theorem LLs.grc {base B : Nat} {v : Value} {L : List (Nat × (Nat → Nat))} {X Y : World} (h : LLs base v L X) (hg : GrC B X Y) : LLs base v L Y := by
  obtain ⟨l, h1, h2⟩ := h
  refine ⟨l, h1.grc hg, h2.1, fun j u p hu hp => ?_⟩
  obtain ⟨g, cap, e, a1, a2, hr⟩ := h2.2 j u p hu hp
  exact ⟨g, cap, e, a1, a2, hr.grc hg⟩
theorem rl_next (k n : Nat) (R : Nat → Nat → Nat) : rl (k + 1) n R = rl k n R ++ [(n, R k)] := by
  unfold rl
  rw [List.range_succ, List.map_append]
  rfl
end Go.Proofs.Ytmklnjkallhphaa

/- Muller: the list of the monomials (slices.Collect). -/
namespace Go.Proofs.Ytmklnjkallhphaa
open Go.RowKit Go.Sort Go.Shelf
attribute [local go_sem] Oper.semAt_some

theorem Try.infoMono : (Try.prog.info? 60).map (fun i => (i.zero, i.size, i.bytes)) = some (some (.int .i64 0), 1, 8) := by kernel_rfl
/-- The slice v of monomials, made behind block number base, holds the numbers l. -/
def OwnM (base : Nat) (v : Value) (l : List Int) (w : World) : Prop := w.ownsRow base 60 1 v l.length (l.map (Value.int .i64))
theorem OwnM.nil (base : Nat) (w : World) : OwnM base (.slice none 0 0) [] w := World.ownsRow_nil _ _ _ _
theorem OwnM.alloc {base : Nat} {v : Value} {l : List Int} {w : World} (h : OwnM base v l w) (o : Obj) : OwnM base v l (w.alloc o) := World.ownsRow.alloc h o
theorem OwnM.lt {base : Nat} {v : Value} {l : List Int} {w : World} (h : OwnM base v l w) : ∀ k, v.ownBlock = some k → base ≤ k ∧ k < w.heap.size := World.ownsRow.lt h
theorem OwnM.same {base : Nat} {v : Value} {l : List Int} {w w' : World} (h : OwnM base v l w) (hs : ∀ k o, v.ownBlock = some k → w.heap[k]? = some o → o.isCells = true → w'.heap[k]? = w.heap[k]?) : OwnM base v l w' := by
  obtain ⟨h1, h2⟩ := h
  refine ⟨h1, ?_⟩
  rcases h2 with h2 | ⟨g, cap, cur, hv, hg, hh, r⟩
  · exact Or.inl h2
  · exact Or.inr ⟨g, cap, cur, hv, hg, by rw [hs g _ (by rw [hv]; rfl) hh rfl]; exact hh, r⟩
theorem OwnM.mono {base base' : Nat} {v : Value} {l : List Int} {w : World} (h : OwnM base v l w) (hb : base' ≤ base) : OwnM base' v l w := by
  obtain ⟨h1, h2⟩ := h
  refine ⟨h1, ?_⟩
  rcases h2 with h2 | ⟨g, cap, cur, hv, hg, r⟩
  · exact Or.inl h2
  · exact Or.inr ⟨g, cap, cur, hv, by omega, r⟩
/-- A list that has monomials: where they lie. -/
theorem OwnM.at {base : Nat} {v : Value} {l : List Int} {w : World} (h : OwnM base v l w) (hl : l ≠ []) : ∃ g cap, v = .slice (some ⟨g, 0, none⟩) l.length cap ∧ (l.length ≤ cap ∧ cap ≤ maxLen) ∧ base ≤ g ∧ g < w.heap.size ∧
    (∀ j, j < l.length → w.cell? ⟨g, j, none⟩ = some (.int .i64 (l.getD j 0))) ∧ (∀ j, w.frozen? ⟨g, j, none⟩ = false) := by
  have h' := h
  rcases h'.2 with ⟨_, h2⟩ | ⟨g, cap, cur, hv, hg, hh, r1, r2, r3⟩
  · exact absurd (List.length_eq_zero_iff.1 h2) hl
  · have h3 : w.ownsRow base 60 1 (.slice (some ⟨g, 0, none⟩) l.length cap) l.length (l.map (Value.int .i64)) := hv ▸ h
    refine ⟨g, cap, hv, ⟨r1, r2⟩, hg, lt_of_block hh, fun j hj => ?_, fun j => h3.frozenAt j⟩
    rw [h3.cellAt j (by omega), List.getElem?_map, List.getElem?_eq_getElem hj, List.getD_eq_getElem?_getD, List.getElem?_eq_getElem hj]; rfl
theorem OwnM.slc {base : Nat} {v : Value} {l : List Int} {w : World} (h : OwnM base v l w) : ∃ ao cap, v = .slice ao l.length cap := by
  rcases h.2 with ⟨h1, h2⟩ | ⟨g, cap, cur, hv, _⟩
  · exact ⟨none, 0, by rw [h1, h2]⟩
  · exact ⟨_, cap, hv⟩
theorem OwnM.below {base : Nat} {v : Value} {l : List Int} {w w' : World} (h : OwnM base v l w) (hb : Below w.heap.size w w') : OwnM base v l w' :=
  h.same (fun k _ hk _ _ => hb.block k (h.lt k hk).2)
theorem KpO.of_grown {own : Nat → Prop} {X Y : World} {row : Option Nat} (hg : X.grownBy Y row) (hr : ∀ k, row = some k → own k) : KpO own X Y :=
  ⟨hg.os, hg.tape, hg.output, hg.size, fun k hk hn => hg.block k hk (fun e => hn (hr k e.symm))⟩
theorem nli_take (l : List Nat) (r : Nat) (hr : r < l.length) : nli (l.take (r + 1)) = nli (l.take r) ++ [((l.getD r 0 : Nat) : Int)] := by
  rw [List.take_succ_eq_append_getElem hr, nli_app]
  simp [nli, List.getD_eq_getElem?_getD, hr]

set_option maxHeartbeats 8000000 in
set_option maxRecDepth 100000 in
theorem appendSeqM_any {b1 b2 r m : Nat} (hm : m ≤ 5) (hr : r ≤ m) {w : World} (hP : BxU b1 b2 r m w) :
    Calls Try.prog 54 #[.slice none 0 0, .func (.func 51) #[] #[.pointer (some ⟨b1, 0, none⟩), .pointer (some ⟨b2, 0, none⟩)]] w fun e w' => ∃ v, e = .returned v ∧ OwnM w.heap.size v (nli (mnl m (r + 1))) w' ∧ Below w.heap.size w w' := by
  obtain ⟨l, hl⟩ : ∃ l, l = mnl m (r + 1) := ⟨_, rfl⟩
  have hlen : l.length ≤ 1000 := by have := mnl_len hm (r + 1); rw [hl]; omega
  obtain ⟨w0, hw0⟩ : ∃ w0, w0 = w.alloc (.cells #[.slice none 0 0] 63) := ⟨_, rfl⟩
  have hs0 : w0.heap.size = w.heap.size + 1 := by rw [hw0]; simp
  have hb0 : Below w.heap.size w w0 := by rw [hw0]; exact (Below.refl _ _).alloc (Nat.le_refl _) _
  have hv0 : RowF w.heap.size 1 63 (fun _ => .slice none 0 0) w0 := ⟨_, by rw [hw0]; exact World.alloc_heap_new w _, rfl, fun o ho => by rw [show o = 0 by omega]; rfl⟩
  have g1 := cell_lt hP.1
  have g2 := cell_lt hP.2
  simp at g1 g2
  have hseq : SeqI Try.prog 51 #[.pointer (some ⟨b1, 0, none⟩), .pointer (some ⟨b2, 0, none⟩)] l.length (MnE l) (fun k => k = w.heap.size ∨ w.heap.size + 3 ≤ k) w0 := by
    rw [hl]
    exact monos_seq hm hr (hP.below hb0) (fun h => by omega) (fun h => by omega)
  have HQ : Hid (SeqI Try.prog 51 #[.pointer (some ⟨b1, 0, none⟩), .pointer (some ⟨b2, 0, none⟩)] l.length (MnE l) (fun k => k = w.heap.size ∨ w.heap.size + 3 ≤ k) w0) := hseq
  have H0 : Hid (w0.heap.size = w.heap.size + 1 ∧ Below w.heap.size w w0 ∧ RowF w.heap.size 1 63 (fun _ => .slice none 0 0) w0) := ⟨hs0, hb0, hv0⟩
  rw [← hl]
  clear hseq hs0 hb0 hv0 hl hP g1 g2
  obtain ⟨i0, hi, hz0, hz1, hz2⟩ := info_parts Try.infoMono
  refine callsIn_wide.1 (callsIn_of_wp_marks (n := 0) Try.func54 rfl trivial ?_ rfl)
  refine wpIn_wide.2 ?_
  simp only [Try.ntmps54, List.size_toArray, List.length_cons, List.length_nil, Nat.reduceAdd, Nat.reduceSub, Array.replicate_succ, Array.replicate_zero, List.push_toArray, List.append_toArray, List.nil_append, List.cons_append]
  go_wp2
  rw [← hw0]
  refine range_lawG (gf := 51) (lb := #[.pointer (some ⟨b1, 0, none⟩), .pointer (some ⟨b2, 0, none⟩)]) rfl (enters_of Try.func51 (by kernel_rfl) rfl) HQ.out (fun h => by have := H0.out.1; omega) (fun h => by have := H0.out.1; omega) (fun r args X h => by rw [h.2]; rfl)
    (fun r X => ∃ v, RowF w.heap.size 1 63 (fun _ => v) X ∧ OwnM (w.heap.size + 3) v (nli (l.take r)) X ∧ Below w.heap.size w X) ?stable (fun r args X Y h hg => h) ?start
    (fun args => { tmps := #[.slice none 0 0, .func (.func 51) #[] #[.pointer (some ⟨b1, 0, none⟩), .pointer (some ⟨b2, 0, none⟩)], .pointer (some ⟨w.heap.size, 0, none⟩), undef, .slice none 0 0, args.getD 0 undef, .func (.func 51) #[] #[.pointer (some ⟨b1, 0, none⟩), .pointer (some ⟨b2, 0, none⟩)], args.getD 0 undef, undef, undef, undef, undef, undef], defers := [] })
    ?assign ?body ?done
  case stable =>
    rintro r X Y ⟨v, h1, h2, h3⟩ hg
    refine ⟨v, ?_, h2.same (fun k o hk ho hc => hg.same k (h2.lt k hk).2 (Or.inr fun o' ho' => by rw [ho] at ho'; cases ho'; exact hc)), ?_⟩
    · exact h1.other (hg.same _ h1.lt (Or.inl (by have := H0.out.1; omega)))
    · exact h3.trans ⟨hg.os, hg.tape, hg.output, hg.size, fun i hi => hg.same i (by have := h3.size; omega) (Or.inl (by have := H0.out.1; omega))⟩
  case start => exact ⟨_, H0.out.2.2, OwnM.nil _ _, H0.out.2.1⟩
  case assign =>
    intro lp r args X K he hK
    obtain ⟨_, ha⟩ := he
    obtain ⟨y, hy⟩ : ∃ y, y = l.getD r 0 := ⟨_, rfl⟩
    rw [← hy] at ha
    subst ha
    clear hy
    gi_wp2
    exact hK
  case body =>
    rintro lp r args X hr hX ⟨v, h1, h2, h3⟩ he
    obtain ⟨hrl, ha⟩ := he
    obtain ⟨y, hy⟩ : ∃ y, y = l.getD r 0 := ⟨_, rfl⟩
    rw [← hy] at ha
    subst ha
    have hX' := hX
    rw [H0.out.1] at hX'
    have hc1 : X.cell? ⟨w.heap.size, 0, none⟩ = some v := h1.cell 0 (by omega)
    have HI : Hid (RowF w.heap.size 1 63 (fun _ => v) X ∧ OwnM (w.heap.size + 3) v (nli (l.take r)) X ∧ Below w.heap.size w X ∧ w.heap.size + 3 ≤ X.heap.size ∧ y = l.getD r 0 ∧ r < l.length) := ⟨h1, h2, h3, by omega, hy, hrl⟩
    clear h1 h2 h3 hX hX' hy hrl
    gi_wp2_with (first
      | (gi_at_builtin
         refine wpListIn_append_own _ rfl _ _ 63 rfl (w.heap.size + 3) 60 i0 (.int .i64 0) 1 8 Try.underlying63 hi hz0 hz1 hz2 rfl (by decide) _ _ _ rfl (HI.out.2.1.alloc _) ⟨X.heap.size, 0, none⟩ 1 1 [.int .i64 (y : Nat)] rfl rfl ?hnew (by simp [Value.oneCell']) ?len1 ?len2 ?len3 ?_
         case hnew => intro j u hj; match j, hj with
           | 0, hj => simp at hj; subst hj; simp [Addr.add]
         case len1 => rw [nli_len]; have := HI.out.2.2.2.2.2; simp only [List.length_take]; unfold maxLen; omega
         case len2 => rw [nli_len]; have := HI.out.2.2.2.2.2; simp only [List.length_take]; omega
         case len3 => have := HI.out.2.2.2.1; simp; omega
         intro v' w3 hown' hg3 hnil3
         have hsX := HI.out.2.2.2.1
         have hv3 : RowF w.heap.size 1 63 (fun _ => v) w3 := HI.out.1.other ((hg3.block w.heap.size (by simp; omega) (fun e => by have := (HI.out.2.1.lt _ e.symm).1; omega)).trans (Below.heap_alloc _ _ _ (by omega)))
         have hc3 : w3.cell? ⟨w.heap.size, 0, none⟩ = some v := hv3.cell 0 (by omega)
         have hf3 : w3.frozen? ⟨w.heap.size, 0, none⟩ = false := hv3.free 0
         have ho3 : OwnM (w.heap.size + 3) v' (nli (l.take (r + 1))) w3 := by
           rw [nli_take l r HI.out.2.2.2.2.2, ← HI.out.2.2.2.2.1]
           unfold OwnM
           rw [List.map_append, List.length_append]
           exact hown'
         obtain ⟨g', cap', e', _⟩ := ho3.at (fun e => by rw [nli_take l r HI.out.2.2.2.2.2] at e; simp at e)
         subst e')
      | gi_in)
    have hgr : X.grownBy (X.alloc (.cells #[.int .i64 (y : Nat)] 60)) none := by
      have hb : Below X.heap.size X (X.alloc (.cells #[.int .i64 (y : Nat)] 60)) := (Below.refl _ _).alloc (Nat.le_refl _) _
      exact ⟨hb.os, hb.tape, hb.output, hb.size, fun k hk _ => hb.block k hk⟩
    have hb3 : Below w.heap.size w w3 := (HI.out.2.2.1.grown hgr HI.out.2.2.1.size (fun k hk => by cases hk)).grown hg3 (by simp; omega) (fun k hk => by have := (HI.out.2.1.lt k hk).1; omega)
    have hk3 : KpO (fun k => k = w.heap.size ∨ w.heap.size + 3 ≤ k) X w3 := (KpO.of_grown hgr (fun k hk => by cases hk)).trans (KpO.of_grown hg3 (fun k hk => Or.inr (HI.out.2.1.lt k hk).1))
    refine ⟨hk3.trans (KpO.setCell _ _ _ (Or.inl rfl)), .slice (some ⟨g', 0, none⟩) (nli (l.take (r + 1))).length cap', ?_, ?_, hb3.setCell (Nat.le_refl _) _⟩
    · exact (hv3.store 0 _).congr (fun o ho => by unfold upd; rw [if_pos (by omega)])
    · exact ho3.same (fun k o hk _ _ => Below.heap_setCell _ _ _ _ (fun e => by
        have := (ho3.lt k hk).1
        have e : k = w.heap.size := e
        omega))
  case done =>
    rintro De We hDe ⟨v, h1, h2, h3⟩ hK
    have hcW : We.cell? ⟨w.heap.size, 0, none⟩ = some v := h1.cell 0 (by omega)
    rw [List.take_length] at h2
    have HE : Hid (OwnM w.heap.size v (nli l) (We.putObj De (.deferred none)) ∧ Below w.heap.size w (We.putObj De (.deferred none))) := by
      have := H0.out.1
      refine ⟨(h2.same (fun k o hk ho hc => ?_)).mono (by omega), h3.grown (grownBy_putObj' _ _ _) h3.size (fun k hk => by cases hk; omega)⟩
      refine World.putObj_heap_other (fun e => ?_)
      subst e
      rw [hK] at ho
      cases ho
      cases hc
    obtain ⟨gv, cv, ev⟩ := h2.slc
    subst ev
    go_wp2
    refine ⟨by simp, .inl ⟨_, _, rfl, run_takeDeferred hK, ?_⟩⟩
    refine ⟨.slice gv (nli l).length cv, by simp [results, Try.results54, go_sem], ?_⟩
    exact ⟨_, rfl, HE.out⟩
end Go.Proofs.Ytmklnjkallhphaa
