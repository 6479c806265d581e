/- Muller: the list of the monomials (slices.Collect). -/
import Derived.Test.YtmklnjkallhphaaZKO5
namespace Go.Proofs.Ytmklnjkallhphaa
open Go.RowKit Go.Sort Go.Shelf
attribute [local go_sem] Oper.semAt_some

theorem Try.infoMono : (Try.prog.info? 60).map (fun i => (i.zero, i.size, i.bytes)) = some (some (.int .i64 0), 1, 8) := by kernel_rfl
/-- The slice v of monomials, made behind block number base, holds the numbers l. -/
def OwnM (base : Nat) (v : Value) (l : List Int) (w : World) : Prop := w.ownsRow base 60 1 v l.length (l.map (Value.int .i64))
theorem OwnM.nil (base : Nat) (w : World) : OwnM base (.slice none 0 0) [] w := World.ownsRow_nil _ _ _ _
theorem OwnM.alloc {base : Nat} {v : Value} {l : List Int} {w : World} (h : OwnM base v l w) (o : Obj) : OwnM base v l (w.alloc o) := World.ownsRow.alloc h o
theorem OwnM.lt {base : Nat} {v : Value} {l : List Int} {w : World} (h : OwnM base v l w) : ∀ k, v.ownBlock = some k → base ≤ k ∧ k < w.heap.size := World.ownsRow.lt h
theorem OwnM.same {base : Nat} {v : Value} {l : List Int} {w w' : World} (h : OwnM base v l w) (hs : ∀ k o, v.ownBlock = some k → w.heap[k]? = some o → o.isCells = true → w'.heap[k]? = w.heap[k]?) : OwnM base v l w' := by
  obtain ⟨h1, h2⟩ := h
  refine ⟨h1, ?_⟩
  rcases h2 with h2 | ⟨g, cap, cur, hv, hg, hh, r⟩
  · exact Or.inl h2
  · exact Or.inr ⟨g, cap, cur, hv, hg, by rw [hs g _ (by rw [hv]; rfl) hh rfl]; exact hh, r⟩
theorem OwnM.mono {base base' : Nat} {v : Value} {l : List Int} {w : World} (h : OwnM base v l w) (hb : base' ≤ base) : OwnM base' v l w := by
  obtain ⟨h1, h2⟩ := h
  refine ⟨h1, ?_⟩
  rcases h2 with h2 | ⟨g, cap, cur, hv, hg, r⟩
  · exact Or.inl h2
  · exact Or.inr ⟨g, cap, cur, hv, by omega, r⟩
/-- A list that has monomials: where they lie. -/
theorem OwnM.at {base : Nat} {v : Value} {l : List Int} {w : World} (h : OwnM base v l w) (hl : l ≠ []) : ∃ g cap, v = .slice (some ⟨g, 0, none⟩) l.length cap ∧ (l.length ≤ cap ∧ cap ≤ maxLen) ∧ base ≤ g ∧ g < w.heap.size ∧
    (∀ j, j < l.length → w.cell? ⟨g, j, none⟩ = some (.int .i64 (l.getD j 0))) ∧ (∀ j, w.frozen? ⟨g, j, none⟩ = false) := by
  have h' := h
  rcases h'.2 with ⟨_, h2⟩ | ⟨g, cap, cur, hv, hg, hh, r1, r2, r3⟩
  · exact absurd (List.length_eq_zero_iff.1 h2) hl
  · have h3 : w.ownsRow base 60 1 (.slice (some ⟨g, 0, none⟩) l.length cap) l.length (l.map (Value.int .i64)) := hv ▸ h
    refine ⟨g, cap, hv, ⟨r1, r2⟩, hg, lt_of_block hh, fun j hj => ?_, fun j => h3.frozenAt j⟩
    rw [h3.cellAt j (by omega), List.getElem?_map, List.getElem?_eq_getElem hj, List.getD_eq_getElem?_getD, List.getElem?_eq_getElem hj]; rfl
theorem OwnM.slc {base : Nat} {v : Value} {l : List Int} {w : World} (h : OwnM base v l w) : ∃ ao cap, v = .slice ao l.length cap := by
  rcases h.2 with ⟨h1, h2⟩ | ⟨g, cap, cur, hv, _⟩
  · exact ⟨none, 0, by rw [h1, h2]⟩
  · exact ⟨_, cap, hv⟩
theorem OwnM.below {base : Nat} {v : Value} {l : List Int} {w w' : World} (h : OwnM base v l w) (hb : Below w.heap.size w w') : OwnM base v l w' :=
  h.same (fun k _ hk _ _ => hb.block k (h.lt k hk).2)
theorem KpO.of_grown {own : Nat → Prop} {X Y : World} {row : Option Nat} (hg : X.grownBy Y row) (hr : ∀ k, row = some k → own k) : KpO own X Y :=
  ⟨hg.os, hg.tape, hg.output, hg.size, fun k hk hn => hg.block k hk (fun e => hn (hr k e.symm))⟩
theorem nli_take (l : List Nat) (r : Nat) (hr : r < l.length) : nli (l.take (r + 1)) = nli (l.take r) ++ [((l.getD r 0 : Nat) : Int)] := by
  rw [List.take_succ_eq_append_getElem hr, nli_app]
  simp [nli, List.getD_eq_getElem?_getD, hr]

set_option maxHeartbeats 8000000 in
set_option maxRecDepth 100000 in
theorem appendSeqM_any {b1 b2 r m : Nat} (hm : m ≤ 5) (hr : r ≤ m) {w : World} (hP : BxU b1 b2 r m w) :
    Calls Try.prog 54 #[.slice none 0 0, .func (.func 51) #[] #[.pointer (some ⟨b1, 0, none⟩), .pointer (some ⟨b2, 0, none⟩)]] w fun e w' => ∃ v, e = .returned v ∧ OwnM w.heap.size v (nli (mnl m (r + 1))) w' ∧ Below w.heap.size w w' := by
  obtain ⟨l, hl⟩ : ∃ l, l = mnl m (r + 1) := ⟨_, rfl⟩
  have hlen : l.length ≤ 1000 := by have := mnl_len hm (r + 1); rw [hl]; omega
  obtain ⟨w0, hw0⟩ : ∃ w0, w0 = w.alloc (.cells #[.slice none 0 0] 63) := ⟨_, rfl⟩
  have hs0 : w0.heap.size = w.heap.size + 1 := by rw [hw0]; simp
  have hb0 : Below w.heap.size w w0 := by rw [hw0]; exact (Below.refl _ _).alloc (Nat.le_refl _) _
  have hv0 : RowF w.heap.size 1 63 (fun _ => .slice none 0 0) w0 := ⟨_, by rw [hw0]; exact World.alloc_heap_new w _, rfl, fun o ho => by rw [show o = 0 by omega]; rfl⟩
  have g1 := cell_lt hP.1
  have g2 := cell_lt hP.2
  simp at g1 g2
  have hseq : SeqI Try.prog 51 #[.pointer (some ⟨b1, 0, none⟩), .pointer (some ⟨b2, 0, none⟩)] l.length (MnE l) (fun k => k = w.heap.size ∨ w.heap.size + 3 ≤ k) w0 := by
    rw [hl]
    exact monos_seq hm hr (hP.below hb0) (fun h => by omega) (fun h => by omega)
  have HQ : Hid (SeqI Try.prog 51 #[.pointer (some ⟨b1, 0, none⟩), .pointer (some ⟨b2, 0, none⟩)] l.length (MnE l) (fun k => k = w.heap.size ∨ w.heap.size + 3 ≤ k) w0) := hseq
  have H0 : Hid (w0.heap.size = w.heap.size + 1 ∧ Below w.heap.size w w0 ∧ RowF w.heap.size 1 63 (fun _ => .slice none 0 0) w0) := ⟨hs0, hb0, hv0⟩
  rw [← hl]
  clear hseq hs0 hb0 hv0 hl hP g1 g2
  obtain ⟨i0, hi, hz0, hz1, hz2⟩ := info_parts Try.infoMono
  refine callsIn_wide.1 (callsIn_of_wp_marks (n := 0) Try.func54 rfl trivial ?_ rfl)
  refine wpIn_wide.2 ?_
  simp only [Try.ntmps54, List.size_toArray, List.length_cons, List.length_nil, Nat.reduceAdd, Nat.reduceSub, Array.replicate_succ, Array.replicate_zero, List.push_toArray, List.append_toArray, List.nil_append, List.cons_append]
  go_wp2
  rw [← hw0]
  refine range_lawG (gf := 51) (lb := #[.pointer (some ⟨b1, 0, none⟩), .pointer (some ⟨b2, 0, none⟩)]) rfl (enters_of Try.func51 (by kernel_rfl) rfl) HQ.out (fun h => by have := H0.out.1; omega) (fun h => by have := H0.out.1; omega) (fun r args X h => by rw [h.2]; rfl)
    (fun r X => ∃ v, RowF w.heap.size 1 63 (fun _ => v) X ∧ OwnM (w.heap.size + 3) v (nli (l.take r)) X ∧ Below w.heap.size w X) ?stable (fun r args X Y h hg => h) ?start
    (fun args => { tmps := #[.slice none 0 0, .func (.func 51) #[] #[.pointer (some ⟨b1, 0, none⟩), .pointer (some ⟨b2, 0, none⟩)], .pointer (some ⟨w.heap.size, 0, none⟩), undef, .slice none 0 0, args.getD 0 undef, .func (.func 51) #[] #[.pointer (some ⟨b1, 0, none⟩), .pointer (some ⟨b2, 0, none⟩)], args.getD 0 undef, undef, undef, undef, undef, undef], defers := [] })
    ?assign ?body ?done
  case stable =>
    rintro r X Y ⟨v, h1, h2, h3⟩ hg
    refine ⟨v, ?_, h2.same (fun k o hk ho hc => hg.same k (h2.lt k hk).2 (Or.inr fun o' ho' => by rw [ho] at ho'; cases ho'; exact hc)), ?_⟩
    · exact h1.other (hg.same _ h1.lt (Or.inl (by have := H0.out.1; omega)))
    · exact h3.trans ⟨hg.os, hg.tape, hg.output, hg.size, fun i hi => hg.same i (by have := h3.size; omega) (Or.inl (by have := H0.out.1; omega))⟩
  case start => exact ⟨_, H0.out.2.2, OwnM.nil _ _, H0.out.2.1⟩
  case assign =>
    intro lp r args X K he hK
    obtain ⟨_, ha⟩ := he
    obtain ⟨y, hy⟩ : ∃ y, y = l.getD r 0 := ⟨_, rfl⟩
    rw [← hy] at ha
    subst ha
    clear hy
    gi_wp2
    exact hK
  case body =>
    rintro lp r args X hr hX ⟨v, h1, h2, h3⟩ he
    obtain ⟨hrl, ha⟩ := he
    obtain ⟨y, hy⟩ : ∃ y, y = l.getD r 0 := ⟨_, rfl⟩
    rw [← hy] at ha
    subst ha
    have hX' := hX
    rw [H0.out.1] at hX'
    have hc1 : X.cell? ⟨w.heap.size, 0, none⟩ = some v := h1.cell 0 (by omega)
    have HI : Hid (RowF w.heap.size 1 63 (fun _ => v) X ∧ OwnM (w.heap.size + 3) v (nli (l.take r)) X ∧ Below w.heap.size w X ∧ w.heap.size + 3 ≤ X.heap.size ∧ y = l.getD r 0 ∧ r < l.length) := ⟨h1, h2, h3, by omega, hy, hrl⟩
    clear h1 h2 h3 hX hX' hy hrl
    gi_wp2_with (first
      | (gi_at_builtin
         refine wpListIn_append_own _ rfl _ _ 63 rfl (w.heap.size + 3) 60 i0 (.int .i64 0) 1 8 Try.underlying63 hi hz0 hz1 hz2 rfl (by decide) _ _ _ rfl (HI.out.2.1.alloc _) ⟨X.heap.size, 0, none⟩ 1 1 [.int .i64 (y : Nat)] rfl rfl ?hnew (by simp [Value.oneCell']) ?len1 ?len2 ?len3 ?_
         case hnew => intro j u hj; match j, hj with
           | 0, hj => simp at hj; subst hj; simp [Addr.add]
         case len1 => rw [nli_len]; have := HI.out.2.2.2.2.2; simp only [List.length_take]; unfold maxLen; omega
         case len2 => rw [nli_len]; have := HI.out.2.2.2.2.2; simp only [List.length_take]; omega
         case len3 => have := HI.out.2.2.2.1; simp; omega
         intro v' w3 hown' hg3 hnil3
         have hsX := HI.out.2.2.2.1
         have hv3 : RowF w.heap.size 1 63 (fun _ => v) w3 := HI.out.1.other ((hg3.block w.heap.size (by simp; omega) (fun e => by have := (HI.out.2.1.lt _ e.symm).1; omega)).trans (Below.heap_alloc _ _ _ (by omega)))
         have hc3 : w3.cell? ⟨w.heap.size, 0, none⟩ = some v := hv3.cell 0 (by omega)
         have hf3 : w3.frozen? ⟨w.heap.size, 0, none⟩ = false := hv3.free 0
         have ho3 : OwnM (w.heap.size + 3) v' (nli (l.take (r + 1))) w3 := by
           rw [nli_take l r HI.out.2.2.2.2.2, ← HI.out.2.2.2.2.1]
           unfold OwnM
           rw [List.map_append, List.length_append]
           exact hown'
         obtain ⟨g', cap', e', _⟩ := ho3.at (fun e => by rw [nli_take l r HI.out.2.2.2.2.2] at e; simp at e)
         subst e')
      | gi_in)
    have hgr : X.grownBy (X.alloc (.cells #[.int .i64 (y : Nat)] 60)) none := by
      have hb : Below X.heap.size X (X.alloc (.cells #[.int .i64 (y : Nat)] 60)) := (Below.refl _ _).alloc (Nat.le_refl _) _
      exact ⟨hb.os, hb.tape, hb.output, hb.size, fun k hk _ => hb.block k hk⟩
    have hb3 : Below w.heap.size w w3 := (HI.out.2.2.1.grown hgr HI.out.2.2.1.size (fun k hk => by cases hk)).grown hg3 (by simp; omega) (fun k hk => by have := (HI.out.2.1.lt k hk).1; omega)
    have hk3 : KpO (fun k => k = w.heap.size ∨ w.heap.size + 3 ≤ k) X w3 := (KpO.of_grown hgr (fun k hk => by cases hk)).trans (KpO.of_grown hg3 (fun k hk => Or.inr (HI.out.2.1.lt k hk).1))
    refine ⟨hk3.trans (KpO.setCell _ _ _ (Or.inl rfl)), .slice (some ⟨g', 0, none⟩) (nli (l.take (r + 1))).length cap', ?_, ?_, hb3.setCell (Nat.le_refl _) _⟩
    · exact (hv3.store 0 _).congr (fun o ho => by unfold upd; rw [if_pos (by omega)])
    · exact ho3.same (fun k o hk _ _ => Below.heap_setCell _ _ _ _ (fun e => by
        have := (ho3.lt k hk).1
        have e : k = w.heap.size := e
        omega))
  case done =>
    rintro De We hDe ⟨v, h1, h2, h3⟩ hK
    have hcW : We.cell? ⟨w.heap.size, 0, none⟩ = some v := h1.cell 0 (by omega)
    rw [List.take_length] at h2
    have HE : Hid (OwnM w.heap.size v (nli l) (We.putObj De (.deferred none)) ∧ Below w.heap.size w (We.putObj De (.deferred none))) := by
      have := H0.out.1
      refine ⟨(h2.same (fun k o hk ho hc => ?_)).mono (by omega), h3.grown (grownBy_putObj' _ _ _) h3.size (fun k hk => by cases hk; omega)⟩
      refine World.putObj_heap_other (fun e => ?_)
      subst e
      rw [hK] at ho
      cases ho
      cases hc
    obtain ⟨gv, cv, ev⟩ := h2.slc
    subst ev
    go_wp2
    refine ⟨by simp, .inl ⟨_, _, rfl, run_takeDeferred hK, ?_⟩⟩
    refine ⟨.slice gv (nli l).length cv, by simp [results, Try.results54, go_sem], ?_⟩
    exact ⟨_, rfl, HE.out⟩
end Go.Proofs.Ytmklnjkallhphaa
