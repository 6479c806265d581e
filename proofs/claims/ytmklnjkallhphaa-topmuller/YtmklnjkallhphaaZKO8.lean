/- Texts of ours, one behind the other: KO8 S57. -/
import Derived.Test.YtmklnjkallhphaaZKO3
/- Muller: the list of the monomials (slices.Collect). -/
namespace Go.Proofs.Ytmklnjkallhphaa
open Go.RowKit Go.Sort Go.Shelf
attribute [local go_sem] Oper.semAt_some

theorem Try.infoMono : (Try.prog.info? 60).map (fun i => (i.zero, i.size, i.bytes)) = some (some (.int .i64 0), 1, 8) := by kernel_rfl
/-- The slice v of monomials, made behind block number base, holds the numbers l. -/
def OwnM (base : Nat) (v : Value) (l : List Int) (w : World) : Prop := w.ownsRow base 60 1 v l.length (l.map (Value.int .i64))
theorem OwnM.nil (base : Nat) (w : World) : OwnM base (.slice none 0 0) [] w := World.ownsRow_nil _ _ _ _
theorem OwnM.alloc {base : Nat} {v : Value} {l : List Int} {w : World} (h : OwnM base v l w) (o : Obj) : OwnM base v l (w.alloc o) := World.ownsRow.alloc h o
theorem OwnM.lt {base : Nat} {v : Value} {l : List Int} {w : World} (h : OwnM base v l w) : ∀ k, v.ownBlock = some k → base ≤ k ∧ k < w.heap.size := World.ownsRow.lt h
theorem OwnM.same {base : Nat} {v : Value} {l : List Int} {w w' : World} (h : OwnM base v l w) (hs : ∀ k o, v.ownBlock = some k → w.heap[k]? = some o → o.isCells = true → w'.heap[k]? = w.heap[k]?) : OwnM base v l w' := by
  obtain ⟨h1, h2⟩ := h
  refine ⟨h1, ?_⟩
  rcases h2 with h2 | ⟨g, cap, cur, hv, hg, hh, r⟩
  · exact Or.inl h2
  · exact Or.inr ⟨g, cap, cur, hv, hg, by rw [hs g _ (by rw [hv]; rfl) hh rfl]; exact hh, r⟩
theorem OwnM.mono {base base' : Nat} {v : Value} {l : List Int} {w : World} (h : OwnM base v l w) (hb : base' ≤ base) : OwnM base' v l w := by
  obtain ⟨h1, h2⟩ := h
  refine ⟨h1, ?_⟩
  rcases h2 with h2 | ⟨g, cap, cur, hv, hg, r⟩
  · exact Or.inl h2
  · exact Or.inr ⟨g, cap, cur, hv, by omega, r⟩
/-- A list that has monomials: where they lie. -/
theorem OwnM.at {base : Nat} {v : Value} {l : List Int} {w : World} (h : OwnM base v l w) (hl : l ≠ []) : ∃ g cap, v = .slice (some ⟨g, 0, none⟩) l.length cap ∧ (l.length ≤ cap ∧ cap ≤ maxLen) ∧ base ≤ g ∧ g < w.heap.size ∧
    (∀ j, j < l.length → w.cell? ⟨g, j, none⟩ = some (.int .i64 (l.getD j 0))) ∧ (∀ j, w.frozen? ⟨g, j, none⟩ = false) := by
  have h' := h
  rcases h'.2 with ⟨_, h2⟩ | ⟨g, cap, cur, hv, hg, hh, r1, r2, r3⟩
  · exact absurd (List.length_eq_zero_iff.1 h2) hl
  · have h3 : w.ownsRow base 60 1 (.slice (some ⟨g, 0, none⟩) l.length cap) l.length (l.map (Value.int .i64)) := hv ▸ h
    refine ⟨g, cap, hv, ⟨r1, r2⟩, hg, lt_of_block hh, fun j hj => ?_, fun j => h3.frozenAt j⟩
    rw [h3.cellAt j (by omega), List.getElem?_map, List.getElem?_eq_getElem hj, List.getD_eq_getElem?_getD, List.getElem?_eq_getElem hj]; rfl
theorem OwnM.slc {base : Nat} {v : Value} {l : List Int} {w : World} (h : OwnM base v l w) : ∃ ao cap, v = .slice ao l.length cap := by
  rcases h.2 with ⟨h1, h2⟩ | ⟨g, cap, cur, hv, _⟩
  · exact ⟨none, 0, by rw [h1, h2]⟩
  · exact ⟨_, cap, hv⟩
theorem OwnM.below {base : Nat} {v : Value} {l : List Int} {w w' : World} (h : OwnM base v l w) (hb : Below w.heap.size w w') : OwnM base v l w' :=
  h.same (fun k _ hk _ _ => hb.block k (h.lt k hk).2)
theorem KpO.of_grown {own : Nat → Prop} {X Y : World} {row : Option Nat} (hg : X.grownBy Y row) (hr : ∀ k, row = some k → own k) : KpO own X Y :=
  ⟨hg.os, hg.tape, hg.output, hg.size, fun k hk hn => hg.block k hk (fun e => hn (hr k e.symm))⟩
theorem nli_take (l : List Nat) (r : Nat) (hr : r < l.length) : nli (l.take (r + 1)) = nli (l.take r) ++ [((l.getD r 0 : Nat) : Int)] := by
  rw [List.take_succ_eq_append_getElem hr, nli_app]
  simp [nli, List.getD_eq_getElem?_getD, hr]

set_option maxHeartbeats 8000000 in
set_option maxRecDepth 100000 in
theorem appendSeqM_any {b1 b2 r m : Nat} (hm : m ≤ 5) (hr : r ≤ m) {w : World} (hP : BxU b1 b2 r m w) :
    Calls Try.prog 54 #[.slice none 0 0, .func (.func 51) #[] #[.pointer (some ⟨b1, 0, none⟩), .pointer (some ⟨b2, 0, none⟩)]] w fun e w' => ∃ v, e = .returned v ∧ OwnM w.heap.size v (nli (mnl m (r + 1))) w' ∧ Below w.heap.size w w' := by
  obtain ⟨l, hl⟩ : ∃ l, l = mnl m (r + 1) := ⟨_, rfl⟩
  have hlen : l.length ≤ 1000 := by have := mnl_len hm (r + 1); rw [hl]; omega
  obtain ⟨w0, hw0⟩ : ∃ w0, w0 = w.alloc (.cells #[.slice none 0 0] 63) := ⟨_, rfl⟩
  have hs0 : w0.heap.size = w.heap.size + 1 := by rw [hw0]; simp
  have hb0 : Below w.heap.size w w0 := by rw [hw0]; exact (Below.refl _ _).alloc (Nat.le_refl _) _
  have hv0 : RowF w.heap.size 1 63 (fun _ => .slice none 0 0) w0 := ⟨_, by rw [hw0]; exact World.alloc_heap_new w _, rfl, fun o ho => by rw [show o = 0 by omega]; rfl⟩
  have g1 := cell_lt hP.1
  have g2 := cell_lt hP.2
  simp at g1 g2
  have hseq : SeqI Try.prog 51 #[.pointer (some ⟨b1, 0, none⟩), .pointer (some ⟨b2, 0, none⟩)] l.length (MnE l) (fun k => k = w.heap.size ∨ w.heap.size + 3 ≤ k) w0 := by
    rw [hl]
    exact monos_seq hm hr (hP.below hb0) (fun h => by omega) (fun h => by omega)
  have HQ : Hid (SeqI Try.prog 51 #[.pointer (some ⟨b1, 0, none⟩), .pointer (some ⟨b2, 0, none⟩)] l.length (MnE l) (fun k => k = w.heap.size ∨ w.heap.size + 3 ≤ k) w0) := hseq
  have H0 : Hid (w0.heap.size = w.heap.size + 1 ∧ Below w.heap.size w w0 ∧ RowF w.heap.size 1 63 (fun _ => .slice none 0 0) w0) := ⟨hs0, hb0, hv0⟩
  rw [← hl]
  clear hseq hs0 hb0 hv0 hl hP g1 g2
  obtain ⟨i0, hi, hz0, hz1, hz2⟩ := info_parts Try.infoMono
  refine callsIn_wide.1 (callsIn_of_wp_marks (n := 0) Try.func54 rfl trivial ?_ rfl)
  refine wpIn_wide.2 ?_
  simp only [Try.ntmps54, List.size_toArray, List.length_cons, List.length_nil, Nat.reduceAdd, Nat.reduceSub, Array.replicate_succ, Array.replicate_zero, List.push_toArray, List.append_toArray, List.nil_append, List.cons_append]
  go_wp2
  rw [← hw0]
  refine range_lawG (gf := 51) (lb := #[.pointer (some ⟨b1, 0, none⟩), .pointer (some ⟨b2, 0, none⟩)]) rfl (enters_of Try.func51 (by kernel_rfl) rfl) HQ.out (fun h => by have := H0.out.1; omega) (fun h => by have := H0.out.1; omega) (fun r args X h => by rw [h.2]; rfl)
    (fun r X => ∃ v, RowF w.heap.size 1 63 (fun _ => v) X ∧ OwnM (w.heap.size + 3) v (nli (l.take r)) X ∧ Below w.heap.size w X) ?stable (fun r args X Y h hg => h) ?start
    (fun args => { tmps := #[.slice none 0 0, .func (.func 51) #[] #[.pointer (some ⟨b1, 0, none⟩), .pointer (some ⟨b2, 0, none⟩)], .pointer (some ⟨w.heap.size, 0, none⟩), undef, .slice none 0 0, args.getD 0 undef, .func (.func 51) #[] #[.pointer (some ⟨b1, 0, none⟩), .pointer (some ⟨b2, 0, none⟩)], args.getD 0 undef, undef, undef, undef, undef, undef], defers := [] })
    ?assign ?body ?done
  case stable =>
    rintro r X Y ⟨v, h1, h2, h3⟩ hg
    refine ⟨v, ?_, h2.same (fun k o hk ho hc => hg.same k (h2.lt k hk).2 (Or.inr fun o' ho' => by rw [ho] at ho'; cases ho'; exact hc)), ?_⟩
    · exact h1.other (hg.same _ h1.lt (Or.inl (by have := H0.out.1; omega)))
    · exact h3.trans ⟨hg.os, hg.tape, hg.output, hg.size, fun i hi => hg.same i (by have := h3.size; omega) (Or.inl (by have := H0.out.1; omega))⟩
  case start => exact ⟨_, H0.out.2.2, OwnM.nil _ _, H0.out.2.1⟩
  case assign =>
    intro lp r args X K he hK
    obtain ⟨_, ha⟩ := he
    obtain ⟨y, hy⟩ : ∃ y, y = l.getD r 0 := ⟨_, rfl⟩
    rw [← hy] at ha
    subst ha
    clear hy
    gi_wp2
    exact hK
  case body =>
    rintro lp r args X hr hX ⟨v, h1, h2, h3⟩ he
    obtain ⟨hrl, ha⟩ := he
    obtain ⟨y, hy⟩ : ∃ y, y = l.getD r 0 := ⟨_, rfl⟩
    rw [← hy] at ha
    subst ha
    have hX' := hX
    rw [H0.out.1] at hX'
    have hc1 : X.cell? ⟨w.heap.size, 0, none⟩ = some v := h1.cell 0 (by omega)
    have HI : Hid (RowF w.heap.size 1 63 (fun _ => v) X ∧ OwnM (w.heap.size + 3) v (nli (l.take r)) X ∧ Below w.heap.size w X ∧ w.heap.size + 3 ≤ X.heap.size ∧ y = l.getD r 0 ∧ r < l.length) := ⟨h1, h2, h3, by omega, hy, hrl⟩
    clear h1 h2 h3 hX hX' hy hrl
    gi_wp2_with (first
      | (gi_at_builtin
         refine wpListIn_append_own _ rfl _ _ 63 rfl (w.heap.size + 3) 60 i0 (.int .i64 0) 1 8 Try.underlying63 hi hz0 hz1 hz2 rfl (by decide) _ _ _ rfl (HI.out.2.1.alloc _) ⟨X.heap.size, 0, none⟩ 1 1 [.int .i64 (y : Nat)] rfl rfl ?hnew (by simp [Value.oneCell']) ?len1 ?len2 ?len3 ?_
         case hnew => intro j u hj; match j, hj with
           | 0, hj => simp at hj; subst hj; simp [Addr.add]
         case len1 => rw [nli_len]; have := HI.out.2.2.2.2.2; simp only [List.length_take]; unfold maxLen; omega
         case len2 => rw [nli_len]; have := HI.out.2.2.2.2.2; simp only [List.length_take]; omega
         case len3 => have := HI.out.2.2.2.1; simp; omega
         intro v' w3 hown' hg3 hnil3
         have hsX := HI.out.2.2.2.1
         have hv3 : RowF w.heap.size 1 63 (fun _ => v) w3 := HI.out.1.other ((hg3.block w.heap.size (by simp; omega) (fun e => by have := (HI.out.2.1.lt _ e.symm).1; omega)).trans (Below.heap_alloc _ _ _ (by omega)))
         have hc3 : w3.cell? ⟨w.heap.size, 0, none⟩ = some v := hv3.cell 0 (by omega)
         have hf3 : w3.frozen? ⟨w.heap.size, 0, none⟩ = false := hv3.free 0
         have ho3 : OwnM (w.heap.size + 3) v' (nli (l.take (r + 1))) w3 := by
           rw [nli_take l r HI.out.2.2.2.2.2, ← HI.out.2.2.2.2.1]
           unfold OwnM
           rw [List.map_append, List.length_append]
           exact hown'
         obtain ⟨g', cap', e', _⟩ := ho3.at (fun e => by rw [nli_take l r HI.out.2.2.2.2.2] at e; simp at e)
         subst e')
      | gi_in)
    have hgr : X.grownBy (X.alloc (.cells #[.int .i64 (y : Nat)] 60)) none := by
      have hb : Below X.heap.size X (X.alloc (.cells #[.int .i64 (y : Nat)] 60)) := (Below.refl _ _).alloc (Nat.le_refl _) _
      exact ⟨hb.os, hb.tape, hb.output, hb.size, fun k hk _ => hb.block k hk⟩
    have hb3 : Below w.heap.size w w3 := (HI.out.2.2.1.grown hgr HI.out.2.2.1.size (fun k hk => by cases hk)).grown hg3 (by simp; omega) (fun k hk => by have := (HI.out.2.1.lt k hk).1; omega)
    have hk3 : KpO (fun k => k = w.heap.size ∨ w.heap.size + 3 ≤ k) X w3 := (KpO.of_grown hgr (fun k hk => by cases hk)).trans (KpO.of_grown hg3 (fun k hk => Or.inr (HI.out.2.1.lt k hk).1))
    refine ⟨hk3.trans (KpO.setCell _ _ _ (Or.inl rfl)), .slice (some ⟨g', 0, none⟩) (nli (l.take (r + 1))).length cap', ?_, ?_, hb3.setCell (Nat.le_refl _) _⟩
    · exact (hv3.store 0 _).congr (fun o ho => by unfold upd; rw [if_pos (by omega)])
    · exact ho3.same (fun k o hk _ _ => Below.heap_setCell _ _ _ _ (fun e => by
        have := (ho3.lt k hk).1
        have e : k = w.heap.size := e
        omega))
  case done =>
    rintro De We hDe ⟨v, h1, h2, h3⟩ hK
    have hcW : We.cell? ⟨w.heap.size, 0, none⟩ = some v := h1.cell 0 (by omega)
    rw [List.take_length] at h2
    have HE : Hid (OwnM w.heap.size v (nli l) (We.putObj De (.deferred none)) ∧ Below w.heap.size w (We.putObj De (.deferred none))) := by
      have := H0.out.1
      refine ⟨(h2.same (fun k o hk ho hc => ?_)).mono (by omega), h3.grown (grownBy_putObj' _ _ _) h3.size (fun k hk => by cases hk; omega)⟩
      refine World.putObj_heap_other (fun e => ?_)
      subst e
      rw [hK] at ho
      cases ho
      cases hc
    obtain ⟨gv, cv, ev⟩ := h2.slc
    subst ev
    go_wp2
    refine ⟨by simp, .inl ⟨_, _, rfl, run_takeDeferred hK, ?_⟩⟩
    refine ⟨.slice gv (nli l).length cv, by simp [results, Try.results54, go_sem], ?_⟩
    exact ⟨_, rfl, HE.out⟩
end Go.Proofs.Ytmklnjkallhphaa

/- Muller: Reed's majority tells a message's bits, where there are few errors. -/
namespace Go.Proofs.Ytmklnjkallhphaa

/-- Without a monomial's own variables. -/
def rmv (s x : Nat) : Nat := x - (x &&& s)
/-- The sum over a monomial's places beside y, of the first n, less twos. -/
def csm (s y : Nat) (c : Nat → Nat) : Nat → Nat
  | 0 => 0
  | n + 1 => if rmv s n = y then (csm s y c n + c n) % 2 else csm s y c n
/-- A monomial's word. -/
def mof (t x : Nat) : Nat := if mon t x = true then 1 else 0
/-- All below n are so. -/
def alb (p : Nat → Bool) : Nat → Bool
  | 0 => true
  | n + 1 => p n && alb p n
theorem alb_at {p : Nat → Bool} : ∀ {n}, alb p n = true → ∀ i, i < n → p i = true
  | n + 1, h, i, hi => by
    have h' : (p n && alb p n) = true := h
    rw [Bool.and_eq_true] at h'
    by_cases e : i = n
    · rw [e]; exact h'.1
    · exact alb_at h'.2 i (by omega)
/-- The sums of monomials over a monomial's places. -/
def ckm (m : Nat) : Bool := alb (fun s => alb (fun y => y &&& s != 0 || (csm s y (mof s) (2 ^ m) == 1 && alb (fun t => mon s t || csm s y (mof t) (2 ^ m) == 0) (2 ^ m))) (2 ^ m)) (2 ^ m)
theorem ckm1 : ckm 1 = true := by decide +kernel
theorem ckm2 : ckm 2 = true := by decide +kernel
theorem ckm3 : ckm 3 = true := by decide +kernel
theorem ckm4 : ckm 4 = true := by decide +kernel
theorem ckm5 : ckm 5 = true := by decide +kernel
theorem ckm_all {m : Nat} (h1 : 1 ≤ m) (h : m ≤ 5) : ckm m = true := by
  have : m = 1 ∨ m = 2 ∨ m = 3 ∨ m = 4 ∨ m = 5 := by omega
  rcases this with rfl | rfl | rfl | rfl | rfl
  · exact ckm1
  · exact ckm2
  · exact ckm3
  · exact ckm4
  · exact ckm5
theorem csm_self {m s y : Nat} (h1 : 1 ≤ m) (h : m ≤ 5) (hs : s < 2 ^ m) (hy : y < 2 ^ m) (h0 : y &&& s = 0) : csm s y (mof s) (2 ^ m) = 1 := by
  have := alb_at (alb_at (ckm_all h1 h) s hs) y hy
  rw [h0] at this
  simp only [bne_self_eq_false, Bool.false_or, Bool.and_eq_true, beq_iff_eq] at this
  exact this.1
theorem csm_out {m s y t : Nat} (h1 : 1 ≤ m) (h : m ≤ 5) (hs : s < 2 ^ m) (hy : y < 2 ^ m) (ht : t < 2 ^ m) (h0 : y &&& s = 0) (hn : mon s t = false) : csm s y (mof t) (2 ^ m) = 0 := by
  have := alb_at (alb_at (ckm_all h1 h) s hs) y hy
  rw [h0] at this
  simp only [bne_self_eq_false, Bool.false_or, Bool.and_eq_true, beq_iff_eq] at this
  have := alb_at this.2 t ht
  rw [hn] at this
  simpa using this
theorem csm_lt (s y : Nat) {c : Nat → Nat} : ∀ n, csm s y c n < 2
  | 0 => by show 0 < 2; omega
  | n + 1 => by
    have := csm_lt s y (c := c) n
    show (if rmv s n = y then (csm s y c n + c n) % 2 else csm s y c n) < 2
    split <;> omega
theorem csm_add (s y : Nat) {a b c : Nat → Nat} : ∀ n, (∀ x, x < n → c x % 2 = (a x + b x) % 2) → csm s y c n = (csm s y a n + csm s y b n) % 2
  | 0, _ => rfl
  | n + 1, h => by
    have h1 := csm_add s y n (fun x hx => h x (by omega))
    have h2 := h n (by omega)
    show (if rmv s n = y then (csm s y c n + c n) % 2 else csm s y c n) = ((if rmv s n = y then (csm s y a n + a n) % 2 else csm s y a n) + (if rmv s n = y then (csm s y b n + b n) % 2 else csm s y b n)) % 2
    split <;> omega
theorem csm_nil (s y : Nat) : ∀ n, csm s y (fun _ => 0) n = 0
  | 0 => rfl
  | n + 1 => by
    show (if rmv s n = y then (csm s y (fun _ => 0) n + 0) % 2 else csm s y (fun _ => 0) n) = 0
    rw [csm_nil s y n]; split <;> rfl
theorem csm_congr (s y : Nat) {a b : Nat → Nat} : ∀ n, (∀ x, x < n → a x = b x) → csm s y a n = csm s y b n
  | 0, _ => rfl
  | n + 1, h => by
    show (if rmv s n = y then (csm s y a n + a n) % 2 else csm s y a n) = (if rmv s n = y then (csm s y b n + b n) % 2 else csm s y b n)
    rw [csm_congr s y n (fun x hx => h x (by omega)), h n (by omega)]
/-- Monomials in order: a later one lies in no elder one. -/
def MOrd (m : Nat) (l : List Nat) : Prop := (∀ i, i < l.length → l.getD i 0 < 2 ^ m) ∧ ∀ i j, i < j → j < l.length → mon (l.getD j 0) (l.getD i 0) = false
theorem mwv_step (l : List Nat) (g : Nat → Nat) (x i : Nat) : mwv l g x (i + 1) % 2 = (mwv l g x i + if g i = 1 then mof (l.getD i 0) x else 0) % 2 := by
  have := mwv_lt l g x i
  show (if g i = 1 ∧ mon (l.getD i 0) x = true then 1 - mwv l g x i else mwv l g x i) % 2 = _
  unfold mof
  by_cases h1 : g i = 1
  · by_cases h2 : mon (l.getD i 0) x = true
    · rw [if_pos ⟨h1, h2⟩, if_pos h1, if_pos h2]; omega
    · rw [if_neg (fun h => h2 h.2), if_pos h1, if_neg h2]; omega
  · rw [if_neg (fun h => h1 h.1), if_neg h1]; omega
/-- What elder monomials have at the places of a later one comes to nothing. -/
theorem csm_word {m : Nat} (h1 : 1 ≤ m) (h : m ≤ 5) {l : List Nat} (hl : MOrd m l) {y k : Nat} (g : Nat → Nat) (hk : k < l.length) (hy : y < 2 ^ m) (h0 : y &&& l.getD k 0 = 0) : ∀ i, i ≤ k → csm (l.getD k 0) y (fun x => mwv l g x i) (2 ^ m) = 0
  | 0, _ => csm_nil _ _ _
  | i + 1, hi => by
    rw [csm_add _ _ (a := fun x => mwv l g x i) (b := fun x => if g i = 1 then mof (l.getD i 0) x else 0) (2 ^ m) (fun x _ => mwv_step l g x i), csm_word h1 h hl g hk hy h0 i (by omega)]
    by_cases hg : g i = 1
    · have e : csm (l.getD k 0) y (fun x => if g i = 1 then mof (l.getD i 0) x else 0) (2 ^ m) = csm (l.getD k 0) y (mof (l.getD i 0)) (2 ^ m) := csm_congr _ _ _ (fun x _ => if_pos hg)
      rw [e, csm_out h1 h (hl.1 k hk) hy (hl.1 i (by omega)) h0 (hl.2 i k (by omega) hk)]
    · have e : csm (l.getD k 0) y (fun x => if g i = 1 then mof (l.getD i 0) x else 0) (2 ^ m) = csm (l.getD k 0) y (fun _ => 0) (2 ^ m) := csm_congr _ _ _ (fun x _ => if_neg hg)
      rw [e, csm_nil]
theorem csm_top {m : Nat} (h1 : 1 ≤ m) (h : m ≤ 5) {l : List Nat} (hl : MOrd m l) {y k : Nat} (g : Nat → Nat) (hk : k < l.length) (hy : y < 2 ^ m) (h0 : y &&& l.getD k 0 = 0) : csm (l.getD k 0) y (fun x => mwv l g x (k + 1)) (2 ^ m) = if g k = 1 then 1 else 0 := by
  rw [csm_add _ _ (a := fun x => mwv l g x k) (b := fun x => if g k = 1 then mof (l.getD k 0) x else 0) (2 ^ m) (fun x _ => mwv_step l g x k), csm_word h1 h hl g hk hy h0 k (Nat.le_refl _)]
  by_cases hg : g k = 1
  · have e : csm (l.getD k 0) y (fun x => if g k = 1 then mof (l.getD k 0) x else 0) (2 ^ m) = csm (l.getD k 0) y (mof (l.getD k 0)) (2 ^ m) := csm_congr _ _ _ (fun x _ => if_pos hg)
    rw [e, csm_self h1 h (hl.1 k hk) hy h0, if_pos hg]
  · have e : csm (l.getD k 0) y (fun x => if g k = 1 then mof (l.getD k 0) x else 0) (2 ^ m) = csm (l.getD k 0) y (fun _ => 0) (2 ^ m) := csm_congr _ _ _ (fun x _ => if_neg hg)
    rw [e, csm_nil, if_neg hg]
/-- How many of the first n are so. -/
def cnu (p : Nat → Bool) : Nat → Nat
  | 0 => 0
  | n + 1 => cnu p n + if p n = true then 1 else 0
theorem cnu_congr {p q : Nat → Bool} : ∀ n, (∀ x, x < n → p x = q x) → cnu p n = cnu q n
  | 0, _ => rfl
  | n + 1, h => by
    show cnu p n + (if p n = true then 1 else 0) = cnu q n + (if q n = true then 1 else 0)
    rw [cnu_congr n (fun x hx => h x (by omega)), h n (by omega)]
theorem cnu_none {p : Nat → Bool} : ∀ n, (∀ x, x < n → p x = false) → cnu p n = 0
  | 0, _ => rfl
  | n + 1, h => by
    show cnu p n + (if p n = true then 1 else 0) = 0
    rw [cnu_none n (fun x hx => h x (by omega)), h n (by omega)]; rfl
/-- Is it a place of noughts beside s, with odd sum? -/
def yes (s : Nat) (c : Nat → Nat) (P : Nat) (y : Nat) : Bool := decide (y &&& s = 0) && csm s y c P == 1
def nos (s : Nat) (c : Nat → Nat) (P : Nat) (y : Nat) : Bool := decide (y &&& s = 0) && !(csm s y c P == 1)
/-- By majority. -/
def maj (s : Nat) (c : Nat → Nat) (P : Nat) : Bool := decide (cnu (nos s c P) P < cnu (yes s c P) P)
theorem cnu_both (s : Nat) (c : Nat → Nat) (P : Nat) : ∀ n, cnu (yes s c P) n + cnu (nos s c P) n = cnu (fun y => decide (y &&& s = 0)) n
  | 0 => rfl
  | n + 1 => by
    have := cnu_both s c P n
    show cnu (yes s c P) n + (if yes s c P n = true then 1 else 0) + (cnu (nos s c P) n + if nos s c P n = true then 1 else 0) = cnu (fun y => decide (y &&& s = 0)) n + if decide (n &&& s = 0) = true then 1 else 0
    unfold yes nos at *
    cases hd : decide (n &&& s = 0) <;> cases hc : (csm s n c P == 1) <;> simp <;> omega
/-- How many are 1. -/
def wgt (c : Nat → Nat) : Nat → Nat
  | 0 => 0
  | n + 1 => wgt c n + if c n = 1 then 1 else 0
/-- The classes' sums, added up over y below Q. -/
def tot (s : Nat) (c : Nat → Nat) (n : Nat) : Nat → Nat
  | 0 => 0
  | Q + 1 => tot s c n Q + if Q &&& s = 0 then csm s Q c n else 0
theorem tot_step (s : Nat) (c : Nat → Nat) (n : Nat) (hc : c n < 2) : ∀ Q, tot s c (n + 1) Q ≤ tot s c n Q + if rmv s n < Q then c n else 0
  | 0 => by show 0 ≤ _; omega
  | Q + 1 => by
    have h := tot_step s c n hc Q
    show tot s c (n + 1) Q + (if Q &&& s = 0 then (if rmv s n = Q then (csm s Q c n + c n) % 2 else csm s Q c n) else 0) ≤ tot s c n Q + (if Q &&& s = 0 then csm s Q c n else 0) + if rmv s n < Q + 1 then c n else 0
    by_cases h1 : rmv s n = Q
    · rw [if_neg (show ¬ rmv s n < Q by omega)] at h
      rw [if_pos (show rmv s n < Q + 1 by omega), if_pos h1]
      split <;> omega
    · rw [if_neg h1]
      by_cases h2 : rmv s n < Q
      · rw [if_pos h2] at h; rw [if_pos (show rmv s n < Q + 1 by omega)]; omega
      · rw [if_neg h2] at h; rw [if_neg (show ¬ rmv s n < Q + 1 by omega)]; omega
theorem tot_le (s : Nat) (c : Nat → Nat) (Q : Nat) : ∀ n, (∀ x, x < n → c x < 2) → tot s c n Q ≤ wgt c n
  | 0, _ => by
    have : ∀ Q, tot s c 0 Q = 0 := fun Q => by
      induction Q with
      | zero => rfl
      | succ Q ih => show tot s c 0 Q + (if Q &&& s = 0 then 0 else 0) = 0; rw [ih]; split <;> rfl
    rw [this]; exact Nat.zero_le _
  | n + 1, h => by
    have h1 := tot_le s c Q n (fun x hx => h x (by omega))
    have h2 := tot_step s c n (h n (by omega)) Q
    have h3 := h n (by omega)
    show _ ≤ wgt c n + if c n = 1 then 1 else 0
    have : (if rmv s n < Q then c n else 0) ≤ if c n = 1 then 1 else 0 := by
      split <;> split <;> omega
    omega
theorem cnu_tot (s : Nat) (c : Nat → Nat) (P : Nat) : ∀ Q, cnu (yes s c P) Q = tot s c P Q
  | 0 => rfl
  | Q + 1 => by
    show cnu (yes s c P) Q + (if yes s c P Q = true then 1 else 0) = tot s c P Q + if Q &&& s = 0 then csm s Q c P else 0
    rw [cnu_tot s c P Q]
    have := csm_lt s Q (c := c) P
    unfold yes
    by_cases h1 : Q &&& s = 0
    · rw [if_pos h1]
      by_cases h2 : csm s Q c P = 1
      · simp [h1, h2]
      · have h3 : csm s Q c P = 0 := by omega
        simp [h1, h3]
    · rw [if_neg h1]; simp [h1]
/-- Few odd sums where little is wrong. -/
theorem yes_few (s : Nat) (e : Nat → Nat) (P : Nat) (he : ∀ x, x < P → e x < 2) : cnu (yes s e P) P ≤ wgt e P := by
  rw [cnu_tot]; exact tot_le s e P P he
def cfr (m : Nat) : Bool := alb (fun s => cnu (fun y => decide (y &&& s = 0)) (2 ^ m) == 2 ^ (m - pc s)) (2 ^ m)
theorem cfr_all {m : Nat} (h1 : 1 ≤ m) (h : m ≤ 5) : cfr m = true := by
  have : m = 1 ∨ m = 2 ∨ m = 3 ∨ m = 4 ∨ m = 5 := by omega
  rcases this with rfl | rfl | rfl | rfl | rfl <;> decide +kernel
theorem cnu_free {m s : Nat} (h1 : 1 ≤ m) (h : m ≤ 5) (hs : s < 2 ^ m) : cnu (fun y => decide (y &&& s = 0)) (2 ^ m) = 2 ^ (m - pc s) := by
  have := alb_at (cfr_all h1 h) s hs
  simpa using this
/-- The majority tells the coefficient. -/
theorem maj_tells {m : Nat} (h1 : 1 ≤ m) (h : m ≤ 5) {l : List Nat} (hl : MOrd m l) {k : Nat} {c g e : Nat → Nat} (hk : k < l.length) (he : ∀ x, x < 2 ^ m → e x < 2) (hc : ∀ x, x < 2 ^ m → c x % 2 = (mwv l g x (k + 1) + e x) % 2)
    (hw : 2 * wgt e (2 ^ m) < 2 ^ (m - pc (l.getD k 0))) : maj (l.getD k 0) c (2 ^ m) = decide (g k = 1) := by
  have hs := hl.1 k hk
  have hy : ∀ y, y < 2 ^ m → y &&& l.getD k 0 = 0 → csm (l.getD k 0) y c (2 ^ m) = ((if g k = 1 then 1 else 0) + csm (l.getD k 0) y e (2 ^ m)) % 2 := fun y hy h0 => by
    rw [csm_add _ _ (a := fun x => mwv l g x (k + 1)) (b := e) (2 ^ m) hc, csm_top h1 h hl g hk hy h0]
  have hf := yes_few (l.getD k 0) e (2 ^ m) he
  have hb := cnu_both (l.getD k 0) c (2 ^ m) (2 ^ m)
  rw [cnu_free h1 h hs] at hb
  unfold maj
  by_cases hg : g k = 1
  · have e1 : cnu (nos (l.getD k 0) c (2 ^ m)) (2 ^ m) = cnu (yes (l.getD k 0) e (2 ^ m)) (2 ^ m) := cnu_congr _ (fun y hyl => by
      unfold nos yes
      by_cases h0 : y &&& l.getD k 0 = 0
      · have := hy y hyl h0
        rw [if_pos hg] at this
        have h2 := csm_lt (l.getD k 0) y (c := e) (2 ^ m)
        rw [decide_eq_true h0, this]
        have : csm (l.getD k 0) y e (2 ^ m) = 0 ∨ csm (l.getD k 0) y e (2 ^ m) = 1 := by omega
        rcases this with h | h <;> rw [h] <;> rfl
      · rw [decide_eq_false h0]; rfl)
    rw [decide_eq_true hg, decide_eq_true]
    omega
  · have e1 : cnu (yes (l.getD k 0) c (2 ^ m)) (2 ^ m) = cnu (yes (l.getD k 0) e (2 ^ m)) (2 ^ m) := cnu_congr _ (fun y hyl => by
      unfold yes
      by_cases h0 : y &&& l.getD k 0 = 0
      · have := hy y hyl h0
        rw [if_neg hg] at this
        have h2 := csm_lt (l.getD k 0) y (c := e) (2 ^ m)
        rw [decide_eq_true h0, this]
        have : csm (l.getD k 0) y e (2 ^ m) = 0 ∨ csm (l.getD k 0) y e (2 ^ m) = 1 := by omega
        rcases this with h | h <;> rw [h] <;> rfl
      · rw [decide_eq_false h0]; rfl)
    rw [decide_eq_false hg, decide_eq_false]
    omega
/-- What is left of a word, the last j monomials taken away where the majority says so. -/
def mrs (l : List Nat) (P : Nat) (c : Nat → Nat) : Nat → Nat → Nat
  | 0 => c
  | j + 1 => if maj (l.getD (l.length - 1 - j) 0) (mrs l P c j) P = true then mad (l.getD (l.length - 1 - j) 0) (mrs l P c j) P else mrs l P c j
/-- The message's bit. -/
def dbt (l : List Nat) (P : Nat) (c : Nat → Nat) (i : Nat) : Nat := if maj (l.getD i 0) (mrs l P c (l.length - 1 - i)) P = true then 1 else 0
theorem mrs_lt {l : List Nat} {P : Nat} {c : Nat → Nat} (hc : ∀ x, x < P → c x < 2) : ∀ j x, x < P → mrs l P c j x < 2
  | 0, x, hx => hc x hx
  | j + 1, x, hx => by
    have := mrs_lt (l := l) hc j x hx
    show (if maj (l.getD (l.length - 1 - j) 0) (mrs l P c j) P = true then mad (l.getD (l.length - 1 - j) 0) (mrs l P c j) P else mrs l P c j) x < 2
    split
    · unfold mad; split <;> omega
    · exact this
theorem mrs_step {l : List Nat} {P : Nat} {c : Nat → Nat} (hc : ∀ x, x < P → c x < 2) {j x : Nat} (hx : x < P) (hj : j < l.length) : mrs l P c (j + 1) x % 2 = (mrs l P c j x + if dbt l P c (l.length - 1 - j) = 1 then mof (l.getD (l.length - 1 - j) 0) x else 0) % 2 := by
  have h := mrs_lt (l := l) hc j x hx
  have e : l.length - 1 - (l.length - 1 - j) = j := by omega
  show (if maj (l.getD (l.length - 1 - j) 0) (mrs l P c j) P = true then mad (l.getD (l.length - 1 - j) 0) (mrs l P c j) P else mrs l P c j) x % 2 = _
  unfold dbt
  rw [e]
  by_cases hm : maj (l.getD (l.length - 1 - j) 0) (mrs l P c j) P = true
  · rw [if_pos hm, if_pos hm, if_pos rfl]
    unfold mad mof
    by_cases h2 : mon (l.getD (l.length - 1 - j) 0) x = true
    · rw [if_pos ⟨hx, h2⟩, if_pos h2]; omega
    · rw [if_neg (fun h => h2 h.2), if_neg h2]; omega
  · rw [if_neg hm, if_neg hm, if_neg (by omega)]; omega
/-- The sum of the monomials from the i-th on. -/
theorem mwv_congr {l : List Nat} {g g' : Nat → Nat} {x : Nat} : ∀ i, (∀ j, j < i → g j = g' j) → mwv l g x i = mwv l g' x i
  | 0, _ => rfl
  | i + 1, h => by
    show (if g i = 1 ∧ mon (l.getD i 0) x = true then 1 - mwv l g x i else mwv l g x i) = (if g' i = 1 ∧ mon (l.getD i 0) x = true then 1 - mwv l g' x i else mwv l g' x i)
    rw [mwv_congr i (fun j hj => h j (by omega)), h i (by omega)]
/-- Few errors are mended. -/
theorem mrs_mends {m r : Nat} (h1 : 1 ≤ m) (h : m ≤ 5) {l : List Nat} (hl : MOrd m l) (hp : ∀ i, i < l.length → pc (l.getD i 0) ≤ r) (hrm : r ≤ m) {c g e : Nat → Nat} (he : ∀ x, x < 2 ^ m → e x < 2) (hcb : ∀ x, x < 2 ^ m → c x < 2)
    (hc : ∀ x, x < 2 ^ m → c x % 2 = (mwv l g x l.length + e x) % 2) (hw : 2 * wgt e (2 ^ m) < 2 ^ (m - r)) (hg : ∀ i, i < l.length → g i < 2) :
    ∀ j, j ≤ l.length → (∀ x, x < 2 ^ m → mrs l (2 ^ m) c j x % 2 = (mwv l g x (l.length - j) + e x) % 2) ∧ ∀ i, l.length - j ≤ i → i < l.length → dbt l (2 ^ m) c i = g i
  | 0, _ => ⟨fun x hx => by rw [Nat.sub_zero]; exact hc x hx, fun i h1 h2 => by omega⟩
  | j + 1, hj => by
    obtain ⟨ih1, ih2⟩ := mrs_mends h1 h hl hp hrm he hcb hc hw hg j (by omega)
    obtain ⟨k, hk⟩ : ∃ k, k = l.length - 1 - j := ⟨_, rfl⟩
    have hkl : k < l.length := by omega
    have hj1 : l.length - j = k + 1 := by omega
    rw [hj1] at ih1
    have hpk := hp k hkl
    have hpw : 2 ^ (m - r) ≤ 2 ^ (m - pc (l.getD k 0)) := Nat.pow_le_pow_right (by omega) (by omega)
    have hm := maj_tells h1 h hl hkl he ih1 (by omega)
    have hbit : dbt l (2 ^ m) c k = g k := by
      unfold dbt
      rw [show l.length - 1 - k = j by omega, hm]
      have := hg k hkl
      by_cases hg1 : g k = 1
      · rw [decide_eq_true hg1, if_pos rfl, hg1]
      · rw [decide_eq_false hg1, if_neg (by decide)]; omega
    refine ⟨fun x hx => ?_, fun i hi1 hi2 => ?_⟩
    · have a1 := mrs_step (l := l) hcb hx (j := j) (by omega)
      rw [← hk, hbit] at a1
      have a2 := mwv_step l g x k
      have a3 := ih1 x hx
      rw [show l.length - (j + 1) = k by omega]
      have a4 : ∀ v : Nat, v = (if g k = 1 then mof (l.getD k 0) x else 0) → v < 2 := fun v hv => by
        rw [hv]; unfold mof; split
        · split <;> omega
        · omega
      have := a4 _ rfl
      omega
    · by_cases e : i = k
      · rw [e]; exact hbit
      · exact ih2 i (by omega) hi2
/-- The order of the lists. -/
def cor (m : Nat) : Bool := alb (fun j => decide ((mnl m (m + 1)).getD j 0 < 2 ^ m) && alb (fun i => !mon ((mnl m (m + 1)).getD j 0) ((mnl m (m + 1)).getD i 0)) j) (mnl m (m + 1)).length
theorem cor_all {m : Nat} (h1 : 1 ≤ m) (h : m ≤ 5) : cor m = true := by
  have : m = 1 ∨ m = 2 ∨ m = 3 ∨ m = 4 ∨ m = 5 := by omega
  rcases this with rfl | rfl | rfl | rfl | rfl <;> decide +kernel
theorem mnl_pre {m r : Nat} (hr : r ≤ m) : (mnl m (r + 1)).length ≤ (mnl m (m + 1)).length ∧ ∀ i, i < (mnl m (r + 1)).length → (mnl m (m + 1)).getD i 0 = (mnl m (r + 1)).getD i 0 := by
  obtain ⟨t, ht⟩ := pre_mnl m (r + 1) (m - r)
  rw [show r + 1 + (m - r) = m + 1 by omega] at ht
  rw [ht]
  refine ⟨by rw [List.length_append]; omega, fun i hi => ?_⟩
  rw [List.getD_eq_getElem?_getD, List.getD_eq_getElem?_getD, List.getElem?_append_left hi]
theorem mnl_ord {m r : Nat} (h1 : 1 ≤ m) (h : m ≤ 5) (hr : r ≤ m) : MOrd m (mnl m (r + 1)) := by
  obtain ⟨hlen, hpre⟩ := mnl_pre hr
  have hc := alb_at (cor_all h1 h)
  refine ⟨fun i hi => ?_, fun i j hij hj => ?_⟩
  · have := hc i (by omega)
    rw [Bool.and_eq_true, decide_eq_true_iff, hpre i hi] at this
    exact this.1
  · have := hc j (by omega)
    rw [Bool.and_eq_true] at this
    have := alb_at this.2 i hij
    rw [hpre i (by omega), hpre j hj] at this
    simpa using this
theorem mrw_pc (j : Nat) : ∀ c s, s ∈ mrw j c → pc s = j
  | 0, s, h => by cases h
  | c + 1, s, h => by
    have h' : s ∈ mrw j c ++ (if pc c = j then [c] else []) := h
    rw [List.mem_append] at h'
    rcases h' with e | e
    · exact mrw_pc j c s e
    · split at e
      · rename_i hp; rw [List.mem_singleton] at e; rw [e]; exact hp
      · cases e
theorem mnl_pc (m : Nat) : ∀ j s, s ∈ mnl m j → pc s < j
  | 0, s, h => by cases h
  | j + 1, s, h => by
    have h' : s ∈ mnl m j ++ mrw j (2 ^ m) := h
    rw [List.mem_append] at h'
    rcases h' with e | e
    · have := mnl_pc m j s e; omega
    · have := mrw_pc j _ s e; omega
theorem mnl_few {m r i : Nat} (hi : i < (mnl m (r + 1)).length) : pc ((mnl m (r + 1)).getD i 0) ≤ r := by
  have : (mnl m (r + 1)).getD i 0 ∈ mnl m (r + 1) := by
    rw [List.getD_eq_getElem?_getD, List.getElem?_eq_getElem hi]
    exact List.getElem_mem hi
  have := mnl_pc m (r + 1) _ this
  omega
/-- Whole: a word with few errors is mended. -/
theorem muller_mends {m r : Nat} (h1 : 1 ≤ m) (h : m ≤ 5) (hr : r ≤ m) {c g e : Nat → Nat} (he : ∀ x, x < 2 ^ m → e x < 2) (hcb : ∀ x, x < 2 ^ m → c x < 2)
    (hc : ∀ x, x < 2 ^ m → c x % 2 = (mwv (mnl m (r + 1)) g x (mnl m (r + 1)).length + e x) % 2) (hw : 2 * wgt e (2 ^ m) < 2 ^ (m - r)) (hg : ∀ i, i < (mnl m (r + 1)).length → g i < 2) :
    (∀ x, x < 2 ^ m → mrs (mnl m (r + 1)) (2 ^ m) c (mnl m (r + 1)).length x = e x) ∧ ∀ i, i < (mnl m (r + 1)).length → dbt (mnl m (r + 1)) (2 ^ m) c i = g i := by
  obtain ⟨a1, a2⟩ := mrs_mends h1 h (mnl_ord h1 h hr) (fun i hi => mnl_few hi) hr he hcb hc hw hg (mnl m (r + 1)).length (Nat.le_refl _)
  refine ⟨fun x hx => ?_, fun i hi => a2 i (by omega) hi⟩
  have b1 := a1 x hx
  have b2 := mrs_lt (l := mnl m (r + 1)) hcb (mnl m (r + 1)).length x hx
  have b3 := he x hx
  rw [Nat.sub_self] at b1
  have : mwv (mnl m (r + 1)) g x 0 = 0 := rfl
  omega
end Go.Proofs.Ytmklnjkallhphaa
