/- Texts of ours, one behind the other: KO15 KO16 W21. -/
import Derived.Test.YtmklnjkallhphaaZKO9
import Derived.Test.YtmklnjkallhphaaZKO11
import Derived.Test.YtmklnjkallhphaaZI21
import Derived.Test.YtmklnjkallhphaaZKE21
import Derived.Test.YtmklnjkallhphaaZKA6
/- Muller: the monomials from the last to the first (slices.Backward). -/
namespace Go.Proofs.Ytmklnjkallhphaa
open Go.RowKit Go.Shelf Go.Sort
attribute [local go_sem] Oper.semAt_some

/-- The r-th monomial from the end, with its number. -/
def MnB (l : List Nat) (r : Nat) (args : Array Value) (_ : World) : Prop := r < l.length ∧ args = #[.int .i64 ((l.length - 1 - r : Nat) : Int), .int .i64 (l.getD (l.length - 1 - r) 0 : Nat)]
/-- The list that is gone through, in its box. -/
def BkU (bs gM cM : Nat) (l : List Nat) (w : World) : Prop := w.cell? ⟨bs, 0, none⟩ = some (.slice (some ⟨gM, 0, none⟩) l.length cM) ∧ ∀ j, j < l.length → w.cell? ⟨gM, j, none⟩ = some (.int .i64 (l.getD j 0 : Nat))
theorem cell_kpo {own : Nat → Prop} {X Y : World} {b o : Nat} {v : Value} (h : X.cell? ⟨b, o, none⟩ = some v) (hk : KpO own X Y) (hn : ¬ own b) : Y.cell? ⟨b, o, none⟩ = some v := by
  have e := hk.same b (cell_lt h) hn
  unfold World.cell? at *
  rw [e]; exact h
theorem BkU.kpo {bs gM cM : Nat} {l : List Nat} {own : Nat → Prop} {X Y : World} (h : BkU bs gM cM l X) (hk : KpO own X Y) (h1 : ¬ own bs) (h2 : ¬ own gM) : BkU bs gM cM l Y :=
  ⟨cell_kpo h.1 hk h1, fun j hj => cell_kpo (h.2 j hj) hk h2⟩
theorem BkU.below {bs gM cM : Nat} {l : List Nat} {X Y : World} (h : BkU bs gM cM l X) (hb : Below X.heap.size X Y) : BkU bs gM cM l Y :=
  h.kpo (own := fun _ => False) (KpO.of_below hb) (fun h => h) (fun h => h)

set_option maxHeartbeats 8000000 in
set_option maxRecDepth 100000 in
theorem back_seq {bs gM cM : Nat} {l : List Nat} (hl : l.length ≤ 1000) (hl0 : 0 < l.length) {own : Nat → Prop} {w : World} (hP : BkU bs gM cM l w) (h1 : ¬ own bs) (h2 : ¬ own gM) :
    SeqI Try.prog 57 #[.pointer (some ⟨bs, 0, none⟩)] l.length (MnB l) own w := by
  intro lp J W hbW hlp hlW hJ hY hJ0
  have HB : Hid (¬ (own bs ∨ bs = lp) ∧ ¬ (own gM ∨ gM = lp)) := by
    have g1 := cell_lt hP.1
    have g2 := cell_lt (hP.2 0 hl0)
    simp only at g1 g2
    exact ⟨fun h => by rcases h with h | h; exact h1 h; omega, fun h => by rcases h with h | h; exact h2 h; omega⟩
  obtain ⟨K, hK⟩ : ∃ K, K = l.length := ⟨_, rfl⟩
  have HY : Hid (∀ r' args X, r' < K → J r' X → MnB l r' args X → YieldAt Fence.wide 0 Try.prog lp args X fun e Y => e = .returned (.bool true) ∧ J (r' + 1) Y ∧ KpO (fun k => own k ∨ k = lp) X Y) := by rw [hK]; exact hY
  have H0 : Hid (J 0 W ∧ BkU bs gM cM l W) := ⟨hJ0, hP.below hbW⟩
  have HK : Hid (K = l.length) := hK
  have c1 := H0.out.2.1
  rw [← hK] at c1 ⊢
  have hKb : 0 < K ∧ K ≤ 1000 := by omega
  clear hY hJ hJ0 hbW hP hK hl hl0
  refine callsIn_of_wp Try.func57 rfl trivial ?_ rfl
  simp only [Try.ntmps57, List.size_toArray, List.length_cons, List.length_nil, Nat.reduceAdd, Nat.reduceSub, Array.replicate_succ, Array.replicate_zero, List.push_toArray, List.append_toArray, List.nil_append, List.cons_append]
  obtain ⟨K1, hK1⟩ : ∃ K1, K = K1 + 1 := ⟨K - 1, by omega⟩
  have hsb : (K : Int) - 1 = ((K1 : Nat) : Int) := by omega
  gi_wp2
  gi_loopw [3] (fun vi wr => ∃ j : Nat, j ≤ K ∧ vi = .int .i64 ((j : Int) - 1) ∧ Hid (J (K - j) wr ∧ BkU bs gM cM l wr)) (fun vi _ => (intOf vi + 1).toNat)
  case atStart => exact ⟨K, Nat.le_refl _, by rw [hsb], by rw [Nat.sub_self]; exact H0.out.1, H0.out.2⟩
  case round =>
    obtain ⟨j, hj, hv, HG⟩ := hrel
    rename World => wr
    clear c1
    have c1 := HG.out.2.1
    rw [← HK.out] at c1
    cases j with
    | zero =>
      have hv' : u3 = .int .i64 (-1) := by rw [hv]; rfl
      clear hv
      subst hv'
      have HZ : Hid (J K wr) := HG.out.1
      gi_wp2
      exact bodyPost_end (results_none rfl _ _ _) rfl ⟨⟨_, rfl⟩, HZ.out⟩
    | succ t =>
      have hv' : u3 = .int .i64 (t : Int) := by rw [hv]; go_num
      clear hv
      subst hv'
      have hti : (0 : Int) ≤ (t : Int) := by omega
      have htk : (t : Int) < (K : Int) := by omega
      have hc := HG.out.2.2 t (by have := HK.out; omega)
      obtain ⟨y, hy⟩ : ∃ y, y = l.getD t 0 := ⟨_, rfl⟩
      rw [← hy] at hc
      have hYl := HY.out (K - (t + 1)) #[.int .i64 ((t : Nat) : Int), .int .i64 (y : Nat)] wr (by omega) HG.out.1 ⟨by have := HK.out; omega, by
        have e : l.length - 1 - (K - (t + 1)) = t := by have := HK.out; omega
        rw [e, hy]⟩
      obtain ⟨fn, tmps, assign, body, hyy, hR⟩ := hYl
      clear hy
      gi_wp2
      refine ⟨rfl, hR.mono ?_⟩
      rintro e Y ⟨rfl, hS, hk⟩
      have HQ2 : Hid (J (K - t) Y ∧ BkU bs gM cM l Y) := by
        refine ⟨?_, HG.out.2.kpo hk HB.out.1 HB.out.2⟩
        rw [show K - t = K - (t + 1) + 1 by omega]
        exact hS
      clear hR hyy hS hk
      gi_wp2
      exact ⟨⟨t, by omega, by go_num, HQ2⟩, by simp [intOf]; try omega⟩
set_option maxHeartbeats 2000000 in
theorem back_any (v : Value) (w : World) (hv : ∃ a n c, v = .slice a n c) :
    Calls Try.prog 39 #[v] w fun e w' => e = .returned (.func (.func 57) #[] #[.pointer (some ⟨w.heap.size, 0, none⟩)]) ∧ w' = w.alloc (.cells #[v] 63) := by
  obtain ⟨a, n, c, rfl⟩ := hv
  go_enter Try.func39, Try.ntmps39
  go_wp2
  go_ret
  exact ⟨rfl, rfl⟩
end Go.Proofs.Ytmklnjkallhphaa

/- Muller: Decode (the program): what it refuses. -/
namespace Go.Proofs.Ytmklnjkallhphaa
open Go.RowKit Go.Sort Go.Shelf
attribute [local go_sem] Oper.semAt_some

/-- A variable of one list. -/
def BL (b : Nat) (v : Value) (w : World) : Prop := RowF b 1 22 (fun _ => v) w
theorem BL.new (v : Value) (w : World) : BL w.heap.size v (w.alloc (.cells #[v] 22)) := ⟨_, World.alloc_heap_new w _, rfl, fun o ho => by rw [show o = 0 by omega]; rfl⟩
theorem BL.put {b : Nat} {v : Value} {w : World} (h : BL b v w) (u : Value) : BL b u (w.setCell ⟨b, 0, none⟩ u) := (RowF.store h 0 u).congr (fun o ho => by unfold upd; rw [if_pos (by omega)])
theorem BL.keep {b : Nat} {v : Value} {w w' : World} (h : BL b v w) (hb : Below w.heap.size w w') : BL b v w' := RowF.below h hb (RowF.lt h)

end Go.Proofs.Ytmklnjkallhphaa

/- A region that draws its order: one of three operations may come now. No Go text here. -/
namespace Go.Proofs.Ytmklnjkallhphaa
open Go

theorem wpAnyL_at {P : Program} {ops : Array Oper} {Q : Exit → Act → World → Prop} {S : World → Prop} {L : List Nat} {j : Nat} {o : Oper} {f : Nat} {s : Array Bool} {a : Act} {w : World} (ho : ops[j]? = some o)
    (h : ∀ K : Act → World → Prop, (∀ a' w', (j ∉ L → S w') → wpAnyL P ops Q S L f (s.setIfInBounds j true) a' w' → K a' w') → if Region.wanted o (yielded ops a.tmps) = true then Oper.wp P o a w K Q else K (a.put o.dst undef) w) :
    wpOp P ops Q j (fun a' w' => (j ∉ L → S w') ∧ wpAnyL P ops Q S L f (s.setIfInBounds j true) a' w') a w := by
  have h1 := h (fun a' w' => (j ∉ L → S w') ∧ wpAnyL P ops Q S L f (s.setIfInBounds j true) a' w') (fun a' w' h1 h2 => ⟨h1, h2⟩)
  unfold wpOp
  simp only [ho]
  split
  · rename_i hw
    rw [if_pos hw] at h1
    exact Or.inl h1
  · rename_i hw
    rw [if_neg hw] at h1
    exact h1
theorem wpAnyL_three {P : Program} {ops : Array Oper} {Q : Exit → Act → World → Prop} {S : World → Prop} {L : List Nat} {i k m : Nat} {o o' o2 : Oper} {f : Nat} {s : Array Bool} {a : Act} {w : World} (hr : Region.ready .any ops s = [i, k, m]) (ho : ops[i]? = some o) (ho' : ops[k]? = some o') (ho2 : ops[m]? = some o2)
    (h : ∀ K : Act → World → Prop, (∀ a' w', (i ∉ L → S w') → wpAnyL P ops Q S L f (s.setIfInBounds i true) a' w' → K a' w') → if Region.wanted o (yielded ops a.tmps) = true then Oper.wp P o a w K Q else K (a.put o.dst undef) w)
    (h' : ∀ K : Act → World → Prop, (∀ a' w', (k ∉ L → S w') → wpAnyL P ops Q S L f (s.setIfInBounds k true) a' w' → K a' w') → if Region.wanted o' (yielded ops a.tmps) = true then Oper.wp P o' a w K Q else K (a.put o'.dst undef) w)
    (h2 : ∀ K : Act → World → Prop, (∀ a' w', (m ∉ L → S w') → wpAnyL P ops Q S L f (s.setIfInBounds m true) a' w' → K a' w') → if Region.wanted o2 (yielded ops a.tmps) = true then Oper.wp P o2 a w K Q else K (a.put o2.dst undef) w) : wpAnyL P ops Q S L (f + 1) s a w := by
  refine ⟨fun e => (by rw [hr] at e; cases e), fun j hj => ?_⟩
  rw [hr, List.mem_cons, List.mem_cons, List.mem_singleton] at hj
  rcases hj with hj | hj | hj
  · subst hj; exact wpAnyL_at ho h
  · subst hj; exact wpAnyL_at ho' h'
  · subst hj; exact wpAnyL_at ho2 h2
end Go.Proofs.Ytmklnjkallhphaa
