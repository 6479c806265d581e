/- Texts of ours, one behind the other: KM6 W16 KM7 KM8 KM10. -/
import Derived.Test.YtbofcldmgjeklabZW15
import Derived.RangeFuncNested
import Derived.RangeFuncBound
import Derived.RangeFuncCalls
import Derived.RangeFuncLeaves
import Derived.WalkKit
import Derived.Test.YtbofcldmgjeklabZS27
import Derived.Shelf.Abstract
import Derived.Shelf.RegionOpen
import Derived.OwnWalkIn
import Derived.TacticsInMore
import Derived.LoopNIn
import Derived.LoopIn
import Derived.Test.YtbofcldmgjeklabZI3
import Derived.Test.YtbofcldmgjeklabZK4
import Derived.Test.YtbofcldmgjeklabZI12
/- The reference's NodesMay. -/
namespace Go.Proofs.Ytbofcldmgjeklab
open Go.RowKit Go.Sort

end Go.Proofs.Ytbofcldmgjeklab

/- Ranges over methods (a receiver ahead of the yield). -/
namespace Go.Proofs.Ytbofcldmgjeklab
open Go.RowKit

/-- What an iterator's method promises: as SeqI, with what is ahead of the yield. -/
def SeqB (P : Program) (gf : Nat) (ra lb : Array Value) (N : Nat) (E : Nat → Array Value → World → Prop) (own : Nat → Prop) (w0 : World) : Prop :=
  ∀ (l : Nat) (J : Nat → World → Prop) (W : World), Below w0.heap.size w0 W → w0.heap.size ≤ l → l < W.heap.size →
    (∀ r X Y, J r X → Below X.heap.size X Y → J r Y) →
    (∀ r args X, r < N → J r X → E r args X → YieldAt Fence.wide 0 P l args X fun e Y => e = .returned (.bool true) ∧ J (r + 1) Y ∧ KpO (fun k => own k ∨ k = l) X Y) →
    J 0 W → CallsIn Fence.wide 0 P gf (ra ++ #[.func (.yield l) #[] #[]] ++ lb) W fun e W' => (∃ v, e = .returned v) ∧ J N W'

/-- The law: a loop whose body never leaves it. -/
theorem range_lawB {P : Program} {g : Operand} {ps : Array Tmp} {assign body : Code} {Q : Exit → Act → World → Prop} {a : Act} {w : World} {gf : Nat} {ra lb : Array Value}
    (hg : a.eval g = .func (.func gf) ra lb) (eg : ∀ args w, (callFunc gf args).run P w = .ok (.enter gf args) w)
    {N : Nat} {E : Nat → Array Value → World → Prop} {own : Nat → Prop} (hseq : SeqB P gf ra lb N E own w) (hown : ∀ k, own k → k < w.heap.size)
    (hps : ∀ r args X, E r args X → args.size = ps.size)
    (I : Nat → World → Prop) (hI : ∀ r X Y, I r X → GrC w.heap.size X Y → I r Y) (hE : ∀ r args X Y, E r args X → GrC w.heap.size X Y → E r args Y) (h0 : I 0 w) (a₁ : Array Value → Act)
    (hassign : ∀ (l r : Nat) (args : Array Value) (X : World) (K : Act → World → Prop), E r args X → K (a₁ args) X →
      assign.wpIn (Fence.wide.inRound l) 0 P (Exit.then K (fun _ _ _ => False)) { tmps := (ps.zip args).foldl (fun t (p, v) => t.setIfInBounds p v) a.tmps, defers := [] } X)
    (hbody : ∀ (l r : Nat) (args : Array Value) (X : World), r < N → I r X → E r args X → body.wpIn (Fence.wide.inRound l) 0 P (fun e _ Y => e = .normal ∧ KpO own X Y ∧ I (r + 1) Y) (a₁ args) X)
    (hdone : ∀ (D : Nat) (W : World), w.heap.size ≤ D → I N W → W.heap[D]? = some (.deferred (some [])) → Q .normal { a with defers := { target := .collected D, args := #[] } :: a.defers } W) :
    (Code.rangeFunc g ps assign body).wp P Q a w := by
  refine (wpIn_wide (n := 0)).1 (wpIn_rangeFunc ?_)
  intro fn hfn
  obtain ⟨B, hB⟩ : ∃ B, B = w.heap.size := ⟨_, rfl⟩
  obtain ⟨rc, hrc⟩ : ∃ rc : LoopState → Option Code → Loop, rc = fun st pe => { state := st, pending := pe, fn, tmps := a.tmps, params := ps, assign, body, defers := w.heap.size } := ⟨_, rfl⟩
  obtain ⟨W, hW⟩ : ∃ W, W = (w.alloc (.deferred (some []))).alloc (.loop (rc .ready none)) := ⟨_, rfl⟩
  have hs1 : (w.alloc (.deferred (some []))).heap.size = B + 1 := by rw [World.size_alloc, hB]
  have hsW : W.heap.size = B + 2 := by rw [hW, World.size_alloc, hs1]
  have hlW : W.heap[B + 1]? = some (.loop (rc .ready none)) := by rw [hW, ← hs1]; exact World.alloc_heap_new _ _
  have hdW : W.heap[B]? = some (.deferred (some [])) := by rw [hW, Below.heap_alloc _ _ _ (by rw [hs1]; omega), hB]; exact World.alloc_heap_new w _
  have hbW : Below w.heap.size w W := by rw [hW]; exact ((Below.refl _ w).alloc (Nat.le_refl _) _).alloc (by simp) _
  have hIW : I 0 W := hI 0 w W h0 (.of_below hbW)
  refine ⟨B + 1, [{ target := .collected w.heap.size, args := #[] }], W, { target := .fn (.func gf) lb, args := ra ++ #[.func (.yield (B + 1)) #[] #[]] }, W, gf, ra ++ #[.func (.yield (B + 1)) #[] #[]] ++ lb, W, ?_, ?_, fun _ _ => trivial, ?_, fun h => (by cases h), ?_⟩
  · rw [hW, hrc, hB]; exact run_enterLoop_outer _ _ _ _ _
  · simp only [resolve, hg]
    simp [go_sem]
  · simp [invoke, go_sem, eg]
  refine (hseq (B + 1) (fun r X => I r X ∧ X.heap[B + 1]? = some (.loop (rc .ready none)) ∧ X.heap[B]? = some (.deferred (some []))) W hbW (by omega) (by omega) ?_ ?_ ⟨hIW, hlW, hdW⟩).mono ?_
  · rintro r X Y ⟨h1, h2, h3⟩ hb
    exact ⟨hI r X Y h1 (.of_below hb), (hb.block _ (Array.getElem?_eq_some_iff.1 h2).1).trans h2, (hb.block _ (Array.getElem?_eq_some_iff.1 h3).1).trans h3⟩
  · rintro r args X hr ⟨hi, hl, hd⟩ he
    have hy := run_yield (P := P) (args := args) hl (by rw [hrc]; exact hps r args X he)
    rw [hrc] at hy
    refine ⟨fn, _, assign, body, hy, roundIn_of_wpIn hfn (hassign _ r args X _ he ⟨_, run_beginRound hl (by rw [hrc]), ?_⟩)⟩
    obtain ⟨X2, hX2⟩ : ∃ X2, X2 = X.putObj (B + 1) (.loop { rc .ready none with state := .busy }) := ⟨_, rfl⟩
    have hg2 : GrC w.heap.size X X2 := by rw [hX2]; exact .put _ (by omega) hl rfl
    have hl2 : X2.heap[B + 1]? = some (.loop { rc .ready none with state := .busy }) := by rw [hX2]; exact World.putObj_heap_same (Array.getElem?_eq_some_iff.1 hl).1
    have hd2 : X2.heap[B]? = some (.deferred (some [])) := by rw [hX2]; exact (World.putObj_heap_other (by omega)).trans hd
    have hk2 : KpO (fun k => own k ∨ k = B + 1) X X2 := by rw [hX2]; exact .put _ _ _ (Or.inr rfl)
    rw [← hX2]
    refine wpIn_mono (hbody (B + 1) r args X2 hr (hI r X X2 hi hg2) (hE r args X X2 he hg2)) ?_
    rintro e a3 Y ⟨rfl, hk, hi3⟩
    have hl3 : Y.heap[B + 1]? = some (.loop { rc .ready none with state := .busy }) := (hk.same _ (Array.getElem?_eq_some_iff.1 hl2).1 (fun h => by have := hown _ h; omega)).trans hl2
    have hd3 : Y.heap[B]? = some (.deferred (some [])) := (hk.same _ (Array.getElem?_eq_some_iff.1 hd2).1 (fun h => by have := hown _ h; omega)).trans hd2
    have he3 := run_endRound (P := P) none hl3
    refine ⟨_, _, he3, rfl, ⟨hI _ Y _ hi3 (.put _ (by omega) hl3 rfl), ?_, (World.putObj_heap_other (by omega)).trans hd3⟩, (hk2.trans (hk.mono fun k h => Or.inl h)).trans (.put _ _ _ (Or.inr rfl))⟩
    rw [World.putObj_heap_same (Array.getElem?_eq_some_iff.1 hl3).1, hrc]
    rfl
  · rintro e Y ⟨⟨v, rfl⟩, hi, hl, hd⟩
    have he := run_endLoop (P := P) hl (by rw [hrc]; simp)
    refine ⟨none, _, by rw [he, hrc], ?_⟩
    have := hdone B (Y.putObj (B + 1) (.loop { rc .ready none with state := .exhausted })) (by omega) (hI _ Y _ hi (.put _ (by omega) hl rfl)) ((World.putObj_heap_other (by omega)).trans hd)
    rw [hB] at this ⊢
    simpa [hrc] using this
end Go.Proofs.Ytbofcldmgjeklab

/- The places of the square, one after another: the method places. -/
namespace Go.Proofs.Ytbofcldmgjeklab
open Go.RowKit Go.Shelf
attribute [local go_sem] Oper.semAt_some

/-- How many places are in the first rows. -/
def pls (k : Nat) : Nat → Nat
  | 0 => 0
  | i + 1 => pls k i + (k - i)
theorem pls_le (k : Nat) {i j : Nat} (h : i ≤ j) : pls k i ≤ pls k j := by
  induction j with
  | zero => rw [show i = 0 by omega]; exact Nat.le_refl _
  | succ j ih =>
    by_cases e : i = j + 1
    · rw [e]; exact Nat.le_refl _
    · have := ih (by omega)
      show pls k i ≤ pls k j + (k - j)
      omega
/-- The r-th place. -/
def PlE (k d r : Nat) (args : Array Value) (_ : World) : Prop :=
  ∃ i j : Nat, args = #[.int .i64 (i : Nat), .int .i64 (j : Nat)] ∧ i < k ∧ ((i ≤ j ∧ j < k ∧ r = pls k i + (j - i)) ∨ (k ≤ j ∧ j < d ∧ r = pls k k + i * (d - k) + (j - k)))
theorem PlA.kpo {B F : Nat} {n k d : Int} {own : Nat → Prop} {X Y : World} (h : PlA B F n k d X) (hk : KpO own X Y) (hB : ¬ own B) : PlA B F n k d Y := by
  have e := hk.same B (cell_lt h.f) hB
  obtain ⟨h0, h1, h2, h3⟩ := h
  refine ⟨?_, ?_, ?_, ?_⟩
  all_goals
    unfold World.cell? at h0 h1 h2 h3 ⊢
    rw [e]
    assumption

set_option maxHeartbeats 8000000 in
set_option maxRecDepth 100000 in
theorem places_seq {B F k d : Nat} {n : Int} {own : Nat → Prop} {w : World} (hP : PlA B F n k d w) (hk : k ≤ d) (hd : d ≤ 15) (hB : ¬ own B) :
    SeqB Try.prog 102 #[.pointer (some ⟨B, 0, none⟩)] #[] (pls k k + k * (d - k)) (PlE k d) own w := by
  intro l J W hbW hl hlW hJ hY hJ0
  have HB : Hid (¬ (own B ∨ B = l)) := by
    have := cell_lt hP.f
    intro h
    rcases h with h | h
    · exact hB h
    · have h2 : (⟨B, 0, none⟩ : Addr).block < w.heap.size := this
      simp at h2
      omega
  have HY : Hid (∀ r args X, r < pls k k + k * (d - k) → J r X → PlE k d r args X → YieldAt Fence.wide 0 Try.prog l args X fun e Y => e = .returned (.bool true) ∧ J (r + 1) Y ∧ KpO (fun k => own k ∨ k = l) X Y) := hY
  have H0 : Hid (J 0 W ∧ PlA B F n k d W) := ⟨hJ0, hP.below hbW⟩
  obtain ⟨c0, c1, c2, c3⟩ := H0.out.2
  clear hY hJ hJ0 hbW hP
  refine callsIn_of_wp Try.func102 rfl trivial ?_ rfl
  simp only [Try.ntmps102, List.size_toArray, List.length_cons, List.length_nil, Nat.reduceAdd, Nat.reduceSub, Array.replicate_succ, Array.replicate_zero, List.push_toArray, List.append_toArray, List.nil_append, List.cons_append, List.append_nil]
  gi_wp2
  gi_loopw [4, 5, 12] (fun _ _ vi wr => ∃ i : Nat, i ≤ k ∧ vi = .int .i64 (i : Nat) ∧ Hid (J (pls k i) wr ∧ PlA B F n k d wr)) (fun _ _ vi _ => k - (intOf vi).toNat)
  case atStart => exact ⟨0, by omega, rfl, H0.out.1, H0.out.2⟩
  case round =>
    obtain ⟨i, hi, rfl, HG⟩ := hrel
    rename World => wr
    by_cases hlt : i < k
    · have hib : (i : Int) < (k : Int) := by omega
      gi_wp2
      gi_loopw [5] (fun vj wq => ∃ j : Nat, i ≤ j ∧ j ≤ k ∧ vj = .int .i64 (j : Nat) ∧ Hid (J (pls k i + (j - i)) wq ∧ PlA B F n k d wq)) (fun vj _ => k - (intOf vj).toNat)
      case atStart => exact ⟨i, by omega, by omega, rfl, by rw [Nat.sub_self]; exact HG.out.1, HG.out.2⟩
      case round =>
        obtain ⟨j, hj1, hj, rfl, HQ⟩ := hrel
        rename World => wq
        obtain ⟨a0, a1, a2, a3⟩ := HQ.out.2
        by_cases hjl : j < k
        · have hjb : (j : Int) < (k : Int) := by omega
          have hYl := HY.out (pls k i + (j - i)) #[.int .i64 (i : Nat), .int .i64 (j : Nat)] wq (by have h1 := pls_le k (show i + 1 ≤ k by omega); have h2 : pls k (i + 1) = pls k i + (k - i) := rfl; omega) HQ.out.1 ⟨i, j, rfl, hlt, Or.inl ⟨hj1, hjl, rfl⟩⟩
          obtain ⟨fn, tmps, assign, body, hy, hR⟩ := hYl
          gi_wp2
          refine ⟨rfl, hR.mono ?_⟩
          rintro e Y ⟨rfl, hS, hK⟩
          have HQ2 : Hid (J (pls k i + (j + 1 - i)) Y ∧ PlA B F n k d Y) := by
            refine ⟨?_, HQ.out.2.kpo hK HB.out⟩
            rw [show pls k i + (j + 1 - i) = pls k i + (j - i) + 1 by omega]; exact hS
          clear hR hy hS hK a0 a1 a2 a3
          gi_wp2
          exact ⟨⟨j + 1, by omega, by omega, by go_num, HQ2⟩, by simp [intOf]; omega⟩
        · have hjb : ¬ (j : Int) < (k : Int) := by omega
          have hje : j = k := by omega
          subst hje
          gi_wp2
          exact ⟨⟨i + 1, by omega, by go_num, HQ⟩, by simp [intOf]; omega⟩
    · have hib : ¬ (i : Int) < (k : Int) := by omega
      have hie : i = k := by omega
      subst hie
      obtain ⟨a0, a1, a2, a3⟩ := HG.out.2
      gi_wp2
      gi_loopw [6, 7, 34] (fun _ _ vi wq => ∃ t : Nat, t ≤ i ∧ vi = .int .i64 (t : Nat) ∧ Hid (J (pls i i + t * (d - i)) wq ∧ PlA B F n i d wq)) (fun _ _ vi _ => i - (intOf vi).toNat)
      case atStart => exact ⟨0, by omega, rfl, by rw [Nat.zero_mul]; exact HG.out.1, HG.out.2⟩
      case round =>
        obtain ⟨t, ht, rfl, HT⟩ := hrel
        rename World => wq
        obtain ⟨a0, a1, a2, a3⟩ := HT.out.2
        by_cases hlt : t < i
        · have hib : (t : Int) < (i : Int) := by omega
          gi_wp2
          gi_loopw [7] (fun vj wz => ∃ j : Nat, i ≤ j ∧ j ≤ d ∧ vj = .int .i64 (j : Nat) ∧ Hid (J (pls i i + t * (d - i) + (j - i)) wz ∧ PlA B F n i d wz)) (fun vj _ => d - (intOf vj).toNat)
          case atStart => exact ⟨i, by omega, by omega, rfl, by rw [Nat.sub_self]; exact HT.out.1, HT.out.2⟩
          case round =>
            obtain ⟨j, hj1, hj, rfl, HQ⟩ := hrel
            rename World => wz
            obtain ⟨a0, a1, a2, a3⟩ := HQ.out.2
            by_cases hjl : j < d
            · have hjb : (j : Int) < (d : Int) := by omega
              have hYl := HY.out (pls i i + t * (d - i) + (j - i)) #[.int .i64 (t : Nat), .int .i64 (j : Nat)] wz (by have h1 : (t + 1) * (d - i) ≤ i * (d - i) := Nat.mul_le_mul_right _ (by omega); rw [Nat.succ_mul] at h1; omega) HQ.out.1 ⟨t, j, rfl, hlt, Or.inr ⟨hj1, hjl, rfl⟩⟩
              obtain ⟨fn, tmps, assign, body, hy, hR⟩ := hYl
              gi_wp2
              refine ⟨rfl, hR.mono ?_⟩
              rintro e Y ⟨rfl, hS, hK⟩
              have HQ2 : Hid (J (pls i i + t * (d - i) + (j + 1 - i)) Y ∧ PlA B F n i d Y) := by
                refine ⟨?_, HQ.out.2.kpo hK HB.out⟩
                rw [show pls i i + t * (d - i) + (j + 1 - i) = pls i i + t * (d - i) + (j - i) + 1 by omega]; exact hS
              clear hR hy hS hK a0 a1 a2 a3
              gi_wp2
              exact ⟨⟨j + 1, by omega, by omega, by go_num, HQ2⟩, by simp [intOf]; omega⟩
            · have hjb : ¬ (j : Int) < (d : Int) := by omega
              have hje : j = d := by omega
              subst hje
              have HQ2 : Hid (J (pls i i + (t + 1) * (j - i)) wz ∧ PlA B F n i j wz) := by
                refine ⟨?_, HQ.out.2⟩
                rw [Nat.succ_mul, ← Nat.add_assoc]; exact HQ.out.1
              gi_wp2
              exact ⟨⟨t + 1, by omega, by go_num, HQ2⟩, by simp [intOf]; omega⟩
        · have hib : ¬ (t : Int) < (i : Int) := by omega
          have hte : t = i := by omega
          subst hte
          gi_wp2
          exact ⟨rfl, .tuple #[], by simp [results, Try.results102, go_sem], ⟨_, rfl⟩, HT.out.1⟩
end Go.Proofs.Ytbofcldmgjeklab

/- A square of noughts. -/
namespace Go.Proofs.Ytbofcldmgjeklab
open Go.RowKit Go.Sort

set_option maxHeartbeats 4000000 in
set_option maxRecDepth 100000 in
theorem noughts_any {B F n : Nat} {pn pk : Int} {w : World} (hP : PlA B F pn pk (n : Nat) w) (hn : n ≤ 1000) :
    Calls Try.prog 101 #[.pointer (some ⟨B, 0, none⟩)] w fun e w' => e = .returned (.slice (some ⟨w.heap.size, 0, none⟩) n n) ∧ (∃ h, Mx w.heap.size w.heap.size n n n (fun _ => pnil) h w') ∧ Below w.heap.size w w' := by
  have HP : Hid (∀ wx, Below w.heap.size w wx → wx.cell? ⟨B, 3, none⟩ = some (.int .i64 (n : Nat))) := fun wx hx => (hP.below hx).d
  have c3 := hP.d
  have HBlt : Hid (B < w.heap.size) := cell_lt hP.f
  clear hP
  go_enter Try.func101, Try.ntmps101
  go_wp2_with (at_make; refine make_sls rfl _ _ rfl _ n rfl rfl rfl (by omega) ?_; intro w1 hrow1 hgrow1)
  have HB1 : Hid (Mx w.heap.size w.heap.size n 0 n (fun _ => pnil) (fun _ => 0) w1 ∧ Below w.heap.size w w1) := ⟨⟨⟨_, hrow1, fun i hi => absurd hi (by omega)⟩, fun i hi => absurd hi (by omega), Nat.le_refl _, fun i hi => absurd hi (by omega), fun i hi => absurd hi (by omega), fun i hi => absurd hi (by omega), by omega⟩, below_grown hgrow1 (Nat.le_refl _) (fun k hk => by simp at hk)⟩
  clear hrow1 hgrow1
  go_loopw [4, 12] (fun _ i wr => ∃ r : Nat, ∃ h : Nat → Nat, r ≤ n ∧ i = .int .i64 r ∧ Hid (Mx w.heap.size w.heap.size n r n (fun _ => pnil) h wr ∧ Below w.heap.size w wr)) (fun _ i _ => n - (intOf i).toNat)
  case atStart => exact ⟨0, _, by omega, rfl, HB1.out⟩
  case round =>
    clear HB1
    obtain ⟨r, h, hr, rfl, HG⟩ := hrel
    rename World => wr
    by_cases hlt : r < n
    · have hib : (r : Int) < (n : Int) := by omega
      have hsz := HG.out.2.size
      have hG := HG.out.1.ltG
      have hd := HP.out _ HG.out.2
      go_wp2_with (at_make; refine make_int rfl _ _ rfl _ n rfl rfl (by omega) (by omega) ?_; intro w2 hown2 hgrow2; have hb2 : Below wr.heap.size wr w2 := below_grown hgrow2 (Nat.le_refl _) (fun k hk => by simp at hk); obtain ⟨f, hf, _⟩ := (HG.out.1.below hb2).outer; have hcG := hf.cell r hlt; have hfG := hf.free r; have hrw := row_zeros hown2)
      go_roundw
      case rel =>
        have hpush := HG.out.1.push hlt hb2 (Below.refl _ _) (hrw.other (Below.heap_setCell w2 ⟨w.heap.size, r, none⟩ (.slice (some ⟨wr.heap.size, 0, none⟩) n n) wr.heap.size (by show wr.heap.size ≠ w.heap.size; omega))) hsz
        refine ⟨r + 1, _, by omega, by go_num, hpush.congr (fun i hi j hj => ?_), (bel_up HG.out.2 hb2).trans ?_⟩
        · by_cases e : i = r
          · rw [if_pos e]
          · rw [if_neg e]
        · exact (Below.refl w.heap.size w2).setCell (Nat.le_refl _) _
      case measure => simp [intOf]; omega
    · have e : r = n := by omega
      subst e
      go_wp2
      go_ret
      exact ⟨rfl, ⟨_, HG.out.1⟩, HG.out.2⟩
end Go.Proofs.Ytbofcldmgjeklab

/- What a node tells to mend another: Help. -/
namespace Go.Proofs.Ytbofcldmgjeklab
open Go.RowKit Go.Sort

/-- What is wrong with what a node has, or with the node that is lost. -/
def hlc (D : FD) (m : Nat) (z : Nat → Int) (n d lost : Int) : Int := if D.nchk m z d ≠ 0 then D.nchk m z d else if ¬ (0 ≤ lost ∧ lost < n) then 10 else 0
theorem zc_eln {D : FD} (F : Fld D) {m : Nat} {z : Nat → Int} {many : Int} (h : D.nchk m z many = 0) : El D (zc m z) := fun j => by
  by_cases e : j < m
  · exact zc_lt h e
  · unfold zc; rw [if_neg e]; have := F.q2; omega

set_option maxHeartbeats 4000000 in
set_option maxRecDepth 100000 in
theorem shelp_any {D : FD} (hD : D ∈ fieldsL) {B F T : Nat} {g : Nat → Value} {pn pk pd : Int} {ao : Option Addr} {m ca : Nat} {z : Nat → Int} {w : World} (hP : PlA B F pn pk pd w) (hF : FAt F T D g w) (hA : SlZ ao m z w) (hm : m ≤ 1000000) (hpd : pd ≤ 1000) (hpn : pn ≤ (D.q : Int)) (lost : Int) :
    Calls Try.prog 22 #[.pointer (some ⟨B, 0, none⟩), .slice ao m ca, .int .i64 lost] w fun e w' => Below w.heap.size w w' ∧ ((hlc D m z pn pd lost ≠ 0 ∧ e = .returned (.tuple #[.int .i64 0, .int .i64 (hlc D m z pn pd lost)])) ∨ (hlc D m z pn pd lost = 0 ∧ e = .returned (.tuple #[.int .i64 (D.ev (zc m z) lost.toNat m : Nat), .int .i64 0]))) := by
  have HF : Hid (PlA B F pn pk pd w ∧ FAt F T D g w ∧ SlZ ao m z w ∧ D ∈ fieldsL) := ⟨hP, hF, hA, hD⟩
  have c3 := hP.d
  obtain ⟨E, hE⟩ : ∃ E, E = D.nchk m z pd := ⟨_, rfl⟩
  have HE : Hid (E = D.nchk m z pd) := hE
  have HCl : Hid (Calls Try.prog 57 #[.pointer (some ⟨B, 0, none⟩), .slice ao m ca, .int .i64 pd] w fun e w' => e = .returned (.int .i64 E) ∧ Below w.heap.size w w') := by
    rw [hE]; exact checkList_any hP hF hA (by omega) pd
  clear hP hF hA hD hE
  go_enter Try.func22, Try.ntmps22
  go_wp2_with fail
  refine HCl.out.mono ?_
  rintro e w1 ⟨rfl, hb1⟩
  have H1 : Hid (Below w.heap.size w w1 ∧ PlA B F pn pk pd w1 ∧ FAt F T D g w1 ∧ SlZ ao m z w1) := ⟨hb1, HF.out.1.below hb1, HF.out.2.1.below hb1 HF.out.2.1.ltF HF.out.2.1.ltT, slz_below HF.out.2.2.1 hb1⟩
  clear hb1
  by_cases hE0 : E = 0
  · subst hE0
    obtain ⟨t, ht⟩ : ∃ t, t = decide (0 ≤ lost ∧ lost < pn) := ⟨_, rfl⟩
    have HIs : Hid (Calls Try.prog 64 #[.pointer (some ⟨B, 0, none⟩), .int .i64 lost] w1 fun e w' => e = .returned (.bool t) ∧ w' = w1) := by rw [ht]; exact isNode_any H1.out.2.1 lost
    go_wp2_with fail
    refine HIs.out.mono ?_
    rintro e w' ⟨rfl, hw⟩
    have hw := hw.symm
    subst hw
    by_cases hn : 0 ≤ lost ∧ lost < pn
    · rw [decide_eq_true hn] at ht
      subst ht
      obtain ⟨x, hx⟩ : ∃ x : Nat, x = lost.toNat := ⟨_, rfl⟩
      have hlx : lost = (x : Int) := by omega
      have hxq : x < D.q := by omega
      have HZ : Hid (hlc D m z pn pd lost = 0) := by show _ = _; unfold hlc; rw [← HE.out, if_neg (by omega), if_neg (fun h => h hn)]
      have HV : Hid (Calls Try.prog 59 #[.pointer (some ⟨B, 0, none⟩), .slice ao m ca, .int .i64 (x : Nat)] w1 fun e w' => e = .returned (.int .i64 (D.ev (zc m z) x m : Nat)) ∧ ∃ n, w' = w1.drewN n) := by
        have hz := HE.out.symm
        have hel := zc_eln (fld HF.out.2.2.2) hz
        show Calls _ _ _ _ _
        rw [← val_is (fld HF.out.2.2.2) x m hel hxq]
        exact svalue_any HF.out.2.2.2 H1.out.2.2.1 H1.out.2.1 hxq (by have := (nchk_ok hz).1; omega) hel (has_sl (nchk_ok hz).2 H1.out.2.2.2)
      have HL : Hid (lost.toNat = x) := hx.symm
      clear hx hn
      subst hlx
      go_wp2_with fail
      refine HV.out.mono ?_
      rintro e w2 ⟨rfl, nd, hw2⟩
      have HB : Hid (Below w.heap.size w w2) := by rw [hw2]; exact below_drewN2 H1.out.1 _
      clear hw2
      go_wp2
      go_ret2
      exact ⟨HB.out, Or.inr ⟨HZ.out, by rw [HL.out]; rfl⟩⟩
    · rw [decide_eq_false hn] at ht
      subst ht
      have HZ : Hid (hlc D m z pn pd lost = 10) := by show _ = _; unfold hlc; rw [← HE.out, if_neg (by omega), if_pos hn]
      clear hn
      go_wp2
      go_ret2
      exact ⟨H1.out.1, Or.inl ⟨by rw [HZ.out]; decide, by rw [HZ.out]; rfl⟩⟩
  · have hz : (E != 0) = true := by rw [bne_iff_ne]; exact hE0
    have HZ : Hid (hlc D m z pn pd lost = E) := by show _ = _; unfold hlc; rw [← HE.out, if_pos hE0]
    have HE0 : Hid (E ≠ 0) := hE0
    clear hE0
    go_wp2
    go_ret2
    exact ⟨H1.out.1, Or.inl ⟨by rw [HZ.out]; exact HE0.out, by rw [HZ.out]; rfl⟩⟩
end Go.Proofs.Ytbofcldmgjeklab
