/- Texts of ours, one behind the other: U17 V1 V2 V3 W5 V4 V5. -/
import Derived.Test.YthmjdcajaoilgakZU10
import Derived.Test.YthmjdcajaoilgakZB6
import Derived.Test.YthmjdcajaoilgakZU1
import Derived.Lib.QuietBelow
/- Does an element stand twice in a list (hasTwice)? -/
namespace Go.Proofs.Ythmjdcajaoilgak
open Go.RowKit

/-- Some number stands twice among the first n. -/
def Twice (c : Nat → Nat) (n : Nat) : Prop := ∃ i j, i < j ∧ j < n ∧ c i = c j

set_option maxHeartbeats 2000000 in
set_option maxRecDepth 100000 in
theorem hasTwice_any {ao : Option Addr} {n cap : Nat} {c : Nat → Nat} {w : World} (h : Sl ao n c w) (hn : n ≤ 1000) (hl : LtB ao w.heap.size) (hc : ∀ j, c j < 64) :
    Calls Try.prog 86 #[.slice ao n cap] w fun e w' => (∃ b, e = .returned (.bool b) ∧ (b = true ↔ Twice c n)) ∧ Below w.heap.size w w' := by
  have HS : Hid (Sl ao n c w ∧ LtB ao w.heap.size ∧ ∀ j, c j < 64) := ⟨h, hl, hc⟩
  clear h hl hc
  go_enter Try.func86, Try.ntmps86
  go_wp2
  change Code.wp _ _ _ _ (w.alloc (.cells (Array.replicate 64 (.bool false)) 110))
  obtain ⟨w1, hw1⟩ : ∃ w1 : World, w1 = w.alloc (.cells (Array.replicate 64 (.bool false)) 110) := ⟨_, rfl⟩
  have HR1 : Hid (RowF w.heap.size 64 110 (fun _ => .bool false) w1 ∧ Below w.heap.size w w1) := by
    rw [hw1]
    refine ⟨⟨_, two_new _, by simp, fun o ho => by simp [ho]⟩, (Below.refl _ _).alloc (Nat.le_refl _) _⟩
  rw [← hw1]
  clear hw1
  go_loopw [8] (fun i wr => ∃ (r : Nat) (f : Nat → Value), r ≤ n ∧ i = .int .i64 r ∧ RowF w.heap.size 64 110 f wr ∧ (∀ x, x < 64 → f x = .bool (decide (∃ i, i < r ∧ c i = x))) ∧ ¬ Twice c r ∧ Below w.heap.size w wr) (fun i _ => n - (intOf i).toNat)
  case atStart => exact ⟨0, _, by omega, rfl, HR1.out.1, fun x _ => by rw [decide_eq_false (by rintro ⟨i, hi, _⟩; omega)], by rintro ⟨i, j, h1, h2, _⟩; omega, HR1.out.2⟩
  case round =>
    obtain ⟨r, f, hr, rfl, hrow, hf, hnt, hbel⟩ := hrel
    have HG : Hid (RowF w.heap.size 64 110 f wr ∧ (∀ x, x < 64 → f x = .bool (decide (∃ i, i < r ∧ c i = x))) ∧ ¬ Twice c r ∧ Below w.heap.size w wr) := ⟨hrow, hf, hnt, hbel⟩
    clear hrow hf hnt hbel
    by_cases hlt : r < n
    · obtain ⟨b, off, rfl, hcx⟩ := (HS.out.1.below HG.out.2.2.2 HS.out.2.1) r hlt
      obtain ⟨x, hx⟩ : ∃ x, x = c r := ⟨_, rfl⟩
      have hx64 : x < 64 := by rw [hx]; exact HS.out.2.2 r
      rw [← hx] at hcx
      have hfr := HG.out.1.free x
      by_cases hseen : ∃ i, i < r ∧ c i = x
      · have hcs : wr.cell? ⟨w.heap.size, x, none⟩ = some (.bool true) := by rw [HG.out.1.cell x (by omega), HG.out.2.1 x hx64, decide_eq_true hseen]
        have HT : Hid (Twice c n) := by
          obtain ⟨i, hi, e⟩ := hseen
          exact ⟨i, r, hi, hlt, by rw [e, hx]⟩
        clear hseen hx
        go_wp2
        go_ret
        exact ⟨⟨true, rfl, fun _ => HT.out, fun _ => rfl⟩, HG.out.2.2.2⟩
      · have hcs : wr.cell? ⟨w.heap.size, x, none⟩ = some (.bool false) := by rw [HG.out.1.cell x (by omega), HG.out.2.1 x hx64, decide_eq_false hseen]
        have HN : Hid (¬ Twice c (r + 1) ∧ ∀ y, y < 64 → upd f x (.bool true) y = .bool (decide (∃ i, i < r + 1 ∧ c i = y))) := by
          refine ⟨?_, fun y hy => ?_⟩
          · rintro ⟨i, j, h1, h2, e⟩
            by_cases ej : j = r
            · exact hseen ⟨i, by omega, by rw [e, ej, hx]⟩
            · exact HG.out.2.2.1 ⟨i, j, h1, by omega, e⟩
          · by_cases ey : y = x
            · rw [ey, upd_at, decide_eq_true ⟨r, by omega, hx.symm⟩]
            · rw [upd_ne _ _ _ ey, HG.out.2.1 y hy]
              congr 1
              rw [decide_eq_decide]
              constructor
              · rintro ⟨i, hi, e⟩; exact ⟨i, by omega, e⟩
              · rintro ⟨i, hi, e⟩
                by_cases ei : i = r
                · exact absurd (by rw [← e, ei, hx]) ey
                · exact ⟨i, by omega, e⟩
        clear hseen hx
        go_wp2
        go_roundw
        case rel => exact ⟨r + 1, _, by omega, by go_num, HG.out.1.store x _, HN.out.2, HN.out.1, HG.out.2.2.2.setCell (by simp) _⟩
        case measure => simp [intOf]; omega
    · have HT : Hid (¬ Twice c n) := by have h := HG.out.2.2.1; rw [show r = n from by omega] at h; exact h
      go_wp2
      go_ret
      exact ⟨⟨false, rfl, fun e => (by cases e), fun e => absurd e HT.out⟩, HG.out.2.2.2⟩
end Go.Proofs.Ythmjdcajaoilgak

/- The reference's polynomials: without noughts at the end (Trim); which may be (PolyMay). -/
namespace Go.Proofs.Ythmjdcajaoilgak
open Go.RowKit

end Go.Proofs.Ythmjdcajaoilgak

/- The reference's polynomials: which may be (PolyMay). -/
namespace Go.Proofs.Ythmjdcajaoilgak
open Go.RowKit

end Go.Proofs.Ythmjdcajaoilgak

/- The reference's polynomials: sums (PAdd). -/
namespace Go.Proofs.Ythmjdcajaoilgak
open Go.RowKit

/-- The n coefficients c as a list of numbers. -/
def NL (n : Nat) (c : Nat → Nat) : List Int := (List.range n).map fun k => ((c k : Nat) : Int)
theorem NL_len (n : Nat) (c : Nat → Nat) : (NL n c).length = n := by simp [NL]
theorem NL_succ (n : Nat) (c : Nat → Nat) : NL (n + 1) c = NL n c ++ [((c n : Nat) : Int)] := by unfold NL; rw [List.range_succ, List.map_append]; rfl
theorem NL_get (n : Nat) (c : Nat → Nat) (j : Nat) (hj : j < n) : (NL n c).getD j 0 = ((c j : Nat) : Int) := by
  unfold NL
  rw [List.getD_eq_getElem?_getD, List.getElem?_map, List.getElem?_range hj]; rfl
theorem NL_congr {n : Nat} {c d : Nat → Nat} (h : ∀ k, k < n → c k = d k) : NL n c = NL n d := by
  unfold NL
  exact List.map_congr_left fun k hk => by rw [h k (List.mem_range.1 hk)]
theorem OwnI.ownP {base n : Nat} {v : Value} {c : Nat → Nat} {w : World} (h : OwnI base v (NL n c) w) : OwnP base v n c w := by
  rcases h.2 with ⟨h1, h2⟩ | ⟨g, cap, cur, hv, hg, hh, hle, hcm, hsz, htake⟩
  · rw [NL_len] at h2
    subst h2
    exact ⟨none, 0, h1, Nat.le_refl _, by omega, fun x hx => (by cases hx), fun x hx => (by cases hx), fun _ => rfl, fun h0 => absurd h0 (by omega)⟩
  · rw [NL_len] at hv hle
    refine ⟨_, cap, hv, hle, by unfold maxLen at hcm; omega, fun x hx => (by cases hx; exact hg), fun x hx => (by cases hx; exact lt_of_block hh), fun e => (by cases e), fun h0 => ⟨g, rfl, ?_⟩⟩
    obtain ⟨g', cap', f, hv', hg', hl', hle', hcm', hrow, hf⟩ := h.row n (NL_len n c) h0
    rw [hv'] at hv
    simp only [Value.slice.injEq, Option.some.injEq, Addr.mk.injEq, and_true, true_and] at hv
    obtain ⟨rfl, rfl⟩ := hv
    exact ⟨_, f, hrow, hle', fun k hk => by rw [hf k hk, NL_get n c k hk]⟩

end Go.Proofs.Ythmjdcajaoilgak

/- The same where the calls lay blocks: the worlds in which nothing that was there has turned. No Go text here. -/
namespace Go.Proofs.Ythmjdcajaoilgak
open Go Go.Sort Go.RowKit

theorem quiet_tail_of {P : Program} {C : World → Prop} {id : Nat} {Q : Exit → Act → World → Prop} {a : Act} {w : World} {l : List Oper} (n : Nat) (hm : P.follows .mixedOrders = true) (hB : Region.lexTailB .any l.toArray n = true) (hC : C { w with drawn := w.drawn + 1 })
    (h : wpQuiet P l.toArray C (fun a' => ∀ w', C w' → wpList P l.toArray Q (l.drop n) a' w') (l.take n) a) : (Code.region id l.toArray true).wp P Q a w := by
  simp only [Region.lexTailB, Bool.and_eq_true, decide_eq_true_eq] at hB
  obtain ⟨⟨⟨⟨hsel, hn⟩, hs⟩, hc⟩, hlex⟩ := hB
  have hn' : n < l.length := by simpa using hn
  have htl : (l.take n).length = n := by simp; omega
  have hdl : (l.drop n).length = l.toArray.size - n := by simp
  have inv0 : HeadInv .any l.toArray n (Array.replicate l.toArray.size false) :=
    ⟨by simp, fun j oj _ hl => (by rw [getD_replicate_false] at hl; cases hl), fun t _ ht => getD_in (by simpa using ht) (getD_replicate_false _ _)⟩
  have H := head_lex (g := l.toArray.size - n) hsel hs hc hn (l.take n) 0 _ a (fun j hj => by
    have hj' : j < n := by rw [htl] at hj; exact hj
    simp [hj']) (by simpa using htl) inv0 (by rw [htl]; exact hlex) h
  refine wp_region_any hm ?_
  have R := head_any (Q := Q) (g := l.toArray.size - n) (fun s a' w' hw' hL => by
    have := wpAny_of_seq (md := .any) (Q' := Q) (l.drop n) n s a' w' (fun j => by simp [List.getElem?_drop]) (by rw [hdl]; exact hL.1) (hL.2 w' hw')
    rwa [hdl] at this) _ _ _ _ hC H
  rw [htl, show n + (l.toArray.size - n) = l.toArray.size by omega] at R
  exact R
theorem below_tail {P : Program} {id : Nat} {Q : Exit → Act → World → Prop} {a : Act} {w : World} {l : List Oper} (n : Nat) (hm : P.follows .mixedOrders = true) (hB : Region.lexTailB .any l.toArray n = true)
    (h : wpQuiet P l.toArray (fun w' => ∃ p : Regrown, w' = grow (redrawn w p.d) p.os) (fun a' => ∀ w', (∃ p : Regrown, w' = grow (redrawn w p.d) p.os) → wpList P l.toArray Q (l.drop n) a' w') (l.take n) a) : (Code.region id l.toArray true).wp P Q a w :=
  quiet_tail_of (C := fun w' => ∃ p : Regrown, w' = grow (redrawn w p.d) p.os) n hm hB ⟨⟨w.drawn + 1, #[]⟩, by rw [grow_empty]; rfl⟩ h
theorem free_regrown {w : World} {a : Addr} (ha : a.block < w.heap.size) (h : w.frozen? a = false) (d : Nat) (os : Array Obj) : (grow (redrawn w d) os).frozen? a = false := by
  rw [World.frozen?_of_block (w := w) ((below_regrown w d os).block _ ha)]; exact h
end Go.Proofs.Ythmjdcajaoilgak

/- The reference's polynomials: products (PMul). -/
namespace Go.Proofs.Ythmjdcajaoilgak
open Go.RowKit Go.Sort

end Go.Proofs.Ythmjdcajaoilgak

/- The reference's polynomials: values of a polynomial that came in (value, PAt). -/
namespace Go.Proofs.Ythmjdcajaoilgak
open Go.RowKit

end Go.Proofs.Ythmjdcajaoilgak
