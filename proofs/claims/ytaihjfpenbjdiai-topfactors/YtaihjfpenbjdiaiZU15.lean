/- Texts of ours, one behind the other: U15 U16 U17 V1 V2 V3 W5 V4 V5. -/
import Derived.Test.YtaihjfpenbjdiaiZU11
import Derived.Test.YtaihjfpenbjdiaiZM7
import Derived.Test.YtaihjfpenbjdiaiZU2
import Derived.Lib.QuietBelow
/- The program's polynomials: with 1 at the end (monic); the calls that are listed: Gcd. -/
namespace Go.Proofs.Ytaihjfpenbjdiai
open Go.RowKit

/-- A polynomial's slice without noughts at the end: where it lies, its coefficients. -/
structure PA (D : FD) (ao : Option Addr) (n cap : Nat) (c : Nat → Nat) (w : World) : Prop where
  sl : Sl ao n c w
  lt : LtB ao w.heap.size
  nil : ao = none → cap = 0
  el : El D c
  trd : Trd n c
theorem PA.below {D : FD} {ao : Option Addr} {n cap : Nat} {c : Nat → Nat} {w w' : World} (h : PA D ao n cap c w) (hb : Below w.heap.size w w') : PA D ao n cap c w' :=
  ⟨h.sl.below hb h.lt, h.lt.mono hb.size, h.nil, h.el, h.trd⟩
theorem PA.drewN {D : FD} {ao : Option Addr} {n cap : Nat} {c : Nat → Nat} {w : World} (h : PA D ao n cap c w) (k : Nat) : PA D ao n cap c (w.drewN k) := ⟨h.sl, h.lt, h.nil, h.el, h.trd⟩
theorem OwnP.pa {D : FD} {base n : Nat} {v : Value} {c : Nat → Nat} {w : World} (h : OwnP base v n c w) (he : El D c) (ht : Trd n c) : ∃ ao cap, v = .slice ao n cap ∧ PA D ao n cap c w := by
  obtain ⟨ao, cap, hv, _, _, _, hl, hz, hs⟩ := h.open
  exact ⟨ao, cap, hv, hs, hl, hz, he, ht⟩

set_option maxHeartbeats 4000000 in
set_option maxRecDepth 100000 in
theorem monic_any {F T : Nat} {D : FD} (hD : D ∈ fieldsL) {g : Nat → Value} {w : World} (h : FAt F T D g w) {ao : Option Addr} {n cap : Nat} {c : Nat → Nat} (hn : n ≤ 999) (ha : PA D ao n cap c w) :
    Calls Try.prog 53 #[.pointer (some ⟨F, 0, none⟩), .slice ao n cap] w fun e w' => ∃ v, e = .returned v ∧ OwnP w.heap.size v n (D.mon c n) w' ∧ Below w.heap.size w w' := by
  have HF : Hid (FAt F T D g w ∧ D ∈ fieldsL ∧ PA D ao n cap c w) := ⟨h, hD, ha⟩
  clear h hD ha
  by_cases h0 : n = 0
  · have hz : ((n : Int) == 0) = true := by rw [h0]; rfl
    have HZ : Hid (n = 0) := h0
    clear h0
    go_enter Try.func53, Try.ntmps53
    go_wp2
    go_ret
    exact ⟨_, rfl, ⟨none, 0, by rw [HZ.out]; rfl, by have := HZ.out; omega, by omega, fun x hx => (by cases hx), fun x hx => (by cases hx), fun _ => rfl, fun h1 => absurd h1 (by have := HZ.out; omega)⟩, Below.refl _ _⟩
  · obtain ⟨l, rfl⟩ : ∃ l, n = l + 1 := ⟨n - 1, by omega⟩
    clear h0
    obtain ⟨b, off, rfl, hc⟩ := HF.out.2.2.sl l (by omega)
    obtain ⟨x, hx⟩ : ∃ x, x = c l := ⟨_, rfl⟩
    have HI : Hid (Calls Try.prog 14 #[.pointer (some ⟨F, 0, none⟩), .int .i64 (x : Nat)] w fun e w' => e = .returned (.int .i64 (D.iv x : Nat)) ∧ ∃ k, w' = w.drewN k) := by
      show Calls _ _ _ _ _
      rw [hx]; exact inv_nat' HF.out.2.1 HF.out.1 (HF.out.2.2.el l) (HF.out.2.2.trd.2 (by omega))
    rw [← hx] at hc
    have HX : Hid (x = c l) := hx
    clear hx
    go_enter Try.func53, Try.ntmps53
    go_wp2_with (go_at_call 14; refine HI.out.mono ?_; rintro e w' ⟨rfl, d, rfl⟩)
    have HP : Calls Try.prog 50 #[.pointer (some ⟨F, 0, none⟩), .slice (some ⟨b, off, none⟩) (l + 1) cap, .slice (some ⟨w.heap.size, 0, none⟩) 1 1] ((w.drewN d).alloc (.cells #[.int .i64 (D.iv x : Nat)] 3)) fun e w' =>
        ∃ v, e = .returned v ∧ OwnP w.heap.size v (l + 1) (D.mon c (l + 1)) w' ∧ Below w.heap.size w w' := by
      have hbl : Below w.heap.size w ((w.drewN d).alloc (.cells #[.int .i64 (D.iv x : Nat)] 3)) := (below_drewN2 (Below.refl _ _) d).alloc (Nat.le_refl _) _
      have hF := fld HF.out.2.1
      have hp1 := HF.out.2.2.below hbl
      have hone : Sl (some ⟨w.heap.size, 0, none⟩) 1 (fun k => if k = 0 then D.iv x else 0) ((w.drewN d).alloc (.cells #[.int .i64 (D.iv x : Nat)] 3)) := fun j hj => ⟨w.heap.size, 0, rfl, by
        have h : ((w.drewN d).alloc (.cells #[.int .i64 (D.iv x : Nat)] 3)).heap[w.heap.size]? = some (.cells #[.int .i64 (D.iv x : Nat)] 3 (0, 0)) := two_new (w := w.drewN d) _
        rw [cell_of_row _ _ _ _ _ (0, 0) h, show j = 0 from by omega]; rfl⟩
      have h := product_any HF.out.2.1 (HF.out.1.below hbl HF.out.1.ltF HF.out.1.ltT) (ca := cap) (cb := 1) (show l + 1 ≤ 1000 by omega) (show 1 ≤ 1000 by omega) HF.out.2.2.el (fun k => by show (if k = 0 then D.iv x else 0) < D.q; split; exact iv_lt HF.out.2.1 _; exact zero_lt' hF)
        (fun k hk => by show (if k = 0 then D.iv x else 0) = 0; rw [if_neg (by omega)]) hp1.sl hone hp1.lt (fun y hy => by cases hy; simp)
      have hm : pmul D (l + 1) c (fun k => if k = 0 then D.iv x else 0) = D.mon c (l + 1) := by
        rw [pmul_const hF HF.out.2.2.el HF.out.2.2.trd.1 (iv_lt HF.out.2.1 _), HX.out]; rfl
      rw [hm, (mon_trd HF.out.2.1 HF.out.2.2.el HF.out.2.2.trd).dgn (show l + 1 ≤ l + 1 + 1 by omega)] at h
      refine h.mono ?_
      rintro e w' ⟨rfl, hrow, hb'⟩
      exact ⟨_, rfl, OwnP.of_row hrow (by omega) (by omega) (by omega) (by simp), bel_up hbl hb'⟩
    refine HP.mono ?_
    rintro e w2 ⟨v, rfl, hown, hb2⟩
    have HR : Hid (OwnP w.heap.size v (l + 1) (D.mon c (l + 1)) w2 ∧ Below w.heap.size w w2) := ⟨hown, hb2⟩
    clear hown hb2 HP
    go_wp2
    go_ret
    exact ⟨v, rfl, HR.out.1, HR.out.2⟩

/-- A slice's length. -/
def slLen : Value → Nat
  | .slice _ n _ => n
  | _ => 0

/-- The common divisor of two lists that may be. -/
def FD.gcdL (D : FD) (n : Nat) (z : Nat → Int) (m : Nat) (y : Nat → Int) : (Nat → Nat) × Nat := D.gcd m (zc n z) (dgn (zc n z) n) (zc m y) (dgn (zc m y) m)

end Go.Proofs.Ytaihjfpenbjdiai

/- How many there are to try (tooMany, Tries). -/
namespace Go.Proofs.Ytaihjfpenbjdiai
open Go.RowKit

theorem pow_big {q i p : Nat} (hq : 1 ≤ q) (h : 4096 < q ^ i) (hp : i ≤ p) : 4096 < q ^ p := Nat.lt_of_lt_of_le h (Nat.pow_le_pow_right hq hp)

set_option maxHeartbeats 1000000 in
theorem tooMany_any (q p : Nat) (w : World) (hq : 1 ≤ q) (hq2 : q ≤ 64) (hp : p ≤ 1000) :
    Calls Try.prog 51 #[.int .i64 q, .int .i64 p] w fun e w' => e = .returned (.bool (decide (4096 < q ^ p))) ∧ w' = w := by
  go_enter Try.func51, Try.ntmps51
  go_wp2
  go_loop [5, 7] (fun x i => ∃ j y : Nat, j ≤ p ∧ y ≤ 4096 ∧ i = .int .i64 j ∧ x = .int .i64 y ∧ Hid (y = q ^ j)) (fun _ i => p - (intOf i).toNat)
  case atStart => exact ⟨0, 1, by omega, by omega, rfl, rfl, rfl⟩
  case round =>
    obtain ⟨j, y, hj, hy, rfl, rfl, HY⟩ := hrel
    by_cases hlt : j < p
    · have h1 : y * q ≤ 4096 * 64 := Nat.mul_le_mul hy hq2
      have h2 : (y : Int) * (q : Int) ≤ 262144 := by rw [← Int.natCast_mul]; omega
      have h3 : 0 ≤ (y : Int) * (q : Int) := by rw [← Int.natCast_mul]; omega
      have HP : Hid (y * q = q ^ (j + 1)) := by show _ = _; rw [HY.out, Nat.pow_succ]
      by_cases hbig : 4096 < y * q
      · have hb : (4096 : Int) < (y : Int) * (q : Int) := by rw [← Int.natCast_mul]; omega
        have HV : Hid (decide (4096 < q ^ p) = true) := decide_eq_true (pow_big hq (by rw [← HP.out]; exact hbig) hlt)
        go_wp2
        go_ret
        exact ⟨ret_bool HV.out.symm, rfl⟩
      · have hb : ¬ (4096 : Int) < (y : Int) * (q : Int) := by rw [← Int.natCast_mul]; omega
        go_wp2
        go_round
        case rel => exact ⟨j + 1, y * q, by omega, by omega, by go_num, by go_num, HP.out⟩
        case measure => simp [intOf]; omega
    · have HV : Hid (decide (4096 < q ^ p) = false) := decide_eq_false (by rw [show p = j from by omega, ← HY.out]; omega)
      go_wp2
      go_ret
      exact ⟨ret_bool HV.out.symm, rfl⟩

end Go.Proofs.Ytaihjfpenbjdiai

/- Does an element stand twice in a list (hasTwice)? -/
namespace Go.Proofs.Ytaihjfpenbjdiai
open Go.RowKit

/-- Some number stands twice among the first n. -/
def Twice (c : Nat → Nat) (n : Nat) : Prop := ∃ i j, i < j ∧ j < n ∧ c i = c j

end Go.Proofs.Ytaihjfpenbjdiai

/- The reference's polynomials: without noughts at the end (Trim); which may be (PolyMay). -/
namespace Go.Proofs.Ytaihjfpenbjdiai
open Go.RowKit

end Go.Proofs.Ytaihjfpenbjdiai

/- The reference's polynomials: which may be (PolyMay). -/
namespace Go.Proofs.Ytaihjfpenbjdiai
open Go.RowKit

end Go.Proofs.Ytaihjfpenbjdiai

/- The reference's polynomials: sums (PAdd). -/
namespace Go.Proofs.Ytaihjfpenbjdiai
open Go.RowKit

/-- The n coefficients c as a list of numbers. -/
def NL (n : Nat) (c : Nat → Nat) : List Int := (List.range n).map fun k => ((c k : Nat) : Int)
theorem NL_len (n : Nat) (c : Nat → Nat) : (NL n c).length = n := by simp [NL]
theorem NL_succ (n : Nat) (c : Nat → Nat) : NL (n + 1) c = NL n c ++ [((c n : Nat) : Int)] := by unfold NL; rw [List.range_succ, List.map_append]; rfl
theorem NL_get (n : Nat) (c : Nat → Nat) (j : Nat) (hj : j < n) : (NL n c).getD j 0 = ((c j : Nat) : Int) := by
  unfold NL
  rw [List.getD_eq_getElem?_getD, List.getElem?_map, List.getElem?_range hj]; rfl
theorem NL_congr {n : Nat} {c d : Nat → Nat} (h : ∀ k, k < n → c k = d k) : NL n c = NL n d := by
  unfold NL
  exact List.map_congr_left fun k hk => by rw [h k (List.mem_range.1 hk)]
theorem OwnI.ownP {base n : Nat} {v : Value} {c : Nat → Nat} {w : World} (h : OwnI base v (NL n c) w) : OwnP base v n c w := by
  rcases h.2 with ⟨h1, h2⟩ | ⟨g, cap, cur, hv, hg, hh, hle, hcm, hsz, htake⟩
  · rw [NL_len] at h2
    subst h2
    exact ⟨none, 0, h1, Nat.le_refl _, by omega, fun x hx => (by cases hx), fun x hx => (by cases hx), fun _ => rfl, fun h0 => absurd h0 (by omega)⟩
  · rw [NL_len] at hv hle
    refine ⟨_, cap, hv, hle, by unfold maxLen at hcm; omega, fun x hx => (by cases hx; exact hg), fun x hx => (by cases hx; exact lt_of_block hh), fun e => (by cases e), fun h0 => ⟨g, rfl, ?_⟩⟩
    obtain ⟨g', cap', f, hv', hg', hl', hle', hcm', hrow, hf⟩ := h.row n (NL_len n c) h0
    rw [hv'] at hv
    simp only [Value.slice.injEq, Option.some.injEq, Addr.mk.injEq, and_true, true_and] at hv
    obtain ⟨rfl, rfl⟩ := hv
    exact ⟨_, f, hrow, hle', fun k hk => by rw [hf k hk, NL_get n c k hk]⟩

end Go.Proofs.Ytaihjfpenbjdiai

/- The same where the calls lay blocks: the worlds in which nothing that was there has turned. No Go text here. -/
namespace Go.Proofs.Ytaihjfpenbjdiai
open Go Go.Sort Go.RowKit

theorem quiet_tail_of {P : Program} {C : World → Prop} {id : Nat} {Q : Exit → Act → World → Prop} {a : Act} {w : World} {l : List Oper} (n : Nat) (hm : P.follows .mixedOrders = true) (hB : Region.lexTailB .any l.toArray n = true) (hC : C { w with drawn := w.drawn + 1 })
    (h : wpQuiet P l.toArray C (fun a' => ∀ w', C w' → wpList P l.toArray Q (l.drop n) a' w') (l.take n) a) : (Code.region id l.toArray true).wp P Q a w := by
  simp only [Region.lexTailB, Bool.and_eq_true, decide_eq_true_eq] at hB
  obtain ⟨⟨⟨⟨hsel, hn⟩, hs⟩, hc⟩, hlex⟩ := hB
  have hn' : n < l.length := by simpa using hn
  have htl : (l.take n).length = n := by simp; omega
  have hdl : (l.drop n).length = l.toArray.size - n := by simp
  have inv0 : HeadInv .any l.toArray n (Array.replicate l.toArray.size false) :=
    ⟨by simp, fun j oj _ hl => (by rw [getD_replicate_false] at hl; cases hl), fun t _ ht => getD_in (by simpa using ht) (getD_replicate_false _ _)⟩
  have H := head_lex (g := l.toArray.size - n) hsel hs hc hn (l.take n) 0 _ a (fun j hj => by
    have hj' : j < n := by rw [htl] at hj; exact hj
    simp [hj']) (by simpa using htl) inv0 (by rw [htl]; exact hlex) h
  refine wp_region_any hm ?_
  have R := head_any (Q := Q) (g := l.toArray.size - n) (fun s a' w' hw' hL => by
    have := wpAny_of_seq (md := .any) (Q' := Q) (l.drop n) n s a' w' (fun j => by simp [List.getElem?_drop]) (by rw [hdl]; exact hL.1) (hL.2 w' hw')
    rwa [hdl] at this) _ _ _ _ hC H
  rw [htl, show n + (l.toArray.size - n) = l.toArray.size by omega] at R
  exact R
theorem below_tail {P : Program} {id : Nat} {Q : Exit → Act → World → Prop} {a : Act} {w : World} {l : List Oper} (n : Nat) (hm : P.follows .mixedOrders = true) (hB : Region.lexTailB .any l.toArray n = true)
    (h : wpQuiet P l.toArray (fun w' => ∃ p : Regrown, w' = grow (redrawn w p.d) p.os) (fun a' => ∀ w', (∃ p : Regrown, w' = grow (redrawn w p.d) p.os) → wpList P l.toArray Q (l.drop n) a' w') (l.take n) a) : (Code.region id l.toArray true).wp P Q a w :=
  quiet_tail_of (C := fun w' => ∃ p : Regrown, w' = grow (redrawn w p.d) p.os) n hm hB ⟨⟨w.drawn + 1, #[]⟩, by rw [grow_empty]; rfl⟩ h
theorem free_regrown {w : World} {a : Addr} (ha : a.block < w.heap.size) (h : w.frozen? a = false) (d : Nat) (os : Array Obj) : (grow (redrawn w d) os).frozen? a = false := by
  rw [World.frozen?_of_block (w := w) ((below_regrown w d os).block _ ha)]; exact h
end Go.Proofs.Ytaihjfpenbjdiai

/- The reference's polynomials: products (PMul). -/
namespace Go.Proofs.Ytaihjfpenbjdiai
open Go.RowKit Go.Sort

end Go.Proofs.Ytaihjfpenbjdiai

/- The reference's polynomials: values of a polynomial that came in (value, PAt). -/
namespace Go.Proofs.Ytaihjfpenbjdiai
open Go.RowKit

end Go.Proofs.Ytaihjfpenbjdiai
