/- Texts of ours, one behind the other: KE21 W14 W15 KL1 KL2 KL3 KL4 KL5 KL6 KL7. -/
import Derived.Test.YtmklnjkallhphaaZKD6
import Derived.Test.YtmklnjkallhphaaZX18
import Derived.RangeFuncNested
import Derived.RangeFuncBound
import Derived.RangeFuncCalls
import Derived.RangeFuncLeaves
import Derived.WalkKit
import Derived.Test.YtmklnjkallhphaaZW4
import Derived.Test.YtmklnjkallhphaaZW11
import Derived.OrdersIn
import Derived.Test.YtmklnjkallhphaaZB3
import Derived.Shelf.Abstract
import Derived.Shelf.RegionOpen
import Derived.OwnWalkIn
import Derived.TacticsInMore
import Derived.LoopNIn
import Derived.LoopIn
import Derived.Test.YtmklnjkallhphaaZI10
import Derived.Test.YtmklnjkallhphaaZI6
import Derived.Test.YtmklnjkallhphaaZI21
import Derived.Deep.RegionHeld3
import Derived.Test.YtmklnjkallhphaaZS8
/- Checks and words out of raw numbers (ChecksOf, WordOf; printed by make/ke21.py). -/
namespace Go.Proofs.Ytmklnjkallhphaa
open Go.RowKit Go.Sort

theorem crow_congr {n : Int} {z y : Nat → Int} : ∀ m, (∀ j, j < m → z j = y j) → crow n z m = crow n y m
  | 0, _ => rfl
  | m + 1, h => by
    show (if crow n z m ≠ 0 then crow n z m else if z m < 0 ∨ n ≤ z m then 10 else if 0 < m ∧ z m ≤ z (m - 1) then 3 else 0) = if crow n y m ≠ 0 then crow n y m else if y m < 0 ∨ n ≤ y m then 10 else if 0 < m ∧ y m ≤ y (m - 1) then 3 else 0
    rw [crow_congr m (fun j hj => h j (by omega)), h m (by omega)]
    by_cases e : 0 < m
    · rw [h (m - 1) (by omega)]
    · have e1 : ¬ (0 < m ∧ y m ≤ z (m - 1)) := fun x => e x.1
      have e2 : ¬ (0 < m ∧ y m ≤ y (m - 1)) := fun x => e x.1
      rw [if_neg e1, if_neg e2]
/-- A rising list of places below k, all of them below K. -/
structure RsL (K k m : Nat) (z : Nat → Int) : Prop where
  few : m ≤ k
  at' : ∀ j, j < m → 0 ≤ z j ∧ z j < (k : Int)
  ok : crow (K : Int) z m = 0
theorem RsL.skip {K k m : Nat} {z : Nat → Int} (h : RsL K k m z) : RsL K (k + 1) m z := ⟨by have := h.few; omega, fun j hj => by have := h.at' j hj; omega, h.ok⟩
theorem RsL.put {K k m : Nat} {z : Nat → Int} (h : RsL K k m z) (hk : k < K) : RsL K (k + 1) (m + 1) (fun j => if j = m then (k : Int) else z j) := by
  refine ⟨by have := h.few; omega, fun j hj => ?_, ?_⟩
  · show 0 ≤ (if j = m then (k : Int) else z j) ∧ (if j = m then (k : Int) else z j) < ((k + 1 : Nat) : Int)
    by_cases e : j = m
    · rw [if_pos e]; omega
    · rw [if_neg e]; have := h.at' j (by omega); omega
  · have e0 : crow (K : Int) (fun j => if j = m then (k : Int) else z j) m = 0 := by
      rw [crow_congr (y := z) m (fun j hj => if_neg (by omega))]; exact h.ok
    show (if crow (K : Int) (fun j => if j = m then (k : Int) else z j) m ≠ 0 then _ else if (if m = m then (k : Int) else z m) < 0 ∨ (K : Int) ≤ (if m = m then (k : Int) else z m) then 10 else if 0 < m ∧ (if m = m then (k : Int) else z m) ≤ (if m - 1 = m then (k : Int) else z (m - 1)) then 3 else 0) = 0
    rw [if_neg (fun x => x e0), if_pos rfl, if_neg (by omega), if_neg ?_]
    rintro ⟨h1, h2⟩
    rw [if_neg (by omega)] at h2
    have := h.at' (m - 1) (by omega)
    omega
/-- i rising lists of places below K, in a list of the call's own. -/
structure MkV (base K i : Nat) (v : Value) (vs : Nat → Value) (N : Nat → Nat) (Z : Nat → Nat → Int) (w : World) : Prop where
  own : OwnV base v (vl i vs) w
  row : ∀ j, j < i → OwnI base (vs j) (zl (N j) (Z j)) w
  ris : ∀ j, j < i → RsL K K (N j) (Z j)
theorem MkV.below {base K i : Nat} {v : Value} {vs : Nat → Value} {N : Nat → Nat} {Z : Nat → Nat → Int} {w w' : World} (h : MkV base K i v vs N Z w) (hb : Below w.heap.size w w') : MkV base K i v vs N Z w' :=
  ⟨h.own.below hb (Nat.le_refl _), fun j hj => (h.row j hj).below hb (fun k hk => ((h.row j hj).lt k hk).2), h.ris⟩
theorem MkV.push {base K i c : Nat} {v v' u : Value} {vs : Nat → Value} {N : Nat → Nat} {Z : Nat → Nat → Int} {y : Nat → Int} {w w' : World} (h : MkV base K i v vs N Z w) (hu : OwnI base u (zl c y) w) (hy : RsL K K c y) (ho : OwnV base v' (vl i vs ++ [u]) w') (hg : w.grownBy w' v.ownBlock) :
    MkV base K (i + 1) v' (fun j => if j = i then u else vs j) (fun j => if j = i then c else N j) (fun j => if j = i then y else Z j) w' := by
  refine ⟨?_, fun j hj => ?_, fun j hj => ?_⟩
  · have e : vl (i + 1) (fun j => if j = i then u else vs j) = vl i vs ++ [u] := by
      unfold vl
      rw [List.range_succ, List.map_append]
      congr 1
      · exact List.map_congr_left (fun j hj => by rw [if_neg (by have := List.mem_range.1 hj; omega)])
      · simp
    rw [e]; exact ho
  · by_cases e : j = i
    · simp only [if_pos e]; exact hu.kept hg (hu.apart h.own)
    · simp only [if_neg e]; exact (h.row j (by omega)).kept hg ((h.row j (by omega)).apart h.own)
  · by_cases e : j = i
    · simp only [if_pos e]; exact hy
    · simp only [if_neg e]; exact h.ris j (by omega)
theorem MkV.matZ {base K i : Nat} {v : Value} {vs : Nat → Value} {N : Nat → Nat} {Z : Nat → Nat → Int} {w : World} (h : MkV base K i v vs N Z w) (hK : K ≤ 1000000) : ∃ mo mc, v = .slice mo i mc ∧ MatZ mo i (fun j => slA (vs j)) N (fun j => slC (vs j)) Z w := by
  obtain ⟨mo, mc, hv, _, _, _, hcell⟩ := h.own.open
  rw [vl_len] at hv
  have key : ∀ j, j < i → ∃ so sc, vs j = .slice so (N j) sc ∧ ArgL so (N j) sc (Z j) w := fun j hj => (h.row j hj).argL
  refine ⟨mo, mc, hv, ⟨fun j hj => ?_, fun j hj => ?_, fun j hj => ?_, fun j hj => ?_, fun j hj => ?_, fun j hj => by have := (h.ris j hj).few; omega⟩⟩
  · obtain ⟨g, e, hc, _⟩ := hcell j (vs j) (vl_get i vs j hj)
    obtain ⟨so, sc, e2, _⟩ := key j hj
    refine ⟨g, 0, e, ?_⟩
    rw [Nat.zero_add, hc, e2]; rfl
  · obtain ⟨so, sc, e2, ha⟩ := key j hj
    simp only [e2, slA]; exact ha.sl
  · obtain ⟨so, sc, e2, ha⟩ := key j hj
    simp only [e2, slC]; exact ha.le
  · obtain ⟨so, sc, e2, ha⟩ := key j hj
    simp only [e2, slC]; exact ha.cap
  · obtain ⟨so, sc, e2, ha⟩ := key j hj
    simp only [e2, slA, slC]; exact ha.nil

/-- Bits, and what is lost, where something may be. -/
def WdB (lost : Bool) (n : Nat) (y : Nat → Int) : Prop := ∀ j, j < n → (y j = 0 ∨ y j = 1) ∨ (lost = true ∧ y j = -1)
theorem WdB.put {lost : Bool} {r : Nat} {y : Nat → Int} {v : Int} (h : WdB lost r y) (hv : (v = 0 ∨ v = 1) ∨ (lost = true ∧ v = -1)) : WdB lost (r + 1) (fun j => if j = r then v else y j) := fun j hj => by
  show ((if j = r then v else y j) = 0 ∨ (if j = r then v else y j) = 1) ∨ (lost = true ∧ (if j = r then v else y j) = -1)
  by_cases e : j = r
  · rw [if_pos e]; exact hv
  · rw [if_neg e]; exact h j (by omega)

set_option maxHeartbeats 8000000 in
set_option maxRecDepth 100000 in
theorem wordOf_any {ao : Option Addr} {n ca : Nat} {z : Nat → Int} {w : World} (h : Arg ao n ca z w) (hn : n ≤ 1000) (f k : Nat) (lost : Bool) (hf : f ≤ 1000) (hk : k ≤ 1000) :
    Calls Try.prog 21 #[.slice ao n ca, .int .i64 f, .int .i64 k, .bool lost] w fun e w' => ∃ v y, e = .returned v ∧ OwnI w.heap.size v (zl k y) w' ∧ WdB lost k y ∧ Below w.heap.size w w' := by
  have HA : Hid (Arg ao n ca z w) := h
  have HPi : Hid (∀ (x : Int) (q : Nat), I64 x → 1 ≤ q → q ≤ 100 → ∃ M : Nat, M < q ∧ ∀ w : World, Calls Try.prog 20 #[.int .i64 x, .int .i64 (q : Nat)] w fun e w' => e = .returned (.int .i64 (M : Nat)) ∧ w' = w) := fun x q hx h1 h2 => by
    have h3 := pick_lo x (q : Int) (by omega)
    have h4 := pick_hi x (q : Int) (by omega)
    exact ⟨(pick x (q : Int)).toNat, by omega, fun w => by rw [Int.toNat_of_nonneg h3]; exact pick_any x q w hx.1 hx.2 (by omega) (by omega)⟩
  clear h
  go_enter Try.func21, Try.ntmps21
  go_wp2
  go_loopw [9, 10] (fun vl vi wr => ∃ (r : Nat) (y : Nat → Int), r ≤ k ∧ vi = .int .i64 r ∧ Hid (OwnI w.heap.size vl (zl r y) wr ∧ WdB lost r y ∧ Below w.heap.size w wr)) (fun _ vi _ => k - (intOf vi).toNat)
  case atStart => exact ⟨0, fun _ => 0, by omega, rfl, OwnI.nil _ _, fun j hj => absurd hj (by omega), Below.refl _ _⟩
  case round =>
    obtain ⟨r, y, hr, rfl, HG⟩ := hrel
    rename World => wr
    have hsz := HG.out.2.2.size
    by_cases hlt : r < k
    · have hib : (r : Int) < (k : Int) := by omega
      have HRa : Hid (∀ wx, Below w.heap.size w wx → Calls Try.prog 22 #[.slice ao n ca, .int .i64 ((f : Int) + (r : Int))] wx fun e w' => (∃ x, e = .returned (.int .i64 x) ∧ I64 x) ∧ ∃ k, w' = wx.drewN k) := fun wx hb => by
        have h := raw_any (HA.out.below hb) hn (f + r) (by omega)
        rw [Int.natCast_add] at h; exact h
      go_wp2_with fail
      refine (HRa.out wr HG.out.2.2).mono ?_
      rintro e w1 ⟨⟨x, rfl, hx⟩, k1, hw1⟩
      have HG1 : Hid (OwnI w.heap.size u9 (zl r y) w1 ∧ Below w.heap.size w w1) := by rw [hw1]; exact ⟨HG.out.1.drewN _, below_drewN2 HG.out.2.2 _⟩
      have hsz1 := HG1.out.2.size
      clear hw1
      obtain ⟨p, hp4, hP⟩ := HPi.out x 4 hx (by omega) (by omega)
      have HP : Hid (∀ w : World, Calls Try.prog 20 #[.int .i64 x, .int .i64 4] w fun e w' => e = .returned (.int .i64 (p : Nat)) ∧ w' = w) := hP
      clear hP hx
      go_wp2_with fail
      refine (HP.out w1).mono ?_
      rintro e w' ⟨rfl, hw⟩
      have hw := hw.symm
      subst hw
      clear HP
      by_cases hp : p ≤ 1
      · have hpb : ¬ (1 : Int) < (p : Int) := by omega
        have hpc : ¬ (p : Int) > 1 := by omega
        go_wp2_with (at_builtin; refine append_int rfl _ _ rfl w.heap.size _ (zl r y) rfl (HG1.out.1.alloc _) ⟨_, 0, none⟩ 1 (p : Int) rfl (by simp) (by rw [zl_len]; omega) (by simp; omega) ?_; intro v2 w3 hown3 hgrow3)
        have HX : Hid (OwnI w.heap.size v2 (zl (r + 1) (fun j => if j = r then (p : Int) else y j)) w3 ∧ WdB lost (r + 1) (fun j => if j = r then (p : Int) else y j) ∧ Below w.heap.size w w3) := by
          refine ⟨?_, HG.out.2.1.put (Or.inl (by omega)), (HG1.out.2.alloc hsz1 _).grown hgrow3 (by simp; omega) (fun k hk => (HG1.out.1.lt k hk).1)⟩
          rw [zl_succ, zl_congr (y := y) (fun j hj => by show (if j = r then (p : Int) else y j) = y j; rw [if_neg (by omega)])]
          show OwnI w.heap.size v2 (zl r y ++ [if r = r then (p : Int) else y r]) w3
          rw [if_pos rfl]; exact hown3
        clear hown3 hgrow3
        go_roundw
        case rel => exact ⟨r + 1, _, by omega, by go_num, HX.out⟩
        case measure => simp [intOf]; omega
      · have hpb : (1 : Int) < (p : Int) := by omega
        have hpc : (p : Int) > 1 := by omega
        obtain ⟨p2, hp2⟩ : ∃ p2 : Nat, p = p2 + 2 := ⟨p - 2, by omega⟩
        have hsub : (p : Int) - 2 = (p2 : Int) := by omega
        have hp21 : p2 ≤ 1 := by omega
        have hsw : IntKind.i64.wrap ((p : Int) - 2) = (p2 : Int) := wrap_to (by omega) (by omega)
        clear hp2 hp hp4
        cases lost with
        | false =>
          go_wp2_with (at_builtin; refine append_int rfl _ _ rfl w.heap.size _ (zl r y) rfl (HG1.out.1.alloc _) ⟨_, 0, none⟩ 1 (p2 : Int) rfl (by simp) (by rw [zl_len]; omega) (by simp; omega) ?_; intro v2 w3 hown3 hgrow3)
          have HX : Hid (OwnI w.heap.size v2 (zl (r + 1) (fun j => if j = r then (p2 : Int) else y j)) w3 ∧ WdB false (r + 1) (fun j => if j = r then (p2 : Int) else y j) ∧ Below w.heap.size w w3) := by
            refine ⟨?_, HG.out.2.1.put (Or.inl (by omega)), (HG1.out.2.alloc hsz1 _).grown hgrow3 (by simp; omega) (fun k hk => (HG1.out.1.lt k hk).1)⟩
            rw [zl_succ, zl_congr (y := y) (fun j hj => by show (if j = r then (p2 : Int) else y j) = y j; rw [if_neg (by omega)])]
            show OwnI w.heap.size v2 (zl r y ++ [if r = r then (p2 : Int) else y r]) w3
            rw [if_pos rfl]; exact hown3
          clear hown3 hgrow3
          go_roundw
          case rel => exact ⟨r + 1, _, by omega, by go_num, HX.out⟩
          case measure => simp [intOf]; omega
        | true =>
          go_wp2_with fail
          refine (HRa.out w1 HG1.out.2).mono ?_
          rintro e w2 ⟨⟨x2, rfl, hx2⟩, k2, hw2⟩
          have HG2 : Hid (OwnI w.heap.size u9 (zl r y) w2 ∧ Below w.heap.size w w2) := by rw [hw2]; exact ⟨HG1.out.1.drewN _, below_drewN2 HG1.out.2 _⟩
          have hsz2 := HG2.out.2.size
          clear hw2
          obtain ⟨x3, hx3⟩ : ∃ x3, IntKind.i64.wrap (x2.tdiv 4) = x3 := ⟨_, rfl⟩
          have hI3 : I64 x3 := by rw [← hx3]; exact i64_wrap _
          obtain ⟨M, hM2, hP⟩ := HPi.out x3 2 hI3 (by omega) (by omega)
          have HP : Hid (∀ w : World, Calls Try.prog 20 #[.int .i64 x3, .int .i64 2] w fun e w' => e = .returned (.int .i64 (M : Nat)) ∧ w' = w) := hP
          clear hP hI3 hx2
          go_wp2_with fail
          refine (HP.out w2).mono ?_
          rintro e w' ⟨rfl, hw⟩
          have hw := hw.symm
          subst hw
          clear HP
          by_cases hM0 : M = 0
          · have hz : ((M : Int) == 0) = true := by rw [hM0]; rfl
            clear hM0
            go_wp2_with (at_builtin; refine append_int rfl _ _ rfl w.heap.size _ (zl r y) rfl (HG2.out.1.alloc _) ⟨_, 0, none⟩ 1 (-1 : Int) rfl (by simp) (by rw [zl_len]; omega) (by simp; omega) ?_; intro v2 w3 hown3 hgrow3)
            have HX : Hid (OwnI w.heap.size v2 (zl (r + 1) (fun j => if j = r then (-1 : Int) else y j)) w3 ∧ WdB true (r + 1) (fun j => if j = r then (-1 : Int) else y j) ∧ Below w.heap.size w w3) := by
              refine ⟨?_, HG.out.2.1.put (Or.inr ⟨rfl, rfl⟩), (HG2.out.2.alloc hsz2 _).grown hgrow3 (by simp; omega) (fun k hk => (HG2.out.1.lt k hk).1)⟩
              rw [zl_succ, zl_congr (y := y) (fun j hj => by show (if j = r then (-1 : Int) else y j) = y j; rw [if_neg (by omega)])]
              show OwnI w.heap.size v2 (zl r y ++ [if r = r then (-1 : Int) else y r]) w3
              rw [if_pos rfl]; exact hown3
            clear hown3 hgrow3
            go_roundw
            case rel => exact ⟨r + 1, _, by omega, by go_num, HX.out⟩
            case measure => simp [intOf]; omega
          · have hz : ((M : Int) == 0) = false := by rw [beq_eq_false_iff_ne]; omega
            clear hM0
            go_wp2_with (at_builtin; refine append_int rfl _ _ rfl w.heap.size _ (zl r y) rfl (HG2.out.1.alloc _) ⟨_, 0, none⟩ 1 (p2 : Int) rfl (by simp) (by rw [zl_len]; omega) (by simp; omega) ?_; intro v2 w3 hown3 hgrow3)
            have HX : Hid (OwnI w.heap.size v2 (zl (r + 1) (fun j => if j = r then (p2 : Int) else y j)) w3 ∧ WdB true (r + 1) (fun j => if j = r then (p2 : Int) else y j) ∧ Below w.heap.size w w3) := by
              refine ⟨?_, HG.out.2.1.put (Or.inl (by omega)), (HG2.out.2.alloc hsz2 _).grown hgrow3 (by simp; omega) (fun k hk => (HG2.out.1.lt k hk).1)⟩
              rw [zl_succ, zl_congr (y := y) (fun j hj => by show (if j = r then (p2 : Int) else y j) = y j; rw [if_neg (by omega)])]
              show OwnI w.heap.size v2 (zl r y ++ [if r = r then (p2 : Int) else y r]) w3
              rw [if_pos rfl]; exact hown3
            clear hown3 hgrow3
            go_roundw
            case rel => exact ⟨r + 1, _, by omega, by go_num, HX.out⟩
            case measure => simp [intOf]; omega
    · have hib : ¬ (r : Int) < (k : Int) := by omega
      have e : r = k := by omega
      subst e
      go_wp2
      go_ret
      exact ⟨_, rfl, y, HG.out.1, HG.out.2.1, HG.out.2.2⟩
end Go.Proofs.Ytmklnjkallhphaa

/- A range over a function whose rounds are handed memory: a law of our own over the library's steps. No Go text here. -/
namespace Go.Proofs.Ytmklnjkallhphaa
open Go.RowKit

/-- What is not one's own lies as it lay. -/
structure KpO (own : Nat → Prop) (X Y : World) : Prop where
  os : Y.os = X.os
  tape : Y.tape = X.tape
  output : Y.output = X.output
  size : X.heap.size ≤ Y.heap.size
  same : ∀ k, k < X.heap.size → ¬ own k → Y.heap[k]? = X.heap[k]?
/-- Cells, and whatever lies below B, lie as they lay. -/
structure GrC (B : Nat) (X Y : World) : Prop where
  os : Y.os = X.os
  tape : Y.tape = X.tape
  output : Y.output = X.output
  size : X.heap.size ≤ Y.heap.size
  same : ∀ k, k < X.heap.size → (k < B ∨ ∀ o, X.heap[k]? = some o → o.isCells = true) → Y.heap[k]? = X.heap[k]?
theorem GrC.of_below {B : Nat} {X Y : World} (h : Below X.heap.size X Y) : GrC B X Y := ⟨h.os, h.tape, h.output, h.size, fun k hk _ => h.block k hk⟩
theorem GrC.put {B l : Nat} {X : World} {o : Obj} (o' : Obj) (hl : B ≤ l) (h : X.heap[l]? = some o) (hc : o.isCells = false) : GrC B X (X.putObj l o') :=
  ⟨rfl, rfl, rfl, by simp, fun k hk hx => World.putObj_heap_other (fun e => by
    subst e
    rcases hx with hx | hx
    · omega
    · rw [hx o h] at hc; cases hc)⟩
theorem KpO.refl (own : Nat → Prop) (X : World) : KpO own X X := ⟨rfl, rfl, rfl, Nat.le_refl _, fun _ _ _ => rfl⟩
theorem KpO.trans {own : Nat → Prop} {X Y Z : World} (h : KpO own X Y) (k : KpO own Y Z) : KpO own X Z :=
  ⟨k.os.trans h.os, k.tape.trans h.tape, k.output.trans h.output, Nat.le_trans h.size k.size, fun i hi hn => (k.same i (Nat.lt_of_lt_of_le hi h.size) hn).trans (h.same i hi hn)⟩
theorem KpO.mono {own own' : Nat → Prop} {X Y : World} (h : KpO own X Y) (hm : ∀ k, own k → own' k) : KpO own' X Y := ⟨h.os, h.tape, h.output, h.size, fun k hk hn => h.same k hk (fun e => hn (hm k e))⟩
theorem KpO.of_below {own : Nat → Prop} {X Y : World} (h : Below X.heap.size X Y) : KpO own X Y := ⟨h.os, h.tape, h.output, h.size, fun k hk _ => h.block k hk⟩
theorem KpO.put {own : Nat → Prop} (X : World) (l : Nat) (o : Obj) (hl : own l) : KpO own X (X.putObj l o) :=
  ⟨rfl, rfl, rfl, by simp, fun _ _ hn => World.putObj_heap_other (fun e => hn (by rw [e]; exact hl))⟩
theorem KpO.setCell {own : Nat → Prop} (X : World) (a : Addr) (v : Value) (hl : own a.block) : KpO own X (X.setCell a v) :=
  ⟨rfl, rfl, rfl, by simp [World.setCell], fun k _ hn => Below.heap_setCell X a v k (fun e => hn (by rw [e]; exact hl))⟩

/-- An iterator that hands on N things: the r-th one is told by E, in the world in which it is handed on. A round may change what is the loop's own. -/
def SeqI (P : Program) (gf : Nat) (lb : Array Value) (N : Nat) (E : Nat → Array Value → World → Prop) (own : Nat → Prop) (w0 : World) : Prop :=
  ∀ (l : Nat) (J : Nat → World → Prop) (W : World), Below w0.heap.size w0 W → w0.heap.size ≤ l → l < W.heap.size →
    (∀ r X Y, J r X → Below X.heap.size X Y → J r Y) →
    (∀ r args X, r < N → J r X → E r args X → YieldAt Fence.wide 0 P l args X fun e Y => e = .returned (.bool true) ∧ J (r + 1) Y ∧ KpO (fun k => own k ∨ k = l) X Y) →
    J 0 W → CallsIn Fence.wide 0 P gf (#[.func (.yield l) #[] #[]] ++ lb) W fun e W' => (∃ v, e = .returned v) ∧ J N W'

/-- The law: a loop whose body never leaves it. -/
theorem range_law {P : Program} {g : Operand} {ps : Array Tmp} {assign body : Code} {Q : Exit → Act → World → Prop} {a : Act} {w : World} {gf : Nat} {lb : Array Value}
    (hg : a.eval g = .func (.func gf) #[] lb) (eg : ∀ args w, (callFunc gf args).run P w = .ok (.enter gf args) w)
    {N : Nat} {E : Nat → Array Value → World → Prop} {own : Nat → Prop} (hseq : SeqI P gf lb N E own w) (hown : ∀ k, own k → k < w.heap.size)
    (hps : ∀ r args X, E r args X → args.size = ps.size)
    (I : Nat → World → Prop) (hI : ∀ r X Y, I r X → GrC w.heap.size X Y → I r Y) (hE : ∀ r args X Y, E r args X → GrC w.heap.size X Y → E r args Y) (h0 : I 0 w) (a₁ : Array Value → Act)
    (hassign : ∀ (l r : Nat) (args : Array Value) (X : World) (K : Act → World → Prop), E r args X → K (a₁ args) X →
      assign.wpIn (Fence.wide.inRound l) 0 P (Exit.then K (fun _ _ _ => False)) { tmps := (ps.zip args).foldl (fun t (p, v) => t.setIfInBounds p v) a.tmps, defers := [] } X)
    (hbody : ∀ (l r : Nat) (args : Array Value) (X : World), r < N → I r X → E r args X → body.wpIn (Fence.wide.inRound l) 0 P (fun e _ Y => e = .normal ∧ KpO own X Y ∧ I (r + 1) Y) (a₁ args) X)
    (hdone : ∀ (D : Nat) (W : World), w.heap.size ≤ D → I N W → W.heap[D]? = some (.deferred (some [])) → Q .normal { a with defers := { target := .collected D, args := #[] } :: a.defers } W) :
    (Code.rangeFunc g ps assign body).wp P Q a w := by
  refine (wpIn_wide (n := 0)).1 (wpIn_rangeFunc ?_)
  intro fn hfn
  obtain ⟨B, hB⟩ : ∃ B, B = w.heap.size := ⟨_, rfl⟩
  obtain ⟨rc, hrc⟩ : ∃ rc : LoopState → Option Code → Loop, rc = fun st pe => { state := st, pending := pe, fn, tmps := a.tmps, params := ps, assign, body, defers := w.heap.size } := ⟨_, rfl⟩
  obtain ⟨W, hW⟩ : ∃ W, W = (w.alloc (.deferred (some []))).alloc (.loop (rc .ready none)) := ⟨_, rfl⟩
  have hs1 : (w.alloc (.deferred (some []))).heap.size = B + 1 := by rw [World.size_alloc, hB]
  have hsW : W.heap.size = B + 2 := by rw [hW, World.size_alloc, hs1]
  have hlW : W.heap[B + 1]? = some (.loop (rc .ready none)) := by rw [hW, ← hs1]; exact World.alloc_heap_new _ _
  have hdW : W.heap[B]? = some (.deferred (some [])) := by rw [hW, Below.heap_alloc _ _ _ (by rw [hs1]; omega), hB]; exact World.alloc_heap_new w _
  have hbW : Below w.heap.size w W := by rw [hW]; exact ((Below.refl _ w).alloc (Nat.le_refl _) _).alloc (by simp) _
  have hIW : I 0 W := hI 0 w W h0 (.of_below hbW)
  refine ⟨B + 1, [{ target := .collected w.heap.size, args := #[] }], W, { target := .fn (.func gf) lb, args := #[.func (.yield (B + 1)) #[] #[]] }, W, gf, #[.func (.yield (B + 1)) #[] #[]] ++ lb, W, ?_, ?_, fun _ _ => trivial, ?_, fun h => (by cases h), ?_⟩
  · rw [hW, hrc, hB]; exact run_enterLoop_outer _ _ _ _ _
  · simp only [resolve, hg]
    simp [go_sem]
  · simp [invoke, go_sem, eg]
  refine (hseq (B + 1) (fun r X => I r X ∧ X.heap[B + 1]? = some (.loop (rc .ready none)) ∧ X.heap[B]? = some (.deferred (some []))) W hbW (by omega) (by omega) ?_ ?_ ⟨hIW, hlW, hdW⟩).mono ?_
  · rintro r X Y ⟨h1, h2, h3⟩ hb
    exact ⟨hI r X Y h1 (.of_below hb), (hb.block _ (Array.getElem?_eq_some_iff.1 h2).1).trans h2, (hb.block _ (Array.getElem?_eq_some_iff.1 h3).1).trans h3⟩
  · rintro r args X hr ⟨hi, hl, hd⟩ he
    have hy := run_yield (P := P) (args := args) hl (by rw [hrc]; exact hps r args X he)
    rw [hrc] at hy
    refine ⟨fn, _, assign, body, hy, roundIn_of_wpIn hfn (hassign _ r args X _ he ⟨_, run_beginRound hl (by rw [hrc]), ?_⟩)⟩
    obtain ⟨X2, hX2⟩ : ∃ X2, X2 = X.putObj (B + 1) (.loop { rc .ready none with state := .busy }) := ⟨_, rfl⟩
    have hg2 : GrC w.heap.size X X2 := by rw [hX2]; exact .put _ (by omega) hl rfl
    have hl2 : X2.heap[B + 1]? = some (.loop { rc .ready none with state := .busy }) := by rw [hX2]; exact World.putObj_heap_same (Array.getElem?_eq_some_iff.1 hl).1
    have hd2 : X2.heap[B]? = some (.deferred (some [])) := by rw [hX2]; exact (World.putObj_heap_other (by omega)).trans hd
    have hk2 : KpO (fun k => own k ∨ k = B + 1) X X2 := by rw [hX2]; exact .put _ _ _ (Or.inr rfl)
    rw [← hX2]
    refine wpIn_mono (hbody (B + 1) r args X2 hr (hI r X X2 hi hg2) (hE r args X X2 he hg2)) ?_
    rintro e a3 Y ⟨rfl, hk, hi3⟩
    have hl3 : Y.heap[B + 1]? = some (.loop { rc .ready none with state := .busy }) := (hk.same _ (Array.getElem?_eq_some_iff.1 hl2).1 (fun h => by have := hown _ h; omega)).trans hl2
    have hd3 : Y.heap[B]? = some (.deferred (some [])) := (hk.same _ (Array.getElem?_eq_some_iff.1 hd2).1 (fun h => by have := hown _ h; omega)).trans hd2
    have he3 := run_endRound (P := P) none hl3
    refine ⟨_, _, he3, rfl, ⟨hI _ Y _ hi3 (.put _ (by omega) hl3 rfl), ?_, (World.putObj_heap_other (by omega)).trans hd3⟩, (hk2.trans (hk.mono fun k h => Or.inl h)).trans (.put _ _ _ (Or.inr rfl))⟩
    rw [World.putObj_heap_same (Array.getElem?_eq_some_iff.1 hl3).1, hrc]
    rfl
  · rintro e Y ⟨⟨v, rfl⟩, hi, hl, hd⟩
    have he := run_endLoop (P := P) hl (by rw [hrc]; simp)
    refine ⟨none, _, by rw [he, hrc], ?_⟩
    have := hdone B (Y.putObj (B + 1) (.loop { rc .ready none with state := .exhausted })) (by omega) (hI _ Y _ hi (.put _ (by omega) hl rfl)) ((World.putObj_heap_other (by omega)).trans hd)
    rw [hB] at this ⊢
    simpa [hrc] using this
end Go.Proofs.Ytmklnjkallhphaa

/- A region that draws its order, in a round of a range over a function: what serves elsewhere serves there. No Go text here. -/
namespace Go.Proofs.Ytmklnjkallhphaa
open Go

end Go.Proofs.Ytmklnjkallhphaa

/- Ranges over span.Words: the leaf of goThrough (a call of yield). -/


namespace Go.Proofs.Ytmklnjkallhphaa
open Go.RowKit Go.Shelf
attribute [local go_sem] Oper.semAt_some

end Go.Proofs.Ytmklnjkallhphaa

/- Codes: the capacity of the rows that Make tells. -/
namespace Go.Proofs.Ytmklnjkallhphaa
open Go.RowKit Go.Sort

end Go.Proofs.Ytmklnjkallhphaa

/- Ranges over span.Words: goThrough, whole. -/
namespace Go.Proofs.Ytmklnjkallhphaa
open Go.RowKit Go.Sort

/-- The number whose digits to the base q are the first values of z. -/
def hnm (q : Nat) (z : Nat → Nat) : Nat → Nat
  | 0 => 0
  | i + 1 => hnm q z i * q + z i
theorem enw_zc {D : FD} {R : Nat → Nat → Nat} {z y : Nat → Nat} : ∀ {k : Nat}, (∀ i, i < k → z i = y i) → enw D R z k = enw D R y k
  | 0, _ => rfl
  | k + 1, h => by
    show padd D (enw D R z k) (pscale D (z k) (R k)) = padd D (enw D R y k) (pscale D (y k) (R k))
    rw [enw_zc (fun i hi => h i (by omega)), h k (by omega)]
/-- The r-th word: what is handed on. -/
def WdE (D : FD) (R : Nat → Nat → Nat) (n K B0 : Nat) (r : Nat) (args : Array Value) (X : World) : Prop :=
  ∃ z g c, (∀ i, i < K → z i < D.q) ∧ hnm D.q z K = r ∧ args = #[.slice (some ⟨g, 0, none⟩) n c] ∧ n ≤ c ∧ c ≤ 9223372036854775807 ∧ Row g n (enw D R z K) X ∧ B0 ≤ g
end Go.Proofs.Ytmklnjkallhphaa

/- Ranges over span.Words: the iterator's contract. -/
namespace Go.Proofs.Ytmklnjkallhphaa
open Go.RowKit Go.Sort

/-- The rows of a code that is ranged over: none, or k of n elements in blocks of their own. -/
def WdR (ro : Option Addr) (n K B G mm : Nat) (R : Nat → Nat → Nat) (h : Nat → Nat) (w : World) : Prop := 0 < K → (ro = some ⟨G, 0, none⟩ ∧ Mx B G mm K n R h w)

theorem make_run (n : Nat) (hn : n ≤ 1000000) (w : World) : ∃ w', (Instr.makeSlice 22 (.int .i64 (n : Nat)) (.int .i64 (n : Nat))).run Try.prog w = .ok (.slice (some ⟨w.heap.size, 0, none⟩) n n) w' ∧ Row w.heap.size n pnil w' ∧ Below w.heap.size w w' := by
  obtain ⟨i0, hi, hz0, hz1, hz2⟩ := info_parts Try.infoInt
  refine ⟨_, run_make_row (P := Try.prog) 22 3 i0 (.int .i64 0) Try.underlying22 hi hz0 hz1 rfl .i64 .i64 n (by rw [hz2]; omega) (by omega) w, ⟨n, fun _ => .int .i64 0, ⟨_, two_new _, ?_, fun o ho => ?_⟩, Nat.le_refl _, fun _ _ => rfl⟩, (Below.refl _ _).alloc (Nat.le_refl _) _⟩
  · simp [madeCells]
  · simp [madeCells, ho, Nat.mod_one]
end Go.Proofs.Ytmklnjkallhphaa

/- Codes: those of few words (code.small). -/
namespace Go.Proofs.Ytmklnjkallhphaa
open Go.RowKit Go.Sort

end Go.Proofs.Ytmklnjkallhphaa

/- The words of a code by their numbers; how many have a weight. -/
namespace Go.Proofs.Ytmklnjkallhphaa
open Go.RowKit Go.Sort

set_option maxHeartbeats 4000000 in
set_option maxRecDepth 100000 in
theorem weightS_any {ao : Option Addr} {n ca : Nat} {a : Nat → Int} {w : World} (hA : SlZ ao n a w) (hn : n ≤ 1000) :
    Calls Try.prog 41 #[.slice ao n ca] w fun e w' => e = .returned (.int .i64 (ct (fun i => !decide (a i = 0)) n : Nat)) ∧ w' = w := by
  have HF : Hid (SlZ ao n a w) := hA
  clear hA
  go_enter Try.func41, Try.ntmps41
  go_wp2
  go_loopw [3, 8] (fun vm vi wr => ∃ (r m : Nat), r ≤ n ∧ m ≤ r ∧ vm = .int .i64 (m : Nat) ∧ vi = .int .i64 r ∧ Hid (m = ct (fun i => !decide (a i = 0)) r ∧ wr = w)) (fun _ vi _ => n - (intOf vi).toNat)
  case atStart => exact ⟨0, 0, by omega, by omega, rfl, rfl, rfl, rfl⟩
  case round =>
    obtain ⟨r, m, hr, hmr, rfl, rfl, HG⟩ := hrel
    rename World => wr
    by_cases hlt : r < n
    · have hib : (r : Int) < (n : Int) := by omega
      obtain ⟨ba, oa, hao, hca⟩ := HF.out r hlt
      rw [← HG.out.2] at hca
      subst hao
      obtain ⟨x, hx⟩ : ∃ x, x = a r := ⟨_, rfl⟩
      rw [← hx] at hca
      by_cases e : x = 0
      · have hz : (x != 0) = false := by rw [e]; simp
        have HV : Hid (m = ct (fun i => !decide (a i = 0)) (r + 1)) := by
          show m = ct (fun i => !decide (a i = 0)) r + if (!decide (a r = 0)) = true then 1 else 0
          rw [← HG.out.1, decide_eq_true (by rw [← hx]; exact e)]; rfl
        clear e hx
        go_wp2
        go_roundw
        case rel => exact ⟨r + 1, m, by omega, by omega, rfl, by go_num, HV.out, HG.out.2⟩
        case measure => simp [intOf]; omega
      · have hz : (x != 0) = true := by rw [bne_iff_ne]; exact e
        have HV : Hid (m + 1 = ct (fun i => !decide (a i = 0)) (r + 1)) := by
          show m + 1 = ct (fun i => !decide (a i = 0)) r + if (!decide (a r = 0)) = true then 1 else 0
          rw [← HG.out.1, decide_eq_false (by rw [← hx]; exact e)]; rfl
        clear e hx
        go_wp2
        go_roundw
        case rel => exact ⟨r + 1, m + 1, by omega, by omega, by go_num, by go_num, HV.out, HG.out.2⟩
        case measure => simp [intOf]; omega
    · have hib : ¬ (r : Int) < (n : Int) := by omega
      have hre : n = r := by omega
      subst hre
      go_wp2
      go_ret
      exact ⟨by rw [HG.out.1]; rfl, HG.out.2⟩

theorem hnm_div {q : Nat} (hq : 2 ≤ q) {z : Nat → Nat} {i : Nat} : ∀ t, (∀ j, j < i + t → z j < q) → hnm q z (i + t) / q ^ t = hnm q z i
  | 0, _ => by rw [Nat.pow_zero, Nat.div_one]; rfl
  | t + 1, h => by
    have h1 := hnm_div hq (z := z) (i := i) t (fun j hj => h j (by omega))
    have h2 := h (i + t) (by omega)
    show (hnm q z (i + t) * q + z (i + t)) / q ^ (t + 1) = _
    rw [Nat.pow_succ', ← Nat.div_div_eq_div_mul, Nat.mul_comm (hnm q z (i + t)) q, Nat.mul_add_div (by omega), Nat.div_eq_of_lt h2, Nat.add_zero]
    exact h1
theorem hnm_dgs {q K : Nat} (hq : 2 ≤ q) {z : Nat → Nat} (hz : ∀ j, j < K → z j < q) (i : Nat) (hi : i < K) : z i = dgs q K (hnm q z K) i := by
  have h := hnm_div hq (z := z) (i := i + 1) (K - 1 - i) (fun j hj => hz j (by omega))
  rw [show i + 1 + (K - 1 - i) = K by omega] at h
  unfold dgs
  rw [if_pos hi, h]
  show z i = (hnm q z i * q + z i) % q
  rw [Nat.mul_comm, Nat.mul_add_mod, Nat.mod_eq_of_lt (hz i hi)]
/-- The r-th word. -/
def wdr (D : FD) (R : Nat → Nat → Nat) (K r : Nat) : Nat → Nat := enw D R (dgs D.q K r) K
theorem ct_most (p : Nat → Bool) : ∀ n, ct p n ≤ n
  | 0 => Nat.le_refl 0
  | n + 1 => by
    have := ct_most p n
    show ct p n + (if p n = true then 1 else 0) ≤ n + 1
    split <;> omega
theorem WdE.word {D : FD} (F : Fld D) {R : Nat → Nat → Nat} {n K B0 r : Nat} {args : Array Value} {X : World} (h : WdE D R n K B0 r args X) : ∃ g c, args = #[.slice (some ⟨g, 0, none⟩) n c] ∧ n ≤ c ∧ c ≤ 9223372036854775807 ∧ Row g n (wdr D R K r) X ∧ B0 ≤ g := by
  obtain ⟨z, g, c, hz, hr, ha, h1, h2, h3, h4⟩ := h
  refine ⟨g, c, ha, h1, h2, ?_, h4⟩
  unfold wdr
  rw [← enw_zc (z := z) (fun i hi => by rw [← hr]; exact hnm_dgs F.q2 hz i hi)]
  exact h3
theorem Row.grc {g n B : Nat} {c : Nat → Nat} {X Y : World} (h : Row g n c X) (hg : GrC B X Y) : Row g n c Y := by
  refine h.other (hg.same g h.lt (Or.inr fun o ho => ?_))
  obtain ⟨cap, f, ⟨cs, h1, _⟩, _⟩ := h
  rw [h1] at ho
  cases ho; rfl
theorem WdE.grc {D : FD} {R : Nat → Nat → Nat} {n K B0 B r : Nat} {args : Array Value} {X Y : World} (h : WdE D R n K B0 r args X) (hg : GrC B X Y) : WdE D R n K B0 r args Y := by
  obtain ⟨z, g, c, hz, hr, ha, h1, h2, h3, h4⟩ := h
  exact ⟨z, g, c, hz, hr, ha, h1, h2, h3.grc hg, h4⟩
end Go.Proofs.Ytmklnjkallhphaa

/- code.Weights: the words of a code, gone through. -/
namespace Go.Proofs.Ytmklnjkallhphaa
open Go.RowKit Go.Sort Go.Shelf
attribute [local go_sem] Oper.semAt_some

theorem MV.wdr {B k rc n : Nat} {ro : Option Addr} {R : Nat → Nat → Nat} {w : World} (h : MV B (.slice ro k rc) k n R w) : ∃ (Gm mm : Nat) (hm : Nat → Nat), WdR ro n k B Gm mm R hm w ∧ (0 < k → Gm < w.heap.size) ∧ ∀ i, i < k → hm i < w.heap.size := by
  rcases h with ⟨e, _⟩ | ⟨G, mc, mm, hm, ev, hM⟩
  · exact ⟨0, 0, fun _ => 0, fun hk => absurd hk (by omega), fun hk => absurd hk (by omega), fun i hi => absurd hi (by omega)⟩
  · cases ev
    exact ⟨G, mm, hm, fun _ => ⟨rfl, hM⟩, fun _ => hM.ltG, fun i hi => hM.lt i hi⟩
end Go.Proofs.Ytmklnjkallhphaa
