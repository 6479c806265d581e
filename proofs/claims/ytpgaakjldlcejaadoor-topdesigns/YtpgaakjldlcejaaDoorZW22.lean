/- Texts of ours, one behind the other: W22 KR1 KR2 KR3. -/
import Derived.Test.YtpgaakjldlcejaaDoorZW14
import Derived.Test.YtpgaakjldlcejaaDoorZU8
import Derived.Shelf.Abstract
import Derived.Shelf.RegionOpen
import Derived.OwnWalkIn
import Derived.TacticsInMore
import Derived.LoopNIn
import Derived.LoopIn
/- A range over a function that hands on values, whose rounds may leave the function. No Go text here. -/
namespace Go.Proofs.YtpgaakjldlcejaaDoor
open Go.RowKit

/-- An iterator that hands on some values, one behind the other, until a round leaves. -/
def SeqS (P : Program) (gf : Nat) (lb : Array Value) (L : List (Array Value)) (w0 : World) : Prop :=
  ∀ (l : Nat) (J Jx : Nat → World → Prop) (W : World), Below w0.heap.size w0 W → w0.heap.size ≤ l → l < W.heap.size →
    (∀ r X Y, J r X → Below X.heap.size X Y → J r Y) → (∀ r X Y, Jx r X → Below X.heap.size X Y → Jx r Y) →
    (∀ r X, r < L.length → J r X → YieldAt Fence.wide 0 P l (L.getD r #[]) X fun e Y => (e = .returned (.bool true) ∧ J (r + 1) Y) ∨ (e = .returned (.bool false) ∧ Jx r Y)) →
    J 0 W → CallsIn Fence.wide 0 P gf (#[.func (.yield l) #[] #[]] ++ lb) W fun e W' => (∃ v, e = .returned v) ∧ (J L.length W' ∨ ∃ r, r < L.length ∧ Jx r W')

/-- The law: a loop whose body goes on or leaves the function. -/
theorem range_lawX {P : Program} {g : Operand} {ps : Array Tmp} {assign body : Code} {Q : Exit → Act → World → Prop} {a : Act} {w : World} {gf : Nat} {lb : Array Value}
    (hg : a.eval g = .func (.func gf) #[] lb) (eg : ∀ args w, (callFunc gf args).run P w = .ok (.enter gf args) w)
    {L : List (Array Value)} {own : Nat → Prop} (hseq : SeqS P gf lb L w) (ho1 : ¬ own w.heap.size) (ho2 : ¬ own (w.heap.size + 1))
    (hps : ∀ r, r < L.length → (L.getD r #[]).size = ps.size)
    (I Ix : Nat → World → Prop) (hI : ∀ r X Y, I r X → GrC w.heap.size X Y → I r Y) (hIx : ∀ r X Y, Ix r X → GrC w.heap.size X Y → Ix r Y) (h0 : I 0 w) (a₁ : Array Value → Act)
    (hassign : ∀ (l r : Nat) (X : World) (K : Act → World → Prop), r < L.length → K (a₁ (L.getD r #[])) X →
      assign.wpIn (Fence.wide.inRound l) 0 P (Exit.then K (fun _ _ _ => False)) { tmps := (ps.zip (L.getD r #[])).foldl (fun t (p, v) => t.setIfInBounds p v) a.tmps, defers := [] } X)
    (hbody : ∀ (l r : Nat) (X : World), r < L.length → w.heap.size + 2 ≤ X.heap.size → I r X → body.wpIn (Fence.wide.inRound l) 0 P (fun e _ Y => KpO own X Y ∧ ((e = .normal ∧ I (r + 1) Y) ∨ (e = .ret ∧ Ix r Y))) (a₁ (L.getD r #[])) X)
    (hdone : ∀ (D : Nat) (W : World), w.heap.size ≤ D → I L.length W → W.heap[D]? = some (.deferred (some [])) → Q .normal { a with defers := { target := .collected D, args := #[] } :: a.defers } W)
    (hstop : ∀ (D r : Nat) (W : World), w.heap.size ≤ D → r < L.length → Ix r W → W.heap[D]? = some (.deferred (some [])) → Q .ret { a with defers := { target := .collected D, args := #[] } :: a.defers } W) :
    (Code.rangeFunc g ps assign body).wp P Q a w := by
  refine (wpIn_wide (n := 0)).1 (wpIn_rangeFunc ?_)
  intro fn hfn
  obtain ⟨B, hB⟩ : ∃ B, B = w.heap.size := ⟨_, rfl⟩
  obtain ⟨rc, hrc⟩ : ∃ rc : LoopState → Option Code → Loop, rc = fun st pe => { state := st, pending := pe, fn, tmps := a.tmps, params := ps, assign, body, defers := w.heap.size } := ⟨_, rfl⟩
  obtain ⟨W, hW⟩ : ∃ W, W = (w.alloc (.deferred (some []))).alloc (.loop (rc .ready none)) := ⟨_, rfl⟩
  have hs1 : (w.alloc (.deferred (some []))).heap.size = B + 1 := by rw [World.size_alloc, hB]
  have hsW : W.heap.size = B + 2 := by rw [hW, World.size_alloc, hs1]
  have hlW : W.heap[B + 1]? = some (.loop (rc .ready none)) := by rw [hW, ← hs1]; exact World.alloc_heap_new _ _
  have hdW : W.heap[B]? = some (.deferred (some [])) := by rw [hW, Below.heap_alloc _ _ _ (by rw [hs1]; omega), hB]; exact World.alloc_heap_new w _
  have hbW : Below w.heap.size w W := by rw [hW]; exact ((Below.refl _ w).alloc (Nat.le_refl _) _).alloc (by simp) _
  have hIW : I 0 W := hI 0 w W h0 (.of_below hbW)
  refine ⟨B + 1, [{ target := .collected w.heap.size, args := #[] }], W, { target := .fn (.func gf) lb, args := #[.func (.yield (B + 1)) #[] #[]] }, W, gf, #[.func (.yield (B + 1)) #[] #[]] ++ lb, W, ?_, ?_, fun _ _ => trivial, ?_, fun h => (by cases h), ?_⟩
  · rw [hW, hrc, hB]; exact run_enterLoop_outer _ _ _ _ _
  · simp only [resolve, hg]
    simp [go_sem]
  · simp [invoke, go_sem, eg]
  refine (hseq (B + 1) (fun r X => I r X ∧ X.heap[B + 1]? = some (.loop (rc .ready none)) ∧ X.heap[B]? = some (.deferred (some []))) (fun r X => Ix r X ∧ X.heap[B + 1]? = some (.loop (rc .done (some .ret))) ∧ X.heap[B]? = some (.deferred (some []))) W hbW (by omega) (by omega) ?_ ?_ ?_ ⟨hIW, hlW, hdW⟩).mono ?_
  · rintro r X Y ⟨h1, h2, h3⟩ hb
    exact ⟨hI r X Y h1 (.of_below hb), (hb.block _ (Array.getElem?_eq_some_iff.1 h2).1).trans h2, (hb.block _ (Array.getElem?_eq_some_iff.1 h3).1).trans h3⟩
  · rintro r X Y ⟨h1, h2, h3⟩ hb
    exact ⟨hIx r X Y h1 (.of_below hb), (hb.block _ (Array.getElem?_eq_some_iff.1 h2).1).trans h2, (hb.block _ (Array.getElem?_eq_some_iff.1 h3).1).trans h3⟩
  · rintro r X hr ⟨hi, hl, hd⟩
    have hy := run_yield (P := P) (args := L.getD r #[]) hl (by rw [hrc]; exact hps r hr)
    rw [hrc] at hy
    refine ⟨fn, _, assign, body, hy, roundIn_of_wpIn hfn (hassign _ r X _ hr ⟨_, run_beginRound hl (by rw [hrc]), ?_⟩)⟩
    obtain ⟨X2, hX2⟩ : ∃ X2, X2 = X.putObj (B + 1) (.loop { rc .ready none with state := .busy }) := ⟨_, rfl⟩
    have hg2 : GrC w.heap.size X X2 := by rw [hX2]; exact .put _ (by omega) hl rfl
    have hl2 : X2.heap[B + 1]? = some (.loop { rc .ready none with state := .busy }) := by rw [hX2]; exact World.putObj_heap_same (Array.getElem?_eq_some_iff.1 hl).1
    have hd2 : X2.heap[B]? = some (.deferred (some [])) := by rw [hX2]; exact (World.putObj_heap_other (by omega)).trans hd
    rw [← hX2]
    refine wpIn_mono (hbody (B + 1) r X2 hr (by have := (Array.getElem?_eq_some_iff.1 hl2).1; omega) (hI r X X2 hi hg2)) ?_
    rintro e a3 Y ⟨hk, hx⟩
    have hl3 : Y.heap[B + 1]? = some (.loop { rc .ready none with state := .busy }) := (hk.same _ (Array.getElem?_eq_some_iff.1 hl2).1 (by rw [hB]; exact ho2)).trans hl2
    have hd3 : Y.heap[B]? = some (.deferred (some [])) := (hk.same _ (Array.getElem?_eq_some_iff.1 hd2).1 (by rw [hB]; exact ho1)).trans hd2
    rcases hx with ⟨rfl, hi3⟩ | ⟨rfl, hi3⟩
    · have he3 := run_endRound (P := P) none hl3
      refine ⟨_, _, he3, Or.inl ⟨rfl, hI _ Y _ hi3 (.put _ (by omega) hl3 rfl), ?_, (World.putObj_heap_other (by omega)).trans hd3⟩⟩
      rw [World.putObj_heap_same (Array.getElem?_eq_some_iff.1 hl3).1, hrc]
      rfl
    · have he3 := run_endRound (P := P) (some .ret) hl3
      refine ⟨_, _, he3, Or.inr ⟨rfl, hIx _ Y _ hi3 (.put _ (by omega) hl3 rfl), ?_, (World.putObj_heap_other (by omega)).trans hd3⟩⟩
      rw [World.putObj_heap_same (Array.getElem?_eq_some_iff.1 hl3).1, hrc]
      rfl
  · rintro e Y ⟨⟨v, rfl⟩, ⟨hi, hl, hd⟩ | ⟨r, hr, hi, hl, hd⟩⟩
    · have he := run_endLoop (P := P) hl (by rw [hrc]; simp)
      refine ⟨none, _, by rw [he, hrc], ?_⟩
      have := hdone B (Y.putObj (B + 1) (.loop { rc .ready none with state := .exhausted })) (by omega) (hI _ Y _ hi (.put _ (by omega) hl rfl)) ((World.putObj_heap_other (by omega)).trans hd)
      rw [hB] at this ⊢
      simpa [hrc] using this
    · have he := run_endLoop (P := P) hl (by rw [hrc]; simp)
      refine ⟨some .ret, _, by rw [he, hrc], ?_⟩
      have := hstop B r (Y.putObj (B + 1) (.loop { rc .done (some .ret) with state := .exhausted })) (by omega) hr (hIx _ Y _ hi (.put _ (by omega) hl rfl)) ((World.putObj_heap_other (by omega)).trans hd)
      rw [hB] at this ⊢
      refine wpIn_ret ?_
      simpa [hrc] using this
end Go.Proofs.YtpgaakjldlcejaaDoor

/- Golay: places as the bits of a number, of both sides. -/
namespace Go.Proofs.YtpgaakjldlcejaaDoor
open Go.RowKit

/-- Places as bits. -/
def sbt (z : Nat → Int) : Nat → Nat
  | 0 => 0
  | k + 1 => sbt z k ||| 2 ^ (z k).toNat
theorem sbt_lt {z : Nat → Int} : ∀ k, (∀ i, i < k → (z i).toNat < 64) → sbt z k < 2 ^ 64
  | 0, _ => by show 0 < _; omega
  | k + 1, h => Nat.or_lt_two_pow (sbt_lt k (fun i hi => h i (by omega))) (Nat.pow_lt_pow_right (by omega) (h k (by omega)))

theorem wrap_u64 {a : Nat} (h : a < 18446744073709551616) : IntKind.u64.wrap (a : Int) = (a : Int) := by
  show ((a : Int) % 18446744073709551616) = _
  omega
theorem ofi64 {a : Nat} (h : a < 18446744073709551616) : (BitVec.ofInt 64 (a : Int)).toNat = a := by
  rw [BitVec.ofInt_natCast, BitVec.toNat_ofNat]; exact Nat.mod_eq_of_lt (by omega)
theorem or_u64 {a b : Nat} (ha : a < 18446744073709551616) (hb : b < 18446744073709551616) : bits BinOp.or IntKind.u64 (a : Int) (b : Int) = ((a ||| b : Nat) : Int) := by
  show IntKind.u64.wrap ((BitVec.ofInt 64 (a : Int) ||| BitVec.ofInt 64 (b : Int)).toNat : Int) = _
  rw [BitVec.toNat_or, ofi64 ha, ofi64 hb]
  exact wrap_u64 (Nat.or_lt_two_pow (n := 64) ha hb)
theorem and_u64 {a b : Nat} (ha : a < 18446744073709551616) (hb : b < 18446744073709551616) : bits BinOp.and IntKind.u64 (a : Int) (b : Int) = ((a &&& b : Nat) : Int) := by
  show IntKind.u64.wrap ((BitVec.ofInt 64 (a : Int) &&& BitVec.ofInt 64 (b : Int)).toNat : Int) = _
  rw [BitVec.toNat_and, ofi64 ha, ofi64 hb]
  exact wrap_u64 (Nat.lt_of_le_of_lt Nat.and_le_left ha)

set_option maxHeartbeats 4000000 in
set_option maxRecDepth 100000 in
theorem gof_any {ao : Option Addr} {n ca : Nat} {z : Nat → Int} {w : World} (hX : SlZ ao n z w) (hn : n ≤ 6000) (hz : ∀ i, i < n → 0 ≤ z i ∧ z i < 64) :
    Calls Tryd.prog 19 #[.slice ao n ca] w fun e w' => e = .returned (.int .u64 (sbt z n : Nat)) ∧ w' = w := by
  have HX : Hid (SlZ ao n z w ∧ ∀ i, i < n → 0 ≤ z i ∧ z i < 64) := ⟨hX, hz⟩
  clear hX hz
  go_enter Tryd.func19, Tryd.ntmps19
  go_wp2
  go_loopw [3, 8] (fun vs vi wr => ∃ i s : Nat, vs = .int .u64 (s : Nat) ∧ vi = .int .i64 (i : Nat) ∧ i ≤ n ∧ Hid (s = sbt z i ∧ wr = w)) (fun _ vi _ => n - (intOf vi).toNat)
  case atStart => exact ⟨0, 0, rfl, rfl, by omega, rfl, rfl⟩
  case round =>
    obtain ⟨i, s, rfl, rfl, hi, HS⟩ := hrel
    have hw := HS.out.2.symm
    subst hw
    have hs : s < 18446744073709551616 := by rw [HS.out.1]; exact sbt_lt i (fun j hj => by have := HX.out.2 j (by omega); omega)
    by_cases hlt : i < n
    · have hib : (i : Int) < (n : Int) := by omega
      obtain ⟨b, off, e1, hcell⟩ := HX.out.1 i hlt
      subst e1
      obtain ⟨v, hv⟩ : ∃ v : Nat, v = (z i).toNat := ⟨_, rfl⟩
      have hzv : z i = (v : Int) := by have := (HX.out.2 i hlt).1; omega
      have hv64 : v < 64 := by have := (HX.out.2 i hlt).2; omega
      obtain ⟨P, hP⟩ : ∃ P, P = 2 ^ v := ⟨_, rfl⟩
      have hPb : P < 18446744073709551616 := by rw [hP]; exact Nat.lt_of_lt_of_le (Nat.pow_lt_pow_right (by decide) hv64) (by decide)
      have hsh : (2 : Int) ^ v = (P : Int) := by rw [hP]; simp
      have hPw : IntKind.u64.wrap (P : Int) = (P : Int) := wrap_u64 hPb
      have hor : bits BinOp.or IntKind.u64 (s : Int) (P : Int) = ((s ||| P : Nat) : Int) := or_u64 hs hPb
      have HN : Hid (s ||| P = sbt z (i + 1) ∧ w = w) := ⟨by show _ = sbt z i ||| 2 ^ (z i).toNat; rw [HS.out.1, hP, hv], rfl⟩
      rw [hzv] at hcell
      clear hP hv hzv HS
      go_wp2
      go_roundw
      case rel => exact ⟨i + 1, s ||| P, by first | rfl | rw [hor], by go_num, by omega, HN.out.1, by first | rfl | trivial⟩
      case measure => simp [intOf]; omega
    · have hib : ¬ (i : Int) < (n : Int) := by omega
      have hie : i = n := by omega
      subst hie
      go_wp2
      go_ret
      exact ⟨by rw [← HS.out.1]; rfl, rfl⟩
end Go.Proofs.YtpgaakjldlcejaaDoor

/- Golay: how many sets have all places of one, of both sides. -/
namespace Go.Proofs.YtpgaakjldlcejaaDoor
open Go.RowKit

/-- Numbers of 64 bits in a row. -/
def SlU (ao : Option Addr) (N : Nat) (f : Nat → Nat) (w : World) : Prop := ∀ i, i < N → ∃ b off, ao = some ⟨b, off, none⟩ ∧ w.cell? ⟨b, off + i, none⟩ = some (.int .u64 (f i : Nat))
/-- How many have all places of a set. -/
def lic (f : Nat → Nat) (s : Nat) : Nat → Nat
  | 0 => 0
  | k + 1 => lic f s k + if f k &&& s = s then 1 else 0
theorem lic_le (f : Nat → Nat) (s : Nat) : ∀ k, lic f s k ≤ k
  | 0 => Nat.le_refl _
  | k + 1 => by
    have := lic_le f s k
    show lic f s k + _ ≤ _
    split <;> omega
theorem andnot_bv (x y : BitVec 64) : (x &&& ~~~y = 0#64) ↔ y &&& x = x := by
  constructor
  · intro h
    ext i hi
    have h2 := congrArg (fun v => v[i]) h
    simp only [BitVec.getElem_and, BitVec.getElem_not, BitVec.getElem_zero] at h2 ⊢
    revert h2
    cases x[i] <;> cases y[i] <;> simp
  · intro h
    ext i hi
    have h2 := congrArg (fun v => v[i]) h
    simp only [BitVec.getElem_and, BitVec.getElem_not, BitVec.getElem_zero] at h2 ⊢
    revert h2
    cases x[i] <;> cases y[i] <;> simp
theorem andnot_u64 {a b : Nat} (ha : a < 18446744073709551616) (hb : b < 18446744073709551616) : bits BinOp.andNot IntKind.u64 (a : Int) (b : Int) = 0 ↔ b &&& a = a := by
  have e : bits BinOp.andNot IntKind.u64 (a : Int) (b : Int) = ((BitVec.ofInt 64 (a : Int) &&& ~~~BitVec.ofInt 64 (b : Int)).toNat : Int) := by
    show IntKind.u64.wrap ((BitVec.ofInt 64 (a : Int) &&& ~~~BitVec.ofInt 64 (b : Int)).toNat : Int) = _
    exact wrap_u64 (BitVec.isLt _)
  have h1 := andnot_bv (BitVec.ofInt 64 (a : Int)) (BitVec.ofInt 64 (b : Int))
  have h2 : (b &&& a = a) ↔ BitVec.ofInt 64 (b : Int) &&& BitVec.ofInt 64 (a : Int) = BitVec.ofInt 64 (a : Int) := by
    rw [← BitVec.toNat_inj, BitVec.toNat_and, ofi64 ha, ofi64 hb]
  rw [h2, ← h1, e, ← BitVec.toNat_inj]
  constructor
  · intro h
    have : (BitVec.ofInt 64 (a : Int) &&& ~~~BitVec.ofInt 64 (b : Int)).toNat = 0 := by omega
    rw [this]; rfl
  · intro h
    rw [h]; rfl

set_option maxHeartbeats 4000000 in
set_option maxRecDepth 100000 in
theorem liesIn_any {ao : Option Addr} {N ca s : Nat} {f : Nat → Nat} {w : World} (hX : SlU ao N f w) (hN : N ≤ 6000) (hf : ∀ i, i < N → f i < 18446744073709551616) (hs : s < 18446744073709551616) :
    Calls Tryd.prog 21 #[.int .u64 (s : Nat), .slice ao N ca] w fun e w' => e = .returned (.int .i64 (lic f s N : Nat)) ∧ w' = w := by
  have HX : Hid (SlU ao N f w ∧ ∀ i, i < N → f i < 18446744073709551616) := ⟨hX, hf⟩
  clear hX hf
  go_enter Tryd.func21, Tryd.ntmps21
  go_wp2
  go_loopw [5, 10] (fun vs vi wr => ∃ i m : Nat, vs = .int .i64 (m : Nat) ∧ vi = .int .i64 (i : Nat) ∧ i ≤ N ∧ m ≤ i ∧ Hid (m = lic f s i ∧ wr = w)) (fun _ vi _ => N - (intOf vi).toNat)
  case atStart => exact ⟨0, 0, rfl, rfl, by omega, by omega, rfl, rfl⟩
  case round =>
    obtain ⟨i, m, rfl, rfl, hi, hm, HS⟩ := hrel
    have hw := HS.out.2.symm
    subst hw
    by_cases hlt : i < N
    · have hib : (i : Int) < (N : Int) := by omega
      obtain ⟨b, off, e1, hcell⟩ := HX.out.1 i hlt
      subst e1
      have hfi := HX.out.2 i hlt
      by_cases hc : f i &&& s = s
      · have hb : bits BinOp.andNot IntKind.u64 (s : Int) (f i : Int) = 0 := (andnot_u64 hs hfi).2 hc
        have hb2 : (bits BinOp.andNot IntKind.u64 (s : Int) (f i : Int) == 0) = true := by rw [hb]; rfl
        have HN : Hid (m + 1 = lic f s (i + 1)) := by show _ = lic f s i + _; rw [if_pos hc, HS.out.1]
        clear HS hc
        go_wp2
        go_roundw
        case rel => exact ⟨i + 1, m + 1, by go_num, by go_num, by omega, by omega, HN.out, by first | rfl | trivial⟩
        case measure => simp [intOf]; omega
      · have hb : ¬ bits BinOp.andNot IntKind.u64 (s : Int) (f i : Int) = 0 := fun h => hc ((andnot_u64 hs hfi).1 h)
        have hb2 : (bits BinOp.andNot IntKind.u64 (s : Int) (f i : Int) == 0) = false := beq_eq_false_iff_ne.2 hb
        have HN : Hid (m = lic f s (i + 1)) := by show _ = lic f s i + _; rw [if_neg hc, HS.out.1]; rfl
        clear HS hc
        go_wp2
        go_roundw
        case rel => exact ⟨i + 1, m, by go_num, by go_num, by omega, by omega, HN.out, by first | rfl | trivial⟩
        case measure => simp [intOf]; omega
    · have hib : ¬ (i : Int) < (N : Int) := by omega
      have hie : i = N := by omega
      subst hie
      go_wp2
      go_ret
      exact ⟨by rw [← HS.out.1]; rfl, rfl⟩
end Go.Proofs.YtpgaakjldlcejaaDoor

/- Golay: all sets of so many places, one after another: more, sets. -/
namespace Go.Proofs.YtpgaakjldlcejaaDoor
open Go.RowKit Go.Shelf
attribute [local go_sem] Oper.semAt_some

def sgo (F : Nat → Nat → List Nat) (s : Nat) : Nat → Nat → List Nat
  | 0, _ => []
  | k + 1, v => F (v + 1) (s ||| 2 ^ v) ++ sgo F s k (v + 1)
/-- All sets with so many more of the places from one on. -/
def sls (n : Nat) : Nat → Nat → Nat → List Nat
  | 0, _, s => [s]
  | t + 1, v, s => sgo (sls n t) s (n - t - v) v

set_option maxHeartbeats 8000000 in
set_option maxRecDepth 100000 in
theorem more_leaf {l s v n : Nat} {W : World} {R : Ending → World → Prop} (hY : YieldAt Fence.wide 0 Tryd.prog l #[.int .u64 (s : Nat)] W R) (hR : ∀ e Y, R e Y → e = .returned (.bool true) ∨ e = .returned (.bool false)) :
    CallsIn Fence.wide 0 Tryd.prog 38 #[.int .u64 (s : Nat), .int .i64 (v : Nat), .int .i64 (n : Nat), .int .i64 0, .func (.yield l) #[] #[]] W R := by
  obtain ⟨fn, tmps, assign, body, hy, hRn⟩ := hY
  have HR : Hid (∀ e Y, R e Y → e = .returned (.bool true) ∨ e = .returned (.bool false)) := hR
  clear hR
  refine callsIn_of_wp Tryd.func38 rfl trivial ?_ rfl
  simp only [Tryd.ntmps38, List.size_toArray, List.length_cons, List.length_nil, Nat.reduceAdd, Nat.reduceSub, Array.replicate_succ, Array.replicate_zero, List.push_toArray, List.append_toArray, List.nil_append, List.cons_append]
  gi_wp2
  refine ⟨rfl, hRn.mono ?_⟩
  intro e Y hr
  rcases HR.out e Y hr with rfl | rfl
  · have HQ : Hid (R (.returned (.bool true)) Y) := hr
    clear hr
    gi_wp2
    exact HQ.out
  · have HQ : Hid (R (.returned (.bool false)) Y) := hr
    clear hr
    gi_wp2
    exact HQ.out

/-- What is asked of yield for the rest of a list. -/
def Yls (l : Nat) (J : Nat → World → Prop) (Jx : World → Prop) (L : List Nat) (r0 : Nat) : Prop :=
  ∀ i X, i < L.length → J (r0 + i) X → YieldAt Fence.wide 0 Tryd.prog l #[.int .u64 (L.getD i 0 : Nat)] X fun e Y => (e = .returned (.bool true) ∧ J (r0 + i + 1) Y) ∨ (e = .returned (.bool false) ∧ Jx Y)
theorem Yls.left {l r0 : Nat} {J : Nat → World → Prop} {Jx : World → Prop} {A B : List Nat} (h : Yls l J Jx (A ++ B) r0) : Yls l J Jx A r0 := fun i X hi hj => by
  have := h i X (by rw [List.length_append]; omega) hj
  rw [show (A ++ B).getD i 0 = A.getD i 0 by simp only [List.getD_eq_getElem?_getD]; rw [List.getElem?_append_left hi]] at this
  exact this
theorem Yls.right {l r0 : Nat} {J : Nat → World → Prop} {Jx : World → Prop} {A B : List Nat} (h : Yls l J Jx (A ++ B) r0) : Yls l J Jx B (r0 + A.length) := fun i X hi hj => by
  have := h (A.length + i) X (by rw [List.length_append]; omega) (by rw [← Nat.add_assoc]; exact hj)
  rw [show (A ++ B).getD (A.length + i) 0 = B.getD i 0 by simp only [List.getD_eq_getElem?_getD]; rw [List.getElem?_append_right (by omega), Nat.add_sub_cancel_left]] at this
  rw [← Nat.add_assoc] at this
  exact this
/-- What more tells. -/
def MoP (J : Nat → World → Prop) (Jx : World → Prop) (N : Nat) (e : Ending) (Y : World) : Prop := (e = .returned (.bool true) ∧ J N Y) ∨ (e = .returned (.bool false) ∧ Jx Y)

set_option maxHeartbeats 8000000 in
set_option maxRecDepth 100000 in
theorem more_any {n l : Nat} {J : Nat → World → Prop} {Jx : World → Prop} (hn : n ≤ 64) :
    ∀ (t v s r0 : Nat) (W : World), t ≤ n → v ≤ n → s < 18446744073709551616 → Yls l J Jx (sls n t v s) r0 → J r0 W →
      Calls Tryd.prog 38 #[.int .u64 (s : Nat), .int .i64 (v : Nat), .int .i64 (n : Nat), .int .i64 (t : Nat), .func (.yield l) #[] #[]] W (MoP J Jx (r0 + (sls n t v s).length))
  | 0, v, s, r0, W, ht, hv, hs, hY, hj => by
    refine callsIn_wide.1 (more_leaf (hY 0 W (by show 0 < 1; omega) hj) ?_)
    rintro e Y (⟨rfl, _⟩ | ⟨rfl, _⟩)
    · exact Or.inl rfl
    · exact Or.inr rfl
  | t + 1, v, s, r0, W, ht, hv, hs, hY, hj => by
    have HI : Hid (∀ (v s r0 : Nat) (W : World), v ≤ n → s < 18446744073709551616 → Yls l J Jx (sls n t v s) r0 → J r0 W → Calls Tryd.prog 38 #[.int .u64 (s : Nat), .int .i64 (v : Nat), .int .i64 (n : Nat), .int .i64 (t : Nat), .func (.yield l) #[] #[]] W (MoP J Jx (r0 + (sls n t v s).length))) := fun v s r0 W h1 h2 h3 h4 => more_any hn t v s r0 W (by omega) h1 h2 h3 h4
    obtain ⟨T, hT⟩ : ∃ T, T = t + 1 := ⟨_, rfl⟩
    obtain ⟨m, hm⟩ : ∃ m, m = n - T := ⟨_, rfl⟩
    have hTi : (T : Int) - 1 = (t : Int) := by omega
    have hTz : ((T : Int) == 0) = false := by rw [beq_eq_false_iff_ne]; omega
    have hmi : (n : Int) - (T : Int) = (m : Int) := by omega
    have hT64 : T ≤ 64 := by omega
    have hm64 : m ≤ 64 := by omega
    obtain ⟨N, hN⟩ : ∃ N, N = r0 + (sls n (t + 1) v s).length := ⟨_, rfl⟩
    have HM : Hid (m = n - T ∧ T = t + 1 ∧ T ≤ n) := ⟨hm, hT, by omega⟩
    have H0 : Hid (∃ r, J r W ∧ Yls l J Jx (sgo (sls n t) s (n - t - v) v) r ∧ r + (sgo (sls n t) s (n - t - v) v).length = N) := ⟨r0, hj, hY, hN.symm⟩
    rw [← hN, ← hT]
    clear hj hY hN hm hT ht
    go_enter Tryd.func38, Tryd.ntmps38
    go_wp2_with fail
    go_loopw [11] (fun vi wr => ∃ p : Nat, v ≤ p ∧ p ≤ 65 ∧ vi = .int .i64 (p : Nat) ∧ Hid (∃ r, J r wr ∧ Yls l J Jx (sgo (sls n t) s (n - t - p) p) r ∧ r + (sgo (sls n t) s (n - t - p) p).length = N)) (fun vi _ => 66 - (intOf vi).toNat)
    case atStart => exact ⟨v, by omega, by omega, rfl, H0⟩
    case round =>
      obtain ⟨p, hp1, hp2, rfl, HG⟩ := hrel
      rename World => wr
      by_cases hlt : p ≤ m
      · have hib : (p : Int) ≤ (m : Int) := by omega
        obtain ⟨p1, hp1e⟩ : ∃ p1, p1 = p + 1 := ⟨_, rfl⟩
        have hpw : IntKind.i64.wrap ((p : Int) + 1) = (p1 : Int) := by rw [hp1e]; exact wrap_to (by omega) (by omega)
        have hp1b : p1 ≤ 66 := by omega
        have HP1 : Hid (p1 = p + 1) := hp1e
        obtain ⟨P, hP⟩ : ∃ P, P = 2 ^ p := ⟨_, rfl⟩
        have hp64 : p < 64 := by have := HM.out; omega
        have hPb : P < 18446744073709551616 := by rw [hP]; exact Nat.lt_of_lt_of_le (Nat.pow_lt_pow_right (by decide) hp64) (by decide)
        have hsh : (2 : Int) ^ p = (P : Int) := by rw [hP]; simp
        have hPw : IntKind.u64.wrap (P : Int) = (P : Int) := wrap_u64 hPb
        obtain ⟨s1, hs1⟩ : ∃ s1, s1 = s ||| P := ⟨_, rfl⟩
        have hor : bits BinOp.or IntKind.u64 (s : Int) (P : Int) = (s1 : Int) := by rw [hs1]; exact or_u64 hs hPb
        have HC : Hid (∃ N1, Calls Tryd.prog 38 #[.int .u64 (s1 : Nat), .int .i64 (p1 : Nat), .int .i64 (n : Nat), .int .i64 (t : Nat), .func (.yield l) #[] #[]] wr (MoP J Jx N1) ∧ Yls l J Jx (sgo (sls n t) s (n - t - p1) p1) N1 ∧ N1 + (sgo (sls n t) s (n - t - p1) p1).length = N) := by
          obtain ⟨r, g1, g2, g3⟩ := HG.out
          have hM := HM.out
          have e : sgo (sls n t) s (n - t - p) p = sls n t p1 s1 ++ sgo (sls n t) s (n - t - p1) p1 := by
            rw [show n - t - p = (n - t - p1) + 1 by omega, hs1, hP, hp1e]; rfl
          rw [e] at g2 g3
          refine ⟨r + (sls n t p1 s1).length, HI.out p1 s1 r wr (by omega) (by rw [hs1]; exact Nat.or_lt_two_pow (n := 64) hs hPb) g2.left g1, g2.right, ?_⟩
          rw [List.length_append] at g3
          omega
        clear HG hP hs1 hp1e
        obtain ⟨N1, hN1⟩ : ∃ N1, Hid (Calls Tryd.prog 38 #[.int .u64 (s1 : Nat), .int .i64 (p1 : Nat), .int .i64 (n : Nat), .int .i64 (t : Nat), .func (.yield l) #[] #[]] wr (MoP J Jx N1) ∧ Yls l J Jx (sgo (sls n t) s (n - t - p1) p1) N1 ∧ N1 + (sgo (sls n t) s (n - t - p1) p1).length = N) := HC.out
        clear HC
        go_wp2_with fail
        refine hN1.out.1.mono ?_
        rintro e Y (⟨rfl, hS⟩ | ⟨rfl, hS⟩)
        · have H1 : Hid (∃ r, J r Y ∧ Yls l J Jx (sgo (sls n t) s (n - t - p1) p1) r ∧ r + (sgo (sls n t) s (n - t - p1) p1).length = N) := ⟨N1, hS, hN1.out.2.1, hN1.out.2.2⟩
          clear hS hN1
          go_wp2
          go_roundw
          case rel => exact ⟨p1, by have := HP1.out; omega, by have := HP1.out; have := HM.out; omega, by first | rfl | rw [hpw] | (rw [HP1.out]; go_num), H1⟩
          case measure => have := HP1.out; simp [intOf]; omega
        · have H1 : Hid (Jx Y) := hS
          clear hS hN1
          go_wp2
          go_ret
          exact Or.inr ⟨rfl, H1.out⟩
      · have hib : ¬ (p : Int) ≤ (m : Int) := by omega
        have H1 : Hid (J N wr) := by
          obtain ⟨r, g1, g2, g3⟩ := HG.out
          have hM := HM.out
          rw [show n - t - p = 0 by omega] at g3
          have e : r = N := g3
          show J N wr
          rw [← e]; exact g1
        go_wp2
        go_ret
        exact Or.inl ⟨rfl, H1.out⟩
end Go.Proofs.YtpgaakjldlcejaaDoor
