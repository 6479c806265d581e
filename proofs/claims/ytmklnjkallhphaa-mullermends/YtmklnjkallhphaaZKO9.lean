/- Texts of ours, one behind the other: KO9 KO10 S58 KO11 KO12. -/
import Derived.Test.YtmklnjkallhphaaZS57
import Derived.Test.YtmklnjkallhphaaZT2
import Derived.Test.YtmklnjkallhphaaZKO8
import Derived.Test.YtmklnjkallhphaaZKD10
import Derived.Test.YtmklnjkallhphaaZW14
import Derived.Test.YtmklnjkallhphaaZI19
import Derived.Test.YtmklnjkallhphaaZI5
import Derived.Test.YtmklnjkallhphaaZKO5
import Derived.Test.YtmklnjkallhphaaZK7
import Derived.Test.YtmklnjkallhphaaZZ11
/- Muller: a monomial by majority (the program). -/
namespace Go.Proofs.Ytmklnjkallhphaa
open Go.RowKit Go.Sort

theorem andnot_all : alb (fun a => alb (fun b => bits BinOp.andNot IntKind.i64 (a : Int) (b : Int) == ((rmv b a : Nat) : Int)) 32) 32 = true := by decide +kernel
theorem andnot_nat {a b : Nat} (ha : a < 32) (hb : b < 32) : bits BinOp.andNot IntKind.i64 (a : Int) (b : Int) = ((rmv b a : Nat) : Int) :=
  eq_of_beq (alb_at (alb_at andnot_all a ha) b hb)
theorem xor_all : alb (fun a => alb (fun b => bits BinOp.xor IntKind.i64 (a : Int) (b : Int) == (((a + b) % 2 : Nat) : Int)) 2) 2 = true := by decide +kernel
theorem xor_nat {a b : Nat} (ha : a < 2) (hb : b < 2) : bits BinOp.xor IntKind.i64 (a : Int) (b : Int) = (((a + b) % 2 : Nat) : Int) :=
  eq_of_beq (alb_at (alb_at xor_all a ha) b hb)
/-- 32 noughts. -/
def smz : Array Value := #[.int .i64 0, .int .i64 0, .int .i64 0, .int .i64 0, .int .i64 0, .int .i64 0, .int .i64 0, .int .i64 0, .int .i64 0, .int .i64 0, .int .i64 0, .int .i64 0, .int .i64 0, .int .i64 0, .int .i64 0, .int .i64 0, .int .i64 0, .int .i64 0, .int .i64 0, .int .i64 0, .int .i64 0, .int .i64 0, .int .i64 0, .int .i64 0, .int .i64 0, .int .i64 0, .int .i64 0, .int .i64 0, .int .i64 0, .int .i64 0, .int .i64 0, .int .i64 0]
set_option maxRecDepth 1000000 in
theorem smz_is : smz = Array.replicate 32 (.int .i64 0) := by kernel_rfl
/-- The sums' array. -/
def SmR (T : Nat) (c : Nat → Nat) (w : World) : Prop := RowF T 32 91 (fun o => .int .i64 (c o : Nat)) w
theorem smr_new (w : World) : SmR w.heap.size (fun _ => 0) (w.alloc (.cells smz 91)) := by
  rw [smz_is]
  refine ⟨_, two_new _, by simp, fun o ho => ?_⟩
  rw [Array.getElem?_replicate, if_pos ho]
  rfl
theorem SmR.put {T x v : Nat} {c d : Nat → Nat} {w : World} (h : SmR T c w) (hd : ∀ y, y < 32 → d y = if y = x then v else c y) : SmR T d (w.setCell ⟨T, x, none⟩ (.int .i64 (v : Nat))) := by
  refine (RowF.store h x (.int .i64 (v : Nat))).congr (fun o ho => ?_)
  unfold upd
  rw [hd o ho]
  split <;> rfl
theorem rmv_le (s x : Nat) : rmv s x ≤ x := Nat.sub_le _ _

set_option maxHeartbeats 8000000 in
set_option maxRecDepth 100000 in
theorem byMaj_any (s G P cap : Nat) (hs : s < 32) (hP : P ≤ 32) (c : Nat → Nat) (hc : ∀ x, x < P → c x < 2) {w : World} (hR : Row G P c w) :
    Calls Try.prog 40 #[.int .i64 (s : Nat), .slice (some ⟨G, 0, none⟩) P cap] w fun e w' => e = .returned (.bool (maj s c P)) ∧ Below w.heap.size w w' := by
  have HR : Hid (Row G P c w ∧ (∀ x, x < P → c x < 2)) := ⟨hR, hc⟩
  clear hR hc
  obtain ⟨MJ, hMJ⟩ : ∃ MJ, MJ = maj s c P := ⟨_, rfl⟩
  have HM : Hid (MJ = maj s c P) := hMJ
  rw [← hMJ]
  clear hMJ
  have H0 : Hid (SmR w.heap.size (fun _ => 0) (w.alloc (.cells smz 91)) ∧ Below w.heap.size w (w.alloc (.cells smz 91))) := ⟨smr_new w, (Below.refl _ _).alloc (Nat.le_refl _) _⟩
  go_enter Try.func40, Try.ntmps40
  go_wp2
  obtain ⟨T, hT⟩ : ∃ T, T = w.heap.size := ⟨_, rfl⟩
  rw [← hT]
  have HG : Hid (T = w.heap.size) := hT
  clear hT
  go_loopw [13] (fun vi wx => ∃ t : Nat, t ≤ P ∧ vi = .int .i64 (t : Nat) ∧ Hid (SmR T (fun y => csm s y c t) wx ∧ Below w.heap.size w wx)) (fun vi _ => P - (intOf vi).toNat)
  case atStart => exact ⟨0, by omega, rfl, by rw [HG.out]; exact H0.out.1, H0.out.2⟩
  case round =>
    clear H0
    obtain ⟨t, ht, rfl, HI⟩ := hrel
    rename World => wA
    by_cases hlt : t < P
    · have hib : (t : Int) < (P : Int) := by omega
      have hib0 : (0 : Int) ≤ (t : Int) := by omega
      have hcell : wA.cell? ⟨G, t, none⟩ = some (.int .i64 (c t : Nat)) := (HR.out.1.below HI.out.2 HR.out.1.lt).cell t hlt
      obtain ⟨b, hb⟩ : ∃ b, b = c t := ⟨_, rfl⟩
      rw [← hb] at hcell
      have hb2 : b < 2 := by rw [hb]; exact HR.out.2 t hlt
      obtain ⟨y, hy⟩ : ∃ y, y = rmv s t := ⟨_, rfl⟩
      have hyt : y ≤ t := by rw [hy]; exact rmv_le s t
      have hand : bits BinOp.andNot IntKind.i64 (t : Int) (s : Int) = (y : Int) := by rw [hy]; exact andnot_nat (by omega) hs
      obtain ⟨q, hq⟩ : ∃ q, q = csm s y c t := ⟨_, rfl⟩
      have hq2 : q < 2 := by rw [hq]; exact csm_lt s y t
      have hsc : wA.cell? ⟨T, y, none⟩ = some (.int .i64 (q : Nat)) := by rw [hq]; exact RowF.cell HI.out.1 y (by omega)
      have hsf := RowF.free HI.out.1 y
      obtain ⟨z, hz⟩ : ∃ z, z = (q + b) % 2 := ⟨_, rfl⟩
      have hxor : bits BinOp.xor IntKind.i64 (q : Int) (b : Int) = (z : Int) := by rw [hz]; exact xor_nat hq2 hb2
      have hy0 : (0 : Int) ≤ (y : Int) := by omega
      have hy32 : (y : Int) < 32 := by omega
      have hy33 : y < 32 := by omega
      have HX : Hid (SmR T (fun y => csm s y c (t + 1)) (wA.setCell ⟨T, y, none⟩ (.int .i64 (z : Nat))) ∧ Below w.heap.size w (wA.setCell ⟨T, y, none⟩ (.int .i64 (z : Nat)))) := by
        refine ⟨HI.out.1.put (fun o _ => ?_), HI.out.2.setCell (by show w.heap.size ≤ T; rw [HG.out]; exact Nat.le_refl _) _⟩
        show (if rmv s t = o then (csm s o c t + c t) % 2 else csm s o c t) = _
        by_cases e : o = y
        · rw [if_pos (by rw [← hy]; exact e.symm), if_pos e, hz, hq, hb, e]
        · rw [if_neg (by rw [← hy]; exact fun h => e h.symm), if_neg e]
      clear hb hy hq hz
      go_wp2
      go_roundw
      case rel => exact ⟨t + 1, by omega, by go_num, HX.out⟩
      case measure => simp [intOf]; omega
    · have hib : ¬ (t : Int) < (P : Int) := by omega
      have HX : Hid (SmR T (fun y => csm s y c P) wA ∧ Below w.heap.size w wA) := by
        have h := HI.out
        rw [show t = P by omega] at h
        exact h
      clear HI
      go_wp2
      go_loopw [8, 9, 29] (fun vy vn vi wx => ∃ i a b : Nat, i ≤ P ∧ vi = .int .i64 (i : Nat) ∧ vy = .int .i64 (a : Nat) ∧ vn = .int .i64 (b : Nat) ∧ a ≤ i ∧ b ≤ i ∧ Hid (a = cnu (yes s c P) i ∧ b = cnu (nos s c P) i ∧ wx = wA)) (fun _ _ vi _ => P - (intOf vi).toNat)
      case atStart => exact ⟨0, 0, 0, by omega, rfl, rfl, rfl, by omega, by omega, rfl, rfl, rfl⟩
      case round =>
        obtain ⟨i, a, b, hi, rfl, rfl, rfl, hai, hbi, HJ⟩ := hrel
        rename World => wB
        have HB : Hid (a = cnu (yes s c P) i ∧ b = cnu (nos s c P) i) := ⟨HJ.out.1, HJ.out.2.1⟩
        have hwB := HJ.out.2.2
        have hwB := hwB.symm
        subst hwB
        clear HJ
        by_cases hli : i < P
        · have hjb : (i : Int) < (P : Int) := by omega
          have hjb0 : (0 : Int) ≤ (i : Int) := by omega
          obtain ⟨d, hd⟩ : ∃ d, d = i &&& s := ⟨_, rfl⟩
          have hand : bits BinOp.and IntKind.i64 (i : Int) (s : Int) = (d : Int) := by rw [hd]; exact and_nat i s (by omega) (by omega)
          obtain ⟨q, hq⟩ : ∃ q, q = csm s i c P := ⟨_, rfl⟩
          have hsc : wA.cell? ⟨T, i, none⟩ = some (.int .i64 (q : Nat)) := by rw [hq]; exact RowF.cell HX.out.1 i (by omega)
          have hi32 : (i : Int) < 32 := by omega
          have hi33 : i < 32 := by omega
          have ey : cnu (yes s c P) (i + 1) = cnu (yes s c P) i + if yes s c P i = true then 1 else 0 := rfl
          have en : cnu (nos s c P) (i + 1) = cnu (nos s c P) i + if nos s c P i = true then 1 else 0 := rfl
          by_cases h0 : d = 0
          · have hdb : ((d : Int) != 0) = false := by rw [h0]; rfl
            by_cases h1 : q = 1
            · have hqb : ((q : Int) == 1) = true := by rw [h1]; rfl
              have HV : Hid (a + 1 = cnu (yes s c P) (i + 1) ∧ b = cnu (nos s c P) (i + 1)) := by
                have y1 : yes s c P i = true := by unfold yes; rw [← hd, ← hq, h0, h1]; rfl
                have n1 : nos s c P i = false := by unfold nos; rw [← hd, ← hq, h0, h1]; rfl
                rw [ey, en, y1, n1, HB.out.1, HB.out.2]
                exact ⟨rfl, rfl⟩
              clear ey en h0 h1 hd hq
              go_wp2
              go_roundw
              case rel => exact ⟨i + 1, a + 1, b, by omega, by go_num, by go_num, rfl, by omega, by omega, HV.out.1, HV.out.2, by first | rfl | trivial⟩
              case measure => simp [intOf]; omega
            · have hqb : ((q : Int) == 1) = false := by rw [beq_eq_false_iff_ne]; omega
              have HV : Hid (a = cnu (yes s c P) (i + 1) ∧ b + 1 = cnu (nos s c P) (i + 1)) := by
                have e1 : (csm s i c P == 1) = false := by rw [← hq, beq_eq_false_iff_ne]; exact h1
                have y1 : yes s c P i = false := by unfold yes; rw [e1, Bool.and_false]
                have n1 : nos s c P i = true := by unfold nos; rw [e1, ← hd, h0]; rfl
                rw [ey, en, y1, n1, HB.out.1, HB.out.2]
                exact ⟨rfl, rfl⟩
              clear ey en h0 h1 hd hq
              go_wp2
              go_roundw
              case rel => exact ⟨i + 1, a, b + 1, by omega, by go_num, rfl, by go_num, by omega, by omega, HV.out.1, HV.out.2, by first | rfl | trivial⟩
              case measure => simp [intOf]; omega
          · have hdb : ((d : Int) != 0) = true := by rw [bne_iff_ne]; omega
            have HV : Hid (a = cnu (yes s c P) (i + 1) ∧ b = cnu (nos s c P) (i + 1)) := by
              have e1 : decide (i &&& s = 0) = false := decide_eq_false (by rw [← hd]; exact h0)
              have y1 : yes s c P i = false := by unfold yes; rw [e1]; rfl
              have n1 : nos s c P i = false := by unfold nos; rw [e1]; rfl
              rw [ey, en, y1, n1, HB.out.1, HB.out.2]
              exact ⟨rfl, rfl⟩
            clear ey en h0 hd hq
            go_wp2
            go_roundw
            case rel => exact ⟨i + 1, a, b, by omega, by go_num, rfl, rfl, by omega, by omega, HV.out.1, HV.out.2, by first | rfl | trivial⟩
            case measure => simp [intOf]; omega
        · have hjb : ¬ (i : Int) < (P : Int) := by omega
          have HE : Hid (MJ = decide (b < a)) := by
            have h := HB.out
            rw [show i = P by omega] at h
            show MJ = _
            rw [HM.out, h.1, h.2]
            unfold maj
            exact decide_eq_decide.2 (by omega)
          go_wp2
          go_ret
          exact ⟨by rw [HE.out]; rfl, HX.out.2⟩
end Go.Proofs.Ytmklnjkallhphaa

/- Muller: Encode (the program). -/
namespace Go.Proofs.Ytmklnjkallhphaa
open Go.RowKit Go.Sort

set_option maxHeartbeats 2000000 in
theorem collectM_any {b1 b2 r m : Nat} (hm : m ≤ 5) (hr : r ≤ m) {w : World} (hP : BxU b1 b2 r m w) :
    Calls Try.prog 36 #[.func (.func 51) #[] #[.pointer (some ⟨b1, 0, none⟩), .pointer (some ⟨b2, 0, none⟩)]] w fun e w' => ∃ v, e = .returned v ∧ OwnM w.heap.size v (nli (mnl m (r + 1))) w' ∧ Below w.heap.size w w' := by
  have HC : Hid (Calls Try.prog 54 #[.slice none 0 0, .func (.func 51) #[] #[.pointer (some ⟨b1, 0, none⟩), .pointer (some ⟨b2, 0, none⟩)]] w fun e w' => ∃ v, e = .returned v ∧ OwnM w.heap.size v (nli (mnl m (r + 1))) w' ∧ Below w.heap.size w w') := appendSeqM_any hm hr hP
  clear hP
  go_enter Try.func36, Try.ntmps36
  go_wp2_with fail
  refine HC.out.mono ?_
  rintro e w1 ⟨v, rfl, h1, h2⟩
  have H1 : Hid (OwnM w.heap.size v (nli (mnl m (r + 1))) w1 ∧ Below w.heap.size w w1) := ⟨h1, h2⟩
  clear h1 h2 HC
  go_wp2
  go_ret
  exact ⟨_, rfl, H1.out⟩
def clp (m : Nat) : Bool := alb (fun r => Nat.blt 0 (mnl m (r + 1)).length) (m + 1)
theorem mnl_pos {m r : Nat} (h1 : 1 ≤ m) (h : m ≤ 5) (hr : r ≤ m) : 0 < (mnl m (r + 1)).length := by
  have hc : clp m = true := by
    have : m = 1 ∨ m = 2 ∨ m = 3 ∨ m = 4 ∨ m = 5 := by omega
    rcases this with rfl | rfl | rfl | rfl | rfl <;> decide +kernel
  have := alb_at hc r (by omega)
  simp [Nat.blt] at this
  omega
theorem mck_fine {r m : Nat} (h1 : 1 ≤ m) (h : m ≤ 5) (hr : r ≤ m) : mck (r : Int) (m : Int) = 0 := by
  unfold mck
  rw [if_neg (by omega), if_neg (by omega)]

end Go.Proofs.Ytmklnjkallhphaa

/- Muller: the codes' rows: independent; the dual is one of them; how far their words lie apart. -/
namespace Go.Proofs.Ytmklnjkallhphaa

/-- A code's rows: the monomials' words. -/
def mrow (l : List Nat) (P i : Nat) : Nat → Nat := fun x => if x < P then mof (l.getD i 0) x else 0
theorem wgt_congr {a b : Nat → Nat} : ∀ n, (∀ x, x < n → a x = b x) → wgt a n = wgt b n
  | 0, _ => rfl
  | n + 1, h => by
    show wgt a n + (if a n = 1 then 1 else 0) = wgt b n + (if b n = 1 then 1 else 0)
    rw [wgt_congr n (fun x hx => h x (by omega)), h n (by omega)]
theorem wgt_ct {a : Nat → Nat} : ∀ n, (∀ x, x < n → a x < 2) → ct (fun i => !decide (((a i : Nat) : Int) = 0)) n = wgt a n
  | 0, _ => rfl
  | n + 1, h => by
    show ct (fun i => !decide (((a i : Nat) : Int) = 0)) n + (if (!decide (((a n : Nat) : Int) = 0)) = true then 1 else 0) = wgt a n + if a n = 1 then 1 else 0
    rw [wgt_ct n (fun x hx => h x (by omega))]
    have := h n (by omega)
    have : a n = 0 ∨ a n = 1 := by omega
    rcases this with e | e <;> rw [e] <;> rfl
end Go.Proofs.Ytmklnjkallhphaa

/- Muller: the code (the program). -/
namespace Go.Proofs.Ytmklnjkallhphaa
open Go.RowKit Go.Sort Go.Shelf
attribute [local go_sem] Oper.semAt_some

/-- Rows that the call made itself are rows of a code. -/
theorem LLs.cod {D : FD} {base k n : Nat} {v : Value} {R : Nat → Nat → Nat} {w : World} (h : LLs base v (Go.Proofs.Ytmklnjkallhphaa.rl k n R) w) (hn : n + 1 ≤ 64) (hk : k ≤ 64) (he : ∀ i, i < k → El D (R i)) (hb : ∀ i, i < k → Bd (n + 1) (R i)) : ∃ ao cap, v = .slice ao k cap ∧ Cod D (n + 1) ao k R w := by
  obtain ⟨ao, cap, A, C, hv, hz⟩ := h.matZN (by omega)
  refine ⟨ao, cap, hv, A, fun _ => n + 1, C, _, ⟨hz, blw_mchk6 hk (by omega) hn (fun j hj t ht => ?_), fun _ => rfl, by omega, hn⟩, fun i hi => mzc_rows hb i hi⟩
  have := he j hj t
  exact ⟨by omega, by omega⟩
theorem CB.put {b : Nat} {q n : Int} {v : Value} {w : World} (h : CB b q n v w) (ht : RBt b w) (u : Value) : CB b q n u (w.setCell ⟨b, 2, none⟩ u) ∧ RBt b (w.setCell ⟨b, 2, none⟩ u) := by
  obtain ⟨cs, hcs⟩ := ht
  have hf : RowF b cs.size 27 (fun o => cs.getD o undef) w := ⟨cs, hcs, rfl, fun o ho => by simp [Array.getD, ho]⟩
  have e : ∀ o, w.cell? ⟨b, o, none⟩ = cs[o]? := fun o => cell_of_row w b o cs _ (0, 0) hcs
  have h2 : 2 < cs.size := by
    have := h.c2
    rw [e] at this
    exact (Array.getElem?_eq_some_iff.1 this).1
  have hs := hf.store 2 u
  refine ⟨⟨?_, ?_, ?_⟩, ?_⟩
  · rw [hs.cell 0 (by omega)]
    unfold upd
    rw [if_neg (by omega), ← h.c0, hf.cell 0 (by omega)]
  · rw [hs.cell 1 (by omega)]
    unfold upd
    rw [if_neg (by omega), ← h.c1, hf.cell 1 (by omega)]
  · rw [hs.cell 2 (by omega)]
    unfold upd
    rw [if_pos rfl]
  · obtain ⟨cs', h1, _⟩ := hs
    exact ⟨cs', h1⟩
theorem RBt.free {b : Nat} {w : World} (h : RBt b w) (o : Nat) : w.frozen? ⟨b, o, none⟩ = false := by
  obtain ⟨cs, hcs⟩ := h
  exact frozen_of_row w b o cs _ hcs
theorem RBt.other {b : Nat} {w w' : World} (h : RBt b w) (e : w'.heap[b]? = w.heap[b]?) : RBt b w' := by
  obtain ⟨cs, hcs⟩ := h
  exact ⟨cs, e.trans hcs⟩
theorem RB.other {b : Nat} {w w' : World} (h : RB b w) (e : w'.heap[b]? = w.heap[b]?) : RB b w' := by
  have ec : ∀ o, w'.cell? ⟨b, o, none⟩ = w.cell? ⟨b, o, none⟩ := fun o => by simp [World.cell?, e]
  have ef : ∀ o, w'.frozen? ⟨b, o, none⟩ = w.frozen? ⟨b, o, none⟩ := fun o => World.frozen?_of_block e
  exact ⟨by rw [ec]; exact h.c0, by rw [ec]; exact h.c1, by rw [ec]; exact h.c2, by rw [ef]; exact h.f0, by rw [ef]; exact h.f1, by rw [ef]; exact h.f2⟩
theorem RB.lt {b : Nat} {w : World} (h : RB b w) : b < w.heap.size := by
  obtain ⟨⟨x0, c0⟩, _⟩ := h
  exact cell_lt c0
theorem CB.other {b : Nat} {q n : Int} {v : Value} {w w' : World} (h : CB b q n v w) (e : w'.heap[b]? = w.heap[b]?) : CB b q n v w' := by
  have ec : ∀ o, w'.cell? ⟨b, o, none⟩ = w.cell? ⟨b, o, none⟩ := fun o => by simp [World.cell?, e]
  exact ⟨by rw [ec]; exact h.c0, by rw [ec]; exact h.c1, by rw [ec]; exact h.c2⟩
theorem MV.above {B : Nat} {v : Value} {k n : Nat} {R : Nat → Nat → Nat} {w w' : World} (h : MV B v k n R w) (hs : ∀ g, B ≤ g → w'.heap[g]? = w.heap[g]?) : MV B v k n R w' := by
  rcases h with h | ⟨G, mc, m, hh, ev, hm⟩
  · exact Or.inl h
  · exact Or.inr ⟨G, mc, m, hh, ev, hm.keep (hs G hm.geG) (fun i hi => hs _ (hm.ge i hi))⟩
end Go.Proofs.Ytmklnjkallhphaa

/- Muller: the reference finds no message (MullerNear). -/
namespace Go.Proofs.Ytmklnjkallhphaa
open Go.RowKit Go.Sort

theorem rmw_any (r m P : Nat) (h1 : 1 ≤ m) (h : m ≤ 5) (hr : r ≤ m) (hP : P = 2 ^ m) {ao : Option Addr} {k ca : Nat} {g : Nat → Nat} {w : World} (hk : k = (mnl m (r + 1)).length) (hg : ∀ i, i < k → g i < 2) (ha : Arg ao k ca (fun i => ((g i : Nat) : Int)) w) :
    Calls Try.prog 14 #[.int .i64 (r : Nat), .int .i64 (m : Nat), .slice ao k ca] w fun e w' => ∃ G, e = .returned (.slice (some ⟨G, 0, none⟩) P P) ∧ w.heap.size ≤ G ∧ Row G P (fun x => mwv (mnl m (r + 1)) g x (mnl m (r + 1)).length) w' ∧ Below w.heap.size w w' := by
  subst hP
  refine (rmullerWord_any r m h1 h hr hk hg ha).mono ?_
  rintro e w' ⟨G, rfl, hG, hrow, hb⟩
  exact ⟨G, rfl, hG, hrow.congr (fun x hx => by unfold mwf; rw [if_pos hx]), hb⟩
def FTx : FD := ⟨2, 2, 1, 0, 1⟩
theorem FTx_in : FTx ∈ fieldsL := List.Mem.head _

set_option maxHeartbeats 16000000 in
set_option maxRecDepth 100000 in
theorem rmullerNear_none (r m P : Nat) (h1 : 1 ≤ m) (h : m ≤ 5) (hr : r ≤ m) (hP : P = 2 ^ m) (hK : (mnl m (r + 1)).length ≤ 11) {ao : Option Addr} {cap : Nat} {z : Nat → Int} {w : World} (hs : Arg ao P cap z w)
    (hno : ∀ g : Nat → Nat, (∀ i, g i < 2) → ¬ 2 * ct (fun x => !decide (((mwv (mnl m (r + 1)) g x (mnl m (r + 1)).length : Nat) : Int) = z x)) P < 2 ^ (m - r)) :
    Calls Try.prog 18 #[.int .i64 (r : Nat), .int .i64 (m : Nat), .slice ao P cap] w fun e w' => e = .returned (.tuple #[.slice none 0 0, .int .i64 0, .bool false]) ∧ Below w.heap.size w w' := by
  obtain ⟨l, hl⟩ : ∃ l, l = mnl m (r + 1) := ⟨_, rfl⟩
  obtain ⟨n, hn⟩ : ∃ n, n = l.length := ⟨_, rfl⟩
  have hnpos : 0 < n := by rw [hn, hl]; exact mnl_pos h1 h hr
  have hn11 : n ≤ 11 := by rw [hn, hl]; exact hK
  have hPb : P ≤ 32 := by rw [hP]; exact Nat.pow_le_pow_right (by omega) h
  obtain ⟨d, hd⟩ : ∃ d, d = m - r := ⟨_, rfl⟩
  have hdi : (m : Int) - (r : Int) = (d : Int) := by omega
  have hd5 : d ≤ 5 := by omega
  obtain ⟨Q, hQ⟩ : ∃ Q, Q = 2 ^ d := ⟨_, rfl⟩
  have hsh : (2 : Int) ^ d = (Q : Int) := by rw [hQ]; simp
  have hQb : Q ≤ 32 := by rw [hQ]; exact Nat.pow_le_pow_right (by omega) hd5
  obtain ⟨N, hN⟩ : ∃ N, N = 2 ^ n := ⟨_, rfl⟩
  have hN0 : 0 < N := by rw [hN]; exact Nat.pow_pos (by omega)
  rw [← hd, ← hQ, ← hl] at hno
  have HN : Hid (N = 2 ^ n ∧ l = mnl m (r + 1) ∧ n = l.length ∧ P = 2 ^ m ∧ Arg ao P cap z w ∧ (∀ g : Nat → Nat, (∀ i, g i < 2) → ¬ 2 * ct (fun x => !decide (((mwv l g x l.length : Nat) : Int) = z x)) P < Q)) := ⟨hN, hl, hn, hP, hs, hno⟩
  have HM : Hid (Calls Try.prog 12 #[.int .i64 (r : Nat), .int .i64 (m : Nat)] w fun e w' => ∃ v, e = .returned v ∧ OwnI w.heap.size v (nli l) w' ∧ Below w.heap.size w w') := by rw [hl]; exact rmonos_any r m h1 h hr w
  have hm5 := h
  clear hN hl hn hP hs hno hQ hd hK h
  go_enter Try.func18, Try.ntmps18
  go_wp2_with fail
  refine HM.out.mono ?_
  rintro e w1 ⟨v, rfl, hov, hb1⟩
  obtain ⟨gM, cM, hv, _⟩ := hov.at (fun e => by have := nli_len l; rw [e] at this; simp at this; have := HN.out.2.2.1; omega)
  rw [nli_len, ← HN.out.2.2.1] at hv
  subst hv
  have H1 : Hid (Below w.heap.size w w1) := hb1
  clear hov hb1 HM
  go_wp2_with (at_make; refine make_int rfl _ _ rfl _ n rfl rfl rfl (by omega) ?_; intro w2 hown2 hgrow2)
  obtain ⟨g, hg⟩ : ∃ g, g = w1.heap.size := ⟨_, rfl⟩
  have HB1 : Hid (Below w.heap.size w w2 ∧ Row g n pnil w2 ∧ w.heap.size ≤ g) := ⟨bel_up' H1.out (below_grown hgrow2 (Nat.le_refl _) (fun k hk => by simp at hk)), by rw [hg]; exact row_zeros hown2, by have := H1.out.size; omega⟩
  rw [← hg]
  clear hown2 hgrow2 hg
  go_loopg [10] N (fun gk vm wr => ∃ (k : Nat) (mb : Bool), k + gk = N ∧ vm = .bool mb ∧ Hid (mb = decide (0 < gk) ∧ (0 < gk → Row g n (dgs 2 n k) wr) ∧ Below w.heap.size w wr))
  case atStart =>
    exact ⟨0, true, by omega, rfl, by rw [decide_eq_true hN0], fun _ => HB1.out.2.1.congr (fun j _ => dgs_zero.symm), HB1.out.1⟩
  case round =>
    obtain ⟨k, mb, hkN, rfl, HG⟩ := hrel
    rename World => wr
    by_cases hgk : 0 < gk
    · have hmb : mb = true := by rw [HG.out.1, decide_eq_true hgk]
      subst hmb
      have hk2 : k < 2 ^ n := by rw [← HN.out.1]; omega
      have hbit : ∀ j, dgs 2 n k j < 2 := fun j => dgs_lt (q := 2) (k := n) (a := k) (by omega) j
      have HWd : Hid (Calls Try.prog 14 #[.int .i64 (r : Nat), .int .i64 (m : Nat), .slice (some ⟨g, 0, none⟩) n n] wr fun e w' => ∃ G, e = .returned (.slice (some ⟨G, 0, none⟩) P P) ∧ wr.heap.size ≤ G ∧ Row G P (fun x => mwv l (dgs 2 n k) x l.length) w' ∧ Below wr.heap.size wr w') := by
        have hrow := HG.out.2.1 hgk
        rw [HN.out.2.1]
        exact rmw_any r m P h1 hm5 hr HN.out.2.2.2.1 (by rw [← HN.out.2.1]; exact HN.out.2.2.1) (fun i _ => hbit i) ⟨(hrow.sl (Nat.le_refl _)).z, fun x hx => (by cases hx; exact hrow.lt), by omega, fun e => (by cases e), Nat.le_refl _, by omega⟩
      have HNt : Hid (∀ wx, Row g n (dgs 2 n k) wx → Calls Try.prog 42 #[.slice (some ⟨g, 0, none⟩) n n, .int .i64 2] wx fun e w' => ∃ mb', e = .returned (.bool mb') ∧ wx.grownBy w' (some g) ∧ mb' = decide (0 < gk - 1) ∧ (0 < gk - 1 → Row g n (dgs 2 n (k + 1)) w')) := fun wx hrow => by
        refine (rnext_any FTx_in (dgm_mn (fld FTx_in) n k) (by omega) (hrow.congr (fun j hj => (dgm_lo hj).symm))).mono ?_
        rintro e w' ⟨hgr, ⟨rfl, c', hr', hmn, haf⟩ | ⟨rfl, hl, _⟩⟩
        · have h := dgs_next (fld FTx_in) hk2 hmn haf
          have h1 : k + 1 < 2 ^ n := h.1
          rw [← HN.out.1] at h1
          exact ⟨true, rfl, hgr, by rw [decide_eq_true (by omega)], fun _ => hr'.congr h.2⟩
        · have h : k + 1 = 2 ^ n := dgs_last (fld FTx_in) hk2 hl
          rw [← HN.out.1] at h
          exact ⟨false, rfl, hgr, by rw [decide_eq_false (by omega)], fun h2 => absurd h2 (by omega)⟩
      obtain ⟨off, hoff⟩ : ∃ off, off = ct (fun x => !decide (((mwv l (dgs 2 n k) x l.length : Nat) : Int) = z x)) P := ⟨_, rfl⟩
      have hoP : off ≤ P := by rw [hoff]; exact ct_most _ _
      have hfar : ¬ 2 * off < Q := by rw [hoff]; exact HN.out.2.2.2.2.2 _ hbit
      have hfari : ¬ 2 * (off : Int) < (Q : Int) := by omega
      have HAp : Hid (∀ G wx, Row G P (fun x => mwv l (dgs 2 n k) x l.length) wx → Below w.heap.size w wx → Calls Try.prog 19 #[.slice (some ⟨G, 0, none⟩) P P, .slice ao P cap] wx fun e w' => e = .returned (.int .i64 (off : Nat)) ∧ Below wx.heap.size wx w') := fun G wx hrow hb => by
        rw [hoff]
        exact rapart_any (hrow.sl (Nat.le_refl _)).z (HN.out.2.2.2.2.1.below hb).sl (fun x hx => by cases hx; exact hrow.lt) (HN.out.2.2.2.2.1.below hb).lt (by omega)
      clear hoff hk2 hbit hfar
      go_wp2_with fail
      refine HWd.out.mono ?_
      rintro e w3 ⟨G, rfl, hG, hrow3, hb3⟩
      have H3 : Hid (Row G P (fun x => mwv l (dgs 2 n k) x l.length) w3 ∧ Below w.heap.size w w3 ∧ Row g n (dgs 2 n k) w3) := ⟨hrow3, bel_up' HG.out.2.2 hb3, (HG.out.2.1 hgk).below hb3 (HG.out.2.1 hgk).lt⟩
      clear hG hrow3 hb3
      go_wp2_with fail
      refine (HAp.out G w3 H3.out.1 H3.out.2.1).mono ?_
      rintro e w4 ⟨rfl, hb4⟩
      have H4 : Hid (Below w.heap.size w w4 ∧ Row g n (dgs 2 n k) w4) := ⟨bel_up' H3.out.2.1 hb4, H3.out.2.2.below hb4 H3.out.2.2.lt⟩
      clear hb4
      go_wp2_with fail
      refine (HNt.out _ H4.out.2).mono ?_
      rintro e w7 ⟨mb', rfl, hg7, hmb', hrow7⟩
      have H7 : Hid (mb' = decide (0 < gk - 1) ∧ (0 < gk - 1 → Row g n (dgs 2 n (k + 1)) w7) ∧ Below w.heap.size w w7) := ⟨hmb', hrow7, H4.out.1.grown hg7 H4.out.1.size (fun q hq => by cases hq; exact HB1.out.2.2)⟩
      clear hg7 hmb' hrow7
      go_wp2
      go_roundg (gk - 1)
      case measure => omega
      case rel => exact ⟨k + 1, mb', by omega, rfl, H7.out⟩
    · have hmb : mb = false := by rw [HG.out.1, decide_eq_false hgk]
      subst hmb
      go_wp2
      go_ret3
      exact ⟨rfl, HG.out.2.2⟩
end Go.Proofs.Ytmklnjkallhphaa
