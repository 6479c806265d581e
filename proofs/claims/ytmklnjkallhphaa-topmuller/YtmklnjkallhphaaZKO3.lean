/- Texts of ours, one behind the other: KO3 KO4 KO5 KO6 KO7 W19 W20. -/
import Derived.Test.YtmklnjkallhphaaZKL8
import Derived.Test.YtmklnjkallhphaaZN2
import Derived.Test.YtmklnjkallhphaaZL10
import Derived.Test.YtmklnjkallhphaaZZ10
import Derived.Test.YtmklnjkallhphaaZW14
import Derived.Test.YtmklnjkallhphaaZW9
import Derived.Shelf.Abstract
import Derived.Shelf.RegionOpen
import Derived.OwnWalkIn
import Derived.TacticsInMore
import Derived.LoopNIn
import Derived.LoopIn
import Derived.Test.YtmklnjkallhphaaZV7
import Derived.Test.YtmklnjkallhphaaZI10
import Derived.Test.YtmklnjkallhphaaZKL5
/- Muller: a monomial's word added to one (the program). -/
namespace Go.Proofs.Ytmklnjkallhphaa
open Go.RowKit Go.Sort

theorem and_nat (a b : Nat) (ha : a < 64) (hb : b < 64) : bits BinOp.and IntKind.i64 (a : Int) (b : Int) = ((a &&& b : Nat) : Int) := by
  have h1 : (BitVec.ofInt 64 (a : Int)).toNat = a := by
    rw [BitVec.ofInt_natCast, BitVec.toNat_ofNat]; exact Nat.mod_eq_of_lt (by omega)
  have h2 : (BitVec.ofInt 64 (b : Int)).toNat = b := by
    rw [BitVec.ofInt_natCast, BitVec.toNat_ofNat]; exact Nat.mod_eq_of_lt (by omega)
  show IntKind.i64.wrap ((BitVec.ofInt 64 (a : Int) &&& BitVec.ofInt 64 (b : Int)).toNat : Int) = _
  rw [BitVec.toNat_and, h1, h2]
  have h3 : a &&& b ≤ a := Nat.and_le_left
  exact wrap_to rfl (by omega)
theorem xor_one (a : Nat) (ha : a < 2) : bits BinOp.xor IntKind.i64 (a : Int) 1 = ((1 - a : Nat) : Int) := by
  have : a = 0 ∨ a = 1 := by omega
  rcases this with rfl | rfl <;> decide
/-- Is a monomial 1 at a place? -/
def mon (s x : Nat) : Bool := decide (x &&& s = s)
/-- A word, a monomial's added at the first places. -/
def mad (s : Nat) (c : Nat → Nat) (t : Nat) : Nat → Nat := fun x => if x < t ∧ mon s x = true then 1 - c x else c x

set_option maxHeartbeats 4000000 in
set_option maxRecDepth 100000 in
theorem monAdd_any (s G N cap B : Nat) (hs : s < 64) (hN : N ≤ 32) (hB : B ≤ G) (c : Nat → Nat) (hc : ∀ x, x < N → c x < 2) {w : World} (hR : Row G N c w) :
    Calls Try.prog 33 #[.int .i64 (s : Nat), .slice (some ⟨G, 0, none⟩) N cap] w fun e w' => e = .returned (.tuple #[]) ∧ Row G N (mad s c N) w' ∧ Below B w w' := by
  have HR : Hid (Row G N c w ∧ (∀ x, x < N → c x < 2) ∧ B ≤ G) := ⟨hR, hc, hB⟩
  clear hR hc hB
  go_enter Try.func33, Try.ntmps33
  go_wp2
  go_loopw [7] (fun vi wr => ∃ t : Nat, t ≤ N ∧ vi = .int .i64 (t : Nat) ∧ Hid (Row G N (mad s c t) wr ∧ Below B w wr)) (fun vi _ => N - (intOf vi).toNat)
  case atStart => exact ⟨0, by omega, rfl, by
    have e : mad s c 0 = c := funext fun x => if_neg (by omega)
    rw [e]; exact HR.out.1, Below.refl _ _⟩
  case round =>
    obtain ⟨t, ht, rfl, HI⟩ := hrel
    by_cases hlt : t < N
    · have hib : (t : Int) < (N : Int) := by omega
      have hi0 : (0 : Int) ≤ (t : Int) := by omega
      obtain ⟨a, ha⟩ : ∃ a, a = t &&& s := ⟨_, rfl⟩
      have hand : bits BinOp.and IntKind.i64 (t : Int) (s : Int) = (a : Int) := by rw [ha]; exact and_nat t s (by omega) hs
      by_cases hm : a = s
      · subst hm
        have hmt : mon a t = true := decide_eq_true ha.symm
        obtain ⟨b, hb⟩ : ∃ b, b = c t := ⟨_, rfl⟩
        have hb2 : b < 2 := by rw [hb]; exact HR.out.2.1 t hlt
        have hcell : wr.cell? ⟨G, t, none⟩ = some (.int .i64 (b : Nat)) := by
          have h := HI.out.1.cell t hlt
          rw [show mad a c t t = b by unfold mad; rw [if_neg (by omega), hb]] at h
          exact h
        have hfr := HI.out.1.free t
        have hxor : bits BinOp.xor IntKind.i64 (b : Int) 1 = ((1 - b : Nat) : Int) := xor_one b hb2
        have HX : Hid (∀ wz, wz = wr.setCell ⟨G, t, none⟩ (.int .i64 ((1 - b : Nat) : Int)) → Row G N (mad a c (t + 1)) wz ∧ Below B w wz) := fun wz e => by
          rw [e]
          refine ⟨HI.out.1.store t (1 - b) (fun j _ => ?_), HI.out.2.setCell HR.out.2.2 _⟩
          unfold mad
          by_cases ej : j = t
          · rw [if_pos ⟨by omega, by rw [ej]; exact hmt⟩, if_pos ej, ej, hb]
          · rw [if_neg ej]
            by_cases ej2 : j < t ∧ mon a j = true
            · rw [if_pos ⟨by omega, ej2.2⟩, if_pos ej2]
            · rw [if_neg ej2, if_neg (fun h => ej2 ⟨by omega, h.2⟩)]
        clear ha hb hmt
        go_wp2
        go_roundw
        case rel => exact ⟨t + 1, by omega, by go_num, HX.out _ rfl⟩
        case measure => simp [intOf]; omega
      · have hmb : ((a : Int) == (s : Int)) = false := by rw [beq_eq_false_iff_ne]; omega
        have HX : Hid (Row G N (mad s c (t + 1)) wr ∧ Below B w wr) := by
          have e : mad s c (t + 1) = mad s c t := funext fun j => by
            unfold mad
            by_cases ej : j = t
            · have : mon s j = false := by rw [ej]; exact decide_eq_false (by rw [← ha]; exact hm)
              rw [if_neg (by rw [this]; simp), if_neg (by rw [this]; simp)]
            · by_cases ej2 : j < t ∧ mon s j = true
              · rw [if_pos ⟨by omega, ej2.2⟩, if_pos ej2]
              · rw [if_neg ej2, if_neg (fun h => ej2 ⟨by omega, h.2⟩)]
          rw [e]; exact HI.out
        clear ha
        go_wp2
        go_roundw
        case rel => exact ⟨t + 1, by omega, by go_num, HX.out⟩
        case measure => simp [intOf]; omega
    · have hib : ¬ (t : Int) < (N : Int) := by omega
      have HZ : Hid (Row G N (mad s c N) wr ∧ Below B w wr) := by
        have h := HI.out
        rw [show t = N by omega] at h
        exact h
      go_wp2
      exact bodyPost_end (results_none rfl _ _ _) rfl ⟨rfl, HZ.out⟩
end Go.Proofs.Ytmklnjkallhphaa

/- Muller: the reference's word of a message. -/
namespace Go.Proofs.Ytmklnjkallhphaa
open Go.RowKit Go.Sort

theorem nli_zl (l : List Nat) : nli l = zl l.length (fun j => ((l.getD j 0 : Nat) : Int)) := by
  apply List.ext_getElem
  · rw [nli_len, zl_len]
  · intro i h1 h2
    have e : (zl l.length (fun j => ((l.getD j 0 : Nat) : Int))).getD i 0 = ((l.getD i 0 : Nat) : Int) := zl_getD _ _ _ (by rw [nli_len] at h1; exact h1)
    rw [nli_len] at h1
    rw [List.getD_eq_getElem?_getD, List.getElem?_eq_getElem h2] at e
    have e2 : (zl l.length (fun j => ((l.getD j 0 : Nat) : Int)))[i] = ((l.getD i 0 : Nat) : Int) := e
    rw [e2, List.getD_eq_getElem?_getD, List.getElem?_eq_getElem h1]
    simp [nli]
/-- A message's word at a place: the sum of the monomials that are 1 there. -/
def mwv (l : List Nat) (g : Nat → Nat) (x : Nat) : Nat → Nat
  | 0 => 0
  | i + 1 => if g i = 1 ∧ mon (l.getD i 0) x = true then 1 - mwv l g x i else mwv l g x i
theorem mwv_lt (l : List Nat) (g : Nat → Nat) (x : Nat) : ∀ i, mwv l g x i < 2
  | 0 => by show 0 < 2; omega
  | i + 1 => by
    have := mwv_lt l g x i
    show (if g i = 1 ∧ mon (l.getD i 0) x = true then 1 - mwv l g x i else mwv l g x i) < 2
    split <;> omega
end Go.Proofs.Ytmklnjkallhphaa

/- math/bits.OnesCount of small numbers. -/
namespace Go.Proofs.Ytmklnjkallhphaa
open Go.RowKit Go.Sort

set_option maxHeartbeats 4000000 in
set_option maxRecDepth 100000 in
theorem ones64_any (s : Nat) (hs : s < 32) (w : World) : Calls Try.prog 74 #[.int .u64 (s : Int)] w fun e w' => e = .returned (.int .i64 (pc s : Nat)) ∧ w' = w := by
  go_enter Try.func74, Try.ntmps74
  go_wp2
  go_ret
  refine ⟨?_, by first | rfl | trivial⟩
  have h : s = 0 ∨ s = 1 ∨ s = 2 ∨ s = 3 ∨ s = 4 ∨ s = 5 ∨ s = 6 ∨ s = 7 ∨ s = 8 ∨ s = 9 ∨ s = 10 ∨ s = 11 ∨ s = 12 ∨ s = 13 ∨ s = 14 ∨ s = 15 ∨ s = 16 ∨ s = 17 ∨ s = 18 ∨ s = 19 ∨ s = 20 ∨ s = 21 ∨ s = 22 ∨ s = 23 ∨ s = 24 ∨ s = 25 ∨ s = 26 ∨ s = 27 ∨ s = 28 ∨ s = 29 ∨ s = 30 ∨ s = 31 := by omega
  clear hs
  rcases h with rfl | rfl | rfl | rfl | rfl | rfl | rfl | rfl | rfl | rfl | rfl | rfl | rfl | rfl | rfl | rfl | rfl | rfl | rfl | rfl | rfl | rfl | rfl | rfl | rfl | rfl | rfl | rfl | rfl | rfl | rfl | rfl <;> (refine congrArg Ending.returned ?_; kernel_rfl)

set_option maxHeartbeats 2000000 in
set_option maxRecDepth 100000 in
theorem onesCount_any (s : Nat) (hs : s < 32) (w : World) : Calls Try.prog 52 #[.int .u64 (s : Int)] w fun e w' => e = .returned (.int .i64 (pc s : Nat)) ∧ w' = w := by
  have HC : Hid (∀ w : World, Calls Try.prog 74 #[.int .u64 (s : Int)] w fun e w' => e = .returned (.int .i64 (pc s : Nat)) ∧ w' = w) := fun w => ones64_any s hs w
  go_enter Try.func52, Try.ntmps52
  go_wp2_with fail
  refine (HC.out w).mono ?_
  rintro e w' ⟨rfl, hw⟩
  have hw := hw.symm
  subst hw
  go_wp2
  go_ret
  exact ⟨rfl, by first | rfl | trivial⟩
end Go.Proofs.Ytmklnjkallhphaa

/- Muller: the monomials, handed on one by one (the program). -/
namespace Go.Proofs.Ytmklnjkallhphaa
open Go.RowKit Go.Shelf
attribute [local go_sem] Oper.semAt_some

theorem pre_mrw (j c : Nat) : ∀ d, ∃ t, mrw j (c + d) = mrw j c ++ t
  | 0 => ⟨[], (List.append_nil _).symm⟩
  | d + 1 => by
    obtain ⟨t, ht⟩ := pre_mrw j c d
    refine ⟨t ++ if pc (c + d) = j then [c + d] else [], ?_⟩
    show mrw j (c + d) ++ (if pc (c + d) = j then [c + d] else []) = _
    rw [ht, List.append_assoc]
theorem pre_mnl (m j : Nat) : ∀ d, ∃ t, mnl m (j + d) = mnl m j ++ t
  | 0 => ⟨[], (List.append_nil _).symm⟩
  | d + 1 => by
    obtain ⟨t, ht⟩ := pre_mnl m j d
    exact ⟨t ++ mrw (j + d) (2 ^ m), by show mnl m (j + d) ++ mrw (j + d) (2 ^ m) = _; rw [ht, List.append_assoc]⟩
theorem mnl_at {m r j c : Nat} (hj : j < r + 1) (hc : c < 2 ^ m) (hp : pc c = j) : (mnl m j ++ mrw j c).length < (mnl m (r + 1)).length ∧ (mnl m (r + 1)).getD (mnl m j ++ mrw j c).length 0 = c := by
  obtain ⟨t, ht⟩ := pre_mrw j (c + 1) (2 ^ m - (c + 1))
  obtain ⟨t2, ht2⟩ := pre_mnl m (j + 1) (r + 1 - (j + 1))
  rw [show c + 1 + (2 ^ m - (c + 1)) = 2 ^ m by omega] at ht
  rw [show j + 1 + (r + 1 - (j + 1)) = r + 1 by omega] at ht2
  have e1 : mrw j (c + 1) = mrw j c ++ [c] := by
    show mrw j c ++ (if pc c = j then [c] else []) = _
    rw [if_pos hp]
  have e2 : mnl m (j + 1) = mnl m j ++ mrw j (2 ^ m) := rfl
  have e : mnl m (r + 1) = (mnl m j ++ mrw j c) ++ (c :: (t ++ t2)) := by
    rw [ht2, e2, ht, e1]
    simp
  rw [e]
  refine ⟨by simp only [List.length_append, List.length_cons]; omega, ?_⟩
  rw [List.getD_eq_getElem?_getD, List.getElem?_append_right (Nat.le_refl _), Nat.sub_self]
  rfl
/-- The i-th monomial of a list. -/
def MnE (l : List Nat) (i : Nat) (args : Array Value) (_ : World) : Prop := i < l.length ∧ args = #[.int .i64 (l.getD i 0 : Nat)]
/-- The two numbers that the iterator keeps. -/
def BxU (b1 b2 : Nat) (r m : Nat) (w : World) : Prop := w.cell? ⟨b1, 0, none⟩ = some (.int .i64 (r : Nat)) ∧ w.cell? ⟨b2, 0, none⟩ = some (.int .i64 (m : Nat))
theorem BxU.kpo {b1 b2 r m : Nat} {own : Nat → Prop} {X Y : World} (h : BxU b1 b2 r m X) (hk : KpO own X Y) (h1 : ¬ own b1) (h2 : ¬ own b2) : BxU b1 b2 r m Y := by
  have e1 := hk.same b1 (cell_lt h.1) h1
  have e2 := hk.same b2 (cell_lt h.2) h2
  obtain ⟨c1, c2⟩ := h
  unfold BxU World.cell? at *
  exact ⟨by rw [e1]; exact c1, by rw [e2]; exact c2⟩
theorem BxU.below {b1 b2 r m : Nat} {X Y : World} (h : BxU b1 b2 r m X) (hb : Below X.heap.size X Y) : BxU b1 b2 r m Y :=
  h.kpo (own := fun _ => False) (KpO.of_below hb) (fun h => h) (fun h => h)

set_option maxHeartbeats 8000000 in
set_option maxRecDepth 100000 in
theorem monos_seq {b1 b2 r m : Nat} (hm : m ≤ 5) (hr : r ≤ m) {own : Nat → Prop} {w : World} (hP : BxU b1 b2 r m w) (h1 : ¬ own b1) (h2 : ¬ own b2) :
    SeqI Try.prog 51 #[.pointer (some ⟨b1, 0, none⟩), .pointer (some ⟨b2, 0, none⟩)] (mnl m (r + 1)).length (MnE (mnl m (r + 1))) own w := by
  intro l J W hbW hl hlW hJ hY hJ0
  have HB : Hid (¬ (own b1 ∨ b1 = l) ∧ ¬ (own b2 ∨ b2 = l)) := by
    have g1 := cell_lt hP.1
    have g2 := cell_lt hP.2
    simp at g1 g2
    exact ⟨fun h => by rcases h with h | h; exact h1 h; omega, fun h => by rcases h with h | h; exact h2 h; omega⟩
  have HY : Hid (∀ r' args X, r' < (mnl m (r + 1)).length → J r' X → MnE (mnl m (r + 1)) r' args X → YieldAt Fence.wide 0 Try.prog l args X fun e Y => e = .returned (.bool true) ∧ J (r' + 1) Y ∧ KpO (fun k => own k ∨ k = l) X Y) := hY
  have H0 : Hid (J 0 W ∧ BxU b1 b2 r m W) := ⟨hJ0, hP.below hbW⟩
  have HJB : Hid (∀ r X Y, J r X → Below X.heap.size X Y → J r Y) := hJ
  obtain ⟨P, hPw⟩ : ∃ P, P = 2 ^ m := ⟨_, rfl⟩
  have hPb : P ≤ 32 := by rw [hPw]; exact Nat.pow_le_pow_right (by omega) hm
  have hsh : (2 : Int) ^ m = (P : Int) := by rw [hPw]; simp
  have HP : Hid (P = 2 ^ m) := hPw
  obtain ⟨c1, c2⟩ := H0.out.2
  clear hY hJ hJ0 hbW hP hPw
  refine callsIn_of_wp Try.func51 rfl trivial ?_ rfl
  simp only [Try.ntmps51, List.size_toArray, List.length_cons, List.length_nil, Nat.reduceAdd, Nat.reduceSub, Array.replicate_succ, Array.replicate_zero, List.push_toArray, List.append_toArray, List.nil_append, List.cons_append]
  gi_wp2
  gi_loopw [8] (fun vi wr => ∃ j : Nat, j ≤ r + 1 ∧ vi = .int .i64 (j : Nat) ∧ Hid (J (mnl m j).length wr ∧ BxU b1 b2 r m wr)) (fun vi _ => r + 1 - (intOf vi).toNat)
  case atStart => exact ⟨0, by omega, rfl, H0.out.1, H0.out.2⟩
  case round =>
    obtain ⟨j, hj, rfl, HG⟩ := hrel
    rename World => wr
    clear c1 c2
    obtain ⟨c1, c2⟩ := HG.out.2
    by_cases hlt : j < r + 1
    · have hib : (j : Int) < (r : Int) + 1 := by omega
      gi_wp2
      gi_loopw [13] (fun vs wq => ∃ c : Nat, c ≤ P ∧ vs = .int .i64 (c : Nat) ∧ Hid (J (mnl m j ++ mrw j c).length wq ∧ BxU b1 b2 r m wq)) (fun vs _ => P - (intOf vs).toNat)
      case atStart => exact ⟨0, by omega, rfl, by show J (mnl m j ++ []).length _; rw [List.append_nil]; exact HG.out.1, HG.out.2⟩
      case round =>
        obtain ⟨c, hc, rfl, HQ⟩ := hrel
        rename World => wq
        by_cases hcl : c < P
        · have hcb : (c : Int) < (P : Int) := by omega
          obtain ⟨o, ho⟩ : ∃ o, o = pc c := ⟨_, rfl⟩
          have HO : Hid (∀ w : World, CallsIn Fence.wide 0 Try.prog 52 #[.int .u64 (c : Int)] w fun e w' => e = .returned (.int .i64 (o : Nat)) ∧ w' = w) := fun w => by rw [ho]; exact callsIn_wide.2 (onesCount_any c (by omega) w)
          have HX : Hid ((mrw j (c + 1) = mrw j c ++ if o = j then [c] else [])) := by rw [ho]; exact rfl
          by_cases he : o = j
          · have hat := mnl_at hlt (show c < 2 ^ m by rw [← HP.out]; exact hcl) (ho.symm.trans he)
            have hYl := HY.out _ #[.int .i64 (c : Nat)] wq hat.1 HQ.out.1 ⟨hat.1, by rw [hat.2]⟩
            obtain ⟨fn, tmps, assign, body, hy, hR⟩ := hYl
            clear hat
            have hob : ((o : Int) == (j : Int)) = true := by rw [he]; simp
            have HE : Hid (o = j) := he
            clear he ho
            gi_wp2
            refine ⟨trivial, rfl, (HO.out wq).mono ?_⟩
            rintro e w' ⟨rfl, hw⟩
            have hw := hw.symm
            subst hw
            gi_wp2
            refine ⟨rfl, hR.mono ?_⟩
            rintro e Y ⟨rfl, hS, hK⟩
            have HQ2 : Hid (J (mnl m j ++ mrw j (c + 1)).length Y ∧ BxU b1 b2 r m Y) := by
              refine ⟨?_, HQ.out.2.kpo hK HB.out.1 HB.out.2⟩
              rw [HX.out, if_pos HE.out, ← List.append_assoc, List.length_append]
              exact hS
            clear hR hy hS hK
            gi_wp2
            exact ⟨⟨c + 1, by omega, by go_num, HQ2⟩, by simp [intOf]; omega⟩
          · have hob : ((o : Int) == (j : Int)) = false := by rw [beq_eq_false_iff_ne]; omega
            have HQ2 : Hid (J (mnl m j ++ mrw j (c + 1)).length wq ∧ BxU b1 b2 r m wq) := by
              refine ⟨?_, HQ.out.2⟩
              rw [HX.out, if_neg he, List.append_nil]
              exact HQ.out.1
            clear he ho
            gi_wp2
            refine ⟨trivial, rfl, (HO.out wq).mono ?_⟩
            rintro e w' ⟨rfl, hw⟩
            have hw := hw.symm
            subst hw
            gi_wp2
            refine ⟨fun f h => (by cases h), ?_⟩
            gi_wp2
            exact ⟨⟨c + 1, by omega, by go_num, HQ2⟩, by simp [intOf]; omega⟩
        · have hcb : ¬ (c : Int) < (P : Int) := by omega
          have HQ2 : Hid (J (mnl m (j + 1)).length wq ∧ BxU b1 b2 r m wq) := by
            refine ⟨?_, HQ.out.2⟩
            have h := HQ.out.1
            rw [show c = 2 ^ m by have := HP.out; omega] at h
            exact h
          gi_wp2
          exact ⟨⟨j + 1, by omega, by go_num, HQ2⟩, by simp [intOf]; omega⟩
    · have hib : ¬ (j : Int) < (r : Int) + 1 := by omega
      have HZ : Hid (J (mnl m (r + 1)).length wr) := by
        have h := HG.out.1
        rw [show j = r + 1 by omega] at h
        exact h
      gi_wp2
      exact bodyPost_end (results_none rfl _ _ _) rfl ⟨⟨_, rfl⟩, HZ.out⟩
end Go.Proofs.Ytmklnjkallhphaa

/- Muller: the iterator of the monomials, made. -/
namespace Go.Proofs.Ytmklnjkallhphaa
open Go.RowKit Go.Sort

set_option maxHeartbeats 2000000 in
set_option maxRecDepth 100000 in
theorem monos_any (r m : Nat) (w : World) : Calls Try.prog 32 #[.int .i64 (r : Nat), .int .i64 (m : Nat)] w fun e w' => ∃ b1 b2, e = .returned (.func (.func 51) #[] #[.pointer (some ⟨b1, 0, none⟩), .pointer (some ⟨b2, 0, none⟩)]) ∧ (w.heap.size ≤ b1 ∧ w.heap.size ≤ b2) ∧ BxU b1 b2 r m w' ∧ Below w.heap.size w w' := by
  go_enter Try.func32, Try.ntmps32
  go_wp2
  go_ret
  have hb : Below w.heap.size w ((w.alloc (.cells #[.int .i64 (r : Nat)] 3)).alloc (.cells #[.int .i64 (m : Nat)] 3)) := ((Below.refl _ _).alloc (Nat.le_refl _) _).alloc (by simp) _
  refine ⟨w.heap.size, w.heap.size + 1, rfl, ⟨Nat.le_refl _, by omega⟩, ⟨?_, ?_⟩, hb⟩
  · simp
  · have e : (w.alloc (.cells #[.int .i64 (r : Nat)] 3)).heap.size = w.heap.size + 1 := by simp
    rw [← e]
    simp
end Go.Proofs.Ytmklnjkallhphaa

/- A range over a function whose rounds lay memory and change it again later. No Go text here. -/
namespace Go.Proofs.Ytmklnjkallhphaa
open Go.RowKit

/-- The law of W14 where the rounds may also change what they lay themselves: all but the loop's two blocks may be their own. -/
theorem range_lawG {P : Program} {g : Operand} {ps : Array Tmp} {assign body : Code} {Q : Exit → Act → World → Prop} {a : Act} {w : World} {gf : Nat} {lb : Array Value}
    (hg : a.eval g = .func (.func gf) #[] lb) (eg : ∀ args w, (callFunc gf args).run P w = .ok (.enter gf args) w)
    {N : Nat} {E : Nat → Array Value → World → Prop} {own : Nat → Prop} (hseq : SeqI P gf lb N E own w) (ho1 : ¬ own w.heap.size) (ho2 : ¬ own (w.heap.size + 1))
    (hps : ∀ r args X, E r args X → args.size = ps.size)
    (I : Nat → World → Prop) (hI : ∀ r X Y, I r X → GrC w.heap.size X Y → I r Y) (hE : ∀ r args X Y, E r args X → GrC w.heap.size X Y → E r args Y) (h0 : I 0 w) (a₁ : Array Value → Act)
    (hassign : ∀ (l r : Nat) (args : Array Value) (X : World) (K : Act → World → Prop), E r args X → K (a₁ args) X →
      assign.wpIn (Fence.wide.inRound l) 0 P (Exit.then K (fun _ _ _ => False)) { tmps := (ps.zip args).foldl (fun t (p, v) => t.setIfInBounds p v) a.tmps, defers := [] } X)
    (hbody : ∀ (l r : Nat) (args : Array Value) (X : World), r < N → w.heap.size + 2 ≤ X.heap.size → I r X → E r args X → body.wpIn (Fence.wide.inRound l) 0 P (fun e _ Y => e = .normal ∧ KpO own X Y ∧ I (r + 1) Y) (a₁ args) X)
    (hdone : ∀ (D : Nat) (W : World), w.heap.size ≤ D → I N W → W.heap[D]? = some (.deferred (some [])) → Q .normal { a with defers := { target := .collected D, args := #[] } :: a.defers } W) :
    (Code.rangeFunc g ps assign body).wp P Q a w := by
  refine (wpIn_wide (n := 0)).1 (wpIn_rangeFunc ?_)
  intro fn hfn
  obtain ⟨B, hB⟩ : ∃ B, B = w.heap.size := ⟨_, rfl⟩
  obtain ⟨rc, hrc⟩ : ∃ rc : LoopState → Option Code → Loop, rc = fun st pe => { state := st, pending := pe, fn, tmps := a.tmps, params := ps, assign, body, defers := w.heap.size } := ⟨_, rfl⟩
  obtain ⟨W, hW⟩ : ∃ W, W = (w.alloc (.deferred (some []))).alloc (.loop (rc .ready none)) := ⟨_, rfl⟩
  have hs1 : (w.alloc (.deferred (some []))).heap.size = B + 1 := by rw [World.size_alloc, hB]
  have hsW : W.heap.size = B + 2 := by rw [hW, World.size_alloc, hs1]
  have hlW : W.heap[B + 1]? = some (.loop (rc .ready none)) := by rw [hW, ← hs1]; exact World.alloc_heap_new _ _
  have hdW : W.heap[B]? = some (.deferred (some [])) := by rw [hW, Below.heap_alloc _ _ _ (by rw [hs1]; omega), hB]; exact World.alloc_heap_new w _
  have hbW : Below w.heap.size w W := by rw [hW]; exact ((Below.refl _ w).alloc (Nat.le_refl _) _).alloc (by simp) _
  have hIW : I 0 W := hI 0 w W h0 (.of_below hbW)
  refine ⟨B + 1, [{ target := .collected w.heap.size, args := #[] }], W, { target := .fn (.func gf) lb, args := #[.func (.yield (B + 1)) #[] #[]] }, W, gf, #[.func (.yield (B + 1)) #[] #[]] ++ lb, W, ?_, ?_, fun _ _ => trivial, ?_, fun h => (by cases h), ?_⟩
  · rw [hW, hrc, hB]; exact run_enterLoop_outer _ _ _ _ _
  · simp only [resolve, hg]
    simp [go_sem]
  · simp [invoke, go_sem, eg]
  refine (hseq (B + 1) (fun r X => I r X ∧ X.heap[B + 1]? = some (.loop (rc .ready none)) ∧ X.heap[B]? = some (.deferred (some []))) W hbW (by omega) (by omega) ?_ ?_ ⟨hIW, hlW, hdW⟩).mono ?_
  · rintro r X Y ⟨h1, h2, h3⟩ hb
    exact ⟨hI r X Y h1 (.of_below hb), (hb.block _ (Array.getElem?_eq_some_iff.1 h2).1).trans h2, (hb.block _ (Array.getElem?_eq_some_iff.1 h3).1).trans h3⟩
  · rintro r args X hr ⟨hi, hl, hd⟩ he
    have hy := run_yield (P := P) (args := args) hl (by rw [hrc]; exact hps r args X he)
    rw [hrc] at hy
    refine ⟨fn, _, assign, body, hy, roundIn_of_wpIn hfn (hassign _ r args X _ he ⟨_, run_beginRound hl (by rw [hrc]), ?_⟩)⟩
    obtain ⟨X2, hX2⟩ : ∃ X2, X2 = X.putObj (B + 1) (.loop { rc .ready none with state := .busy }) := ⟨_, rfl⟩
    have hg2 : GrC w.heap.size X X2 := by rw [hX2]; exact .put _ (by omega) hl rfl
    have hl2 : X2.heap[B + 1]? = some (.loop { rc .ready none with state := .busy }) := by rw [hX2]; exact World.putObj_heap_same (Array.getElem?_eq_some_iff.1 hl).1
    have hd2 : X2.heap[B]? = some (.deferred (some [])) := by rw [hX2]; exact (World.putObj_heap_other (by omega)).trans hd
    have hk2 : KpO (fun k => own k ∨ k = B + 1) X X2 := by rw [hX2]; exact .put _ _ _ (Or.inr rfl)
    rw [← hX2]
    refine wpIn_mono (hbody (B + 1) r args X2 hr (by have := (Array.getElem?_eq_some_iff.1 hl2).1; omega) (hI r X X2 hi hg2) (hE r args X X2 he hg2)) ?_
    rintro e a3 Y ⟨rfl, hk, hi3⟩
    have hl3 : Y.heap[B + 1]? = some (.loop { rc .ready none with state := .busy }) := (hk.same _ (Array.getElem?_eq_some_iff.1 hl2).1 (by rw [hB]; exact ho2)).trans hl2
    have hd3 : Y.heap[B]? = some (.deferred (some [])) := (hk.same _ (Array.getElem?_eq_some_iff.1 hd2).1 (by rw [hB]; exact ho1)).trans hd2
    have he3 := run_endRound (P := P) none hl3
    refine ⟨_, _, he3, rfl, ⟨hI _ Y _ hi3 (.put _ (by omega) hl3 rfl), ?_, (World.putObj_heap_other (by omega)).trans hd3⟩, (hk2.trans (hk.mono fun k h => Or.inl h)).trans (.put _ _ _ (Or.inr rfl))⟩
    rw [World.putObj_heap_same (Array.getElem?_eq_some_iff.1 hl3).1, hrc]
    rfl
  · rintro e Y ⟨⟨v, rfl⟩, hi, hl, hd⟩
    have he := run_endLoop (P := P) hl (by rw [hrc]; simp)
    refine ⟨none, _, by rw [he, hrc], ?_⟩
    have := hdone B (Y.putObj (B + 1) (.loop { rc .ready none with state := .exhausted })) (by omega) (hI _ Y _ hi (.put _ (by omega) hl rfl)) ((World.putObj_heap_other (by omega)).trans hd)
    rw [hB] at this ⊢
    simpa [hrc] using this
end Go.Proofs.Ytmklnjkallhphaa

/- In a round of a range over a function: a list of numbers made; a list put behind lists. -/
namespace Go.Proofs.Ytmklnjkallhphaa
open Go.RowKit

theorem make_int_in {F : Fence} {nF : Nat} {ops : Array Oper} {rest : List Oper} {o : Oper} {a : Act} {w : World} {Q : Exit → Act → World → Prop} (hg : o.guard = none) (l c : Operand) (hop : o.op = Op.makeSlice 22 l c)
    (N : Nat) (hl : a.eval l = .int .i64 (N : Nat)) (hc : a.eval c = .int .i64 (N : Nat)) (hn : N ≤ 1000000)
    (hK : ∀ w', Row w.heap.size N pnil w' → Below w.heap.size w w' → wpListIn F nF Try.prog ops Q rest (a.put o.dst (.slice (some ⟨w.heap.size, 0, none⟩) N N)) w') : wpListIn F nF Try.prog ops Q (o :: rest) a w := by
  refine wpListIn_plain hg fun K hK' => ?_
  obtain ⟨w', hrun, r1, r2⟩ := make_run N hn w
  unfold Oper.wpIn
  refine ⟨?_, ?_⟩
  · simp [Oper.about, hop]
  · rw [Oper.semAt_plain F _ _ (by rw [hop]; intro c hc'; cases hc')]
    simp [execOp, hop, hl, hc, hrun, Result.andThen]
    exact hK' _ _ (hK w' r1 r2)
theorem append_sl_in {F : Fence} {nF : Nat} {ops : Array Oper} {rest : List Oper} {o : Oper} {a : Act} {w : World} {Q : Exit → Act → World → Prop} (hgd : o.guard = none) (s x : Operand)
    (ho : o.op = .call { callee := .builtin .append, args := #[s, x], argTypes := #[25, 25] })
    (base : Nat) (v : Value) (l : List Value) (hs : a.eval s = v) (hown : OwnV base v l w) (ad : Addr) (c : Nat) (y : Value) (hy : y.oneCell' = true) (hx : a.eval x = .slice (some ad) 1 c) (hcell : w.cell? ad = some y)
    (hlen : l.length ≤ 1000000) (hbase : base ≤ w.heap.size)
    (h : ∀ v' w', OwnV base v' (l ++ [y]) w' → w.grownBy w' v.ownBlock → wpListIn F nF Try.prog ops Q rest (a.put o.dst v') w') : wpListIn F nF Try.prog ops Q (o :: rest) a w := by
  obtain ⟨i0, hi, hz0, hz1, hz2⟩ := info_parts Try.infoSl
  refine wpListIn_append_own _ hgd s x 25 ho base 22 i0 (.slice none 0 0) 1 24 Try.underlying25 hi hz0 hz1 hz2 rfl (by decide) v l.length _ hs hown ad 1 c [y] hx rfl ?_ ?_ ?_ ?_ hbase ?_
  · intro j u hj
    match j, hj with
    | 0, hj =>
      simp at hj; subst hj
      have : ad.add 0 = ad := by cases ad with | mk b o s => cases s <;> simp [Addr.add]
      rw [this]; exact hcell
  · intro u hu; simp at hu; subst hu; exact hy
  · unfold maxLen; omega
  · omega
  · intro v' w' hown' hgrow _
    refine h v' w' ?_ hgrow
    unfold OwnV
    rw [List.length_append]
    exact hown'
theorem OwnV.lt {base : Nat} {v : Value} {l : List Value} {w : World} (h : OwnV base v l w) : ∀ k, v.ownBlock = some k → base ≤ k ∧ k < w.heap.size := World.ownsRow.lt h
theorem OwnV.grc {base B : Nat} {v : Value} {l : List Value} {X Y : World} (h : OwnV base v l X) (hg : GrC B X Y) : OwnV base v l Y := by
  obtain ⟨h1, h2⟩ := h
  refine ⟨h1, ?_⟩
  rcases h2 with h2 | ⟨g, cap, cur, hv, hgb, hh, r⟩
  · exact Or.inl h2
  · exact Or.inr ⟨g, cap, cur, hv, hgb, by rw [hg.same g (lt_of_block hh) (Or.inr fun o ho => by rw [hh] at ho; cases ho; rfl)]; exact hh, r⟩
theorem LLs.grc {base B : Nat} {v : Value} {L : List (Nat × (Nat → Nat))} {X Y : World} (h : LLs base v L X) (hg : GrC B X Y) : LLs base v L Y := by
  obtain ⟨l, h1, h2⟩ := h
  refine ⟨l, h1.grc hg, h2.1, fun j u p hu hp => ?_⟩
  obtain ⟨g, cap, e, a1, a2, hr⟩ := h2.2 j u p hu hp
  exact ⟨g, cap, e, a1, a2, hr.grc hg⟩
theorem rl_next (k n : Nat) (R : Nat → Nat → Nat) : rl (k + 1) n R = rl k n R ++ [(n, R k)] := by
  unfold rl
  rw [List.range_succ, List.map_append]
  rfl
end Go.Proofs.Ytmklnjkallhphaa
