/- Texts of ours, one behind the other: L12 U23 H1 H2 H3 H4 K4 S8 Y1 Y2 Y3 S9 S10 S11 Z1 Z2 Z3 Z4 Z5 Z6 Z7 Z8 Z9 Z10 Z11 Z12. -/
import Derived.Test.YtbpeahhhkcljeaaZX18
import Derived.Test.YtbpeahhhkcljeaaZL10
import Derived.Test.YtbpeahhhkcljeaaZS4
import Derived.Test.YtbpeahhhkcljeaaZV7
import Derived.Test.YtbpeahhhkcljeaaZN1
import Derived.Test.YtbpeahhhkcljeaaZX17
import Derived.Test.YtbpeahhhkcljeaaZR10
import Derived.Test.YtbpeahhhkcljeaaZL1
import Derived.Test.YtbpeahhhkcljeaaZT2
import Derived.Test.YtbpeahhhkcljeaaZU9
import Derived.Test.YtbpeahhhkcljeaaZS2
/- MatrixSays: inverses. -/
namespace Go.Proofs.Ytbpeahhhkcljeaa
open Go.RowKit Go.Sort

theorem mchk_of {D : FD} {m : Nat} {N : Nat → Nat} {Z : Nat → Nat → Int} (hm : m ≤ 64) (h : ∀ i, i < m → D.mrow (N 0) (N i) (Z i) = 0) : D.mchk m N Z = 0 := by
  have key : ∀ k, k ≤ m → D.mchks N Z k = 0 := fun k => by
    induction k with
    | zero => intro _; rfl
    | succ k ih =>
      intro hk
      rw [FD.mchks, ih (by omega)]
      simp [h k (by omega)]
  unfold FD.mchk
  rw [if_neg (by omega)]
  exact key m (Nat.le_refl _)
end Go.Proofs.Ytbpeahhhkcljeaa

/- The program's polynomials: a sum with an empty list, wherever that lies. -/
namespace Go.Proofs.Ytbpeahhhkcljeaa
open Go.RowKit Go.Sort

end Go.Proofs.Ytbpeahhhkcljeaa

/- Curves (lists.Curve): what both sides reckon; the calls that they make. -/
namespace Go.Proofs.Ytbpeahhhkcljeaa
open Go.RowKit Go.Sort

theorem OwnP.arg {base n : Nat} {v : Value} {c : Nat → Nat} {w : World} (h : OwnP base v n c w) (hn : n ≤ 1000000) : ∃ so sc, v = .slice so n sc ∧ Arg so n sc (fun j => ((c j : Nat) : Int)) w := by
  obtain ⟨so, sc, rfl, h1, h2, _, h4, h5, h6⟩ := h.open
  exact ⟨so, sc, rfl, h6, h4, hn, h5, h1, h2⟩
theorem MatZ.arg {ao : Option Addr} {m : Nat} {A : Nat → Option Addr} {N C : Nat → Nat} {Z : Nat → Nat → Int} {w : World} (h : MatZ ao m A N C Z w) {j : Nat} (hj : j < m) (hN : N j ≠ 0) : Arg (A j) (N j) (C j) (Z j) w := by
  refine ⟨h.sl j hj, fun x hx => ?_, h.few j hj, h.nil j hj, h.le j hj, h.cap j hj⟩
  obtain ⟨b, off, e, hc⟩ := h.sl j hj 0 (by omega)
  rw [hx] at e
  cases e
  exact cell_lt hc
end Go.Proofs.Ytbpeahhhkcljeaa

/- Curves: the program's, and the reference's. -/
namespace Go.Proofs.Ytbpeahhhkcljeaa
open Go.RowKit Go.Sort

end Go.Proofs.Ytbpeahhhkcljeaa

/- Curves: the reference's. -/
namespace Go.Proofs.Ytbpeahhhkcljeaa
open Go.RowKit Go.Sort

end Go.Proofs.Ytbpeahhhkcljeaa

/- ListsCurve: the walk of the statement, whatever it is given. -/
namespace Go.Proofs.Ytbpeahhhkcljeaa
open Go.RowKit Go.Sort

end Go.Proofs.Ytbpeahhhkcljeaa

/- Matrices out of raw numbers (MatrixOf). -/
namespace Go.Proofs.Ytbpeahhhkcljeaa
open Go.RowKit Go.Sort

def slA (v : Value) : Option Addr := match v with | .slice a _ _ => a | _ => none
def slC (v : Value) : Nat := match v with | .slice _ _ c => c | _ => 0
/-- i lists of c numbers below q, in a list of the call's own. -/
structure MkS (base q c i : Nat) (v : Value) (vs : Nat → Value) (Z : Nat → Nat → Int) (w : World) : Prop where
  own : OwnV base v (vl i vs) w
  row : ∀ j, j < i → OwnI base (vs j) (zl c (Z j)) w
  blw : ∀ j, j < i → Blw q c (Z j)
theorem MkS.below {base q c i : Nat} {v : Value} {vs : Nat → Value} {Z : Nat → Nat → Int} {w w' : World} (h : MkS base q c i v vs Z w) (hb : Below w.heap.size w w') : MkS base q c i v vs Z w' :=
  ⟨h.own.below hb (Nat.le_refl _), fun j hj => (h.row j hj).below hb (fun k hk => ((h.row j hj).lt k hk).2), h.blw⟩
theorem MkS.push {base q c i : Nat} {v v' u : Value} {vs : Nat → Value} {Z : Nat → Nat → Int} {y : Nat → Int} {w w' : World} (h : MkS base q c i v vs Z w) (hu : OwnI base u (zl c y) w) (hy : Blw q c y) (ho : OwnV base v' (vl i vs ++ [u]) w') (hg : w.grownBy w' v.ownBlock) :
    MkS base q c (i + 1) v' (fun j => if j = i then u else vs j) (fun j => if j = i then y else Z j) w' := by
  refine ⟨?_, fun j hj => ?_, fun j hj => ?_⟩
  · have e : vl (i + 1) (fun j => if j = i then u else vs j) = vl i vs ++ [u] := by
      unfold vl
      rw [List.range_succ, List.map_append]
      congr 1
      · exact List.map_congr_left (fun j hj => by rw [if_neg (by have := List.mem_range.1 hj; omega)])
      · simp
    rw [e]; exact ho
  · by_cases e : j = i
    · simp only [if_pos e]; exact hu.kept hg (hu.apart h.own)
    · simp only [if_neg e]; exact (h.row j (by omega)).kept hg ((h.row j (by omega)).apart h.own)
  · by_cases e : j = i
    · simp only [if_pos e]; exact hy
    · simp only [if_neg e]; exact h.blw j (by omega)
theorem MkS.matZ {base q c i : Nat} {v : Value} {vs : Nat → Value} {Z : Nat → Nat → Int} {w : World} (h : MkS base q c i v vs Z w) (hc : c ≤ 1000000) : ∃ mo mc, v = .slice mo i mc ∧ MatZ mo i (fun j => slA (vs j)) (fun _ => c) (fun j => slC (vs j)) Z w := by
  obtain ⟨mo, mc, hv, _, _, _, hcell⟩ := h.own.open
  rw [vl_len] at hv
  have key : ∀ j, j < i → ∃ so sc, vs j = .slice so c sc ∧ ArgL so c sc (Z j) w := fun j hj => (h.row j hj).argL
  refine ⟨mo, mc, hv, ⟨fun j hj => ?_, fun j hj => ?_, fun j hj => ?_, fun j hj => ?_, fun j hj => ?_, fun j _ => hc⟩⟩
  · obtain ⟨g, e, hc, _⟩ := hcell j (vs j) (vl_get i vs j hj)
    obtain ⟨so, sc, e2, _⟩ := key j hj
    refine ⟨g, 0, e, ?_⟩
    rw [Nat.zero_add, hc, e2]; rfl
  · obtain ⟨so, sc, e2, ha⟩ := key j hj
    simp only [e2, slA]; exact ha.sl
  · obtain ⟨so, sc, e2, ha⟩ := key j hj
    simp only [e2, slC]; exact ha.le
  · obtain ⟨so, sc, e2, ha⟩ := key j hj
    simp only [e2, slC]; exact ha.cap
  · obtain ⟨so, sc, e2, ha⟩ := key j hj
    simp only [e2, slA, slC]; exact ha.nil

set_option maxHeartbeats 4000000 in
set_option maxRecDepth 100000 in
theorem matrixOf_any {ao : Option Addr} {n ca : Nat} {z : Nat → Int} {w : World} (h : Arg ao n ca z w) (hn : n ≤ 1000) (f q r c : Nat) (hf : f ≤ 1000) (hq : 1 ≤ q) (hq2 : q ≤ 100000) (hr : r ≤ 100) (hc : c ≤ 100) :
    Calls Try.prog 19 #[.slice ao n ca, .int .i64 f, .int .i64 q, .int .i64 r, .int .i64 c] w fun e w' => ∃ v vs Z, e = .returned v ∧ MkS w.heap.size q c r v vs Z w' ∧ Below w.heap.size w w' := by
  have HA : Hid (Arg ao n ca z w) := h
  clear h
  go_enter Try.func19, Try.ntmps19
  go_wp2
  go_loopw [11, 12] (fun v vi wr => ∃ (i : Nat) (vs : Nat → Value) (Z : Nat → Nat → Int), i ≤ r ∧ vi = .int .i64 i ∧ Hid (MkS w.heap.size q c i v vs Z wr ∧ Below w.heap.size w wr)) (fun _ vi _ => r - (intOf vi).toNat)
  case atStart => exact ⟨0, fun _ => undef, fun _ _ => 0, by omega, rfl, ⟨OwnV.nil _ _, fun j hj => absurd hj (by omega), fun j hj => absurd hj (by omega)⟩, Below.refl _ _⟩
  case round =>
    obtain ⟨i, vs, Z, hi, rfl, HG⟩ := hrel
    rename World => wA
    by_cases hlt : i < r
    · have hib : (i : Int) < (r : Int) := by omega
      obtain ⟨ic, hic⟩ : ∃ ic, ic = i * c := ⟨_, rfl⟩
      have hic2 : ic ≤ 10000 := by
        rw [hic]
        have := Nat.mul_le_mul (show i ≤ 100 by omega) hc
        omega
      have hw1 : IntKind.i64.wrap ((i : Int) * (c : Int)) = (ic : Int) := wrap_to (by rw [hic]; simp) (by omega)
      obtain ⟨fi, hfi⟩ : ∃ fi, fi = f + ic := ⟨_, rfl⟩
      have hw2 : IntKind.i64.wrap ((f : Int) + (ic : Int)) = (fi : Int) := wrap_to (by omega) (by omega)
      have HN : Hid (Calls Try.prog 20 #[.slice ao n ca, .int .i64 fi, .int .i64 q, .int .i64 c] wA fun e w' => ∃ bo cb y, e = .returned (.slice bo c cb) ∧ OwnI wA.heap.size (.slice bo c cb) (zl c y) w' ∧ Blw q c y ∧ Below wA.heap.size wA w') := by
        refine (numbers_any (HA.out.below HG.out.2) hn fi q c (by omega) hq hq2 (by omega)).mono ?_
        rintro e w' ⟨v, y, rfl, ho, hbl, hb⟩
        obtain ⟨bo, cb, rfl, _⟩ := ho.argL
        exact ⟨bo, cb, y, rfl, ho, hbl, hb⟩
      clear hic hfi
      go_wp2_with fail
      refine HN.out.mono ?_
      rintro e w2 ⟨bo, cb, y, rfl, ho2, hbl2, hb2⟩
      have hs2 := hb2.size
      have hsA := HG.out.2.size
      have H2 : Hid (MkS w.heap.size q c i u11 vs Z w2 ∧ OwnI w.heap.size (.slice bo c cb) (zl c y) w2 ∧ Blw q c y ∧ Below w.heap.size w w2) := ⟨HG.out.1.below hb2, ho2.mono hsA, hbl2, bel_up' HG.out.2 hb2⟩
      have hll : (vl i vs).length ≤ 1000000 := by rw [vl_len]; omega
      clear ho2 hbl2 hb2 HN
      go_wp2_with (at_builtin; refine append_sl rfl _ _ rfl w.heap.size u11 (vl i vs) rfl (H2.out.1.own.below ((Below.refl _ _).alloc (Nat.le_refl _) _) (Nat.le_refl _)) ⟨w2.heap.size, 0, none⟩ 1 (.slice bo c cb) rfl rfl (by rw [cell_of_row _ _ _ _ _ (0, 0) (two_new _)]; rfl) hll (by simp; omega) ?_; intro v' w6 hown6 hg6)
      have hal : Below w2.heap.size w2 (w2.alloc (.cells #[.slice bo c cb] 23)) := (Below.refl _ _).alloc (Nat.le_refl _) _
      have HR : Hid (MkS w.heap.size q c (i + 1) v' (fun j => if j = i then .slice bo c cb else vs j) (fun j => if j = i then y else Z j) w6 ∧ Below w.heap.size w w6) := by
        have ho := H2.out.1.below hal
        exact ⟨ho.push (H2.out.2.1.below hal (fun k hk => (H2.out.2.1.lt k hk).2)) H2.out.2.2.1 hown6 hg6, (bel_up' H2.out.2.2.2 hal).grown hg6 (by simp; omega) (fun k hk => ho.own.open_ge k hk)⟩
      clear hown6 hg6 hal
      go_roundw
      case rel => exact ⟨i + 1, _, _, by omega, by go_num, HR.out⟩
      case measure => simp [intOf]; omega
    · have hib : ¬ (i : Int) < (r : Int) := by omega
      have hie : r = i := by omega
      subst hie
      go_wp2
      go_ret
      exact ⟨_, rfl, ⟨vs, Z, HG.out.1⟩, HG.out.2⟩
end Go.Proofs.Ytbpeahhhkcljeaa

/- Plain mathematics: the shortest rule of a list (Berlekamp and Massey). -/
namespace Go.Proofs.Ytbpeahhhkcljeaa

end Go.Proofs.Ytbpeahhhkcljeaa

/- The program's rules (reed): trim, missed, less. -/
namespace Go.Proofs.Ytbpeahhhkcljeaa
open Go.RowKit Go.Sort

end Go.Proofs.Ytbpeahhhkcljeaa

/- The program's rules (reed): the shortest one (shortest, Massey). -/
namespace Go.Proofs.Ytbpeahhhkcljeaa
open Go.RowKit Go.Sort

theorem Arg.drewN {ao : Option Addr} {n cap : Nat} {z : Nat → Int} {w : World} (h : Arg ao n cap z w) (k : Nat) : Arg ao n cap z (w.drewN k) := ⟨h.sl, h.lt, h.few, h.nil, h.le, h.cap⟩

end Go.Proofs.Ytbpeahhhkcljeaa

/- The program's Massey; lists that are far too long. -/
namespace Go.Proofs.Ytbpeahhhkcljeaa
open Go.RowKit Go.Sort

end Go.Proofs.Ytbpeahhhkcljeaa

/- Equations that can be met, and the rules of shorter length. -/
namespace Go.Proofs.Ytbpeahhhkcljeaa
open Go.RowKit Go.Sort

end Go.Proofs.Ytbpeahhhkcljeaa

/- Lists that a rule makes: the shortest rule of enough of them makes the rest. -/
namespace Go.Proofs.Ytbpeahhhkcljeaa
open Go.RowKit Go.Sort

end Go.Proofs.Ytbpeahhhkcljeaa

/- A polynomial that is not nought has fewer roots than coefficients; words of few coefficients are far apart. -/
namespace Go.Proofs.Ytbpeahhhkcljeaa
open Go.RowKit Go.Sort

/-- How many of the first n. -/
def ct (p : Nat → Bool) : Nat → Nat
  | 0 => 0
  | n + 1 => ct p n + if p n = true then 1 else 0
theorem ct_none {p : Nat → Bool} : ∀ n, (∀ i, i < n → p i = false) → ct p n = 0
  | 0, _ => rfl
  | n + 1, h => by
    show ct p n + (if p n = true then 1 else 0) = 0
    rw [ct_none n (fun i hi => h i (by omega)), h n (by omega)]; rfl
end Go.Proofs.Ytbpeahhhkcljeaa

/- The program's words (reed): values, Check and Encode where all may be. -/
namespace Go.Proofs.Ytbpeahhhkcljeaa
open Go.RowKit Go.Sort

end Go.Proofs.Ytbpeahhhkcljeaa

/- Places and a dimension: may they be? The program's Check, the reference's ReedMay, whatever they are given. -/
namespace Go.Proofs.Ytbpeahhhkcljeaa
open Go.RowKit Go.Sort

end Go.Proofs.Ytbpeahhhkcljeaa

/- The reference's ReedMay, whatever it is given. -/
namespace Go.Proofs.Ytbpeahhhkcljeaa
open Go.RowKit Go.Sort

end Go.Proofs.Ytbpeahhhkcljeaa

/- A word that came: may it be? The program's Word. -/
namespace Go.Proofs.Ytbpeahhhkcljeaa
open Go.RowKit Go.Sort

def anyB (p : Nat → Bool) : Nat → Bool
  | 0 => false
  | n + 1 => anyB p n || p n
theorem anyB_no {p : Nat → Bool} : ∀ n, (∀ j, j < n → p j = false) → anyB p n = false
  | 0, _ => rfl
  | n + 1, h => by
    show (anyB p n || p n) = false
    rw [anyB_no n (fun j hj => h j (by omega)), h n (by omega)]; rfl
theorem anyB_yes {p : Nat → Bool} {i : Nat} (h : p i = true) : ∀ n, i < n → anyB p n = true
  | 0, hi => absurd hi (by omega)
  | n + 1, hi => by
    show (anyB p n || p n) = true
    by_cases e : i = n
    · rw [← e, h, Bool.or_true]
    · rw [anyB_yes h n (by omega), Bool.true_or]

set_option maxHeartbeats 2000000 in
set_option maxRecDepth 100000 in
theorem containsFn_any {gf : Nat} {lb : Array Value} (eg : ∀ args w, (callFunc gf args).run Try.prog w = .ok (.enter gf args) w) {ao : Option Addr} {n cap : Nat} {z : Nat → Int} {p : Nat → Bool} {w : World}
    (hs : SlZ ao n z w) (hn : n ≤ 1000000) (hp : ∀ j, j < n → Calls Try.prog gf (#[.int .i64 (z j)] ++ lb) w fun e w' => e = .returned (.bool (p j)) ∧ w' = w) :
    Calls Try.prog 91 #[.slice ao n cap, .func (.func gf) #[] lb] w fun e w' => e = .returned (.bool (anyB p n)) ∧ w' = w := by
  have HS : Hid (∀ cap, Calls Try.prog 117 #[.slice ao n cap, .func (.func gf) #[] lb] w fun e w' => w' = w ∧ ∃ i : Int, e = .returned (.int .i64 i) ∧ decide (0 ≤ i) = anyB p n) := fun cap => by
    refine (indexInts_any (cap := cap) (p := p) eg hs hn hp).mono ?_
    rintro e w' ⟨rfl, ⟨i, hi, hpi, _, rfl⟩ | ⟨ha, rfl⟩⟩
    · refine ⟨rfl, _, rfl, ?_⟩
      rw [anyB_yes hpi n hi]; simp
    · refine ⟨rfl, _, rfl, ?_⟩
      rw [anyB_no n ha]; rfl
  clear hs hp eg
  obtain ⟨y, hy⟩ : ∃ y, y = anyB p n := ⟨_, rfl⟩
  rw [← hy]
  have HY : Hid (y = anyB p n) := hy
  clear hy
  go_enter Try.func91, Try.ntmps91
  go_wp2_with (go_at_call 117; refine (HS.out _).mono ?_; rintro e w' ⟨hw, i, rfl, hi⟩; rw [← HY.out] at hi; have hw := hw.symm; subst hw)
  go_ret
  exact ⟨by first | rfl | simp_all, rfl⟩

end Go.Proofs.Ytbpeahhhkcljeaa

/- A word that came: the reference's ReedWord. -/
namespace Go.Proofs.Ytbpeahhhkcljeaa
open Go.RowKit Go.Sort

end Go.Proofs.Ytbpeahhhkcljeaa

/- Whole words, and how many messages there are: the program's checkWhole, messages, digits; the law's wholeWord; the reference's Few. -/
namespace Go.Proofs.Ytbpeahhhkcljeaa
open Go.RowKit Go.Sort

end Go.Proofs.Ytbpeahhhkcljeaa

/- How many messages there are, and each by its number: the reference's Few, the program's messages, digits. -/
namespace Go.Proofs.Ytbpeahhhkcljeaa
open Go.RowKit Go.Sort

end Go.Proofs.Ytbpeahhhkcljeaa

/- At how many places a message's word differs: the reference's Off, of whole words. -/
namespace Go.Proofs.Ytbpeahhhkcljeaa
open Go.RowKit Go.Sort

end Go.Proofs.Ytbpeahhhkcljeaa

/- All near messages: the program's Within. -/
namespace Go.Proofs.Ytbpeahhhkcljeaa
open Go.RowKit Go.Sort

end Go.Proofs.Ytbpeahhhkcljeaa

/- All near messages: the reference's Near. -/
namespace Go.Proofs.Ytbpeahhhkcljeaa
open Go.RowKit Go.Sort

end Go.Proofs.Ytbpeahhhkcljeaa

/- All near messages: the walk of the reference's Near. -/
namespace Go.Proofs.Ytbpeahhhkcljeaa
open Go.RowKit Go.Sort

end Go.Proofs.Ytbpeahhhkcljeaa

/- What it says that places, a dimension and a whole word may be; the calls that say no. -/
namespace Go.Proofs.Ytbpeahhhkcljeaa
open Go.RowKit Go.Sort

theorem has_sl {D : FD} {ao : Option Addr} {n : Nat} {z : Nat → Int} {w : World} (h : ∀ j, j < n → D.has (z j) = true) (hs : SlZ ao n z w) : Sl ao n (zc n z) w := fun j hj => by
  obtain ⟨b, off, e, hc⟩ := hs j hj
  obtain ⟨t, e2, _⟩ := has_nat (h j hj)
  refine ⟨b, off, e, ?_⟩
  rw [hc]
  unfold zc
  rw [if_pos hj, e2, Int.toNat_natCast]
end Go.Proofs.Ytbpeahhhkcljeaa
