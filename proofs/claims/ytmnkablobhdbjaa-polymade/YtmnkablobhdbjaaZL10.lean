/- Texts of ours, one behind the other: L10 O1 K1. -/
import Derived.Test.YtmnkablobhdbjaaZL9
import Derived.Test.YtmnkablobhdbjaaChecked
import Derived.ProofKit
import Derived.OpenShut
import Derived.ChangeOld
import Derived.ChangeSlices
import Derived.SizedLaws
import Derived.Carry
/- PolySays: the walk of the statement, whatever it is given. -/
namespace Go.Proofs.Ytmnkablobhdbjaa
open Go.RowKit Go.Sort

theorem bel_of_eq {w w' : World} (h : w' = w) : Below w.heap.size w w' := by rw [h]; exact Below.refl _ _

theorem polySays_none (q : Int) (h : ∀ D ∈ fieldsL, (D.q : Int) ≠ q) (ao bo : Option Addr) (n m ca cb : Nat) (x : Int) (w : World) (hnm : n + m ≤ 300) :
    Calls Try.prog 6 #[.int .i64 q, .slice ao n ca, .slice bo m cb, .int .i64 x] w fun r w' => r = .returned (.bool true) ∧ Below w.heap.size w w' := by
  refine polySays_err q 1 1 (by omega) x hnm (Or.inr rfl) (fun w1 _ => polyMay_none q h ao n ca w1) (fun w1 _ => (check_none q h _ w1).mono fun e w' h => ⟨h.1, bel_of_eq h.2⟩) (fun w1 _ => ?_)
    (fun w1 _ => padd_none q h ao bo n m ca cb w1) (fun w1 _ => pmul_none q h ao bo n m ca cb w1) (fun w1 _ => gcd_none q h ao bo n m ca cb w1) (fun w1 _ => pdiv_none q h ao bo n m ca cb w1)
    (fun w1 _ => polyAt_err q 1 (by omega) x (pat_none q h ao n ca x w1)) (fun w1 _ => polyRoots_err q 1 (by omega) (fun w2 _ => roots_none q h ao n ca w2) (fun w2 _ => (factors_none q h ao n ca w2).mono fun e w' h => ⟨_, _, h.1, h.2⟩) (fun w2 _ => irred_none q h ao n ca w2))
    (fun w1 _ => polyThrough_err q 1 (by omega) (through_none q h ao bo n m ca cb w1)) (fun h => by omega)
  refine (rfield_none q w1 h).mono ?_
  rintro e w' ⟨rfl, hb⟩
  exact ⟨0, 0, 0, 0, none, 0, 0, 1, rfl, hb⟩

theorem polySays_bad {D : FD} (hD : D ∈ fieldsL) {ao bo : Option Addr} {n m ca cb : Nat} {z y : Nat → Int} (x : Int) {w : World} (hnm : n + m ≤ 300) (ha : Arg ao n ca z w) (hb : Arg bo m cb y w) (h0 : D.chk2 n z m y ≠ 0) :
    Calls Try.prog 6 #[.int .i64 D.q, .slice ao n ca, .slice bo m cb, .int .i64 x] w fun r w' => r = .returned (.bool true) ∧ Below w.heap.size w w' := by
  have hcase : D.chk n z = 0 ∨ D.chk n z = D.chk2 n z m y := by
    rw [chk2_def]
    by_cases h : D.chk n z = 0
    · exact Or.inl h
    · rw [if_neg h]; exact Or.inr rfl
  refine polySays_err D.q (D.chk n z) (D.chk2 n z m y) h0 x hnm hcase (fun w1 hb1 => ?_) (fun w1 hb1 => ?_) (fun w1 _ => ?_) (fun w1 hb1 => ?_) (fun w1 hb1 => ?_) (fun w1 hb1 => ?_) (fun w1 hb1 => ?_)
    (fun w1 hb1 => polyAt_any hD x (ha.below hb1)) (fun w1 hb1 => polyRoots_all hD (ha.below hb1)) (fun w1 hb1 => polyThrough_all hD (ha.below hb1) (hb.below hb1)) (fun h w1 hb1 => ?_)
  · have hA := ha.below hb1
    exact polyMay_any hD hA.sl hA.lt hA.few
  · have hA := ha.below hb1
    exact check_any hD hA.sl hA.lt hA.few
  · refine (rfield_sl hD w1).mono ?_
    rintro e w' ⟨gm, cm, rfl, _, hb⟩
    exact ⟨_, _, _, _, _, _, _, _, rfl, hb⟩
  · refine (padd_any hD (ha.below hb1) (hb.below hb1)).mono ?_
    rintro e w' ⟨hb, h⟩
    rcases h with ⟨h, _⟩ | ⟨_, rfl⟩
    · exact absurd h h0
    · exact ⟨rfl, hb⟩
  · refine (pmul_any hD (ha.below hb1) (hb.below hb1)).mono ?_
    rintro e w' ⟨hb, h⟩
    rcases h with ⟨h, _⟩ | ⟨h, _⟩ | ⟨_, rfl⟩
    · exact absurd h h0
    · exact absurd h h0
    · exact ⟨rfl, hb⟩
  · refine (gcd_any hD (ha.below hb1) (hb.below hb1)).mono ?_
    rintro e w' ⟨hb, h⟩
    rcases h with ⟨h, _⟩ | ⟨_, rfl⟩
    · exact absurd h h0
    · exact ⟨rfl, hb⟩
  · refine (pdiv_any hD (ha.below hb1) (hb.below hb1)).mono ?_
    rintro e w' ⟨hb, h⟩
    rcases h with ⟨h, _⟩ | ⟨h, _⟩ | ⟨_, rfl⟩
    · exact absurd h h0
    · exact absurd h h0
    · exact ⟨rfl, hb⟩
  · have hB := hb.below hb1
    have hh := polyMay_any (cap := cb) hD hB.sl hB.lt hB.few
    rw [chk2_def, if_pos h]
    exact hh

set_option maxHeartbeats 1000000 in
theorem polySays_long (q : Int) (ao bo : Option Addr) (n m ca cb : Nat) (x : Int) (w : World) (hn : n ≤ 17592186044416) (hm : m ≤ 17592186044416) (hnm : ¬ n + m ≤ 300) :
    Calls Try.prog 6 #[.int .i64 q, .slice ao n ca, .slice bo m cb, .int .i64 x] w fun r w' => r = .returned (.bool true) ∧ Below w.heap.size w w' := by
  have h1 : (300 : Int) < (n : Int) + (m : Int) := by omega
  go_enter Try.func6, Try.ntmps6
  go_wp2
  go_ret
  exact ⟨rfl, Below.refl _ _⟩

/-- A list that is handed in, of whatever length. -/
structure ArgL (ao : Option Addr) (n cap : Nat) (z : Nat → Int) (w : World) : Prop where
  sl : SlZ ao n z w
  lt : LtB ao w.heap.size
  nil : ao = none → cap = 0
  le : n ≤ cap
  cap : cap ≤ 9223372036854775807
theorem ArgL.arg {ao : Option Addr} {n cap : Nat} {z : Nat → Int} {w : World} (h : ArgL ao n cap z w) (hn : n ≤ 1000000) : Arg ao n cap z w := ⟨h.sl, h.lt, hn, h.nil, h.le, h.cap⟩

theorem polySays_walk (q : Int) {ao bo : Option Addr} {n m ca cb : Nat} {z y : Nat → Int} (x : Int) {w : World} (ha : ArgL ao n ca z w) (hb : ArgL bo m cb y w) (hn : n ≤ 17592186044416) (hm : m ≤ 17592186044416) :
    Calls Try.prog 6 #[.int .i64 q, .slice ao n ca, .slice bo m cb, .int .i64 x] w fun r w' => r = .returned (.bool true) ∧ Below w.heap.size w w' := by
  by_cases hnm : n + m ≤ 300
  · by_cases h : ∃ D ∈ fieldsL, (D.q : Int) = q
    · obtain ⟨D, hD, rfl⟩ := h
      by_cases h0 : D.chk2 n z m y = 0
      · exact polySays_ok hD x hnm (ha.arg (by omega)) (hb.arg (by omega)) (chk2_zero h0).1 (chk2_zero h0).2
      · exact polySays_bad hD x hnm (ha.arg (by omega)) (hb.arg (by omega)) h0
    · exact polySays_none q (fun D hD e => h ⟨D, hD, e⟩) ao bo n m ca cb x w hnm
  · exact polySays_long q ao bo n m ca cb x w hn hm hnm
end Go.Proofs.Ytmnkablobhdbjaa

/- A list of numbers that a statement is given, opened. -/
namespace Go.Proofs.Ytmnkablobhdbjaa
open Go.ChangeShapes Go.WideShapes Go.ChangeAt Go.RowKit

theorem Try.cellsInt : Try.prog.cellsOf 3 = 1 := by kernel_rfl
theorem Try.laidOut' : laidOutB Try.prog = true := by kernel_rfl

set_option maxRecDepth 100000 in
theorem open_list {H : Type} {enc : TypeId × Value → H} {W : World} {base : Nat} {v : Value} {d : DataW H} {p : List MemPlace} (hok : Value.okWide Try.prog W .any base 26 v)
    (h : DataW.Trod enc Try.prog W 0 (fun _ => true) true 26 v d p) :
    ∃ ao n ca z, v = .slice ao n ca ∧ ArgL ao n ca z W ∧ ((d = .nil ∧ ca = 0) ∨ ∃ es sp, d = .slice es sp ∧ es.length + sp.length = ca) := by
  obtain ⟨a0, len, cap, rfl⟩ := okWide_slice Try.underlying26 hok
  obtain ⟨fuel, hf⟩ := h
  rcases open_ints Try.underlying26 Try.underlying3 Try.cellsInt hf with ⟨hcs, hx⟩ | ⟨a, len', cap', zs, hcs, _, hl, hm, hz, hx, hcell, _⟩
  · simp [Value.cells] at hcs
    obtain ⟨rfl, rfl, rfl⟩ := hcs
    simp only [Prod.mk.injEq] at hx
    exact ⟨none, 0, 0, fun _ => 0, rfl, ⟨fun j hj => by omega, fun x hx => (by cases hx), fun _ => rfl, Nat.le_refl _, by omega⟩, Or.inl ⟨hx.1, rfl⟩⟩
  · simp [Value.cells] at hcs
    obtain ⟨rfl, rfl, rfl⟩ := hcs
    simp only [Prod.mk.injEq] at hx
    simp only [if_true] at hz
    have hhas : a.spot = none ∧ a.block < W.heap.size := by
      have h1 : W.has Try.prog .any base a 3 cap := by
        unfold Value.okWide at hok
        rw [Try.underlying26] at hok
        simp only at hok
        unfold Cell.okWide at hok
        rw [Try.underlying26] at hok
        simp only at hok
        unfold Cell.ok at hok
        rw [Try.underlying26] at hok
        exact hok.2.2
      obtain ⟨_, h2, row, cells, h3, _⟩ := h1
      refine ⟨h2, ?_⟩
      rcases Nat.lt_or_ge a.block W.heap.size with e | e
      · exact e
      · exfalso
        have : W.heap[a.block]? = none := Array.getElem?_eq_none e
        simp [World.shape?, this] at h3
    obtain ⟨b, off, spot⟩ := a
    obtain ⟨hs, hlt⟩ := hhas
    simp only at hs hlt
    subst hs
    refine ⟨some ⟨b, off, none⟩, len, cap, fun j => zs.getD j 0, rfl, ⟨fun j hj => ⟨b, off, rfl, ?_⟩, fun x hx => (by cases hx; exact hlt), fun e => (by cases e), hl, hm⟩, Or.inr ⟨_, _, hx.1, ?_⟩⟩
    · have := hcell j (by omega)
      rwa [add_off] at this
    · simp [lits]
      omega
end Go.Proofs.Ytmnkablobhdbjaa

/- What statements make of raw numbers: Raw, Numbers. -/
namespace Go.Proofs.Ytmnkablobhdbjaa
open Go.RowKit Go.Sort

/-- A number of the machine. -/
def I64 (r : Int) : Prop := -9223372036854775808 ≤ r ∧ r ≤ 9223372036854775807
theorem i64_wrap (x : Int) : I64 (IntKind.i64.wrap x) := by
  unfold I64
  rw [IntKind.wrap_i64]
  omega

set_option maxHeartbeats 2000000 in
theorem raw_any {ao : Option Addr} {n ca : Nat} {z : Nat → Int} {w : World} (h : Arg ao n ca z w) (hn : n ≤ 1000) (i : Nat) (hi : i ≤ 1000000) :
    Calls Try.prog 98 #[.slice ao n ca, .int .i64 i] w fun e w' => (∃ r, e = .returned (.int .i64 r) ∧ I64 r) ∧ ∃ k, w' = w.drewN k := by
  have HA : Hid (Arg ao n ca z w) := h
  clear h
  by_cases h0 : n = 0
  · have hz : ((n : Int) == 0) = true := by rw [h0]; rfl
    clear h0
    go_enter Try.func98, Try.ntmps98
    go_wp2
    go_ret
    exact ⟨⟨_, rfl, by unfold I64; omega⟩, 0, rfl⟩
  · have hz : ((n : Int) == 0) = false := by rw [beq_eq_false_iff_ne]; omega
    obtain ⟨j, hj⟩ : ∃ j, j = i % n := ⟨_, rfl⟩
    obtain ⟨d, hd⟩ : ∃ d, d = i / n := ⟨_, rfl⟩
    have hjn : j < n := by rw [hj]; exact Nat.mod_lt _ (by omega)
    have hdi : d ≤ i := by rw [hd]; exact Nat.div_le_self _ _
    have hm : (i : Int).tmod (n : Int) = (j : Int) := by rw [Int.tmod_eq_emod_of_nonneg (by omega), hj]; rfl
    have hq : (i : Int).tdiv (n : Int) = (d : Int) := by rw [Int.tdiv_eq_ediv_of_nonneg (by omega), hd]; rfl
    obtain ⟨b, off, rfl, hc⟩ := HA.out.sl j hjn
    obtain ⟨x, hx⟩ : ∃ x, x = z j := ⟨_, rfl⟩
    rw [← hx] at hc
    obtain ⟨s, hs⟩ : ∃ s, IntKind.i64.wrap (x + (d : Int) * 7919) = s := ⟨_, rfl⟩
    have HS : Hid (I64 s) := by show I64 s; rw [← hs]; exact i64_wrap _
    have hn0 : ¬ (n : Int) = 0 := by omega
    have hjn' : (j : Int) < (n : Int) := by omega
    have hj0 : (0 : Int) ≤ (j : Int) := by omega
    clear hj hd hx h0
    go_enter Try.func98, Try.ntmps98
    go_wp2
    go_quiet (fail)
    go_wp2
    go_ret
    exact ⟨⟨_, rfl, by first | exact HS.out | exact i64_wrap _⟩, _, rfl⟩

/-- Numbers from 0 on, all below q. -/
def Blw (q k : Nat) (z : Nat → Int) : Prop := ∀ j, j < k → 0 ≤ z j ∧ z j < (q : Int)

set_option maxHeartbeats 4000000 in
set_option maxRecDepth 100000 in
theorem numbers_any {ao : Option Addr} {n ca : Nat} {z : Nat → Int} {w : World} (h : Arg ao n ca z w) (hn : n ≤ 1000) (f q k : Nat) (hf : f ≤ 100000) (hq : 1 ≤ q) (hq2 : q ≤ 100000) (hk : k ≤ 100000) :
    Calls Try.prog 61 #[.slice ao n ca, .int .i64 f, .int .i64 q, .int .i64 k] w fun e w' => ∃ v y, e = .returned v ∧ OwnI w.heap.size v (zl k y) w' ∧ Blw q k y ∧ Below w.heap.size w w' := by
  have HA : Hid (Arg ao n ca z w) := h
  clear h
  go_enter Try.func61, Try.ntmps61
  go_wp2
  go_loopw [9, 10] (fun vl i wr => ∃ (r : Nat) (y : Nat → Int), r ≤ k ∧ i = .int .i64 r ∧ Hid (OwnI w.heap.size vl (zl r y) wr ∧ Blw q r y ∧ Below w.heap.size w wr)) (fun _ i _ => k - (intOf i).toNat)
  case atStart => exact ⟨0, fun _ => 0, by omega, rfl, OwnI.nil _ _, fun j hj => by omega, Below.refl _ _⟩
  case round =>
    obtain ⟨r, y, hr, rfl, HG⟩ := hrel
    have hsz := HG.out.2.2.size
    by_cases hlt : r < k
    · have hib : (r : Int) < (k : Int) := by omega
      have HR : Hid (Calls Try.prog 98 #[.slice ao n ca, .int .i64 ((f : Int) + (r : Int))] wr fun e w' => (∃ x, e = .returned (.int .i64 x) ∧ I64 x) ∧ ∃ k, w' = wr.drewN k) := by
        have h := raw_any (HA.out.below HG.out.2.2) hn (f + r) (by omega)
        rw [Int.natCast_add] at h; exact h
      go_wp2_with fail
      refine HR.out.mono ?_
      rintro e w1 ⟨⟨x, rfl, hx⟩, k1, hw1⟩
      have HG1 : Hid (OwnI w.heap.size u9 (zl r y) w1 ∧ Below w.heap.size w w1) := by rw [hw1]; exact ⟨HG.out.1.drewN _, below_drewN2 HG.out.2.2 _⟩
      have hsz1 := HG1.out.2.size
      clear hw1
      have hp1 := pick_lo x (q : Int) (by omega)
      have hp2 := pick_hi x (q : Int) (by omega)
      obtain ⟨p, hp⟩ : ∃ p, p = pick x (q : Int) := ⟨_, rfl⟩
      have HP : Hid (∀ w : World, Calls Try.prog 42 #[.int .i64 x, .int .i64 q] w fun e w' => e = .returned (.int .i64 p) ∧ w' = w) := fun w => by rw [hp]; exact pick_any x q w hx.1 hx.2 (by omega) (by omega)
      rw [← hp] at hp1 hp2
      clear hp hx HR
      go_wp2_with (first
        | (go_at_call 42; refine (HP.out _).mono ?_; rintro e w' ⟨rfl, hw⟩; have hw := hw.symm; subst hw)
        | (at_builtin; refine append_int rfl _ _ rfl w.heap.size _ (zl r y) rfl (HG1.out.1.alloc _) ⟨_, 0, none⟩ 1 p rfl (by simp) (by rw [zl_len]; omega) (by simp; omega) ?_; intro v2 w3 hown3 hgrow3))
      have HX : Hid (OwnI w.heap.size v2 (zl (r + 1) (fun j => if j = r then p else y j)) w3 ∧ Blw q (r + 1) (fun j => if j = r then p else y j) ∧ Below w.heap.size w w3) := by
        refine ⟨?_, fun j hj => ?_, (HG1.out.2.alloc hsz1 _).grown hgrow3 (by simp; omega) (fun k hk => (HG1.out.1.lt k hk).1)⟩
        · rw [zl_succ, zl_congr (y := y) (fun j hj => by show (if j = r then p else y j) = y j; rw [if_neg (by omega)])]
          show OwnI w.heap.size v2 (zl r y ++ [if r = r then p else y r]) w3
          rw [if_pos rfl]; exact hown3
        · show 0 ≤ (if j = r then p else y j) ∧ (if j = r then p else y j) < (q : Int)
          by_cases e : j = r
          · rw [if_pos e]; exact ⟨hp1, hp2⟩
          · rw [if_neg e]; exact HG.out.2.1 j (by omega)
      clear hown3 hgrow3
      go_roundw
      case rel => exact ⟨r + 1, _, by omega, by go_num, HX.out⟩
      case measure => simp [intOf]; omega
    · have hib : ¬ (r : Int) < (k : Int) := by omega
      have e : r = k := by omega
      subst e
      go_wp2
      go_ret
      exact ⟨_, rfl, y, HG.out.1, HG.out.2.1, HG.out.2.2⟩
end Go.Proofs.Ytmnkablobhdbjaa
