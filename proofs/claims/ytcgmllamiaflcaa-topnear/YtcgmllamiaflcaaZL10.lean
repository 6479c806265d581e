/- Texts of ours, one behind the other: L10 O1 K1 K2 K3. -/
import Derived.Test.YtcgmllamiaflcaaZL9
import Derived.Test.YtcgmllamiaflcaaChecked
import Derived.ProofKit
import Derived.OpenShut
import Derived.ChangeOld
import Derived.ChangeSlices
import Derived.SizedLaws
import Derived.Carry
/- PolySays: the walk of the statement, whatever it is given. -/
namespace Go.Proofs.Ytcgmllamiaflcaa
open Go.RowKit Go.Sort

/-- A list that is handed in, of whatever length. -/
structure ArgL (ao : Option Addr) (n cap : Nat) (z : Nat → Int) (w : World) : Prop where
  sl : SlZ ao n z w
  lt : LtB ao w.heap.size
  nil : ao = none → cap = 0
  le : n ≤ cap
  cap : cap ≤ 9223372036854775807
theorem ArgL.arg {ao : Option Addr} {n cap : Nat} {z : Nat → Int} {w : World} (h : ArgL ao n cap z w) (hn : n ≤ 1000000) : Arg ao n cap z w := ⟨h.sl, h.lt, hn, h.nil, h.le, h.cap⟩

end Go.Proofs.Ytcgmllamiaflcaa

/- A list of numbers that a statement is given, opened. -/
namespace Go.Proofs.Ytcgmllamiaflcaa
open Go.ChangeShapes Go.WideShapes Go.ChangeAt Go.RowKit

theorem Try.cellsInt : Try.prog.cellsOf 3 = 1 := by kernel_rfl
theorem Try.bytesInt : Try.prog.bytesOf 3 = 8 := by kernel_rfl
theorem Try.laidOut' : laidOutB Try.prog = true := by kernel_rfl

set_option maxRecDepth 100000 in
theorem open_list {H : Type} {enc : TypeId × Value → H} {W : World} {base : Nat} {v : Value} {d : DataW H} {p : List MemPlace} (hok : Value.okWide Try.prog W .any base 22 v)
    (h : DataW.Trod enc Try.prog W 0 (fun _ => true) true 22 v d p) :
    ∃ ao n ca z, v = .slice ao n ca ∧ ArgL ao n ca z W ∧ ((d = .nil ∧ ca = 0) ∨ ∃ es sp, d = .slice es sp ∧ es.length + sp.length = ca) := by
  obtain ⟨a0, len, cap, rfl⟩ := okWide_slice Try.underlying22 hok
  obtain ⟨fuel, hf⟩ := h
  rcases open_ints Try.underlying22 Try.underlying3 Try.cellsInt hf with ⟨hcs, hx⟩ | ⟨a, len', cap', zs, hcs, _, hl, hm, hz, hx, hcell, _⟩
  · simp [Value.cells] at hcs
    obtain ⟨rfl, rfl, rfl⟩ := hcs
    simp only [Prod.mk.injEq] at hx
    exact ⟨none, 0, 0, fun _ => 0, rfl, ⟨fun j hj => by omega, fun x hx => (by cases hx), fun _ => rfl, Nat.le_refl _, by omega⟩, Or.inl ⟨hx.1, rfl⟩⟩
  · simp [Value.cells] at hcs
    obtain ⟨rfl, rfl, rfl⟩ := hcs
    simp only [Prod.mk.injEq] at hx
    simp only [if_true] at hz
    have hhas : a.spot = none ∧ a.block < W.heap.size := by
      have h1 : W.has Try.prog .any base a 3 cap := by
        unfold Value.okWide at hok
        rw [Try.underlying22] at hok
        simp only at hok
        unfold Cell.okWide at hok
        rw [Try.underlying22] at hok
        simp only at hok
        unfold Cell.ok at hok
        rw [Try.underlying22] at hok
        exact hok.2.2
      obtain ⟨_, h2, row, cells, h3, _⟩ := h1
      refine ⟨h2, ?_⟩
      rcases Nat.lt_or_ge a.block W.heap.size with e | e
      · exact e
      · exfalso
        have : W.heap[a.block]? = none := Array.getElem?_eq_none e
        simp [World.shape?, this] at h3
    obtain ⟨b, off, spot⟩ := a
    obtain ⟨hs, hlt⟩ := hhas
    simp only at hs hlt
    subst hs
    refine ⟨some ⟨b, off, none⟩, len, cap, fun j => zs.getD j 0, rfl, ⟨fun j hj => ⟨b, off, rfl, ?_⟩, fun x hx => (by cases hx; exact hlt), fun e => (by cases e), hl, hm⟩, Or.inr ⟨_, _, hx.1, ?_⟩⟩
    · have := hcell j (by omega)
      rwa [add_off] at this
    · simp [lits]
      omega
/-- No list that is handed in takes more than the form's own reach. -/
theorem sized_list {H : Type} {ts : List TypeId} {ds : List (DataW H)} {d : DataW H} {ca j : Nat} (h : (DataW.weightsEach Try.prog ts ds).all (· ≤ reachBytes) = true) (ht : ts[j]? = some 22) (hd : ds[j]? = some d)
    (hc : (d = .nil ∧ ca = 0) ∨ ∃ es sp, d = .slice es sp ∧ es.length + sp.length = ca) : ca ≤ 17592186044416 := by
  rcases hc with ⟨_, rfl⟩ | ⟨es, sp, rfl, rfl⟩
  · omega
  · have := sized_slice h ht hd Try.underlying22
    rw [Try.bytesInt] at this
    unfold reachBytes at this
    omega
end Go.Proofs.Ytcgmllamiaflcaa

/- What statements make of raw numbers: Raw, Numbers. -/
namespace Go.Proofs.Ytcgmllamiaflcaa
open Go.RowKit Go.Sort

/-- A number of the machine. -/
def I64 (r : Int) : Prop := -9223372036854775808 ≤ r ∧ r ≤ 9223372036854775807
theorem i64_wrap (x : Int) : I64 (IntKind.i64.wrap x) := by
  unfold I64
  rw [IntKind.wrap_i64]
  omega

set_option maxHeartbeats 2000000 in
theorem raw_any {ao : Option Addr} {n ca : Nat} {z : Nat → Int} {w : World} (h : Arg ao n ca z w) (hn : n ≤ 1000) (i : Nat) (hi : i ≤ 1000000) :
    Calls Try.prog 12 #[.slice ao n ca, .int .i64 i] w fun e w' => (∃ r, e = .returned (.int .i64 r) ∧ I64 r) ∧ ∃ k, w' = w.drewN k := by
  have HA : Hid (Arg ao n ca z w) := h
  clear h
  by_cases h0 : n = 0
  · have hz : ((n : Int) == 0) = true := by rw [h0]; rfl
    clear h0
    go_enter Try.func12, Try.ntmps12
    go_wp2
    go_ret
    exact ⟨⟨_, rfl, by unfold I64; omega⟩, 0, rfl⟩
  · have hz : ((n : Int) == 0) = false := by rw [beq_eq_false_iff_ne]; omega
    obtain ⟨j, hj⟩ : ∃ j, j = i % n := ⟨_, rfl⟩
    obtain ⟨d, hd⟩ : ∃ d, d = i / n := ⟨_, rfl⟩
    have hjn : j < n := by rw [hj]; exact Nat.mod_lt _ (by omega)
    have hdi : d ≤ i := by rw [hd]; exact Nat.div_le_self _ _
    have hm : (i : Int).tmod (n : Int) = (j : Int) := by rw [Int.tmod_eq_emod_of_nonneg (by omega), hj]; rfl
    have hq : (i : Int).tdiv (n : Int) = (d : Int) := by rw [Int.tdiv_eq_ediv_of_nonneg (by omega), hd]; rfl
    obtain ⟨b, off, rfl, hc⟩ := HA.out.sl j hjn
    obtain ⟨x, hx⟩ : ∃ x, x = z j := ⟨_, rfl⟩
    rw [← hx] at hc
    obtain ⟨s, hs⟩ : ∃ s, IntKind.i64.wrap (x + (d : Int) * 7919) = s := ⟨_, rfl⟩
    have HS : Hid (I64 s) := by show I64 s; rw [← hs]; exact i64_wrap _
    have hn0 : ¬ (n : Int) = 0 := by omega
    have hjn' : (j : Int) < (n : Int) := by omega
    have hj0 : (0 : Int) ≤ (j : Int) := by omega
    clear hj hd hx h0
    go_enter Try.func12, Try.ntmps12
    go_wp2
    go_quiet (fail)
    go_wp2
    go_ret
    exact ⟨⟨_, rfl, by first | exact HS.out | exact i64_wrap _⟩, _, rfl⟩

/-- Numbers from 0 on, all below q. -/
def Blw (q k : Nat) (z : Nat → Int) : Prop := ∀ j, j < k → 0 ≤ z j ∧ z j < (q : Int)

set_option maxHeartbeats 4000000 in
set_option maxRecDepth 100000 in
theorem numbers_any {ao : Option Addr} {n ca : Nat} {z : Nat → Int} {w : World} (h : Arg ao n ca z w) (hn : n ≤ 1000) (f q k : Nat) (hf : f ≤ 100000) (hq : 1 ≤ q) (hq2 : q ≤ 100000) (hk : k ≤ 100000) :
    Calls Try.prog 10 #[.slice ao n ca, .int .i64 f, .int .i64 q, .int .i64 k] w fun e w' => ∃ v y, e = .returned v ∧ OwnI w.heap.size v (zl k y) w' ∧ Blw q k y ∧ Below w.heap.size w w' := by
  have HA : Hid (Arg ao n ca z w) := h
  clear h
  go_enter Try.func10, Try.ntmps10
  go_wp2
  go_loopw [9, 10] (fun vl i wr => ∃ (r : Nat) (y : Nat → Int), r ≤ k ∧ i = .int .i64 r ∧ Hid (OwnI w.heap.size vl (zl r y) wr ∧ Blw q r y ∧ Below w.heap.size w wr)) (fun _ i _ => k - (intOf i).toNat)
  case atStart => exact ⟨0, fun _ => 0, by omega, rfl, OwnI.nil _ _, fun j hj => by omega, Below.refl _ _⟩
  case round =>
    obtain ⟨r, y, hr, rfl, HG⟩ := hrel
    have hsz := HG.out.2.2.size
    by_cases hlt : r < k
    · have hib : (r : Int) < (k : Int) := by omega
      have HR : Hid (Calls Try.prog 12 #[.slice ao n ca, .int .i64 ((f : Int) + (r : Int))] wr fun e w' => (∃ x, e = .returned (.int .i64 x) ∧ I64 x) ∧ ∃ k, w' = wr.drewN k) := by
        have h := raw_any (HA.out.below HG.out.2.2) hn (f + r) (by omega)
        rw [Int.natCast_add] at h; exact h
      go_wp2_with fail
      refine HR.out.mono ?_
      rintro e w1 ⟨⟨x, rfl, hx⟩, k1, hw1⟩
      have HG1 : Hid (OwnI w.heap.size u9 (zl r y) w1 ∧ Below w.heap.size w w1) := by rw [hw1]; exact ⟨HG.out.1.drewN _, below_drewN2 HG.out.2.2 _⟩
      have hsz1 := HG1.out.2.size
      clear hw1
      have hp1 := pick_lo x (q : Int) (by omega)
      have hp2 := pick_hi x (q : Int) (by omega)
      obtain ⟨p, hp⟩ : ∃ p, p = pick x (q : Int) := ⟨_, rfl⟩
      have HP : Hid (∀ w : World, Calls Try.prog 8 #[.int .i64 x, .int .i64 q] w fun e w' => e = .returned (.int .i64 p) ∧ w' = w) := fun w => by rw [hp]; exact pick_any x q w hx.1 hx.2 (by omega) (by omega)
      rw [← hp] at hp1 hp2
      clear hp hx HR
      go_wp2_with (first
        | (go_at_call 8; refine (HP.out _).mono ?_; rintro e w' ⟨rfl, hw⟩; have hw := hw.symm; subst hw)
        | (at_builtin; refine append_int rfl _ _ rfl w.heap.size _ (zl r y) rfl (HG1.out.1.alloc _) ⟨_, 0, none⟩ 1 p rfl (by simp) (by rw [zl_len]; omega) (by simp; omega) ?_; intro v2 w3 hown3 hgrow3))
      have HX : Hid (OwnI w.heap.size v2 (zl (r + 1) (fun j => if j = r then p else y j)) w3 ∧ Blw q (r + 1) (fun j => if j = r then p else y j) ∧ Below w.heap.size w w3) := by
        refine ⟨?_, fun j hj => ?_, (HG1.out.2.alloc hsz1 _).grown hgrow3 (by simp; omega) (fun k hk => (HG1.out.1.lt k hk).1)⟩
        · rw [zl_succ, zl_congr (y := y) (fun j hj => by show (if j = r then p else y j) = y j; rw [if_neg (by omega)])]
          show OwnI w.heap.size v2 (zl r y ++ [if r = r then p else y r]) w3
          rw [if_pos rfl]; exact hown3
        · show 0 ≤ (if j = r then p else y j) ∧ (if j = r then p else y j) < (q : Int)
          by_cases e : j = r
          · rw [if_pos e]; exact ⟨hp1, hp2⟩
          · rw [if_neg e]; exact HG.out.2.1 j (by omega)
      clear hown3 hgrow3
      go_roundw
      case rel => exact ⟨r + 1, _, by omega, by go_num, HX.out⟩
      case measure => simp [intOf]; omega
    · have hib : ¬ (r : Int) < (k : Int) := by omega
      have e : r = k := by omega
      subst e
      go_wp2
      go_ret
      exact ⟨_, rfl, y, HG.out.1, HG.out.2.1, HG.out.2.2⟩
end Go.Proofs.Ytcgmllamiaflcaa

/- What statements make of raw numbers: different elements (PlacesOf). -/
namespace Go.Proofs.Ytcgmllamiaflcaa
open Go.RowKit Go.Sort

/-- Different numbers below q. -/
def Perm' (q : Nat) (c : Nat → Nat) : Prop := (∀ j, j < q → c j < q) ∧ ∀ i j, i < j → j < q → c i ≠ c j
/-- Two that change places. -/
def swp (c : Nat → Nat) (i k : Nat) : Nat → Nat := fun j => if j = k then c i else if j = i then c k else c j
theorem swp_perm {q : Nat} {c : Nat → Nat} {i k : Nat} (h : Perm' q c) (hi : i < q) (hk : k < q) : Perm' q (swp c i k) := by
  have inj : ∀ a b, a < q → b < q → c a = c b → a = b := by
    intro a b ha hb e
    rcases Nat.lt_trichotomy a b with h1 | h1 | h1
    · exact absurd e (h.2 a b h1 hb)
    · exact h1
    · exact absurd e.symm (h.2 b a h1 ha)
  refine ⟨fun j hj => ?_, fun a b hab hb e => ?_⟩
  · unfold swp
    split
    · exact h.1 i hi
    · split
      · exact h.1 k hk
      · exact h.1 j hj
  · unfold swp at e
    have ha : a < q := by omega
    by_cases e1 : a = k
    · rw [if_pos e1] at e
      rw [if_neg (by omega)] at e
      by_cases e2 : b = i
      · rw [if_pos e2] at e
        have := inj i k hi hk e
        omega
      · rw [if_neg e2] at e
        have := inj i b hi hb e
        omega
    · rw [if_neg e1] at e
      by_cases e2 : a = i
      · rw [if_pos e2] at e
        by_cases e3 : b = k
        · rw [if_pos e3] at e
          have := inj k i hk hi e
          omega
        · rw [if_neg e3, if_neg (by omega)] at e
          have := inj k b hk hb e
          omega
      · rw [if_neg e2] at e
        by_cases e3 : b = k
        · rw [if_pos e3] at e
          have := inj a i ha hi e
          omega
        · rw [if_neg e3] at e
          by_cases e4 : b = i
          · rw [if_pos e4] at e
            have := inj a k ha hk e
            omega
          · rw [if_neg e4] at e
            have := inj a b ha hb e
            omega

set_option maxHeartbeats 4000000 in
set_option maxRecDepth 100000 in
theorem places_any {ao : Option Addr} {n ca : Nat} {z : Nat → Int} {w : World} (h : Arg ao n ca z w) (hn : n ≤ 1000) (q k : Nat) (hq : 1 ≤ q) (hq2 : q ≤ 100000) (hk : k ≤ q) :
    Calls Try.prog 9 #[.slice ao n ca, .int .i64 q, .int .i64 k] w fun e w' => ∃ g c, e = .returned (.slice (some ⟨g, 0, none⟩) k q) ∧ w.heap.size ≤ g ∧ Row g q c w' ∧ Perm' q c ∧ Below w.heap.size w w' := by
  have HA : Hid (Arg ao n ca z w) := h
  clear h
  go_enter Try.func9, Try.ntmps9
  go_wp2_with (at_make; refine make_int rfl _ _ rfl _ q rfl rfl (by omega) (by omega) ?_; intro w2 hown2 hgrow2)
  have HI : Hid (Row w.heap.size q pnil w2 ∧ Below w.heap.size w w2) := ⟨row_zeros hown2, below_grown hgrow2 (Nat.le_refl _) (fun k hk => by simp at hk)⟩
  clear hown2 hgrow2
  obtain ⟨g, hg⟩ : ∃ g, g = w.heap.size := ⟨_, rfl⟩
  rw [← hg] at HI ⊢
  have hgw : w.heap.size ≤ g := by omega
  have HI2 : Hid (Row g q pnil w2 ∧ Below w.heap.size w w2) := by
    have h := HI.out
    exact ⟨h.1, by rw [← hg]; exact h.2⟩
  clear HI hg
  go_wp2_with fail
  go_loopw [8] (fun i wr => ∃ r : Nat, r ≤ q ∧ i = .int .i64 r ∧ Hid (Row g q (fun k => if k < r then k else 0) wr ∧ Below w.heap.size w wr)) (fun i _ => q - (intOf i).toNat)
  case atStart => exact ⟨0, by omega, rfl, HI2.out.1.congr (fun k _ => by rw [if_neg (by omega)]; rfl), HI2.out.2⟩
  case round =>
    clear HI2
    obtain ⟨r, hr, rfl, HG⟩ := hrel
    by_cases hlt : r < q
    · have hib : (r : Int) < (q : Int) := by omega
      have hfr := HG.out.1.free r
      have hcl := HG.out.1.cell r hlt
      have HR : Hid (Row g q (fun k => if k < r + 1 then k else 0) (wr.setCell ⟨g, r, none⟩ (.int .i64 (r : Nat))) ∧ Below w.heap.size w (wr.setCell ⟨g, r, none⟩ (.int .i64 (r : Nat)))) := by
        refine ⟨HG.out.1.store r r (fun j _ => ?_), HG.out.2.setCell hgw _⟩
        by_cases e : j = r
        · rw [if_pos e, if_pos (by omega), e]
        · rw [if_neg e]
          by_cases e2 : j < r
          · rw [if_pos e2, if_pos (by omega)]
          · rw [if_neg e2, if_neg (by omega)]
      go_wp2
      go_roundw
      case rel => exact ⟨r + 1, by omega, by go_num, HR.out⟩
      case measure => simp [intOf]; omega
    · have hib : ¬ (r : Int) < (q : Int) := by omega
      have HI3 : Hid (Row g q (fun k => k) wr ∧ Below w.heap.size w wr ∧ Perm' q (fun k => k)) := ⟨HG.out.1.congr (fun k hk => by rw [if_pos (by omega)]), HG.out.2, fun j hj => hj, fun i j hij _ => Nat.ne_of_lt hij⟩
      clear HG hlt
      go_wp2_with fail
      go_loopw [9] (fun i wi => ∃ (r : Nat) (c : Nat → Nat), r ≤ k ∧ i = .int .i64 r ∧ Hid (Row g q c wi ∧ Below w.heap.size w wi ∧ Perm' q c)) (fun i _ => k - (intOf i).toNat)
      case atStart => exact ⟨0, _, by omega, rfl, HI3.out⟩
      case round =>
        clear HI3
        obtain ⟨s, c, hs, rfl, HG⟩ := hrel
        by_cases hlt : s < k
        · have hib : (s : Int) < (k : Int) := by omega
          have HR : Hid (Calls Try.prog 12 #[.slice ao n ca, .int .i64 s] wr fun e w' => (∃ x, e = .returned (.int .i64 x) ∧ I64 x) ∧ ∃ k, w' = wr.drewN k) := raw_any (HA.out.below HG.out.2.1) hn s (by omega)
          go_wp2_with fail
          refine HR.out.mono ?_
          rintro e w1 ⟨⟨x, rfl, hx⟩, k1, hw1⟩
          have HG1 : Hid (Row g q c w1 ∧ Below w.heap.size w w1 ∧ Perm' q c) := by rw [hw1]; exact ⟨HG.out.1.drewN _, below_drewN2 HG.out.2.1 _, HG.out.2.2⟩
          clear hw1 HR HG
          obtain ⟨p, hp, hpl⟩ : ∃ p : Nat, pick x ((q : Int) - (s : Int)) = (p : Int) ∧ s + p < q := by
            have hp1 := pick_lo x ((q : Int) - (s : Int)) (by omega)
            have hp2 := pick_hi x ((q : Int) - (s : Int)) (by omega)
            exact ⟨(pick x ((q : Int) - (s : Int))).toNat, by omega, by omega⟩
          have HP : Hid (∀ w : World, Calls Try.prog 8 #[.int .i64 x, .int .i64 ((q : Int) - (s : Int))] w fun e w' => e = .returned (.int .i64 p) ∧ w' = w) := fun w => by rw [← hp]; exact pick_any x _ w hx.1 hx.2 (by omega) (by omega)
          clear hp hx
          have hc1 := HG1.out.1.cell s (by omega)
          have hc2 := HG1.out.1.cell (s + p) hpl
          have hf1 := HG1.out.1.free s
          obtain ⟨u, hu⟩ : ∃ u, u = c s := ⟨_, rfl⟩
          obtain ⟨v, hv⟩ : ∃ v, v = c (s + p) := ⟨_, rfl⟩
          rw [← hu] at hc1
          rw [← hv] at hc2
          have hib2 : (s : Int) + (p : Int) < (q : Int) := by omega
          have hib3 : (s : Int) < (q : Int) := by omega
          have hib4 : (0 : Int) ≤ (s : Int) + (p : Int) := by omega
          have hib5 : ((s : Int) + (p : Int)).toNat = s + p := by omega
          have hr1 : Row g q (fun j => if j = s then v else c j) (w1.setCell ⟨g, s, none⟩ (.int .i64 (v : Nat))) := HG1.out.1.store s v (fun j _ => rfl)
          have hf2 := hr1.free (s + p)
          have hc3 := hr1.cell (s + p) hpl
          obtain ⟨t, ht⟩ : ∃ t, t = (if s + p = s then v else c (s + p)) := ⟨_, rfl⟩
          rw [← ht] at hc3
          have HR : Hid (Row g q (swp c s (s + p)) ((w1.setCell ⟨g, s, none⟩ (.int .i64 (v : Nat))).setCell ⟨g, s + p, none⟩ (.int .i64 (u : Nat))) ∧ Below w.heap.size w ((w1.setCell ⟨g, s, none⟩ (.int .i64 (v : Nat))).setCell ⟨g, s + p, none⟩ (.int .i64 (u : Nat))) ∧ Perm' q (swp c s (s + p))) := by
            refine ⟨hr1.store (s + p) u (fun j _ => by unfold swp; rw [hu, hv]), (HG1.out.2.1.setCell hgw _).setCell hgw _, swp_perm HG1.out.2.2 (by omega) hpl⟩
          clear hu hv hr1 ht
          go_wp2_with (go_at_call 8; refine (HP.out _).mono ?_; rintro e w' ⟨rfl, hw⟩; have hw := hw.symm; subst hw)
          go_roundw
          case rel => exact ⟨s + 1, _, by omega, by go_num, HR.out⟩
          case measure => simp [intOf]; omega
        · have hib : ¬ (s : Int) < (k : Int) := by omega
          have hib2 : (k : Int) ≤ (q : Int) := by omega
          go_wp2
          go_ret
          exact ⟨g, rfl, hgw, c, HG.out.1, HG.out.2.2, HG.out.2.1⟩
end Go.Proofs.Ytcgmllamiaflcaa

/- PolyMade: the walk of the statement. -/
namespace Go.Proofs.Ytcgmllamiaflcaa
open Go.RowKit Go.Sort

theorem OwnI.argL {base : Nat} {v : Value} {n : Nat} {y : Nat → Int} {w : World} (h : OwnI base v (zl n y) w) : ∃ ao ca, v = .slice ao n ca ∧ ArgL ao n ca y w := by
  rcases h.2 with ⟨h1, h2⟩ | ⟨g, cap, cur, hv, hg, hh, hle, hcm, hsz, htake⟩
  · rw [zl_len] at h2
    subst h2
    exact ⟨none, 0, h1, fun j hj => by omega, fun x hx => (by cases hx), fun _ => rfl, Nat.le_refl _, by omega⟩
  · rw [zl_len] at hv hle
    refine ⟨_, cap, hv, fun j hj => ⟨g, 0, rfl, ?_⟩, fun x hx => (by cases hx; exact lt_of_block hh), fun e => (by cases e), hle, by unfold maxLen at hcm; omega⟩
    obtain ⟨g', cap', e, _, _, hc, _⟩ := h.at (fun e => by
      have := congrArg List.length e
      rw [zl_len] at this
      simp at this
      omega)
    rw [zl_len, hv] at e
    cases e
    rw [Nat.zero_add]
    have := hc j (by rw [zl_len]; exact hj)
    rwa [zl_getD n y j hj] at this
theorem blw_chk {D : FD} {n : Nat} {y : Nat → Int} (h : Blw D.q n y) (hn : n ≤ 128) : D.chk n y = 0 := by
  unfold FD.chk
  rw [if_neg (by omega), if_pos]
  refine allHas_iff.2 fun j hj => ?_
  unfold FD.has
  rw [decide_eq_true_eq]
  exact h j hj

end Go.Proofs.Ytcgmllamiaflcaa
