/- Texts of ours, one behind the other: L10 O1 K1 K2 K3 J1 S1 S2 T1. -/
import Derived.Test.YtillljojdnofgaaZL9
import Derived.Test.YtillljojdnofgaaChecked
import Derived.ProofKit
import Derived.OpenShut
import Derived.ChangeOld
import Derived.ChangeSlices
import Derived.SizedLaws
import Derived.Carry
import Derived.Test.YtillljojdnofgaaZU21
/- PolySays: the walk of the statement, whatever it is given. -/
namespace Go.Proofs.Ytillljojdnofgaa
open Go.RowKit Go.Sort

/-- A list that is handed in, of whatever length. -/
structure ArgL (ao : Option Addr) (n cap : Nat) (z : Nat → Int) (w : World) : Prop where
  sl : SlZ ao n z w
  lt : LtB ao w.heap.size
  nil : ao = none → cap = 0
  le : n ≤ cap
  cap : cap ≤ 9223372036854775807
theorem ArgL.arg {ao : Option Addr} {n cap : Nat} {z : Nat → Int} {w : World} (h : ArgL ao n cap z w) (hn : n ≤ 1000000) : Arg ao n cap z w := ⟨h.sl, h.lt, hn, h.nil, h.le, h.cap⟩

end Go.Proofs.Ytillljojdnofgaa

/- A list of numbers that a statement is given, opened. -/
namespace Go.Proofs.Ytillljojdnofgaa
open Go.ChangeShapes Go.WideShapes Go.ChangeAt Go.RowKit

theorem Try.cellsInt : Try.prog.cellsOf 3 = 1 := by kernel_rfl
theorem Try.bytesInt : Try.prog.bytesOf 3 = 8 := by kernel_rfl
theorem Try.laidOut' : laidOutB Try.prog = true := by kernel_rfl

set_option maxRecDepth 100000 in
theorem open_list {H : Type} {enc : TypeId × Value → H} {W : World} {base : Nat} {v : Value} {d : DataW H} {p : List MemPlace} (hok : Value.okWide Try.prog W .any base 22 v)
    (h : DataW.Trod enc Try.prog W 0 (fun _ => true) true 22 v d p) :
    ∃ ao n ca z, v = .slice ao n ca ∧ ArgL ao n ca z W ∧ ((d = .nil ∧ ca = 0) ∨ ∃ es sp, d = .slice es sp ∧ es.length + sp.length = ca) := by
  obtain ⟨a0, len, cap, rfl⟩ := okWide_slice Try.underlying22 hok
  obtain ⟨fuel, hf⟩ := h
  rcases open_ints Try.underlying22 Try.underlying3 Try.cellsInt hf with ⟨hcs, hx⟩ | ⟨a, len', cap', zs, hcs, _, hl, hm, hz, hx, hcell, _⟩
  · simp [Value.cells] at hcs
    obtain ⟨rfl, rfl, rfl⟩ := hcs
    simp only [Prod.mk.injEq] at hx
    exact ⟨none, 0, 0, fun _ => 0, rfl, ⟨fun j hj => by omega, fun x hx => (by cases hx), fun _ => rfl, Nat.le_refl _, by omega⟩, Or.inl ⟨hx.1, rfl⟩⟩
  · simp [Value.cells] at hcs
    obtain ⟨rfl, rfl, rfl⟩ := hcs
    simp only [Prod.mk.injEq] at hx
    simp only [if_true] at hz
    have hhas : a.spot = none ∧ a.block < W.heap.size := by
      have h1 : W.has Try.prog .any base a 3 cap := by
        unfold Value.okWide at hok
        rw [Try.underlying22] at hok
        simp only at hok
        unfold Cell.okWide at hok
        rw [Try.underlying22] at hok
        simp only at hok
        unfold Cell.ok at hok
        rw [Try.underlying22] at hok
        exact hok.2.2
      obtain ⟨_, h2, row, cells, h3, _⟩ := h1
      refine ⟨h2, ?_⟩
      rcases Nat.lt_or_ge a.block W.heap.size with e | e
      · exact e
      · exfalso
        have : W.heap[a.block]? = none := Array.getElem?_eq_none e
        simp [World.shape?, this] at h3
    obtain ⟨b, off, spot⟩ := a
    obtain ⟨hs, hlt⟩ := hhas
    simp only at hs hlt
    subst hs
    refine ⟨some ⟨b, off, none⟩, len, cap, fun j => zs.getD j 0, rfl, ⟨fun j hj => ⟨b, off, rfl, ?_⟩, fun x hx => (by cases hx; exact hlt), fun e => (by cases e), hl, hm⟩, Or.inr ⟨_, _, hx.1, ?_⟩⟩
    · have := hcell j (by omega)
      rwa [add_off] at this
    · simp [lits]
      omega
/-- No list that is handed in takes more than the form's own reach. -/
theorem sized_list {H : Type} {ts : List TypeId} {ds : List (DataW H)} {d : DataW H} {ca j : Nat} (h : (DataW.weightsEach Try.prog ts ds).all (· ≤ reachBytes) = true) (ht : ts[j]? = some 22) (hd : ds[j]? = some d)
    (hc : (d = .nil ∧ ca = 0) ∨ ∃ es sp, d = .slice es sp ∧ es.length + sp.length = ca) : ca ≤ 17592186044416 := by
  rcases hc with ⟨_, rfl⟩ | ⟨es, sp, rfl, rfl⟩
  · omega
  · have := sized_slice h ht hd Try.underlying22
    rw [Try.bytesInt] at this
    unfold reachBytes at this
    omega
end Go.Proofs.Ytillljojdnofgaa

/- What statements make of raw numbers: Raw, Numbers. -/
namespace Go.Proofs.Ytillljojdnofgaa
open Go.RowKit Go.Sort

/-- A number of the machine. -/
def I64 (r : Int) : Prop := -9223372036854775808 ≤ r ∧ r ≤ 9223372036854775807
theorem i64_wrap (x : Int) : I64 (IntKind.i64.wrap x) := by
  unfold I64
  rw [IntKind.wrap_i64]
  omega

set_option maxHeartbeats 2000000 in
theorem raw_any {ao : Option Addr} {n ca : Nat} {z : Nat → Int} {w : World} (h : Arg ao n ca z w) (hn : n ≤ 1000) (i : Nat) (hi : i ≤ 1000000) :
    Calls Try.prog 60 #[.slice ao n ca, .int .i64 i] w fun e w' => (∃ r, e = .returned (.int .i64 r) ∧ I64 r) ∧ ∃ k, w' = w.drewN k := by
  have HA : Hid (Arg ao n ca z w) := h
  clear h
  by_cases h0 : n = 0
  · have hz : ((n : Int) == 0) = true := by rw [h0]; rfl
    clear h0
    go_enter Try.func60, Try.ntmps60
    go_wp2
    go_ret
    exact ⟨⟨_, rfl, by unfold I64; omega⟩, 0, rfl⟩
  · have hz : ((n : Int) == 0) = false := by rw [beq_eq_false_iff_ne]; omega
    obtain ⟨j, hj⟩ : ∃ j, j = i % n := ⟨_, rfl⟩
    obtain ⟨d, hd⟩ : ∃ d, d = i / n := ⟨_, rfl⟩
    have hjn : j < n := by rw [hj]; exact Nat.mod_lt _ (by omega)
    have hdi : d ≤ i := by rw [hd]; exact Nat.div_le_self _ _
    have hm : (i : Int).tmod (n : Int) = (j : Int) := by rw [Int.tmod_eq_emod_of_nonneg (by omega), hj]; rfl
    have hq : (i : Int).tdiv (n : Int) = (d : Int) := by rw [Int.tdiv_eq_ediv_of_nonneg (by omega), hd]; rfl
    obtain ⟨b, off, rfl, hc⟩ := HA.out.sl j hjn
    obtain ⟨x, hx⟩ : ∃ x, x = z j := ⟨_, rfl⟩
    rw [← hx] at hc
    obtain ⟨s, hs⟩ : ∃ s, IntKind.i64.wrap (x + (d : Int) * 7919) = s := ⟨_, rfl⟩
    have HS : Hid (I64 s) := by show I64 s; rw [← hs]; exact i64_wrap _
    have hn0 : ¬ (n : Int) = 0 := by omega
    have hjn' : (j : Int) < (n : Int) := by omega
    have hj0 : (0 : Int) ≤ (j : Int) := by omega
    clear hj hd hx h0
    go_enter Try.func60, Try.ntmps60
    go_wp2
    go_quiet (fail)
    go_wp2
    go_ret
    exact ⟨⟨_, rfl, by first | exact HS.out | exact i64_wrap _⟩, _, rfl⟩

end Go.Proofs.Ytillljojdnofgaa

/- What statements make of raw numbers: different elements (PlacesOf). -/
namespace Go.Proofs.Ytillljojdnofgaa
open Go.RowKit Go.Sort

end Go.Proofs.Ytillljojdnofgaa

/- PolyMade: the walk of the statement. -/
namespace Go.Proofs.Ytillljojdnofgaa
open Go.RowKit Go.Sort

theorem OwnI.argL {base : Nat} {v : Value} {n : Nat} {y : Nat → Int} {w : World} (h : OwnI base v (zl n y) w) : ∃ ao ca, v = .slice ao n ca ∧ ArgL ao n ca y w := by
  rcases h.2 with ⟨h1, h2⟩ | ⟨g, cap, cur, hv, hg, hh, hle, hcm, hsz, htake⟩
  · rw [zl_len] at h2
    subst h2
    exact ⟨none, 0, h1, fun j hj => by omega, fun x hx => (by cases hx), fun _ => rfl, Nat.le_refl _, by omega⟩
  · rw [zl_len] at hv hle
    refine ⟨_, cap, hv, fun j hj => ⟨g, 0, rfl, ?_⟩, fun x hx => (by cases hx; exact lt_of_block hh), fun e => (by cases e), hle, by unfold maxLen at hcm; omega⟩
    obtain ⟨g', cap', e, _, _, hc, _⟩ := h.at (fun e => by
      have := congrArg List.length e
      rw [zl_len] at this
      simp at this
      omega)
    rw [zl_len, hv] at e
    cases e
    rw [Nat.zero_add]
    have := hc j (by rw [zl_len]; exact hj)
    rwa [zl_getD n y j hj] at this
end Go.Proofs.Ytillljojdnofgaa

/- Calls at polynomials that end with 1: products, parts. -/
namespace Go.Proofs.Ytillljojdnofgaa
open Go.RowKit

end Go.Proofs.Ytillljojdnofgaa

/- Plain mathematics: what rows span; the one reduced form of it. No Go text here. -/
namespace Go.Proofs.Ytillljojdnofgaa

end Go.Proofs.Ytillljojdnofgaa

/- Plain mathematics: a row more, put into a reduced form. No Go text here. -/
namespace Go.Proofs.Ytillljojdnofgaa

end Go.Proofs.Ytillljojdnofgaa

/- The reference's matrices: a row less another (less). -/
namespace Go.Proofs.Ytillljojdnofgaa
open Go.RowKit Go.Sort

end Go.Proofs.Ytillljojdnofgaa
