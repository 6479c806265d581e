/- Texts of ours, one behind the other: O5 S34 KH1 KH2 KI1 KI2 KI3 KI4 KR1. -/
import Derived.Test.YtbfkacnpbelmlaaZL10
import Derived.Test.YtbfkacnpbelmlaaZA1
import Derived.Test.YtbfkacnpbelmlaaZW9
import Derived.Test.YtbfkacnpbelmlaaZR14
import Derived.Test.YtbfkacnpbelmlaaZKE4
import Derived.Test.YtbfkacnpbelmlaaZU9
/- A list of numbers that a statement is given, opened; its numbers are the machine's. -/
namespace Go.Proofs.Ytbfkacnpbelmlaa
open Go.ChangeShapes Go.WideShapes Go.ChangeAt Go.RowKit

set_option maxRecDepth 100000 in
theorem open_listI {H : Type} {enc : TypeId × Value → H} {W : World} {base : Nat} {v : Value} {d : DataW H} {p : List MemPlace} (hok : Value.okWide Try.prog W .any base 22 v)
    (h : DataW.Trod enc Try.prog W 0 (fun _ => true) true 22 v d p) :
    ∃ ao n ca z, v = .slice ao n ca ∧ ArgL ao n ca z W ∧ (∀ j, j < n → I64 (z j)) ∧ ((d = .nil ∧ ca = 0) ∨ ∃ es sp, d = .slice es sp ∧ es.length + sp.length = ca) := by
  obtain ⟨a0, len, cap, rfl⟩ := okWide_slice Try.underlying22 hok
  obtain ⟨fuel, hf⟩ := h
  rcases open_ints Try.underlying22 Try.underlying3 Try.cellsInt hf with ⟨hcs, hx⟩ | ⟨a, len', cap', zs, hcs, _, hl, hm, hz, hx, hcell, hwf⟩
  · simp [Value.cells] at hcs
    obtain ⟨rfl, rfl, rfl⟩ := hcs
    simp only [Prod.mk.injEq] at hx
    exact ⟨none, 0, 0, fun _ => 0, rfl, ⟨fun j hj => by omega, fun x hx => (by cases hx), fun _ => rfl, Nat.le_refl _, by omega⟩, fun j hj => absurd hj (by omega), Or.inl ⟨hx.1, rfl⟩⟩
  · simp [Value.cells] at hcs
    obtain ⟨rfl, rfl, rfl⟩ := hcs
    simp only [Prod.mk.injEq] at hx
    simp only [if_true] at hz
    have hhas : a.spot = none ∧ a.block < W.heap.size := by
      have h1 : W.has Try.prog .any base a 3 cap := by
        unfold Value.okWide at hok
        rw [Try.underlying22] at hok
        simp only at hok
        unfold Cell.okWide at hok
        rw [Try.underlying22] at hok
        simp only at hok
        unfold Cell.ok at hok
        rw [Try.underlying22] at hok
        exact hok.2.2
      obtain ⟨_, h2, row, cells, h3, _⟩ := h1
      refine ⟨h2, ?_⟩
      rcases Nat.lt_or_ge a.block W.heap.size with e | e
      · exact e
      · exfalso
        have : W.heap[a.block]? = none := Array.getElem?_eq_none e
        simp [World.shape?, this] at h3
    obtain ⟨b, off, spot⟩ := a
    obtain ⟨hs, hlt⟩ := hhas
    simp only at hs hlt
    subst hs
    refine ⟨some ⟨b, off, none⟩, len, cap, fun j => zs.getD j 0, rfl, ⟨fun j hj => ⟨b, off, rfl, ?_⟩, fun x hx => (by cases hx; exact hlt), fun e => (by cases e), hl, hm⟩, fun j hj => ?_, Or.inr ⟨_, _, hx.1, ?_⟩⟩
    · have := hcell j (by omega)
      rwa [add_off] at this
    · have hm : zs.getD j 0 ∈ zs := by
        rw [List.getD_eq_getElem?_getD, List.getElem?_eq_getElem (by omega)]; exact List.getElem_mem _
      have h := hwf _ hm
      simp [Lit.wf] at h
      exact h
    · simp [lits]
      omega
end Go.Proofs.Ytbfkacnpbelmlaa

/- Gray's lists. No Go text here. -/
namespace Go.Proofs.Ytbfkacnpbelmlaa

end Go.Proofs.Ytbfkacnpbelmlaa

/- Gray's lists: which sizes may be (digits.Check, product, behind; the reference's SizesMay). -/
namespace Go.Proofs.Ytbfkacnpbelmlaa
open Go.RowKit Go.Sort

end Go.Proofs.Ytbfkacnpbelmlaa

/- Gray's lists: the reference's SizesMay, the program's Gray. -/
namespace Go.Proofs.Ytbfkacnpbelmlaa
open Go.RowKit Go.Sort

end Go.Proofs.Ytbfkacnpbelmlaa

/- Words that may lose a bit: which numbers may be (gap.checkSum; the reference's GapArgs). -/
namespace Go.Proofs.Ytbfkacnpbelmlaa
open Go.RowKit Go.Sort

end Go.Proofs.Ytbfkacnpbelmlaa

/- Words that may lose a bit: the sum of the places of ones (gap.comesTo; the reference's Places). -/
namespace Go.Proofs.Ytbfkacnpbelmlaa
open Go.RowKit Go.Sort

end Go.Proofs.Ytbfkacnpbelmlaa

/- Words that may lose a bit: the reference's Places. -/
namespace Go.Proofs.Ytbfkacnpbelmlaa
open Go.RowKit Go.Sort

end Go.Proofs.Ytbfkacnpbelmlaa

/- Words that may lose a bit: the bits of a number (gap.bits). -/
namespace Go.Proofs.Ytbfkacnpbelmlaa
open Go.RowKit Go.Sort

/-- A row of just n numbers. -/
def RowE (g n : Nat) (z : Nat → Int) (w : World) : Prop := RowF g n 3 (fun j => .int .i64 (z j)) w
theorem rowE_zeros {base n : Nat} {w : World} (h : OwnI base (.slice (some ⟨base, 0, none⟩) n n) (List.replicate n 0) w) : RowE base n (fun _ => 0) w := by
  rcases h.2 with ⟨h1, _⟩ | ⟨g, cap, cur, hv, hg, hh, hle, hcm, hsz, htake⟩
  · cases h1
  · simp only [List.length_replicate, Value.slice.injEq, Option.some.injEq, Addr.mk.injEq, and_true, true_and] at hv
    obtain ⟨rfl, rfl⟩ := hv
    by_cases h0 : n = 0
    · exact ⟨cur, hh, by omega, fun o ho => by omega⟩
    · obtain ⟨gl, cl, fl, hvl, hgl, hgl', hll, hcl, hrl, hfl⟩ := h.row n (by simp) (by omega)
      simp only [Value.slice.injEq, Option.some.injEq, Addr.mk.injEq, and_true, true_and] at hvl
      obtain ⟨rfl, rfl⟩ := hvl
      exact RowF.congr hrl fun k hk => by rw [hfl k hk, list_getD_replicate]
theorem RowE.store {g n : Nat} {z : Nat → Int} {w : World} (h : RowE g n z w) (k : Nat) (v : Int) : RowE g n (fun j => if j = k then v else z j) (w.setCell ⟨g, k, none⟩ (.int .i64 v)) := by
  refine (RowF.store h k (.int .i64 v)).congr (fun o _ => ?_)
  show (if o = k then Value.int .i64 v else Value.int .i64 (z o)) = Value.int .i64 (if o = k then v else z o)
  by_cases e : o = k
  · rw [if_pos e, if_pos e]
  · rw [if_neg e, if_neg e]
theorem RowE.own {g n base : Nat} {z : Nat → Int} {w : World} (h : RowE g n z w) (hb : base ≤ g) (hn : n ≤ 1000000) : OwnI base (.slice (some ⟨g, 0, none⟩) n n) (zl n z) w := RowF.own h (zl_len n z) (fun j hj => by rw [zl_getD n z j hj]) hb hn

end Go.Proofs.Ytbfkacnpbelmlaa

/- Golay: places as the bits of a number, of both sides. -/
namespace Go.Proofs.Ytbfkacnpbelmlaa
open Go.RowKit

theorem wrap_u64 {a : Nat} (h : a < 18446744073709551616) : IntKind.u64.wrap (a : Int) = (a : Int) := by
  show ((a : Int) % 18446744073709551616) = _
  omega
end Go.Proofs.Ytbfkacnpbelmlaa
