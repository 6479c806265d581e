/- Texts of ours, one behind the other: O5 S34 KH1 KH2 S35 KH6 KH7 KH8 S36 KH9 KH10 KI1 KI2 KI3 KI4 S43 KI5 KI6 KI7 KI8 KI9 KI10 KI11 KI12. -/
import Derived.Test.YtlljaliemldjkaaZL10
import Derived.Test.YtlljaliemldjkaaZA1
import Derived.Test.YtlljaliemldjkaaZR5
import Derived.Test.YtlljaliemldjkaaZKD2
import Derived.Test.YtlljaliemldjkaaZT8
import Derived.Test.YtlljaliemldjkaaZI15
import Derived.Test.YtlljaliemldjkaaZU5
import Derived.Test.YtlljaliemldjkaaZS10
/- A list of numbers that a statement is given, opened; its numbers are the machine's. -/
namespace Go.Proofs.Ytlljaliemldjkaa
open Go.ChangeShapes Go.WideShapes Go.ChangeAt Go.RowKit

set_option maxRecDepth 100000 in
theorem open_listI {H : Type} {enc : TypeId × Value → H} {W : World} {base : Nat} {v : Value} {d : DataW H} {p : List MemPlace} (hok : Value.okWide Try.prog W .any base 22 v)
    (h : DataW.Trod enc Try.prog W 0 (fun _ => true) true 22 v d p) :
    ∃ ao n ca z, v = .slice ao n ca ∧ ArgL ao n ca z W ∧ (∀ j, j < n → I64 (z j)) ∧ ((d = .nil ∧ ca = 0) ∨ ∃ es sp, d = .slice es sp ∧ es.length + sp.length = ca) := by
  obtain ⟨a0, len, cap, rfl⟩ := okWide_slice Try.underlying22 hok
  obtain ⟨fuel, hf⟩ := h
  rcases open_ints Try.underlying22 Try.underlying3 Try.cellsInt hf with ⟨hcs, hx⟩ | ⟨a, len', cap', zs, hcs, _, hl, hm, hz, hx, hcell, hwf⟩
  · simp [Value.cells] at hcs
    obtain ⟨rfl, rfl, rfl⟩ := hcs
    simp only [Prod.mk.injEq] at hx
    exact ⟨none, 0, 0, fun _ => 0, rfl, ⟨fun j hj => by omega, fun x hx => (by cases hx), fun _ => rfl, Nat.le_refl _, by omega⟩, fun j hj => absurd hj (by omega), Or.inl ⟨hx.1, rfl⟩⟩
  · simp [Value.cells] at hcs
    obtain ⟨rfl, rfl, rfl⟩ := hcs
    simp only [Prod.mk.injEq] at hx
    simp only [if_true] at hz
    have hhas : a.spot = none ∧ a.block < W.heap.size := by
      have h1 : W.has Try.prog .any base a 3 cap := by
        unfold Value.okWide at hok
        rw [Try.underlying22] at hok
        simp only at hok
        unfold Cell.okWide at hok
        rw [Try.underlying22] at hok
        simp only at hok
        unfold Cell.ok at hok
        rw [Try.underlying22] at hok
        exact hok.2.2
      obtain ⟨_, h2, row, cells, h3, _⟩ := h1
      refine ⟨h2, ?_⟩
      rcases Nat.lt_or_ge a.block W.heap.size with e | e
      · exact e
      · exfalso
        have : W.heap[a.block]? = none := Array.getElem?_eq_none e
        simp [World.shape?, this] at h3
    obtain ⟨b, off, spot⟩ := a
    obtain ⟨hs, hlt⟩ := hhas
    simp only at hs hlt
    subst hs
    refine ⟨some ⟨b, off, none⟩, len, cap, fun j => zs.getD j 0, rfl, ⟨fun j hj => ⟨b, off, rfl, ?_⟩, fun x hx => (by cases hx; exact hlt), fun e => (by cases e), hl, hm⟩, fun j hj => ?_, Or.inr ⟨_, _, hx.1, ?_⟩⟩
    · have := hcell j (by omega)
      rwa [add_off] at this
    · have hm : zs.getD j 0 ∈ zs := by
        rw [List.getD_eq_getElem?_getD, List.getElem?_eq_getElem (by omega)]; exact List.getElem_mem _
      have h := hwf _ hm
      simp [Lit.wf] at h
      exact h
    · simp [lits]
      omega
end Go.Proofs.Ytlljaliemldjkaa

/- Gray's lists. No Go text here. -/
namespace Go.Proofs.Ytlljaliemldjkaa

end Go.Proofs.Ytlljaliemldjkaa

/- Gray's lists: which sizes may be (digits.Check, product, behind; the reference's SizesMay). -/
namespace Go.Proofs.Ytlljaliemldjkaa
open Go.RowKit Go.Sort

end Go.Proofs.Ytlljaliemldjkaa

/- Gray's lists: the reference's SizesMay, the program's Gray. -/
namespace Go.Proofs.Ytlljaliemldjkaa
open Go.RowKit Go.Sort

theorem setO_bel {B b o : Nat} {u w : World} (h : Below B u w) (hb : B ≤ b) (v : Value) : Below B u (w.setCell ⟨b, o, none⟩ v) := h.setCell hb _

end Go.Proofs.Ytlljaliemldjkaa

/- The least ring in which each word stands once. No Go text here. -/
namespace Go.Proofs.Ytlljaliemldjkaa

end Go.Proofs.Ytlljaliemldjkaa

/- Rings: the word behind a word (digits.next). -/
namespace Go.Proofs.Ytlljaliemldjkaa
open Go.RowKit Go.Sort

end Go.Proofs.Ytlljaliemldjkaa

/- Rings: how many values (the reference's RingMay), and the program's Ring. -/
namespace Go.Proofs.Ytlljaliemldjkaa
open Go.RowKit Go.Sort

end Go.Proofs.Ytlljaliemldjkaa

/- Rings: the program's Ring. -/
namespace Go.Proofs.Ytlljaliemldjkaa
open Go.RowKit Go.Sort

end Go.Proofs.Ytlljaliemldjkaa

/- Rings, edge by edge. No Go text here. -/
namespace Go.Proofs.Ytlljaliemldjkaa

end Go.Proofs.Ytlljaliemldjkaa

/- Rings: is the way around kept (the reference's goes)? -/
namespace Go.Proofs.Ytlljaliemldjkaa
open Go.RowKit Go.Sort

end Go.Proofs.Ytlljaliemldjkaa

/- Rings, edge by edge (the reference's RingOf). -/
namespace Go.Proofs.Ytlljaliemldjkaa
open Go.RowKit Go.Sort

end Go.Proofs.Ytlljaliemldjkaa

/- Words that may lose a bit: which numbers may be (gap.checkSum; the reference's GapArgs). -/
namespace Go.Proofs.Ytlljaliemldjkaa
open Go.RowKit Go.Sort

end Go.Proofs.Ytlljaliemldjkaa

/- Words that may lose a bit: the sum of the places of ones (gap.comesTo; the reference's Places). -/
namespace Go.Proofs.Ytlljaliemldjkaa
open Go.RowKit Go.Sort

end Go.Proofs.Ytlljaliemldjkaa

/- Words that may lose a bit: the reference's Places. -/
namespace Go.Proofs.Ytlljaliemldjkaa
open Go.RowKit Go.Sort

end Go.Proofs.Ytlljaliemldjkaa

/- Words that may lose a bit: the bits of a number (gap.bits). -/
namespace Go.Proofs.Ytlljaliemldjkaa
open Go.RowKit Go.Sort

/-- The i-th of n bits of a number, the highest first. -/
def bitN (n k i : Nat) : Nat := k / 2 ^ (n - 1 - i) % 2

theorem and_one (a : Nat) (ha : a < 4611686018427387904) : bits BinOp.and IntKind.i64 (a : Int) 1 = ((a % 2 : Nat) : Int) := by
  have h1 : (BitVec.ofInt 64 (a : Int)).toNat = a := by
    rw [BitVec.ofInt_natCast, BitVec.toNat_ofNat]; exact Nat.mod_eq_of_lt (by omega)
  have h2 : (BitVec.ofInt 64 (1 : Int)).toNat = 1 := by decide
  show IntKind.i64.wrap ((BitVec.ofInt 64 (a : Int) &&& BitVec.ofInt 64 (1 : Int)).toNat : Int) = _
  rw [BitVec.toNat_and, h1, h2, Nat.and_one_is_mod]
  exact wrap_to rfl (by omega)
/-- A row of just n numbers. -/
def RowE (g n : Nat) (z : Nat → Int) (w : World) : Prop := RowF g n 3 (fun j => .int .i64 (z j)) w
theorem rowE_zeros {base n : Nat} {w : World} (h : OwnI base (.slice (some ⟨base, 0, none⟩) n n) (List.replicate n 0) w) : RowE base n (fun _ => 0) w := by
  rcases h.2 with ⟨h1, _⟩ | ⟨g, cap, cur, hv, hg, hh, hle, hcm, hsz, htake⟩
  · cases h1
  · simp only [List.length_replicate, Value.slice.injEq, Option.some.injEq, Addr.mk.injEq, and_true, true_and] at hv
    obtain ⟨rfl, rfl⟩ := hv
    by_cases h0 : n = 0
    · exact ⟨cur, hh, by omega, fun o ho => by omega⟩
    · obtain ⟨gl, cl, fl, hvl, hgl, hgl', hll, hcl, hrl, hfl⟩ := h.row n (by simp) (by omega)
      simp only [Value.slice.injEq, Option.some.injEq, Addr.mk.injEq, and_true, true_and] at hvl
      obtain ⟨rfl, rfl⟩ := hvl
      exact RowF.congr hrl fun k hk => by rw [hfl k hk, list_getD_replicate]
theorem RowE.store {g n : Nat} {z : Nat → Int} {w : World} (h : RowE g n z w) (k : Nat) (v : Int) : RowE g n (fun j => if j = k then v else z j) (w.setCell ⟨g, k, none⟩ (.int .i64 v)) := by
  refine (RowF.store h k (.int .i64 v)).congr (fun o _ => ?_)
  show (if o = k then Value.int .i64 v else Value.int .i64 (z o)) = Value.int .i64 (if o = k then v else z o)
  by_cases e : o = k
  · rw [if_pos e, if_pos e]
  · rw [if_neg e, if_neg e]
theorem RowE.own {g n base : Nat} {z : Nat → Int} {w : World} (h : RowE g n z w) (hb : base ≤ g) (hn : n ≤ 1000000) : OwnI base (.slice (some ⟨g, 0, none⟩) n n) (zl n z) w := RowF.own h (zl_len n z) (fun j hj => by rw [zl_getD n z j hj]) hb hn

end Go.Proofs.Ytlljaliemldjkaa

/- Words that lose a bit or get one: the sum of places tells them apart (Varshamov, Tenengolts, Levenshtein). No Go text here. -/
namespace Go.Proofs.Ytlljaliemldjkaa

end Go.Proofs.Ytlljaliemldjkaa

/- Words that may lose a bit: how far apart two are (gap.between). -/
namespace Go.Proofs.Ytlljaliemldjkaa
open Go.RowKit Go.Sort

end Go.Proofs.Ytlljaliemldjkaa

/- Words that may lose a bit: how far apart two are (the reference's Steps). -/
namespace Go.Proofs.Ytlljaliemldjkaa
open Go.RowKit Go.Sort

end Go.Proofs.Ytlljaliemldjkaa

/- Words that may lose a bit: gap.Check, the reference's GapMay, gap.Steps. -/
namespace Go.Proofs.Ytlljaliemldjkaa
open Go.RowKit Go.Sort

set_option maxHeartbeats 2000000 in
theorem bAll_any {ao : Option Addr} {l cap : Nat} {z : Nat → Int} {w : World} (hs : SlZ ao l z w) (hn : l ≤ 1000000) :
    Calls Try.prog 26 #[.slice ao l cap] w fun e w' => e = .returned (.bool (allP isbt z l)) ∧ w' = w := by
  have HC : Hid (Calls Try.prog 46 #[.slice ao l cap, .func (.func 47) #[] #[]] w fun e w' => e = .returned (.bool (allP isbt z l)) ∧ w' = w) := ball_any enters_isbit hs hn (fun x => isBit_any x w)
  obtain ⟨E, hE⟩ : ∃ E, E = allP isbt z l := ⟨_, rfl⟩
  rw [← hE] at HC ⊢
  clear hs hE
  go_enter Try.func26, Try.ntmps26
  go_wp2_with (go_at_call 46; refine HC.out.mono ?_; rintro e w' ⟨rfl, hw⟩; have hw := hw.symm; subst hw)
  go_ret
  exact ⟨rfl, rfl⟩
end Go.Proofs.Ytlljaliemldjkaa

/- Words that may lose a bit: lists of words; the reference's GapWords, the program's Words. -/
namespace Go.Proofs.Ytlljaliemldjkaa
open Go.RowKit Go.Sort

end Go.Proofs.Ytlljaliemldjkaa

/- Words that may lose a bit: the program's Words. -/
namespace Go.Proofs.Ytlljaliemldjkaa
open Go.RowKit Go.Sort

end Go.Proofs.Ytlljaliemldjkaa

/- Words that may lose a bit: lists behind one another (slices.Concat of however many), the reference's Lost and Holds. -/
namespace Go.Proofs.Ytlljaliemldjkaa
open Go.RowKit Go.Sort

end Go.Proofs.Ytlljaliemldjkaa

/- Words that may lose a bit: all words that come of one by losing a bit (gap.shorter; printed by make/ki11.py). -/
namespace Go.Proofs.Ytlljaliemldjkaa
open Go.RowKit Go.Sort

end Go.Proofs.Ytlljaliemldjkaa

/- Words that may lose a bit: all words that become a word by losing one bit (gap.longer; printed by make/ki11.py). -/
namespace Go.Proofs.Ytlljaliemldjkaa
open Go.RowKit Go.Sort

end Go.Proofs.Ytlljaliemldjkaa
