/- Texts of ours, one behind the other: KH9 KH10 KI1 KI2 KI3 KI4 S43 KI5 KI6 KI7 KI8 KI9 KI10 KI11 KI12 KI13 KI14 KI15 KI16 W14 W15 KL1 KL2 KL3 KL4 KL5 KL6 KL7 KL9 KL10. -/
import Derived.Test.YtlljaliemldjkaaZS33
import Derived.Test.YtlljaliemldjkaaZR5
import Derived.Test.YtlljaliemldjkaaZL10
import Derived.Test.YtlljaliemldjkaaZW11
import Derived.Test.YtlljaliemldjkaaZU7
import Derived.Test.YtlljaliemldjkaaZS5
import Derived.Test.YtlljaliemldjkaaZW13
import Derived.RangeFuncNested
import Derived.RangeFuncBound
import Derived.RangeFuncCalls
import Derived.RangeFuncLeaves
import Derived.WalkKit
import Derived.Test.YtlljaliemldjkaaZN2
import Derived.OrdersIn
import Derived.Test.YtlljaliemldjkaaZW2
import Derived.Shelf.Abstract
import Derived.Shelf.RegionOpen
import Derived.OwnWalkIn
import Derived.TacticsInMore
import Derived.LoopNIn
import Derived.LoopIn
import Derived.Deep.RegionHeld3
/- Rings: is the way around kept (the reference's goes)? -/
namespace Go.Proofs.Ytlljaliemldjkaa
open Go.RowKit Go.Sort

end Go.Proofs.Ytlljaliemldjkaa

/- Rings, edge by edge (the reference's RingOf). -/
namespace Go.Proofs.Ytlljaliemldjkaa
open Go.RowKit Go.Sort

end Go.Proofs.Ytlljaliemldjkaa

/- Words that may lose a bit: which numbers may be (gap.checkSum; the reference's GapArgs). -/
namespace Go.Proofs.Ytlljaliemldjkaa
open Go.RowKit Go.Sort

end Go.Proofs.Ytlljaliemldjkaa

/- Words that may lose a bit: the sum of the places of ones (gap.comesTo; the reference's Places). -/
namespace Go.Proofs.Ytlljaliemldjkaa
open Go.RowKit Go.Sort

end Go.Proofs.Ytlljaliemldjkaa

/- Words that may lose a bit: the reference's Places. -/
namespace Go.Proofs.Ytlljaliemldjkaa
open Go.RowKit Go.Sort

end Go.Proofs.Ytlljaliemldjkaa

/- Words that may lose a bit: the bits of a number (gap.bits). -/
namespace Go.Proofs.Ytlljaliemldjkaa
open Go.RowKit Go.Sort

/-- The i-th of n bits of a number, the highest first. -/
def bitN (n k i : Nat) : Nat := k / 2 ^ (n - 1 - i) % 2

theorem and_one (a : Nat) (ha : a < 4611686018427387904) : bits BinOp.and IntKind.i64 (a : Int) 1 = ((a % 2 : Nat) : Int) := by
  have h1 : (BitVec.ofInt 64 (a : Int)).toNat = a := by
    rw [BitVec.ofInt_natCast, BitVec.toNat_ofNat]; exact Nat.mod_eq_of_lt (by omega)
  have h2 : (BitVec.ofInt 64 (1 : Int)).toNat = 1 := by decide
  show IntKind.i64.wrap ((BitVec.ofInt 64 (a : Int) &&& BitVec.ofInt 64 (1 : Int)).toNat : Int) = _
  rw [BitVec.toNat_and, h1, h2, Nat.and_one_is_mod]
  exact wrap_to rfl (by omega)
/-- A row of just n numbers. -/
def RowE (g n : Nat) (z : Nat → Int) (w : World) : Prop := RowF g n 3 (fun j => .int .i64 (z j)) w
theorem rowE_zeros {base n : Nat} {w : World} (h : OwnI base (.slice (some ⟨base, 0, none⟩) n n) (List.replicate n 0) w) : RowE base n (fun _ => 0) w := by
  rcases h.2 with ⟨h1, _⟩ | ⟨g, cap, cur, hv, hg, hh, hle, hcm, hsz, htake⟩
  · cases h1
  · simp only [List.length_replicate, Value.slice.injEq, Option.some.injEq, Addr.mk.injEq, and_true, true_and] at hv
    obtain ⟨rfl, rfl⟩ := hv
    by_cases h0 : n = 0
    · exact ⟨cur, hh, by omega, fun o ho => by omega⟩
    · obtain ⟨gl, cl, fl, hvl, hgl, hgl', hll, hcl, hrl, hfl⟩ := h.row n (by simp) (by omega)
      simp only [Value.slice.injEq, Option.some.injEq, Addr.mk.injEq, and_true, true_and] at hvl
      obtain ⟨rfl, rfl⟩ := hvl
      exact RowF.congr hrl fun k hk => by rw [hfl k hk, list_getD_replicate]
theorem RowE.store {g n : Nat} {z : Nat → Int} {w : World} (h : RowE g n z w) (k : Nat) (v : Int) : RowE g n (fun j => if j = k then v else z j) (w.setCell ⟨g, k, none⟩ (.int .i64 v)) := by
  refine (RowF.store h k (.int .i64 v)).congr (fun o _ => ?_)
  show (if o = k then Value.int .i64 v else Value.int .i64 (z o)) = Value.int .i64 (if o = k then v else z o)
  by_cases e : o = k
  · rw [if_pos e, if_pos e]
  · rw [if_neg e, if_neg e]
theorem RowE.own {g n base : Nat} {z : Nat → Int} {w : World} (h : RowE g n z w) (hb : base ≤ g) (hn : n ≤ 1000000) : OwnI base (.slice (some ⟨g, 0, none⟩) n n) (zl n z) w := RowF.own h (zl_len n z) (fun j hj => by rw [zl_getD n z j hj]) hb hn

end Go.Proofs.Ytlljaliemldjkaa

/- Words that lose a bit or get one: the sum of places tells them apart (Varshamov, Tenengolts, Levenshtein). No Go text here. -/
namespace Go.Proofs.Ytlljaliemldjkaa

end Go.Proofs.Ytlljaliemldjkaa

/- Words that may lose a bit: how far apart two are (gap.between). -/
namespace Go.Proofs.Ytlljaliemldjkaa
open Go.RowKit Go.Sort

end Go.Proofs.Ytlljaliemldjkaa

/- Words that may lose a bit: how far apart two are (the reference's Steps). -/
namespace Go.Proofs.Ytlljaliemldjkaa
open Go.RowKit Go.Sort

end Go.Proofs.Ytlljaliemldjkaa

/- Words that may lose a bit: gap.Check, the reference's GapMay, gap.Steps. -/
namespace Go.Proofs.Ytlljaliemldjkaa
open Go.RowKit Go.Sort

set_option maxHeartbeats 2000000 in
theorem bAll_any {ao : Option Addr} {l cap : Nat} {z : Nat → Int} {w : World} (hs : SlZ ao l z w) (hn : l ≤ 1000000) :
    Calls Try.prog 26 #[.slice ao l cap] w fun e w' => e = .returned (.bool (allP isbt z l)) ∧ w' = w := by
  have HC : Hid (Calls Try.prog 46 #[.slice ao l cap, .func (.func 47) #[] #[]] w fun e w' => e = .returned (.bool (allP isbt z l)) ∧ w' = w) := ball_any enters_isbit hs hn (fun x => isBit_any x w)
  obtain ⟨E, hE⟩ : ∃ E, E = allP isbt z l := ⟨_, rfl⟩
  rw [← hE] at HC ⊢
  clear hs hE
  go_enter Try.func26, Try.ntmps26
  go_wp2_with (go_at_call 46; refine HC.out.mono ?_; rintro e w' ⟨rfl, hw⟩; have hw := hw.symm; subst hw)
  go_ret
  exact ⟨rfl, rfl⟩
end Go.Proofs.Ytlljaliemldjkaa

/- Words that may lose a bit: lists of words; the reference's GapWords, the program's Words. -/
namespace Go.Proofs.Ytlljaliemldjkaa
open Go.RowKit Go.Sort

/-- The field of two. -/
def FTw : FD := ⟨2, 2, 1, 0, 1⟩
theorem FTw_in : FTw ∈ fieldsL := List.Mem.head _

end Go.Proofs.Ytlljaliemldjkaa

/- Words that may lose a bit: the program's Words. -/
namespace Go.Proofs.Ytlljaliemldjkaa
open Go.RowKit Go.Sort

end Go.Proofs.Ytlljaliemldjkaa

/- Words that may lose a bit: lists behind one another (slices.Concat of however many), the reference's Lost and Holds. -/
namespace Go.Proofs.Ytlljaliemldjkaa
open Go.RowKit Go.Sort

end Go.Proofs.Ytlljaliemldjkaa

/- Words that may lose a bit: all words that come of one by losing a bit (gap.shorter; printed by make/ki11.py). -/
namespace Go.Proofs.Ytlljaliemldjkaa
open Go.RowKit Go.Sort

end Go.Proofs.Ytlljaliemldjkaa

/- Words that may lose a bit: all words that become a word by losing one bit (gap.longer; printed by make/ki11.py). -/
namespace Go.Proofs.Ytlljaliemldjkaa
open Go.RowKit Go.Sort

end Go.Proofs.Ytlljaliemldjkaa

/- Words that may lose a bit: gap.sent, gap.Mend. -/
namespace Go.Proofs.Ytlljaliemldjkaa
open Go.RowKit Go.Sort

theorem KI.nil (w : World) : KI (.slice none 0 0) [] w := ⟨Or.inl ⟨rfl, none, 0, rfl⟩, fun k hk => by cases hk⟩

end Go.Proofs.Ytlljaliemldjkaa

/- Words that may lose a bit: the reference's GapMended (printed by make/ki14.py). -/
namespace Go.Proofs.Ytlljaliemldjkaa
open Go.RowKit Go.Sort

end Go.Proofs.Ytlljaliemldjkaa

/- Words that may lose a bit: what Mend tells is what GapMended tells; Mend's errors. -/
namespace Go.Proofs.Ytlljaliemldjkaa
open Go.RowKit Go.Sort

end Go.Proofs.Ytlljaliemldjkaa

/- Words in order: the reference's Below (of words of bits) and Sort (printed by make/ki16.py). -/
namespace Go.Proofs.Ytlljaliemldjkaa
open Go.RowKit Go.Sort

theorem OwnV.at {base G K cap : Nat} {vs : Nat → Value} {w : World} (h : OwnV base (.slice (some ⟨G, 0, none⟩) K cap) (vl K vs) w) {j : Nat} (hj : j < K) : w.cell? ⟨G, j, none⟩ = some (vs j) ∧ w.frozen? ⟨G, j, none⟩ = false := by
  obtain ⟨ao, c, e, _, _, _, hc⟩ := h.open
  rw [vl_len] at e
  obtain ⟨g, e2, h2, h3⟩ := hc j (vs j) (vl_get K vs j hj)
  subst e2
  cases e
  exact ⟨h2, h3⟩
end Go.Proofs.Ytlljaliemldjkaa

/- A range over a function whose rounds are handed memory: a law of our own over the library's steps. No Go text here. -/
namespace Go.Proofs.Ytlljaliemldjkaa
open Go.RowKit

end Go.Proofs.Ytlljaliemldjkaa

/- A region that draws its order, in a round of a range over a function: what serves elsewhere serves there. No Go text here. -/
namespace Go.Proofs.Ytlljaliemldjkaa
open Go

end Go.Proofs.Ytlljaliemldjkaa

/- Ranges over span.Words: the leaf of goThrough (a call of yield). -/


namespace Go.Proofs.Ytlljaliemldjkaa
open Go.RowKit Go.Shelf
attribute [local go_sem] Oper.semAt_some

end Go.Proofs.Ytlljaliemldjkaa

/- Codes: the capacity of the rows that Make tells. -/
namespace Go.Proofs.Ytlljaliemldjkaa
open Go.RowKit Go.Sort

end Go.Proofs.Ytlljaliemldjkaa

/- Ranges over span.Words: goThrough, whole. -/
namespace Go.Proofs.Ytlljaliemldjkaa
open Go.RowKit Go.Sort

end Go.Proofs.Ytlljaliemldjkaa

/- Ranges over span.Words: the iterator's contract. -/
namespace Go.Proofs.Ytlljaliemldjkaa
open Go.RowKit Go.Sort

end Go.Proofs.Ytlljaliemldjkaa

/- Codes: those of few words (code.small). -/
namespace Go.Proofs.Ytlljaliemldjkaa
open Go.RowKit Go.Sort

end Go.Proofs.Ytlljaliemldjkaa

/- The words of a code by their numbers; how many have a weight. -/
namespace Go.Proofs.Ytlljaliemldjkaa
open Go.RowKit Go.Sort

end Go.Proofs.Ytlljaliemldjkaa

/- code.Weights: the words of a code, gone through. -/
namespace Go.Proofs.Ytlljaliemldjkaa
open Go.RowKit Go.Sort Go.Shelf
attribute [local go_sem] Oper.semAt_some

end Go.Proofs.Ytlljaliemldjkaa

/- code.Nearest: the first word that differs least. -/
namespace Go.Proofs.Ytlljaliemldjkaa
open Go.RowKit Go.Sort Go.Shelf
attribute [local go_sem] Oper.semAt_some

end Go.Proofs.Ytlljaliemldjkaa

/- All words of a code: the walk of the reference's Words. -/
namespace Go.Proofs.Ytlljaliemldjkaa
open Go.RowKit Go.Sort

end Go.Proofs.Ytlljaliemldjkaa
