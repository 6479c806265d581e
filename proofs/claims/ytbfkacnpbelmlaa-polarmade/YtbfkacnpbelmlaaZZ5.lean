/- Texts of ours, one behind the other: Z5 Z6 Z7 Z8 Z9 Z10 Z11 Z12 W11 I1 I2 I3 I4 I5 I6 I7 I8 I9 I10 I11 I12 I13 I14 I15 I16 I18 I19 I20 I21 I22 I23 S12 I24 I25 I26 I27 I28 I29 I30 I31 S13 S14 S15 S16 S17 I32 I33 I34 I35 I36 S19 I40 S20 KA1 KA2. -/
import Derived.Test.YtbfkacnpbelmlaaZX13
import Derived.Test.YtbfkacnpbelmlaaZU11
import Derived.Test.YtbfkacnpbelmlaaZV7
import Derived.Test.YtbfkacnpbelmlaaZL10
import Derived.Deep.RegionHeld3
import Derived.WalkKit
import Derived.Test.YtbfkacnpbelmlaaZR15
import Derived.Lib.AppendZerosOnto
import Derived.Test.YtbfkacnpbelmlaaZA1
import Derived.Test.YtbfkacnpbelmlaaZW2
import Derived.Test.YtbfkacnpbelmlaaZM3
/- A word that came: the reference's ReedWord. -/
namespace Go.Proofs.Ytbfkacnpbelmlaa
open Go.RowKit Go.Sort

end Go.Proofs.Ytbfkacnpbelmlaa

/- Whole words, and how many messages there are: the program's checkWhole, messages, digits; the law's wholeWord; the reference's Few. -/
namespace Go.Proofs.Ytbfkacnpbelmlaa
open Go.RowKit Go.Sort

end Go.Proofs.Ytbfkacnpbelmlaa

/- How many messages there are, and each by its number: the reference's Few, the program's messages, digits. -/
namespace Go.Proofs.Ytbfkacnpbelmlaa
open Go.RowKit Go.Sort

end Go.Proofs.Ytbfkacnpbelmlaa

/- At how many places a message's word differs: the reference's Off, of whole words. -/
namespace Go.Proofs.Ytbfkacnpbelmlaa
open Go.RowKit Go.Sort

end Go.Proofs.Ytbfkacnpbelmlaa

/- All near messages: the program's Within. -/
namespace Go.Proofs.Ytbfkacnpbelmlaa
open Go.RowKit Go.Sort

end Go.Proofs.Ytbfkacnpbelmlaa

/- All near messages: the reference's Near. -/
namespace Go.Proofs.Ytbfkacnpbelmlaa
open Go.RowKit Go.Sort

end Go.Proofs.Ytbfkacnpbelmlaa

/- All near messages: the walk of the reference's Near. -/
namespace Go.Proofs.Ytbfkacnpbelmlaa
open Go.RowKit Go.Sort

end Go.Proofs.Ytbfkacnpbelmlaa

/- What it says that places, a dimension and a whole word may be; the calls that say no. -/
namespace Go.Proofs.Ytbfkacnpbelmlaa
open Go.RowKit Go.Sort

end Go.Proofs.Ytbfkacnpbelmlaa

/- A region that draws its order and whose last operation, which waits for all others, writes what another one reads. No Go text here. -/
namespace Go.Proofs.Ytbfkacnpbelmlaa
open Go

/-- Does number L wait for number i? -/
def waitsB (ops : Array Oper) (L i : Nat) : Bool := ((ops[L]?).map fun o => o.after.any fun e => Region.binds .any e && e.on == i).getD false
end Go.Proofs.Ytbfkacnpbelmlaa

/- Codes: what is said of one (the program's code.Check, the reference's CodeMay). -/
namespace Go.Proofs.Ytbfkacnpbelmlaa
open Go.RowKit Go.Sort

end Go.Proofs.Ytbfkacnpbelmlaa

/- Codes: the reference's CodeMay. -/
namespace Go.Proofs.Ytbfkacnpbelmlaa
open Go.RowKit Go.Sort

end Go.Proofs.Ytbfkacnpbelmlaa

/- Independent rows: the reduced form has as many; what makes nothing 0 but 0. Plain mathematics. -/
namespace Go.Proofs.Ytbfkacnpbelmlaa
open Go.RowKit

end Go.Proofs.Ytbfkacnpbelmlaa

/- Codes: one form, and the dual (the program's oneForm, unit, dual). -/
namespace Go.Proofs.Ytbfkacnpbelmlaa
open Go.RowKit Go.Sort

end Go.Proofs.Ytbfkacnpbelmlaa

/- Codes: the rows that tell one place each (unit), and the dual. -/
namespace Go.Proofs.Ytbfkacnpbelmlaa
open Go.RowKit Go.Sort

end Go.Proofs.Ytbfkacnpbelmlaa

/- Codes: a word, and another one so many times (span.Plus). -/
namespace Go.Proofs.Ytbfkacnpbelmlaa
open Go.RowKit Go.Sort

end Go.Proofs.Ytbfkacnpbelmlaa

/- Sums of codes: plain mathematics. -/
namespace Go.Proofs.Ytbfkacnpbelmlaa
open Go.RowKit

end Go.Proofs.Ytbfkacnpbelmlaa

/- Sums of codes: what is left of rows (the program's sum), its state. -/
namespace Go.Proofs.Ytbfkacnpbelmlaa
open Go.RowKit Go.Sort

end Go.Proofs.Ytbfkacnpbelmlaa

/- Sums of codes: the program's sum. -/
namespace Go.Proofs.Ytbfkacnpbelmlaa
open Go.RowKit Go.Sort

end Go.Proofs.Ytbfkacnpbelmlaa

/- Sums of codes and what both have: the program's checkBoth, Sum, Meet. -/
namespace Go.Proofs.Ytbfkacnpbelmlaa
open Go.RowKit Go.Sort

end Go.Proofs.Ytbfkacnpbelmlaa

/- Sums of codes and what both have: the program's Sum and Meet of codes that may be. -/
namespace Go.Proofs.Ytbfkacnpbelmlaa
open Go.RowKit Go.Sort

end Go.Proofs.Ytbfkacnpbelmlaa

/- Codes: one form and the dual, of the reference (Made, DualOf). -/
namespace Go.Proofs.Ytbfkacnpbelmlaa
open Go.RowKit Go.Sort

theorem OwnV.same {base : Nat} {v : Value} {l : List Value} {w w' : World} (h : OwnV base v l w) (hb : ∀ g, v.ownBlock = some g → w'.heap[g]? = w.heap[g]?) : OwnV base v l w' := by
  obtain ⟨h1, h2⟩ := h
  refine ⟨h1, ?_⟩
  rcases h2 with h2 | ⟨g, cap, cur, hv, hg, hh, r⟩
  · exact Or.inl h2
  · exact Or.inr ⟨g, cap, cur, hv, hg, by rw [hb g (by rw [hv]; rfl)]; exact hh, r⟩
end Go.Proofs.Ytbfkacnpbelmlaa

/- Codes: rows of two codes in one list; what both have, of the reference (Both). -/
namespace Go.Proofs.Ytbfkacnpbelmlaa
open Go.RowKit Go.Sort

end Go.Proofs.Ytbfkacnpbelmlaa

/- CodePairs: codes held against one another; the ways on which there is nothing. -/
namespace Go.Proofs.Ytbfkacnpbelmlaa
open Go.RowKit Go.Sort

end Go.Proofs.Ytbfkacnpbelmlaa

/- CodePairs: the way of an error. -/
namespace Go.Proofs.Ytbfkacnpbelmlaa
open Go.RowKit Go.Sort

end Go.Proofs.Ytbfkacnpbelmlaa

/- CodePairs: two codes that may be. -/
namespace Go.Proofs.Ytbfkacnpbelmlaa
open Go.RowKit Go.Sort

end Go.Proofs.Ytbfkacnpbelmlaa

/- Make and Dual, with their checks. -/
namespace Go.Proofs.Ytbfkacnpbelmlaa
open Go.RowKit Go.Sort

end Go.Proofs.Ytbfkacnpbelmlaa

/- Weights and distances of words, on both sides. -/
namespace Go.Proofs.Ytbfkacnpbelmlaa
open Go.RowKit Go.Sort

end Go.Proofs.Ytbfkacnpbelmlaa

/- Numbers of a word: may they be? The program's numbers. -/
namespace Go.Proofs.Ytbfkacnpbelmlaa
open Go.RowKit Go.Sort

end Go.Proofs.Ytbfkacnpbelmlaa

/- Encode: the sum of the rows of the one form. -/
namespace Go.Proofs.Ytbfkacnpbelmlaa
open Go.RowKit Go.Sort

end Go.Proofs.Ytbfkacnpbelmlaa

/- Encoded: the reference's sum of rows. -/
namespace Go.Proofs.Ytbfkacnpbelmlaa
open Go.RowKit Go.Sort

end Go.Proofs.Ytbfkacnpbelmlaa

/- Encode: where there is nothing to tell. -/
namespace Go.Proofs.Ytbfkacnpbelmlaa
open Go.RowKit Go.Sort

end Go.Proofs.Ytbfkacnpbelmlaa

/- Plain mathematics: products of rows; what makes rows 0. No Go text here. -/
namespace Go.Proofs.Ytbfkacnpbelmlaa

end Go.Proofs.Ytbfkacnpbelmlaa

/- WordMay and Dot of the reference. -/
namespace Go.Proofs.Ytbfkacnpbelmlaa
open Go.RowKit Go.Sort

end Go.Proofs.Ytbfkacnpbelmlaa

/- Syndrome and Has. -/
namespace Go.Proofs.Ytbfkacnpbelmlaa
open Go.RowKit Go.Sort

end Go.Proofs.Ytbfkacnpbelmlaa

/- Has. -/
namespace Go.Proofs.Ytbfkacnpbelmlaa
open Go.RowKit Go.Sort

end Go.Proofs.Ytbfkacnpbelmlaa

/- CodeSays: the words of a code. -/
namespace Go.Proofs.Ytbfkacnpbelmlaa
open Go.RowKit Go.Sort

end Go.Proofs.Ytbfkacnpbelmlaa

/- CodeSays: the words of a code that may be. -/
namespace Go.Proofs.Ytbfkacnpbelmlaa
open Go.RowKit Go.Sort

end Go.Proofs.Ytbfkacnpbelmlaa

/- Places that a code may lose. -/
namespace Go.Proofs.Ytbfkacnpbelmlaa
open Go.RowKit Go.Sort

end Go.Proofs.Ytbfkacnpbelmlaa

/- Room ahead (slices.Grow of nothing). -/
namespace Go.Proofs.Ytbfkacnpbelmlaa
open Go.RowKit Go.Sort

end Go.Proofs.Ytbfkacnpbelmlaa

/- TwoL lists behind one another (slices.Concat). -/
namespace Go.Proofs.Ytbfkacnpbelmlaa
open Go.RowKit Go.Sort

end Go.Proofs.Ytbfkacnpbelmlaa

/- Plain mathematics: what makes rows 0 is what the null rows span; the dual of the dual. No Go text here. -/
namespace Go.Proofs.Ytbfkacnpbelmlaa

end Go.Proofs.Ytbfkacnpbelmlaa

/- Plain mathematics: the dual of the dual. No Go text here. -/
namespace Go.Proofs.Ytbfkacnpbelmlaa

end Go.Proofs.Ytbfkacnpbelmlaa

/- Plain mathematics: how many rows sums and meets of codes have. No Go text here. -/
namespace Go.Proofs.Ytbfkacnpbelmlaa

end Go.Proofs.Ytbfkacnpbelmlaa

/- Plain mathematics: the rows of sum and meet together are both's. No Go text here. -/
namespace Go.Proofs.Ytbfkacnpbelmlaa

end Go.Proofs.Ytbfkacnpbelmlaa

/- Plain mathematics: words without a place; the dual of the punctured dual. No Go text here. -/
namespace Go.Proofs.Ytbfkacnpbelmlaa

end Go.Proofs.Ytbfkacnpbelmlaa

/- A word without a place (the reference's Without). -/
namespace Go.Proofs.Ytbfkacnpbelmlaa
open Go.RowKit Go.Sort

end Go.Proofs.Ytbfkacnpbelmlaa

/- A code without a place (the reference's Punctured). -/
namespace Go.Proofs.Ytbfkacnpbelmlaa
open Go.RowKit Go.Sort

end Go.Proofs.Ytbfkacnpbelmlaa

/- A code without a place (the program's puncture). -/
namespace Go.Proofs.Ytbfkacnpbelmlaa
open Go.RowKit Go.Sort

end Go.Proofs.Ytbfkacnpbelmlaa

/- Puncture, with its check. -/
namespace Go.Proofs.Ytbfkacnpbelmlaa
open Go.RowKit Go.Sort

end Go.Proofs.Ytbfkacnpbelmlaa

/- Shorten, with its check. -/
namespace Go.Proofs.Ytbfkacnpbelmlaa
open Go.RowKit Go.Sort

end Go.Proofs.Ytbfkacnpbelmlaa

/- Plain mathematics: words with one number more, so that all together are 0. No Go text here. -/
namespace Go.Proofs.Ytbfkacnpbelmlaa

end Go.Proofs.Ytbfkacnpbelmlaa

/- Extend (the program's). -/
namespace Go.Proofs.Ytbfkacnpbelmlaa
open Go.RowKit Go.Sort

set_option maxHeartbeats 1000000 in
set_option maxRecDepth 100000 in
theorem cloneI_any {b off n cap : Nat} {z : Nat → Int} {w : World} (h : SlZ (some ⟨b, off, none⟩) n z w) (hn : n ≤ 1000000) (hl : b < w.heap.size) :
    Calls Try.prog 30 #[.slice (some ⟨b, off, none⟩) n cap] w fun e w' => ∃ v, e = .returned v ∧ OwnI w.heap.size v (zl n z) w' ∧ Below w.heap.size w w' := by
  have HS : Hid (SlZ (some ⟨b, off, none⟩) n z w ∧ LtB (some ⟨b, off, none⟩) w.heap.size) := ⟨h, fun x hx => by cases hx; exact hl⟩
  clear h hl
  have hrn : ∀ w1 : World, Sem.run Try.prog (binOp BinOp.eql 22 (Value.slice (some ⟨b, off, none⟩) n cap) (Value.slice none 0 0)) w1 = .ok (.bool false) w1 := fun w1 => Lib.run_eql_slice_nil w1 _ 3 (some ⟨b, off, none⟩) n cap 0 0 Try.underlying22
  go_enter Try.func30, Try.ntmps30
  go_wp2_with (at_builtin; refine append_ints rfl _ _ rfl w.heap.size _ [] rfl (own_empty (two_new _) (Nat.le_refl _)) (some ⟨b, off, none⟩) n cap z rfl (HS.out.1.below ((Below.refl _ _).alloc (Nat.le_refl _) _) HS.out.2) (fun e => by cases e) (by simpa using hn) (by simp) ?_; intro v' w' hown hgrow)
  go_ret
  exact ⟨_, rfl, hown, ((Below.refl _ _).alloc (Nat.le_refl _) _).grown hgrow (by simp) (by intro k hk; have hk : some w.heap.size = some k := hk; cases hk; exact Nat.le_refl _)⟩

end Go.Proofs.Ytbfkacnpbelmlaa

/- Plain mathematics: how many sets there are; Krawtchouk's numbers. No Go text here. -/
namespace Go.Proofs.Ytbfkacnpbelmlaa

end Go.Proofs.Ytbfkacnpbelmlaa

/- Weights: powers and numbers of sets (the program's power, over). -/
namespace Go.Proofs.Ytbfkacnpbelmlaa
open Go.RowKit

theorem wrap_ka {a : Int} (h1 : -9223372036854775808 ≤ a) (h2 : a ≤ 9223372036854775807) : IntKind.i64.wrap a = a := by
  rw [IntKind.wrap_i64]
  first | omega | (unfold wrap64; omega)
end Go.Proofs.Ytbfkacnpbelmlaa

/- Weights: Krawtchouk's numbers (the program's krawtchouk). -/
namespace Go.Proofs.Ytbfkacnpbelmlaa
open Go.RowKit

end Go.Proofs.Ytbfkacnpbelmlaa
