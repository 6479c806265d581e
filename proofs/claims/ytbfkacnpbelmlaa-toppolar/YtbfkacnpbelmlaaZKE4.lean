/- Texts of ours, one behind the other: KE4 KE5 KE6 KE7 KE8 KE9 KE10 KE11 KE12 KE13 KE14 KE15 KE16 KE17 KE18 KE19 KE20. -/
import Derived.Test.YtbfkacnpbelmlaaZKE3
import Derived.Test.YtbfkacnpbelmlaaZKA3
import Derived.Test.YtbfkacnpbelmlaaZW13
import Derived.Test.YtbfkacnpbelmlaaZL1
import Derived.Test.YtbfkacnpbelmlaaZW4
import Derived.Test.YtbfkacnpbelmlaaZX17
import Derived.Test.YtbfkacnpbelmlaaZR5
import Derived.Test.YtbfkacnpbelmlaaZL10
/- Codes of few checks: the reference's ChecksMay and Bits. -/
namespace Go.Proofs.Ytbfkacnpbelmlaa
open Go.RowKit Go.Sort

end Go.Proofs.Ytbfkacnpbelmlaa

/- Codes of few checks: a round of peeling (the program's fill; printed by make/ke5.py). -/
namespace Go.Proofs.Ytbfkacnpbelmlaa
open Go.RowKit Go.Sort

theorem RowZ.lt' {g n : Nat} {z : Nat → Int} {w : World} (h : RowZ g n z w) : g < w.heap.size := by
  obtain ⟨cap, f, h1, _⟩ := h
  exact h1.lt
theorem RowZ.slz {g n : Nat} {z : Nat → Int} {w : World} (h : RowZ g n z w) : SlZ (some ⟨g, 0, none⟩) n z w := fun j hj => ⟨g, 0, rfl, by rw [Nat.zero_add]; exact h.cell j hj⟩
theorem OwnI.rowZ {base : Nat} {v : Value} {n : Nat} {z : Nat → Int} {w : World} (h : OwnI base v (zl n z) w) (h0 : 0 < n) : ∃ g cap, v = .slice (some ⟨g, 0, none⟩) n cap ∧ n ≤ cap ∧ cap ≤ 9223372036854775807 ∧ base ≤ g ∧ RowZ g n z w := by
  obtain ⟨g, cap, f, e1, g1, g2, g3, g4, g5, g6⟩ := h.row n (zl_len _ _) h0
  exact ⟨g, cap, e1, g3, by unfold maxLen at g4; omega, g1, cap, f, g5, g3, fun k hk => by rw [g6 k hk, zl_getD _ _ k hk]⟩
set_option maxHeartbeats 4000000 in
theorem sclone_any {b off n cap : Nat} {z : Nat → Int} {w : World} (h : SlZ (some ⟨b, off, none⟩) n z w) (h0 : 0 < n) (hn : n ≤ 1000000) (hl : b < w.heap.size) :
    Calls Try.prog 30 #[.slice (some ⟨b, off, none⟩) n cap] w fun e w' => ∃ g c, e = .returned (.slice (some ⟨g, 0, none⟩) n c) ∧ n ≤ c ∧ c ≤ 9223372036854775807 ∧ w.heap.size ≤ g ∧ RowZ g n z w' ∧ Below w.heap.size w w' := by
  have HS : Hid (SlZ (some ⟨b, off, none⟩) n z w ∧ LtB (some ⟨b, off, none⟩) w.heap.size) := ⟨h, fun x hx => by cases hx; exact hl⟩
  clear h hl
  have hrn : ∀ w1 : World, Sem.run Try.prog (binOp BinOp.eql 22 (Value.slice (some ⟨b, off, none⟩) n cap) (Value.slice none 0 0)) w1 = .ok (.bool false) w1 := fun w1 => Lib.run_eql_slice_nil w1 _ 3 (some ⟨b, off, none⟩) n cap 0 0 Try.underlying22
  go_enter Try.func30, Try.ntmps30
  go_wp2_with (at_builtin; refine append_ints rfl _ _ rfl w.heap.size _ [] rfl (own_empty (two_new _) (Nat.le_refl _)) (some ⟨b, off, none⟩) n cap z rfl (HS.out.1.below ((Below.refl _ _).alloc (Nat.le_refl _) _) HS.out.2) (fun e => by cases e) (by simpa using hn) (by simp) ?_; intro v' w' hown hgrow)
  obtain ⟨g, c, e1, g1, g2, g3, g4⟩ := OwnI.rowZ hown h0
  subst e1
  have HB : Hid (Below w.heap.size w w') := ((Below.refl _ _).alloc (Nat.le_refl _) _).grown hgrow (by simp) (by intro k hk; have hk : some w.heap.size = some k := hk; cases hk; exact Nat.le_refl _)
  have HR : Hid (n ≤ c ∧ c ≤ 9223372036854775807 ∧ w.heap.size ≤ g ∧ RowZ g n z w') := ⟨g1, g2, g3, g4⟩
  clear hown hgrow g1 g2 g3 g4
  go_ret
  exact ⟨g, c, rfl, HR.out.1, HR.out.2.1, HR.out.2.2.1, HR.out.2.2.2, HB.out⟩
end Go.Proofs.Ytbfkacnpbelmlaa

/- Codes of few checks: the program's Peel. -/
namespace Go.Proofs.Ytbfkacnpbelmlaa
open Go.RowKit Go.Sort

end Go.Proofs.Ytbfkacnpbelmlaa

/- Codes of few checks: the reference's alone and Peeled. -/
namespace Go.Proofs.Ytbfkacnpbelmlaa
open Go.RowKit Go.Sort

end Go.Proofs.Ytbfkacnpbelmlaa

/- Codes of few checks: the reference's Peeled. -/
namespace Go.Proofs.Ytbfkacnpbelmlaa
open Go.RowKit Go.Sort

end Go.Proofs.Ytbfkacnpbelmlaa

/- Codes of few checks: which checks are odd (the program's oddOnes); slices.Max. -/
namespace Go.Proofs.Ytbfkacnpbelmlaa
open Go.RowKit Go.Sort

end Go.Proofs.Ytbfkacnpbelmlaa

/- Codes of few checks: a round of turning (the program's turned). -/
namespace Go.Proofs.Ytbfkacnpbelmlaa
open Go.RowKit Go.Sort

end Go.Proofs.Ytbfkacnpbelmlaa

/- Codes of few checks: the program's Flip. -/
namespace Go.Proofs.Ytbfkacnpbelmlaa
open Go.RowKit Go.Sort

end Go.Proofs.Ytbfkacnpbelmlaa

/- Codes of few checks: what Flip says of what is wrong. -/
namespace Go.Proofs.Ytbfkacnpbelmlaa
open Go.RowKit Go.Sort

end Go.Proofs.Ytbfkacnpbelmlaa

/- Codes of few checks: what Stops says of checks that are none. -/
namespace Go.Proofs.Ytbfkacnpbelmlaa
open Go.RowKit Go.Sort

end Go.Proofs.Ytbfkacnpbelmlaa

/- Codes of few checks: the reference's odd checks. -/
namespace Go.Proofs.Ytbfkacnpbelmlaa
open Go.RowKit Go.Sort

end Go.Proofs.Ytbfkacnpbelmlaa

/- Codes of few checks: the reference's Bits. -/
namespace Go.Proofs.Ytbfkacnpbelmlaa
open Go.RowKit Go.Sort

end Go.Proofs.Ytbfkacnpbelmlaa

/- Codes of few checks: the reference's Stopping (over what In says, as a premise). -/
namespace Go.Proofs.Ytbfkacnpbelmlaa
open Go.RowKit Go.Sort

end Go.Proofs.Ytbfkacnpbelmlaa

/- Codes of few checks: the program's Stops. -/
namespace Go.Proofs.Ytbfkacnpbelmlaa
open Go.RowKit Go.Sort

end Go.Proofs.Ytbfkacnpbelmlaa

/- Codes of few checks: the reference's Flipped. -/
namespace Go.Proofs.Ytbfkacnpbelmlaa
open Go.RowKit Go.Sort

end Go.Proofs.Ytbfkacnpbelmlaa

/- SparseSays: seven ways through it, over what its calls tell. -/
namespace Go.Proofs.Ytbfkacnpbelmlaa
open Go.RowKit Go.Sort

end Go.Proofs.Ytbfkacnpbelmlaa

/- SparseSays: whatever it is given. -/
namespace Go.Proofs.Ytbfkacnpbelmlaa
open Go.RowKit Go.Sort

end Go.Proofs.Ytbfkacnpbelmlaa
