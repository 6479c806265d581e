/- Texts of ours, one behind the other: I32 I33 I34 I35 I36 S19 I40 S20 KA1 KA2 KA3 S23. -/
import Derived.Test.YtillljojdnofgaaZI22
import Derived.Test.YtillljojdnofgaaZV7
import Derived.Test.YtillljojdnofgaaZA1
import Derived.Test.YtillljojdnofgaaZW3
import Derived.Test.YtillljojdnofgaaZB1
import Derived.Test.YtillljojdnofgaaZM8
import Derived.Test.YtillljojdnofgaaZW11
import Derived.Deep.CutBlock
import Derived.Deep.DeepCutAuto
import Derived.Test.YtillljojdnofgaaZS9
/- A word without a place (the reference's Without). -/
namespace Go.Proofs.Ytillljojdnofgaa
open Go.RowKit Go.Sort

theorem zl_wo (a n : Nat) (f : Nat → Nat) (ha : a < n) : zl a (fun j => ((f j : Nat) : Int)) ++ zl (n - (a + 1)) (fun j => ((f (a + 1 + j) : Nat) : Int)) = zl (n - 1) fun j => ((wo a f j : Nat) : Int) := by
  apply List.ext_getElem?
  intro i
  unfold zl
  by_cases h1 : i < a
  · rw [List.getElem?_append_left (by simpa using h1)]
    simp only [List.getElem?_map]
    rw [List.getElem?_range h1, List.getElem?_range (by omega)]
    show some ((f i : Nat) : Int) = some ((if i < a then f i else f (i + 1) : Nat) : Int)
    rw [if_pos h1]
  · rw [List.getElem?_append_right (by simpa using h1)]
    simp only [List.getElem?_map, List.length_map, List.length_range]
    by_cases h2 : i < n - 1
    · rw [List.getElem?_range (by omega), List.getElem?_range h2]
      show some ((f (a + 1 + (i - a)) : Nat) : Int) = some ((if i < a then f i else f (i + 1) : Nat) : Int)
      rw [if_neg h1, show a + 1 + (i - a) = i + 1 by omega]
    · rw [List.getElem?_eq_none (by simp; omega), List.getElem?_eq_none (by simp; omega)]
      rfl

set_option maxHeartbeats 4000000 in
set_option maxRecDepth 100000 in
theorem without_any {b off n cx a : Nat} {f : Nat → Nat} {w : World} (ha : a < n) (hn : n ≤ 1000) (hcx : n ≤ cx) (hc : cx ≤ 9223372036854775807) (hS : Sl (some ⟨b, off, none⟩) n f w) (hl : b < w.heap.size) :
    Calls Try.prog 54 #[.slice (some ⟨b, off, none⟩) n cx, .int .i64 (a : Nat)] w fun e w' => ∃ v, e = .returned v ∧ OwnI w.heap.size v (zl (n - 1) fun j => ((wo a f j : Nat) : Int)) w' ∧ Below w.heap.size w w' := by
  have HS : Hid (Sl (some ⟨b, off, none⟩) n f w) := hS
  clear hS
  have h0 : (0 : Int) ≤ (a : Int) := by omega
  have h1 : (a : Int) ≤ (cx : Int) := by omega
  go_enter Try.func54, Try.ntmps54
  go_wp2_with fail
  refine (copyI_any (n := a) (z := fun j => ((f j : Nat) : Int)) (fun j hj => HS.out j (by omega)) (by omega) (fun h => by cases h) (fun x hx => by cases hx; exact hl)).mono ?_
  rintro e w1 ⟨v1, rfl, ho1, hb1⟩
  have H1 : Hid (OwnI w.heap.size v1 (zl a fun j => ((f j : Nat) : Int)) w1 ∧ Below w.heap.size w w1) := ⟨ho1, hb1⟩
  clear ho1 hb1
  have h2 : (0 : Int) ≤ (a : Int) + 1 := by omega
  have h3 : (a : Int) + 1 ≤ (n : Int) := by omega
  have h4 : (n : Int) ≤ (cx : Int) := by omega
  have hsz := H1.out.2.size
  have HS1 : Hid (SlZ (some ⟨b, off + (a + 1), none⟩) (n - (a + 1)) (fun j => ((f (a + 1 + j) : Nat) : Int)) w1) := fun j hj => by
    obtain ⟨b', off', e, hcell⟩ := HS.out (a + 1 + j) (by omega)
    cases e
    refine ⟨b, off + (a + 1), rfl, ?_⟩
    rw [show off + (a + 1) + j = off + (a + 1 + j) by omega]
    exact ((bcell H1.out.2).1 b (off + (a + 1 + j)) hl).trans hcell
  by_cases hca : cx = a + 1
  · have hna : n = a + 1 := by omega
    subst hna
    have e0 : a + 1 - (a + 1) = 0 := by omega
    go_wp2_with (at_builtin; refine append_ints rfl _ _ rfl w.heap.size _ (zl a fun j => ((f j : Nat) : Int)) rfl H1.out.1 _ 0 _ (fun _ => 0) rfl (fun j hj => absurd hj (by omega)) (fun h => by cases h) (by rw [zl_len]; omega) hsz ?_; intro v5 w5 hown5 hgrow5)
    have HR : Hid (OwnI w.heap.size v5 (zl (a + 1 - 1) fun j => ((wo a f j : Nat) : Int)) w5 ∧ Below w.heap.size w w5) := by
      refine ⟨?_, H1.out.2.grown hgrow5 hsz (fun k hk => (H1.out.1.lt k hk).1)⟩
      have h := zl_wo a (a + 1) f (by omega)
      rw [e0] at h
      rw [← h]; exact hown5
    clear hown5 hgrow5
    go_ret
    exact ⟨_, rfl, HR.out⟩
  · go_wp2_with (at_builtin; refine append_ints rfl _ _ rfl w.heap.size _ (zl a fun j => ((f j : Nat) : Int)) rfl H1.out.1 _ (n - (a + 1)) _ (fun j => ((f (a + 1 + j) : Nat) : Int)) rfl HS1.out (fun h => by cases h) (by rw [zl_len]; omega) hsz ?_; intro v5 w5 hown5 hgrow5)
    have HR : Hid (OwnI w.heap.size v5 (zl (n - 1) fun j => ((wo a f j : Nat) : Int)) w5 ∧ Below w.heap.size w w5) := by
      refine ⟨?_, H1.out.2.grown hgrow5 hsz (fun k hk => (H1.out.1.lt k hk).1)⟩
      rw [← zl_wo a n f ha]; exact hown5
    clear hown5 hgrow5
    go_ret
    exact ⟨_, rfl, HR.out⟩
end Go.Proofs.Ytillljojdnofgaa

/- A code without a place (the reference's Punctured). -/
namespace Go.Proofs.Ytillljojdnofgaa
open Go.RowKit Go.Sort

end Go.Proofs.Ytillljojdnofgaa

/- A code without a place (the program's puncture). -/
namespace Go.Proofs.Ytillljojdnofgaa
open Go.RowKit Go.Sort

end Go.Proofs.Ytillljojdnofgaa

/- Puncture, with its check. -/
namespace Go.Proofs.Ytillljojdnofgaa
open Go.RowKit Go.Sort

end Go.Proofs.Ytillljojdnofgaa

/- Shorten, with its check. -/
namespace Go.Proofs.Ytillljojdnofgaa
open Go.RowKit Go.Sort

end Go.Proofs.Ytillljojdnofgaa

/- Plain mathematics: words with one number more, so that all together are 0. No Go text here. -/
namespace Go.Proofs.Ytillljojdnofgaa

end Go.Proofs.Ytillljojdnofgaa

/- Extend (the program's). -/
namespace Go.Proofs.Ytillljojdnofgaa
open Go.RowKit Go.Sort

set_option maxHeartbeats 1000000 in
set_option maxRecDepth 100000 in
theorem cloneI_any {b off n cap : Nat} {z : Nat → Int} {w : World} (h : SlZ (some ⟨b, off, none⟩) n z w) (hn : n ≤ 1000000) (hl : b < w.heap.size) :
    Calls Try.prog 78 #[.slice (some ⟨b, off, none⟩) n cap] w fun e w' => ∃ v, e = .returned v ∧ OwnI w.heap.size v (zl n z) w' ∧ Below w.heap.size w w' := by
  have HS : Hid (SlZ (some ⟨b, off, none⟩) n z w ∧ LtB (some ⟨b, off, none⟩) w.heap.size) := ⟨h, fun x hx => by cases hx; exact hl⟩
  clear h hl
  have hrn : ∀ w1 : World, Sem.run Try.prog (binOp BinOp.eql 22 (Value.slice (some ⟨b, off, none⟩) n cap) (Value.slice none 0 0)) w1 = .ok (.bool false) w1 := fun w1 => Lib.run_eql_slice_nil w1 _ 3 (some ⟨b, off, none⟩) n cap 0 0 Try.underlying22
  go_enter Try.func78, Try.ntmps78
  go_wp2_with (at_builtin; refine append_ints rfl _ _ rfl w.heap.size _ [] rfl (own_empty (two_new _) (Nat.le_refl _)) (some ⟨b, off, none⟩) n cap z rfl (HS.out.1.below ((Below.refl _ _).alloc (Nat.le_refl _) _) HS.out.2) (fun e => by cases e) (by simpa using hn) (by simp) ?_; intro v' w' hown hgrow)
  go_ret
  exact ⟨_, rfl, hown, ((Below.refl _ _).alloc (Nat.le_refl _) _).grown hgrow (by simp) (by intro k hk; have hk : some w.heap.size = some k := hk; cases hk; exact Nat.le_refl _)⟩

end Go.Proofs.Ytillljojdnofgaa

/- Plain mathematics: how many sets there are; Krawtchouk's numbers. No Go text here. -/
namespace Go.Proofs.Ytillljojdnofgaa

end Go.Proofs.Ytillljojdnofgaa

/- Weights: powers and numbers of sets (the program's power, over). -/
namespace Go.Proofs.Ytillljojdnofgaa
open Go.RowKit

end Go.Proofs.Ytillljojdnofgaa

/- Weights: Krawtchouk's numbers (the program's krawtchouk). -/
namespace Go.Proofs.Ytillljojdnofgaa
open Go.RowKit

end Go.Proofs.Ytillljojdnofgaa

/- Weights: Krawtchouk's numbers (the reference's Kraw). -/
namespace Go.Proofs.Ytillljojdnofgaa
open Go.RowKit

end Go.Proofs.Ytillljojdnofgaa

/- Plain mathematics: sets that are great and meet little are few (Johnson). No Go text here. -/
namespace Go.Proofs.Ytillljojdnofgaa

end Go.Proofs.Ytillljojdnofgaa
