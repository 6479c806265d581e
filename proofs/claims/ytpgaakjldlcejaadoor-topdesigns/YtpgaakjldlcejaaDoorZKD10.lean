/- Texts of ours, one behind the other: KD10 S31 S32 S33 KE1 KE2 KE3 KE4 KE5 KE6 KE7 KE8 KE9 KE10 KE11 KE12 KE13 KE14 KE15 S34 KH1 KH2 S35 KH6 KH7 KH8 S36 KH9 KH10 KI1 KI2 KI3 KI4 S43 KI5 KI6 KI7 KI8 KI9 KI10 KI11 KI12 KI13 KI14 KI15 KI16 KI17 LS1 KI18 KI19 KI20 KI21. -/
import Derived.Test.YtpgaakjldlcejaaDoorZG3
import Derived.Test.YtpgaakjldlcejaaDoorZS4
import Derived.Deep.OwnRows
import Derived.Test.YtpgaakjldlcejaaDoorZV7
import Derived.Test.YtpgaakjldlcejaaDoorZL10
import Derived.Shelf.Abstract
import Derived.Test.YtpgaakjldlcejaaDoorZL1
import Derived.Test.YtpgaakjldlcejaaDoorZW4
import Derived.Test.YtpgaakjldlcejaaDoorZA1
import Derived.Test.YtpgaakjldlcejaaDoorZR5
import Derived.Test.YtpgaakjldlcejaaDoorZX12
import Derived.Test.YtpgaakjldlcejaaDoorZI7
import Derived.Test.YtpgaakjldlcejaaDoorZU10
import Derived.Test.YtpgaakjldlcejaaDoorZK7
import Derived.Shelf.SlSortCmp.Whole1
import Derived.Shelf.SlGeneric
import Derived.Ground.SlsfProg
import Derived.Test.YtpgaakjldlcejaaDoorProg
import Derived.Shelf.SlSortCmp.NoneTotal
/- Steps of a region that draws its order: rows that are made; an append that makes a new block, since none of the old one is left. -/
namespace Go.Proofs.YtpgaakjldlcejaaDoor
open Go.RowKit Go.Sort

end Go.Proofs.YtpgaakjldlcejaaDoor

/- Plain mathematics of codes of few checks: what a round of peeling fills in, check by check from the first on or from the last on; rounds come to an end. No Go text here. -/
namespace Go.Proofs.YtpgaakjldlcejaaDoor
open Go.RowKit Go.Sort

end Go.Proofs.YtpgaakjldlcejaaDoor

/- Plain mathematics of codes of few checks: which checks may be; which places of a check are lost; sums modulo 2; which bits stand in the most odd checks. No Go text here. -/
namespace Go.Proofs.YtpgaakjldlcejaaDoor
open Go.RowKit Go.Sort

end Go.Proofs.YtpgaakjldlcejaaDoor

/- Plain mathematics of codes of few checks: which bits stand in the most odd checks; rounds of turning. No Go text here. -/
namespace Go.Proofs.YtpgaakjldlcejaaDoor
open Go.RowKit Go.Sort

end Go.Proofs.YtpgaakjldlcejaaDoor

/- Codes of few checks: which checks may be (the program's Check, the reference's ChecksMay). -/
namespace Go.Proofs.YtpgaakjldlcejaaDoor
open Go.RowKit Go.Sort

end Go.Proofs.YtpgaakjldlcejaaDoor

/- Codes of few checks: those places of a check for which something holds (those); the sum of its bits (sum). -/
namespace Go.Proofs.YtpgaakjldlcejaaDoor
open Go.RowKit Go.Sort

end Go.Proofs.YtpgaakjldlcejaaDoor

/- Words of bits (package bit); slices.Equal; slices.Max. -/
namespace Go.Proofs.YtpgaakjldlcejaaDoor
open Go.RowKit Go.Sort

end Go.Proofs.YtpgaakjldlcejaaDoor

/- Codes of few checks: the reference's ChecksMay and Bits. -/
namespace Go.Proofs.YtpgaakjldlcejaaDoor
open Go.RowKit Go.Sort

end Go.Proofs.YtpgaakjldlcejaaDoor

/- Codes of few checks: a round of peeling (the program's fill; printed by make/ke5.py). -/
namespace Go.Proofs.YtpgaakjldlcejaaDoor
open Go.RowKit Go.Sort

end Go.Proofs.YtpgaakjldlcejaaDoor

/- Codes of few checks: the program's Peel. -/
namespace Go.Proofs.YtpgaakjldlcejaaDoor
open Go.RowKit Go.Sort

end Go.Proofs.YtpgaakjldlcejaaDoor

/- Codes of few checks: the reference's alone and Peeled. -/
namespace Go.Proofs.YtpgaakjldlcejaaDoor
open Go.RowKit Go.Sort

end Go.Proofs.YtpgaakjldlcejaaDoor

/- Codes of few checks: the reference's Peeled. -/
namespace Go.Proofs.YtpgaakjldlcejaaDoor
open Go.RowKit Go.Sort

end Go.Proofs.YtpgaakjldlcejaaDoor

/- Codes of few checks: which checks are odd (the program's oddOnes); slices.Max. -/
namespace Go.Proofs.YtpgaakjldlcejaaDoor
open Go.RowKit Go.Sort

end Go.Proofs.YtpgaakjldlcejaaDoor

/- Codes of few checks: a round of turning (the program's turned). -/
namespace Go.Proofs.YtpgaakjldlcejaaDoor
open Go.RowKit Go.Sort

end Go.Proofs.YtpgaakjldlcejaaDoor

/- Codes of few checks: the program's Flip. -/
namespace Go.Proofs.YtpgaakjldlcejaaDoor
open Go.RowKit Go.Sort

end Go.Proofs.YtpgaakjldlcejaaDoor

/- Codes of few checks: what Flip says of what is wrong. -/
namespace Go.Proofs.YtpgaakjldlcejaaDoor
open Go.RowKit Go.Sort

end Go.Proofs.YtpgaakjldlcejaaDoor

/- Codes of few checks: what Stops says of checks that are none. -/
namespace Go.Proofs.YtpgaakjldlcejaaDoor
open Go.RowKit Go.Sort

end Go.Proofs.YtpgaakjldlcejaaDoor

/- Codes of few checks: the reference's odd checks. -/
namespace Go.Proofs.YtpgaakjldlcejaaDoor
open Go.RowKit Go.Sort

end Go.Proofs.YtpgaakjldlcejaaDoor

/- Codes of few checks: the reference's Bits. -/
namespace Go.Proofs.YtpgaakjldlcejaaDoor
open Go.RowKit Go.Sort

end Go.Proofs.YtpgaakjldlcejaaDoor

/- Gray's lists. No Go text here. -/
namespace Go.Proofs.YtpgaakjldlcejaaDoor

end Go.Proofs.YtpgaakjldlcejaaDoor

/- Gray's lists: which sizes may be (digits.Check, product, behind; the reference's SizesMay). -/
namespace Go.Proofs.YtpgaakjldlcejaaDoor
open Go.RowKit Go.Sort

end Go.Proofs.YtpgaakjldlcejaaDoor

/- Gray's lists: the reference's SizesMay, the program's Gray. -/
namespace Go.Proofs.YtpgaakjldlcejaaDoor
open Go.RowKit Go.Sort

theorem setO_bel {B b o : Nat} {u w : World} (h : Below B u w) (hb : B ≤ b) (v : Value) : Below B u (w.setCell ⟨b, o, none⟩ v) := h.setCell hb _

end Go.Proofs.YtpgaakjldlcejaaDoor

/- The least ring in which each word stands once. No Go text here. -/
namespace Go.Proofs.YtpgaakjldlcejaaDoor

end Go.Proofs.YtpgaakjldlcejaaDoor

/- Rings: the word behind a word (digits.next). -/
namespace Go.Proofs.YtpgaakjldlcejaaDoor
open Go.RowKit Go.Sort

end Go.Proofs.YtpgaakjldlcejaaDoor

/- Rings: how many values (the reference's RingMay), and the program's Ring. -/
namespace Go.Proofs.YtpgaakjldlcejaaDoor
open Go.RowKit Go.Sort

end Go.Proofs.YtpgaakjldlcejaaDoor

/- Rings: the program's Ring. -/
namespace Go.Proofs.YtpgaakjldlcejaaDoor
open Go.RowKit Go.Sort

end Go.Proofs.YtpgaakjldlcejaaDoor

/- Rings, edge by edge. No Go text here. -/
namespace Go.Proofs.YtpgaakjldlcejaaDoor

end Go.Proofs.YtpgaakjldlcejaaDoor

/- Rings: is the way around kept (the reference's goes)? -/
namespace Go.Proofs.YtpgaakjldlcejaaDoor
open Go.RowKit Go.Sort

end Go.Proofs.YtpgaakjldlcejaaDoor

/- Rings, edge by edge (the reference's RingOf). -/
namespace Go.Proofs.YtpgaakjldlcejaaDoor
open Go.RowKit Go.Sort

/-- Only block G has changed, among what there was. -/
structure OfG (G : Nat) (w w' : World) : Prop where
  same : ∀ g, g < w.heap.size → g ≠ G → w'.heap[g]? = w.heap[g]?
  bel : ∀ B u, Below B u w → B ≤ G → Below B u w'
theorem OfG.size {G : Nat} {w w' : World} (h : OfG G w w') : w.heap.size ≤ w'.heap.size := (h.bel 0 w (Below.refl _ _) (Nat.zero_le _)).size
theorem OfG.refl (G : Nat) (w : World) : OfG G w w := ⟨fun _ _ _ => rfl, fun _ _ h _ => h⟩
theorem OfG.trans {G : Nat} {a b c : World} (h : OfG G a b) (h2 : OfG G b c) : OfG G a c := ⟨fun g hg hn => (h2.same g (Nat.lt_of_lt_of_le hg h.size) hn).trans (h.same g hg hn), fun B u hb hB => h2.bel B u (h.bel B u hb hB) hB⟩
end Go.Proofs.YtpgaakjldlcejaaDoor

/- Words that may lose a bit: which numbers may be (gap.checkSum; the reference's GapArgs). -/
namespace Go.Proofs.YtpgaakjldlcejaaDoor
open Go.RowKit Go.Sort

end Go.Proofs.YtpgaakjldlcejaaDoor

/- Words that may lose a bit: the sum of the places of ones (gap.comesTo; the reference's Places). -/
namespace Go.Proofs.YtpgaakjldlcejaaDoor
open Go.RowKit Go.Sort

end Go.Proofs.YtpgaakjldlcejaaDoor

/- Words that may lose a bit: the reference's Places. -/
namespace Go.Proofs.YtpgaakjldlcejaaDoor
open Go.RowKit Go.Sort

end Go.Proofs.YtpgaakjldlcejaaDoor

/- Words that may lose a bit: the bits of a number (gap.bits). -/
namespace Go.Proofs.YtpgaakjldlcejaaDoor
open Go.RowKit Go.Sort

end Go.Proofs.YtpgaakjldlcejaaDoor

/- Words that lose a bit or get one: the sum of places tells them apart (Varshamov, Tenengolts, Levenshtein). No Go text here. -/
namespace Go.Proofs.YtpgaakjldlcejaaDoor

end Go.Proofs.YtpgaakjldlcejaaDoor

/- Words that may lose a bit: how far apart two are (gap.between). -/
namespace Go.Proofs.YtpgaakjldlcejaaDoor
open Go.RowKit Go.Sort

end Go.Proofs.YtpgaakjldlcejaaDoor

/- Words that may lose a bit: how far apart two are (the reference's Steps). -/
namespace Go.Proofs.YtpgaakjldlcejaaDoor
open Go.RowKit Go.Sort

end Go.Proofs.YtpgaakjldlcejaaDoor

/- Words that may lose a bit: gap.Check, the reference's GapMay, gap.Steps. -/
namespace Go.Proofs.YtpgaakjldlcejaaDoor
open Go.RowKit Go.Sort

end Go.Proofs.YtpgaakjldlcejaaDoor

/- Words that may lose a bit: lists of words; the reference's GapWords, the program's Words. -/
namespace Go.Proofs.YtpgaakjldlcejaaDoor
open Go.RowKit Go.Sort

/-- The word as a list of numbers. -/
def wz (n : Nat) (c : Nat → Nat) : List Int := zl n fun t => ((c t : Nat) : Int)
end Go.Proofs.YtpgaakjldlcejaaDoor

/- Words that may lose a bit: the program's Words. -/
namespace Go.Proofs.YtpgaakjldlcejaaDoor
open Go.RowKit Go.Sort

end Go.Proofs.YtpgaakjldlcejaaDoor

/- Words that may lose a bit: lists behind one another (slices.Concat of however many), the reference's Lost and Holds. -/
namespace Go.Proofs.YtpgaakjldlcejaaDoor
open Go.RowKit Go.Sort

end Go.Proofs.YtpgaakjldlcejaaDoor

/- Words that may lose a bit: all words that come of one by losing a bit (gap.shorter; printed by make/ki11.py). -/
namespace Go.Proofs.YtpgaakjldlcejaaDoor
open Go.RowKit Go.Sort

end Go.Proofs.YtpgaakjldlcejaaDoor

/- Words that may lose a bit: all words that become a word by losing one bit (gap.longer; printed by make/ki11.py). -/
namespace Go.Proofs.YtpgaakjldlcejaaDoor
open Go.RowKit Go.Sort

end Go.Proofs.YtpgaakjldlcejaaDoor

/- Words that may lose a bit: gap.sent, gap.Mend. -/
namespace Go.Proofs.YtpgaakjldlcejaaDoor
open Go.RowKit Go.Sort

end Go.Proofs.YtpgaakjldlcejaaDoor

/- Words that may lose a bit: the reference's GapMended (printed by make/ki14.py). -/
namespace Go.Proofs.YtpgaakjldlcejaaDoor
open Go.RowKit Go.Sort

end Go.Proofs.YtpgaakjldlcejaaDoor

/- Words that may lose a bit: what Mend tells is what GapMended tells; Mend's errors. -/
namespace Go.Proofs.YtpgaakjldlcejaaDoor
open Go.RowKit Go.Sort

end Go.Proofs.YtpgaakjldlcejaaDoor

/- Words in order: the reference's Below (of words of bits) and Sort (printed by make/ki16.py). -/
namespace Go.Proofs.YtpgaakjldlcejaaDoor
open Go.RowKit Go.Sort

theorem OfG.set {G o : Nat} {u : Value} {w w' : World} (h : OfG G w w') : OfG G w (w'.setCell ⟨G, o, none⟩ u) := ⟨fun g hg hn => (Below.heap_setCell _ _ _ _ hn).trans (h.same g hg hn), fun B v hb hB => setO_bel (h.bel B v hb hB) hB _⟩
theorem OfG.of {G : Nat} {w w' : World} (h : Below w.heap.size w w') (hG : G < w.heap.size) : OfG G w w' := ⟨fun g hg _ => h.block g hg, fun B u hb hB => hb.trans (h.mono (by omega))⟩
theorem OwnV.bounds {base G K cap : Nat} {l : List Value} {w : World} (h : OwnV base (.slice (some ⟨G, 0, none⟩) K cap) l w) : l.length = K ∧ K ≤ cap ∧ cap ≤ 9223372036854775807 ∧ base ≤ G ∧ G < w.heap.size := by
  rcases h.2 with ⟨h1, _⟩ | ⟨g, c, cur, hv, hg, hh, hle, hcm, hsz, _⟩
  · cases h1
  · cases hv
    exact ⟨rfl, hle, hcm, hg, lt_of_block hh⟩
theorem OwnV.at {base G K cap : Nat} {vs : Nat → Value} {w : World} (h : OwnV base (.slice (some ⟨G, 0, none⟩) K cap) (vl K vs) w) {j : Nat} (hj : j < K) : w.cell? ⟨G, j, none⟩ = some (vs j) ∧ w.frozen? ⟨G, j, none⟩ = false := by
  obtain ⟨ao, c, e, _, _, _, hc⟩ := h.open
  rw [vl_len] at e
  obtain ⟨g, e2, h2, h3⟩ := hc j (vs j) (vl_get K vs j hj)
  subst e2
  cases e
  exact ⟨h2, h3⟩
/-- Values and their numbers, from the i-th on. -/
def PLf (vs : Nat → Value) (ks : Nat → Nat) (i n : Nat) : List (Value × Nat) := (List.range n).map fun t => (vs (i + t), ks (i + t))
theorem PLf_congr {vs us : Nat → Value} {ks js : Nat → Nat} {i n : Nat} (h : ∀ t, t < n → vs (i + t) = us (i + t) ∧ ks (i + t) = js (i + t)) : PLf vs ks i n = PLf us js i n := List.map_congr_left fun t ht => by rw [(h t (List.mem_range.1 ht)).1, (h t (List.mem_range.1 ht)).2]
end Go.Proofs.YtpgaakjldlcejaaDoor

/- Words in order: the reference's Sort (printed by make/ki17.py). -/
namespace Go.Proofs.YtpgaakjldlcejaaDoor
open Go.RowKit Go.Sort

end Go.Proofs.YtpgaakjldlcejaaDoor

/- How the library sorts lists of lists here (slices.SortFunc): what the shelf asks of the program. -/
namespace Go.Proofs.YtpgaakjldlcejaaDoor
open Go.Shelf
def sortL_ren : Go.Shelf.Ren := ⟨fun | 6 => 15 | 15 => 32 | 14 => 31 | 28 => 52 | 29 => 53 | 20 => 44 | 21 => 45 | 22 => 46 | 23 => 47 | 24 => 48 | 25 => 49 | 26 => 50 | 27 => 51 | 46 => 69 | 47 => 70 | 48 => 71 | 49 => 72 | 50 => 73 | 57 => 90 | n => n, fun | 22 => 23 | 24 => 32 | 25 => 48 | 3 => 3 | 39 => 67 | 0 => 0 | 53 => 90 | 55 => 42 | 4 => 4 | 46 => 83 | 45 => 82 | 50 => 87 | 5 => 5 | 9 => 9 | 66 => 106 | 70 => 110 | 76 => 120 | 77 => 101 | n => n, fun | n => n⟩
theorem sortL : Go.Proofs.SlLaysF.n6 Tryd.prog sortL_ren := {
  mixed := by kernel_rfl
  f6 := ⟨Tryd.f15.name, by decide, Tryd.func15.trans (congrArg some (by kernel_rfl))⟩
  f14 := ⟨Tryd.f31.name, by decide, Tryd.func31.trans (congrArg some (by kernel_rfl))⟩
  f15 := Tryd.func32.trans (congrArg some (by kernel_rfl))
  f20 := ⟨Tryd.f44.name, by decide, Tryd.func44.trans (congrArg some (by kernel_rfl))⟩
  f21 := ⟨Tryd.f45.name, by decide, Tryd.func45.trans (congrArg some (by kernel_rfl))⟩
  f22 := ⟨Tryd.f46.name, by decide, Tryd.func46.trans (congrArg some (by kernel_rfl))⟩
  f23 := ⟨Tryd.f47.name, by decide, Tryd.func47.trans (congrArg some (by kernel_rfl))⟩
  f24 := ⟨Tryd.f48.name, by decide, Tryd.func48.trans (congrArg some (by kernel_rfl))⟩
  f25 := ⟨Tryd.f49.name, by decide, Tryd.func49.trans (congrArg some (by kernel_rfl))⟩
  f26 := ⟨Tryd.f50.name, by decide, Tryd.func50.trans (congrArg some (by kernel_rfl))⟩
  f27 := ⟨Tryd.f51.name, by decide, Tryd.func51.trans (congrArg some (by kernel_rfl))⟩
  f28 := Tryd.func52.trans (congrArg some (by kernel_rfl))
  f29 := Tryd.func53.trans (congrArg some (by kernel_rfl))
  f46 := ⟨Tryd.f69.name, by decide, Tryd.func69.trans (congrArg some (by kernel_rfl))⟩
  f47 := Tryd.func70.trans (congrArg some (by kernel_rfl))
  f48 := Tryd.func71.trans (congrArg some (by kernel_rfl))
  f49 := ⟨Tryd.f72.name, by decide, Tryd.func72.trans (congrArg some (by kernel_rfl))⟩
  f50 := ⟨Tryd.f73.name, by decide, Tryd.func73.trans (congrArg some (by kernel_rfl))⟩
  f57 := ⟨Tryd.f90.name, by decide, Tryd.func90.trans (congrArg some (by kernel_rfl))⟩
  t0 := Tryd.underlying0
  a0 := Tryd.isAgg0
  z0 := Tryd.sizeOf0
  v0 := Tryd.zeroValue0
  t3 := Tryd.underlying3
  a3 := Tryd.isAgg3
  z3 := Tryd.sizeOf3
  v3 := Tryd.zeroValue3
  t4 := Tryd.underlying4
  a4 := Tryd.isAgg4
  z4 := Tryd.sizeOf4
  v4 := Tryd.zeroValue4
  t5 := Tryd.underlying5
  a5 := Tryd.isAgg5
  z5 := Tryd.sizeOf5
  v5 := Tryd.zeroValue5
  t9 := Tryd.underlying9
  a9 := Tryd.isAgg9
  z9 := Tryd.sizeOf9
  v9 := Tryd.zeroValue9
  t22 := Tryd.underlying23
  a22 := Tryd.isAgg23
  z22 := Tryd.sizeOf23
  v22 := Tryd.zeroValue23
  a24 := Tryd.isAgg32
  z24 := Tryd.sizeOf32
  t25 := Tryd.underlying48
  a25 := Tryd.isAgg48
  z25 := Tryd.sizeOf48
  v25 := Tryd.zeroValue48
  t39 := Tryd.underlying67
  a39 := Tryd.isAgg67
  z39 := Tryd.sizeOf67
  v39 := Tryd.zeroValue67
  t45 := Tryd.underlying82
  a45 := Tryd.isAgg82
  z45 := Tryd.sizeOf82
  v45 := Tryd.zeroValue82
  t46 := Tryd.underlying83
  a46 := Tryd.isAgg83
  z46 := Tryd.sizeOf83
  v46 := Tryd.zeroValue83
  t50 := Tryd.underlying87
  a50 := Tryd.isAgg87
  z50 := Tryd.sizeOf87
  v50 := Tryd.zeroValue87
  t53 := Tryd.underlying90
  a53 := Tryd.isAgg90
  z53 := Tryd.sizeOf90
  v53 := Tryd.zeroValue90
  t55 := Tryd.underlying42
  a55 := Tryd.isAgg42
  z55 := Tryd.sizeOf42
  v55 := Tryd.zeroValue42
  t66 := Tryd.underlying106
  a66 := Tryd.isAgg106
  z66 := Tryd.sizeOf106
  v66 := Tryd.zeroValue106
  t70 := Tryd.underlying110
  a70 := Tryd.isAgg110
  z70 := Tryd.sizeOf110
  v70 := Tryd.zeroValue110
  t76 := Tryd.underlying120
  a76 := Tryd.isAgg120
  z76 := Tryd.sizeOf120
  v76 := Tryd.zeroValue120
  t77 := Tryd.underlying101
  a77 := Tryd.isAgg101
  z77 := Tryd.sizeOf101
  v77 := Tryd.zeroValue101 }

end Go.Proofs.YtpgaakjldlcejaaDoor

/- Words in order: slices.Compare, slices.SortFunc of words. -/
namespace Go.Proofs.YtpgaakjldlcejaaDoor
open Go.Shelf Go.RowKit Go.Lib Go.Sort

/-- Which is greater. -/
def cmpZ (x y : Int) : Int := if x < y then -1 else if y < x then 1 else 0
set_option maxHeartbeats 2000000 in
theorem nan_any (x : Int) (w : World) : Calls Tryd.prog 54 #[.int .i64 x] w fun e w' => e = .returned (.bool false) ∧ w' = w := by
  have z : (x != x) = false := by simp
  go_enter Tryd.func54, Tryd.ntmps54
  go_wp2
  go_ret
  exact ⟨rfl, rfl⟩
set_option maxHeartbeats 2000000 in
theorem cmpI_any (x y : Int) (w : World) : Calls Tryd.prog 33 #[.int .i64 x, .int .i64 y] w fun e w' => e = .returned (.int .i64 (cmpZ x y)) ∧ w' = w := by
  obtain ⟨R, hR⟩ : ∃ R, R = cmpZ x y := ⟨_, rfl⟩
  rw [← hR]
  have HN : Hid (∀ (x : Int) (w : World), Calls Tryd.prog 54 #[.int .i64 x] w fun e w' => e = .returned (.bool false) ∧ w' = w) := nan_any
  by_cases h1 : x < y
  · have HR : Hid (R = -1) := by show R = -1; rw [hR]; unfold cmpZ; rw [if_pos h1]
    clear hR
    go_enter Tryd.func33, Tryd.ntmps33
    go_wp2_with (go_at_call 54; refine (HN.out _ _).mono ?_; rintro e w' ⟨rfl, hw⟩; have hw := hw.symm; subst hw)
    go_ret
    exact ⟨by rw [HR.out]; rfl, rfl⟩
  · by_cases h2 : y < x
    · have HR : Hid (R = 1) := by show R = 1; rw [hR]; unfold cmpZ; rw [if_neg h1, if_pos h2]
      clear hR
      go_enter Tryd.func33, Tryd.ntmps33
      go_wp2_with (go_at_call 54; refine (HN.out _ _).mono ?_; rintro e w' ⟨rfl, hw⟩; have hw := hw.symm; subst hw)
      go_ret
      exact ⟨by rw [HR.out]; rfl, rfl⟩
    · have HR : Hid (R = 0) := by show R = 0; rw [hR]; unfold cmpZ; rw [if_neg h1, if_neg h2]
      clear hR
      go_enter Tryd.func33, Tryd.ntmps33
      go_wp2_with (go_at_call 54; refine (HN.out _ _).mono ?_; rintro e w' ⟨rfl, hw⟩; have hw := hw.symm; subst hw)
      go_ret
      exact ⟨by rw [HR.out]; rfl, rfl⟩

theorem sortWorld_ofG {α : Type} [Inhabited α] (enc : α → Value) {w : World} {blk off n : Nat} {dk : Array α} {os : Array Obj} (hb : blk < w.heap.size) : OfG blk w (sortWorld enc w blk off n dk os) := by
  have hsize : (sortWorld enc w blk off n dk os).heap.size = w.heap.size + os.size := by
    unfold sortWorld grow putRow mapBlock Sort.ahead
    simp
  have key : ∀ g, g < w.heap.size → g ≠ blk → (sortWorld enc w blk off n dk os).heap[g]? = w.heap[g]? := fun g hg hn => by
    unfold sortWorld grow putRow mapBlock Sort.ahead
    show (w.heap.modify blk _ ++ os)[g]? = _
    rw [Array.getElem?_append_left (by simpa using hg), Array.getElem?_modify, if_neg (fun e => hn e.symm)]
  exact ⟨key, fun B u hbl hB => ⟨hbl.os, hbl.tape, hbl.output, by rw [hsize]; have := hbl.size; omega, fun k hk => (key k (by omega) (by omega)).trans (hbl.block k hk)⟩⟩
end Go.Proofs.YtpgaakjldlcejaaDoor

/- Words in order: slices.SortFunc of words leaves them in order. -/
namespace Go.Proofs.YtpgaakjldlcejaaDoor
open Go.Shelf Go.RowKit Go.Lib Go.Sort

theorem enters_compare : ∀ args w, (callFunc 16 args).run Tryd.prog w = .ok (.enter 16 args) w :=
  enters_of Tryd.func16 (by kernel_rfl) rfl
end Go.Proofs.YtpgaakjldlcejaaDoor

/- Words that may lose a bit: all that come of one, in order, each once (gap.Ball). -/
namespace Go.Proofs.YtpgaakjldlcejaaDoor
open Go.Shelf Go.RowKit Go.Lib Go.Sort

theorem PLf_keys (vs : Nat → Value) (ks : Nat → Nat) (n : Nat) : (PLf vs ks 0 n).map Prod.snd = (List.range n).map ks := by
  unfold PLf
  rw [List.map_map]
  exact List.map_congr_left fun t _ => by show ks (0 + t) = ks t; rw [Nat.zero_add]
end Go.Proofs.YtpgaakjldlcejaaDoor

/- Words that may lose a bit: what the law asks, piece by piece. -/
namespace Go.Proofs.YtpgaakjldlcejaaDoor
open Go.Shelf Go.RowKit Go.Lib Go.Sort

end Go.Proofs.YtpgaakjldlcejaaDoor
