/- Texts of ours, one behind the other: S31 S32 S33 KE1 KE2 KE3 KE4 KE5 KE6 KE7 KE8 KE9 KE10 KE11 KE12 KE13 KE14 KE15 S34 KH1 KH2 S35 KH6 KH7 KH8 S36 KH9 KH10 KI1 KI2 KI3 KI4 S43 KI5 KI6 KI7 KI8 KI9 KI10 KI11 KI12 KI13 KI14 KI15 KI16 KI17 LS1 KI18 KI19 KI20. -/
import Derived.Test.YtdfneklnpghhmaaGreatDoorZKA6
import Derived.Test.YtdfneklnpghhmaaGreatDoorZV7
import Derived.Test.YtdfneklnpghhmaaGreatDoorZT5
import Derived.Shelf.Abstract
import Derived.Test.YtdfneklnpghhmaaGreatDoorZL1
import Derived.Test.YtdfneklnpghhmaaGreatDoorZK9
import Derived.Test.YtdfneklnpghhmaaGreatDoorZU2
import Derived.Test.YtdfneklnpghhmaaGreatDoorZA1
import Derived.Test.YtdfneklnpghhmaaGreatDoorZW9
import Derived.Test.YtdfneklnpghhmaaGreatDoorZL10
import Derived.Test.YtdfneklnpghhmaaGreatDoorZR9
import Derived.Test.YtdfneklnpghhmaaGreatDoorZR5
import Derived.Test.YtdfneklnpghhmaaGreatDoorZX12
import Derived.Test.YtdfneklnpghhmaaGreatDoorZI22
import Derived.Test.YtdfneklnpghhmaaGreatDoorZW5
import Derived.Test.YtdfneklnpghhmaaGreatDoorZI6
import Derived.Test.YtdfneklnpghhmaaGreatDoorZO2
import Derived.Shelf.SlSortCmp.Whole1
import Derived.Shelf.SlGeneric
import Derived.Ground.SlsfProg
import Derived.Test.YtdfneklnpghhmaaGreatDoorProg
import Derived.Shelf.SlSortCmp.NoneTotal
/- Plain mathematics of codes of few checks: what a round of peeling fills in, check by check from the first on or from the last on; rounds come to an end. No Go text here. -/
namespace Go.Proofs.YtdfneklnpghhmaaGreatDoor
open Go.RowKit Go.Sort

end Go.Proofs.YtdfneklnpghhmaaGreatDoor

/- Plain mathematics of codes of few checks: which checks may be; which places of a check are lost; sums modulo 2; which bits stand in the most odd checks. No Go text here. -/
namespace Go.Proofs.YtdfneklnpghhmaaGreatDoor
open Go.RowKit Go.Sort

end Go.Proofs.YtdfneklnpghhmaaGreatDoor

/- Plain mathematics of codes of few checks: which bits stand in the most odd checks; rounds of turning. No Go text here. -/
namespace Go.Proofs.YtdfneklnpghhmaaGreatDoor
open Go.RowKit Go.Sort

end Go.Proofs.YtdfneklnpghhmaaGreatDoor

/- Codes of few checks: which checks may be (the program's Check, the reference's ChecksMay). -/
namespace Go.Proofs.YtdfneklnpghhmaaGreatDoor
open Go.RowKit Go.Sort

end Go.Proofs.YtdfneklnpghhmaaGreatDoor

/- Codes of few checks: those places of a check for which something holds (those); the sum of its bits (sum). -/
namespace Go.Proofs.YtdfneklnpghhmaaGreatDoor
open Go.RowKit Go.Sort

end Go.Proofs.YtdfneklnpghhmaaGreatDoor

/- Words of bits (package bit); slices.Equal; slices.Max. -/
namespace Go.Proofs.YtdfneklnpghhmaaGreatDoor
open Go.RowKit Go.Sort

end Go.Proofs.YtdfneklnpghhmaaGreatDoor

/- Codes of few checks: the reference's ChecksMay and Bits. -/
namespace Go.Proofs.YtdfneklnpghhmaaGreatDoor
open Go.RowKit Go.Sort

end Go.Proofs.YtdfneklnpghhmaaGreatDoor

/- Codes of few checks: a round of peeling (the program's fill; printed by make/ke5.py). -/
namespace Go.Proofs.YtdfneklnpghhmaaGreatDoor
open Go.RowKit Go.Sort

end Go.Proofs.YtdfneklnpghhmaaGreatDoor

/- Codes of few checks: the program's Peel. -/
namespace Go.Proofs.YtdfneklnpghhmaaGreatDoor
open Go.RowKit Go.Sort

end Go.Proofs.YtdfneklnpghhmaaGreatDoor

/- Codes of few checks: the reference's alone and Peeled. -/
namespace Go.Proofs.YtdfneklnpghhmaaGreatDoor
open Go.RowKit Go.Sort

end Go.Proofs.YtdfneklnpghhmaaGreatDoor

/- Codes of few checks: the reference's Peeled. -/
namespace Go.Proofs.YtdfneklnpghhmaaGreatDoor
open Go.RowKit Go.Sort

end Go.Proofs.YtdfneklnpghhmaaGreatDoor

/- Codes of few checks: which checks are odd (the program's oddOnes); slices.Max. -/
namespace Go.Proofs.YtdfneklnpghhmaaGreatDoor
open Go.RowKit Go.Sort

end Go.Proofs.YtdfneklnpghhmaaGreatDoor

/- Codes of few checks: a round of turning (the program's turned). -/
namespace Go.Proofs.YtdfneklnpghhmaaGreatDoor
open Go.RowKit Go.Sort

end Go.Proofs.YtdfneklnpghhmaaGreatDoor

/- Codes of few checks: the program's Flip. -/
namespace Go.Proofs.YtdfneklnpghhmaaGreatDoor
open Go.RowKit Go.Sort

end Go.Proofs.YtdfneklnpghhmaaGreatDoor

/- Codes of few checks: what Flip says of what is wrong. -/
namespace Go.Proofs.YtdfneklnpghhmaaGreatDoor
open Go.RowKit Go.Sort

end Go.Proofs.YtdfneklnpghhmaaGreatDoor

/- Codes of few checks: what Stops says of checks that are none. -/
namespace Go.Proofs.YtdfneklnpghhmaaGreatDoor
open Go.RowKit Go.Sort

end Go.Proofs.YtdfneklnpghhmaaGreatDoor

/- Codes of few checks: the reference's odd checks. -/
namespace Go.Proofs.YtdfneklnpghhmaaGreatDoor
open Go.RowKit Go.Sort

end Go.Proofs.YtdfneklnpghhmaaGreatDoor

/- Codes of few checks: the reference's Bits. -/
namespace Go.Proofs.YtdfneklnpghhmaaGreatDoor
open Go.RowKit Go.Sort

end Go.Proofs.YtdfneklnpghhmaaGreatDoor

/- Gray's lists. No Go text here. -/
namespace Go.Proofs.YtdfneklnpghhmaaGreatDoor

end Go.Proofs.YtdfneklnpghhmaaGreatDoor

/- Gray's lists: which sizes may be (digits.Check, product, behind; the reference's SizesMay). -/
namespace Go.Proofs.YtdfneklnpghhmaaGreatDoor
open Go.RowKit Go.Sort

end Go.Proofs.YtdfneklnpghhmaaGreatDoor

/- Gray's lists: the reference's SizesMay, the program's Gray. -/
namespace Go.Proofs.YtdfneklnpghhmaaGreatDoor
open Go.RowKit Go.Sort

theorem setO_bel {B b o : Nat} {u w : World} (h : Below B u w) (hb : B ≤ b) (v : Value) : Below B u (w.setCell ⟨b, o, none⟩ v) := h.setCell hb _

end Go.Proofs.YtdfneklnpghhmaaGreatDoor

/- The least ring in which each word stands once. No Go text here. -/
namespace Go.Proofs.YtdfneklnpghhmaaGreatDoor

end Go.Proofs.YtdfneklnpghhmaaGreatDoor

/- Rings: the word behind a word (digits.next). -/
namespace Go.Proofs.YtdfneklnpghhmaaGreatDoor
open Go.RowKit Go.Sort

end Go.Proofs.YtdfneklnpghhmaaGreatDoor

/- Rings: how many values (the reference's RingMay), and the program's Ring. -/
namespace Go.Proofs.YtdfneklnpghhmaaGreatDoor
open Go.RowKit Go.Sort

end Go.Proofs.YtdfneklnpghhmaaGreatDoor

/- Rings: the program's Ring. -/
namespace Go.Proofs.YtdfneklnpghhmaaGreatDoor
open Go.RowKit Go.Sort

end Go.Proofs.YtdfneklnpghhmaaGreatDoor

/- Rings, edge by edge. No Go text here. -/
namespace Go.Proofs.YtdfneklnpghhmaaGreatDoor

end Go.Proofs.YtdfneklnpghhmaaGreatDoor

/- Rings: is the way around kept (the reference's goes)? -/
namespace Go.Proofs.YtdfneklnpghhmaaGreatDoor
open Go.RowKit Go.Sort

end Go.Proofs.YtdfneklnpghhmaaGreatDoor

/- Rings, edge by edge (the reference's RingOf). -/
namespace Go.Proofs.YtdfneklnpghhmaaGreatDoor
open Go.RowKit Go.Sort

/-- Only block G has changed, among what there was. -/
structure OfG (G : Nat) (w w' : World) : Prop where
  same : ∀ g, g < w.heap.size → g ≠ G → w'.heap[g]? = w.heap[g]?
  bel : ∀ B u, Below B u w → B ≤ G → Below B u w'
theorem OfG.size {G : Nat} {w w' : World} (h : OfG G w w') : w.heap.size ≤ w'.heap.size := (h.bel 0 w (Below.refl _ _) (Nat.zero_le _)).size
theorem OfG.refl (G : Nat) (w : World) : OfG G w w := ⟨fun _ _ _ => rfl, fun _ _ h _ => h⟩
theorem OfG.trans {G : Nat} {a b c : World} (h : OfG G a b) (h2 : OfG G b c) : OfG G a c := ⟨fun g hg hn => (h2.same g (Nat.lt_of_lt_of_le hg h.size) hn).trans (h.same g hg hn), fun B u hb hB => h2.bel B u (h.bel B u hb hB) hB⟩
end Go.Proofs.YtdfneklnpghhmaaGreatDoor

/- Words that may lose a bit: which numbers may be (gap.checkSum; the reference's GapArgs). -/
namespace Go.Proofs.YtdfneklnpghhmaaGreatDoor
open Go.RowKit Go.Sort

end Go.Proofs.YtdfneklnpghhmaaGreatDoor

/- Words that may lose a bit: the sum of the places of ones (gap.comesTo; the reference's Places). -/
namespace Go.Proofs.YtdfneklnpghhmaaGreatDoor
open Go.RowKit Go.Sort

end Go.Proofs.YtdfneklnpghhmaaGreatDoor

/- Words that may lose a bit: the reference's Places. -/
namespace Go.Proofs.YtdfneklnpghhmaaGreatDoor
open Go.RowKit Go.Sort

end Go.Proofs.YtdfneklnpghhmaaGreatDoor

/- Words that may lose a bit: the bits of a number (gap.bits). -/
namespace Go.Proofs.YtdfneklnpghhmaaGreatDoor
open Go.RowKit Go.Sort

end Go.Proofs.YtdfneklnpghhmaaGreatDoor

/- Words that lose a bit or get one: the sum of places tells them apart (Varshamov, Tenengolts, Levenshtein). No Go text here. -/
namespace Go.Proofs.YtdfneklnpghhmaaGreatDoor

end Go.Proofs.YtdfneklnpghhmaaGreatDoor

/- Words that may lose a bit: how far apart two are (gap.between). -/
namespace Go.Proofs.YtdfneklnpghhmaaGreatDoor
open Go.RowKit Go.Sort

end Go.Proofs.YtdfneklnpghhmaaGreatDoor

/- Words that may lose a bit: how far apart two are (the reference's Steps). -/
namespace Go.Proofs.YtdfneklnpghhmaaGreatDoor
open Go.RowKit Go.Sort

end Go.Proofs.YtdfneklnpghhmaaGreatDoor

/- Words that may lose a bit: gap.Check, the reference's GapMay, gap.Steps. -/
namespace Go.Proofs.YtdfneklnpghhmaaGreatDoor
open Go.RowKit Go.Sort

end Go.Proofs.YtdfneklnpghhmaaGreatDoor

/- Words that may lose a bit: lists of words; the reference's GapWords, the program's Words. -/
namespace Go.Proofs.YtdfneklnpghhmaaGreatDoor
open Go.RowKit Go.Sort

/-- The word as a list of numbers. -/
def wz (n : Nat) (c : Nat → Nat) : List Int := zl n fun t => ((c t : Nat) : Int)
end Go.Proofs.YtdfneklnpghhmaaGreatDoor

/- Words that may lose a bit: the program's Words. -/
namespace Go.Proofs.YtdfneklnpghhmaaGreatDoor
open Go.RowKit Go.Sort

end Go.Proofs.YtdfneklnpghhmaaGreatDoor

/- Words that may lose a bit: lists behind one another (slices.Concat of however many), the reference's Lost and Holds. -/
namespace Go.Proofs.YtdfneklnpghhmaaGreatDoor
open Go.RowKit Go.Sort

end Go.Proofs.YtdfneklnpghhmaaGreatDoor

/- Words that may lose a bit: all words that come of one by losing a bit (gap.shorter; printed by make/ki11.py). -/
namespace Go.Proofs.YtdfneklnpghhmaaGreatDoor
open Go.RowKit Go.Sort

end Go.Proofs.YtdfneklnpghhmaaGreatDoor

/- Words that may lose a bit: all words that become a word by losing one bit (gap.longer; printed by make/ki11.py). -/
namespace Go.Proofs.YtdfneklnpghhmaaGreatDoor
open Go.RowKit Go.Sort

end Go.Proofs.YtdfneklnpghhmaaGreatDoor

/- Words that may lose a bit: gap.sent, gap.Mend. -/
namespace Go.Proofs.YtdfneklnpghhmaaGreatDoor
open Go.RowKit Go.Sort

end Go.Proofs.YtdfneklnpghhmaaGreatDoor

/- Words that may lose a bit: the reference's GapMended (printed by make/ki14.py). -/
namespace Go.Proofs.YtdfneklnpghhmaaGreatDoor
open Go.RowKit Go.Sort

theorem wz_len (n : Nat) (c : Nat → Nat) : (wz n c).length = n := zl_len _ _
end Go.Proofs.YtdfneklnpghhmaaGreatDoor

/- Words that may lose a bit: what Mend tells is what GapMended tells; Mend's errors. -/
namespace Go.Proofs.YtdfneklnpghhmaaGreatDoor
open Go.RowKit Go.Sort

theorem wz_eq {n : Nat} {c d : Nat → Nat} : wz n c = wz n d ↔ ∀ j, j < n → c j = d j := by
  constructor
  · intro h j hj
    have h1 := congrArg (fun l => l[j]?) h
    have h1 : (zl n fun t => ((c t : Nat) : Int))[j]? = (zl n fun t => ((d t : Nat) : Int))[j]? := h1
    rw [zl_get _ _ _ hj, zl_get _ _ _ hj] at h1
    have h2 := Option.some.inj h1
    omega
  · exact fun h => zl_congr fun j hj => by show ((c j : Nat) : Int) = ((d j : Nat) : Int); rw [h j hj]
end Go.Proofs.YtdfneklnpghhmaaGreatDoor

/- Words in order: the reference's Below (of words of bits) and Sort (printed by make/ki16.py). -/
namespace Go.Proofs.YtdfneklnpghhmaaGreatDoor
open Go.RowKit Go.Sort

theorem OfG.set {G o : Nat} {u : Value} {w w' : World} (h : OfG G w w') : OfG G w (w'.setCell ⟨G, o, none⟩ u) := ⟨fun g hg hn => (Below.heap_setCell _ _ _ _ hn).trans (h.same g hg hn), fun B v hb hB => setO_bel (h.bel B v hb hB) hB _⟩
theorem OfG.of {G : Nat} {w w' : World} (h : Below w.heap.size w w') (hG : G < w.heap.size) : OfG G w w' := ⟨fun g hg _ => h.block g hg, fun B u hb hB => hb.trans (h.mono (by omega))⟩
theorem OfG.far {G g : Nat} {w w2 w3 : World} (h : OfG G w w2) (h2 : OfG g w2 w3) (hg : w.heap.size ≤ g) (hG : G < w.heap.size) : OfG G w w3 := ⟨fun x hx hn => (h2.same x (Nat.lt_of_lt_of_le hx h.size) (by omega)).trans (h.same x hx hn), fun B u hb hB => h2.bel B u (h.bel B u hb hB) (by omega)⟩
theorem OwnV.bounds {base G K cap : Nat} {l : List Value} {w : World} (h : OwnV base (.slice (some ⟨G, 0, none⟩) K cap) l w) : l.length = K ∧ K ≤ cap ∧ cap ≤ 9223372036854775807 ∧ base ≤ G ∧ G < w.heap.size := by
  rcases h.2 with ⟨h1, _⟩ | ⟨g, c, cur, hv, hg, hh, hle, hcm, hsz, _⟩
  · cases h1
  · cases hv
    exact ⟨rfl, hle, hcm, hg, lt_of_block hh⟩
/-- 'append(l, x...)', l a slice of slices of the call's own. -/
theorem append_sln {ops : Array Oper} {rest : List Oper} {o : Oper} {a : Act} {w : World} {Q : Exit → Act → World → Prop} (hgd : o.guard = none) (s x : Operand)
    (ho : o.op = .call { callee := .builtin .append, args := #[s, x], argTypes := #[22, 22] })
    (base : Nat) (v : Value) (l : List Value) (hs : a.eval s = v) (hown : OwnV base v l w) (g off n sc : Nat) (vs : Nat → Value) (hx : a.eval x = .slice (some ⟨g, off, none⟩) n sc) (hS : SlV (some ⟨g, off, none⟩) n vs w) (hone : ∀ j, j < n → (vs j).oneCell' = true)
    (hlen : l.length + n ≤ 1000000) (hbase : base ≤ w.heap.size)
    (h : ∀ v' w', OwnV base v' (l ++ vl n vs) w' → w.grownBy w' v.ownBlock → wpList Tryz.prog ops Q rest (a.put o.dst v') w') : wpList Tryz.prog ops Q (o :: rest) a w := by
  obtain ⟨i0, hi, hz0, hz1, hz2⟩ := info_parts Tryz.infoSl
  refine wpList_append_own _ hgd s x 22 ho base 37 i0 (.slice none 0 0) 1 24 Tryz.underlying22 hi hz0 hz1 hz2 rfl (by decide) v l.length _ hs hown ⟨g, off, none⟩ n sc (vl n vs) hx (by rw [vl_len]; omega) ?_ ?_ ?_ ?_ hbase ?_
  · intro j u hj
    have hj' : j < n := by
      have := (List.getElem?_eq_some_iff.1 hj).1
      rwa [vl_len] at this
    rw [vl_get n vs j hj'] at hj
    cases hj
    obtain ⟨b, of2, e, hc⟩ := hS j hj'
    cases e
    rw [add_off]; exact hc
  · intro u hu
    obtain ⟨k, hk, rfl⟩ := List.mem_map.1 hu
    exact hone k (List.mem_range.1 hk)
  · unfold maxLen; omega
  · omega
  · intro v' w' hown' hgrow _
    refine h v' w' ?_ hgrow
    unfold OwnV
    rw [List.length_append, vl_len]
    exact hown'
theorem OwnV.slv {base G K cap : Nat} {vs : Nat → Value} {w : World} (h : OwnV base (.slice (some ⟨G, 0, none⟩) K cap) (vl K vs) w) : SlV (some ⟨G, 0, none⟩) K vs w := fun j hj => by
  obtain ⟨ao, c, e, _, _, _, hc⟩ := h.open
  rw [vl_len] at e
  obtain ⟨g, e2, h2, _⟩ := hc j (vs j) (vl_get K vs j hj)
  subst e2
  cases e
  exact ⟨G, 0, rfl, by rw [Nat.zero_add]; exact h2⟩
theorem OwnV.at {base G K cap : Nat} {vs : Nat → Value} {w : World} (h : OwnV base (.slice (some ⟨G, 0, none⟩) K cap) (vl K vs) w) {j : Nat} (hj : j < K) : w.cell? ⟨G, j, none⟩ = some (vs j) ∧ w.frozen? ⟨G, j, none⟩ = false := by
  obtain ⟨ao, c, e, _, _, _, hc⟩ := h.open
  rw [vl_len] at e
  obtain ⟨g, e2, h2, h3⟩ := hc j (vs j) (vl_get K vs j hj)
  subst e2
  cases e
  exact ⟨h2, h3⟩
/-- Values and their numbers, from the i-th on. -/
def PLf (vs : Nat → Value) (ks : Nat → Nat) (i n : Nat) : List (Value × Nat) := (List.range n).map fun t => (vs (i + t), ks (i + t))
theorem PLf_cons (vs : Nat → Value) (ks : Nat → Nat) (i n : Nat) : PLf vs ks i (n + 1) = (vs i, ks i) :: PLf vs ks (i + 1) n := by
  unfold PLf
  rw [List.range_succ_eq_map, List.map_cons, List.map_map]
  congr 1
  refine List.map_congr_left fun t _ => ?_
  show (vs (i + (t + 1)), ks (i + (t + 1))) = _
  rw [show i + (t + 1) = i + 1 + t by omega]
theorem PLf_snoc (vs : Nat → Value) (ks : Nat → Nat) (i n : Nat) : PLf vs ks i (n + 1) = PLf vs ks i n ++ [(vs (i + n), ks (i + n))] := by
  unfold PLf
  rw [List.range_succ, List.map_append]; rfl
theorem PLf_congr {vs us : Nat → Value} {ks js : Nat → Nat} {i n : Nat} (h : ∀ t, t < n → vs (i + t) = us (i + t) ∧ ks (i + t) = js (i + t)) : PLf vs ks i n = PLf us js i n := List.map_congr_left fun t ht => by rw [(h t (List.mem_range.1 ht)).1, (h t (List.mem_range.1 ht)).2]
theorem PLf_split (vs : Nat → Value) (ks : Nat → Nat) (h K : Nat) (hh : h ≤ K) : PLf vs ks 0 K = PLf vs ks 0 h ++ PLf (fun t => vs (h + t)) (fun t => ks (h + t)) 0 (K - h) := by
  unfold PLf
  rw [show K = h + (K - h) by omega, List.range_add, List.map_append, List.map_map]
  congr 1
  rw [show h + (K - h) - h = K - h by omega]
  refine List.map_congr_left fun t _ => ?_
  show (vs (0 + (h + t)), ks (0 + (h + t))) = (vs (h + (0 + t)), ks (h + (0 + t)))
  rw [Nat.zero_add, Nat.zero_add]
/-- How far two rows in order are put together. -/
structure MgI (K h i k n : Nat) (va vb us : Nat → Value) (ka kb js : Nat → Nat) : Prop where
  sum : i + k = n
  ih : i ≤ h
  kh : k ≤ K - h
  perm : (PLf us js 0 n ++ (PLf va ka i (h - i) ++ PLf vb kb k (K - h - k))).Perm (PLf va ka 0 h ++ PLf vb kb 0 (K - h))
  ord : ∀ s t, s < t → t < n → js s ≤ js t
  la : ∀ s t, s < n → i ≤ t → t < h → js s ≤ ka t
  lb : ∀ s t, s < n → k ≤ t → t < K - h → js s ≤ kb t
theorem MgI.left {K h i k n : Nat} {va vb us : Nat → Value} {ka kb js : Nat → Nat} (H : MgI K h i k n va vb us ka kb js) (hi : i < h) (oa : ∀ s t, s < t → t < h → ka s ≤ ka t) (hb : ∀ t, k ≤ t → t < K - h → ka i ≤ kb t) : MgI K h (i + 1) k (n + 1) va vb (fun t => if t = n then va i else us t) ka kb (fun t => if t = n then ka i else js t) := by
  refine ⟨by have := H.sum; omega, by omega, H.kh, ?_, fun s t hs ht => ?_, fun s t hs h1 h2 => ?_, fun s t hs h1 h2 => ?_⟩
  · have e := H.perm
    rw [show h - i = (h - (i + 1)) + 1 by omega, PLf_cons] at e
    rw [PLf_snoc, PLf_congr (us := us) (js := js) (fun t ht => by simp only [Nat.zero_add]; rw [if_neg (by omega), if_neg (by omega)]; exact ⟨rfl, rfl⟩)]
    simp only [Nat.zero_add, if_true]
    rw [List.append_assoc]
    exact e
  · show (if s = n then ka i else js s) ≤ if t = n then ka i else js t
    rw [if_neg (by omega)]
    by_cases e : t = n
    · rw [if_pos e]; exact H.la s i (by omega) (Nat.le_refl _) hi
    · rw [if_neg e]; exact H.ord s t hs (by omega)
  · show (if s = n then ka i else js s) ≤ ka t
    by_cases e : s = n
    · rw [if_pos e]; exact oa i t (by omega) h2
    · rw [if_neg e]; exact H.la s t (by omega) (by omega) h2
  · show (if s = n then ka i else js s) ≤ kb t
    by_cases e : s = n
    · rw [if_pos e]; exact hb t h1 h2
    · rw [if_neg e]; exact H.lb s t (by omega) h1 h2
theorem MgI.right {K h i k n : Nat} {va vb us : Nat → Value} {ka kb js : Nat → Nat} (H : MgI K h i k n va vb us ka kb js) (hk : k < K - h) (ob : ∀ s t, s < t → t < K - h → kb s ≤ kb t) (ha : ∀ t, i ≤ t → t < h → kb k ≤ ka t) : MgI K h i (k + 1) (n + 1) va vb (fun t => if t = n then vb k else us t) ka kb (fun t => if t = n then kb k else js t) := by
  refine ⟨by have := H.sum; omega, H.ih, by omega, ?_, fun s t hs ht => ?_, fun s t hs h1 h2 => ?_, fun s t hs h1 h2 => ?_⟩
  · have e := H.perm
    rw [show K - h - k = (K - h - (k + 1)) + 1 by omega, PLf_cons] at e
    rw [PLf_snoc, PLf_congr (us := us) (js := js) (fun t ht => by simp only [Nat.zero_add]; rw [if_neg (by omega), if_neg (by omega)]; exact ⟨rfl, rfl⟩)]
    simp only [Nat.zero_add, if_true]
    rw [List.append_assoc]
    refine List.Perm.trans (List.Perm.append_left _ ?_) e
    rw [List.singleton_append]
    exact List.perm_middle.symm
  · show (if s = n then kb k else js s) ≤ if t = n then kb k else js t
    rw [if_neg (by omega)]
    by_cases e : t = n
    · rw [if_pos e]; exact H.lb s k (by omega) (Nat.le_refl _) hk
    · rw [if_neg e]; exact H.ord s t hs (by omega)
  · show (if s = n then kb k else js s) ≤ ka t
    by_cases e : s = n
    · rw [if_pos e]; exact ha t h1 h2
    · rw [if_neg e]; exact H.la s t (by omega) h1 h2
  · show (if s = n then kb k else js s) ≤ kb t
    by_cases e : s = n
    · rw [if_pos e]; exact ob k t (by omega) h2
    · rw [if_neg e]; exact H.lb s t (by omega) (by omega) h2
end Go.Proofs.YtdfneklnpghhmaaGreatDoor

/- Words in order: the reference's Sort (printed by make/ki17.py). -/
namespace Go.Proofs.YtdfneklnpghhmaaGreatDoor
open Go.RowKit Go.Sort

end Go.Proofs.YtdfneklnpghhmaaGreatDoor

/- How the library sorts lists of lists here (slices.SortFunc): what the shelf asks of the program. -/
namespace Go.Proofs.YtdfneklnpghhmaaGreatDoor
open Go.Shelf
def sortL_ren : Go.Shelf.Ren := ⟨fun | 6 => 31 | 15 => 55 | 14 => 54 | 28 => 82 | 29 => 83 | 20 => 74 | 21 => 75 | 22 => 76 | 23 => 77 | 24 => 78 | 25 => 79 | 26 => 80 | 27 => 81 | 46 => 100 | 47 => 101 | 48 => 102 | 49 => 103 | 50 => 104 | 57 => 119 | n => n, fun | 22 => 22 | 24 => 37 | 25 => 62 | 3 => 3 | 39 => 83 | 0 => 0 | 53 => 112 | 55 => 56 | 4 => 4 | 46 => 105 | 45 => 104 | 50 => 109 | 5 => 5 | 9 => 9 | 66 => 124 | 70 => 128 | 76 => 135 | 77 => 84 | n => n, fun | n => n⟩
theorem sortL : Go.Proofs.SlLaysF.n6 Tryz.prog sortL_ren := {
  mixed := by kernel_rfl
  f6 := ⟨Tryz.f31.name, by decide, Tryz.func31.trans (congrArg some (by kernel_rfl))⟩
  f14 := ⟨Tryz.f54.name, by decide, Tryz.func54.trans (congrArg some (by kernel_rfl))⟩
  f15 := Tryz.func55.trans (congrArg some (by kernel_rfl))
  f20 := ⟨Tryz.f74.name, by decide, Tryz.func74.trans (congrArg some (by kernel_rfl))⟩
  f21 := ⟨Tryz.f75.name, by decide, Tryz.func75.trans (congrArg some (by kernel_rfl))⟩
  f22 := ⟨Tryz.f76.name, by decide, Tryz.func76.trans (congrArg some (by kernel_rfl))⟩
  f23 := ⟨Tryz.f77.name, by decide, Tryz.func77.trans (congrArg some (by kernel_rfl))⟩
  f24 := ⟨Tryz.f78.name, by decide, Tryz.func78.trans (congrArg some (by kernel_rfl))⟩
  f25 := ⟨Tryz.f79.name, by decide, Tryz.func79.trans (congrArg some (by kernel_rfl))⟩
  f26 := ⟨Tryz.f80.name, by decide, Tryz.func80.trans (congrArg some (by kernel_rfl))⟩
  f27 := ⟨Tryz.f81.name, by decide, Tryz.func81.trans (congrArg some (by kernel_rfl))⟩
  f28 := Tryz.func82.trans (congrArg some (by kernel_rfl))
  f29 := Tryz.func83.trans (congrArg some (by kernel_rfl))
  f46 := ⟨Tryz.f100.name, by decide, Tryz.func100.trans (congrArg some (by kernel_rfl))⟩
  f47 := Tryz.func101.trans (congrArg some (by kernel_rfl))
  f48 := Tryz.func102.trans (congrArg some (by kernel_rfl))
  f49 := ⟨Tryz.f103.name, by decide, Tryz.func103.trans (congrArg some (by kernel_rfl))⟩
  f50 := ⟨Tryz.f104.name, by decide, Tryz.func104.trans (congrArg some (by kernel_rfl))⟩
  f57 := ⟨Tryz.f119.name, by decide, Tryz.func119.trans (congrArg some (by kernel_rfl))⟩
  t0 := Tryz.underlying0
  a0 := Tryz.isAgg0
  z0 := Tryz.sizeOf0
  v0 := Tryz.zeroValue0
  t3 := Tryz.underlying3
  a3 := Tryz.isAgg3
  z3 := Tryz.sizeOf3
  v3 := Tryz.zeroValue3
  t4 := Tryz.underlying4
  a4 := Tryz.isAgg4
  z4 := Tryz.sizeOf4
  v4 := Tryz.zeroValue4
  t5 := Tryz.underlying5
  a5 := Tryz.isAgg5
  z5 := Tryz.sizeOf5
  v5 := Tryz.zeroValue5
  t9 := Tryz.underlying9
  a9 := Tryz.isAgg9
  z9 := Tryz.sizeOf9
  v9 := Tryz.zeroValue9
  t22 := Tryz.underlying22
  a22 := Tryz.isAgg22
  z22 := Tryz.sizeOf22
  v22 := Tryz.zeroValue22
  a24 := Tryz.isAgg37
  z24 := Tryz.sizeOf37
  t25 := Tryz.underlying62
  a25 := Tryz.isAgg62
  z25 := Tryz.sizeOf62
  v25 := Tryz.zeroValue62
  t39 := Tryz.underlying83
  a39 := Tryz.isAgg83
  z39 := Tryz.sizeOf83
  v39 := Tryz.zeroValue83
  t45 := Tryz.underlying104
  a45 := Tryz.isAgg104
  z45 := Tryz.sizeOf104
  v45 := Tryz.zeroValue104
  t46 := Tryz.underlying105
  a46 := Tryz.isAgg105
  z46 := Tryz.sizeOf105
  v46 := Tryz.zeroValue105
  t50 := Tryz.underlying109
  a50 := Tryz.isAgg109
  z50 := Tryz.sizeOf109
  v50 := Tryz.zeroValue109
  t53 := Tryz.underlying112
  a53 := Tryz.isAgg112
  z53 := Tryz.sizeOf112
  v53 := Tryz.zeroValue112
  t55 := Tryz.underlying56
  a55 := Tryz.isAgg56
  z55 := Tryz.sizeOf56
  v55 := Tryz.zeroValue56
  t66 := Tryz.underlying124
  a66 := Tryz.isAgg124
  z66 := Tryz.sizeOf124
  v66 := Tryz.zeroValue124
  t70 := Tryz.underlying128
  a70 := Tryz.isAgg128
  z70 := Tryz.sizeOf128
  v70 := Tryz.zeroValue128
  t76 := Tryz.underlying135
  a76 := Tryz.isAgg135
  z76 := Tryz.sizeOf135
  v76 := Tryz.zeroValue135
  t77 := Tryz.underlying84
  a77 := Tryz.isAgg84
  z77 := Tryz.sizeOf84
  v77 := Tryz.zeroValue84 }

end Go.Proofs.YtdfneklnpghhmaaGreatDoor

/- Words in order: slices.Compare, slices.SortFunc of words. -/
namespace Go.Proofs.YtdfneklnpghhmaaGreatDoor
open Go.Shelf Go.RowKit Go.Lib Go.Sort

/-- Which is greater. -/
def cmpZ (x y : Int) : Int := if x < y then -1 else if y < x then 1 else 0
set_option maxHeartbeats 2000000 in
theorem nan_any (x : Int) (w : World) : Calls Tryz.prog 84 #[.int .i64 x] w fun e w' => e = .returned (.bool false) ∧ w' = w := by
  have z : (x != x) = false := by simp
  go_enter Tryz.func84, Tryz.ntmps84
  go_wp2
  go_ret
  exact ⟨rfl, rfl⟩
set_option maxHeartbeats 2000000 in
theorem cmpI_any (x y : Int) (w : World) : Calls Tryz.prog 56 #[.int .i64 x, .int .i64 y] w fun e w' => e = .returned (.int .i64 (cmpZ x y)) ∧ w' = w := by
  obtain ⟨R, hR⟩ : ∃ R, R = cmpZ x y := ⟨_, rfl⟩
  rw [← hR]
  have HN : Hid (∀ (x : Int) (w : World), Calls Tryz.prog 84 #[.int .i64 x] w fun e w' => e = .returned (.bool false) ∧ w' = w) := nan_any
  by_cases h1 : x < y
  · have HR : Hid (R = -1) := by show R = -1; rw [hR]; unfold cmpZ; rw [if_pos h1]
    clear hR
    go_enter Tryz.func56, Tryz.ntmps56
    go_wp2_with (go_at_call 84; refine (HN.out _ _).mono ?_; rintro e w' ⟨rfl, hw⟩; have hw := hw.symm; subst hw)
    go_ret
    exact ⟨by rw [HR.out]; rfl, rfl⟩
  · by_cases h2 : y < x
    · have HR : Hid (R = 1) := by show R = 1; rw [hR]; unfold cmpZ; rw [if_neg h1, if_pos h2]
      clear hR
      go_enter Tryz.func56, Tryz.ntmps56
      go_wp2_with (go_at_call 84; refine (HN.out _ _).mono ?_; rintro e w' ⟨rfl, hw⟩; have hw := hw.symm; subst hw)
      go_ret
      exact ⟨by rw [HR.out]; rfl, rfl⟩
    · have HR : Hid (R = 0) := by show R = 0; rw [hR]; unfold cmpZ; rw [if_neg h1, if_neg h2]
      clear hR
      go_enter Tryz.func56, Tryz.ntmps56
      go_wp2_with (go_at_call 84; refine (HN.out _ _).mono ?_; rintro e w' ⟨rfl, hw⟩; have hw := hw.symm; subst hw)
      go_ret
      exact ⟨by rw [HR.out]; rfl, rfl⟩

theorem sortWorld_ofG {α : Type} [Inhabited α] (enc : α → Value) {w : World} {blk off n : Nat} {dk : Array α} {os : Array Obj} (hb : blk < w.heap.size) : OfG blk w (sortWorld enc w blk off n dk os) := by
  have hsize : (sortWorld enc w blk off n dk os).heap.size = w.heap.size + os.size := by
    unfold sortWorld grow putRow mapBlock Sort.ahead
    simp
  have key : ∀ g, g < w.heap.size → g ≠ blk → (sortWorld enc w blk off n dk os).heap[g]? = w.heap[g]? := fun g hg hn => by
    unfold sortWorld grow putRow mapBlock Sort.ahead
    show (w.heap.modify blk _ ++ os)[g]? = _
    rw [Array.getElem?_append_left (by simpa using hg), Array.getElem?_modify, if_neg (fun e => hn e.symm)]
  exact ⟨key, fun B u hbl hB => ⟨hbl.os, hbl.tape, hbl.output, by rw [hsize]; have := hbl.size; omega, fun k hk => (key k (by omega) (by omega)).trans (hbl.block k hk)⟩⟩
end Go.Proofs.YtdfneklnpghhmaaGreatDoor

/- Words in order: slices.SortFunc of words leaves them in order. -/
namespace Go.Proofs.YtdfneklnpghhmaaGreatDoor
open Go.Shelf Go.RowKit Go.Lib Go.Sort

theorem enters_compare : ∀ args w, (callFunc 32 args).run Tryz.prog w = .ok (.enter 32 args) w :=
  enters_of Tryz.func32 (by kernel_rfl) rfl
end Go.Proofs.YtdfneklnpghhmaaGreatDoor

/- Words that may lose a bit: all that come of one, in order, each once (gap.Ball). -/
namespace Go.Proofs.YtdfneklnpghhmaaGreatDoor
open Go.Shelf Go.RowKit Go.Lib Go.Sort

/-- Each less than the next. -/
def Inc (N : List Nat) : Prop := List.Pairwise (fun a b => a < b) N
theorem inc_eq : ∀ {A B : List Nat}, Inc A → Inc B → (∀ x, x ∈ A ↔ x ∈ B) → A = B
  | [], [], _, _, _ => rfl
  | [], b :: B, _, _, h => absurd ((h b).2 (List.mem_cons_self ..)) (by simp)
  | a :: A, [], _, _, h => absurd ((h a).1 (List.mem_cons_self ..)) (by simp)
  | a :: A, b :: B, ha, hb, h => by
    have ha' := List.pairwise_cons.1 ha
    have hb' := List.pairwise_cons.1 hb
    have hab : a = b := by
      rcases List.mem_cons.1 ((h a).1 (List.mem_cons_self ..)) with e | e
      · exact e
      · rcases List.mem_cons.1 ((h b).2 (List.mem_cons_self ..)) with e2 | e2
        · exact e2.symm
        · have h1 := hb'.1 a e
          have h2 := ha'.1 b e2
          omega
    subst hab
    rw [inc_eq ha'.2 hb'.2 fun x => ?_]
    constructor
    · intro hx
      rcases List.mem_cons.1 ((h x).1 (List.mem_cons_of_mem _ hx)) with e | e
      · exact absurd (ha'.1 x hx) (by omega)
      · exact e
    · intro hx
      rcases List.mem_cons.1 ((h x).2 (List.mem_cons_of_mem _ hx)) with e | e
      · exact absurd (hb'.1 x hx) (by omega)
      · exact e
theorem PLf_keys (vs : Nat → Value) (ks : Nat → Nat) (n : Nat) : (PLf vs ks 0 n).map Prod.snd = (List.range n).map ks := by
  unfold PLf
  rw [List.map_map]
  exact List.map_congr_left fun t _ => by show ks (0 + t) = ks t; rw [Nat.zero_add]
end Go.Proofs.YtdfneklnpghhmaaGreatDoor
