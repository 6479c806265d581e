/- Texts of ours, one behind the other: L1 L2 L3 L4 L5 L6 L7 W8 L8. -/
import Derived.Test.YtjkncdmbcckcdaaZV11
import Derived.Test.YtjkncdmbcckcdaaZR10
/- What two answers are held together by: numbers, lists, lists of lists. -/
namespace Go.Proofs.Ytjkncdmbcckcdaa
open Go.RowKit

set_option maxHeartbeats 2000000 in
theorem lists_err2 (e : Int) (he : e ≠ 0) (ao : Option Addr) (ca : Nat) (vb : Value) (w : World) :
    Calls Try.prog 14 #[.slice ao 0 ca, .int .i64 e, vb, .int .i64 e] w fun r w' => r = .returned (.bool true) ∧ w' = w := by
  have h1 : (e != 0) = true := bne_iff_ne.2 he
  go_enter Try.func14, Try.ntmps14
  go_wp2
  go_ret
  exact ⟨rfl, rfl⟩
/-- The reference's field, with its modulus where it lies. -/
theorem rfield_sl {D : FD} (hD : D ∈ fieldsL) (w : World) :
    Calls Try.prog 11 #[.int .i64 D.q] w fun e w' => ∃ gm cm, e = .returned (.tuple #[rf D.q D.p D.m D.gen (.slice (some ⟨gm, 0, none⟩) (D.m + 1) cm), .int .i64 0]) ∧ ModAt D (.slice (some ⟨gm, 0, none⟩) (D.m + 1) cm) D.md w' ∧ Below w.heap.size w w' := by
  refine (rfield_any hD w).mono ?_
  rintro e w' ⟨v, rfl, hown, hmod, hb⟩
  obtain ⟨gm, cm, fm, rfl, _⟩ := hown.row (D.m + 1) modL_len' (by have := (fld hD).m6; omega)
  exact ⟨gm, cm, rfl, hmod, hb⟩
theorem OwnP.sliceI {base n : Nat} {v : Value} {c : Nat → Nat} {w : World} (h : OwnP base v n c w) (hn : n ≤ 1000000) : SliceI v (zl n fun j => (c j : Nat)) w := by
  obtain ⟨ao, cap, rfl, _, _, _, _, _, hr⟩ := h
  by_cases h0 : n = 0
  · subst h0
    exact Or.inl ⟨rfl, ao, cap, rfl⟩
  · obtain ⟨g, rfl, hrow⟩ := hr (by omega)
    refine Or.inr ⟨fun e => ?_, by rw [zl_len]; exact hn, g, 0, cap, by rw [zl_len], fun j hj => ?_⟩
    · have := congrArg List.length e
      rw [zl_len] at this
      exact h0 this
    · rw [zl_len] at hj
      rw [Nat.zero_add, zl_getD n _ j hj]; exact hrow.cell j hj
theorem Elm.sliceI {v : Value} {p : Nat × (Nat → Nat)} {w : World} (h : Elm v p w) (hn : p.1 + 1 ≤ 1000000) : SliceI v (zl (p.1 + 1) fun j => (p.2 j : Nat)) w := by
  obtain ⟨g, cap, rfl, h1, h2, hr⟩ := h
  exact (OwnP.of_row (base := 0) hr (Nat.le_refl _) h1 h2 (Nat.zero_le _)).sliceI hn

set_option maxHeartbeats 2000000 in
set_option maxRecDepth 100000 in
theorem sameAll_lls {ba bb : Nat} {va vb : Value} {L : List (Nat × (Nat → Nat))} {w : World} (ha : LLs ba va L w) (hb : LLs bb vb L w) (hL : L.length ≤ 1000000) (hp : ∀ p ∈ L, p.1 + 1 ≤ 1000000) :
    Calls Try.prog 53 #[va, vb] w fun e w' => e = .returned (.bool true) ∧ ∃ n, w' = w.drewN n := by
  obtain ⟨l, ho, he⟩ := ha
  obtain ⟨l', ho', he'⟩ := hb
  obtain ⟨ao, ca, rfl, _, _, _, hc⟩ := ho.open
  obtain ⟨bo, cb, rfl, _, _, _, hc'⟩ := ho'.open
  rw [he.1, he'.1]
  have HC : Hid (Elms l L w ∧ Elms l' L w ∧ (∀ p ∈ L, p.1 + 1 ≤ 1000000) ∧ (∀ (j : Nat) (u : Value), l[j]? = some u → ∃ g, ao = some ⟨g, 0, none⟩ ∧ w.cell? ⟨g, j, none⟩ = some u ∧ w.frozen? ⟨g, j, none⟩ = false) ∧ (∀ (j : Nat) (u : Value), l'[j]? = some u → ∃ g, bo = some ⟨g, 0, none⟩ ∧ w.cell? ⟨g, j, none⟩ = some u ∧ w.frozen? ⟨g, j, none⟩ = false)) := ⟨he, he', hp, hc, hc'⟩
  clear he he' hp hc hc' ho ho'
  go_enter Try.func53, Try.ntmps53
  go_wp2
  go_loopw [5] (fun i wr => ∃ r : Nat, r ≤ L.length ∧ i = .int .i64 r ∧ ∃ n, wr = w.drewN n) (fun i _ => L.length - (intOf i).toNat)
  case atStart => exact ⟨0, by omega, rfl, 0, rfl⟩
  case round =>
    obtain ⟨r, hr, rfl, n, rfl⟩ := hrel
    by_cases hlt : r < L.length
    · have h1 := HC.out.1.1
      have h2 := HC.out.2.1.1
      obtain ⟨p, hp⟩ : ∃ p, L[r]? = some p := ⟨L[r], List.getElem?_eq_getElem hlt⟩
      obtain ⟨v, hv⟩ : ∃ v, l[r]? = some v := ⟨l[r]'(by omega), List.getElem?_eq_getElem _⟩
      obtain ⟨v', hv'⟩ : ∃ v', l'[r]? = some v' := ⟨l'[r]'(by omega), List.getElem?_eq_getElem _⟩
      obtain ⟨g, rfl, hc, _⟩ := HC.out.2.2.2.1 r v hv
      obtain ⟨g', rfl, hc', _⟩ := HC.out.2.2.2.2 r v' hv'
      have hpl := HC.out.2.2.1 p (List.mem_of_getElem? hp)
      have HS : Hid (∀ k, Calls Try.prog 33 #[v, v'] (w.drewN (n + k)) fun e w' => e = .returned (.bool true) ∧ ∃ m, w' = w.drewN (n + m)) := fun k => by
        refine (same_any (w := w.drewN (n + k)) ((HC.out.1.2 r v p hv hp).sliceI hpl) ((HC.out.2.1.2 r v' p hv' hp).sliceI hpl)).mono ?_
        rintro e w' ⟨rfl, m, rfl⟩
        exact ⟨by rw [decide_eq_true rfl], k + m, by rw [World.drewN_drewN, Nat.add_assoc]⟩
      have hib : (r : Int) < (L.length : Int) := by omega
      have hib0 : (0 : Int) ≤ (r : Int) := by omega
      clear h1 h2 hp hv hv' hpl
      go_wp2
      go_big_quiet (first | (go_at_call 33; exact HS.out _))
      go_wp2
      go_roundw
      case rel => exact ⟨r + 1, by omega, by go_num, _, by first | rfl | rw [World.drewN_drewN]⟩
      case measure => simp [intOf]; omega
    · go_wp2
      go_ret
      exact ⟨rfl, _, rfl⟩

set_option maxHeartbeats 2000000 in
theorem lists_same {ba bb : Nat} {va vb : Value} {L : List (Nat × (Nat → Nat))} {w : World} (ha : LLs ba va L w) (hb : LLs bb vb L w) (hL : L.length ≤ 1000000) (hp : ∀ p ∈ L, p.1 + 1 ≤ 1000000) :
    Calls Try.prog 14 #[va, .int .i64 0, vb, .int .i64 0] w fun r w' => r = .returned (.bool true) ∧ ∃ n, w' = w.drewN n := by
  have H : Hid (LLs ba va L w ∧ LLs bb vb L w ∧ ∀ p ∈ L, p.1 + 1 ≤ 1000000) := ⟨ha, hb, hp⟩
  clear ha hb hp
  go_enter Try.func14, Try.ntmps14
  go_wp2_with fail
  refine (sameAll_lls H.out.1 H.out.2.1 hL H.out.2.2).mono ?_
  rintro e w' ⟨rfl, n, rfl⟩
  go_wp2
  go_ret
  exact ⟨rfl, _, rfl⟩
end Go.Proofs.Ytjkncdmbcckcdaa

/- PolySays: values (polyAt). -/
namespace Go.Proofs.Ytjkncdmbcckcdaa
open Go.RowKit

end Go.Proofs.Ytjkncdmbcckcdaa

/- PolySays: roots and parts (polyRoots). -/
namespace Go.Proofs.Ytjkncdmbcckcdaa
open Go.RowKit

end Go.Proofs.Ytjkncdmbcckcdaa

/- PolySays: roots and parts (polyRoots), the rest. -/
namespace Go.Proofs.Ytjkncdmbcckcdaa
open Go.RowKit

end Go.Proofs.Ytjkncdmbcckcdaa

/- PolySays: a polynomial through points (polyThrough). -/
namespace Go.Proofs.Ytjkncdmbcckcdaa
open Go.RowKit Go.Sort

theorem has_of_lt {D : FD} {x : Nat} (h : x < D.q) : D.has (x : Int) = true := by
  unfold FD.has; simp; omega

theorem arg_sliceI {ao : Option Addr} {n ca : Nat} {z : Nat → Int} {w : World} (h : Arg ao n ca z w) {r : Nat} (hr : r ≤ n) : SliceI (.slice ao r ca) (zl r z) w := by
  by_cases h0 : r = 0
  · subst h0
    exact Or.inl ⟨rfl, ao, ca, rfl⟩
  · obtain ⟨b, off, rfl, _⟩ := h.sl 0 (by omega)
    refine Or.inr ⟨fun e => ?_, by rw [zl_len]; have := h.few; omega, b, off, ca, by rw [zl_len], fun j hj => ?_⟩
    · have := congrArg List.length e
      rw [zl_len] at this
      exact h0 this
    · rw [zl_len] at hj
      obtain ⟨b', off', e, hc⟩ := h.sl j (by omega)
      cases e
      rw [zl_getD r z j hj]; exact hc
theorem zl_mem {n : Nat} {z : Nat → Int} {x : Int} : x ∈ zl n z ↔ ∃ j, j < n ∧ z j = x := by
  unfold zl
  rw [List.mem_map]
  constructor
  · rintro ⟨j, hj, e⟩
    exact ⟨j, List.mem_range.1 hj, e⟩
  · rintro ⟨j, hj, e⟩
    exact ⟨j, List.mem_range.2 hj, e⟩
end Go.Proofs.Ytjkncdmbcckcdaa

/- PolySays: a polynomial through points (polyThrough), where there is one. -/
namespace Go.Proofs.Ytjkncdmbcckcdaa
open Go.RowKit Go.Sort

end Go.Proofs.Ytjkncdmbcckcdaa

/- PolySays: its parts put together; where an argument may not be. -/
namespace Go.Proofs.Ytjkncdmbcckcdaa
open Go.RowKit Go.Sort

end Go.Proofs.Ytjkncdmbcckcdaa

/- Lists that were made and lie in memory that is there: kept while more is made. What two answers with lists are held together by, whatever the error. -/
namespace Go.Proofs.Ytjkncdmbcckcdaa
open Go.RowKit

end Go.Proofs.Ytjkncdmbcckcdaa

/- PolySays: where an argument may not be. -/
namespace Go.Proofs.Ytjkncdmbcckcdaa
open Go.RowKit Go.Sort

end Go.Proofs.Ytjkncdmbcckcdaa
