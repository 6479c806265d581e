/- Texts of ours, one behind the other: R18 R14 B4 B5 B6 R15 M7 R16 R17 B7 B8 M8 M9 G1 N1 N2 N3 N4. -/
import Derived.Test.YtjkncdmbcckcdaaZR5
import Derived.Test.YtjkncdmbcckcdaaZM3
import Derived.Deep.RegionWith
import Derived.Deep.RegionHeld3
/- The reference: is a number in a list (In). -/
namespace Go.Proofs.Ytjkncdmbcckcdaa
open Go.RowKit

theorem mem_getD {l : List Int} {x : Int} : x ∈ l ↔ ∃ j, j < l.length ∧ l.getD j 0 = x := by
  constructor
  · intro h
    obtain ⟨j, hj, e⟩ := List.getElem_of_mem h
    exact ⟨j, hj, by rw [List.getD_eq_getElem?_getD, List.getElem?_eq_getElem hj]; exact e⟩
  · rintro ⟨j, hj, e⟩
    rw [List.getD_eq_getElem?_getD, List.getElem?_eq_getElem hj] at e
    rw [← e]; exact List.getElem_mem hj

set_option maxHeartbeats 2000000 in
theorem in_any {v : Value} {l : List Int} {w : World} (x : Int) (h : SliceI v l w) :
    Calls Try.prog 41 #[.int .i64 x, v] w fun e w' => e = .returned (.bool (decide (x ∈ l))) ∧ ∃ n, w' = w.drewN n := by
  rcases h with ⟨rfl, ao, ca, rfl⟩ | ⟨h1, h2, b, off, cap, rfl, hc⟩
  · go_enter Try.func41, Try.ntmps41
    go_wp2
    refine wp_loop_rounds 1 ?_
    rw [rounds_succ]
    go_wp2
    go_ret
    exact ⟨rfl, 0, rfl⟩
  · obtain ⟨n, hn⟩ : ∃ n, n = l.length := ⟨_, rfl⟩
    rw [← hn]
    have HC : Hid ((∀ j, j < n → w.cell? ⟨b, off + j, none⟩ = some (.int .i64 (l.getD j 0))) ∧ n = l.length) := ⟨fun j hj => hc j (by omega), hn⟩
    have hnb : n ≤ 1000000 := by omega
    clear hc h1 h2 hn
    go_enter Try.func41, Try.ntmps41
    go_wp2
    go_loopw [5] (fun i wr => ∃ k : Nat, k ≤ n ∧ i = .int .i64 k ∧ Hid (∀ j, j < k → l.getD j 0 ≠ x) ∧ ∃ d, wr = w.drewN d) (fun i _ => n - (intOf i).toNat)
    case atStart => exact ⟨0, by omega, rfl, fun j hj => by omega, 0, rfl⟩
    case round =>
      obtain ⟨k, hk, rfl, HK, d, rfl⟩ := hrel
      by_cases hlt : k < n
      · have c1 := HC.out.1 k hlt
        obtain ⟨y, hy⟩ : ∃ y, y = l.getD k 0 := ⟨_, rfl⟩
        rw [← hy] at c1
        have HX : Hid (y = l.getD k 0) := hy
        clear hy
        by_cases he : y = x
        · have hb : (y == x) = true := beq_iff_eq.2 he
          have HV : Hid (decide (x ∈ l) = true) := by
            show _ = _
            rw [decide_eq_true_eq]; exact mem_getD.2 ⟨k, by have := HC.out.2; omega, by rw [← HX.out, he]⟩
          clear he
          go_wp2
          go_ret
          exact ⟨ret_bool (by rw [HV.out]), _, by first | rfl | rw [World.drewN_drewN]⟩
        · have hb : (y == x) = false := beq_eq_false_iff_ne.2 he
          have HK2 : Hid (∀ j, j < k + 1 → l.getD j 0 ≠ x) := fun j hj => if e : j = k then by rw [e, ← HX.out]; exact he else HK.out j (by omega)
          clear he
          go_wp2
          go_roundw
          case rel => exact ⟨k + 1, by omega, by go_num, HK2.out, _, rfl⟩
          case measure => simp [intOf]; omega
      · have HV : Hid (decide (x ∈ l) = false) := by
          show _ = _
          rw [decide_eq_false_iff_not]; intro e
          obtain ⟨j, hj, e⟩ := mem_getD.1 e
          exact HK.out j (by have := HC.out.2; omega) e
        go_wp2
        go_ret
        exact ⟨ret_bool (by rw [HV.out]), _, rfl⟩
end Go.Proofs.Ytjkncdmbcckcdaa

/- The reference: the elements of a smaller field within one (Within). -/
namespace Go.Proofs.Ytjkncdmbcckcdaa
open Go.RowKit

end Go.Proofs.Ytjkncdmbcckcdaa

/- A field's calls, gone on: Frobenius, traces, norms. -/
namespace Go.Proofs.Ytjkncdmbcckcdaa
open Go.RowKit

end Go.Proofs.Ytjkncdmbcckcdaa

/- A field's calls, gone on: its modulus, the elements of a smaller field. -/
namespace Go.Proofs.Ytjkncdmbcckcdaa
open Go.RowKit

theorem RowF.own {g n base : Nat} {f : Nat → Value} {l : List Int} {w : World} (h : RowF g n 3 f w) (hl : l.length = n) (hf : ∀ j, j < n → f j = .int .i64 (l.getD j 0)) (hb : base ≤ g) (hn : n ≤ 1000000) : OwnI base (.slice (some ⟨g, 0, none⟩) n n) l w := by
  obtain ⟨cs, h1, h2, h3⟩ := h
  refine ⟨by simp, Or.inr ⟨g, n, cs, by rw [hl], hb, h1, by omega, by unfold maxLen; omega, by omega, ?_⟩⟩
  rw [hl, Nat.mul_one, List.take_of_length_le (by simp; omega)]
  apply List.ext_getElem?
  intro i
  by_cases hi : i < n
  · rw [Array.getElem?_toList, h3 i hi, hf i hi, List.getElem?_map, List.getD_eq_getElem?_getD, List.getElem?_eq_getElem (by omega)]; rfl
  · rw [List.getElem?_eq_none (by simp; omega), List.getElem?_eq_none (by simp; omega)]

end Go.Proofs.Ytjkncdmbcckcdaa

/- A field's calls, gone on: a field within another (holds, Within). -/
namespace Go.Proofs.Ytjkncdmbcckcdaa
open Go.RowKit

/-! ### Plain mathematics -/
/-! ### Calls -/
end Go.Proofs.Ytjkncdmbcckcdaa

/- The reference: a polynomial's value at an element (value). -/
namespace Go.Proofs.Ytjkncdmbcckcdaa
open Go.RowKit

theorem bel_up' {B : Nat} {w W w1 : World} (h0 : Below B w W) (h : Below W.heap.size W w1) (hB : B ≤ w.heap.size := by exact Nat.le_refl _) : Below B w w1 := h0.trans (h.mono (Nat.le_trans hB h0.size))

end Go.Proofs.Ytjkncdmbcckcdaa

/- Plain mathematics of a field within another: what the smaller one's x becomes. -/
namespace Go.Proofs.Ytjkncdmbcckcdaa

end Go.Proofs.Ytjkncdmbcckcdaa

/- The reference: what each element of a field becomes in a greater one (Embed). -/
namespace Go.Proofs.Ytjkncdmbcckcdaa
open Go.RowKit

end Go.Proofs.Ytjkncdmbcckcdaa

/- The reference: what each element of a field becomes in a greater one, gone on (Embed). -/
namespace Go.Proofs.Ytjkncdmbcckcdaa
open Go.RowKit

end Go.Proofs.Ytjkncdmbcckcdaa

/- A field's calls, gone on: what a smaller field's elements become (at, rootFor, Embed). -/
namespace Go.Proofs.Ytjkncdmbcckcdaa
open Go.RowKit

end Go.Proofs.Ytjkncdmbcckcdaa

/- A field's calls, gone on: what a smaller field's elements become (Embed). -/
namespace Go.Proofs.Ytjkncdmbcckcdaa
open Go.RowKit

end Go.Proofs.Ytjkncdmbcckcdaa

/- Plain mathematics: Fermat and Frobenius, traces and norms; what a smaller field's elements become is a copy of it. -/
namespace Go.Proofs.Ytjkncdmbcckcdaa
open Go.RowKit

/-! ### The kernel's checks -/
end Go.Proofs.Ytjkncdmbcckcdaa

/- Plain mathematics, gone on: the laws that follow from the kernel's checks. -/
namespace Go.Proofs.Ytjkncdmbcckcdaa
open Go.RowKit

/-! ### Frobenius -/
/-! ### Traces and norms -/
/-! ### Copies -/
end Go.Proofs.Ytjkncdmbcckcdaa

/- The walk of the statement FieldEmbeds. -/
namespace Go.Proofs.Ytjkncdmbcckcdaa
open Go.RowKit

/-! ### What two answers with lists are held together by -/
set_option maxHeartbeats 2000000 in
theorem list_same {va vb : Value} {l : List Int} {w : World} (ha : SliceI va l w) (hb : SliceI vb l w) :
    Calls Try.prog 23 #[va, .int .i64 0, vb, .int .i64 0] w fun r w' => r = .returned (.bool true) ∧ ∃ n, w' = w.drewN n := by
  have H : Hid (SliceI va l w ∧ SliceI vb l w) := ⟨ha, hb⟩
  clear ha hb
  go_enter Try.func23, Try.ntmps23
  go_wp2_with fail
  refine (same_any H.out.1 H.out.2).mono ?_
  rintro e w' ⟨rfl, n, rfl⟩
  rw [decide_eq_true rfl]
  go_wp2
  go_ret
  exact ⟨rfl, _, rfl⟩

end Go.Proofs.Ytjkncdmbcckcdaa

/- Plain mathematics of polynomials over a field: sums, multiples, shifts, products. A polynomial is the function of its coefficients. No Go text here. -/
namespace Go.Proofs.Ytjkncdmbcckcdaa

def pnil : Nat → Nat := fun _ => 0
end Go.Proofs.Ytjkncdmbcckcdaa

/- Plain mathematics of polynomials, gone on: degrees, division, what is left, what divides. No Go text here. -/
namespace Go.Proofs.Ytjkncdmbcckcdaa

end Go.Proofs.Ytjkncdmbcckcdaa

/- Plain mathematics of polynomials, gone on: with 1 at the end; common divisors, as they are looked for. No Go text here. -/
namespace Go.Proofs.Ytjkncdmbcckcdaa

end Go.Proofs.Ytjkncdmbcckcdaa

/- Plain mathematics of polynomials, gone on: values of sums and products. No Go text here. -/
namespace Go.Proofs.Ytjkncdmbcckcdaa

end Go.Proofs.Ytjkncdmbcckcdaa
