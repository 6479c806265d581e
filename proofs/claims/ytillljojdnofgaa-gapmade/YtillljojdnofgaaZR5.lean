/- Texts of ours, one behind the other: R5 R6 R7 R8 R9 R10 R11 R12 R13 R18 R14 B4 B5 B6 R15 M7 R16 R17 B7 B8. -/
import Derived.Test.YtillljojdnofgaaZR4
import Derived.Test.YtillljojdnofgaaZM6
import Derived.Test.YtillljojdnofgaaZA1
import Derived.Test.YtillljojdnofgaaZB1
import Derived.Deep.RegionWith
import Derived.Deep.RegionHeld3
/- The reference: products, all cases (Mul). -/
namespace Go.Proofs.Ytillljojdnofgaa
open Go.RowKit

end Go.Proofs.Ytillljojdnofgaa

/- The reference: are the powers of an element all but 0 (full)? -/
namespace Go.Proofs.Ytillljojdnofgaa
open Go.RowKit

end Go.Proofs.Ytillljojdnofgaa

/- The reference: a field (Field). -/
namespace Go.Proofs.Ytillljojdnofgaa
open Go.RowKit

end Go.Proofs.Ytillljojdnofgaa

/- The reference: a field that is no prime one (Field). -/
namespace Go.Proofs.Ytillljojdnofgaa
open Go.RowKit

end Go.Proofs.Ytillljojdnofgaa

/- The reference: no field; what undoes a product, powers, logarithms. -/
namespace Go.Proofs.Ytillljojdnofgaa
open Go.RowKit

/-! ### Plain mathematics -/
/-! ### Calls -/
end Go.Proofs.Ytillljojdnofgaa

/- The reference: powers, logarithms, and what Frobenius makes. -/
namespace Go.Proofs.Ytillljojdnofgaa
open Go.RowKit

/-! ### Plain mathematics -/
/-! ### Calls -/
end Go.Proofs.Ytillljojdnofgaa

/- The reference: logarithms, Frobenius, traces and norms. -/
namespace Go.Proofs.Ytillljojdnofgaa
open Go.RowKit

end Go.Proofs.Ytillljojdnofgaa

/- The reference: traces and norms. -/
namespace Go.Proofs.Ytillljojdnofgaa
open Go.RowKit

end Go.Proofs.Ytillljojdnofgaa

/- The reference: are two lists the same (Same); the elements of a smaller field (Within). -/
namespace Go.Proofs.Ytillljojdnofgaa
open Go.RowKit

/-- The slice v reads as the numbers l. -/
def SliceI (v : Value) (l : List Int) (w : World) : Prop :=
  (l = [] ∧ ∃ ao cap, v = .slice ao 0 cap) ∨ (l ≠ [] ∧ l.length ≤ 1000000 ∧ ∃ b off cap, v = .slice (some ⟨b, off, none⟩) l.length cap ∧ ∀ j, j < l.length → w.cell? ⟨b, off + j, none⟩ = some (.int .i64 (l.getD j 0)))
theorem OwnI.slice {base : Nat} {v : Value} {l : List Int} {w : World} (h : OwnI base v l w) (hl : l.length ≤ 1000000) : SliceI v l w := by
  by_cases e : l = []
  · refine Or.inl ⟨e, ?_⟩
    rcases h.2 with ⟨h1, _⟩ | ⟨g, cap, cur, hv, _⟩
    · exact ⟨none, 0, h1⟩
    · rw [e] at hv; exact ⟨_, cap, hv⟩
  · obtain ⟨g, cap, hv, _, _, hc, _⟩ := h.at e
    exact Or.inr ⟨e, hl, g, 0, cap, hv, fun j hj => by rw [Nat.zero_add]; exact hc j hj⟩
theorem SliceI.below {B : Nat} {v : Value} {l : List Int} {w w' : World} (h : SliceI v l w) (hb : Below B w w') (hB : ∀ k, v.ownBlock = some k → k < B) : SliceI v l w' := by
  rcases h with h | ⟨h1, h2, b, off, cap, rfl, hc⟩
  · exact Or.inl h
  · exact Or.inr ⟨h1, h2, b, off, cap, rfl, fun j hj => ((bcell hb).1 b (off + j) (hB b rfl)).trans (hc j hj)⟩
theorem SliceI.drewN {v : Value} {l : List Int} {w : World} (h : SliceI v l w) (n : Nat) : SliceI v l (w.drewN n) := h

theorem list_ext_getD (l m : List Int) (h : l.length = m.length) (e : ∀ j, j < l.length → l.getD j 0 = m.getD j 0) : l = m := by
  apply List.ext_getElem h
  intro i h1 h2
  have := e i h1
  rwa [List.getD_eq_getElem?_getD, List.getD_eq_getElem?_getD, List.getElem?_eq_getElem h1, List.getElem?_eq_getElem h2] at this

set_option maxHeartbeats 2000000 in
theorem same_any {va vb : Value} {la lb : List Int} {w : World} (ha : SliceI va la w) (hb : SliceI vb lb w) :
    Calls Try.prog 16 #[va, vb] w fun e w' => e = .returned (.bool (decide (la = lb))) ∧ ∃ n, w' = w.drewN n := by
  by_cases hlen : la.length = lb.length
  · rcases ha with ⟨rfl, ao, ca, rfl⟩ | ⟨h1, h2, b, off, cap, rfl, hc⟩
    · have h0 : lb = [] := List.length_eq_zero_iff.1 hlen.symm
      subst h0
      rcases hb with ⟨_, bo, cb, rfl⟩ | ⟨h3, _⟩
      · clear hlen
        go_enter Try.func16, Try.ntmps16
        go_wp2
        refine wp_loop_rounds 1 ?_
        rw [rounds_succ]
        go_wp2
        go_ret
        exact ⟨rfl, 0, rfl⟩
      · exact absurd rfl h3
    · rcases hb with ⟨rfl, bo, cb, rfl⟩ | ⟨h3, h4, b', off', cap', rfl, hc'⟩
      · exact absurd (List.length_eq_zero_iff.1 hlen) h1
      · obtain ⟨n, hn⟩ : ∃ n, n = la.length := ⟨_, rfl⟩
        rw [← hlen, ← hn]
        have HC : Hid ((∀ j, j < n → w.cell? ⟨b, off + j, none⟩ = some (.int .i64 (la.getD j 0))) ∧ (∀ j, j < n → w.cell? ⟨b', off' + j, none⟩ = some (.int .i64 (lb.getD j 0)))) := ⟨fun j hj => hc j (by omega), fun j hj => hc' j (by omega)⟩
        have HL : Hid (n = la.length ∧ la.length = lb.length) := ⟨hn, hlen⟩
        have hnb : n ≤ 1000000 := by omega
        clear hc hc' h1 h2 h3 h4 hlen hn
        go_enter Try.func16, Try.ntmps16
        go_wp2
        go_loopw [5] (fun i wr => ∃ k : Nat, k ≤ n ∧ i = .int .i64 k ∧ Hid (∀ j, j < k → la.getD j 0 = lb.getD j 0) ∧ ∃ d, wr = w.drewN d) (fun i _ => n - (intOf i).toNat)
        case atStart => exact ⟨0, by omega, rfl, fun j hj => by omega, 0, rfl⟩
        case round =>
          obtain ⟨k, hk, rfl, HK, d, rfl⟩ := hrel
          by_cases hlt : k < n
          · have c1 := HC.out.1 k hlt
            have c2 := HC.out.2 k hlt
            obtain ⟨x, hx⟩ : ∃ x, x = la.getD k 0 := ⟨_, rfl⟩
            obtain ⟨y, hy⟩ : ∃ y, y = lb.getD k 0 := ⟨_, rfl⟩
            rw [← hx] at c1
            rw [← hy] at c2
            have HX : Hid (x = la.getD k 0 ∧ y = lb.getD k 0) := ⟨hx, hy⟩
            clear hx hy
            by_cases he : x = y
            · have hb : (x != y) = false := by rw [he]; simp
              have HK2 : Hid (∀ j, j < k + 1 → la.getD j 0 = lb.getD j 0) := fun j hj => if e : j = k then by rw [e, ← HX.out.1, ← HX.out.2, he] else HK.out j (by omega)
              clear he
              go_wp2
              go_quiet (fail)
              go_wp2
              go_roundw
              case rel => exact ⟨k + 1, by omega, by go_num, HK2.out, _, rfl⟩
              case measure => simp [intOf]; omega
            · have hb : (x != y) = true := by rw [bne_iff_ne]; exact he
              have HV : Hid (decide (la = lb) = false) := by
                show _ = _
                rw [decide_eq_false_iff_not]; intro e; exact he (by rw [HX.out.1, HX.out.2, e])
              clear he
              go_wp2
              go_quiet (fail)
              go_wp2
              go_ret
              exact ⟨ret_bool (by rw [HV.out]), _, by rw [World.drewN_drewN]⟩
          · have HV : Hid (decide (la = lb) = true) := by
              show _ = _
              rw [decide_eq_true_eq]; exact list_ext_getD la lb HL.out.2 (fun j hj => HK.out j (by have := HL.out.1; omega))
            go_wp2
            go_ret
            exact ⟨ret_bool (by rw [HV.out]), _, rfl⟩
  · have HV : Hid (decide (la = lb) = false) := by
      show _ = _
      rw [decide_eq_false_iff_not]; intro e; exact hlen (by rw [e])
    obtain ⟨ao, ca, ea⟩ : ∃ ao ca, va = .slice ao la.length ca := by
      rcases ha with ⟨rfl, ao, ca, rfl⟩ | ⟨_, _, b, off, cap, rfl, _⟩
      · exact ⟨ao, ca, rfl⟩
      · exact ⟨_, cap, rfl⟩
    obtain ⟨bo, cb, eb⟩ : ∃ bo cb, vb = .slice bo lb.length cb := by
      rcases hb with ⟨rfl, ao, ca, rfl⟩ | ⟨_, _, b, off, cap, rfl, _⟩
      · exact ⟨ao, ca, rfl⟩
      · exact ⟨_, cap, rfl⟩
    subst ea eb
    have hne : (((la.length : Nat) : Int) != ((lb.length : Nat) : Int)) = true := by rw [bne_iff_ne]; exact_mod_cast hlen
    generalize la.length = n at *
    generalize lb.length = m at *
    clear ha hb hlen
    go_enter Try.func16, Try.ntmps16
    go_wp2
    go_ret
    exact ⟨ret_bool (by rw [HV.out]), 0, rfl⟩
end Go.Proofs.Ytillljojdnofgaa

/- The reference: is a number in a list (In). -/
namespace Go.Proofs.Ytillljojdnofgaa
open Go.RowKit

end Go.Proofs.Ytillljojdnofgaa

/- The reference: the elements of a smaller field within one (Within). -/
namespace Go.Proofs.Ytillljojdnofgaa
open Go.RowKit

end Go.Proofs.Ytillljojdnofgaa

/- A field's calls, gone on: Frobenius, traces, norms. -/
namespace Go.Proofs.Ytillljojdnofgaa
open Go.RowKit

end Go.Proofs.Ytillljojdnofgaa

/- A field's calls, gone on: its modulus, the elements of a smaller field. -/
namespace Go.Proofs.Ytillljojdnofgaa
open Go.RowKit

theorem RowF.own {g n base : Nat} {f : Nat → Value} {l : List Int} {w : World} (h : RowF g n 3 f w) (hl : l.length = n) (hf : ∀ j, j < n → f j = .int .i64 (l.getD j 0)) (hb : base ≤ g) (hn : n ≤ 1000000) : OwnI base (.slice (some ⟨g, 0, none⟩) n n) l w := by
  obtain ⟨cs, h1, h2, h3⟩ := h
  refine ⟨by simp, Or.inr ⟨g, n, cs, by rw [hl], hb, h1, by omega, by unfold maxLen; omega, by omega, ?_⟩⟩
  rw [hl, Nat.mul_one, List.take_of_length_le (by simp; omega)]
  apply List.ext_getElem?
  intro i
  by_cases hi : i < n
  · rw [Array.getElem?_toList, h3 i hi, hf i hi, List.getElem?_map, List.getD_eq_getElem?_getD, List.getElem?_eq_getElem (by omega)]; rfl
  · rw [List.getElem?_eq_none (by simp; omega), List.getElem?_eq_none (by simp; omega)]

end Go.Proofs.Ytillljojdnofgaa

/- A field's calls, gone on: a field within another (holds, Within). -/
namespace Go.Proofs.Ytillljojdnofgaa
open Go.RowKit

/-! ### Plain mathematics -/
/-! ### Calls -/
end Go.Proofs.Ytillljojdnofgaa

/- The reference: a polynomial's value at an element (value). -/
namespace Go.Proofs.Ytillljojdnofgaa
open Go.RowKit

theorem bel_up' {B : Nat} {w W w1 : World} (h0 : Below B w W) (h : Below W.heap.size W w1) (hB : B ≤ w.heap.size := by exact Nat.le_refl _) : Below B w w1 := h0.trans (h.mono (Nat.le_trans hB h0.size))

end Go.Proofs.Ytillljojdnofgaa

/- Plain mathematics of a field within another: what the smaller one's x becomes. -/
namespace Go.Proofs.Ytillljojdnofgaa

end Go.Proofs.Ytillljojdnofgaa

/- The reference: what each element of a field becomes in a greater one (Embed). -/
namespace Go.Proofs.Ytillljojdnofgaa
open Go.RowKit

end Go.Proofs.Ytillljojdnofgaa

/- The reference: what each element of a field becomes in a greater one, gone on (Embed). -/
namespace Go.Proofs.Ytillljojdnofgaa
open Go.RowKit

end Go.Proofs.Ytillljojdnofgaa

/- A field's calls, gone on: what a smaller field's elements become (at, rootFor, Embed). -/
namespace Go.Proofs.Ytillljojdnofgaa
open Go.RowKit

end Go.Proofs.Ytillljojdnofgaa

/- A field's calls, gone on: what a smaller field's elements become (Embed). -/
namespace Go.Proofs.Ytillljojdnofgaa
open Go.RowKit

end Go.Proofs.Ytillljojdnofgaa
