/- Texts of ours, one behind the other: U4 U5 U6 U7 U8. -/
import Derived.Test.YtcgmllamiaflcaaZW4
import Derived.Laws.CopyOwn
import Derived.Laws.AppendOwnNone
import Derived.Lib.SliceRun
import Derived.Test.YtcgmllamiaflcaaZN2
/- Lists that are copied: append(.., l...), copy, Clone, Copy; the program's sums of polynomials. -/
namespace Go.Proofs.Ytcgmllamiaflcaa
open Go.RowKit

/-- The n coefficients c as cells. -/
def celL (n : Nat) (c : Nat → Nat) : List Value := (List.range n).map fun k => .int .i64 (c k : Nat)
theorem celL_len (n : Nat) (c : Nat → Nat) : (celL n c).length = n := by simp [celL]
theorem celL_get (n : Nat) (c : Nat → Nat) (j : Nat) (hj : j < n) : (celL n c)[j]? = some (.int .i64 (c j : Nat)) := by
  unfold celL
  rw [List.getElem?_map, List.getElem?_range hj]; rfl
theorem celL_one (n : Nat) (c : Nat → Nat) : ∀ u ∈ celL n c, u.oneCell' = true := by
  intro u hu
  unfold celL at hu
  obtain ⟨k, _, rfl⟩ := List.mem_map.1 hu
  rfl
theorem add_off (b off j : Nat) : (Addr.mk b off none).add j = ⟨b, off + j, none⟩ := by simp [Addr.add]

/-- 'copy(out, l)', out a row of the call's own, at least as long as l. -/
theorem copy_int {ops : Array Oper} {rest : List Oper} {o : Oper} {a : Act} {w : World} {Q : Exit → Act → World → Prop} (hgd : o.guard = none) (d s : Operand)
    (ho : o.op = .call { callee := .builtin .copy, args := #[d, s], argTypes := #[22, 22] }) (g N dc n sc : Nat) (ao : Option Addr)
    (hd : a.eval d = .slice (some ⟨g, 0, none⟩) N dc) (hs : a.eval s = .slice ao n sc) (c x : Nat → Nat) (hrow : Row g N c w) (hS : Sl ao n x w) (hn : n ≤ N)
    (B : Nat) (w0 : World) (hb : Below B w0 w) (hBg : B ≤ g)
    (h : ∀ w', Row g N (fun k => if k < n then x k else c k) w' → Below B w0 w' → wpList Try.prog ops Q rest (a.put o.dst (goInt n)) w') : wpList Try.prog ops Q (o :: rest) a w := by
  obtain ⟨cap, f, hf, hN, he⟩ := hrow
  obtain ⟨cs, h1, h2, h3⟩ := hf
  obtain ⟨i0, hi, hz0, hz1, hz2⟩ := info_parts Try.infoInt
  have hh : w.heap[g]? = some (.cells cs.toList.toArray 3 (0, 0)) := by simpa using h1
  refine wpList_copy_splice hgd d s 22 22 ho 3 Try.underlying22 (by rw [hi]; simp [hz1]) _ _ N dc n sc hd hs g 0 cs.toList 3 hh (celL n x) (by rw [celL_len]; exact (Nat.min_eq_left hn).symm) ?_ (by rw [celL_len]; simp; omega) (celL_one n x) B w0 hb hBg ?_
  · intro h0
    rw [celL_len] at h0
    obtain ⟨b, off, rfl, _⟩ := hS 0 h0
    refine ⟨rfl, _, rfl, fun j v hj => ?_⟩
    have hj' : j < n := by
      have := (List.getElem?_eq_some_iff.1 hj).1
      rwa [celL_len] at this
    rw [celL_get n x j hj'] at hj
    cases hj
    obtain ⟨b', off', e, hc⟩ := hS j hj'
    cases e
    rw [add_off]; exact hc
  · intro w' hg' hb'
    rw [celL_len]
    refine h w' ?_ hb'
    have hlen : (splice cs.toList 0 (celL n x)).length = cap := by rw [length_splice _ _ _ (by rw [celL_len]; simp; omega)]; simpa using h2
    refine ⟨cap, fun k => if k < n then .int .i64 (x k : Nat) else f k, ⟨(splice cs.toList 0 (celL n x)).toArray, hg'.out, by simpa using hlen, fun k hk => ?_⟩, hN, fun k hk => ?_⟩
    · show _ = some (if k < n then _ else f k)
      unfold splice
      rw [List.getElem?_toArray, List.take_zero, List.nil_append, celL_len, Nat.zero_add]
      by_cases e : k < n
      · rw [List.getElem?_append_left (by rw [celL_len]; exact e), celL_get n x k e, if_pos e]
      · rw [List.getElem?_append_right (by rw [celL_len]; omega), celL_len, List.getElem?_drop, show n + (k - n) = k from by omega, Array.getElem?_toList, h3 k hk, if_neg e]
    · show (if k < n then _ else f k) = .int .i64 ((if k < n then x k else c k : Nat) : Int)
      by_cases e : k < n
      · rw [if_pos e, if_pos e]
      · rw [if_neg e, if_neg e]; exact he k hk

end Go.Proofs.Ytcgmllamiaflcaa

/- Clone, Copy; the program's sums of polynomials. -/
namespace Go.Proofs.Ytcgmllamiaflcaa
open Go.RowKit

end Go.Proofs.Ytcgmllamiaflcaa

/- The program's sums of polynomials. -/
namespace Go.Proofs.Ytcgmllamiaflcaa
open Go.RowKit

end Go.Proofs.Ytcgmllamiaflcaa

/- The program's division of polynomials. -/
namespace Go.Proofs.Ytcgmllamiaflcaa
open Go.RowKit

theorem inv_nat' {F T : Nat} {D : FD} (hD : D ∈ fieldsL) {g : Nat → Value} {w : World} (h : FAt F T D g w) {x : Nat} (hx : x < D.q) (h0 : x ≠ 0) :
    Calls Try.prog 66 #[.pointer (some ⟨F, 0, none⟩), .int .i64 x] w fun e w' => e = .returned (.int .i64 (D.iv x : Nat)) ∧ ∃ n, w' = w.drewN n := by
  have k := inv_any hD h x
  rw [inv_nat hD hx h0] at k
  exact k
theorem subZ_nat {D : FD} (F : Fld D) {a b : Nat} (ha : a < D.q) (hb : b < D.q) : D.subZ a b = (D.sb a b : Nat) := by
  rw [FD.subZ, FD.negZ, if_pos (nat_has hb), Int.toNat_natCast, addZ_nat F ha (F.neg_lt b hb)]; rfl
theorem sub_nat {F T : Nat} {D : FD} (hD : D ∈ fieldsL) {g : Nat → Value} {w : World} (h : FAt F T D g w) {a b : Nat} (ha : a < D.q) (hb : b < D.q) :
    Calls Try.prog 22 #[.pointer (some ⟨F, 0, none⟩), .int .i64 a, .int .i64 b] w fun e w' => e = .returned (.int .i64 (D.sb a b : Nat)) ∧ ∃ n, w' = w.drewN n := by
  rw [← subZ_nat (fld hD) ha hb]; exact sub_any hD h a b

end Go.Proofs.Ytcgmllamiaflcaa

/- The program's division of polynomials: the walk. -/
namespace Go.Proofs.Ytcgmllamiaflcaa
open Go.RowKit

end Go.Proofs.Ytcgmllamiaflcaa
