/- Texts of ours, one behind the other: Q5 Q6 I1 I3 I4 S12 S13 S20 KA1 KA2 KA3 KA4 KA5 KA6 KA7 S23 S24 S25. -/
import Derived.Test.YtcgmllamiaflcaaZZ2
import Derived.Test.YtcgmllamiaflcaaZX14
import Derived.Test.YtcgmllamiaflcaaZX20
import Derived.Test.YtcgmllamiaflcaaZL10
import Derived.Test.YtcgmllamiaflcaaZA1
import Derived.Test.YtcgmllamiaflcaaZW2
import Derived.Test.YtcgmllamiaflcaaZM3
import Derived.Test.YtcgmllamiaflcaaZU1
import Derived.Deep.CutBlock
import Derived.Deep.DeepCutAuto
import Derived.Test.YtcgmllamiaflcaaZR5
import Derived.Test.YtcgmllamiaflcaaZW10
/- The program's byPowers: numbers laid by their powers of y. -/
namespace Go.Proofs.Ytcgmllamiaflcaa
open Go.RowKit Go.Sort

theorem OwnI.form {base : Nat} {v : Value} {l : List Int} {w : World} (h : OwnI base v l w) : ∃ ao cap, v = .slice ao l.length cap := by
  rcases h.2 with ⟨h1, h2⟩ | ⟨g, cap, cur, hv, _⟩
  · exact ⟨none, 0, by rw [h1, h2]⟩
  · exact ⟨_, cap, hv⟩
end Go.Proofs.Ytcgmllamiaflcaa

/- The program's Sudan. -/
namespace Go.Proofs.Ytcgmllamiaflcaa
open Go.RowKit Go.Sort

theorem mchk_nat {D : FD} {m P : Nat} {V : Nat → Nat → Nat} (hm : m ≤ 64) (hP : 1 ≤ P) (hP2 : P ≤ 64) (hV : ∀ i, El D (V i)) : D.mchk m (fun _ => P) (fun i j => ((V i j : Nat) : Int)) = 0 := by
  refine mchk_of hm (fun i _ => ?_)
  unfold FD.mrow
  rw [if_neg (by omega), if_neg (by omega), if_pos]
  exact allHas_iff.2 (fun j _ => has_of_lt (hV i j))
end Go.Proofs.Ytcgmllamiaflcaa

/- Codes: what is said of one (the program's code.Check, the reference's CodeMay). -/
namespace Go.Proofs.Ytcgmllamiaflcaa
open Go.RowKit Go.Sort

end Go.Proofs.Ytcgmllamiaflcaa

/- Independent rows: the reduced form has as many; what makes nothing 0 but 0. Plain mathematics. -/
namespace Go.Proofs.Ytcgmllamiaflcaa
open Go.RowKit

end Go.Proofs.Ytcgmllamiaflcaa

/- Codes: one form, and the dual (the program's oneForm, unit, dual). -/
namespace Go.Proofs.Ytcgmllamiaflcaa
open Go.RowKit Go.Sort

theorem Mx.less {B G m k j n : Nat} {R : Nat → Nat → Nat} {h : Nat → Nat} {w : World} (H : Mx B G m k n R h w) (hj : j ≤ k) : Mx B G m j n R h w := by
  obtain ⟨f, hf, hf'⟩ := H.outer
  exact ⟨⟨f, hf, fun i hi => hf' i (by omega)⟩, fun i hi => H.row i (by omega), H.geG, fun i hi => H.ge i (by omega), fun i hi j hj => H.inj i (by omega) j (by omega), fun i hi => H.ne i (by omega), by have := H.le; omega⟩

end Go.Proofs.Ytcgmllamiaflcaa

/- Plain mathematics: products of rows; what makes rows 0. No Go text here. -/
namespace Go.Proofs.Ytcgmllamiaflcaa

/-- The sum of the products of the first numbers of two lists. -/
def dot (D : FD) (a b : Nat → Nat) : Nat → Nat
  | 0 => 0
  | j + 1 => D.ad (dot D a b j) (D.mul (a j) (b j))
theorem dot_nil {D : FD} (F : Fld D) (v : Nat → Nat) : ∀ n, dot D pnil v n = 0
  | 0 => rfl
  | n + 1 => by
    show D.ad (dot D pnil v n) (D.mul 0 (v n)) = 0
    rw [dot_nil F v n, zmul F, ad_zero F (zero_lt' F)]
theorem dot_congr {D : FD} {a a' b b' : Nat → Nat} : ∀ n, (∀ j, j < n → a j = a' j ∧ b j = b' j) → dot D a b n = dot D a' b' n
  | 0, _ => rfl
  | n + 1, h => by
    show D.ad (dot D a b n) (D.mul (a n) (b n)) = D.ad (dot D a' b' n) (D.mul (a' n) (b' n))
    rw [dot_congr n (fun j hj => h j (by omega)), (h n (by omega)).1, (h n (by omega)).2]
end Go.Proofs.Ytcgmllamiaflcaa

/- Plain mathematics: what makes rows 0 is what the null rows span; the dual of the dual. No Go text here. -/
namespace Go.Proofs.Ytcgmllamiaflcaa

end Go.Proofs.Ytcgmllamiaflcaa

/- Plain mathematics: how many sets there are; Krawtchouk's numbers. No Go text here. -/
namespace Go.Proofs.Ytcgmllamiaflcaa

end Go.Proofs.Ytcgmllamiaflcaa

/- Weights: powers and numbers of sets (the program's power, over). -/
namespace Go.Proofs.Ytcgmllamiaflcaa
open Go.RowKit

theorem wrap_ka {a : Int} (h1 : -9223372036854775808 ≤ a) (h2 : a ≤ 9223372036854775807) : IntKind.i64.wrap a = a := by
  rw [IntKind.wrap_i64]
  first | omega | (unfold wrap64; omega)
end Go.Proofs.Ytcgmllamiaflcaa

/- Weights: Krawtchouk's numbers (the program's krawtchouk). -/
namespace Go.Proofs.Ytcgmllamiaflcaa
open Go.RowKit

end Go.Proofs.Ytcgmllamiaflcaa

/- Weights: Krawtchouk's numbers (the reference's Kraw). -/
namespace Go.Proofs.Ytcgmllamiaflcaa
open Go.RowKit

/-- Whole numbers, below 0 too, in a row of the call's own. -/
def RowZ (g N : Nat) (z : Nat → Int) (w : World) : Prop := ∃ cap f, RowF g cap 3 f w ∧ N ≤ cap ∧ ∀ k, k < N → f k = .int .i64 (z k)
theorem RowZ.of {g N : Nat} {c : Nat → Nat} {w : World} (h : Row g N c w) : RowZ g N (fun k => ((c k : Nat) : Int)) w := by
  obtain ⟨cap, f, h1, h2, h3⟩ := h
  exact ⟨cap, f, h1, h2, h3⟩
theorem RowZ.cell {g N : Nat} {z : Nat → Int} {w : World} (h : RowZ g N z w) (k : Nat) (hk : k < N) : w.cell? ⟨g, k, none⟩ = some (.int .i64 (z k)) := by
  obtain ⟨cap, f, h1, h2, h3⟩ := h
  rw [h1.cell k (by omega), h3 k hk]
theorem RowZ.free {g N : Nat} {z : Nat → Int} {w : World} (h : RowZ g N z w) (k : Nat) : w.frozen? ⟨g, k, none⟩ = false := by
  obtain ⟨cap, f, h1, h2, h3⟩ := h
  exact h1.free k
theorem RowZ.store {g N : Nat} {z y : Nat → Int} {w : World} (h : RowZ g N z w) (k : Nat) (v : Int) (hd : ∀ j, j < N → y j = if j = k then v else z j) : RowZ g N y (w.setCell ⟨g, k, none⟩ (.int .i64 v)) := by
  obtain ⟨cap, f, h1, h2, h3⟩ := h
  refine ⟨cap, _, h1.store k _, h2, fun j hj => ?_⟩
  unfold upd
  rw [hd j hj]
  by_cases e : j = k
  · rw [if_pos e, if_pos e]
  · rw [if_neg e, if_neg e, h3 j hj]
theorem RowZ.congr {g N : Nat} {z y : Nat → Int} {w : World} (h : RowZ g N z w) (e : ∀ k, k < N → z k = y k) : RowZ g N y w := by
  obtain ⟨cap, f, h1, h2, h3⟩ := h
  exact ⟨cap, f, h1, h2, fun k hk => by rw [h3 k hk, e k hk]⟩
theorem RowZ.below {g N B : Nat} {z : Nat → Int} {w w' : World} (h : RowZ g N z w) (hb : Below B w w') (hB : g < B) : RowZ g N z w' := by
  obtain ⟨cap, f, h1, h2, h3⟩ := h
  exact ⟨cap, f, h1.below hb hB, h2, h3⟩
end Go.Proofs.Ytcgmllamiaflcaa

/- Weights: what is said of a size and a length, on both sides (Check, CountMay). -/
namespace Go.Proofs.Ytcgmllamiaflcaa
open Go.RowKit

end Go.Proofs.Ytcgmllamiaflcaa

/- Weights: sums and looks by closures (the program's times, found, outside; Shows' closures). -/
namespace Go.Proofs.Ytcgmllamiaflcaa
open Go.RowKit Go.Sort

end Go.Proofs.Ytcgmllamiaflcaa

/- Weights: what Shows asks of its closures (outside, found, Shows$1, Shows$1$1, Shows$2, checkDistance). -/
namespace Go.Proofs.Ytcgmllamiaflcaa
open Go.RowKit Go.Sort

end Go.Proofs.Ytcgmllamiaflcaa

/- Weights: Shows of the program. -/
namespace Go.Proofs.Ytcgmllamiaflcaa
open Go.RowKit Go.Sort

theorem results_four {fn : Func} {t u v x : Tmp} (h : fn.results = #[.tmp t, .tmp u, .tmp v, .tmp x]) (tmps : Array Value) (P : Program) (w : World) :
    (results fn tmps).run P w = .ok (.tuple #[tmps.getD t undef, tmps.getD u undef, tmps.getD v undef, tmps.getD x undef]) w := by
  simp [results, h]

end Go.Proofs.Ytcgmllamiaflcaa

/- Plain mathematics: sets that are great and meet little are few (Johnson). No Go text here. -/
namespace Go.Proofs.Ytcgmllamiaflcaa

theorem ct_mono {p p' : Nat → Bool} : ∀ n, (∀ i, i < n → p i = true → p' i = true) → ct p n ≤ ct p' n
  | 0, _ => Nat.le_refl _
  | n + 1, h => by
    have h1 := ct_mono n (fun i hi => h i (by omega))
    have h2 := h n (by omega)
    show ct p n + (if p n = true then 1 else 0) ≤ ct p' n + if p' n = true then 1 else 0
    by_cases e : p n = true
    · rw [if_pos e, if_pos (h2 e)]; omega
    · rw [if_neg e]; omega
end Go.Proofs.Ytcgmllamiaflcaa

/- Plain mathematics of Sudan's sum: a message that agrees at many places makes it nought. No Go text here. -/
namespace Go.Proofs.Ytcgmllamiaflcaa
open Go.RowKit Go.Sort

theorem pw_xp {D : FD} (hD : D ∈ fieldsL) {a : Nat} (h0 : a ≠ 0) : ∀ k, D.pw a k = D.xp a k
  | 0 => pw_zero hD a
  | k + 1 => by
    show _ = D.mul (D.xp a k) a
    rw [← pw_xp hD h0 k, pw_succ hD a k h0]
theorem pn_xp {D : FD} (hD : D ∈ fieldsL) {a : Nat} (ha : a < D.q) (k : Nat) : D.pn a k = D.xp a k := by
  have hh : D.has (a : Nat) = true := decide_eq_true ⟨by omega, by omega⟩
  unfold FD.pn FD.powZ
  rw [if_neg (by rw [hh]; decide)]
  cases k with
  | zero => rfl
  | succ k =>
    rw [if_neg (by omega)]
    by_cases h0 : a = 0
    · subst h0
      rw [if_pos (by rfl), if_neg (by omega)]
      show 0 = D.mul (D.xp 0 k) 0
      rw [mul0 (fld hD)]
    · rw [if_neg (by omega), ← pw_xp hD h0]
      rw [Int.toNat_natCast]
      have e : (((k + 1 : Nat) : Int) % ((D.q - 1 : Nat) : Int)).toNat = (k + 1) % (D.q - 1) := by
        have e0 : ((k + 1 : Nat) : Int) % ((D.q - 1 : Nat) : Int) = (((k + 1) % (D.q - 1) : Nat) : Int) := rfl
        rw [e0, Int.toNat_natCast]
      rw [e, Int.toNat_natCast]
      unfold FD.pw
      rw [Nat.mul_mod_mod]

theorem ev_congr {D : FD} {c d : Nat → Nat} (x : Nat) : ∀ n, (∀ i, i < n → c i = d i) → D.ev c x n = D.ev d x n
  | 0, _ => rfl
  | n + 1, h => by
    show D.ad (D.ev c x n) (D.mul (c n) (D.xp x n)) = D.ad (D.ev d x n) (D.mul (d n) (D.xp x n))
    rw [ev_congr x n (fun i hi => h i (by omega)), h n (by omega)]
end Go.Proofs.Ytcgmllamiaflcaa

/- Plain mathematics of Sudan's sum, second part: the curve of a message that agrees at t places is nought. No Go text here. -/
namespace Go.Proofs.Ytcgmllamiaflcaa
open Go.RowKit Go.Sort

theorem ct_same {p p' : Nat → Bool} : ∀ n, (∀ i, i < n → p i = p' i) → ct p n = ct p' n
  | 0, _ => rfl
  | n + 1, h => by
    show ct p n + (if p n = true then 1 else 0) = ct p' n + if p' n = true then 1 else 0
    rw [ct_same n (fun i hi => h i (by omega)), h n (by omega)]
theorem trd_le {n m : Nat} {c : Nat → Nat} (h : Trd m c) (hb : Bd n c) : m ≤ n := by
  refine Nat.le_of_not_lt fun hl => ?_
  exact h.2 (by omega) (hb (m - 1) (by omega))
end Go.Proofs.Ytcgmllamiaflcaa
