/- Texts of ours, one behind the other: S10 S11 Z1 Z2 Z3 Z4 Z5 Z6 Z7 Z8 Z9 Z10 Z11 Z12 Q1 Q2 W11 Q3 Q4 Q5 Q6 I1 I2 I3 I4 I5 I6 I7 I8 I9 I10 I11 I12 I13 I14. -/
import Derived.Test.YtlljaliemldjkaaZT8
import Derived.Test.YtlljaliemldjkaaZR5
import Derived.Test.YtlljaliemldjkaaZL1
import Derived.Test.YtlljaliemldjkaaZU5
import Derived.Test.YtlljaliemldjkaaZV7
import Derived.Test.YtlljaliemldjkaaZL10
import Derived.Deep.RegionHeld3
import Derived.WalkKit
/- Lists that a rule makes: the shortest rule of enough of them makes the rest. -/
namespace Go.Proofs.Ytlljaliemldjkaa
open Go.RowKit Go.Sort

end Go.Proofs.Ytlljaliemldjkaa

/- A polynomial that is not nought has fewer roots than coefficients; words of few coefficients are far apart. -/
namespace Go.Proofs.Ytlljaliemldjkaa
open Go.RowKit Go.Sort

/-- How many of the first n. -/
def ct (p : Nat → Bool) : Nat → Nat
  | 0 => 0
  | n + 1 => ct p n + if p n = true then 1 else 0
end Go.Proofs.Ytlljaliemldjkaa

/- The program's words (reed): values, Check and Encode where all may be. -/
namespace Go.Proofs.Ytlljaliemldjkaa
open Go.RowKit Go.Sort

end Go.Proofs.Ytlljaliemldjkaa

/- Places and a dimension: may they be? The program's Check, the reference's ReedMay, whatever they are given. -/
namespace Go.Proofs.Ytlljaliemldjkaa
open Go.RowKit Go.Sort

end Go.Proofs.Ytlljaliemldjkaa

/- The reference's ReedMay, whatever it is given. -/
namespace Go.Proofs.Ytlljaliemldjkaa
open Go.RowKit Go.Sort

end Go.Proofs.Ytlljaliemldjkaa

/- A word that came: may it be? The program's Word. -/
namespace Go.Proofs.Ytlljaliemldjkaa
open Go.RowKit Go.Sort

end Go.Proofs.Ytlljaliemldjkaa

/- A word that came: the reference's ReedWord. -/
namespace Go.Proofs.Ytlljaliemldjkaa
open Go.RowKit Go.Sort

end Go.Proofs.Ytlljaliemldjkaa

/- Whole words, and how many messages there are: the program's checkWhole, messages, digits; the law's wholeWord; the reference's Few. -/
namespace Go.Proofs.Ytlljaliemldjkaa
open Go.RowKit Go.Sort

end Go.Proofs.Ytlljaliemldjkaa

/- How many messages there are, and each by its number: the reference's Few, the program's messages, digits. -/
namespace Go.Proofs.Ytlljaliemldjkaa
open Go.RowKit Go.Sort

/-- The digits of a number, the greatest first. -/
def dgs (q k a : Nat) : Nat → Nat := fun j => if j < k then a / q ^ (k - 1 - j) % q else 0
end Go.Proofs.Ytlljaliemldjkaa

/- At how many places a message's word differs: the reference's Off, of whole words. -/
namespace Go.Proofs.Ytlljaliemldjkaa
open Go.RowKit Go.Sort

end Go.Proofs.Ytlljaliemldjkaa

/- All near messages: the program's Within. -/
namespace Go.Proofs.Ytlljaliemldjkaa
open Go.RowKit Go.Sort

end Go.Proofs.Ytlljaliemldjkaa

/- All near messages: the reference's Near. -/
namespace Go.Proofs.Ytlljaliemldjkaa
open Go.RowKit Go.Sort

theorem dnum_dgs' {q k a : Nat} (hq : 2 ≤ q) (ha : a < q ^ k) : ∀ i, i ≤ k → dnum q (dgs q k a) i = a / q ^ (k - i)
  | 0, _ => by rw [Nat.sub_zero, Nat.div_eq_of_lt ha]; rfl
  | i + 1, hi => by
    rw [dnum, dnum_dgs' hq ha i (by omega)]
    unfold dgs
    rw [if_pos (by omega), show k - 1 - i = k - (i + 1) from by omega]
    obtain ⟨b, hb⟩ : ∃ b, b = a / q ^ (k - (i + 1)) := ⟨_, rfl⟩
    have e : a / q ^ (k - i) = b / q := by
      rw [hb, Nat.div_div_eq_div_mul, ← Nat.pow_succ, show (k - (i + 1)).succ = k - i from by omega]
    rw [e, ← hb, Nat.mul_comm]
    exact Nat.div_add_mod b q
theorem dnum_dgs {q k a : Nat} (hq : 2 ≤ q) (ha : a < q ^ k) : dnum q (dgs q k a) k = a := by
  rw [dnum_dgs' hq ha k (Nat.le_refl _), Nat.sub_self, Nat.pow_zero, Nat.div_one]
theorem dgs_lt {q k a : Nat} (hq : 2 ≤ q) (j : Nat) : dgs q k a j < q := by
  unfold dgs
  split
  · exact Nat.mod_lt _ (by omega)
  · omega
end Go.Proofs.Ytlljaliemldjkaa

/- All near messages: the walk of the reference's Near. -/
namespace Go.Proofs.Ytlljaliemldjkaa
open Go.RowKit Go.Sort

end Go.Proofs.Ytlljaliemldjkaa

/- What it says that places, a dimension and a whole word may be; the calls that say no. -/
namespace Go.Proofs.Ytlljaliemldjkaa
open Go.RowKit Go.Sort

end Go.Proofs.Ytlljaliemldjkaa

/- Sudan's products in their order, and how a list of numbers is parted by them: plain mathematics. -/
namespace Go.Proofs.Ytlljaliemldjkaa
open Go.RowKit

end Go.Proofs.Ytlljaliemldjkaa

/- Lists of lists of the call's own that grow at any of their lists. -/
namespace Go.Proofs.Ytlljaliemldjkaa
open Go.RowKit Go.Sort

/-- Cell j of a list of lists of the call's own is another one now. -/
theorem OwnV.set {base n rc g : Nat} {ro : Option Addr} {vs : Nat → Value} {w1 : World} (hown : OwnV base (.slice ro n rc) (vl n vs) w1) (hg : ro = some ⟨g, 0, none⟩) (j : Nat) (u : Value) : OwnV base (.slice ro n rc) (vl n fun i => if i = j then u else vs i) (w1.setCell ⟨g, j, none⟩ u) := by
  rcases hown.2 with ⟨h1, _⟩ | ⟨g', cap, cur, hv, hb, hh, hle, hcm, hsz, htake⟩
  · rw [hg] at h1; cases h1
  · rw [hg, vl_len] at hv
    cases hv
    have hlt := lt_of_block hh
    have h' : w1.heap[g] = .cells cur 22 (0, 0) := by simpa [Array.getElem?_eq_getElem hlt] using hh
    refine ⟨by rw [vl_len]; omega, Or.inr ⟨g, rc, cur.setIfInBounds j u, by rw [hg, vl_len], hb, ?_, by rw [vl_len]; rw [vl_len] at hle; exact hle, hcm, by rw [Array.size_setIfInBounds]; exact hsz, ?_⟩⟩
    · show (w1.heap.modify g _)[g]? = _
      rw [Array.getElem?_eq_getElem (by simpa using hlt), Array.getElem_modify_self, h']
      rfl
    · rw [vl_len] at htake ⊢
      apply List.ext_getElem?
      intro i
      have h3 : (cur.toList.take (n * 1))[i]? = (vl n vs)[i]? := by rw [htake]
      rw [List.getElem?_take] at h3 ⊢
      by_cases hi : i < n * 1
      · rw [if_pos hi] at h3 ⊢
        have hik : i < n := by omega
        rw [vl_get n vs i hik] at h3
        rw [vl_get n _ i hik, Array.getElem?_toList, Array.getElem?_setIfInBounds]
        rw [Array.getElem?_toList] at h3
        by_cases e : j = i
        · rw [if_pos e, if_pos (by have := (Array.getElem?_eq_some_iff.1 h3).1; omega), if_pos e.symm]
        · rw [if_neg e, if_neg (fun x => e x.symm)]; exact h3
      · rw [if_neg hi, List.getElem?_eq_none (by rw [vl_len]; omega)]
end Go.Proofs.Ytlljaliemldjkaa

/- A region that draws its order and whose last operation, which waits for all others, writes what another one reads. No Go text here. -/
namespace Go.Proofs.Ytlljaliemldjkaa
open Go

/-- Does number L wait for number i? -/
def waitsB (ops : Array Oper) (L i : Nat) : Bool := ((ops[L]?).map fun o => o.after.any fun e => Region.binds .any e && e.on == i).getD false
end Go.Proofs.Ytlljaliemldjkaa

/- The program's products: pairs of powers, two cells each. -/
namespace Go.Proofs.Ytlljaliemldjkaa
open Go.RowKit Go.Sort

end Go.Proofs.Ytlljaliemldjkaa

/- The program's valuesAt: all products at an x and a y. -/
namespace Go.Proofs.Ytlljaliemldjkaa
open Go.RowKit Go.Sort

end Go.Proofs.Ytlljaliemldjkaa

/- The program's byPowers: numbers laid by their powers of y. -/
namespace Go.Proofs.Ytlljaliemldjkaa
open Go.RowKit Go.Sort

end Go.Proofs.Ytlljaliemldjkaa

/- The program's Sudan. -/
namespace Go.Proofs.Ytlljaliemldjkaa
open Go.RowKit Go.Sort

end Go.Proofs.Ytlljaliemldjkaa

/- Codes: what is said of one (the program's code.Check, the reference's CodeMay). -/
namespace Go.Proofs.Ytlljaliemldjkaa
open Go.RowKit Go.Sort

end Go.Proofs.Ytlljaliemldjkaa

/- Codes: the reference's CodeMay. -/
namespace Go.Proofs.Ytlljaliemldjkaa
open Go.RowKit Go.Sort

end Go.Proofs.Ytlljaliemldjkaa

/- Independent rows: the reduced form has as many; what makes nothing 0 but 0. Plain mathematics. -/
namespace Go.Proofs.Ytlljaliemldjkaa
open Go.RowKit

end Go.Proofs.Ytlljaliemldjkaa

/- Codes: one form, and the dual (the program's oneForm, unit, dual). -/
namespace Go.Proofs.Ytlljaliemldjkaa
open Go.RowKit Go.Sort

end Go.Proofs.Ytlljaliemldjkaa

/- Codes: the rows that tell one place each (unit), and the dual. -/
namespace Go.Proofs.Ytlljaliemldjkaa
open Go.RowKit Go.Sort

end Go.Proofs.Ytlljaliemldjkaa

/- Codes: a word, and another one so many times (span.Plus). -/
namespace Go.Proofs.Ytlljaliemldjkaa
open Go.RowKit Go.Sort

end Go.Proofs.Ytlljaliemldjkaa

/- Sums of codes: plain mathematics. -/
namespace Go.Proofs.Ytlljaliemldjkaa
open Go.RowKit

end Go.Proofs.Ytlljaliemldjkaa

/- Sums of codes: what is left of rows (the program's sum), its state. -/
namespace Go.Proofs.Ytlljaliemldjkaa
open Go.RowKit Go.Sort

end Go.Proofs.Ytlljaliemldjkaa

/- Sums of codes: the program's sum. -/
namespace Go.Proofs.Ytlljaliemldjkaa
open Go.RowKit Go.Sort

end Go.Proofs.Ytlljaliemldjkaa

/- Sums of codes and what both have: the program's checkBoth, Sum, Meet. -/
namespace Go.Proofs.Ytlljaliemldjkaa
open Go.RowKit Go.Sort

end Go.Proofs.Ytlljaliemldjkaa

/- Sums of codes and what both have: the program's Sum and Meet of codes that may be. -/
namespace Go.Proofs.Ytlljaliemldjkaa
open Go.RowKit Go.Sort

end Go.Proofs.Ytlljaliemldjkaa

/- Codes: one form and the dual, of the reference (Made, DualOf). -/
namespace Go.Proofs.Ytlljaliemldjkaa
open Go.RowKit Go.Sort

end Go.Proofs.Ytlljaliemldjkaa

/- Codes: rows of two codes in one list; what both have, of the reference (Both). -/
namespace Go.Proofs.Ytlljaliemldjkaa
open Go.RowKit Go.Sort

end Go.Proofs.Ytlljaliemldjkaa

/- CodePairs: codes held against one another; the ways on which there is nothing. -/
namespace Go.Proofs.Ytlljaliemldjkaa
open Go.RowKit Go.Sort

end Go.Proofs.Ytlljaliemldjkaa
