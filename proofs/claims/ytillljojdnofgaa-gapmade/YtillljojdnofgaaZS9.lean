/- Texts of ours, one behind the other: S9 Y4 W10 Y5 S10 S11 Z1 Z2 Z3 Z4 Z5 Z6 Z7 Z8 Z9 Z10 Z11 Z12 Q1 Q2. -/
import Derived.Test.YtillljojdnofgaaZS3
import Derived.Maps.AppendAt
import Derived.Deep.AppendLies
import Derived.Test.YtillljojdnofgaaZW9
import Derived.Test.YtillljojdnofgaaZM8
import Derived.Test.YtillljojdnofgaaZR5
import Derived.Test.YtillljojdnofgaaZL1
import Derived.Test.YtillljojdnofgaaZU17
import Derived.Test.YtillljojdnofgaaZU21
import Derived.Test.YtillljojdnofgaaZL10
/- Equations that can be met, and the rules of shorter length. -/
namespace Go.Proofs.Ytillljojdnofgaa
open Go.RowKit Go.Sort

end Go.Proofs.Ytillljojdnofgaa

/- The reference's Rules: does the rule hold? -/
namespace Go.Proofs.Ytillljojdnofgaa
open Go.RowKit Go.Sort

end Go.Proofs.Ytillljojdnofgaa

/- 'append' of one number, and where its list lies then. -/
namespace Go.Proofs.Ytillljojdnofgaa
open Go.RowKit Go.Sort

end Go.Proofs.Ytillljojdnofgaa

/- The reference's Shortest: is there no shorter rule? What it keeps. -/
namespace Go.Proofs.Ytillljojdnofgaa
open Go.RowKit Go.Sort

end Go.Proofs.Ytillljojdnofgaa

/- Lists that a rule makes: the shortest rule of enough of them makes the rest. -/
namespace Go.Proofs.Ytillljojdnofgaa
open Go.RowKit Go.Sort

end Go.Proofs.Ytillljojdnofgaa

/- A polynomial that is not nought has fewer roots than coefficients; words of few coefficients are far apart. -/
namespace Go.Proofs.Ytillljojdnofgaa
open Go.RowKit Go.Sort

end Go.Proofs.Ytillljojdnofgaa

/- The program's words (reed): values, Check and Encode where all may be. -/
namespace Go.Proofs.Ytillljojdnofgaa
open Go.RowKit Go.Sort

end Go.Proofs.Ytillljojdnofgaa

/- Places and a dimension: may they be? The program's Check, the reference's ReedMay, whatever they are given. -/
namespace Go.Proofs.Ytillljojdnofgaa
open Go.RowKit Go.Sort

end Go.Proofs.Ytillljojdnofgaa

/- The reference's ReedMay, whatever it is given. -/
namespace Go.Proofs.Ytillljojdnofgaa
open Go.RowKit Go.Sort

end Go.Proofs.Ytillljojdnofgaa

/- A word that came: may it be? The program's Word. -/
namespace Go.Proofs.Ytillljojdnofgaa
open Go.RowKit Go.Sort

end Go.Proofs.Ytillljojdnofgaa

/- A word that came: the reference's ReedWord. -/
namespace Go.Proofs.Ytillljojdnofgaa
open Go.RowKit Go.Sort

end Go.Proofs.Ytillljojdnofgaa

/- Whole words, and how many messages there are: the program's checkWhole, messages, digits; the law's wholeWord; the reference's Few. -/
namespace Go.Proofs.Ytillljojdnofgaa
open Go.RowKit Go.Sort

end Go.Proofs.Ytillljojdnofgaa

/- How many messages there are, and each by its number: the reference's Few, the program's messages, digits. -/
namespace Go.Proofs.Ytillljojdnofgaa
open Go.RowKit Go.Sort

/-- The digits of a number, the greatest first. -/
def dgs (q k a : Nat) : Nat → Nat := fun j => if j < k then a / q ^ (k - 1 - j) % q else 0
end Go.Proofs.Ytillljojdnofgaa

/- At how many places a message's word differs: the reference's Off, of whole words. -/
namespace Go.Proofs.Ytillljojdnofgaa
open Go.RowKit Go.Sort

end Go.Proofs.Ytillljojdnofgaa

/- All near messages: the program's Within. -/
namespace Go.Proofs.Ytillljojdnofgaa
open Go.RowKit Go.Sort

end Go.Proofs.Ytillljojdnofgaa

/- All near messages: the reference's Near. -/
namespace Go.Proofs.Ytillljojdnofgaa
open Go.RowKit Go.Sort

theorem dnum_dgs' {q k a : Nat} (hq : 2 ≤ q) (ha : a < q ^ k) : ∀ i, i ≤ k → dnum q (dgs q k a) i = a / q ^ (k - i)
  | 0, _ => by rw [Nat.sub_zero, Nat.div_eq_of_lt ha]; rfl
  | i + 1, hi => by
    rw [dnum, dnum_dgs' hq ha i (by omega)]
    unfold dgs
    rw [if_pos (by omega), show k - 1 - i = k - (i + 1) from by omega]
    obtain ⟨b, hb⟩ : ∃ b, b = a / q ^ (k - (i + 1)) := ⟨_, rfl⟩
    have e : a / q ^ (k - i) = b / q := by
      rw [hb, Nat.div_div_eq_div_mul, ← Nat.pow_succ, show (k - (i + 1)).succ = k - i from by omega]
    rw [e, ← hb, Nat.mul_comm]
    exact Nat.div_add_mod b q
theorem dnum_dgs {q k a : Nat} (hq : 2 ≤ q) (ha : a < q ^ k) : dnum q (dgs q k a) k = a := by
  rw [dnum_dgs' hq ha k (Nat.le_refl _), Nat.sub_self, Nat.pow_zero, Nat.div_one]
theorem dgs_lt {q k a : Nat} (hq : 2 ≤ q) (j : Nat) : dgs q k a j < q := by
  unfold dgs
  split
  · exact Nat.mod_lt _ (by omega)
  · omega
/-- The digits, and a 1 behind them. -/
def dgm (q k a : Nat) : Nat → Nat := fun j => if j = k then 1 else dgs q k a j
theorem dgm_mn {D : FD} (F : Fld D) (k a : Nat) : Mn D k (dgm D.q k a) := by
  refine ⟨fun j => ?_, fun j hj => ?_, if_pos rfl⟩
  · unfold dgm
    split
    · exact one_lt' F
    · exact dgs_lt F.q2 j
  · unfold dgm dgs
    rw [if_neg (by omega), if_neg (by omega)]
theorem dgm_lo {q k a j : Nat} (hj : j < k) : dgm q k a j = dgs q k a j := if_neg (by omega)
theorem dgs_next {D : FD} (F : Fld D) {k a : Nat} {c : Nat → Nat} (ha : a < D.q ^ k) (hc : Mn D k c) (h : Aft D k (dgm D.q k a) k c) : a + 1 < D.q ^ k ∧ ∀ j, j < k → c j = dgs D.q k (a + 1) j := by
  have h1 : dnum D.q c k = a + 1 := by
    rcases h with ⟨_, h⟩ | ⟨h, _⟩
    · rw [h, dnum_congr (e := dgs D.q k a) k (fun j hj => dgm_lo hj), dnum_dgs F.q2 ha]
    · omega
  have h2 : a + 1 < D.q ^ k := by rw [← h1]; exact dnum_lt k (fun i _ => hc.el i)
  exact ⟨h2, dnum_inj k (fun i _ => hc.el i) (fun i _ => dgs_lt F.q2 i) (by rw [h1, dnum_dgs F.q2 h2])⟩
theorem dgs_last {D : FD} (F : Fld D) {k a : Nat} (ha : a < D.q ^ k) (h : ∀ j, 0 ≤ j → j < k → dgm D.q k a j = D.q - 1) : a + 1 = D.q ^ k := by
  have h1 : ∀ i, i ≤ k → dnum D.q (dgs D.q k a) i + 1 = D.q ^ i := fun i => by
    induction i with
    | zero => intro _; rfl
    | succ i ih =>
      intro hi
      have h2 := h i (by omega) (by omega)
      rw [dgm_lo (by omega)] at h2
      have h3 := F.q2
      rw [dnum, h2, Nat.pow_succ, ← ih (by omega), Nat.add_mul]
      omega
  have h2 := h1 k (Nat.le_refl _)
  rw [dnum_dgs F.q2 ha] at h2; exact h2
theorem dgs_zero {q k j : Nat} : dgs q k 0 j = 0 := by
  unfold dgs
  split
  · rw [Nat.zero_div, Nat.zero_mod]
  · rfl
end Go.Proofs.Ytillljojdnofgaa

/- All near messages: the walk of the reference's Near. -/
namespace Go.Proofs.Ytillljojdnofgaa
open Go.RowKit Go.Sort

end Go.Proofs.Ytillljojdnofgaa

/- What it says that places, a dimension and a whole word may be; the calls that say no. -/
namespace Go.Proofs.Ytillljojdnofgaa
open Go.RowKit Go.Sort

end Go.Proofs.Ytillljojdnofgaa

/- Sudan's products in their order, and how a list of numbers is parted by them: plain mathematics. -/
namespace Go.Proofs.Ytillljojdnofgaa
open Go.RowKit

end Go.Proofs.Ytillljojdnofgaa

/- Lists of lists of the call's own that grow at any of their lists. -/
namespace Go.Proofs.Ytillljojdnofgaa
open Go.RowKit Go.Sort

/-- Cell j of a list of lists of the call's own is another one now. -/
theorem OwnV.set {base n rc g : Nat} {ro : Option Addr} {vs : Nat → Value} {w1 : World} (hown : OwnV base (.slice ro n rc) (vl n vs) w1) (hg : ro = some ⟨g, 0, none⟩) (j : Nat) (u : Value) : OwnV base (.slice ro n rc) (vl n fun i => if i = j then u else vs i) (w1.setCell ⟨g, j, none⟩ u) := by
  rcases hown.2 with ⟨h1, _⟩ | ⟨g', cap, cur, hv, hb, hh, hle, hcm, hsz, htake⟩
  · rw [hg] at h1; cases h1
  · rw [hg, vl_len] at hv
    cases hv
    have hlt := lt_of_block hh
    have h' : w1.heap[g] = .cells cur 22 (0, 0) := by simpa [Array.getElem?_eq_getElem hlt] using hh
    refine ⟨by rw [vl_len]; omega, Or.inr ⟨g, rc, cur.setIfInBounds j u, by rw [hg, vl_len], hb, ?_, by rw [vl_len]; rw [vl_len] at hle; exact hle, hcm, by rw [Array.size_setIfInBounds]; exact hsz, ?_⟩⟩
    · show (w1.heap.modify g _)[g]? = _
      rw [Array.getElem?_eq_getElem (by simpa using hlt), Array.getElem_modify_self, h']
      rfl
    · rw [vl_len] at htake ⊢
      apply List.ext_getElem?
      intro i
      have h3 : (cur.toList.take (n * 1))[i]? = (vl n vs)[i]? := by rw [htake]
      rw [List.getElem?_take] at h3 ⊢
      by_cases hi : i < n * 1
      · rw [if_pos hi] at h3 ⊢
        have hik : i < n := by omega
        rw [vl_get n vs i hik] at h3
        rw [vl_get n _ i hik, Array.getElem?_toList, Array.getElem?_setIfInBounds]
        rw [Array.getElem?_toList] at h3
        by_cases e : j = i
        · rw [if_pos e, if_pos (by have := (Array.getElem?_eq_some_iff.1 h3).1; omega), if_pos e.symm]
        · rw [if_neg e, if_neg (fun x => e x.symm)]; exact h3
      · rw [if_neg hi, List.getElem?_eq_none (by rw [vl_len]; omega)]
end Go.Proofs.Ytillljojdnofgaa
