/- Texts of ours, one behind the other: S8 Y1 Y2 Y3 S9 S10 S11 Z1 Z2 Z3 Z4 Z5 Z6 Z7 Z8 Z9 Z10 Z11 Z12 W11 I1 I2 I3. -/
import Derived.Test.YtmbglikcanchbadZV7
import Derived.Test.YtmbglikcanchbadZS4
import Derived.Test.YtmbglikcanchbadZL10
import Derived.Test.YtmbglikcanchbadZN2
import Derived.Test.YtmbglikcanchbadZR8
import Derived.Test.YtmbglikcanchbadZL1
import Derived.Test.YtmbglikcanchbadZX1
import Derived.Test.YtmbglikcanchbadZU10
import Derived.Test.YtmbglikcanchbadZS2
import Derived.Deep.RegionHeld3
import Derived.WalkKit
/- Plain mathematics: the shortest rule of a list (Berlekamp and Massey). -/
namespace Go.Proofs.Ytmbglikcanchbad

/-- The rule C of length L holds for the first N numbers of s. -/
def Gen (D : FD) (s C : Nat → Nat) (L N : Nat) : Prop := ∀ t, L ≤ t → t < N → pmul D (L + 1) C s t = 0
/-- A rule of length L. -/
structure Rul (D : FD) (C : Nat → Nat) (L : Nat) : Prop where
  el : El D C
  bd : Bd (L + 1) C
  one : C 0 = 1
/-- The state when i numbers are seen: the rule, its length; an older rule, what it missed. -/
structure BMS (D : FD) (s : Nat → Nat) (i : Nat) (C : Nat → Nat) (lc L : Nat) (O : Nat → Nat) (lo b : Nat) : Prop where
  rul : Rul D C L
  bdc : Bd lc C
  lcL : lc ≤ L + 1
  lc1 : 1 ≤ lc
  le : L ≤ i
  gen : Gen D s C L i
  min : ∀ C' L', Rul D C' L' → Gen D s C' L' i → L ≤ L'
  elo : El D O
  bdo : Bd lo O
  loL : lo ≤ i + 1 - L
  bq : b < D.q
  b0 : b ≠ 0
  old : L = 0 ∨ (1 ≤ i ∧ (∀ t, i - L ≤ t → t + 1 < i → pmul D lo O s t = 0) ∧ pmul D lo O s (i - 1) = b)
end Go.Proofs.Ytmbglikcanchbad

/- The program's rules (reed): trim, missed, less. -/
namespace Go.Proofs.Ytmbglikcanchbad
open Go.RowKit Go.Sort

end Go.Proofs.Ytmbglikcanchbad

/- The program's rules (reed): the shortest one (shortest, Massey). -/
namespace Go.Proofs.Ytmbglikcanchbad
open Go.RowKit Go.Sort

theorem Arg.drewN {ao : Option Addr} {n cap : Nat} {z : Nat → Int} {w : World} (h : Arg ao n cap z w) (k : Nat) : Arg ao n cap z (w.drewN k) := ⟨h.sl, h.lt, h.few, h.nil, h.le, h.cap⟩

end Go.Proofs.Ytmbglikcanchbad

/- The program's Massey; lists that are far too long. -/
namespace Go.Proofs.Ytmbglikcanchbad
open Go.RowKit Go.Sort

end Go.Proofs.Ytmbglikcanchbad

/- Equations that can be met, and the rules of shorter length. -/
namespace Go.Proofs.Ytmbglikcanchbad
open Go.RowKit Go.Sort

/-- The sum of the products, place by place. -/
def dt (D : FD) (u v : Nat → Nat) : Nat → Nat
  | 0 => 0
  | n + 1 => D.ad (dt D u v n) (D.mul (u n) (v n))
end Go.Proofs.Ytmbglikcanchbad

/- Lists that a rule makes: the shortest rule of enough of them makes the rest. -/
namespace Go.Proofs.Ytmbglikcanchbad
open Go.RowKit Go.Sort

/-- Each number from the place n on is that sum of those ahead. -/
def Made (D : FD) (c : Nat → Nat) (n : Nat) (s : Nat → Nat) (N : Nat) : Prop := ∀ t, n ≤ t → t < N → s t = dt D c (fun k => s (t - 1 - k)) n
end Go.Proofs.Ytmbglikcanchbad

/- A polynomial that is not nought has fewer roots than coefficients; words of few coefficients are far apart. -/
namespace Go.Proofs.Ytmbglikcanchbad
open Go.RowKit Go.Sort

end Go.Proofs.Ytmbglikcanchbad

/- The program's words (reed): values, Check and Encode where all may be. -/
namespace Go.Proofs.Ytmbglikcanchbad
open Go.RowKit Go.Sort

end Go.Proofs.Ytmbglikcanchbad

/- Places and a dimension: may they be? The program's Check, the reference's ReedMay, whatever they are given. -/
namespace Go.Proofs.Ytmbglikcanchbad
open Go.RowKit Go.Sort

end Go.Proofs.Ytmbglikcanchbad

/- The reference's ReedMay, whatever it is given. -/
namespace Go.Proofs.Ytmbglikcanchbad
open Go.RowKit Go.Sort

end Go.Proofs.Ytmbglikcanchbad

/- A word that came: may it be? The program's Word. -/
namespace Go.Proofs.Ytmbglikcanchbad
open Go.RowKit Go.Sort

end Go.Proofs.Ytmbglikcanchbad

/- A word that came: the reference's ReedWord. -/
namespace Go.Proofs.Ytmbglikcanchbad
open Go.RowKit Go.Sort

end Go.Proofs.Ytmbglikcanchbad

/- Whole words, and how many messages there are: the program's checkWhole, messages, digits; the law's wholeWord; the reference's Few. -/
namespace Go.Proofs.Ytmbglikcanchbad
open Go.RowKit Go.Sort

end Go.Proofs.Ytmbglikcanchbad

/- How many messages there are, and each by its number: the reference's Few, the program's messages, digits. -/
namespace Go.Proofs.Ytmbglikcanchbad
open Go.RowKit Go.Sort

end Go.Proofs.Ytmbglikcanchbad

/- At how many places a message's word differs: the reference's Off, of whole words. -/
namespace Go.Proofs.Ytmbglikcanchbad
open Go.RowKit Go.Sort

end Go.Proofs.Ytmbglikcanchbad

/- All near messages: the program's Within. -/
namespace Go.Proofs.Ytmbglikcanchbad
open Go.RowKit Go.Sort

end Go.Proofs.Ytmbglikcanchbad

/- All near messages: the reference's Near. -/
namespace Go.Proofs.Ytmbglikcanchbad
open Go.RowKit Go.Sort

end Go.Proofs.Ytmbglikcanchbad

/- All near messages: the walk of the reference's Near. -/
namespace Go.Proofs.Ytmbglikcanchbad
open Go.RowKit Go.Sort

theorem LLx.push {g base : Nat} {v v' u : Value} {l : List Value} {L : List (Nat × (Nat → Nat))} {p : Nat × (Nat → Nat)} {w w' : World} (h1 : OwnV base v l w) (h2 : Elms l L w) (h3 : ∀ u ∈ l, u.ownBlock ≠ some g) (hu : Elm u p w) (hne : u.ownBlock ≠ some g) (ho : OwnV base v' (l ++ [u]) w') (hg : w.grownBy w' v.ownBlock) : LLx g base v' (L ++ [p]) w' := by
  refine ⟨_, ho, (h2.snoc hu).grown h1 hg, fun x hx => ?_⟩
  rcases List.mem_append.1 hx with hx | hx
  · exact h3 x hx
  · rw [List.mem_singleton.1 hx]; exact hne

end Go.Proofs.Ytmbglikcanchbad

/- What it says that places, a dimension and a whole word may be; the calls that say no. -/
namespace Go.Proofs.Ytmbglikcanchbad
open Go.RowKit Go.Sort

end Go.Proofs.Ytmbglikcanchbad

/- A region that draws its order and whose last operation, which waits for all others, writes what another one reads. No Go text here. -/
namespace Go.Proofs.Ytmbglikcanchbad
open Go

end Go.Proofs.Ytmbglikcanchbad

/- Codes: what is said of one (the program's code.Check, the reference's CodeMay). -/
namespace Go.Proofs.Ytmbglikcanchbad
open Go.RowKit Go.Sort

/-- A code's cells, in block b. -/
structure CB (b : Nat) (q n : Int) (v : Value) (w : World) : Prop where
  c0 : w.cell? ⟨b, 0, none⟩ = some (.int .i64 q)
  c1 : w.cell? ⟨b, 1, none⟩ = some (.int .i64 n)
  c2 : w.cell? ⟨b, 2, none⟩ = some v
theorem CB.new (q n : Int) (v : Value) (w : World) : CB w.heap.size q n v (w.alloc (.cells #[.int .i64 q, .int .i64 n, v] 58)) :=
  ⟨by rw [cell_of_row _ _ _ _ _ (0, 0) (two_new _)]; rfl, by rw [cell_of_row _ _ _ _ _ (0, 0) (two_new _)]; rfl, by rw [cell_of_row _ _ _ _ _ (0, 0) (two_new _)]; rfl⟩
theorem CB.below {b B : Nat} {q n : Int} {v : Value} {w w' : World} (h : CB b q n v w) (hb : Below B w w') (hB : b < B) : CB b q n v w' := by
  have e : ∀ o, w'.cell? ⟨b, o, none⟩ = w.cell? ⟨b, o, none⟩ := fun o => by simp [World.cell?, hb.block b hB]
  exact ⟨(e 0).trans h.c0, (e 1).trans h.c1, (e 2).trans h.c2⟩
theorem CB.keep {b : Nat} {q n : Int} {v : Value} {w w' : World} (h : CB b q n v w) (hb : Below w.heap.size w w') : CB b q n v w' := h.below hb (cell_lt h.c0)
/-- What is said of a code. -/
def FD.cchk (D : FD) (n : Int) (m : Nat) (N : Nat → Nat) (Z : Nat → Nat → Int) : Int := if n < 1 ∨ 64 < n then 4 else if D.mchk m N Z ≠ 0 then D.mchk m N Z else if 0 < m ∧ ((N 0 : Nat) : Int) ≠ n then 3 else 0

set_option maxHeartbeats 4000000 in
set_option maxRecDepth 100000 in
theorem ccheck_any {D : FD} (hD : D ∈ fieldsL) {ao : Option Addr} {m ca : Nat} {A : Nat → Option Addr} {N C : Nat → Nat} {Z : Nat → Nat → Int} (n : Int) {w : World} (hA : MatZ ao m A N C Z w) (hm : m ≤ 1000000) :
    Calls Try.prog 122 #[.agg #[.int .i64 D.q, .int .i64 n, .slice ao m ca]] w fun e w' => e = .returned (.int .i64 (D.cchk n m N Z)) ∧ Below w.heap.size w w' := by
  obtain ⟨wa, hwa⟩ : ∃ wa, wa = w.alloc (.cells #[.int .i64 D.q, .int .i64 n, .slice ao m ca] 58) := ⟨_, rfl⟩
  have hba : Below w.heap.size w wa := by rw [hwa]; exact (Below.refl _ _).alloc (Nat.le_refl _) _
  have HA : Hid (D ∈ fieldsL ∧ MatZ ao m A N C Z w ∧ Below w.heap.size w wa ∧ CB w.heap.size D.q n (.slice ao m ca) wa ∧ wa.heap.size = w.heap.size + 1) := ⟨hD, hA, hba, by rw [hwa]; exact CB.new _ _ _ _, by rw [hwa]; simp⟩
  obtain ⟨e0, he0⟩ : ∃ e0, e0 = D.mchk m N Z := ⟨_, rfl⟩
  obtain ⟨E, hE⟩ : ∃ E, E = D.cchk n m N Z := ⟨_, rfl⟩
  rw [← hE]
  have HE : Hid (E = D.cchk n m N Z ∧ e0 = D.mchk m N Z) := ⟨hE, he0⟩
  clear hD hA hba he0 hE
  go_enter Try.func122, Try.ntmps122
  go_wp2_with fail
  rw [← hwa]
  clear hwa
  refine (new_any HA.out.1 wa).mono ?_
  rintro e w1 ⟨F, T, g, rfl, _, _, _, hb1⟩
  have H1 : Hid (Below w.heap.size w w1 ∧ CB w.heap.size D.q n (.slice ao m ca) w1 ∧ w.heap.size < w1.heap.size) := by
    have := hb1.size
    have := HA.out.2.2.2.2
    exact ⟨bel_up' HA.out.2.2.1 hb1, HA.out.2.2.2.1.keep hb1, by omega⟩
  clear hb1
  have hcb := H1.out.2.1
  obtain ⟨c0, c1, c2⟩ := hcb
  by_cases h1 : n < 1
  · have HF : Hid (E = 4) := by show E = 4; rw [HE.out.1]; unfold FD.cchk; rw [if_pos (Or.inl h1)]
    go_wp2
    go_ret
    exact ⟨by rw [HF.out]; rfl, H1.out.1⟩
  · by_cases h2 : 64 < n
    · have HF : Hid (E = 4) := by show E = 4; rw [HE.out.1]; unfold FD.cchk; rw [if_pos (Or.inr h2)]
      go_wp2
      go_ret
      exact ⟨by rw [HF.out]; rfl, H1.out.1⟩
    · have HF : Hid (E = if e0 ≠ 0 then e0 else if 0 < m ∧ ((N 0 : Nat) : Int) ≠ n then 3 else 0) := by show E = _; rw [HE.out.1, HE.out.2]; unfold FD.cchk; rw [if_neg (by omega)]
      go_wp2_with fail
      refine (mcheck_any HA.out.1 (HA.out.2.1.below H1.out.1) hm).mono ?_
      rintro e w2 ⟨rfl, hb2⟩
      rw [← HE.out.2]
      have H2 : Hid (Below w.heap.size w w2 ∧ CB w.heap.size D.q n (.slice ao m ca) w2) := ⟨bel_up' H1.out.1 hb2, H1.out.2.1.keep hb2⟩
      clear hb2 c0 c1 c2
      have hcb := H2.out.2
      obtain ⟨c0, c1, c2⟩ := hcb
      by_cases hz : e0 = 0
      · have hz1 : (e0 != 0) = false := by rw [hz]; rfl
        by_cases hm0 : 0 < m
        · obtain ⟨b, off, hao, hc⟩ := (HA.out.2.1.below H2.out.1).cell 0 hm0
          subst hao
          have hmb : (0 : Int) < (m : Int) := by omega
          have hc : w2.cell? ⟨b, off, none⟩ = some (.slice (A 0) (N 0) (C 0)) := hc
          obtain ⟨N0, hN0⟩ : ∃ N0, N0 = N 0 := ⟨_, rfl⟩
          rw [← hN0] at hc
          have HG : Hid (E = if ((N0 : Nat) : Int) ≠ n then 3 else 0) := by
            show E = _
            rw [HF.out, if_neg (fun h => h hz), hN0]
            by_cases h : ((N 0 : Nat) : Int) ≠ n
            · rw [if_pos h, if_pos ⟨hm0, h⟩]
            · rw [if_neg h, if_neg (fun x => h x.2)]
          clear hN0
          have hd : decide ((0 : Int) < (m : Int)) = true := decide_eq_true hmb
          by_cases hn : ((N0 : Nat) : Int) = n
          · have HG2 : Hid (E = 0) := by show E = 0; rw [HG.out, if_neg (fun h => h hn)]
            have hnb : (((N0 : Nat) : Int) != n) = false := by rw [bne_eq_false_iff_eq]; exact hn
            clear hn
            go_wp2
            go_quiet (fail)
            go_wp2
            go_ret
            exact ⟨by rw [HG2.out]; rfl, below_drewN2 H2.out.1 _⟩
          · have HG2 : Hid (E = 3) := by show E = 3; rw [HG.out, if_pos hn]
            have hnb : (((N0 : Nat) : Int) != n) = true := by rw [bne_iff_ne]; exact hn
            clear hn
            go_wp2
            go_quiet (fail)
            go_wp2
            go_ret
            exact ⟨by rw [HG2.out]; rfl, below_drewN2 H2.out.1 _⟩
        · have HG : Hid (E = 0) := by show E = 0; rw [HF.out, if_neg (fun h => h hz), if_neg (fun h => hm0 h.1)]
          have hd : decide ((0 : Int) < (m : Int)) = false := decide_eq_false (by omega)
          go_wp2
          go_quiet (fail)
          go_wp2
          go_ret
          exact ⟨by rw [HG.out]; rfl, below_drewN2 H2.out.1 _⟩
      · have hz1 : (e0 != 0) = true := by rw [bne_iff_ne]; exact hz
        have HG : Hid (E = e0) := by show E = e0; rw [HF.out, if_pos hz]
        go_wp2
        go_ret
        exact ⟨by rw [HG.out]; rfl, H2.out.1⟩
end Go.Proofs.Ytmbglikcanchbad

/- Codes: the reference's CodeMay. -/
namespace Go.Proofs.Ytmbglikcanchbad
open Go.RowKit Go.Sort

end Go.Proofs.Ytmbglikcanchbad

/- Independent rows: the reduced form has as many; what makes nothing 0 but 0. Plain mathematics. -/
namespace Go.Proofs.Ytmbglikcanchbad
open Go.RowKit

end Go.Proofs.Ytmbglikcanchbad
