/- Texts of ours, one behind the other: X17 O2 O3 U23 H1 H2 H3 H4 S8 Y1 Y2 Y3 Z2 Z3. -/
import Derived.Test.YtmbglikcanchbacZX9
import Derived.Test.YtmbglikcanchbacZL10
import Derived.Test.YtmbglikcanchbacZT2
import Derived.Test.YtmbglikcanchbacZW7
import Derived.Test.YtmbglikcanchbacZR9
import Derived.Test.YtmbglikcanchbacZL1
/- The program's matrices: is a number in a list (slices.Contains); the rows that make a reduced form 0 (madeNought). -/
namespace Go.Proofs.Ytmbglikcanchbac
open Go.RowKit

/-- c rows of n numbers, each made by the call itself and appended to a list of its own. -/
structure NSt (base n c : Nat) (NR : Nat → Nat → Nat) (v : Value) (h : Nat → Nat) (wr : World) : Prop where
  own : OwnV base v (vl c fun i => .slice (some ⟨h i, 0, none⟩) n n) wr
  row : ∀ i, i < c → Row (h i) n (NR i) wr
  ge : ∀ i, i < c → base ≤ h i
  inj : ∀ i, i < c → ∀ j, j < c → h i = h j → i = j
theorem NSt.below {base n c : Nat} {NR : Nat → Nat → Nat} {v : Value} {h : Nat → Nat} {w w' : World} (H : NSt base n c NR v h w) (hb : Below w.heap.size w w') : NSt base n c NR v h w' :=
  ⟨H.own.below hb (Nat.le_refl _), fun i hi => (H.row i hi).below hb (H.row i hi).lt, H.ge, H.inj⟩
theorem NSt.congr {base n c : Nat} {NR NR' : Nat → Nat → Nat} {v : Value} {h : Nat → Nat} {w : World} (H : NSt base n c NR v h w) (e : ∀ i, i < c → NR i = NR' i) : NSt base n c NR' v h w :=
  ⟨H.own, fun i hi => by rw [← e i hi]; exact H.row i hi, H.ge, H.inj⟩
theorem NSt.push {base n c g : Nat} {NR : Nat → Nat → Nat} {d : Nat → Nat} {v v' : Value} {h : Nat → Nat} {w w' : World} (H : NSt base n c NR v h w) (hr : Row g n d w) (hg : base ≤ g) (hlt : ∀ i, i < c → h i < g) (ho : OwnV base v' (vl c (fun i => .slice (some ⟨h i, 0, none⟩) n n) ++ [.slice (some ⟨g, 0, none⟩) n n]) w') (hgr : w.grownBy w' v.ownBlock) :
    NSt base n (c + 1) (fun i => if i = c then d else NR i) v' (fun i => if i = c then g else h i) w' := by
  have hkeep : ∀ {b : Nat} {e : Nat → Nat}, Row b n e w → Row b n e w' := fun {b e} hb => hb.other (hgr.block b hb.lt (fun e' => hb.apart H.own e'))
  refine ⟨?_, fun i hi => ?_, fun i hi => ?_, fun i hi j hj e => ?_⟩
  · have e : vl (c + 1) (fun i => Value.slice (some ⟨if i = c then g else h i, 0, none⟩) n n) = vl c (fun i => .slice (some ⟨h i, 0, none⟩) n n) ++ [.slice (some ⟨g, 0, none⟩) n n] := by
      unfold vl
      rw [List.range_succ, List.map_append]
      congr 1
      · exact List.map_congr_left (fun j hj => by rw [if_neg (by have := List.mem_range.1 hj; omega)])
      · simp
    rw [e]; exact ho
  · by_cases e : i = c
    · simp only [if_pos e]; exact hkeep hr
    · simp only [if_neg e]; exact hkeep (H.row i (by omega))
  · by_cases e : i = c
    · simp only [if_pos e]; exact hg
    · simp only [if_neg e]; exact H.ge i (by omega)
  · by_cases e1 : i = c
    · by_cases e2 : j = c
      · omega
      · simp only [if_pos e1, if_neg e2] at e
        have := hlt j (by omega); omega
    · by_cases e2 : j = c
      · simp only [if_neg e1, if_pos e2] at e
        have := hlt i (by omega); omega
      · simp only [if_neg e1, if_neg e2] at e
        exact H.inj i (by omega) j (by omega) e
theorem NSt.mx {base n c : Nat} {NR : Nat → Nat → Nat} {v : Value} {h : Nat → Nat} {w : World} (H : NSt base n c NR v h w) (hc : 0 < c) : ∃ G mc, v = .slice (some ⟨G, 0, none⟩) c mc ∧ Mx base G mc c n NR h w := by
  rcases H.own.2 with ⟨h1, h2⟩ | ⟨g, cap, cur, hv, hb, hh, hle, hcm, hsz, htake⟩
  · rw [vl_len] at h2; omega
  · rw [vl_len] at hv hle htake
    have hsz' : cur.size = cap := by omega
    refine ⟨g, cap, hv, ⟨⟨fun o => (cur[o]?).getD undef, ⟨cur, hh, hsz', fun o ho => ?_⟩, fun i hi => ?_⟩, H.row, hb, H.ge, H.inj, fun i hi e => ?_, by omega⟩⟩
    · show cur[o]? = some ((cur[o]?).getD undef)
      rw [Array.getElem?_eq_getElem (by omega)]; rfl
    · have h3 : (cur.toList.take (c * 1))[i]? = (vl c fun i => Value.slice (some ⟨h i, 0, none⟩) n n)[i]? := by rw [htake]
      rw [List.getElem?_take, if_pos (by omega), vl_get _ _ i hi, Array.getElem?_toList] at h3
      show (cur[i]?).getD undef = _
      rw [h3]; rfl
    · have := (H.row i hi).apart H.own
      rw [hv, e] at this
      exact this rfl
theorem NSt.nil {base n : Nat} {NR : Nat → Nat → Nat} {v : Value} {h : Nat → Nat} {w : World} (H : NSt base n 0 NR v h w) (hv : ∀ k, v.ownBlock = some k → False) : v = .slice none 0 0 := by
  rcases H.own.2 with ⟨h1, h2⟩ | ⟨g, cap, cur, hv', hb, _⟩
  · exact h1
  · exact absurd (by rw [hv']; rfl) (hv g)

end Go.Proofs.Ytmbglikcanchbac

/- A list of lists of numbers that a statement is given, opened. -/
namespace Go.Proofs.Ytmbglikcanchbac
open Go.ChangeShapes Go.WideShapes Go.ChangeAt Go.RowKit

/-- A matrix that is handed in: m lists of whatever length. -/
structure MatO (ao : Option Addr) (m : Nat) (A : Nat → Option Addr) (N C : Nat → Nat) (Z : Nat → Nat → Int) (w : World) : Prop where
  cell : ∀ i, i < m → ∃ b off, ao = some ⟨b, off, none⟩ ∧ w.cell? ⟨b, off + i, none⟩ = some (.slice (A i) (N i) (C i))
  sl : ∀ i, i < m → SlZ (A i) (N i) (Z i) w
  le : ∀ i, i < m → N i ≤ C i
  cap : ∀ i, i < m → C i ≤ 9223372036854775807
  nil : ∀ i, i < m → A i = none → C i = 0
end Go.Proofs.Ytmbglikcanchbac

/- How heavy a list of lists is that a statement is given. -/
namespace Go.Proofs.Ytmbglikcanchbac
open Go.RowKit Go.Sort

end Go.Proofs.Ytmbglikcanchbac

/- The program's polynomials: a sum with an empty list, wherever that lies. -/
namespace Go.Proofs.Ytmbglikcanchbac
open Go.RowKit Go.Sort

end Go.Proofs.Ytmbglikcanchbac

/- Curves (lists.Curve): what both sides reckon; the calls that they make. -/
namespace Go.Proofs.Ytmbglikcanchbac
open Go.RowKit Go.Sort

theorem OwnP.arg {base n : Nat} {v : Value} {c : Nat → Nat} {w : World} (h : OwnP base v n c w) (hn : n ≤ 1000000) : ∃ so sc, v = .slice so n sc ∧ Arg so n sc (fun j => ((c j : Nat) : Int)) w := by
  obtain ⟨so, sc, rfl, h1, h2, _, h4, h5, h6⟩ := h.open
  exact ⟨so, sc, rfl, h6, h4, hn, h5, h1, h2⟩
theorem MatZ.arg {ao : Option Addr} {m : Nat} {A : Nat → Option Addr} {N C : Nat → Nat} {Z : Nat → Nat → Int} {w : World} (h : MatZ ao m A N C Z w) {j : Nat} (hj : j < m) (hN : N j ≠ 0) : Arg (A j) (N j) (C j) (Z j) w := by
  refine ⟨h.sl j hj, fun x hx => ?_, h.few j hj, h.nil j hj, h.le j hj, h.cap j hj⟩
  obtain ⟨b, off, e, hc⟩ := h.sl j hj 0 (by omega)
  rw [hx] at e
  cases e
  exact cell_lt hc
end Go.Proofs.Ytmbglikcanchbac

/- Curves: the program's, and the reference's. -/
namespace Go.Proofs.Ytmbglikcanchbac
open Go.RowKit Go.Sort

end Go.Proofs.Ytmbglikcanchbac

/- Curves: the reference's. -/
namespace Go.Proofs.Ytmbglikcanchbac
open Go.RowKit Go.Sort

end Go.Proofs.Ytmbglikcanchbac

/- ListsCurve: the walk of the statement, whatever it is given. -/
namespace Go.Proofs.Ytmbglikcanchbac
open Go.RowKit Go.Sort

end Go.Proofs.Ytmbglikcanchbac

/- Plain mathematics: the shortest rule of a list (Berlekamp and Massey). -/
namespace Go.Proofs.Ytmbglikcanchbac

/-- The rule C of length L holds for the first N numbers of s. -/
def Gen (D : FD) (s C : Nat → Nat) (L N : Nat) : Prop := ∀ t, L ≤ t → t < N → pmul D (L + 1) C s t = 0
/-- A rule of length L. -/
structure Rul (D : FD) (C : Nat → Nat) (L : Nat) : Prop where
  el : El D C
  bd : Bd (L + 1) C
  one : C 0 = 1
/-- The state when i numbers are seen: the rule, its length; an older rule, what it missed. -/
structure BMS (D : FD) (s : Nat → Nat) (i : Nat) (C : Nat → Nat) (lc L : Nat) (O : Nat → Nat) (lo b : Nat) : Prop where
  rul : Rul D C L
  bdc : Bd lc C
  lcL : lc ≤ L + 1
  lc1 : 1 ≤ lc
  le : L ≤ i
  gen : Gen D s C L i
  min : ∀ C' L', Rul D C' L' → Gen D s C' L' i → L ≤ L'
  elo : El D O
  bdo : Bd lo O
  loL : lo ≤ i + 1 - L
  bq : b < D.q
  b0 : b ≠ 0
  old : L = 0 ∨ (1 ≤ i ∧ (∀ t, i - L ≤ t → t + 1 < i → pmul D lo O s t = 0) ∧ pmul D lo O s (i - 1) = b)
end Go.Proofs.Ytmbglikcanchbac

/- The program's rules (reed): trim, missed, less. -/
namespace Go.Proofs.Ytmbglikcanchbac
open Go.RowKit Go.Sort

end Go.Proofs.Ytmbglikcanchbac

/- The program's rules (reed): the shortest one (shortest, Massey). -/
namespace Go.Proofs.Ytmbglikcanchbac
open Go.RowKit Go.Sort

theorem Arg.drewN {ao : Option Addr} {n cap : Nat} {z : Nat → Int} {w : World} (h : Arg ao n cap z w) (k : Nat) : Arg ao n cap z (w.drewN k) := ⟨h.sl, h.lt, h.few, h.nil, h.le, h.cap⟩

end Go.Proofs.Ytmbglikcanchbac

/- The program's Massey; lists that are far too long. -/
namespace Go.Proofs.Ytmbglikcanchbac
open Go.RowKit Go.Sort

end Go.Proofs.Ytmbglikcanchbac

/- Places and a dimension: may they be? The program's Check, the reference's ReedMay, whatever they are given. -/
namespace Go.Proofs.Ytmbglikcanchbac
open Go.RowKit Go.Sort

end Go.Proofs.Ytmbglikcanchbac

/- The reference's ReedMay, whatever it is given. -/
namespace Go.Proofs.Ytmbglikcanchbac
open Go.RowKit Go.Sort

end Go.Proofs.Ytmbglikcanchbac
