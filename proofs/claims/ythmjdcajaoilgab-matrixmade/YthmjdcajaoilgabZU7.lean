/- Texts of ours, one behind the other: U7 U8 U9 U10 U11 U12 U13 U14 U15 U16 U17 V1 V2 V3 W5 V4 V5. -/
import Derived.Test.YthmjdcajaoilgabZU2
import Derived.Test.YthmjdcajaoilgabZN2
import Derived.Test.YthmjdcajaoilgabZR13
import Derived.Lib.QuietBelow
/- The program's division of polynomials. -/
namespace Go.Proofs.Ythmjdcajaoilgab
open Go.RowKit

theorem inv_nat' {F T : Nat} {D : FD} (hD : D ∈ fieldsL) {g : Nat → Value} {w : World} (h : FAt F T D g w) {x : Nat} (hx : x < D.q) (h0 : x ≠ 0) :
    Calls Try.prog 133 #[.pointer (some ⟨F, 0, none⟩), .int .i64 x] w fun e w' => e = .returned (.int .i64 (D.iv x : Nat)) ∧ ∃ n, w' = w.drewN n := by
  have k := inv_any hD h x
  rw [inv_nat hD hx h0] at k
  exact k
theorem subZ_nat {D : FD} (F : Fld D) {a b : Nat} (ha : a < D.q) (hb : b < D.q) : D.subZ a b = (D.sb a b : Nat) := by
  rw [FD.subZ, FD.negZ, if_pos (nat_has hb), Int.toNat_natCast, addZ_nat F ha (F.neg_lt b hb)]; rfl
theorem OwnP.setOther {base n : Nat} {v : Value} {c : Nat → Nat} {w : World} (h : OwnP base v n c w) (a : Addr) (ha : ∀ g, v.ownBlock = some g → g ≠ a.block) (u : Value) : OwnP base v n c (w.setCell a u) := by
  obtain ⟨ao, cap, rfl, h1, h2, hg, hl, hz, hr⟩ := h
  refine ⟨ao, cap, rfl, h1, h2, hg, fun x hx => by simpa [World.setCell] using hl x hx, hz, fun h0 => ?_⟩
  obtain ⟨g, rfl, hrow⟩ := hr h0
  exact ⟨g, rfl, hrow.other (Below.heap_setCell _ _ _ _ (ha g rfl))⟩
theorem OwnP.store {base n cap g : Nat} {c d : Nat → Nat} {w : World} (h : OwnP base (.slice (some ⟨g, 0, none⟩) n cap) n c w) (k u : Nat) (h0 : 0 < n) (hd : ∀ j, j < n → d j = if j = k then u else c j) :
    OwnP base (.slice (some ⟨g, 0, none⟩) n cap) n d (w.setCell ⟨g, k, none⟩ (.int .i64 (u : Nat))) := by
  obtain ⟨ao, cap', hv, h1, h2, hg, hl, hz, hr⟩ := h
  simp only [Value.slice.injEq, true_and] at hv
  obtain ⟨rfl, rfl⟩ := hv
  obtain ⟨g', e, hrow⟩ := hr h0
  cases e
  exact ⟨_, cap, rfl, h1, h2, hg, fun x hx => by simpa [World.setCell] using hl x hx, fun e => (by cases e), fun _ => ⟨g, rfl, hrow.store k u hd⟩⟩

theorem OwnP.row {base n cap : Nat} {ao : Option Addr} {c : Nat → Nat} {w : World} (h : OwnP base (.slice ao n cap) n c w) (h0 : 0 < n) : ∃ g, ao = some ⟨g, 0, none⟩ ∧ base ≤ g ∧ g < w.heap.size ∧ Row g n c w := by
  obtain ⟨ao', cap', hv, h1, h2, hg, hl, hz, hr⟩ := h
  simp only [Value.slice.injEq, true_and] at hv
  obtain ⟨rfl, rfl⟩ := hv
  obtain ⟨g, rfl, hrow⟩ := hr h0
  exact ⟨g, rfl, hg _ rfl, hl _ rfl, hrow⟩

theorem OwnP.trimmed {base n cap : Nat} {ao : Option Addr} {c : Nat → Nat} {w : World} (h : OwnP base (.slice ao n cap) n c w) : OwnP base (.slice ao (dgn c n) cap) (dgn c n) c w := by
  obtain ⟨ao', cap', hv, h1, h2, hg, hl, hz, hr⟩ := h
  simp only [Value.slice.injEq, true_and] at hv
  obtain ⟨rfl, rfl⟩ := hv
  have := dgn_le c n
  refine ⟨_, _, rfl, by omega, h2, hg, hl, hz, fun h0 => ?_⟩
  obtain ⟨g, e, hrow⟩ := hr (by omega)
  exact ⟨g, e, hrow.less this⟩

/-- What is left while one multiple is taken away: j places of it. -/
def pst (D : FD) (b : Nat → Nat) (l inv s : Nat) (r : Nat → Nat) (j : Nat) : Nat → Nat := fun k => if s ≤ k ∧ k < s + j then dstep D b l inv s r k else r k
theorem pst_zero (D : FD) (b : Nat → Nat) (l inv s : Nat) (r : Nat → Nat) : pst D b l inv s r 0 = r := by funext k; unfold pst; rw [if_neg (by omega)]
theorem pst_all {D : FD} (F : Fld D) {b r : Nat → Nat} {l inv s : Nat} (hr : El D r) (hb : Bd (l + 1) b) : pst D b l inv s r (l + 1) = dstep D b l inv s r := by
  funext k
  unfold pst
  by_cases h : s ≤ k ∧ k < s + (l + 1)
  · rw [if_pos h]
  · rw [if_neg h]
    by_cases h2 : k < s
    · exact (dstep_lo F hr h2).symm
    · exact (dstep_hi F hr hb (by omega)).symm
theorem pst_step (D : FD) (b r : Nat → Nat) (l inv s j k : Nat) : pst D b l inv s r (j + 1) k = if k = s + j then dstep D b l inv s r (s + j) else pst D b l inv s r j k := by
  unfold pst
  by_cases h : k = s + j
  · rw [if_pos h, if_pos (by omega), h]
  · rw [if_neg h]
    by_cases h2 : s ≤ k ∧ k < s + j
    · rw [if_pos h2, if_pos (by omega)]
    · rw [if_neg h2, if_neg (by omega)]
theorem pst_at (D : FD) (b r : Nat → Nat) (l inv s j : Nat) : pst D b l inv s r j (s + j) = r (s + j) := by unfold pst; rw [if_neg (by omega)]
theorem el_pst {D : FD} (F : Fld D) {b r : Nat → Nat} {l inv s j : Nat} (hr : El D r) : El D (pst D b l inv s r j) := fun k => by
  unfold pst
  split
  · exact el_dstep F hr k
  · exact hr k
end Go.Proofs.Ythmjdcajaoilgab

/- The program's division of polynomials: the walk. -/
namespace Go.Proofs.Ythmjdcajaoilgab
open Go.RowKit

end Go.Proofs.Ythmjdcajaoilgab

/- The program's polynomials: which may be (Check), and over which field (over). -/
namespace Go.Proofs.Ythmjdcajaoilgab
open Go.RowKit

/-- The first n numbers of the slice that begins at ao are z. -/
def SlZ (ao : Option Addr) (n : Nat) (z : Nat → Int) (w : World) : Prop := ∀ j, j < n → ∃ b off, ao = some ⟨b, off, none⟩ ∧ w.cell? ⟨b, off + j, none⟩ = some (.int .i64 (z j))
theorem SlZ.below {ao : Option Addr} {n B : Nat} {z : Nat → Int} {w w' : World} (h : SlZ ao n z w) (hb : Below B w w') (hB : LtB ao B) : SlZ ao n z w' := fun j hj => by
  obtain ⟨b, off, rfl, hc⟩ := h j hj
  exact ⟨b, off, rfl, ((bcell hb).1 b (off + j) (hB _ rfl)).trans hc⟩
theorem Sl.z {ao : Option Addr} {n : Nat} {c : Nat → Nat} {w : World} (h : Sl ao n c w) : SlZ ao n (fun j => (c j : Nat)) w := h
/-- How many of the first numbers are elements, one after the other. -/
def FD.allHas (D : FD) (z : Nat → Int) : Nat → Bool
  | 0 => true
  | n + 1 => D.allHas z n && D.has (z n)
theorem allHas_iff {D : FD} {z : Nat → Int} : ∀ {n : Nat}, D.allHas z n = true ↔ ∀ j, j < n → D.has (z j) = true
  | 0 => ⟨fun _ j hj => by omega, fun _ => rfl⟩
  | n + 1 => by
    rw [FD.allHas, Bool.and_eq_true, allHas_iff]
    constructor
    · rintro ⟨h1, h2⟩ j hj
      by_cases e : j = n
      · rw [e]; exact h2
      · exact h1 j (by omega)
    · intro h
      exact ⟨fun j hj => h j (by omega), h n (by omega)⟩
/-- What Check says of n numbers. -/
def FD.chk (D : FD) (n : Nat) (z : Nat → Int) : Int := if 128 < n then 4 else if D.allHas z n = true then 0 else 2

/-- What Check says of the first of k lists of which it says anything. -/
def FD.chks (D : FD) (N : Nat → Nat) (Z : Nat → Nat → Int) : Nat → Int
  | 0 => 0
  | k + 1 => if D.chks N Z k = 0 then D.chk (N k) (Z k) else D.chks N Z k
/-- Lists that are handed in, all of them in one slice. -/
structure Many (g k : Nat) (A : Nat → Option Addr) (N C : Nat → Nat) (Z : Nat → Nat → Int) (w : World) : Prop where
  cell : ∀ j, j < k → w.cell? ⟨g, j, none⟩ = some (.slice (A j) (N j) (C j))
  sl : ∀ j, j < k → SlZ (A j) (N j) (Z j) w
  lt : ∀ j, j < k → LtB (A j) w.heap.size
  few : ∀ j, j < k → N j ≤ 1000000
  ltg : g < w.heap.size
theorem Many.below {g k : Nat} {A : Nat → Option Addr} {N C : Nat → Nat} {Z : Nat → Nat → Int} {w w' : World} (h : Many g k A N C Z w) (hb : Below w.heap.size w w') : Many g k A N C Z w' :=
  ⟨fun j hj => ((bcell hb).1 g j h.ltg).trans (h.cell j hj), fun j hj => (h.sl j hj).below hb (h.lt j hj), fun j hj => (h.lt j hj).mono hb.size, h.few, Nat.lt_of_lt_of_le h.ltg hb.size⟩
theorem chks_keep {D : FD} {N : Nat → Nat} {Z : Nat → Nat → Int} {e : Int} (he : e ≠ 0) {r : Nat} (h : D.chks N Z r = e) : ∀ d, D.chks N Z (r + d) = e
  | 0 => h
  | d + 1 => by rw [← Nat.add_assoc, FD.chks, chks_keep he h d, if_neg he]

end Go.Proofs.Ythmjdcajaoilgab

/- The program's polynomials: the calls that are listed: Add. -/
namespace Go.Proofs.Ythmjdcajaoilgab
open Go.RowKit

/-- A list that is handed in: where it lies, how long it is, its numbers. -/
structure Arg (ao : Option Addr) (n cap : Nat) (z : Nat → Int) (w : World) : Prop where
  sl : SlZ ao n z w
  lt : LtB ao w.heap.size
  few : n ≤ 1000000
  nil : ao = none → cap = 0
  le : n ≤ cap
  cap : cap ≤ 9223372036854775807
theorem Arg.below {ao : Option Addr} {n cap : Nat} {z : Nat → Int} {w w' : World} (h : Arg ao n cap z w) (hb : Below w.heap.size w w') : Arg ao n cap z w' :=
  ⟨h.sl.below hb h.lt, h.lt.mono hb.size, h.few, h.nil, h.le, h.cap⟩

def two {α : Type} (x y : α) : Nat → α := fun j => if j = 0 then x else y
theorem many_two {ao bo : Option Addr} {n m ca cb : Nat} {z y : Nat → Int} {w : World} (ha : Arg ao n ca z w) (hb : Arg bo m cb y w) :
    Many w.heap.size 2 (two ao bo) (two n m) (two ca cb) (two z y) (w.alloc (.cells #[.slice ao n ca, .slice bo m cb] 22)) := by
  have hbl : Below w.heap.size w (w.alloc (.cells #[.slice ao n ca, .slice bo m cb] 22)) := (Below.refl _ _).alloc (Nat.le_refl _) _
  have a1 := ha.below hbl
  have b1 := hb.below hbl
  refine ⟨fun j hj => ?_, fun j hj => ?_, fun j hj => ?_, fun j hj => ?_, by simp⟩
  · rw [cell_of_row _ _ _ _ _ (0, 0) (two_new _)]
    rcases j with _ | _ | j
    · rfl
    · rfl
    · omega
  · rcases j with _ | _ | j
    · exact a1.sl
    · exact b1.sl
    · omega
  · rcases j with _ | _ | j
    · exact a1.lt
    · exact b1.lt
    · omega
  · rcases j with _ | _ | j
    · exact a1.few
    · exact b1.few
    · omega
/-- What is said of two lists. -/
def FD.chk2 (D : FD) (n : Nat) (z : Nat → Int) (m : Nat) (y : Nat → Int) : Int := if D.chk n z = 0 then D.chk m y else D.chk n z
theorem chks_two (D : FD) (n m : Nat) (z y : Nat → Int) : D.chks (two n m) (two z y) 2 = D.chk2 n z m y := by
  show (if (if (0 : Int) = 0 then D.chk n z else 0) = 0 then D.chk m y else (if (0 : Int) = 0 then D.chk n z else 0)) = _
  rw [if_pos rfl]; rfl
/-- The coefficients of n numbers that are elements. -/
def zc (n : Nat) (z : Nat → Int) : Nat → Nat := fun j => if j < n then (z j).toNat else 0
theorem zc_bd (n : Nat) (z : Nat → Int) : Bd n (zc n z) := fun k hk => by unfold zc; rw [if_neg (by omega)]
theorem chk_zero {D : FD} {n : Nat} {z : Nat → Int} (h : D.chk n z = 0) : n ≤ 128 ∧ ∀ j, j < n → D.has (z j) = true := by
  unfold FD.chk at h
  by_cases h1 : 128 < n
  · rw [if_pos h1] at h; cases h
  · rw [if_neg h1] at h
    by_cases h2 : D.allHas z n = true
    · exact ⟨by omega, allHas_iff.1 h2⟩
    · rw [if_neg h2] at h; cases h
theorem zc_el {D : FD} (F : Fld D) {n : Nat} {z : Nat → Int} (h : D.chk n z = 0) : El D (zc n z) := fun j => by
  unfold zc
  by_cases e : j < n
  · obtain ⟨x, hx, hxq⟩ := has_nat ((chk_zero h).2 j e)
    rw [if_pos e, hx, Int.toNat_natCast]; exact hxq
  · rw [if_neg e]; exact zero_lt' F
theorem zc_sl {D : FD} {ao : Option Addr} {n : Nat} {z : Nat → Int} {w : World} (h : D.chk n z = 0) (hS : SlZ ao n z w) : Sl ao n (zc n z) w := fun j hj => by
  obtain ⟨b, off, e, hc⟩ := hS j hj
  obtain ⟨x, hx, hxq⟩ := has_nat ((chk_zero h).2 j hj)
  refine ⟨b, off, e, ?_⟩
  rw [hc]
  unfold zc
  rw [if_pos hj, hx, Int.toNat_natCast]
theorem chk2_zero {D : FD} {n m : Nat} {z y : Nat → Int} (h : D.chk2 n z m y = 0) : D.chk n z = 0 ∧ D.chk m y = 0 := by
  unfold FD.chk2 at h
  by_cases e : D.chk n z = 0
  · rw [if_pos e] at h; exact ⟨e, h⟩
  · rw [if_neg e] at h; exact absurd h e

end Go.Proofs.Ythmjdcajaoilgab

/- The program's polynomials: the calls that are listed: Mul, Div, At. -/
namespace Go.Proofs.Ythmjdcajaoilgab
open Go.RowKit

end Go.Proofs.Ythmjdcajaoilgab

/- The program's polynomials: the calls that are listed: Div, At. -/
namespace Go.Proofs.Ythmjdcajaoilgab
open Go.RowKit

/-- The quotient and the rest of two polynomials of n and m coefficients. -/
def FD.quo (D : FD) (a : Nat → Nat) (n : Nat) (b : Nat → Nat) (m : Nat) : Nat → Nat := divQ D b (dgn b m - 1) (D.iv (b (dgn b m - 1))) (n - (dgn b m - 1)) a
def FD.rst (D : FD) (a : Nat → Nat) (n : Nat) (b : Nat → Nat) (m : Nat) : Nat → Nat := divR D b (dgn b m - 1) (D.iv (b (dgn b m - 1))) (n - (dgn b m - 1)) a

end Go.Proofs.Ythmjdcajaoilgab

/- The program's polynomials: the calls that are listed: At, Roots. -/
namespace Go.Proofs.Ythmjdcajaoilgab
open Go.RowKit

theorem arg_one (x : Int) (w : World) : Arg (some ⟨w.heap.size, 0, none⟩) 1 1 (fun _ => x) (w.alloc (.cells #[.int .i64 x] 3)) := by
  refine ⟨fun j hj => ⟨w.heap.size, 0, rfl, ?_⟩, fun a ha => by cases ha; simp, by omega, fun e => (by cases e), Nat.le_refl _, by omega⟩
  rw [cell_of_row _ _ _ _ _ (0, 0) (two_new _), show j = 0 from by omega]; rfl

end Go.Proofs.Ythmjdcajaoilgab

/- The program's polynomials: the calls that are listed: Roots. -/
namespace Go.Proofs.Ythmjdcajaoilgab
open Go.RowKit

theorem many_one {ao : Option Addr} {n ca : Nat} {z : Nat → Int} {w : World} (ha : Arg ao n ca z w) :
    Many w.heap.size 1 (fun _ => ao) (fun _ => n) (fun _ => ca) (fun _ => z) (w.alloc (.cells #[.slice ao n ca] 22)) := by
  have hbl : Below w.heap.size w (w.alloc (.cells #[.slice ao n ca] 22)) := (Below.refl _ _).alloc (Nat.le_refl _) _
  have a1 := ha.below hbl
  refine ⟨fun j hj => ?_, fun j hj => a1.sl, fun j hj => a1.lt, fun j hj => a1.few, by simp⟩
  rw [cell_of_row _ _ _ _ _ (0, 0) (two_new _), show j = 0 from by omega]; rfl
/-- The elements below k at which a polynomial is 0, rising. -/
def FD.rootsL (D : FD) (c : Nat → Nat) (n k : Nat) : List Int := ((List.range k).filter fun x => D.val c n x n == 0).map Int.ofNat
theorem rootsL_yes {D : FD} {c : Nat → Nat} {n k : Nat} (h : D.val c n k n = 0) : D.rootsL c n (k + 1) = D.rootsL c n k ++ [(k : Int)] := by
  unfold FD.rootsL; rw [List.range_succ, List.filter_append, List.map_append]; simp [h]
theorem rootsL_no {D : FD} {c : Nat → Nat} {n k : Nat} (h : ¬ D.val c n k n = 0) : D.rootsL c n (k + 1) = D.rootsL c n k := by
  unfold FD.rootsL; rw [List.range_succ, List.filter_append, List.map_append]; simp [h]
theorem rootsL_len (D : FD) (c : Nat → Nat) (n k : Nat) : (D.rootsL c n k).length ≤ k := by
  unfold FD.rootsL
  rw [List.length_map]
  exact Nat.le_trans (List.length_filter_le _ _) (by simp)

end Go.Proofs.Ythmjdcajaoilgab

/- The program's polynomials: with 1 at the end (monic); the calls that are listed: Gcd. -/
namespace Go.Proofs.Ythmjdcajaoilgab
open Go.RowKit

/-- A polynomial's slice without noughts at the end: where it lies, its coefficients. -/
structure PA (D : FD) (ao : Option Addr) (n cap : Nat) (c : Nat → Nat) (w : World) : Prop where
  sl : Sl ao n c w
  lt : LtB ao w.heap.size
  nil : ao = none → cap = 0
  el : El D c
  trd : Trd n c
theorem PA.below {D : FD} {ao : Option Addr} {n cap : Nat} {c : Nat → Nat} {w w' : World} (h : PA D ao n cap c w) (hb : Below w.heap.size w w') : PA D ao n cap c w' :=
  ⟨h.sl.below hb h.lt, h.lt.mono hb.size, h.nil, h.el, h.trd⟩
theorem PA.drewN {D : FD} {ao : Option Addr} {n cap : Nat} {c : Nat → Nat} {w : World} (h : PA D ao n cap c w) (k : Nat) : PA D ao n cap c (w.drewN k) := ⟨h.sl, h.lt, h.nil, h.el, h.trd⟩
theorem OwnP.pa {D : FD} {base n : Nat} {v : Value} {c : Nat → Nat} {w : World} (h : OwnP base v n c w) (he : El D c) (ht : Trd n c) : ∃ ao cap, v = .slice ao n cap ∧ PA D ao n cap c w := by
  obtain ⟨ao, cap, hv, _, _, _, hl, hz, hs⟩ := h.open
  exact ⟨ao, cap, hv, hs, hl, hz, he, ht⟩

/-- A slice's length. -/
def slLen : Value → Nat
  | .slice _ n _ => n
  | _ => 0

/-- The common divisor of two lists that may be. -/
def FD.gcdL (D : FD) (n : Nat) (z : Nat → Int) (m : Nat) (y : Nat → Int) : (Nat → Nat) × Nat := D.gcd m (zc n z) (dgn (zc n z) n) (zc m y) (dgn (zc m y) m)

end Go.Proofs.Ythmjdcajaoilgab

/- How many there are to try (tooMany, Tries). -/
namespace Go.Proofs.Ythmjdcajaoilgab
open Go.RowKit

theorem pow_big {q i p : Nat} (hq : 1 ≤ q) (h : 4096 < q ^ i) (hp : i ≤ p) : 4096 < q ^ p := Nat.lt_of_lt_of_le h (Nat.pow_le_pow_right hq hp)

end Go.Proofs.Ythmjdcajaoilgab

/- Does an element stand twice in a list (hasTwice)? -/
namespace Go.Proofs.Ythmjdcajaoilgab
open Go.RowKit

/-- Some number stands twice among the first n. -/
def Twice (c : Nat → Nat) (n : Nat) : Prop := ∃ i j, i < j ∧ j < n ∧ c i = c j

end Go.Proofs.Ythmjdcajaoilgab

/- The reference's polynomials: without noughts at the end (Trim); which may be (PolyMay). -/
namespace Go.Proofs.Ythmjdcajaoilgab
open Go.RowKit

end Go.Proofs.Ythmjdcajaoilgab

/- The reference's polynomials: which may be (PolyMay). -/
namespace Go.Proofs.Ythmjdcajaoilgab
open Go.RowKit

end Go.Proofs.Ythmjdcajaoilgab

/- The reference's polynomials: sums (PAdd). -/
namespace Go.Proofs.Ythmjdcajaoilgab
open Go.RowKit

/-- The n coefficients c as a list of numbers. -/
def NL (n : Nat) (c : Nat → Nat) : List Int := (List.range n).map fun k => ((c k : Nat) : Int)
theorem NL_len (n : Nat) (c : Nat → Nat) : (NL n c).length = n := by simp [NL]
theorem NL_succ (n : Nat) (c : Nat → Nat) : NL (n + 1) c = NL n c ++ [((c n : Nat) : Int)] := by unfold NL; rw [List.range_succ, List.map_append]; rfl
theorem NL_get (n : Nat) (c : Nat → Nat) (j : Nat) (hj : j < n) : (NL n c).getD j 0 = ((c j : Nat) : Int) := by
  unfold NL
  rw [List.getD_eq_getElem?_getD, List.getElem?_map, List.getElem?_range hj]; rfl
theorem NL_congr {n : Nat} {c d : Nat → Nat} (h : ∀ k, k < n → c k = d k) : NL n c = NL n d := by
  unfold NL
  exact List.map_congr_left fun k hk => by rw [h k (List.mem_range.1 hk)]
theorem OwnI.ownP {base n : Nat} {v : Value} {c : Nat → Nat} {w : World} (h : OwnI base v (NL n c) w) : OwnP base v n c w := by
  rcases h.2 with ⟨h1, h2⟩ | ⟨g, cap, cur, hv, hg, hh, hle, hcm, hsz, htake⟩
  · rw [NL_len] at h2
    subst h2
    exact ⟨none, 0, h1, Nat.le_refl _, by omega, fun x hx => (by cases hx), fun x hx => (by cases hx), fun _ => rfl, fun h0 => absurd h0 (by omega)⟩
  · rw [NL_len] at hv hle
    refine ⟨_, cap, hv, hle, by unfold maxLen at hcm; omega, fun x hx => (by cases hx; exact hg), fun x hx => (by cases hx; exact lt_of_block hh), fun e => (by cases e), fun h0 => ⟨g, rfl, ?_⟩⟩
    obtain ⟨g', cap', f, hv', hg', hl', hle', hcm', hrow, hf⟩ := h.row n (NL_len n c) h0
    rw [hv'] at hv
    simp only [Value.slice.injEq, Option.some.injEq, Addr.mk.injEq, and_true, true_and] at hv
    obtain ⟨rfl, rfl⟩ := hv
    exact ⟨_, f, hrow, hle', fun k hk => by rw [hf k hk, NL_get n c k hk]⟩

end Go.Proofs.Ythmjdcajaoilgab

/- The same where the calls lay blocks: the worlds in which nothing that was there has turned. No Go text here. -/
namespace Go.Proofs.Ythmjdcajaoilgab
open Go Go.Sort Go.RowKit

theorem quiet_tail_of {P : Program} {C : World → Prop} {id : Nat} {Q : Exit → Act → World → Prop} {a : Act} {w : World} {l : List Oper} (n : Nat) (hm : P.follows .mixedOrders = true) (hB : Region.lexTailB .any l.toArray n = true) (hC : C { w with drawn := w.drawn + 1 })
    (h : wpQuiet P l.toArray C (fun a' => ∀ w', C w' → wpList P l.toArray Q (l.drop n) a' w') (l.take n) a) : (Code.region id l.toArray true).wp P Q a w := by
  simp only [Region.lexTailB, Bool.and_eq_true, decide_eq_true_eq] at hB
  obtain ⟨⟨⟨⟨hsel, hn⟩, hs⟩, hc⟩, hlex⟩ := hB
  have hn' : n < l.length := by simpa using hn
  have htl : (l.take n).length = n := by simp; omega
  have hdl : (l.drop n).length = l.toArray.size - n := by simp
  have inv0 : HeadInv .any l.toArray n (Array.replicate l.toArray.size false) :=
    ⟨by simp, fun j oj _ hl => (by rw [getD_replicate_false] at hl; cases hl), fun t _ ht => getD_in (by simpa using ht) (getD_replicate_false _ _)⟩
  have H := head_lex (g := l.toArray.size - n) hsel hs hc hn (l.take n) 0 _ a (fun j hj => by
    have hj' : j < n := by rw [htl] at hj; exact hj
    simp [hj']) (by simpa using htl) inv0 (by rw [htl]; exact hlex) h
  refine wp_region_any hm ?_
  have R := head_any (Q := Q) (g := l.toArray.size - n) (fun s a' w' hw' hL => by
    have := wpAny_of_seq (md := .any) (Q' := Q) (l.drop n) n s a' w' (fun j => by simp [List.getElem?_drop]) (by rw [hdl]; exact hL.1) (hL.2 w' hw')
    rwa [hdl] at this) _ _ _ _ hC H
  rw [htl, show n + (l.toArray.size - n) = l.toArray.size by omega] at R
  exact R
theorem below_tail {P : Program} {id : Nat} {Q : Exit → Act → World → Prop} {a : Act} {w : World} {l : List Oper} (n : Nat) (hm : P.follows .mixedOrders = true) (hB : Region.lexTailB .any l.toArray n = true)
    (h : wpQuiet P l.toArray (fun w' => ∃ p : Regrown, w' = grow (redrawn w p.d) p.os) (fun a' => ∀ w', (∃ p : Regrown, w' = grow (redrawn w p.d) p.os) → wpList P l.toArray Q (l.drop n) a' w') (l.take n) a) : (Code.region id l.toArray true).wp P Q a w :=
  quiet_tail_of (C := fun w' => ∃ p : Regrown, w' = grow (redrawn w p.d) p.os) n hm hB ⟨⟨w.drawn + 1, #[]⟩, by rw [grow_empty]; rfl⟩ h
theorem free_regrown {w : World} {a : Addr} (ha : a.block < w.heap.size) (h : w.frozen? a = false) (d : Nat) (os : Array Obj) : (grow (redrawn w d) os).frozen? a = false := by
  rw [World.frozen?_of_block (w := w) ((below_regrown w d os).block _ ha)]; exact h
end Go.Proofs.Ythmjdcajaoilgab

/- The reference's polynomials: products (PMul). -/
namespace Go.Proofs.Ythmjdcajaoilgab
open Go.RowKit Go.Sort

end Go.Proofs.Ythmjdcajaoilgab

/- The reference's polynomials: values of a polynomial that came in (value, PAt). -/
namespace Go.Proofs.Ythmjdcajaoilgab
open Go.RowKit

end Go.Proofs.Ythmjdcajaoilgab
