/- Texts of ours, one behind the other: L10 O1 K1 K2 K3 J1 S1 S2 T1 W9 T2 T4 T5 T6. -/
import Derived.Test.YtpgaakjldlcejaaDoorZL9
import Derived.Test.YtpgaakjldlcejaaDoorChecked
import Derived.ProofKit
import Derived.OpenShut
import Derived.ChangeOld
import Derived.ChangeSlices
import Derived.SizedLaws
import Derived.Carry
import Derived.Test.YtpgaakjldlcejaaDoorZV7
/- PolySays: the walk of the statement, whatever it is given. -/
namespace Go.Proofs.YtpgaakjldlcejaaDoor
open Go.RowKit Go.Sort

/-- A list that is handed in, of whatever length. -/
structure ArgL (ao : Option Addr) (n cap : Nat) (z : Nat → Int) (w : World) : Prop where
  sl : SlZ ao n z w
  lt : LtB ao w.heap.size
  nil : ao = none → cap = 0
  le : n ≤ cap
  cap : cap ≤ 9223372036854775807
end Go.Proofs.YtpgaakjldlcejaaDoor

/- A list of numbers that a statement is given, opened. -/
namespace Go.Proofs.YtpgaakjldlcejaaDoor
open Go.ChangeShapes Go.WideShapes Go.ChangeAt Go.RowKit

end Go.Proofs.YtpgaakjldlcejaaDoor

/- What statements make of raw numbers: Raw, Numbers. -/
namespace Go.Proofs.YtpgaakjldlcejaaDoor
open Go.RowKit Go.Sort

/-- A number of the machine. -/
def I64 (r : Int) : Prop := -9223372036854775808 ≤ r ∧ r ≤ 9223372036854775807
end Go.Proofs.YtpgaakjldlcejaaDoor

/- What statements make of raw numbers: different elements (PlacesOf). -/
namespace Go.Proofs.YtpgaakjldlcejaaDoor
open Go.RowKit Go.Sort

end Go.Proofs.YtpgaakjldlcejaaDoor

/- PolyMade: the walk of the statement. -/
namespace Go.Proofs.YtpgaakjldlcejaaDoor
open Go.RowKit Go.Sort

theorem OwnI.argL {base : Nat} {v : Value} {n : Nat} {y : Nat → Int} {w : World} (h : OwnI base v (zl n y) w) : ∃ ao ca, v = .slice ao n ca ∧ ArgL ao n ca y w := by
  rcases h.2 with ⟨h1, h2⟩ | ⟨g, cap, cur, hv, hg, hh, hle, hcm, hsz, htake⟩
  · rw [zl_len] at h2
    subst h2
    exact ⟨none, 0, h1, fun j hj => by omega, fun x hx => (by cases hx), fun _ => rfl, Nat.le_refl _, by omega⟩
  · rw [zl_len] at hv hle
    refine ⟨_, cap, hv, fun j hj => ⟨g, 0, rfl, ?_⟩, fun x hx => (by cases hx; exact lt_of_block hh), fun e => (by cases e), hle, by unfold maxLen at hcm; omega⟩
    obtain ⟨g', cap', e, _, _, hc, _⟩ := h.at (fun e => by
      have := congrArg List.length e
      rw [zl_len] at this
      simp at this
      omega)
    rw [zl_len, hv] at e
    cases e
    rw [Nat.zero_add]
    have := hc j (by rw [zl_len]; exact hj)
    rwa [zl_getD n y j hj] at this
end Go.Proofs.YtpgaakjldlcejaaDoor

/- Calls at polynomials that end with 1: products, parts. -/
namespace Go.Proofs.YtpgaakjldlcejaaDoor
open Go.RowKit

end Go.Proofs.YtpgaakjldlcejaaDoor

/- Plain mathematics: what rows span; the one reduced form of it. No Go text here. -/
namespace Go.Proofs.YtpgaakjldlcejaaDoor

/-- A sum of multiples. -/
def lsum (D : FD) : List (Nat × (Nat → Nat)) → Nat → Nat
  | [] => pnil
  | x :: l => padd D (pscale D x.1 x.2) (lsum D l)
/-- What the rows P span. -/
def Spn (D : FD) (P : (Nat → Nat) → Prop) (v : Nat → Nat) : Prop := ∃ l : List (Nat × (Nat → Nat)), (∀ x, x ∈ l → P x.2) ∧ v = lsum D l
theorem lsum_el {D : FD} (F : Fld D) : ∀ l, El D (lsum D l)
  | [] => el_nil F
  | _ :: l => el_add F (el_scale F _ _) (lsum_el F l)
theorem lsum_app {D : FD} (F : Fld D) : ∀ l m, lsum D (l ++ m) = padd D (lsum D l) (lsum D m)
  | [], m => (nil_padd F (lsum_el F m)).symm
  | x :: l, m => by
    show padd D (pscale D x.1 x.2) (lsum D (l ++ m)) = padd D (padd D (pscale D x.1 x.2) (lsum D l)) (lsum D m)
    rw [lsum_app F l m, padd_assoc F (el_scale F _ _) (lsum_el F l) (lsum_el F m)]
theorem lsum_scale {D : FD} (F : Fld D) (s : Nat) : ∀ l, pscale D s (lsum D l) = lsum D (l.map fun x => (D.mul s x.1, x.2))
  | [] => pscale_nil F s
  | x :: l => by
    show pscale D s (padd D (pscale D x.1 x.2) (lsum D l)) = padd D (pscale D (D.mul s x.1) x.2) (lsum D (l.map fun x => (D.mul s x.1, x.2)))
    rw [pscale_add F s (el_scale F _ _) (lsum_el F l), pscale_pscale F, lsum_scale F s l]
theorem Spn.el {D : FD} (F : Fld D) {P : (Nat → Nat) → Prop} {v : Nat → Nat} (h : Spn D P v) : El D v := by
  obtain ⟨l, _, rfl⟩ := h
  exact lsum_el F l
theorem spn_nil (D : FD) (P : (Nat → Nat) → Prop) : Spn D P pnil := ⟨[], fun x hx => by simp at hx, rfl⟩
theorem spn_mem {D : FD} (F : Fld D) {P : (Nat → Nat) → Prop} {v : Nat → Nat} (he : El D v) (h : P v) : Spn D P v :=
  ⟨[(1, v)], fun x hx => by rw [List.mem_singleton.1 hx]; exact h, by show v = padd D (pscale D 1 v) pnil; rw [pscale_one F he, padd_nil F he]⟩
theorem spn_add {D : FD} (F : Fld D) {P : (Nat → Nat) → Prop} {u v : Nat → Nat} (h : Spn D P u) (k : Spn D P v) : Spn D P (padd D u v) := by
  obtain ⟨l, hl, rfl⟩ := h
  obtain ⟨m, hm, rfl⟩ := k
  exact ⟨l ++ m, fun x hx => by rcases List.mem_append.1 hx with h | h; exact hl x h; exact hm x h, (lsum_app F l m).symm⟩
theorem spn_scale {D : FD} (F : Fld D) {P : (Nat → Nat) → Prop} {v : Nat → Nat} (s : Nat) (h : Spn D P v) : Spn D P (pscale D s v) := by
  obtain ⟨l, hl, rfl⟩ := h
  refine ⟨l.map fun x => (D.mul s x.1, x.2), fun x hx => ?_, lsum_scale F s l⟩
  obtain ⟨y, hy, rfl⟩ := List.mem_map.1 hx
  exact hl y hy
/-- What holds of the rows, and of sums and multiples, holds of all that they span. -/
theorem spn_ind {D : FD} {P Q : (Nat → Nat) → Prop} (h0 : Q pnil) (ha : ∀ u v, Q u → Q v → Q (padd D u v)) (hs : ∀ s v, Q v → Q (pscale D s v)) (hP : ∀ v, P v → Q v) {v : Nat → Nat} (h : Spn D P v) : Q v := by
  obtain ⟨l, hl, rfl⟩ := h
  induction l with
  | nil => exact h0
  | cons x l ih => exact ha _ _ (hs _ _ (hP _ (hl x (List.mem_cons_self ..)))) (ih (fun y hy => hl y (List.mem_cons_of_mem _ hy)))
theorem spn_le {D : FD} (F : Fld D) {P Q : (Nat → Nat) → Prop} (h : ∀ v, P v → Spn D Q v) {v : Nat → Nat} (hv : Spn D P v) : Spn D Q v :=
  spn_ind (spn_nil D Q) (fun _ _ => spn_add F) (fun s _ => spn_scale F s) h hv
theorem spn_sub {D : FD} (F : Fld D) {P : (Nat → Nat) → Prop} {u v : Nat → Nat} (h : Spn D P u) (k : Spn D P v) : Spn D P (psub D u v) := by
  have e : psub D u v = padd D u (pscale D (D.ng 1) v) := by
    funext i
    show D.sb (u i) (v i) = D.ad (u i) (D.mul (D.ng 1) (v i))
    rw [F.mul_comm, mul_ng F (one_lt' F), mul1 F (k.el F i)]
    rfl
  rw [e]
  exact spn_add F h (spn_scale F _ k)

/-- k rows of n numbers in their one form; p: where they begin. -/
structure RRE (D : FD) (n k : Nat) (R : Nat → Nat → Nat) (p : Nat → Nat) : Prop where
  el : ∀ i, i < k → El D (R i)
  bd : ∀ i, i < k → Bd n (R i)
  lt : ∀ i, i < k → p i < n
  mono : ∀ i j, i < j → j < k → p i < p j
  one : ∀ i, i < k → R i (p i) = 1
  zero : ∀ i j, i < k → j < k → i ≠ j → R i (p j) = 0
  lead : ∀ i c, i < k → c < p i → R i c = 0
/-- One of the first k rows. -/
def RowsOf (k : Nat) (R : Nat → Nat → Nat) (v : Nat → Nat) : Prop := ∃ i, i < k ∧ v = R i
/-- The sum of the rows, each as often as v says at its beginning. -/
def lcR (D : FD) (R : Nat → Nat → Nat) (p : Nat → Nat) (v : Nat → Nat) : Nat → Nat → Nat
  | 0 => pnil
  | k + 1 => padd D (lcR D R p v k) (pscale D (v (p k)) (R k))
theorem lcR_el {D : FD} (F : Fld D) (R : Nat → Nat → Nat) (p : Nat → Nat) (v : Nat → Nat) : ∀ k, El D (lcR D R p v k)
  | 0 => el_nil F
  | k + 1 => el_add F (lcR_el F R p v k) (el_scale F _ _)
theorem lcR_nil {D : FD} (F : Fld D) (R : Nat → Nat → Nat) (p : Nat → Nat) (v : Nat → Nat) : ∀ k, (∀ i, i < k → v (p i) = 0) → lcR D R p v k = pnil
  | 0, _ => rfl
  | k + 1, h => by
    rw [lcR, lcR_nil F R p v k (fun i hi => h i (by omega)), h k (by omega), pscale_zero F, padd_nil F (el_nil F)]
theorem lcR_add {D : FD} (F : Fld D) (R : Nat → Nat → Nat) (p : Nat → Nat) {u v : Nat → Nat} (hu : El D u) (hv : El D v) : ∀ k, lcR D R p (padd D u v) k = padd D (lcR D R p u k) (lcR D R p v k)
  | 0 => (padd_nil F (el_nil F)).symm
  | k + 1 => by
    rw [lcR, lcR, lcR, lcR_add F R p hu hv k, show padd D u v (p k) = D.ad (u (p k)) (v (p k)) from rfl, add_pscale F (hu _) (hv _)]
    exact padd4 F (lcR_el F R p u k) (lcR_el F R p v k) (el_scale F _ _) (el_scale F _ _)
theorem lcR_scale {D : FD} (F : Fld D) (R : Nat → Nat → Nat) (p : Nat → Nat) (s : Nat) (v : Nat → Nat) : ∀ k, lcR D R p (pscale D s v) k = pscale D s (lcR D R p v k)
  | 0 => (pscale_nil F s).symm
  | k + 1 => by
    rw [lcR, lcR, lcR_scale F R p s v k, show pscale D s v (p k) = D.mul s (v (p k)) from rfl, ← pscale_pscale F, pscale_add F s (lcR_el F R p v k) (el_scale F _ _)]
theorem lcR_row {D : FD} (F : Fld D) {n K : Nat} {R : Nat → Nat → Nat} {p : Nat → Nat} (h : RRE D n K R p) (j : Nat) (hj : j < K) : ∀ k, k ≤ K → lcR D R p (R j) k = if j < k then R j else pnil
  | 0, _ => by rw [if_neg (by omega)]; rfl
  | k + 1, hk => by
    rw [lcR, lcR_row F h j hj k (by omega)]
    by_cases e : j = k
    · subst e
      rw [if_neg (by omega), if_pos (by omega), h.one j hj, pscale_one F (h.el j hj), nil_padd F (h.el j hj)]
    · rw [h.zero j k hj (by omega) e, pscale_zero F]
      by_cases e2 : j < k
      · rw [if_pos e2, if_pos (by omega), padd_nil F (h.el j hj)]
      · rw [if_neg e2, if_neg (by omega), padd_nil F (el_nil F)]
theorem rre_coord {D : FD} (F : Fld D) {n k : Nat} {R : Nat → Nat → Nat} {p : Nat → Nat} (h : RRE D n k R p) {v : Nat → Nat} (hv : Spn D (RowsOf k R) v) : v = lcR D R p v k := by
  refine (spn_ind (Q := fun v => El D v ∧ v = lcR D R p v k) ⟨el_nil F, (lcR_nil F R p pnil k (fun _ _ => rfl)).symm⟩ ?_ ?_ ?_ hv).2
  · rintro u v ⟨eu, hu⟩ ⟨ev, hv⟩
    exact ⟨el_add F eu ev, by rw [lcR_add F R p eu ev, ← hu, ← hv]⟩
  · rintro s v ⟨ev, hv⟩
    exact ⟨el_scale F _ _, by rw [lcR_scale F, ← hv]⟩
  · rintro v ⟨i, hi, rfl⟩
    exact ⟨h.el i hi, by rw [lcR_row F h i hi k (Nat.le_refl _), if_pos hi]⟩
theorem rre_nil {D : FD} (F : Fld D) {n k : Nat} {R : Nat → Nat → Nat} {p : Nat → Nat} (h : RRE D n k R p) {v : Nat → Nat} (hv : Spn D (RowsOf k R) v) (h0 : ∀ i, i < k → v (p i) = 0) : v = pnil := by
  rw [rre_coord F h hv]
  exact lcR_nil F R p v k h0
theorem lcR_at {D : FD} (F : Fld D) (R : Nat → Nat → Nat) (p v : Nat → Nat) (c : Nat) : ∀ k, (∀ i, i < k → D.mul (v (p i)) (R i c) = 0) → lcR D R p v k c = 0
  | 0, _ => rfl
  | k + 1, h => by
    show D.ad (lcR D R p v k c) (D.mul (v (p k)) (R k c)) = 0
    rw [lcR_at F R p v c k (fun i hi => h i (by omega)), h k (by omega), ad_zero F (zero_lt' F)]
/-- Where what is spanned can begin. -/
def Lead (D : FD) (P : (Nat → Nat) → Prop) (c : Nat) : Prop := ∃ v, Spn D P v ∧ v c ≠ 0 ∧ ∀ c', c' < c → v c' = 0
theorem rre_lead {D : FD} (F : Fld D) {n k : Nat} {R : Nat → Nat → Nat} {p : Nat → Nat} (h : RRE D n k R p) (c : Nat) : Lead D (RowsOf k R) c ↔ ∃ i, i < k ∧ c = p i := by
  constructor
  · rintro ⟨v, hv, h1, h2⟩
    refine Classical.byContradiction fun hn => h1 ?_
    rw [rre_coord F h hv]
    refine lcR_at F R p v c k fun i hi => ?_
    rcases Nat.lt_trichotomy (p i) c with e | e | e
    · rw [h2 _ e, zmul F]
    · exact absurd ⟨i, hi, e.symm⟩ hn
    · rw [h.lead i c hi e, mul0 F]
  · rintro ⟨i, hi, rfl⟩
    exact ⟨R i, spn_mem F (h.el i hi) ⟨i, hi, rfl⟩, by rw [h.one i hi]; omega, fun c' hc => h.lead i c' hi hc⟩
theorem mono_same {k k' : Nat} {p p' : Nat → Nat} (h : ∀ i j, i < j → j < k → p i < p j) (h' : ∀ i j, i < j → j < k' → p' i < p' j) (hs : ∀ c, (∃ i, i < k ∧ c = p i) ↔ (∃ i, i < k' ∧ c = p' i)) : ∀ i, i < k → i < k' ∧ p i = p' i := by
  intro i
  induction i using Nat.strongRecOn with
  | _ i ih =>
    intro hi
    obtain ⟨m, hm, e⟩ := (hs (p i)).1 ⟨i, hi, rfl⟩
    have hmi : i ≤ m := by
      rcases Nat.lt_or_ge m i with hl | hl
      · have h1 := (ih m hl (by omega)).2
        have h2 := h m i hl hi
        omega
      · exact hl
    have hik : i < k' := by omega
    obtain ⟨m', hm', e'⟩ := (hs (p' i)).2 ⟨i, hik, rfl⟩
    have hmi' : i ≤ m' := by
      rcases Nat.lt_or_ge m' i with hl | hl
      · have h1 := (ih m' hl (by omega)).2
        have h2 := h' m' i hl hik
        omega
      · exact hl
    refine ⟨hik, ?_⟩
    have a1 : p' i ≤ p i := by
      rcases Nat.lt_or_ge i m with hl | hl
      · have := h' i m hl hm
        omega
      · rw [e, show m = i from by omega]; exact Nat.le_refl _
    have a2 : p i ≤ p' i := by
      rcases Nat.lt_or_ge i m' with hl | hl
      · have := h i m' hl hm'
        omega
      · rw [e', show m' = i from by omega]; exact Nat.le_refl _
    omega
/-- There is one reduced form. -/
theorem rre_uniq {D : FD} (F : Fld D) {n k k' : Nat} {R R' : Nat → Nat → Nat} {p p' : Nat → Nat} (h : RRE D n k R p) (h' : RRE D n k' R' p') (hs : ∀ v, Spn D (RowsOf k R) v ↔ Spn D (RowsOf k' R') v) : k = k' ∧ ∀ i, i < k → p i = p' i ∧ R i = R' i := by
  have hl : ∀ c, (∃ i, i < k ∧ c = p i) ↔ (∃ i, i < k' ∧ c = p' i) := fun c => by
    rw [← rre_lead F h, ← rre_lead F h']
    exact ⟨fun ⟨v, h1, h2⟩ => ⟨v, (hs v).1 h1, h2⟩, fun ⟨v, h1, h2⟩ => ⟨v, (hs v).2 h1, h2⟩⟩
  have h1 := mono_same h.mono h'.mono hl
  have h2 := mono_same h'.mono h.mono (fun c => (hl c).symm)
  have hk : k = k' := by
    rcases Nat.lt_trichotomy k k' with e | e | e
    · have := (h2 k e).1
      omega
    · exact e
    · have := (h1 k' e).1
      omega
  subst hk
  refine ⟨rfl, fun i hi => ⟨(h1 i hi).2, ?_⟩⟩
  have hd : Spn D (RowsOf k R) (psub D (R i) (R' i)) := spn_sub F (spn_mem F (h.el i hi) ⟨i, hi, rfl⟩) ((hs _).2 (spn_mem F (h'.el i hi) ⟨i, hi, rfl⟩))
  have hz := rre_nil F h hd (fun j hj => by
    show D.sb (R i (p j)) (R' i (p j)) = 0
    rw [(h1 j hj).2]
    by_cases e : i = j
    · subst e
      rw [h'.one i hi, ← (h1 i hi).2, h.one i hi, sb_self F (one_lt' F)]
    · rw [h'.zero i j hi hj e, ← (h1 j hj).2, h.zero i j hi hj e, sb_self F (zero_lt' F)])
  exact psub_eq_nil F (h.el i hi) (h'.el i hi) hz
end Go.Proofs.YtpgaakjldlcejaaDoor

/- Plain mathematics: a row more, put into a reduced form. No Go text here. -/
namespace Go.Proofs.YtpgaakjldlcejaaDoor

theorem spn_congr {D : FD} {P Q : (Nat → Nat) → Prop} (h : ∀ v, P v ↔ Q v) (v : Nat → Nat) : Spn D P v ↔ Spn D Q v :=
  ⟨fun ⟨l, h1, h2⟩ => ⟨l, fun x hx => (h _).1 (h1 x hx), h2⟩, fun ⟨l, h1, h2⟩ => ⟨l, fun x hx => (h _).2 (h1 x hx), h2⟩⟩
end Go.Proofs.YtpgaakjldlcejaaDoor

/- The reference's matrices: a row less another (less). -/
namespace Go.Proofs.YtpgaakjldlcejaaDoor
open Go.RowKit Go.Sort

end Go.Proofs.YtpgaakjldlcejaaDoor

/- Lists of lists of the call's own: others' lists laid behind them (append(v, l...)), also at a step of a region that draws its order. -/
namespace Go.Proofs.YtpgaakjldlcejaaDoor
open Go.RowKit

/-- The first n of vs, as a list. -/
def vl (n : Nat) (vs : Nat → Value) : List Value := (List.range n).map vs
theorem vl_len (n : Nat) (vs : Nat → Value) : (vl n vs).length = n := by simp [vl]
theorem vl_get (n : Nat) (vs : Nat → Value) (j : Nat) (hj : j < n) : (vl n vs)[j]? = some (vs j) := by
  unfold vl
  rw [List.getElem?_map, List.getElem?_range hj]; rfl

theorem OwnV.grown {base : Nat} {v : Value} {l : List Value} {w w' : World} {row : Option Nat} (h : OwnV base v l w) (hg : w.grownBy w' row) (hne : v.ownBlock = none ∨ v.ownBlock ≠ row) : OwnV base v l w' := World.ownsRow.kept h hg hne
theorem OwnV.alloc {base : Nat} {v : Value} {l : List Value} {w : World} (h : OwnV base v l w) (o : Obj) : OwnV base v l (w.alloc o) := World.ownsRow.alloc h o

theorem SlZ.one {g : Nat} {x : Int} {w : World} (h : w.cell? ⟨g, 0, none⟩ = some (.int .i64 x)) : SlZ (some ⟨g, 0, none⟩) 1 (fun _ => x) w := fun j hj => ⟨g, 0, rfl, by rw [show 0 + j = 0 from by omega]; exact h⟩
theorem SlZ.less {ao : Option Addr} {n m : Nat} {z : Nat → Int} {w : World} (h : SlZ ao n z w) (hm : m ≤ n) : SlZ ao m z w := fun j hj => h j (by omega)

theorem slz_below {ao : Option Addr} {n : Nat} {z : Nat → Int} {w w' : World} (h : SlZ ao n z w) (hb : Below w.heap.size w w') : SlZ ao n z w' := fun j hj => by
  obtain ⟨b, off, e, hc⟩ := h j hj
  have hlt : b < w.heap.size := by
    rcases Nat.lt_or_ge b w.heap.size with e | e
    · exact e
    · exfalso
      have h1 : w.heap[b]? = none := Array.getElem?_eq_none e
      simp [World.cell?, h1] at hc
  exact ⟨b, off, e, ((bcell hb).1 b (off + j) hlt).trans hc⟩
end Go.Proofs.YtpgaakjldlcejaaDoor

/- The reference's matrices: rows as they are handed in; a row's first number that is not 0. -/
namespace Go.Proofs.YtpgaakjldlcejaaDoor
open Go.RowKit Go.Sort

theorem cell_lt {w : World} {a : Addr} {v : Value} (h : w.cell? a = some v) : a.block < w.heap.size := by
  rcases Nat.lt_or_ge a.block w.heap.size with e | e
  · exact e
  · exfalso
    have h1 : w.heap[a.block]? = none := Array.getElem?_eq_none e
    simp [World.cell?, h1] at h
/-- The slice u reads as n + 1 elements c. -/
def Rwv (u : Value) (n : Nat) (c : Nat → Nat) (w : World) : Prop := ∃ A ca, u = .slice A (n + 1) ca ∧ Sl A (n + 1) c w ∧ LtB A w.heap.size ∧ (A = none → ca = 0) ∧ n + 1 ≤ ca ∧ ca ≤ 9223372036854775807
theorem Rwv.below {u : Value} {n : Nat} {c : Nat → Nat} {w w' : World} (h : Rwv u n c w) (hb : Below w.heap.size w w') : Rwv u n c w' := by
  obtain ⟨A, ca, h1, h2, h3, h4, h5, h6⟩ := h
  exact ⟨A, ca, h1, h2.below hb h3, h3.mono hb.size, h4, h5, h6⟩
/-- The slice of slices that begins at ao: m rows M of n + 1 elements. -/
def MatR (ao : Option Addr) (m n : Nat) (M : Nat → Nat → Nat) (w : World) : Prop := ∀ i, i < m → ∃ b off u, ao = some ⟨b, off, none⟩ ∧ w.cell? ⟨b, off + i, none⟩ = some u ∧ Rwv u n (M i) w
theorem MatR.below {ao : Option Addr} {m n : Nat} {M : Nat → Nat → Nat} {w w' : World} (h : MatR ao m n M w) (hb : Below w.heap.size w w') : MatR ao m n M w' := fun i hi => by
  obtain ⟨b, off, u, e, hc, hr⟩ := h i hi
  exact ⟨b, off, u, e, ((bcell hb).1 b (off + i) (cell_lt hc)).trans hc, hr.below hb⟩
/-- A list of numbers is no list of lists. -/
theorem OwnI.apart {base base' : Nat} {u v : Value} {l : List Int} {l' : List Value} {w : World} (h : OwnI base u l w) (h' : OwnV base' v l' w) : u.ownBlock = none ∨ u.ownBlock ≠ v.ownBlock := by
  rcases h.2 with ⟨h1, _⟩ | ⟨g, cap, cur, hv, _, hh, _⟩
  · left; rw [h1]; rfl
  · right
    rcases h'.2 with ⟨h2, _⟩ | ⟨g', cap', cur', hv', _, hh', _⟩
    · rw [hv, h2]; intro e; cases e
    · rw [hv, hv']
      intro e
      have e : some g = some g' := e
      cases e
      rw [hh] at hh'
      simp at hh'
/-- A number of a row of the call's own is another one now. -/
theorem Elm.store {g n cap j x : Nat} {c d : Nat → Nat} {w : World} (h : Elm (.slice (some ⟨g, 0, none⟩) (n + 1) cap) (n, c) w) (hd : ∀ i, i < n + 1 → d i = if i = j then x else c i) : Elm (.slice (some ⟨g, 0, none⟩) (n + 1) cap) (n, d) (w.setCell ⟨g, j, none⟩ (.int .i64 (x : Nat))) := by
  obtain ⟨g', cap', e, h1, h2, hr⟩ := h
  cases e
  exact ⟨g, cap, rfl, h1, h2, hr.store j x hd⟩
theorem Elm.row {g n cap : Nat} {c : Nat → Nat} {w : World} (h : Elm (.slice (some ⟨g, 0, none⟩) (n + 1) cap) (n, c) w) : Row g (n + 1) c w := by
  obtain ⟨g', cap', e, h1, h2, hr⟩ := h
  cases e
  exact hr
theorem Elm.congr {v : Value} {n : Nat} {c d : Nat → Nat} {w : World} (h : Elm v (n, c) w) (e : ∀ i, i < n + 1 → c i = d i) : Elm v (n, d) w := by
  obtain ⟨g', cap', e', h1, h2, hr⟩ := h
  exact ⟨g', cap', e', h1, h2, hr.congr e⟩
end Go.Proofs.YtpgaakjldlcejaaDoor

/- The reference's matrices: products (Product). -/
namespace Go.Proofs.YtpgaakjldlcejaaDoor
open Go.RowKit Go.Sort

end Go.Proofs.YtpgaakjldlcejaaDoor

/- The reference's matrices: which may be (MatrixMay). -/
namespace Go.Proofs.YtpgaakjldlcejaaDoor
open Go.RowKit Go.Sort

/-- A matrix that is handed in: m lists of whatever length. -/
structure MatZ (ao : Option Addr) (m : Nat) (A : Nat → Option Addr) (N C : Nat → Nat) (Z : Nat → Nat → Int) (w : World) : Prop where
  cell : ∀ i, i < m → ∃ b off, ao = some ⟨b, off, none⟩ ∧ w.cell? ⟨b, off + i, none⟩ = some (.slice (A i) (N i) (C i))
  sl : ∀ i, i < m → SlZ (A i) (N i) (Z i) w
  le : ∀ i, i < m → N i ≤ C i
  cap : ∀ i, i < m → C i ≤ 9223372036854775807
  nil : ∀ i, i < m → A i = none → C i = 0
  few : ∀ i, i < m → N i ≤ 1000000
theorem MatZ.below {ao : Option Addr} {m : Nat} {A : Nat → Option Addr} {N C : Nat → Nat} {Z : Nat → Nat → Int} {w w' : World} (h : MatZ ao m A N C Z w) (hb : Below w.heap.size w w') : MatZ ao m A N C Z w' :=
  ⟨fun i hi => by
    obtain ⟨b, off, e, hc⟩ := h.cell i hi
    exact ⟨b, off, e, ((bcell hb).1 b (off + i) (cell_lt hc)).trans hc⟩, fun i hi => slz_below (h.sl i hi) hb, h.le, h.cap, h.nil, h.few⟩
/-- What is said of a row of n numbers, where the first row has n0. -/
def FD.mrow (D : FD) (n0 n : Nat) (z : Nat → Int) : Int := if n ≠ n0 ∨ n = 0 then 3 else if 64 < n then 4 else if D.allHas z n = true then 0 else 2
def FD.mchks (D : FD) (N : Nat → Nat) (Z : Nat → Nat → Int) : Nat → Int
  | 0 => 0
  | k + 1 => if D.mchks N Z k = 0 then D.mrow (N 0) (N k) (Z k) else D.mchks N Z k
/-- What is said of a matrix. -/
def FD.mchk (D : FD) (m : Nat) (N : Nat → Nat) (Z : Nat → Nat → Int) : Int := if 64 < m then 4 else D.mchks N Z m
theorem mchks_keep {D : FD} {N : Nat → Nat} {Z : Nat → Nat → Int} {e : Int} (he : e ≠ 0) {r : Nat} (h : D.mchks N Z r = e) : ∀ d, D.mchks N Z (r + d) = e
  | 0 => h
  | d + 1 => by rw [← Nat.add_assoc, FD.mchks, mchks_keep he h d, if_neg he]
theorem mchks_to {D : FD} {N : Nat → Nat} {Z : Nat → Nat → Int} {e : Int} (he : e ≠ 0) {r m : Nat} (h0 : D.mchks N Z r = 0) (hr : r < m) (hm : ¬ 64 < m) (h : D.mrow (N 0) (N r) (Z r) = e) : D.mchk m N Z = e := by
  unfold FD.mchk
  rw [if_neg hm]
  have h1 : D.mchks N Z (r + 1) = e := by rw [FD.mchks, if_pos h0, h]
  have := mchks_keep he h1 (m - (r + 1))
  rwa [show r + 1 + (m - (r + 1)) = m from by omega] at this
theorem mrow_zero {D : FD} {n0 n : Nat} {z : Nat → Int} (h : D.mrow n0 n z = 0) : n = n0 ∧ 1 ≤ n ∧ n ≤ 64 ∧ D.allHas z n = true := by
  unfold FD.mrow at h
  by_cases h1 : n ≠ n0 ∨ n = 0
  · rw [if_pos h1] at h; cases h
  · rw [if_neg h1] at h
    by_cases h2 : 64 < n
    · rw [if_pos h2] at h; cases h
    · rw [if_neg h2] at h
      by_cases h3 : D.allHas z n = true
      · exact ⟨by omega, by omega, by omega, h3⟩
      · rw [if_neg h3] at h; cases h
theorem mchks_zero {D : FD} {N : Nat → Nat} {Z : Nat → Nat → Int} : ∀ {k : Nat}, D.mchks N Z k = 0 → ∀ i, i < k → D.mrow (N 0) (N i) (Z i) = 0
  | 0, _, i, hi => by omega
  | k + 1, h, i, hi => by
    rw [FD.mchks] at h
    by_cases h0 : D.mchks N Z k = 0
    · rw [if_pos h0] at h
      by_cases e : i = k
      · rw [e]; exact h
      · exact mchks_zero h0 i (by omega)
    · rw [if_neg h0] at h; exact absurd h h0
/-- The numbers of a matrix that may be. -/
def mzc (N : Nat → Nat) (Z : Nat → Nat → Int) : Nat → Nat → Nat := fun i => zc (N i) (Z i)
theorem mchk_rows {D : FD} (F : Fld D) {ao : Option Addr} {m : Nat} {A : Nat → Option Addr} {N C : Nat → Nat} {Z : Nat → Nat → Int} {w : World} (h : D.mchk m N Z = 0) (hA : MatZ ao m A N C Z w) (hm : 0 < m) :
    m ≤ 64 ∧ ∃ n, N 0 = n + 1 ∧ n < 64 ∧ (∀ i, i < m → N i = n + 1 ∧ El D (mzc N Z i) ∧ Bd (n + 1) (mzc N Z i)) ∧ MatR ao m n (mzc N Z) w := by
  unfold FD.mchk at h
  by_cases h64 : 64 < m
  · rw [if_pos h64] at h; cases h
  · rw [if_neg h64] at h
    have hrow := mchks_zero h
    have h0 := mrow_zero (hrow 0 hm)
    obtain ⟨n, hn⟩ : ∃ n, N 0 = n + 1 := ⟨N 0 - 1, by omega⟩
    have key : ∀ i, i < m → N i = n + 1 ∧ D.chk (N i) (Z i) = 0 := fun i hi => by
      have h1 := mrow_zero (hrow i hi)
      refine ⟨by omega, ?_⟩
      unfold FD.chk
      rw [if_neg (by omega), if_pos h1.2.2.2]
    refine ⟨by omega, n, hn, by omega, fun i hi => ⟨(key i hi).1, zc_el F (key i hi).2, by have := zc_bd (N i) (Z i); rw [(key i hi).1] at this; unfold mzc; rw [(key i hi).1]; exact this⟩, fun i hi => ?_⟩
    obtain ⟨b, off, e, hc⟩ := hA.cell i hi
    have hk := key i hi
    have hsl := zc_sl hk.2 (hA.sl i hi)
    refine ⟨b, off, _, e, hc, A i, C i, by rw [hk.1], ?_, ?_, hA.nil i hi, by have := hA.le i hi; omega, hA.cap i hi⟩
    · have : Sl (A i) (N i) (zc (N i) (Z i)) w := hsl
      rw [hk.1] at this
      unfold mzc; rw [hk.1]; exact this
    · intro x hx
      obtain ⟨b', off', e', hc'⟩ := hA.sl i hi 0 (by omega)
      rw [hx] at e'
      cases e'
      exact cell_lt hc'

end Go.Proofs.YtpgaakjldlcejaaDoor

/- The reference's matrices: Reduce's regions that draw their order, each by itself. -/
namespace Go.Proofs.YtpgaakjldlcejaaDoor
open Go.RowKit Go.Sort

end Go.Proofs.YtpgaakjldlcejaaDoor
