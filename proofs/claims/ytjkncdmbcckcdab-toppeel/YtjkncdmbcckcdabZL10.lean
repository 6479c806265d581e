/- Texts of ours, one behind the other: L10 O1 K1 K2 K3 J1 S1. -/
import Derived.Test.YtjkncdmbcckcdabZL9
import Derived.Test.YtjkncdmbcckcdabChecked
import Derived.ProofKit
import Derived.OpenShut
import Derived.ChangeOld
import Derived.ChangeSlices
import Derived.SizedLaws
import Derived.Carry
import Derived.Test.YtjkncdmbcckcdabZV7
/- PolySays: the walk of the statement, whatever it is given. -/
namespace Go.Proofs.Ytjkncdmbcckcdab
open Go.RowKit Go.Sort

/-- A list that is handed in, of whatever length. -/
structure ArgL (ao : Option Addr) (n cap : Nat) (z : Nat → Int) (w : World) : Prop where
  sl : SlZ ao n z w
  lt : LtB ao w.heap.size
  nil : ao = none → cap = 0
  le : n ≤ cap
  cap : cap ≤ 9223372036854775807
theorem ArgL.arg {ao : Option Addr} {n cap : Nat} {z : Nat → Int} {w : World} (h : ArgL ao n cap z w) (hn : n ≤ 1000000) : Arg ao n cap z w := ⟨h.sl, h.lt, hn, h.nil, h.le, h.cap⟩

end Go.Proofs.Ytjkncdmbcckcdab

/- A list of numbers that a statement is given, opened. -/
namespace Go.Proofs.Ytjkncdmbcckcdab
open Go.ChangeShapes Go.WideShapes Go.ChangeAt Go.RowKit

theorem Try.cellsInt : Try.prog.cellsOf 3 = 1 := by kernel_rfl
theorem Try.bytesInt : Try.prog.bytesOf 3 = 8 := by kernel_rfl
theorem Try.laidOut' : laidOutB Try.prog = true := by kernel_rfl

set_option maxRecDepth 100000 in
theorem open_list {H : Type} {enc : TypeId × Value → H} {W : World} {base : Nat} {v : Value} {d : DataW H} {p : List MemPlace} (hok : Value.okWide Try.prog W .any base 22 v)
    (h : DataW.Trod enc Try.prog W 0 (fun _ => true) true 22 v d p) :
    ∃ ao n ca z, v = .slice ao n ca ∧ ArgL ao n ca z W ∧ ((d = .nil ∧ ca = 0) ∨ ∃ es sp, d = .slice es sp ∧ es.length + sp.length = ca) := by
  obtain ⟨a0, len, cap, rfl⟩ := okWide_slice Try.underlying22 hok
  obtain ⟨fuel, hf⟩ := h
  rcases open_ints Try.underlying22 Try.underlying3 Try.cellsInt hf with ⟨hcs, hx⟩ | ⟨a, len', cap', zs, hcs, _, hl, hm, hz, hx, hcell, _⟩
  · simp [Value.cells] at hcs
    obtain ⟨rfl, rfl, rfl⟩ := hcs
    simp only [Prod.mk.injEq] at hx
    exact ⟨none, 0, 0, fun _ => 0, rfl, ⟨fun j hj => by omega, fun x hx => (by cases hx), fun _ => rfl, Nat.le_refl _, by omega⟩, Or.inl ⟨hx.1, rfl⟩⟩
  · simp [Value.cells] at hcs
    obtain ⟨rfl, rfl, rfl⟩ := hcs
    simp only [Prod.mk.injEq] at hx
    simp only [if_true] at hz
    have hhas : a.spot = none ∧ a.block < W.heap.size := by
      have h1 : W.has Try.prog .any base a 3 cap := by
        unfold Value.okWide at hok
        rw [Try.underlying22] at hok
        simp only at hok
        unfold Cell.okWide at hok
        rw [Try.underlying22] at hok
        simp only at hok
        unfold Cell.ok at hok
        rw [Try.underlying22] at hok
        exact hok.2.2
      obtain ⟨_, h2, row, cells, h3, _⟩ := h1
      refine ⟨h2, ?_⟩
      rcases Nat.lt_or_ge a.block W.heap.size with e | e
      · exact e
      · exfalso
        have : W.heap[a.block]? = none := Array.getElem?_eq_none e
        simp [World.shape?, this] at h3
    obtain ⟨b, off, spot⟩ := a
    obtain ⟨hs, hlt⟩ := hhas
    simp only at hs hlt
    subst hs
    refine ⟨some ⟨b, off, none⟩, len, cap, fun j => zs.getD j 0, rfl, ⟨fun j hj => ⟨b, off, rfl, ?_⟩, fun x hx => (by cases hx; exact hlt), fun e => (by cases e), hl, hm⟩, Or.inr ⟨_, _, hx.1, ?_⟩⟩
    · have := hcell j (by omega)
      rwa [add_off] at this
    · simp [lits]
      omega
/-- No list that is handed in takes more than the form's own reach. -/
theorem sized_list {H : Type} {ts : List TypeId} {ds : List (DataW H)} {d : DataW H} {ca j : Nat} (h : (DataW.weightsEach Try.prog ts ds).all (· ≤ reachBytes) = true) (ht : ts[j]? = some 22) (hd : ds[j]? = some d)
    (hc : (d = .nil ∧ ca = 0) ∨ ∃ es sp, d = .slice es sp ∧ es.length + sp.length = ca) : ca ≤ 17592186044416 := by
  rcases hc with ⟨_, rfl⟩ | ⟨es, sp, rfl, rfl⟩
  · omega
  · have := sized_slice h ht hd Try.underlying22
    rw [Try.bytesInt] at this
    unfold reachBytes at this
    omega
end Go.Proofs.Ytjkncdmbcckcdab

/- What statements make of raw numbers: Raw, Numbers. -/
namespace Go.Proofs.Ytjkncdmbcckcdab
open Go.RowKit Go.Sort

/-- A number of the machine. -/
def I64 (r : Int) : Prop := -9223372036854775808 ≤ r ∧ r ≤ 9223372036854775807
theorem i64_wrap (x : Int) : I64 (IntKind.i64.wrap x) := by
  unfold I64
  rw [IntKind.wrap_i64]
  omega

set_option maxHeartbeats 2000000 in
theorem raw_any {ao : Option Addr} {n ca : Nat} {z : Nat → Int} {w : World} (h : Arg ao n ca z w) (hn : n ≤ 1000) (i : Nat) (hi : i ≤ 1000000) :
    Calls Try.prog 12 #[.slice ao n ca, .int .i64 i] w fun e w' => (∃ r, e = .returned (.int .i64 r) ∧ I64 r) ∧ ∃ k, w' = w.drewN k := by
  have HA : Hid (Arg ao n ca z w) := h
  clear h
  by_cases h0 : n = 0
  · have hz : ((n : Int) == 0) = true := by rw [h0]; rfl
    clear h0
    go_enter Try.func12, Try.ntmps12
    go_wp2
    go_ret
    exact ⟨⟨_, rfl, by unfold I64; omega⟩, 0, rfl⟩
  · have hz : ((n : Int) == 0) = false := by rw [beq_eq_false_iff_ne]; omega
    obtain ⟨j, hj⟩ : ∃ j, j = i % n := ⟨_, rfl⟩
    obtain ⟨d, hd⟩ : ∃ d, d = i / n := ⟨_, rfl⟩
    have hjn : j < n := by rw [hj]; exact Nat.mod_lt _ (by omega)
    have hdi : d ≤ i := by rw [hd]; exact Nat.div_le_self _ _
    have hm : (i : Int).tmod (n : Int) = (j : Int) := by rw [Int.tmod_eq_emod_of_nonneg (by omega), hj]; rfl
    have hq : (i : Int).tdiv (n : Int) = (d : Int) := by rw [Int.tdiv_eq_ediv_of_nonneg (by omega), hd]; rfl
    obtain ⟨b, off, rfl, hc⟩ := HA.out.sl j hjn
    obtain ⟨x, hx⟩ : ∃ x, x = z j := ⟨_, rfl⟩
    rw [← hx] at hc
    obtain ⟨s, hs⟩ : ∃ s, IntKind.i64.wrap (x + (d : Int) * 7919) = s := ⟨_, rfl⟩
    have HS : Hid (I64 s) := by show I64 s; rw [← hs]; exact i64_wrap _
    have hn0 : ¬ (n : Int) = 0 := by omega
    have hjn' : (j : Int) < (n : Int) := by omega
    have hj0 : (0 : Int) ≤ (j : Int) := by omega
    clear hj hd hx h0
    go_enter Try.func12, Try.ntmps12
    go_wp2
    go_quiet (fail)
    go_wp2
    go_ret
    exact ⟨⟨_, rfl, by first | exact HS.out | exact i64_wrap _⟩, _, rfl⟩

/-- Numbers from 0 on, all below q. -/
def Blw (q k : Nat) (z : Nat → Int) : Prop := ∀ j, j < k → 0 ≤ z j ∧ z j < (q : Int)

end Go.Proofs.Ytjkncdmbcckcdab

/- What statements make of raw numbers: different elements (PlacesOf). -/
namespace Go.Proofs.Ytjkncdmbcckcdab
open Go.RowKit Go.Sort

end Go.Proofs.Ytjkncdmbcckcdab

/- PolyMade: the walk of the statement. -/
namespace Go.Proofs.Ytjkncdmbcckcdab
open Go.RowKit Go.Sort

theorem OwnI.argL {base : Nat} {v : Value} {n : Nat} {y : Nat → Int} {w : World} (h : OwnI base v (zl n y) w) : ∃ ao ca, v = .slice ao n ca ∧ ArgL ao n ca y w := by
  rcases h.2 with ⟨h1, h2⟩ | ⟨g, cap, cur, hv, hg, hh, hle, hcm, hsz, htake⟩
  · rw [zl_len] at h2
    subst h2
    exact ⟨none, 0, h1, fun j hj => by omega, fun x hx => (by cases hx), fun _ => rfl, Nat.le_refl _, by omega⟩
  · rw [zl_len] at hv hle
    refine ⟨_, cap, hv, fun j hj => ⟨g, 0, rfl, ?_⟩, fun x hx => (by cases hx; exact lt_of_block hh), fun e => (by cases e), hle, by unfold maxLen at hcm; omega⟩
    obtain ⟨g', cap', e, _, _, hc, _⟩ := h.at (fun e => by
      have := congrArg List.length e
      rw [zl_len] at this
      simp at this
      omega)
    rw [zl_len, hv] at e
    cases e
    rw [Nat.zero_add]
    have := hc j (by rw [zl_len]; exact hj)
    rwa [zl_getD n y j hj] at this
end Go.Proofs.Ytjkncdmbcckcdab

/- Calls at polynomials that end with 1: products, parts. -/
namespace Go.Proofs.Ytjkncdmbcckcdab
open Go.RowKit

end Go.Proofs.Ytjkncdmbcckcdab

/- Plain mathematics: what rows span; the one reduced form of it. No Go text here. -/
namespace Go.Proofs.Ytjkncdmbcckcdab

/-- A sum of multiples. -/
def lsum (D : FD) : List (Nat × (Nat → Nat)) → Nat → Nat
  | [] => pnil
  | x :: l => padd D (pscale D x.1 x.2) (lsum D l)
/-- What the rows P span. -/
def Spn (D : FD) (P : (Nat → Nat) → Prop) (v : Nat → Nat) : Prop := ∃ l : List (Nat × (Nat → Nat)), (∀ x, x ∈ l → P x.2) ∧ v = lsum D l
theorem lsum_el {D : FD} (F : Fld D) : ∀ l, El D (lsum D l)
  | [] => el_nil F
  | _ :: l => el_add F (el_scale F _ _) (lsum_el F l)
theorem lsum_app {D : FD} (F : Fld D) : ∀ l m, lsum D (l ++ m) = padd D (lsum D l) (lsum D m)
  | [], m => (nil_padd F (lsum_el F m)).symm
  | x :: l, m => by
    show padd D (pscale D x.1 x.2) (lsum D (l ++ m)) = padd D (padd D (pscale D x.1 x.2) (lsum D l)) (lsum D m)
    rw [lsum_app F l m, padd_assoc F (el_scale F _ _) (lsum_el F l) (lsum_el F m)]
theorem lsum_scale {D : FD} (F : Fld D) (s : Nat) : ∀ l, pscale D s (lsum D l) = lsum D (l.map fun x => (D.mul s x.1, x.2))
  | [] => pscale_nil F s
  | x :: l => by
    show pscale D s (padd D (pscale D x.1 x.2) (lsum D l)) = padd D (pscale D (D.mul s x.1) x.2) (lsum D (l.map fun x => (D.mul s x.1, x.2)))
    rw [pscale_add F s (el_scale F _ _) (lsum_el F l), pscale_pscale F, lsum_scale F s l]
theorem Spn.el {D : FD} (F : Fld D) {P : (Nat → Nat) → Prop} {v : Nat → Nat} (h : Spn D P v) : El D v := by
  obtain ⟨l, _, rfl⟩ := h
  exact lsum_el F l
theorem spn_nil (D : FD) (P : (Nat → Nat) → Prop) : Spn D P pnil := ⟨[], fun x hx => by simp at hx, rfl⟩
theorem spn_mem {D : FD} (F : Fld D) {P : (Nat → Nat) → Prop} {v : Nat → Nat} (he : El D v) (h : P v) : Spn D P v :=
  ⟨[(1, v)], fun x hx => by rw [List.mem_singleton.1 hx]; exact h, by show v = padd D (pscale D 1 v) pnil; rw [pscale_one F he, padd_nil F he]⟩
theorem spn_add {D : FD} (F : Fld D) {P : (Nat → Nat) → Prop} {u v : Nat → Nat} (h : Spn D P u) (k : Spn D P v) : Spn D P (padd D u v) := by
  obtain ⟨l, hl, rfl⟩ := h
  obtain ⟨m, hm, rfl⟩ := k
  exact ⟨l ++ m, fun x hx => by rcases List.mem_append.1 hx with h | h; exact hl x h; exact hm x h, (lsum_app F l m).symm⟩
theorem spn_scale {D : FD} (F : Fld D) {P : (Nat → Nat) → Prop} {v : Nat → Nat} (s : Nat) (h : Spn D P v) : Spn D P (pscale D s v) := by
  obtain ⟨l, hl, rfl⟩ := h
  refine ⟨l.map fun x => (D.mul s x.1, x.2), fun x hx => ?_, lsum_scale F s l⟩
  obtain ⟨y, hy, rfl⟩ := List.mem_map.1 hx
  exact hl y hy
/-- What holds of the rows, and of sums and multiples, holds of all that they span. -/
theorem spn_ind {D : FD} {P Q : (Nat → Nat) → Prop} (h0 : Q pnil) (ha : ∀ u v, Q u → Q v → Q (padd D u v)) (hs : ∀ s v, Q v → Q (pscale D s v)) (hP : ∀ v, P v → Q v) {v : Nat → Nat} (h : Spn D P v) : Q v := by
  obtain ⟨l, hl, rfl⟩ := h
  induction l with
  | nil => exact h0
  | cons x l ih => exact ha _ _ (hs _ _ (hP _ (hl x (List.mem_cons_self ..)))) (ih (fun y hy => hl y (List.mem_cons_of_mem _ hy)))
theorem spn_le {D : FD} (F : Fld D) {P Q : (Nat → Nat) → Prop} (h : ∀ v, P v → Spn D Q v) {v : Nat → Nat} (hv : Spn D P v) : Spn D Q v :=
  spn_ind (spn_nil D Q) (fun _ _ => spn_add F) (fun s _ => spn_scale F s) h hv
theorem spn_sub {D : FD} (F : Fld D) {P : (Nat → Nat) → Prop} {u v : Nat → Nat} (h : Spn D P u) (k : Spn D P v) : Spn D P (psub D u v) := by
  have e : psub D u v = padd D u (pscale D (D.ng 1) v) := by
    funext i
    show D.sb (u i) (v i) = D.ad (u i) (D.mul (D.ng 1) (v i))
    rw [F.mul_comm, mul_ng F (one_lt' F), mul1 F (k.el F i)]
    rfl
  rw [e]
  exact spn_add F h (spn_scale F _ k)

/-- k rows of n numbers in their one form; p: where they begin. -/
structure RRE (D : FD) (n k : Nat) (R : Nat → Nat → Nat) (p : Nat → Nat) : Prop where
  el : ∀ i, i < k → El D (R i)
  bd : ∀ i, i < k → Bd n (R i)
  lt : ∀ i, i < k → p i < n
  mono : ∀ i j, i < j → j < k → p i < p j
  one : ∀ i, i < k → R i (p i) = 1
  zero : ∀ i j, i < k → j < k → i ≠ j → R i (p j) = 0
  lead : ∀ i c, i < k → c < p i → R i c = 0
/-- One of the first k rows. -/
def RowsOf (k : Nat) (R : Nat → Nat → Nat) (v : Nat → Nat) : Prop := ∃ i, i < k ∧ v = R i
/-- The sum of the rows, each as often as v says at its beginning. -/
def lcR (D : FD) (R : Nat → Nat → Nat) (p : Nat → Nat) (v : Nat → Nat) : Nat → Nat → Nat
  | 0 => pnil
  | k + 1 => padd D (lcR D R p v k) (pscale D (v (p k)) (R k))
theorem lcR_el {D : FD} (F : Fld D) (R : Nat → Nat → Nat) (p : Nat → Nat) (v : Nat → Nat) : ∀ k, El D (lcR D R p v k)
  | 0 => el_nil F
  | k + 1 => el_add F (lcR_el F R p v k) (el_scale F _ _)
theorem lcR_nil {D : FD} (F : Fld D) (R : Nat → Nat → Nat) (p : Nat → Nat) (v : Nat → Nat) : ∀ k, (∀ i, i < k → v (p i) = 0) → lcR D R p v k = pnil
  | 0, _ => rfl
  | k + 1, h => by
    rw [lcR, lcR_nil F R p v k (fun i hi => h i (by omega)), h k (by omega), pscale_zero F, padd_nil F (el_nil F)]
theorem lcR_add {D : FD} (F : Fld D) (R : Nat → Nat → Nat) (p : Nat → Nat) {u v : Nat → Nat} (hu : El D u) (hv : El D v) : ∀ k, lcR D R p (padd D u v) k = padd D (lcR D R p u k) (lcR D R p v k)
  | 0 => (padd_nil F (el_nil F)).symm
  | k + 1 => by
    rw [lcR, lcR, lcR, lcR_add F R p hu hv k, show padd D u v (p k) = D.ad (u (p k)) (v (p k)) from rfl, add_pscale F (hu _) (hv _)]
    exact padd4 F (lcR_el F R p u k) (lcR_el F R p v k) (el_scale F _ _) (el_scale F _ _)
theorem lcR_scale {D : FD} (F : Fld D) (R : Nat → Nat → Nat) (p : Nat → Nat) (s : Nat) (v : Nat → Nat) : ∀ k, lcR D R p (pscale D s v) k = pscale D s (lcR D R p v k)
  | 0 => (pscale_nil F s).symm
  | k + 1 => by
    rw [lcR, lcR, lcR_scale F R p s v k, show pscale D s v (p k) = D.mul s (v (p k)) from rfl, ← pscale_pscale F, pscale_add F s (lcR_el F R p v k) (el_scale F _ _)]
theorem lcR_row {D : FD} (F : Fld D) {n K : Nat} {R : Nat → Nat → Nat} {p : Nat → Nat} (h : RRE D n K R p) (j : Nat) (hj : j < K) : ∀ k, k ≤ K → lcR D R p (R j) k = if j < k then R j else pnil
  | 0, _ => by rw [if_neg (by omega)]; rfl
  | k + 1, hk => by
    rw [lcR, lcR_row F h j hj k (by omega)]
    by_cases e : j = k
    · subst e
      rw [if_neg (by omega), if_pos (by omega), h.one j hj, pscale_one F (h.el j hj), nil_padd F (h.el j hj)]
    · rw [h.zero j k hj (by omega) e, pscale_zero F]
      by_cases e2 : j < k
      · rw [if_pos e2, if_pos (by omega), padd_nil F (h.el j hj)]
      · rw [if_neg e2, if_neg (by omega), padd_nil F (el_nil F)]
theorem rre_coord {D : FD} (F : Fld D) {n k : Nat} {R : Nat → Nat → Nat} {p : Nat → Nat} (h : RRE D n k R p) {v : Nat → Nat} (hv : Spn D (RowsOf k R) v) : v = lcR D R p v k := by
  refine (spn_ind (Q := fun v => El D v ∧ v = lcR D R p v k) ⟨el_nil F, (lcR_nil F R p pnil k (fun _ _ => rfl)).symm⟩ ?_ ?_ ?_ hv).2
  · rintro u v ⟨eu, hu⟩ ⟨ev, hv⟩
    exact ⟨el_add F eu ev, by rw [lcR_add F R p eu ev, ← hu, ← hv]⟩
  · rintro s v ⟨ev, hv⟩
    exact ⟨el_scale F _ _, by rw [lcR_scale F, ← hv]⟩
  · rintro v ⟨i, hi, rfl⟩
    exact ⟨h.el i hi, by rw [lcR_row F h i hi k (Nat.le_refl _), if_pos hi]⟩
theorem rre_nil {D : FD} (F : Fld D) {n k : Nat} {R : Nat → Nat → Nat} {p : Nat → Nat} (h : RRE D n k R p) {v : Nat → Nat} (hv : Spn D (RowsOf k R) v) (h0 : ∀ i, i < k → v (p i) = 0) : v = pnil := by
  rw [rre_coord F h hv]
  exact lcR_nil F R p v k h0
theorem lcR_at {D : FD} (F : Fld D) (R : Nat → Nat → Nat) (p v : Nat → Nat) (c : Nat) : ∀ k, (∀ i, i < k → D.mul (v (p i)) (R i c) = 0) → lcR D R p v k c = 0
  | 0, _ => rfl
  | k + 1, h => by
    show D.ad (lcR D R p v k c) (D.mul (v (p k)) (R k c)) = 0
    rw [lcR_at F R p v c k (fun i hi => h i (by omega)), h k (by omega), ad_zero F (zero_lt' F)]
/-- Where what is spanned can begin. -/
def Lead (D : FD) (P : (Nat → Nat) → Prop) (c : Nat) : Prop := ∃ v, Spn D P v ∧ v c ≠ 0 ∧ ∀ c', c' < c → v c' = 0
theorem rre_lead {D : FD} (F : Fld D) {n k : Nat} {R : Nat → Nat → Nat} {p : Nat → Nat} (h : RRE D n k R p) (c : Nat) : Lead D (RowsOf k R) c ↔ ∃ i, i < k ∧ c = p i := by
  constructor
  · rintro ⟨v, hv, h1, h2⟩
    refine Classical.byContradiction fun hn => h1 ?_
    rw [rre_coord F h hv]
    refine lcR_at F R p v c k fun i hi => ?_
    rcases Nat.lt_trichotomy (p i) c with e | e | e
    · rw [h2 _ e, zmul F]
    · exact absurd ⟨i, hi, e.symm⟩ hn
    · rw [h.lead i c hi e, mul0 F]
  · rintro ⟨i, hi, rfl⟩
    exact ⟨R i, spn_mem F (h.el i hi) ⟨i, hi, rfl⟩, by rw [h.one i hi]; omega, fun c' hc => h.lead i c' hi hc⟩
theorem mono_same {k k' : Nat} {p p' : Nat → Nat} (h : ∀ i j, i < j → j < k → p i < p j) (h' : ∀ i j, i < j → j < k' → p' i < p' j) (hs : ∀ c, (∃ i, i < k ∧ c = p i) ↔ (∃ i, i < k' ∧ c = p' i)) : ∀ i, i < k → i < k' ∧ p i = p' i := by
  intro i
  induction i using Nat.strongRecOn with
  | _ i ih =>
    intro hi
    obtain ⟨m, hm, e⟩ := (hs (p i)).1 ⟨i, hi, rfl⟩
    have hmi : i ≤ m := by
      rcases Nat.lt_or_ge m i with hl | hl
      · have h1 := (ih m hl (by omega)).2
        have h2 := h m i hl hi
        omega
      · exact hl
    have hik : i < k' := by omega
    obtain ⟨m', hm', e'⟩ := (hs (p' i)).2 ⟨i, hik, rfl⟩
    have hmi' : i ≤ m' := by
      rcases Nat.lt_or_ge m' i with hl | hl
      · have h1 := (ih m' hl (by omega)).2
        have h2 := h' m' i hl hik
        omega
      · exact hl
    refine ⟨hik, ?_⟩
    have a1 : p' i ≤ p i := by
      rcases Nat.lt_or_ge i m with hl | hl
      · have := h' i m hl hm
        omega
      · rw [e, show m = i from by omega]; exact Nat.le_refl _
    have a2 : p i ≤ p' i := by
      rcases Nat.lt_or_ge i m' with hl | hl
      · have := h i m' hl hm'
        omega
      · rw [e', show m' = i from by omega]; exact Nat.le_refl _
    omega
/-- There is one reduced form. -/
theorem rre_uniq {D : FD} (F : Fld D) {n k k' : Nat} {R R' : Nat → Nat → Nat} {p p' : Nat → Nat} (h : RRE D n k R p) (h' : RRE D n k' R' p') (hs : ∀ v, Spn D (RowsOf k R) v ↔ Spn D (RowsOf k' R') v) : k = k' ∧ ∀ i, i < k → p i = p' i ∧ R i = R' i := by
  have hl : ∀ c, (∃ i, i < k ∧ c = p i) ↔ (∃ i, i < k' ∧ c = p' i) := fun c => by
    rw [← rre_lead F h, ← rre_lead F h']
    exact ⟨fun ⟨v, h1, h2⟩ => ⟨v, (hs v).1 h1, h2⟩, fun ⟨v, h1, h2⟩ => ⟨v, (hs v).2 h1, h2⟩⟩
  have h1 := mono_same h.mono h'.mono hl
  have h2 := mono_same h'.mono h.mono (fun c => (hl c).symm)
  have hk : k = k' := by
    rcases Nat.lt_trichotomy k k' with e | e | e
    · have := (h2 k e).1
      omega
    · exact e
    · have := (h1 k' e).1
      omega
  subst hk
  refine ⟨rfl, fun i hi => ⟨(h1 i hi).2, ?_⟩⟩
  have hd : Spn D (RowsOf k R) (psub D (R i) (R' i)) := spn_sub F (spn_mem F (h.el i hi) ⟨i, hi, rfl⟩) ((hs _).2 (spn_mem F (h'.el i hi) ⟨i, hi, rfl⟩))
  have hz := rre_nil F h hd (fun j hj => by
    show D.sb (R i (p j)) (R' i (p j)) = 0
    rw [(h1 j hj).2]
    by_cases e : i = j
    · subst e
      rw [h'.one i hi, ← (h1 i hi).2, h.one i hi, sb_self F (one_lt' F)]
    · rw [h'.zero i j hi hj e, ← (h1 j hj).2, h.zero i j hi hj e, sb_self F (zero_lt' F)])
  exact psub_eq_nil F (h.el i hi) (h'.el i hi) hz
end Go.Proofs.Ytjkncdmbcckcdab
