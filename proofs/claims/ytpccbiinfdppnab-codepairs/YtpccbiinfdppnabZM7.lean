/- Texts of ours, one behind the other: M7 R16 R17 B7 B8 M8 M9 G1. -/
import Derived.Test.YtpccbiinfdppnabZR9
import Derived.Deep.RegionHeld3
/- Plain mathematics of a field within another: what the smaller one's x becomes. -/
namespace Go.Proofs.Ytpccbiinfdppnab

/-- The smaller field's modulus, coefficient by coefficient. -/
def FD.modN (E : FD) (j : Nat) : Nat := if j = E.m then 1 else dgt E.p E.low j
/-- The k-th element that is tried. -/
def FD.xk (D E : FD) (k : Nat) : Nat := again D.st (k * ((D.q - 1) / (E.q - 1)) % (D.q - 1)) 1
def FD.isRoot (D E : FD) (k : Nat) : Bool := D.val E.modN (E.m + 1) (D.xk E k) (E.m + 1) == 0
/-- The first number from k on, among n, that meets p. -/
def firstFrom (p : Nat → Bool) : Nat → Nat → Nat
  | 0, k => k
  | n + 1, k => if p k = true then k else firstFrom p n (k + 1)
theorem firstFrom_is (p : Nat → Bool) : ∀ n k, (∃ j, k ≤ j ∧ j < k + n ∧ p j = true) → k ≤ firstFrom p n k ∧ firstFrom p n k < k + n ∧ p (firstFrom p n k) = true ∧ ∀ i, k ≤ i → i < firstFrom p n k → p i = false
  | 0, k, ⟨j, h1, h2, _⟩ => by omega
  | n + 1, k, ⟨j, h1, h2, h3⟩ => by
    rw [firstFrom]
    by_cases hp : p k = true
    · rw [if_pos hp]; exact ⟨by omega, by omega, hp, fun i h4 h5 => by omega⟩
    · rw [if_neg hp]
      have hjk : j ≠ k := fun e => hp (e ▸ h3)
      obtain ⟨a1, a2, a3, a4⟩ := firstFrom_is p n (k + 1) ⟨j, by omega, by omega, h3⟩
      refine ⟨by omega, by omega, a3, fun i h4 h5 => ?_⟩
      by_cases e : i = k
      · subst e; simpa using hp
      · exact a4 i (by omega) h5
def FD.rootK (D E : FD) : Nat := firstFrom (D.isRoot E) (E.q - 1) 1
def FD.root (D E : FD) : Nat := if E.m = 1 then 0 else D.xk E (D.rootK E)
def FD.holdsB (D E : FD) : Bool := E.p == D.p && D.m % E.m == 0
def FD.embL (D E : FD) : List Int := (List.range E.q).map fun a => ((D.val (fun j => dg E.p a j) E.m (D.root E) E.m : Nat) : Int)

theorem roots_all : (fieldsL.all fun D => fieldsL.all fun E => !(D.holdsB E) || E.m == 1 || (List.range E.q).any fun k => decide (1 ≤ k) && D.isRoot E k) = true := by decide +kernel

theorem rootK_is {D E : FD} (hD : D ∈ fieldsL) (hE : E ∈ fieldsL) (h : E.p = D.p ∧ D.m % E.m = 0) (hm : E.m ≠ 1) :
    1 ≤ D.rootK E ∧ D.rootK E < E.q ∧ D.isRoot E (D.rootK E) = true ∧ ∀ k, 1 ≤ k → k < D.rootK E → D.isRoot E k = false := by
  have h1 := List.all_eq_true.1 (List.all_eq_true.1 roots_all D hD) E hE
  have hb : D.holdsB E = true := by simp [FD.holdsB, h.1, h.2]
  have hme : (E.m == 1) = false := beq_eq_false_iff_ne.2 hm
  rw [hb, hme] at h1
  simp only [Bool.not_true, Bool.false_or] at h1
  obtain ⟨k, hk, hp⟩ := List.any_eq_true.1 h1
  rw [Bool.and_eq_true, decide_eq_true_eq] at hp
  have hk' := List.mem_range.1 hk
  obtain ⟨a1, a2, a3, a4⟩ := firstFrom_is (D.isRoot E) (E.q - 1) 1 ⟨k, hp.1, by omega, hp.2⟩
  exact ⟨a1, by have : firstFrom (D.isRoot E) (E.q - 1) 1 < E.q := by omega
                exact this, a3, a4⟩
theorem xk_lt {D E : FD} (hD : D ∈ fieldsL) (k : Nat) : D.xk E k < D.q ∧ D.xk E k ≠ 0 := by
  have F := fld hD
  have hn : k * ((D.q - 1) / (E.q - 1)) % (D.q - 1) < D.q - 1 := Nat.mod_lt _ (by have := F.q2; omega)
  exact ⟨F.pow_lt _ hn, (F.full _ hn).1⟩
theorem root_lt {D E : FD} (hD : D ∈ fieldsL) : D.root E < D.q := by
  unfold FD.root
  split
  · have := (fld hD).q2; omega
  · exact (xk_lt hD _).1
theorem modN_lt {D E : FD} (hD : D ∈ fieldsL) (hE : E ∈ fieldsL) (hp : E.p = D.p) (j : Nat) : E.modN j < D.q := by
  have h1 := (fld hD).qp
  have h2 := (fld hD).p2
  have h3 : D.p ≤ D.p ^ D.m := Nat.le_self_pow (by have := (fld hD).m1; omega) D.p
  have h4 := (fld hE).p2
  unfold FD.modN
  split
  · omega
  · have : dgt E.p E.low j < E.p := Nat.mod_lt _ (by omega)
    omega
theorem dg_ltq {D E : FD} (hD : D ∈ fieldsL) (hE : E ∈ fieldsL) (hp : E.p = D.p) (a j : Nat) : dg E.p a j < D.q := by
  have h1 := (fld hD).qp
  have h3 : D.p ≤ D.p ^ D.m := Nat.le_self_pow (by have := (fld hD).m1; omega) D.p
  have h4 := (fld hE).p2
  have : dg E.p a j < E.p := Nat.mod_lt _ (by omega)
  omega
/-- A power of the generator, as a call tells it. -/
theorem powZ_gen {D : FD} (hD : D ∈ fieldsL) (hq : 2 < D.q) (j : Nat) (hj : 1 ≤ j) : D.powZ D.gen j = (again D.st (j % (D.q - 1)) 1 : Nat) := by
  have F := fld hD
  have hs := List.all_eq_true.1 st_one D hD
  simp only [Bool.and_eq_true, beq_iff_eq, decide_eq_true_eq] at hs
  obtain ⟨⟨hs1, hs2⟩, hs3⟩ := hs
  have hg : D.lg D.gen = 1 := by
    have := F.lg_pow 1 (by omega)
    rw [show again D.st 1 1 = D.gen from hs1] at this
    exact this
  rw [FD.powZ, if_neg (by simp [nat_has hs2]), if_neg (by omega), if_neg (by omega), ← Int.natCast_emod, Int.toNat_natCast, Int.toNat_natCast, FD.pw, hg, Nat.one_mul, Nat.mod_mod]
end Go.Proofs.Ytpccbiinfdppnab

/- The reference: what each element of a field becomes in a greater one (Embed). -/
namespace Go.Proofs.Ytpccbiinfdppnab
open Go.RowKit

theorem modL_len' {D : FD} : D.modL.length = D.m + 1 := by unfold FD.modL; rw [List.length_append, digL_len]; rfl

end Go.Proofs.Ytpccbiinfdppnab

/- The reference: what each element of a field becomes in a greater one, gone on (Embed). -/
namespace Go.Proofs.Ytpccbiinfdppnab
open Go.RowKit

theorem nums_modL {E : FD} {base g cap : Nat} {w : World} (h : OwnI base (.slice (some ⟨g, 0, none⟩) (E.m + 1) cap) E.modL w) : Nums g (E.m + 1) E.modN w := by
  intro j hj
  obtain ⟨g', cap', hv, _, _, hc, _⟩ := h.at (by intro e; have := congrArg List.length e; rw [modL_len'] at this; simp at this)
  simp only [Value.slice.injEq, Option.some.injEq, Addr.mk.injEq, and_true] at hv
  obtain ⟨rfl, _, _⟩ := hv
  rw [hc j (by rw [modL_len']; exact hj)]
  unfold FD.modL FD.modN
  by_cases e : j = E.m
  · rw [if_pos e, List.getD_eq_getElem?_getD, List.getElem?_append_right (by rw [digL_len]; omega), digL_len, e, Nat.sub_self]; rfl
  · rw [if_neg e, List.getD_eq_getElem?_getD, List.getElem?_append_left (by rw [digL_len]; omega), ← List.getD_eq_getElem?_getD, digL_get _ _ _ _ (by omega)]; rfl

end Go.Proofs.Ytpccbiinfdppnab

/- A field's calls, gone on: what a smaller field's elements become (at, rootFor, Embed). -/
namespace Go.Proofs.Ytpccbiinfdppnab
open Go.RowKit

theorem mul_nat {F T : Nat} {D : FD} (hD : D ∈ fieldsL) {g : Nat → Value} {w : World} (h : FAt F T D g w) {a b : Nat} (ha : a < D.q) (hb : b < D.q) :
    Calls Try.prog 105 #[.pointer (some ⟨F, 0, none⟩), .int .i64 a, .int .i64 b] w fun e w' => e = .returned (.int .i64 (D.mul a b : Nat)) ∧ ∃ n, w' = w.drewN n := by
  rw [← mulZ_nat (fld hD) ha hb]; exact mul_any hD h a b
theorem add_nat {F T : Nat} {D : FD} (hD : D ∈ fieldsL) {g : Nat → Value} {w : World} (h : FAt F T D g w) {a b : Nat} (ha : a < D.q) (hb : b < D.q) :
    Calls Try.prog 104 #[.pointer (some ⟨F, 0, none⟩), .int .i64 a, .int .i64 b] w fun e w' => e = .returned (.int .i64 (sumD D.p D.q a b : Nat)) ∧ ∃ n, w' = w.drewN n := by
  rw [← addZ_nat (fld hD) ha hb]; exact add_any hD h a b

theorem isRoot_prime {D E : FD} (hD : D ∈ fieldsL) (hE : E ∈ fieldsL) (hm : E.m = 1) (k : Nat) : D.isRoot E k = false := by
  have F := fld hD
  have hx := xk_lt (E := E) hD k
  have hl := ((fld hE).least1 hm).2.2.2.1
  have h2 := F.q2
  have e1 : E.modN 1 = 1 := by unfold FD.modN; rw [if_pos hm.symm]
  have e0 : E.modN 0 = 0 := by unfold FD.modN dgt; rw [if_neg (by omega), hl]; simp
  have hv : D.val E.modN (E.m + 1) (D.xk E k) (E.m + 1) = D.xk E k := by
    rw [hm]
    show sumD D.p D.q (D.mul (sumD D.p D.q (D.mul 0 (D.xk E k)) (E.modN 1)) (D.xk E k)) (E.modN 0) = _
    rw [e1, e0]
    have h0 : D.mul 0 (D.xk E k) = 0 := by simp [FD.mul]
    rw [h0, F.add_comm 0 1, F.sum_zero 1 (by omega), F.mul_comm, F.mul_one _ hx.1, F.sum_zero _ hx.1]
  unfold FD.isRoot
  rw [hv]
  exact beq_eq_false_iff_ne.2 hx.2

end Go.Proofs.Ytpccbiinfdppnab

/- A field's calls, gone on: what a smaller field's elements become (Embed). -/
namespace Go.Proofs.Ytpccbiinfdppnab
open Go.RowKit

theorem nums_digL {p a m base g cap : Nat} {w : World} (hm : 1 ≤ m) (h : OwnI base (.slice (some ⟨g, 0, none⟩) m cap) (digL p a m) w) : Nums g m (fun j => dg p a j) w := by
  intro j hj
  obtain ⟨g', cap', hv, _, _, hc, _⟩ := h.at (by intro e; have := congrArg List.length e; rw [digL_len] at this; simp at this; omega)
  simp only [Value.slice.injEq, Option.some.injEq, Addr.mk.injEq, and_true] at hv
  obtain ⟨rfl, _, _⟩ := hv
  rw [hc j (by rw [digL_len]; exact hj), digL_get _ _ _ _ hj]

end Go.Proofs.Ytpccbiinfdppnab

/- Plain mathematics: Fermat and Frobenius, traces and norms; what a smaller field's elements become is a copy of it. -/
namespace Go.Proofs.Ytpccbiinfdppnab
open Go.RowKit

/-! ### The kernel's checks -/
def chkFrob (D : FD) : Bool := allB D.q fun c => D.frob1 (sumD D.p D.q 1 c) == sumD D.p D.q 1 (D.frob1 c) && decide (D.traceTo c D.m < D.p) && decide (D.normTo c D.m < D.p)
theorem chkFrob_all : fieldsL.all chkFrob = true := by decide +kernel

/-- What an element of E becomes in D, the root being x. -/
def FD.emb (D E : FD) (x a : Nat) : Nat := D.val (fun j => dg E.p a j) E.m x E.m
def chkEmb (D E : FD) (x : Nat) : Bool := D.emb E x 1 == 1 && D.emb E x 0 == 0 && allB E.q fun c => D.emb E x (sumD E.p E.q 1 c) == sumD D.p D.q 1 (D.emb E x c) && D.emb E x (E.st c) == D.mul (D.emb E x c) (D.emb E x E.gen) && again D.frob1 (E.m % D.m) (D.emb E x c) == D.emb E x c
theorem chkEmb_all : (fieldsL.all fun D => fieldsL.all fun E => !(D.holdsB E) || chkEmb D E (D.root E)) = true := by decide +kernel
theorem stay_all : (fieldsL.all fun D => fieldsL.all fun E => !(D.holdsB E) || (D.stayTo E.m D.q).length == E.q) = true := by decide +kernel
end Go.Proofs.Ytpccbiinfdppnab

/- Plain mathematics, gone on: the laws that follow from the kernel's checks. -/
namespace Go.Proofs.Ytpccbiinfdppnab
open Go.RowKit

theorem mul_zero' (D : FD) (a : Nat) : D.mul a 0 = 0 := by simp [FD.mul]
theorem zero_mul' (D : FD) (a : Nat) : D.mul 0 a = 0 := by simp [FD.mul]
theorem inv_is {D : FD} (hD : D ∈ fieldsL) {x : Nat} (hx : x < D.q) (h0 : x ≠ 0) : D.mul x (D.pw x (D.q - 2)) = 1 := by
  have h := t11 hD hx h0
  rw [inv_nat hD hx h0, mulZ_nat (fld hD) hx (pw_lt hD x _)] at h
  exact_mod_cast h
/-- What a times something is b. -/
theorem part_of {D : FD} (hD : D ∈ fieldsL) {a b : Nat} (ha : a < D.q) (h0 : a ≠ 0) (hb : b < D.q) : ∃ c, c < D.q ∧ D.mul a c = b :=
  ⟨D.mul (D.pw a (D.q - 2)) b, (fld hD).mul_lt _ _, by rw [← (fld hD).mul_assoc, inv_is hD ha h0, (fld hD).mul_comm, (fld hD).mul_one b hb]⟩
theorem sum_part {D : FD} (hD : D ∈ fieldsL) {a c : Nat} (ha : a < D.q) (hc : c < D.q) : sumD D.p D.q a (D.mul a c) = D.mul a (sumD D.p D.q 1 c) := by
  rw [(fld hD).distrib a 1 c (by have := (fld hD).q2; omega) hc, (fld hD).mul_one a ha]

/-! ### Frobenius -/
theorem frob1_mul {D : FD} (hD : D ∈ fieldsL) (a b : Nat) : D.frob1 (D.mul a b) = D.mul (D.frob1 a) (D.frob1 b) := by
  by_cases ha : a = 0
  · rw [ha, zero_mul', show D.frob1 0 = 0 from rfl, zero_mul']
  by_cases hb : b = 0
  · rw [hb, mul_zero', show D.frob1 0 = 0 from rfl, mul_zero']
  have h := (fld hD).mul_ne a b ha hb
  have h1 := pw_ne hD a D.p
  have h2 := pw_ne hD b D.p
  rw [FD.frob1, if_neg h.1, FD.frob1, if_neg ha, FD.frob1, if_neg hb]
  unfold FD.mul
  rw [if_neg (by omega), if_neg (by omega), h1.2, h2.2]
  have h' := h.2
  unfold FD.mul at h'
  rw [if_neg (by omega)] at h'
  unfold FD.pw
  rw [h', Nat.mul_mod, Nat.mod_mod, ← Nat.mul_mod, Nat.add_mul, Nat.add_mod]
theorem chk_frob {D : FD} (hD : D ∈ fieldsL) {c : Nat} (hc : c < D.q) : D.frob1 (sumD D.p D.q 1 c) = sumD D.p D.q 1 (D.frob1 c) ∧ D.traceTo c D.m < D.p ∧ D.normTo c D.m < D.p := by
  have h := List.all_eq_true.1 (List.all_eq_true.1 chkFrob_all D hD) c (List.mem_range.2 hc)
  simp only [Bool.and_eq_true, beq_iff_eq, decide_eq_true_eq] at h
  exact ⟨h.1.1, h.1.2, h.2⟩
theorem frob1_add {D : FD} (hD : D ∈ fieldsL) {a b : Nat} (ha : a < D.q) (hb : b < D.q) : D.frob1 (sumD D.p D.q a b) = sumD D.p D.q (D.frob1 a) (D.frob1 b) := by
  have F := fld hD
  by_cases h0 : a = 0
  · rw [h0, F.add_comm, F.sum_zero b hb, show D.frob1 0 = 0 from rfl, F.add_comm, F.sum_zero _ (frob1_lt hD b)]
  · obtain ⟨c, hc, rfl⟩ := part_of hD ha h0 hb
    rw [sum_part hD ha hc, frob1_mul hD, (chk_frob hD hc).1, frob1_mul hD, sum_part hD (frob1_lt hD a) (frob1_lt hD c)]
theorem frobK_mul {D : FD} (hD : D ∈ fieldsL) (a b : Nat) : ∀ k, again D.frob1 k (D.mul a b) = D.mul (again D.frob1 k a) (again D.frob1 k b)
  | 0 => rfl
  | k + 1 => by show D.frob1 (again D.frob1 k _) = D.mul (D.frob1 _) (D.frob1 _); rw [frobK_mul hD a b k, frob1_mul hD]
theorem frobK_add {D : FD} (hD : D ∈ fieldsL) {a b : Nat} (ha : a < D.q) (hb : b < D.q) : ∀ k, again D.frob1 k (sumD D.p D.q a b) = sumD D.p D.q (again D.frob1 k a) (again D.frob1 k b)
  | 0 => rfl
  | k + 1 => by show D.frob1 (again D.frob1 k _) = sumD D.p D.q (D.frob1 _) (D.frob1 _); rw [frobK_add hD ha hb k, frob1_add hD (frob_lt hD a ha k) (frob_lt hD b hb k)]
theorem frob_all {D : FD} (hD : D ∈ fieldsL) {a : Nat} (ha : a < D.q) : again D.frob1 D.m a = a := by
  by_cases h0 : a = 0
  · rw [h0, frob_zero]
  · rw [frob_pw hD a ha h0, ← (fld hD).qp, pw_q hD a ha h0]

/-! ### Traces and norms -/
theorem swap4 {D : FD} (hD : D ∈ fieldsL) {a b c d : Nat} (ha : a < D.q) (hb : b < D.q) (hc : c < D.q) (hd : d < D.q) : sumD D.p D.q (sumD D.p D.q a b) (sumD D.p D.q c d) = sumD D.p D.q (sumD D.p D.q a c) (sumD D.p D.q b d) := by
  have F := fld hD
  rw [F.add_assoc a b _ ha hb (F.sum_lt _ _ hc hd), F.add_assoc a c _ ha hc (F.sum_lt _ _ hb hd), ← F.add_assoc b c d hb hc hd, F.add_comm b c, F.add_assoc c b d hc hb hd]
theorem traceTo_add {D : FD} (hD : D ∈ fieldsL) {a b : Nat} (ha : a < D.q) (hb : b < D.q) : ∀ k, D.traceTo (sumD D.p D.q a b) k = sumD D.p D.q (D.traceTo a k) (D.traceTo b k)
  | 0 => by show 0 = sumD D.p D.q 0 0; rw [(fld hD).sum_zero 0 (by have := (fld hD).q2; omega)]
  | k + 1 => by
    show sumD D.p D.q _ _ = sumD D.p D.q (sumD D.p D.q _ _) (sumD D.p D.q _ _)
    rw [traceTo_add hD ha hb k, frobK_add hD ha hb k, swap4 hD (traceTo_lt hD a ha k) (traceTo_lt hD b hb k) (frob_lt hD a ha k) (frob_lt hD b hb k)]
theorem normTo_mul {D : FD} (hD : D ∈ fieldsL) (a b : Nat) : ∀ k, D.normTo (D.mul a b) k = D.mul (D.normTo a k) (D.normTo b k)
  | 0 => by show 1 = D.mul 1 1; rw [(fld hD).mul_one 1 (by have := (fld hD).q2; omega)]
  | k + 1 => by
    have F := fld hD
    show D.mul _ _ = D.mul (D.mul _ _) (D.mul _ _)
    rw [normTo_mul hD a b k, frobK_mul hD a b k, F.mul_assoc, F.mul_assoc, ← F.mul_assoc (D.normTo b k), F.mul_comm (D.normTo b k), F.mul_assoc]

/-! ### Copies -/
theorem chk_emb {D E : FD} (hD : D ∈ fieldsL) (hE : E ∈ fieldsL) (h : E.p = D.p ∧ D.m % E.m = 0) : D.emb E (D.root E) 1 = 1 ∧ D.emb E (D.root E) 0 = 0 ∧ ∀ c, c < E.q → D.emb E (D.root E) (sumD E.p E.q 1 c) = sumD D.p D.q 1 (D.emb E (D.root E) c) ∧ D.emb E (D.root E) (E.st c) = D.mul (D.emb E (D.root E) c) (D.emb E (D.root E) E.gen) ∧ again D.frob1 (E.m % D.m) (D.emb E (D.root E) c) = D.emb E (D.root E) c := by
  have k := List.all_eq_true.1 (List.all_eq_true.1 chkEmb_all D hD) E hE
  have hb : D.holdsB E = true := by simp [FD.holdsB, h.1, h.2]
  rw [hb] at k
  simp only [Bool.not_true, Bool.false_or, chkEmb, Bool.and_eq_true, beq_iff_eq] at k
  refine ⟨k.1.1, k.1.2, fun c hc => ?_⟩
  have k2 := List.all_eq_true.1 k.2 c (List.mem_range.2 hc)
  simp only [Bool.and_eq_true, beq_iff_eq] at k2
  exact ⟨k2.1.1, k2.1.2, k2.2⟩
theorem emb_lt {D E : FD} (hD : D ∈ fieldsL) (hE : E ∈ fieldsL) (h : E.p = D.p ∧ D.m % E.m = 0) (a : Nat) : D.emb E (D.root E) a < D.q := val_lt hD _ _ _ (fun j => dg_ltq hD hE h.1 a j) _
theorem emb_again {D E : FD} (hD : D ∈ fieldsL) (hE : E ∈ fieldsL) (h : E.p = D.p ∧ D.m % E.m = 0) (a : Nat) (ha : a < E.q) : ∀ k, again E.st k a < E.q ∧ D.emb E (D.root E) (again E.st k a) = D.mul (D.emb E (D.root E) a) (again (fun r => D.mul r (D.emb E (D.root E) E.gen)) k 1)
  | 0 => ⟨ha, ((fld hD).mul_one _ (emb_lt hD hE h a)).symm⟩
  | k + 1 => by
    have i := emb_again hD hE h a ha k
    refine ⟨(fld hE).st_lt _ i.1, ?_⟩
    show D.emb E (D.root E) (E.st (again E.st k a)) = D.mul _ (D.mul (again _ k 1) _)
    rw [((chk_emb hD hE h).2.2 _ i.1).2.1, i.2, (fld hD).mul_assoc]
theorem emb_mul {D E : FD} (hD : D ∈ fieldsL) (hE : E ∈ fieldsL) (h : E.p = D.p ∧ D.m % E.m = 0) {a b : Nat} (ha : a < E.q) (hb : b < E.q) : D.emb E (D.root E) (E.mul a b) = D.mul (D.emb E (D.root E) a) (D.emb E (D.root E) b) := by
  by_cases h0 : a = 0
  · rw [h0, zero_mul', (chk_emb hD hE h).2.1, zero_mul']
  · have h1 : 1 < E.q := (fld hE).q2
    have i1 := (emb_again hD hE h 1 h1 (E.lg a)).2
    rw [((fld hE).lg_is a ha h0).2, (chk_emb hD hE h).1, (fld hD).mul_comm] at i1
    rw [(fld hE).mul_eq a b h0 hb, (emb_again hD hE h b hb (E.lg a)).2, i1, (fld hD).mul_assoc, (fld hD).mul_comm 1, (fld hD).mul_one _ (emb_lt hD hE h b), (fld hD).mul_comm]
theorem emb_add {D E : FD} (hD : D ∈ fieldsL) (hE : E ∈ fieldsL) (h : E.p = D.p ∧ D.m % E.m = 0) {a b : Nat} (ha : a < E.q) (hb : b < E.q) : D.emb E (D.root E) (sumD E.p E.q a b) = sumD D.p D.q (D.emb E (D.root E) a) (D.emb E (D.root E) b) := by
  by_cases h0 : a = 0
  · rw [h0, (fld hE).add_comm, (fld hE).sum_zero b hb, (chk_emb hD hE h).2.1, (fld hD).add_comm, (fld hD).sum_zero _ (emb_lt hD hE h b)]
  · obtain ⟨c, hc, rfl⟩ := part_of hE ha h0 hb
    rw [sum_part hE ha hc, emb_mul hD hE h ha ((fld hE).sum_lt _ _ (fld hE).q2 hc), ((chk_emb hD hE h).2.2 c hc).1, emb_mul hD hE h ha hc, sum_part hD (emb_lt hD hE h a) (emb_lt hD hE h c)]
theorem emb_ne {D E : FD} (hD : D ∈ fieldsL) (hE : E ∈ fieldsL) (h : E.p = D.p ∧ D.m % E.m = 0) {a : Nat} (ha : a < E.q) (h0 : a ≠ 0) : D.emb E (D.root E) a ≠ 0 := by
  intro e
  have i := emb_mul hD hE h ha (pw_lt hE a (E.q - 2))
  rw [inv_is hE ha h0, e, zero_mul', (chk_emb hD hE h).1] at i
  cases i
theorem emb_inj {D E : FD} (hD : D ∈ fieldsL) (hE : E ∈ fieldsL) (h : E.p = D.p ∧ D.m % E.m = 0) {a b : Nat} (ha : a < E.q) (hb : b < E.q) (e : D.emb E (D.root E) a = D.emb E (D.root E) b) : a = b := by
  have F := fld hE
  have hn := F.neg_lt b hb
  have i1 := emb_add hD hE h ha hn
  have i2 := emb_add hD hE h hb hn
  rw [e, ← i2] at i1
  have hz : sumD E.p E.q b (negD E.p E.q b) = 0 := F.sum_neg b hb
  rw [hz, (chk_emb hD hE h).2.1] at i1
  by_cases k : sumD E.p E.q a (negD E.p E.q b) = 0
  · rw [F.add_comm] at k hz
    exact F.neg_uniq _ _ _ hn ha hb k hz
  · exact absurd i1 (emb_ne hD hE h (F.sum_lt _ _ ha hn) k)
theorem emb_in {D E : FD} (hD : D ∈ fieldsL) (hE : E ∈ fieldsL) (h : E.p = D.p ∧ D.m % E.m = 0) {a : Nat} (ha : a < E.q) : ((D.emb E (D.root E) a : Nat) : Int) ∈ D.stayTo E.m D.q := by
  unfold FD.stayTo
  exact List.mem_map.2 ⟨_, List.mem_filter.2 ⟨List.mem_range.2 (emb_lt hD hE h a), beq_iff_eq.2 ((chk_emb hD hE h).2.2 a ha).2.2⟩, rfl⟩
theorem stay_len {D E : FD} (hD : D ∈ fieldsL) (hE : E ∈ fieldsL) (h : E.p = D.p ∧ D.m % E.m = 0) : (D.stayTo E.m D.q).length = E.q := by
  have k := List.all_eq_true.1 (List.all_eq_true.1 stay_all D hD) E hE
  have hb : D.holdsB E = true := by simp [FD.holdsB, h.1, h.2]
  rw [hb] at k
  simpa using k
end Go.Proofs.Ytpccbiinfdppnab

/- The walk of the statement FieldEmbeds. -/
namespace Go.Proofs.Ytpccbiinfdppnab
open Go.RowKit

/-! ### What two answers with lists are held together by -/
set_option maxHeartbeats 2000000 in
theorem list_err (e : Int) (he : e ≠ 0) (w : World) :
    Calls Try.prog 31 #[.slice none 0 0, .int .i64 e, .slice none 0 0, .int .i64 e] w fun r w' => r = .returned (.bool true) ∧ w' = w := by
  have h1 : (e != 0) = true := bne_iff_ne.2 he
  go_enter Try.func31, Try.ntmps31
  go_wp2
  go_ret
  exact ⟨rfl, rfl⟩

set_option maxHeartbeats 2000000 in
theorem list_same {va vb : Value} {l : List Int} {w : World} (ha : SliceI va l w) (hb : SliceI vb l w) :
    Calls Try.prog 31 #[va, .int .i64 0, vb, .int .i64 0] w fun r w' => r = .returned (.bool true) ∧ ∃ n, w' = w.drewN n := by
  have H : Hid (SliceI va l w ∧ SliceI vb l w) := ⟨ha, hb⟩
  clear ha hb
  go_enter Try.func31, Try.ntmps31
  go_wp2_with fail
  refine (same_any H.out.1 H.out.2).mono ?_
  rintro e w' ⟨rfl, n, rfl⟩
  rw [decide_eq_true rfl]
  go_wp2
  go_ret
  exact ⟨rfl, _, rfl⟩

theorem embL_len (D E : FD) : (D.embL E).length = E.q := by simp [FD.embL]

end Go.Proofs.Ytpccbiinfdppnab
