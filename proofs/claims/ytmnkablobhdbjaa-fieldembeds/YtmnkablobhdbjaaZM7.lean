/- Texts of ours, one behind the other: M7 R16. -/
import Derived.Test.YtmnkablobhdbjaaZB6
import Derived.Test.YtmnkablobhdbjaaZR11
import Derived.Deep.RegionHeld3
/- Plain mathematics of a field within another: what the smaller one's x becomes. -/
namespace Go.Proofs.Ytmnkablobhdbjaa

/-- The smaller field's modulus, coefficient by coefficient. -/
def FD.modN (E : FD) (j : Nat) : Nat := if j = E.m then 1 else dgt E.p E.low j
/-- The k-th element that is tried. -/
def FD.xk (D E : FD) (k : Nat) : Nat := again D.st (k * ((D.q - 1) / (E.q - 1)) % (D.q - 1)) 1
def FD.isRoot (D E : FD) (k : Nat) : Bool := D.val E.modN (E.m + 1) (D.xk E k) (E.m + 1) == 0
/-- The first number from k on, among n, that meets p. -/
def firstFrom (p : Nat → Bool) : Nat → Nat → Nat
  | 0, k => k
  | n + 1, k => if p k = true then k else firstFrom p n (k + 1)
theorem firstFrom_is (p : Nat → Bool) : ∀ n k, (∃ j, k ≤ j ∧ j < k + n ∧ p j = true) → k ≤ firstFrom p n k ∧ firstFrom p n k < k + n ∧ p (firstFrom p n k) = true ∧ ∀ i, k ≤ i → i < firstFrom p n k → p i = false
  | 0, k, ⟨j, h1, h2, _⟩ => by omega
  | n + 1, k, ⟨j, h1, h2, h3⟩ => by
    rw [firstFrom]
    by_cases hp : p k = true
    · rw [if_pos hp]; exact ⟨by omega, by omega, hp, fun i h4 h5 => by omega⟩
    · rw [if_neg hp]
      have hjk : j ≠ k := fun e => hp (e ▸ h3)
      obtain ⟨a1, a2, a3, a4⟩ := firstFrom_is p n (k + 1) ⟨j, by omega, by omega, h3⟩
      refine ⟨by omega, by omega, a3, fun i h4 h5 => ?_⟩
      by_cases e : i = k
      · subst e; simpa using hp
      · exact a4 i (by omega) h5
def FD.rootK (D E : FD) : Nat := firstFrom (D.isRoot E) (E.q - 1) 1
def FD.root (D E : FD) : Nat := if E.m = 1 then 0 else D.xk E (D.rootK E)
def FD.holdsB (D E : FD) : Bool := E.p == D.p && D.m % E.m == 0
def FD.embL (D E : FD) : List Int := (List.range E.q).map fun a => ((D.val (fun j => dg E.p a j) E.m (D.root E) E.m : Nat) : Int)

theorem roots_all : (fieldsL.all fun D => fieldsL.all fun E => !(D.holdsB E) || E.m == 1 || (List.range E.q).any fun k => decide (1 ≤ k) && D.isRoot E k) = true := by decide +kernel

theorem rootK_is {D E : FD} (hD : D ∈ fieldsL) (hE : E ∈ fieldsL) (h : E.p = D.p ∧ D.m % E.m = 0) (hm : E.m ≠ 1) :
    1 ≤ D.rootK E ∧ D.rootK E < E.q ∧ D.isRoot E (D.rootK E) = true ∧ ∀ k, 1 ≤ k → k < D.rootK E → D.isRoot E k = false := by
  have h1 := List.all_eq_true.1 (List.all_eq_true.1 roots_all D hD) E hE
  have hb : D.holdsB E = true := by simp [FD.holdsB, h.1, h.2]
  have hme : (E.m == 1) = false := beq_eq_false_iff_ne.2 hm
  rw [hb, hme] at h1
  simp only [Bool.not_true, Bool.false_or] at h1
  obtain ⟨k, hk, hp⟩ := List.any_eq_true.1 h1
  rw [Bool.and_eq_true, decide_eq_true_eq] at hp
  have hk' := List.mem_range.1 hk
  obtain ⟨a1, a2, a3, a4⟩ := firstFrom_is (D.isRoot E) (E.q - 1) 1 ⟨k, hp.1, by omega, hp.2⟩
  exact ⟨a1, by have : firstFrom (D.isRoot E) (E.q - 1) 1 < E.q := by omega
                exact this, a3, a4⟩
theorem xk_lt {D E : FD} (hD : D ∈ fieldsL) (k : Nat) : D.xk E k < D.q ∧ D.xk E k ≠ 0 := by
  have F := fld hD
  have hn : k * ((D.q - 1) / (E.q - 1)) % (D.q - 1) < D.q - 1 := Nat.mod_lt _ (by have := F.q2; omega)
  exact ⟨F.pow_lt _ hn, (F.full _ hn).1⟩
theorem root_lt {D E : FD} (hD : D ∈ fieldsL) : D.root E < D.q := by
  unfold FD.root
  split
  · have := (fld hD).q2; omega
  · exact (xk_lt hD _).1
theorem modN_lt {D E : FD} (hD : D ∈ fieldsL) (hE : E ∈ fieldsL) (hp : E.p = D.p) (j : Nat) : E.modN j < D.q := by
  have h1 := (fld hD).qp
  have h2 := (fld hD).p2
  have h3 : D.p ≤ D.p ^ D.m := Nat.le_self_pow (by have := (fld hD).m1; omega) D.p
  have h4 := (fld hE).p2
  unfold FD.modN
  split
  · omega
  · have : dgt E.p E.low j < E.p := Nat.mod_lt _ (by omega)
    omega
theorem dg_ltq {D E : FD} (hD : D ∈ fieldsL) (hE : E ∈ fieldsL) (hp : E.p = D.p) (a j : Nat) : dg E.p a j < D.q := by
  have h1 := (fld hD).qp
  have h3 : D.p ≤ D.p ^ D.m := Nat.le_self_pow (by have := (fld hD).m1; omega) D.p
  have h4 := (fld hE).p2
  have : dg E.p a j < E.p := Nat.mod_lt _ (by omega)
  omega
/-- A power of the generator, as a call tells it. -/
theorem powZ_gen {D : FD} (hD : D ∈ fieldsL) (hq : 2 < D.q) (j : Nat) (hj : 1 ≤ j) : D.powZ D.gen j = (again D.st (j % (D.q - 1)) 1 : Nat) := by
  have F := fld hD
  have hs := List.all_eq_true.1 st_one D hD
  simp only [Bool.and_eq_true, beq_iff_eq, decide_eq_true_eq] at hs
  obtain ⟨⟨hs1, hs2⟩, hs3⟩ := hs
  have hg : D.lg D.gen = 1 := by
    have := F.lg_pow 1 (by omega)
    rw [show again D.st 1 1 = D.gen from hs1] at this
    exact this
  rw [FD.powZ, if_neg (by simp [nat_has hs2]), if_neg (by omega), if_neg (by omega), ← Int.natCast_emod, Int.toNat_natCast, Int.toNat_natCast, FD.pw, hg, Nat.one_mul, Nat.mod_mod]
end Go.Proofs.Ytmnkablobhdbjaa

/- The reference: what each element of a field becomes in a greater one (Embed). -/
namespace Go.Proofs.Ytmnkablobhdbjaa
open Go.RowKit

theorem modL_len' {D : FD} : D.modL.length = D.m + 1 := by unfold FD.modL; rw [List.length_append, digL_len]; rfl

set_option maxHeartbeats 4000000 in
set_option maxRecDepth 100000 in
theorem rembed_none1 (q gr : Int) (w : World) (h : ∀ D ∈ fieldsL, (D.q : Int) ≠ q) :
    Calls Try.prog 44 #[.int .i64 q, .int .i64 gr] w fun e w' => e = .returned (.tuple #[.slice none 0 0, .int .i64 1]) ∧ Below w.heap.size w w' := by
  have HN : Hid (∀ D ∈ fieldsL, (D.q : Int) ≠ q) := h
  clear h
  go_enter Try.func44, Try.ntmps44
  go_wp2_with fail
  refine (rfield_none q w HN.out).mono ?_
  rintro e w1 ⟨rfl, hb1⟩
  have HB : Hid (Below w.heap.size w w1) := hb1
  clear hb1
  unfold rf0
  go_wp2
  go_ret2
  exact ⟨rfl, HB.out.alloc HB.out.size _⟩

set_option maxHeartbeats 4000000 in
set_option maxRecDepth 100000 in
theorem rembed_none2 {E : FD} (hE : E ∈ fieldsL) (gr : Int) (w : World) (h : ∀ D ∈ fieldsL, (D.q : Int) ≠ gr) :
    Calls Try.prog 44 #[.int .i64 E.q, .int .i64 gr] w fun e w' => e = .returned (.tuple #[.slice none 0 0, .int .i64 1]) ∧ Below w.heap.size w w' := by
  have HN : Hid ((∀ D ∈ fieldsL, (D.q : Int) ≠ gr) ∧ E ∈ fieldsL) := ⟨h, hE⟩
  have hm6 := (fld hE).m6
  clear h hE
  go_enter Try.func44, Try.ntmps44
  go_wp2_with fail
  refine (rfield_any HN.out.2 w).mono ?_
  rintro e w1 ⟨v, rfl, hown, hmod, hb1⟩
  have HB : Hid (Below w.heap.size w w1) := hb1
  obtain ⟨gm, cm, fm, hvm, hgm⟩ := hown.row (E.m + 1) modL_len' (by omega)
  subst hvm
  clear hb1 hown hmod hgm
  unfold rf
  go_wp2_with fail
  refine (rfield_none gr _ HN.out.1).mono ?_
  rintro e w2 ⟨rfl, hb2⟩
  have HB2 : Hid (Below w.heap.size w w2) := bel_up' (HB.out.alloc HB.out.size _) hb2
  clear hb2
  unfold rf0
  go_wp2
  go_ret2
  exact ⟨rfl, HB2.out.alloc HB2.out.size _⟩
end Go.Proofs.Ytmnkablobhdbjaa
