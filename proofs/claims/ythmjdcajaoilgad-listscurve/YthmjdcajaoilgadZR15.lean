/- Texts of ours, one behind the other: R15 M7 R16 R17 B7 B8 M8. -/
import Derived.Test.YthmjdcajaoilgadZR11
import Derived.Deep.RegionHeld3
/- The reference: a polynomial's value at an element (value). -/
namespace Go.Proofs.Ythmjdcajaoilgad
open Go.RowKit

/-- The value of n coefficients at x, from the highest one down, k of them. -/
def FD.val (D : FD) (c : Nat → Nat) (n x : Nat) : Nat → Nat
  | 0 => 0
  | k + 1 => sumD D.p D.q (D.mul (D.val c n x k) x) (c (n - 1 - k))
theorem val_lt {D : FD} (hD : D ∈ fieldsL) (c : Nat → Nat) (n x : Nat) (hc : ∀ j, c j < D.q) : ∀ k, D.val c n x k < D.q
  | 0 => by have := (fld hD).q2; show 0 < D.q; omega
  | k + 1 => (fld hD).sum_lt _ _ ((fld hD).mul_lt _ _) (hc _)

theorem bel_up' {B : Nat} {w W w1 : World} (h0 : Below B w W) (h : Below W.heap.size W w1) (hB : B ≤ w.heap.size := by exact Nat.le_refl _) : Below B w w1 := h0.trans (h.mono (Nat.le_trans hB h0.size))

theorem radd_nat {D : FD} (hD : D ∈ fieldsL) (gen : Nat) (v : Value) (a b : Nat) (ha : a < D.q) (hb : b < D.q) (wr : World) :
    Calls Try.prog 36 #[.agg #[.int .i64 D.q, .int .i64 D.p, .int .i64 D.m, .int .i64 gen, v], .int .i64 a, .int .i64 b] wr fun e w' => e = .returned (.int .i64 (sumD D.p D.q a b : Nat)) ∧ Below wr.heap.size wr w' := by
  rw [← addZ_nat (fld hD) ha hb]
  exact radd_any hD gen v a b wr

set_option maxHeartbeats 4000000 in
theorem rvalue_any {D : FD} (hD : D ∈ fieldsL) (gen : Nat) {v : Value} (gl cap n x : Nat) (c : Nat → Nat) {w : World} (hx : x < D.q) (hn : n ≤ 1000) (hc : ∀ j, c j < D.q) (hgl : gl < w.heap.size) (hN : Nums gl n c w) (hM : ModAt D v D.md w) :
    Calls Try.prog 99 #[rf D.q D.p D.m gen v, .slice (some ⟨gl, 0, none⟩) n cap, .int .i64 x] w fun e w' => e = .returned (.int .i64 (D.val c n x n : Nat)) ∧ Below w.heap.size w w' := by
  have HM : Hid (ModAt D v D.md w ∧ D ∈ fieldsL ∧ Nums gl n c w ∧ ∀ j, c j < D.q) := ⟨hM, hD, hN, hc⟩
  clear hM hD hN hc
  have HB0 : Hid (Box w.heap.size D gen v (w.alloc (.cells #[.int .i64 D.q, .int .i64 D.p, .int .i64 D.m, .int .i64 gen, v] 28))) := box_new D gen v w
  unfold rf
  go_enter Try.func99, Try.ntmps99
  go_wp2
  go_loopw [7, 8] (fun s i wr => ∃ r : Nat, r ≤ n ∧ i = .int .i64 ((r : Int) - 1) ∧ s = .int .i64 (D.val c n x (n - r) : Nat) ∧ Box w.heap.size D gen v wr ∧ Below w.heap.size w wr ∧ w.heap.size < wr.heap.size) (fun _ i _ => (intOf i + 1).toNat)
  case atStart => exact ⟨n, by omega, rfl, by rw [Nat.sub_self]; rfl, HB0.out, (Below.refl _ _).alloc (Nat.le_refl _) _, by simp⟩
  case round =>
    obtain ⟨r, hr, hi, rfl, hbox, hbel, hlt⟩ := hrel
    obtain ⟨c0, c1, c2, c3, c4⟩ := hbox
    have HG : Hid (Box w.heap.size D gen v wr ∧ Below w.heap.size w wr) := ⟨⟨c0, c1, c2, c3, c4⟩, hbel⟩
    clear hbel
    cases r with
    | succ s =>
      have hi' : u8 = .int .i64 (s : Int) := by rw [hi]; go_num
      clear hi
      subst hi'
      obtain ⟨y, hy⟩ : ∃ y, y = D.val c n x (n - (s + 1)) := ⟨_, rfl⟩
      have hyq : y < D.q := by rw [hy]; exact val_lt HM.out.2.1 c n x HM.out.2.2.2 _
      have HY : Hid (D.val c n x (n - s) = sumD D.p D.q (D.mul y x) (c s)) := by
        show _ = _
        rw [hy, show n - s = (n - (s + 1)) + 1 from by omega, FD.val, show n - 1 - (n - (s + 1)) = s from by omega]
      rw [← hy]
      clear hy
      have HC : Hid (Calls Try.prog 37 #[.agg #[.int .i64 D.q, .int .i64 D.p, .int .i64 D.m, .int .i64 gen, v], .int .i64 y, .int .i64 x] wr fun e w' => e = .returned (.int .i64 (D.mul y x : Nat)) ∧ Below wr.heap.size wr w') :=
        rmul_nat HM.out.2.1 gen HM.out.1 y x hyq hx wr HG.out.2
      go_wp2_with fail
      refine HC.out.mono ?_
      rintro e w2 ⟨rfl, hb2⟩
      have HR2 : Hid (Box w.heap.size D gen v w2 ∧ Below w.heap.size w w2) := ⟨HG.out.1.below hb2 hlt, HG.out.2.trans (hb2.mono (by omega))⟩
      have hlt2 : w.heap.size < w2.heap.size := by have := hb2.size; omega
      clear hb2 c0 c1 c2 c3 c4 HC
      obtain ⟨c0, c1, c2, c3, c4⟩ := HR2.out.1
      have hcl : w2.cell? ⟨gl, s, none⟩ = some (.int .i64 (c s : Nat)) := (HM.out.2.2.1.below HR2.out.2 hgl) s (by omega)
      have z1 : (0 : Int) ≤ (s : Int) := by omega
      have z2 : (s : Int) < (n : Int) := by omega
      have HC2 : Hid (∀ w3 : World, Calls Try.prog 36 #[.agg #[.int .i64 D.q, .int .i64 D.p, .int .i64 D.m, .int .i64 gen, v], .int .i64 (D.mul y x : Nat), .int .i64 (c s : Nat)] w3 fun e w' => e = .returned (.int .i64 (sumD D.p D.q (D.mul y x) (c s) : Nat)) ∧ Below w3.heap.size w3 w') :=
        fun w3 => radd_nat HM.out.2.1 gen v _ _ ((fld HM.out.2.1).mul_lt _ _) (HM.out.2.2.2 s) w3
      have hbc : Below w2.heap.size w2 w2 := Below.refl _ _
      go_wp2_with fail
      go_region_held3 (fun w' => w'.cell? ⟨w.heap.size, 0, none⟩ = some (.int .i64 (D.q : Nat)) ∧ w'.cell? ⟨w.heap.size, 1, none⟩ = some (.int .i64 (D.p : Nat)) ∧ w'.cell? ⟨w.heap.size, 2, none⟩ = some (.int .i64 (D.m : Nat)) ∧ w'.cell? ⟨w.heap.size, 3, none⟩ = some (.int .i64 (gen : Nat)) ∧ w'.cell? ⟨w.heap.size, 4, none⟩ = some v ∧ w'.cell? ⟨gl, s, none⟩ = some (.int .i64 (c s : Nat)))
        (first | go_keep | exact ⟨(HR2.out.1.below (B := w2.heap.size) hbc hlt2).c0, (HR2.out.1.below (B := w2.heap.size) hbc hlt2).c1, (HR2.out.1.below (B := w2.heap.size) hbc hlt2).c2, (HR2.out.1.below (B := w2.heap.size) hbc hlt2).c3, (HR2.out.1.below (B := w2.heap.size) hbc hlt2).c4, (HM.out.2.2.1.below (bel_up' HR2.out.2 hbc) hgl) s (by omega)⟩)
        (first | (go_at_call 36; refine (HC2.out _).mono ?_; rintro e w' ⟨rfl, hb'⟩; replace hbc := bel_up' (by first | exact hbc | exact hbc.drew) hb'; clear hb'))
      have HR3 : Hid (Box w.heap.size D gen v w' ∧ Below w.heap.size w w' ∧ w.heap.size < w'.heap.size) := ⟨HR2.out.1.below hbc hlt2, bel_up' HR2.out.2 hbc, by have := hbc.size; omega⟩
      clear c0 c1 c2 c3 c4 HC2 hcl hbc
      go_wp2
      go_roundw
      case rel => exact ⟨s, by omega, by go_num, by rw [HY.out], HR3.out⟩
      case measure => simp [intOf]
    | zero =>
      have hi' : u8 = .int .i64 (-1) := by rw [hi]; rfl
      clear hi
      subst hi'
      go_wp2
      go_ret
      exact ⟨rfl, HG.out.2⟩
end Go.Proofs.Ythmjdcajaoilgad

/- Plain mathematics of a field within another: what the smaller one's x becomes. -/
namespace Go.Proofs.Ythmjdcajaoilgad

/-- The smaller field's modulus, coefficient by coefficient. -/
def FD.modN (E : FD) (j : Nat) : Nat := if j = E.m then 1 else dgt E.p E.low j
/-- The k-th element that is tried. -/
def FD.xk (D E : FD) (k : Nat) : Nat := again D.st (k * ((D.q - 1) / (E.q - 1)) % (D.q - 1)) 1
def FD.isRoot (D E : FD) (k : Nat) : Bool := D.val E.modN (E.m + 1) (D.xk E k) (E.m + 1) == 0
/-- The first number from k on, among n, that meets p. -/
def firstFrom (p : Nat → Bool) : Nat → Nat → Nat
  | 0, k => k
  | n + 1, k => if p k = true then k else firstFrom p n (k + 1)
theorem firstFrom_is (p : Nat → Bool) : ∀ n k, (∃ j, k ≤ j ∧ j < k + n ∧ p j = true) → k ≤ firstFrom p n k ∧ firstFrom p n k < k + n ∧ p (firstFrom p n k) = true ∧ ∀ i, k ≤ i → i < firstFrom p n k → p i = false
  | 0, k, ⟨j, h1, h2, _⟩ => by omega
  | n + 1, k, ⟨j, h1, h2, h3⟩ => by
    rw [firstFrom]
    by_cases hp : p k = true
    · rw [if_pos hp]; exact ⟨by omega, by omega, hp, fun i h4 h5 => by omega⟩
    · rw [if_neg hp]
      have hjk : j ≠ k := fun e => hp (e ▸ h3)
      obtain ⟨a1, a2, a3, a4⟩ := firstFrom_is p n (k + 1) ⟨j, by omega, by omega, h3⟩
      refine ⟨by omega, by omega, a3, fun i h4 h5 => ?_⟩
      by_cases e : i = k
      · subst e; simpa using hp
      · exact a4 i (by omega) h5
def FD.rootK (D E : FD) : Nat := firstFrom (D.isRoot E) (E.q - 1) 1
def FD.root (D E : FD) : Nat := if E.m = 1 then 0 else D.xk E (D.rootK E)
def FD.holdsB (D E : FD) : Bool := E.p == D.p && D.m % E.m == 0
def FD.embL (D E : FD) : List Int := (List.range E.q).map fun a => ((D.val (fun j => dg E.p a j) E.m (D.root E) E.m : Nat) : Int)

theorem roots_all : (fieldsL.all fun D => fieldsL.all fun E => !(D.holdsB E) || E.m == 1 || (List.range E.q).any fun k => decide (1 ≤ k) && D.isRoot E k) = true := by decide +kernel

theorem rootK_is {D E : FD} (hD : D ∈ fieldsL) (hE : E ∈ fieldsL) (h : E.p = D.p ∧ D.m % E.m = 0) (hm : E.m ≠ 1) :
    1 ≤ D.rootK E ∧ D.rootK E < E.q ∧ D.isRoot E (D.rootK E) = true ∧ ∀ k, 1 ≤ k → k < D.rootK E → D.isRoot E k = false := by
  have h1 := List.all_eq_true.1 (List.all_eq_true.1 roots_all D hD) E hE
  have hb : D.holdsB E = true := by simp [FD.holdsB, h.1, h.2]
  have hme : (E.m == 1) = false := beq_eq_false_iff_ne.2 hm
  rw [hb, hme] at h1
  simp only [Bool.not_true, Bool.false_or] at h1
  obtain ⟨k, hk, hp⟩ := List.any_eq_true.1 h1
  rw [Bool.and_eq_true, decide_eq_true_eq] at hp
  have hk' := List.mem_range.1 hk
  obtain ⟨a1, a2, a3, a4⟩ := firstFrom_is (D.isRoot E) (E.q - 1) 1 ⟨k, hp.1, by omega, hp.2⟩
  exact ⟨a1, by have : firstFrom (D.isRoot E) (E.q - 1) 1 < E.q := by omega
                exact this, a3, a4⟩
theorem xk_lt {D E : FD} (hD : D ∈ fieldsL) (k : Nat) : D.xk E k < D.q ∧ D.xk E k ≠ 0 := by
  have F := fld hD
  have hn : k * ((D.q - 1) / (E.q - 1)) % (D.q - 1) < D.q - 1 := Nat.mod_lt _ (by have := F.q2; omega)
  exact ⟨F.pow_lt _ hn, (F.full _ hn).1⟩
theorem root_lt {D E : FD} (hD : D ∈ fieldsL) : D.root E < D.q := by
  unfold FD.root
  split
  · have := (fld hD).q2; omega
  · exact (xk_lt hD _).1
theorem modN_lt {D E : FD} (hD : D ∈ fieldsL) (hE : E ∈ fieldsL) (hp : E.p = D.p) (j : Nat) : E.modN j < D.q := by
  have h1 := (fld hD).qp
  have h2 := (fld hD).p2
  have h3 : D.p ≤ D.p ^ D.m := Nat.le_self_pow (by have := (fld hD).m1; omega) D.p
  have h4 := (fld hE).p2
  unfold FD.modN
  split
  · omega
  · have : dgt E.p E.low j < E.p := Nat.mod_lt _ (by omega)
    omega
theorem dg_ltq {D E : FD} (hD : D ∈ fieldsL) (hE : E ∈ fieldsL) (hp : E.p = D.p) (a j : Nat) : dg E.p a j < D.q := by
  have h1 := (fld hD).qp
  have h3 : D.p ≤ D.p ^ D.m := Nat.le_self_pow (by have := (fld hD).m1; omega) D.p
  have h4 := (fld hE).p2
  have : dg E.p a j < E.p := Nat.mod_lt _ (by omega)
  omega
/-- A power of the generator, as a call tells it. -/
theorem powZ_gen {D : FD} (hD : D ∈ fieldsL) (hq : 2 < D.q) (j : Nat) (hj : 1 ≤ j) : D.powZ D.gen j = (again D.st (j % (D.q - 1)) 1 : Nat) := by
  have F := fld hD
  have hs := List.all_eq_true.1 st_one D hD
  simp only [Bool.and_eq_true, beq_iff_eq, decide_eq_true_eq] at hs
  obtain ⟨⟨hs1, hs2⟩, hs3⟩ := hs
  have hg : D.lg D.gen = 1 := by
    have := F.lg_pow 1 (by omega)
    rw [show again D.st 1 1 = D.gen from hs1] at this
    exact this
  rw [FD.powZ, if_neg (by simp [nat_has hs2]), if_neg (by omega), if_neg (by omega), ← Int.natCast_emod, Int.toNat_natCast, Int.toNat_natCast, FD.pw, hg, Nat.one_mul, Nat.mod_mod]
end Go.Proofs.Ythmjdcajaoilgad

/- The reference: what each element of a field becomes in a greater one (Embed). -/
namespace Go.Proofs.Ythmjdcajaoilgad
open Go.RowKit

theorem modL_len' {D : FD} : D.modL.length = D.m + 1 := by unfold FD.modL; rw [List.length_append, digL_len]; rfl

end Go.Proofs.Ythmjdcajaoilgad

/- The reference: what each element of a field becomes in a greater one, gone on (Embed). -/
namespace Go.Proofs.Ythmjdcajaoilgad
open Go.RowKit

theorem nums_modL {E : FD} {base g cap : Nat} {w : World} (h : OwnI base (.slice (some ⟨g, 0, none⟩) (E.m + 1) cap) E.modL w) : Nums g (E.m + 1) E.modN w := by
  intro j hj
  obtain ⟨g', cap', hv, _, _, hc, _⟩ := h.at (by intro e; have := congrArg List.length e; rw [modL_len'] at this; simp at this)
  simp only [Value.slice.injEq, Option.some.injEq, Addr.mk.injEq, and_true] at hv
  obtain ⟨rfl, _, _⟩ := hv
  rw [hc j (by rw [modL_len']; exact hj)]
  unfold FD.modL FD.modN
  by_cases e : j = E.m
  · rw [if_pos e, List.getD_eq_getElem?_getD, List.getElem?_append_right (by rw [digL_len]; omega), digL_len, e, Nat.sub_self]; rfl
  · rw [if_neg e, List.getD_eq_getElem?_getD, List.getElem?_append_left (by rw [digL_len]; omega), ← List.getD_eq_getElem?_getD, digL_get _ _ _ _ (by omega)]; rfl

end Go.Proofs.Ythmjdcajaoilgad

/- A field's calls, gone on: what a smaller field's elements become (at, rootFor, Embed). -/
namespace Go.Proofs.Ythmjdcajaoilgad
open Go.RowKit

theorem mul_nat {F T : Nat} {D : FD} (hD : D ∈ fieldsL) {g : Nat → Value} {w : World} (h : FAt F T D g w) {a b : Nat} (ha : a < D.q) (hb : b < D.q) :
    Calls Try.prog 69 #[.pointer (some ⟨F, 0, none⟩), .int .i64 a, .int .i64 b] w fun e w' => e = .returned (.int .i64 (D.mul a b : Nat)) ∧ ∃ n, w' = w.drewN n := by
  rw [← mulZ_nat (fld hD) ha hb]; exact mul_any hD h a b
theorem add_nat {F T : Nat} {D : FD} (hD : D ∈ fieldsL) {g : Nat → Value} {w : World} (h : FAt F T D g w) {a b : Nat} (ha : a < D.q) (hb : b < D.q) :
    Calls Try.prog 94 #[.pointer (some ⟨F, 0, none⟩), .int .i64 a, .int .i64 b] w fun e w' => e = .returned (.int .i64 (sumD D.p D.q a b : Nat)) ∧ ∃ n, w' = w.drewN n := by
  rw [← addZ_nat (fld hD) ha hb]; exact add_any hD h a b

theorem isRoot_prime {D E : FD} (hD : D ∈ fieldsL) (hE : E ∈ fieldsL) (hm : E.m = 1) (k : Nat) : D.isRoot E k = false := by
  have F := fld hD
  have hx := xk_lt (E := E) hD k
  have hl := ((fld hE).least1 hm).2.2.2.1
  have h2 := F.q2
  have e1 : E.modN 1 = 1 := by unfold FD.modN; rw [if_pos hm.symm]
  have e0 : E.modN 0 = 0 := by unfold FD.modN dgt; rw [if_neg (by omega), hl]; simp
  have hv : D.val E.modN (E.m + 1) (D.xk E k) (E.m + 1) = D.xk E k := by
    rw [hm]
    show sumD D.p D.q (D.mul (sumD D.p D.q (D.mul 0 (D.xk E k)) (E.modN 1)) (D.xk E k)) (E.modN 0) = _
    rw [e1, e0]
    have h0 : D.mul 0 (D.xk E k) = 0 := by simp [FD.mul]
    rw [h0, F.add_comm 0 1, F.sum_zero 1 (by omega), F.mul_comm, F.mul_one _ hx.1, F.sum_zero _ hx.1]
  unfold FD.isRoot
  rw [hv]
  exact beq_eq_false_iff_ne.2 hx.2

end Go.Proofs.Ythmjdcajaoilgad

/- A field's calls, gone on: what a smaller field's elements become (Embed). -/
namespace Go.Proofs.Ythmjdcajaoilgad
open Go.RowKit

theorem nums_digL {p a m base g cap : Nat} {w : World} (hm : 1 ≤ m) (h : OwnI base (.slice (some ⟨g, 0, none⟩) m cap) (digL p a m) w) : Nums g m (fun j => dg p a j) w := by
  intro j hj
  obtain ⟨g', cap', hv, _, _, hc, _⟩ := h.at (by intro e; have := congrArg List.length e; rw [digL_len] at this; simp at this; omega)
  simp only [Value.slice.injEq, Option.some.injEq, Addr.mk.injEq, and_true] at hv
  obtain ⟨rfl, _, _⟩ := hv
  rw [hc j (by rw [digL_len]; exact hj), digL_get _ _ _ _ hj]

end Go.Proofs.Ythmjdcajaoilgad

/- Plain mathematics: Fermat and Frobenius, traces and norms; what a smaller field's elements become is a copy of it. -/
namespace Go.Proofs.Ythmjdcajaoilgad
open Go.RowKit

/-! ### The kernel's checks -/
def chkFrob (D : FD) : Bool := allB D.q fun c => D.frob1 (sumD D.p D.q 1 c) == sumD D.p D.q 1 (D.frob1 c) && decide (D.traceTo c D.m < D.p) && decide (D.normTo c D.m < D.p)
theorem chkFrob_all : fieldsL.all chkFrob = true := by decide +kernel

/-- What an element of E becomes in D, the root being x. -/
def FD.emb (D E : FD) (x a : Nat) : Nat := D.val (fun j => dg E.p a j) E.m x E.m
def chkEmb (D E : FD) (x : Nat) : Bool := D.emb E x 1 == 1 && D.emb E x 0 == 0 && allB E.q fun c => D.emb E x (sumD E.p E.q 1 c) == sumD D.p D.q 1 (D.emb E x c) && D.emb E x (E.st c) == D.mul (D.emb E x c) (D.emb E x E.gen) && again D.frob1 (E.m % D.m) (D.emb E x c) == D.emb E x c
theorem chkEmb_all : (fieldsL.all fun D => fieldsL.all fun E => !(D.holdsB E) || chkEmb D E (D.root E)) = true := by decide +kernel
theorem stay_all : (fieldsL.all fun D => fieldsL.all fun E => !(D.holdsB E) || (D.stayTo E.m D.q).length == E.q) = true := by decide +kernel
end Go.Proofs.Ythmjdcajaoilgad
