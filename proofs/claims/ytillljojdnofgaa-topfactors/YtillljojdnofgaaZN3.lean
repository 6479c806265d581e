/- Texts of ours, one behind the other: N3 N4 U1. -/
import Derived.Test.YtillljojdnofgaaZN2
import Derived.Test.YtillljojdnofgaaZB5
/- Plain mathematics of polynomials, gone on: with 1 at the end; common divisors, as they are looked for. No Go text here. -/
namespace Go.Proofs.Ytillljojdnofgaa

/-- What undoes an element. -/
def FD.iv (D : FD) (x : Nat) : Nat := D.pw x (D.q - 2)
theorem iv_lt {D : FD} (hD : D ∈ fieldsL) (x : Nat) : D.iv x < D.q := pw_lt hD x _
theorem iv_is {D : FD} (hD : D ∈ fieldsL) {x : Nat} (hx : x < D.q) (h0 : x ≠ 0) : D.mul x (D.iv x) = 1 := inv_is hD hx h0
theorem iv_ne {D : FD} (hD : D ∈ fieldsL) {x : Nat} (hx : x < D.q) (h0 : x ≠ 0) : D.iv x ≠ 0 := by
  intro e
  have h := iv_is hD hx h0
  rw [e, mul0 (fld hD)] at h
  cases h

/-- No noughts at the end. -/
def Trd (n : Nat) (c : Nat → Nat) : Prop := Bd n c ∧ (n ≠ 0 → c (n - 1) ≠ 0)
theorem trd_dgn {c : Nat → Nat} {n : Nat} (h : Bd n c) : Trd (dgn c n) c := ⟨dgn_bd h, dgn_top c n⟩
theorem Trd.dgn {c : Nat → Nat} {n N : Nat} (h : Trd n c) (hN : n ≤ N) : Go.Proofs.Ytillljojdnofgaa.dgn c N = n := by
  rw [dgn_from h.1 hN]; exact dgn_self h.2

/-- With 1 as the last of n coefficients. -/
def FD.mon (D : FD) (a : Nat → Nat) (n : Nat) : Nat → Nat := pscale D (D.iv (a (n - 1))) a
theorem mon_trd {D : FD} (hD : D ∈ fieldsL) {a : Nat → Nat} {n : Nat} (ha : El D a) (h : Trd n a) : Trd n (D.mon a n) := by
  have F := fld hD
  refine ⟨fun k hk => ?_, fun hn => ?_⟩
  · unfold FD.mon pscale
    rw [h.1 k hk, mul0 F]
  · unfold FD.mon pscale
    exact (F.mul_ne _ _ (iv_ne hD (ha _) (h.2 hn)) (h.2 hn)).1
theorem mon_el {D : FD} (hD : D ∈ fieldsL) (a : Nat → Nat) (n : Nat) : El D (D.mon a n) := el_scale (fld hD) _ _
/-- The product with a number. -/
theorem pmul_const {D : FD} (F : Fld D) {a : Nat → Nat} {n c : Nat} (ha : El D a) (hn : Bd n a) (hc : c < D.q) : pmul D n a (fun k => if k = 0 then c else 0) = pscale D c a := by
  have e : (fun k => if k = 0 then c else 0) = pscale D c pone := by
    funext k
    show _ = D.mul c (if k = 0 then 1 else 0)
    split
    · exact (mul1 F hc).symm
    · exact (mul0 F c).symm
  rw [e, pmul_scale_r F, pmul_one F ha hn]

end Go.Proofs.Ytillljojdnofgaa

/- Plain mathematics of polynomials, gone on: values of sums and products. No Go text here. -/
namespace Go.Proofs.Ytillljojdnofgaa

end Go.Proofs.Ytillljojdnofgaa

/- The program's polynomials: lists of numbers, and what trim leaves. -/
namespace Go.Proofs.Ytillljojdnofgaa
open Go.RowKit

/-- The first n numbers of the slice that begins at ao are the coefficients c. -/
def Sl (ao : Option Addr) (n : Nat) (c : Nat → Nat) (w : World) : Prop := ∀ j, j < n → ∃ b off, ao = some ⟨b, off, none⟩ ∧ w.cell? ⟨b, off + j, none⟩ = some (.int .i64 (c j : Nat))
/-- A slice's memory lies below a block number. -/
def LtB (ao : Option Addr) (B : Nat) : Prop := ∀ x, ao = some x → x.block < B
/-- A slice's memory lies behind a block number. -/
def GeB (ao : Option Addr) (B : Nat) : Prop := ∀ x, ao = some x → B ≤ x.block

theorem Sl.drewN {ao : Option Addr} {n : Nat} {c : Nat → Nat} {w : World} (h : Sl ao n c w) (k : Nat) : Sl ao n c (w.drewN k) := h
theorem Sl.less {ao : Option Addr} {n m : Nat} {c : Nat → Nat} {w : World} (h : Sl ao n c w) (hm : m ≤ n) : Sl ao m c w := fun j hj => h j (by omega)
theorem Sl.congr {ao : Option Addr} {n : Nat} {c d : Nat → Nat} {w : World} (h : Sl ao n c w) (e : ∀ j, j < n → c j = d j) : Sl ao n d w := fun j hj => by rw [← e j hj]; exact h j hj
theorem Sl.below {ao : Option Addr} {n B : Nat} {c : Nat → Nat} {w w' : World} (h : Sl ao n c w) (hb : Below B w w') (hB : LtB ao B) : Sl ao n c w' := fun j hj => by
  obtain ⟨b, off, rfl, hc⟩ := h j hj
  exact ⟨b, off, rfl, ((bcell hb).1 b (off + j) (hB _ rfl)).trans hc⟩
theorem LtB.mono {ao : Option Addr} {B C : Nat} (h : LtB ao B) (hBC : B ≤ C) : LtB ao C := fun x hx => Nat.lt_of_lt_of_le (h x hx) hBC
theorem GeB.mono {ao : Option Addr} {B C : Nat} (h : GeB ao C) (hBC : B ≤ C) : GeB ao B := fun x hx => Nat.le_trans hBC (h x hx)

set_option maxHeartbeats 1000000 in
theorem trim_any {ao : Option Addr} {n cap : Nat} {c : Nat → Nat} {w : World} (h : Sl ao n c w) (hn : n ≤ cap) (hcap : cap ≤ 9223372036854775807) :
    Calls Try.prog 72 #[.slice ao n cap] w fun e w' => e = .returned (.slice ao (dgn c n) cap) ∧ ∃ k, w' = w.drewN k := by
  have HS : Hid (Sl ao n c w) := h
  clear h
  go_enter Try.func72, Try.ntmps72
  go_wp2
  go_loopw [3] (fun i wr => ∃ m : Nat, m ≤ n ∧ i = .int .i64 m ∧ Hid (dgn c n = dgn c m) ∧ ∃ d, wr = w.drewN d) (fun i _ => (intOf i).toNat)
  case atStart => exact ⟨n, Nat.le_refl _, rfl, rfl, 0, rfl⟩
  case round =>
    obtain ⟨m, hm, rfl, HD, d, rfl⟩ := hrel
    cases m with
    | zero =>
      have HE : Hid (dgn c n = 0) := HD.out
      cases ao with
      | none =>
        go_wp2
        go_ret
        exact ⟨by rw [HE.out]; rfl, _, rfl⟩
      | some x =>
        go_wp2
        go_ret
        exact ⟨by rw [HE.out]; rfl, _, rfl⟩
    | succ m =>
      obtain ⟨b, off, rfl, hc⟩ := HS.out m (by omega)
      by_cases h0 : c m = 0
      · have HE : Hid (dgn c n = dgn c m) := by show _ = _; rw [HD.out, dgn, if_pos h0]
        have hz : (((c m : Nat) : Int) == 0) = true := by rw [h0]; rfl
        clear h0
        go_wp2
        go_roundw
        case rel => exact ⟨m, by omega, by go_num, HE.out, _, rfl⟩
        case measure => simp [intOf]
      · have HE : Hid (dgn c n = m + 1) := by show _ = _; rw [HD.out, dgn, if_neg h0]
        have hz : (((c m : Nat) : Int) == 0) = false := by rw [beq_eq_false_iff_ne]; omega
        clear h0
        go_wp2
        go_ret
        exact ⟨by rw [HE.out]; rfl, _, rfl⟩
end Go.Proofs.Ytillljojdnofgaa
