/- Texts of ours, one behind the other: U15 U16 U17 V1 V2 V3 W5 V4 V5. -/
import Derived.Test.YtillljojdnofgaaZU11
import Derived.Test.YtillljojdnofgaaZB5
import Derived.Test.YtillljojdnofgaaZW4
import Derived.Lib.QuietBelow
/- The program's polynomials: with 1 at the end (monic); the calls that are listed: Gcd. -/
namespace Go.Proofs.Ytillljojdnofgaa
open Go.RowKit

/-- A polynomial's slice without noughts at the end: where it lies, its coefficients. -/
structure PA (D : FD) (ao : Option Addr) (n cap : Nat) (c : Nat → Nat) (w : World) : Prop where
  sl : Sl ao n c w
  lt : LtB ao w.heap.size
  nil : ao = none → cap = 0
  el : El D c
  trd : Trd n c
theorem PA.below {D : FD} {ao : Option Addr} {n cap : Nat} {c : Nat → Nat} {w w' : World} (h : PA D ao n cap c w) (hb : Below w.heap.size w w') : PA D ao n cap c w' :=
  ⟨h.sl.below hb h.lt, h.lt.mono hb.size, h.nil, h.el, h.trd⟩
theorem PA.drewN {D : FD} {ao : Option Addr} {n cap : Nat} {c : Nat → Nat} {w : World} (h : PA D ao n cap c w) (k : Nat) : PA D ao n cap c (w.drewN k) := ⟨h.sl, h.lt, h.nil, h.el, h.trd⟩
set_option maxHeartbeats 4000000 in
set_option maxRecDepth 100000 in
theorem monic_any {F T : Nat} {D : FD} (hD : D ∈ fieldsL) {g : Nat → Value} {w : World} (h : FAt F T D g w) {ao : Option Addr} {n cap : Nat} {c : Nat → Nat} (hn : n ≤ 999) (ha : PA D ao n cap c w) :
    Calls Try.prog 76 #[.pointer (some ⟨F, 0, none⟩), .slice ao n cap] w fun e w' => ∃ v, e = .returned v ∧ OwnP w.heap.size v n (D.mon c n) w' ∧ Below w.heap.size w w' := by
  have HF : Hid (FAt F T D g w ∧ D ∈ fieldsL ∧ PA D ao n cap c w) := ⟨h, hD, ha⟩
  clear h hD ha
  by_cases h0 : n = 0
  · have hz : ((n : Int) == 0) = true := by rw [h0]; rfl
    have HZ : Hid (n = 0) := h0
    clear h0
    go_enter Try.func76, Try.ntmps76
    go_wp2
    go_ret
    exact ⟨_, rfl, ⟨none, 0, by rw [HZ.out]; rfl, by have := HZ.out; omega, by omega, fun x hx => (by cases hx), fun x hx => (by cases hx), fun _ => rfl, fun h1 => absurd h1 (by have := HZ.out; omega)⟩, Below.refl _ _⟩
  · obtain ⟨l, rfl⟩ : ∃ l, n = l + 1 := ⟨n - 1, by omega⟩
    clear h0
    obtain ⟨b, off, rfl, hc⟩ := HF.out.2.2.sl l (by omega)
    obtain ⟨x, hx⟩ : ∃ x, x = c l := ⟨_, rfl⟩
    have HI : Hid (Calls Try.prog 93 #[.pointer (some ⟨F, 0, none⟩), .int .i64 (x : Nat)] w fun e w' => e = .returned (.int .i64 (D.iv x : Nat)) ∧ ∃ k, w' = w.drewN k) := by
      show Calls _ _ _ _ _
      rw [hx]; exact inv_nat' HF.out.2.1 HF.out.1 (HF.out.2.2.el l) (HF.out.2.2.trd.2 (by omega))
    rw [← hx] at hc
    have HX : Hid (x = c l) := hx
    clear hx
    go_enter Try.func76, Try.ntmps76
    go_wp2_with (go_at_call 93; refine HI.out.mono ?_; rintro e w' ⟨rfl, d, rfl⟩)
    have HP : Calls Try.prog 73 #[.pointer (some ⟨F, 0, none⟩), .slice (some ⟨b, off, none⟩) (l + 1) cap, .slice (some ⟨w.heap.size, 0, none⟩) 1 1] ((w.drewN d).alloc (.cells #[.int .i64 (D.iv x : Nat)] 3)) fun e w' =>
        ∃ v, e = .returned v ∧ OwnP w.heap.size v (l + 1) (D.mon c (l + 1)) w' ∧ Below w.heap.size w w' := by
      have hbl : Below w.heap.size w ((w.drewN d).alloc (.cells #[.int .i64 (D.iv x : Nat)] 3)) := (below_drewN2 (Below.refl _ _) d).alloc (Nat.le_refl _) _
      have hF := fld HF.out.2.1
      have hp1 := HF.out.2.2.below hbl
      have hone : Sl (some ⟨w.heap.size, 0, none⟩) 1 (fun k => if k = 0 then D.iv x else 0) ((w.drewN d).alloc (.cells #[.int .i64 (D.iv x : Nat)] 3)) := fun j hj => ⟨w.heap.size, 0, rfl, by
        have h : ((w.drewN d).alloc (.cells #[.int .i64 (D.iv x : Nat)] 3)).heap[w.heap.size]? = some (.cells #[.int .i64 (D.iv x : Nat)] 3 (0, 0)) := two_new (w := w.drewN d) _
        rw [cell_of_row _ _ _ _ _ (0, 0) h, show j = 0 from by omega]; rfl⟩
      have h := product_any HF.out.2.1 (HF.out.1.below hbl HF.out.1.ltF HF.out.1.ltT) (ca := cap) (cb := 1) (show l + 1 ≤ 1000 by omega) (show 1 ≤ 1000 by omega) HF.out.2.2.el (fun k => by show (if k = 0 then D.iv x else 0) < D.q; split; exact iv_lt HF.out.2.1 _; exact zero_lt' hF)
        (fun k hk => by show (if k = 0 then D.iv x else 0) = 0; rw [if_neg (by omega)]) hp1.sl hone hp1.lt (fun y hy => by cases hy; simp)
      have hm : pmul D (l + 1) c (fun k => if k = 0 then D.iv x else 0) = D.mon c (l + 1) := by
        rw [pmul_const hF HF.out.2.2.el HF.out.2.2.trd.1 (iv_lt HF.out.2.1 _), HX.out]; rfl
      rw [hm, (mon_trd HF.out.2.1 HF.out.2.2.el HF.out.2.2.trd).dgn (show l + 1 ≤ l + 1 + 1 by omega)] at h
      refine h.mono ?_
      rintro e w' ⟨rfl, hrow, hb'⟩
      exact ⟨_, rfl, OwnP.of_row hrow (by omega) (by omega) (by omega) (by simp), bel_up hbl hb'⟩
    refine HP.mono ?_
    rintro e w2 ⟨v, rfl, hown, hb2⟩
    have HR : Hid (OwnP w.heap.size v (l + 1) (D.mon c (l + 1)) w2 ∧ Below w.heap.size w w2) := ⟨hown, hb2⟩
    clear hown hb2 HP
    go_wp2
    go_ret
    exact ⟨v, rfl, HR.out.1, HR.out.2⟩

/-- A slice's length. -/
def slLen : Value → Nat
  | .slice _ n _ => n
  | _ => 0

end Go.Proofs.Ytillljojdnofgaa

/- How many there are to try (tooMany, Tries). -/
namespace Go.Proofs.Ytillljojdnofgaa
open Go.RowKit

theorem pow_big {q i p : Nat} (hq : 1 ≤ q) (h : 4096 < q ^ i) (hp : i ≤ p) : 4096 < q ^ p := Nat.lt_of_lt_of_le h (Nat.pow_le_pow_right hq hp)

set_option maxHeartbeats 1000000 in
theorem tooMany_any (q p : Nat) (w : World) (hq : 1 ≤ q) (hq2 : q ≤ 64) (hp : p ≤ 1000) :
    Calls Try.prog 74 #[.int .i64 q, .int .i64 p] w fun e w' => e = .returned (.bool (decide (4096 < q ^ p))) ∧ w' = w := by
  go_enter Try.func74, Try.ntmps74
  go_wp2
  go_loop [5, 7] (fun x i => ∃ j y : Nat, j ≤ p ∧ y ≤ 4096 ∧ i = .int .i64 j ∧ x = .int .i64 y ∧ Hid (y = q ^ j)) (fun _ i => p - (intOf i).toNat)
  case atStart => exact ⟨0, 1, by omega, by omega, rfl, rfl, rfl⟩
  case round =>
    obtain ⟨j, y, hj, hy, rfl, rfl, HY⟩ := hrel
    by_cases hlt : j < p
    · have h1 : y * q ≤ 4096 * 64 := Nat.mul_le_mul hy hq2
      have h2 : (y : Int) * (q : Int) ≤ 262144 := by rw [← Int.natCast_mul]; omega
      have h3 : 0 ≤ (y : Int) * (q : Int) := by rw [← Int.natCast_mul]; omega
      have HP : Hid (y * q = q ^ (j + 1)) := by show _ = _; rw [HY.out, Nat.pow_succ]
      by_cases hbig : 4096 < y * q
      · have hb : (4096 : Int) < (y : Int) * (q : Int) := by rw [← Int.natCast_mul]; omega
        have HV : Hid (decide (4096 < q ^ p) = true) := decide_eq_true (pow_big hq (by rw [← HP.out]; exact hbig) hlt)
        go_wp2
        go_ret
        exact ⟨ret_bool HV.out.symm, rfl⟩
      · have hb : ¬ (4096 : Int) < (y : Int) * (q : Int) := by rw [← Int.natCast_mul]; omega
        go_wp2
        go_round
        case rel => exact ⟨j + 1, y * q, by omega, by omega, by go_num, by go_num, HP.out⟩
        case measure => simp [intOf]; omega
    · have HV : Hid (decide (4096 < q ^ p) = false) := decide_eq_false (by rw [show p = j from by omega, ← HY.out]; omega)
      go_wp2
      go_ret
      exact ⟨ret_bool HV.out.symm, rfl⟩

end Go.Proofs.Ytillljojdnofgaa

/- Does an element stand twice in a list (hasTwice)? -/
namespace Go.Proofs.Ytillljojdnofgaa
open Go.RowKit

end Go.Proofs.Ytillljojdnofgaa

/- The reference's polynomials: without noughts at the end (Trim); which may be (PolyMay). -/
namespace Go.Proofs.Ytillljojdnofgaa
open Go.RowKit

end Go.Proofs.Ytillljojdnofgaa

/- The reference's polynomials: which may be (PolyMay). -/
namespace Go.Proofs.Ytillljojdnofgaa
open Go.RowKit

end Go.Proofs.Ytillljojdnofgaa

/- The reference's polynomials: sums (PAdd). -/
namespace Go.Proofs.Ytillljojdnofgaa
open Go.RowKit

end Go.Proofs.Ytillljojdnofgaa

/- The same where the calls lay blocks: the worlds in which nothing that was there has turned. No Go text here. -/
namespace Go.Proofs.Ytillljojdnofgaa
open Go Go.Sort Go.RowKit

end Go.Proofs.Ytillljojdnofgaa

/- The reference's polynomials: products (PMul). -/
namespace Go.Proofs.Ytillljojdnofgaa
open Go.RowKit Go.Sort

end Go.Proofs.Ytillljojdnofgaa

/- The reference's polynomials: values of a polynomial that came in (value, PAt). -/
namespace Go.Proofs.Ytillljojdnofgaa
open Go.RowKit

end Go.Proofs.Ytillljojdnofgaa
