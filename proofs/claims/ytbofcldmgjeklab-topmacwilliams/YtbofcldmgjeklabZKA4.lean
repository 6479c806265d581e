/- Texts of ours, one behind the other: KA4 KA5 KA6 KA7 KA8 KA9 KA10 KA11 S21 S22. -/
import Derived.Test.YtbofcldmgjeklabZS20
import Derived.Test.YtbofcldmgjeklabZR5
import Derived.Test.YtbofcldmgjeklabZH2
import Derived.Laws.EntriesVeiled
import Derived.Test.YtbofcldmgjeklabZL1
/- Weights: what is said of a size and a length, on both sides (Check, CountMay). -/
namespace Go.Proofs.Ytbofcldmgjeklab
open Go.RowKit

/-- What Power of the reference tells. -/
def PwR (b : Nat) (t : Int) (w : World) (e : Ending) (w' : World) : Prop := ∃ v : Int, e = .returned (.int .i64 v) ∧ w' = w ∧ ((b ^ t.toNat ≤ 1073741824 ∧ v = (b ^ t.toNat : Nat)) ∨ (1073741824 < b ^ t.toNat ∧ v = -1))
set_option maxHeartbeats 2000000 in
theorem rpower_any (b : Nat) (t : Int) (hb : 2 ≤ b) (hb2 : b ≤ 64) (ht : 0 ≤ t) (ht2 : t ≤ 9223372036854775807) (w : World) :
    Calls Try.prog 28 #[.int .i64 (b : Nat), .int .i64 t] w (PwR b t w) := by
  go_enter Try.func28, Try.ntmps28
  go_wp2
  go_loopw [5, 6] (fun vo vi wr => ∃ i o : Nat, vo = .int .i64 (o : Nat) ∧ vi = .int .i64 (i : Nat) ∧ (i : Int) ≤ t ∧ i ≤ 30 ∧ o ≤ 1073741824 ∧ Hid (o = b ^ i) ∧ wr = w) (fun _ vi _ => 31 - (intOf vi).toNat)
  case atStart => exact ⟨0, 1, rfl, rfl, by omega, by omega, by omega, by show 1 = b ^ 0; simp, rfl⟩
  case round =>
    obtain ⟨i, o, rfl, rfl, hi, hi2, ho, HO, hw⟩ := hrel
    have hw := hw.symm
    subst hw
    by_cases hlt : (i : Int) < t
    · obtain ⟨y, hy⟩ : ∃ y, y = o * b := ⟨_, rfl⟩
      have hy2 : y ≤ 1073741824 * 64 := by rw [hy]; exact Nat.mul_le_mul ho hb2
      have hwr : IntKind.i64.wrap ((o : Int) * (b : Int)) = (y : Int) := by
        have he : (o : Int) * (b : Int) = (y : Int) := by rw [hy]; simp
        rw [he]; exact wrap_ka (by omega) (by omega)
      have HY : Hid (y = b ^ (i + 1)) := by show y = _; rw [hy, HO.out, Nat.pow_succ]
      clear hy
      by_cases hf : y ≤ 1073741824
      · have hfb : ¬ (y : Int) > 1073741824 := by omega
        have hfb2 : ¬ (1073741824 : Int) < (y : Int) := by omega
        have hi30 : i + 1 ≤ 30 := pow30 hb (by rw [← HY.out]; exact hf)
        go_wp2
        go_roundw
        case rel => exact ⟨i + 1, y, by first | rfl | simp [hwr], by go_num, by omega, hi30, hf, HY.out, by first | rfl | trivial⟩
        case measure => simp [intOf]; omega
      · have hfb : (y : Int) > 1073741824 := by omega
        have hfb2 : (1073741824 : Int) < (y : Int) := by omega
        have HE : Hid (1073741824 < b ^ t.toNat) := by
          show 1073741824 < b ^ t.toNat
          have : b ^ (i + 1) ≤ b ^ t.toNat := Nat.pow_le_pow_right (by omega) (by omega)
          rw [← HY.out] at this
          omega
        go_wp2
        go_ret
        exact ⟨-1, rfl, rfl, Or.inr ⟨HE.out, rfl⟩⟩
    · have hti : t = (i : Int) := by omega
      subst hti
      have HE : Hid (b ^ (i : Int).toNat ≤ 1073741824 ∧ ((o : Nat) : Int) = (b ^ (i : Int).toNat : Nat)) := by
        show _ ∧ _
        rw [Int.toNat_natCast, ← HO.out]
        exact ⟨ho, rfl⟩
      go_wp2
      go_ret
      exact ⟨_, rfl, rfl, Or.inl HE.out⟩
/-- What is said of a length over a field. -/
def FD.wck (D : FD) (n : Int) : Int := if n < 1 then 4 else if D.q ^ n.toNat ≤ 1073741824 then 0 else 4
set_option maxHeartbeats 2000000 in
set_option maxRecDepth 100000 in
theorem wcheck_any {D : FD} (hD : D ∈ fieldsL) (n : Int) (hn : n ≤ 9223372036854775807) (w : World) :
    Calls Try.prog 73 #[.int .i64 D.q, .int .i64 n] w fun e w' => e = .returned (.int .i64 (D.wck n)) ∧ Below w.heap.size w w' := by
  have HD : Hid (D ∈ fieldsL) := hD
  have h2 := (fld hD).q2
  have h64 := (fld hD).q64
  clear hD
  go_enter Try.func73, Try.ntmps73
  go_wp2_with fail
  refine (new_any HD.out w).mono ?_
  rintro e w1 ⟨F, T, g, rfl, _, _, _, hb1⟩
  have H1 : Hid (Below w.heap.size w w1) := hb1
  clear hb1
  by_cases h1 : n < 1
  · have HE : Hid (D.wck n = 4) := by show D.wck n = 4; unfold FD.wck; rw [if_pos h1]
    go_wp2
    go_ret
    exact ⟨by rw [HE.out]; rfl, H1.out⟩
  · have HP : Hid (Calls Try.prog 75 #[.int .i64 (D.q : Nat), .int .i64 n] w1 (PwB D.q n w1)) := wpow_any D.q n h2 h64 (by omega) hn w1
    go_wp2_with fail
    refine HP.out.mono ?_
    rintro e w' ⟨v, rfl, hw, hv, hv2⟩
    have hw := hw.symm
    subst hw
    rcases hv with ⟨hp, hv⟩ | ⟨hp, hv⟩
    · have hvb : ¬ (1073741824 : Int) < (v : Int) := by omega
      have hvb2 : ¬ (v : Int) > 1073741824 := by omega
      have HE : Hid (D.wck n = 0) := by show D.wck n = 0; unfold FD.wck; rw [if_neg (by omega), if_pos hp]
      clear hp hv
      go_wp2
      go_ret
      exact ⟨by rw [HE.out]; rfl, H1.out⟩
    · have hvb : (1073741824 : Int) < (v : Int) := by omega
      have hvb2 : (v : Int) > 1073741824 := by omega
      have HE : Hid (D.wck n = 4) := by show D.wck n = 4; unfold FD.wck; rw [if_neg (by omega), if_neg (by omega)]
      clear hp hv
      go_wp2
      go_ret
      exact ⟨by rw [HE.out]; rfl, H1.out⟩
end Go.Proofs.Ytbofcldmgjeklab

/- Weights: sums and looks by closures (the program's times, found, outside; Shows' closures). -/
namespace Go.Proofs.Ytbofcldmgjeklab
open Go.RowKit Go.Sort

/-- The sum of the first products. -/
def vsm (f K : Nat → Int) : Nat → Int
  | 0 => 0
  | r + 1 => vsm f K r + f r * K r
set_option maxHeartbeats 2000000 in
set_option maxRecDepth 100000 in
theorem wtimes_any {gf : Nat} {lb : Array Value} (eg : ∀ args w, (callFunc gf args).run Try.prog w = .ok (.enter gf args) w) {ao : Option Addr} {N cap : Nat} {f K : Nat → Int} {w : World}
    (hs : SlZ ao N f w) (hN : N ≤ 100) (hb : ∀ j, j < N → (f j * K j).natAbs ≤ 2305843009213693952) (hv : ∀ j, j ≤ N → (vsm f K j).natAbs ≤ 2305843009213693952) (hp : ∀ j : Nat, j < N → Calls Try.prog gf (#[.int .i64 (j : Nat)] ++ lb) w fun e w' => e = .returned (.int .i64 (K j)) ∧ w' = w) :
    Calls Try.prog 76 #[.slice ao N cap, .func (.func gf) #[] lb] w fun e w' => e = .returned (.int .i64 (vsm f K N)) ∧ w' = w := by
  have HS : Hid (SlZ ao N f w ∧ (∀ j : Nat, j < N → Calls Try.prog gf (#[.int .i64 (j : Nat)] ++ lb) w fun e w' => e = .returned (.int .i64 (K j)) ∧ w' = w) ∧ (∀ j, j < N → (f j * K j).natAbs ≤ 2305843009213693952) ∧ ∀ j, j ≤ N → (vsm f K j).natAbs ≤ 2305843009213693952) := ⟨hs, hp, hb, hv⟩
  clear hs hp hb hv
  go_enter Try.func76, Try.ntmps76
  go_wp2
  go_loopw [5, 10] (fun vs vi wr => ∃ (r : Nat) (s : Int), r ≤ N ∧ vs = .int .i64 s ∧ vi = .int .i64 (r : Nat) ∧ Hid (s = vsm f K r) ∧ wr = w) (fun _ vi _ => N - (intOf vi).toNat)
  case atStart => exact ⟨0, 0, by omega, rfl, rfl, rfl, rfl⟩
  case round =>
    obtain ⟨r, s, hr, rfl, rfl, HV, hw⟩ := hrel
    have hw := hw.symm
    subst hw
    by_cases hlt : r < N
    · obtain ⟨b, off, hao, hcz⟩ := HS.out.1 r hlt
      subst hao
      have hib : (r : Int) < (N : Int) := by omega
      have hcall := HS.out.2.1 r hlt
      obtain ⟨y, hy⟩ : ∃ y, y = f r := ⟨_, rfl⟩
      obtain ⟨kv, hk⟩ : ∃ kv, kv = K r := ⟨_, rfl⟩
      obtain ⟨P, hP⟩ : ∃ P : Int, P = y * kv := ⟨_, rfl⟩
      rw [← hy] at hcz
      rw [← hk] at hcall
      have hPb : P.natAbs ≤ 2305843009213693952 := by rw [hP, hy, hk]; exact HS.out.2.2.1 r hlt
      have hsb : s.natAbs ≤ 2305843009213693952 := by rw [HV.out]; exact HS.out.2.2.2 r (by omega)
      have hsb2 : -2305843009213693952 ≤ s ∧ s ≤ 2305843009213693952 := by omega
      have hPb2 : -2305843009213693952 ≤ P ∧ P ≤ 2305843009213693952 := by omega
      have hw1 : IntKind.i64.wrap (y * kv) = P := by rw [← hP]; exact wrap_ka (by omega) (by omega)
      have HR : Hid (s + P = vsm f K (r + 1)) := by show s + P = vsm f K r + f r * K r; rw [HV.out, hP, hy, hk]
      clear hP hy hk hPb hsb
      go_wp2_with (go_at_fn gf; refine hcall.mono ?_; rintro e w' ⟨rfl, hw⟩; have hw := hw.symm; subst hw)
      go_roundw
      case rel => exact ⟨r + 1, s + P, by omega, by first | rfl | simp [hw1], by go_num, HR.out, by first | rfl | trivial⟩
      case measure => simp [intOf]; omega
    · have hre : r = N := by omega
      subst hre
      go_wp2
      go_ret
      exact ⟨by rw [← HV.out]; rfl, rfl⟩
end Go.Proofs.Ytbofcldmgjeklab

/- Weights: what Shows asks of its closures (outside, found, Shows$1, Shows$1$1, Shows$2, checkDistance). -/
namespace Go.Proofs.Ytbofcldmgjeklab
open Go.RowKit Go.Sort

def kv (q n k x : Nat) : Int := kc (kwc ((q : Int) - 1) x) n k
theorem kv_abs {q : Nat} (hq : 2 ≤ q) (n k x : Nat) : (kv q n k x).natAbs ≤ q ^ n := by
  refine kc_abs (by omega) (fun i => ?_) n k
  unfold kwc
  by_cases h : i < x
  · rw [if_pos h]; show 1 ≤ q - 1; omega
  · rw [if_neg h]; omega
theorem krawv_any (q n k x : Nat) (hq : 2 ≤ q) (hq2 : q ≤ 64) (hp : q ^ n ≤ 1073741824) (hk : k ≤ n) (hx : x ≤ n) (w : World) :
    Calls Try.prog 78 #[.int .i64 (q : Nat), .int .i64 (n : Nat), .int .i64 (k : Nat), .int .i64 (x : Nat)] w fun e w' => e = .returned (.int .i64 (kv q n k x)) ∧ w' = w := by
  have h := kraw_any q n k x hq hq2 hp hk hx w
  rw [krw_is q n k x hx] at h
  exact h
theorem enters_o1 : ∀ args w, (callFunc 117 args).run Try.prog w = .ok (.enter 117 args) w :=
  enters_of Try.func117 (by kernel_rfl) rfl

/-- The boxes of Shows that its closures read. -/
structure ShB (Bf Bq Bn q n : Nat) (ao : Option Addr) (cap : Nat) (f : Nat → Int) (w : World) : Prop where
  cf : w.cell? ⟨Bf, 0, none⟩ = some (.slice ao (n + 1) cap)
  cq : w.cell? ⟨Bq, 0, none⟩ = some (.int .i64 (q : Nat))
  cn : w.cell? ⟨Bn, 0, none⟩ = some (.int .i64 (n : Nat))
  sl : SlZ ao (n + 1) f w
  lf : Bf < w.heap.size
  lq : Bq < w.heap.size
  ln : Bn < w.heap.size
  la : LtB ao w.heap.size
theorem ShB.below {Bf Bq Bn q n : Nat} {ao : Option Addr} {cap : Nat} {f : Nat → Int} {w w' : World} (h : ShB Bf Bq Bn q n ao cap f w) (hb : Below w.heap.size w w') : ShB Bf Bq Bn q n ao cap f w' :=
  ⟨((bcell hb).1 Bf 0 h.lf).trans h.cf, ((bcell hb).1 Bq 0 h.lq).trans h.cq, ((bcell hb).1 Bn 0 h.ln).trans h.cn, h.sl.below hb h.la, Nat.lt_of_lt_of_le h.lf hb.size, Nat.lt_of_lt_of_le h.lq hb.size, Nat.lt_of_lt_of_le h.ln hb.size, h.la.mono hb.size⟩

end Go.Proofs.Ytbofcldmgjeklab

/- Weights: Shows of the program. -/
namespace Go.Proofs.Ytbofcldmgjeklab
open Go.RowKit Go.Sort

def outB (z : Nat → Int) (M : Int) (n : Nat) : Bool := anyB (fun j => decide (z j < 0) || decide (M < z j)) n
theorem outB_no {z : Nat → Int} {M : Int} : ∀ {n : Nat}, outB z M n = false → ∀ j, j < n → 0 ≤ z j ∧ z j ≤ M
  | 0, _, j, hj => absurd hj (by omega)
  | n + 1, h, j, hj => by
    have h2 : (outB z M n || (decide (z n < 0) || decide (M < z n))) = false := h
    rw [Bool.or_eq_false_iff, Bool.or_eq_false_iff, decide_eq_false_iff_not, decide_eq_false_iff_not] at h2
    by_cases e : j = n
    · subst e; omega
    · exact outB_no h2.1 j (by omega)

set_option maxHeartbeats 2000000 in
theorem o1_any (x M : Int) {B : Nat} {w : World} (hc : w.cell? ⟨B, 0, none⟩ = some (.int .i64 M)) :
    Calls Try.prog 117 #[.int .i64 x, .pointer (some ⟨B, 0, none⟩)] w fun e w' => e = .returned (.bool (decide (x < 0) || decide (M < x))) ∧ w' = w := by
  by_cases h1 : x < 0
  · go_enter Try.func117, Try.ntmps117
    go_wp2
    go_ret
    exact ⟨by simp [h1], rfl⟩
  · by_cases h2 : M < x
    · have h2b : x > M := h2
      go_enter Try.func117, Try.ntmps117
      go_wp2
      go_ret
      exact ⟨by simp, rfl⟩
    · have h2b : ¬ x > M := h2
      go_enter Try.func117, Try.ntmps117
      go_wp2
      go_ret
      exact ⟨by simp [h1, h2], rfl⟩

set_option maxHeartbeats 2000000 in
set_option maxRecDepth 100000 in
theorem outside_any {ao : Option Addr} {n cap : Nat} {z : Nat → Int} (M : Int) {w : World} (hs : SlZ ao n z w) (hl : LtB ao w.heap.size) (hn : n ≤ 1000000) :
    Calls Try.prog 83 #[.slice ao n cap, .int .i64 M] w fun e w' => e = .returned (.bool (outB z M n)) ∧ Below w.heap.size w w' := by
  have hal : Below w.heap.size w (w.alloc (.cells #[.int .i64 M] 3)) := (Below.refl _ _).alloc (Nat.le_refl _) _
  have HC : Hid (Calls Try.prog 98 #[.slice ao n cap, .func (.func 117) #[] #[.pointer (some ⟨w.heap.size, 0, none⟩)]] (w.alloc (.cells #[.int .i64 M] 3)) fun e w' => e = .returned (.bool (outB z M n)) ∧ w' = w.alloc (.cells #[.int .i64 M] 3)) := by
    refine containsFn_any enters_o1 (hs.below hal hl) hn (fun j _ => ?_)
    have e : (#[Value.int .i64 (z j)] ++ #[Value.pointer (some ⟨w.heap.size, 0, none⟩)] : Array Value) = #[.int .i64 (z j), .pointer (some ⟨w.heap.size, 0, none⟩)] := rfl
    rw [e]
    exact o1_any (z j) M (by simp)
  have HL : Hid (Below w.heap.size w (w.alloc (.cells #[.int .i64 M] 3))) := hal
  clear hs hl hal
  go_enter Try.func83, Try.ntmps83
  go_wp2_with (go_at_call 98; refine HC.out.mono ?_; rintro e w' ⟨rfl, rfl⟩)
  go_ret
  exact ⟨rfl, HL.out⟩

end Go.Proofs.Ytbofcldmgjeklab

/- Weights: Shows of the program where the lengths may be. -/
namespace Go.Proofs.Ytbofcldmgjeklab
open Go.RowKit Go.Sort

end Go.Proofs.Ytbofcldmgjeklab

/- Weights: the reference's CountMay. -/
namespace Go.Proofs.Ytbofcldmgjeklab
open Go.RowKit Go.Sort

end Go.Proofs.Ytbofcldmgjeklab

/- WeightsShow's walk where something is wrong (printed by make/ka10.py). -/
namespace Go.Proofs.Ytbofcldmgjeklab
open Go.RowKit Go.Sort

end Go.Proofs.Ytbofcldmgjeklab

/- WeightsShow's walk where the lengths may be (printed by make/ka11.py). -/
namespace Go.Proofs.Ytbofcldmgjeklab
open Go.RowKit Go.Sort
theorem SlZ.cell {b off n : Nat} {z : Nat → Int} {w : World} (h : SlZ (some ⟨b, off, none⟩) n z w) {j : Nat} (hj : j < n) : w.cell? ⟨b, off + j, none⟩ = some (.int .i64 (z j)) := by
  obtain ⟨b', off', e, hc⟩ := h j hj
  cases e
  exact hc

end Go.Proofs.Ytbofcldmgjeklab

/- Plain mathematics: balls; a sum split into high and low parts, and divided. No Go text here. -/
namespace Go.Proofs.Ytbofcldmgjeklab

end Go.Proofs.Ytbofcldmgjeklab

/- Plain mathematics: sums of products, bounded by the sum of the numbers; split into two parts. No Go text here. -/
namespace Go.Proofs.Ytbofcldmgjeklab

/-- The sum of numbers. -/
def tsm (f : Nat → Int) (r : Nat) : Int := vsm f (fun _ => 1) r
theorem tsm_succ (f : Nat → Int) (r : Nat) : tsm f (r + 1) = tsm f r + f r := by
  show vsm f (fun _ => 1) r + f r * 1 = _
  rw [Int.mul_one]; rfl
theorem tsm_nn {f : Nat → Int} {N : Nat} (hf : ∀ j, j < N → 0 ≤ f j) : ∀ r, r ≤ N → 0 ≤ tsm f r
  | 0, _ => Int.le_refl _
  | r + 1, h => by
    have h1 := tsm_nn hf r (by omega)
    have h2 := hf r (by omega)
    rw [tsm_succ]
    omega
theorem tsm_mono {f : Nat → Int} {N : Nat} (hf : ∀ j, j < N → 0 ≤ f j) : ∀ d r, r + d ≤ N → tsm f r ≤ tsm f (r + d)
  | 0, r, _ => Int.le_refl _
  | d + 1, r, h => by
    have h1 := tsm_mono hf d r (by omega)
    have h2 := hf (r + d) (by omega)
    rw [show r + (d + 1) = r + d + 1 from rfl, tsm_succ]
    omega
theorem tsm_le {f : Nat → Int} {N : Nat} (hf : ∀ j, j < N → 0 ≤ f j) {r : Nat} (hr : r ≤ N) : tsm f r ≤ tsm f N := by
  have h := tsm_mono hf (N - r) r (by omega)
  rw [show r + (N - r) = N by omega] at h
  exact h
theorem tsm_item {f : Nat → Int} {N : Nat} (hf : ∀ j, j < N → 0 ≤ f j) {r : Nat} (hr : r < N) : f r ≤ tsm f N := by
  have h := tsm_le hf (show r + 1 ≤ N by omega)
  have h2 := tsm_nn hf r (by omega)
  rw [tsm_succ] at h
  omega
theorem tsm_below {f g : Nat → Int} {N : Nat} (hg : ∀ j, j < N → g j ≤ f j) : ∀ r, r ≤ N → tsm g r ≤ tsm f r
  | 0, _ => Int.le_refl _
  | r + 1, h => by
    have h1 := tsm_below hg r (by omega)
    have h2 := hg r (by omega)
    rw [tsm_succ, tsm_succ]
    omega
theorem tsm_cap {f : Nat → Int} {M N : Nat} (hf : ∀ j, j < N → f j ≤ (M : Int)) : ∀ r, r ≤ N → tsm f r ≤ ((r * M : Nat) : Int)
  | 0, _ => by rw [Nat.zero_mul]; exact Int.le_refl _
  | r + 1, h => by
    have h1 := tsm_cap hf r (by omega)
    have h2 := hf r (by omega)
    rw [tsm_succ, Nat.add_mul]
    omega
theorem vsm_bound {f K : Nat → Int} {B N : Nat} (hf : ∀ j, j < N → 0 ≤ f j) (hK : ∀ j, j < N → (K j).natAbs ≤ B) : ∀ r, r ≤ N → (vsm f K r).natAbs ≤ B * (tsm f r).toNat
  | 0, _ => by show (0 : Int).natAbs ≤ _; simp
  | r + 1, h => by
    have h1 := vsm_bound hf hK r (by omega)
    have h2 := hf r (by omega)
    have h3 := tsm_nn hf r (by omega)
    have h4 : (f r * K r).natAbs ≤ B * (f r).toNat := by
      rw [Int.natAbs_mul, Nat.mul_comm]
      exact Nat.mul_le_mul (hK r (by omega)) (by omega)
    have h5 := Int.natAbs_add_le (vsm f K r) (f r * K r)
    rw [tsm_succ, show (tsm f r + f r).toNat = (tsm f r).toNat + (f r).toNat by omega, Nat.mul_add]
    show (vsm f K r + f r * K r).natAbs ≤ _
    omega
theorem tsm_part {f : Nat → Int} : ∀ r, 32768 * tsm (fun j => f j / 32768) r ≤ tsm f r
  | 0 => Int.le_refl _
  | r + 1 => by
    have h1 := tsm_part (f := f) r
    rw [tsm_succ, tsm_succ]
    omega
/-- What both sides hold of a sum, for numbers that may be. -/
structure Trn (f K : Nat → Int) (N : Nat) (A : Int) : Prop where
  nn : ∀ j, j < N → 0 ≤ f j
  kb : ∀ j, j < N → (K j).natAbs ≤ 1073741824
  sum : tsm f N = A
  pos : 0 < A
  le : A ≤ 1073741824
theorem Trn.item {f K : Nat → Int} {N : Nat} {A : Int} (h : Trn f K N A) {j : Nat} (hj : j < N) : 0 ≤ f j ∧ f j ≤ 1073741824 :=
  ⟨h.nn j hj, by have := tsm_item h.nn hj; have := h.sum; have := h.le; omega⟩
theorem Trn.any {f K g : Nat → Int} {N : Nat} {A : Int} (h : Trn f K N A) (hg : ∀ j, j < N → 0 ≤ g j ∧ g j ≤ f j) : ∀ r, r ≤ N → (vsm g K r).natAbs ≤ 1152921504606846976 := fun r hr => by
  have h1 := vsm_bound (fun j hj => (hg j hj).1) h.kb r hr
  have h2 := tsm_below (fun j hj => (hg j hj).2) r hr
  have h3 := tsm_le h.nn hr
  have h4 := h.sum
  have h5 := h.le
  have h6 : 1073741824 * (tsm g r).toNat ≤ 1073741824 * 1073741824 := Nat.mul_le_mul_left _ (by omega)
  omega
theorem Trn.abs {f K : Nat → Int} {N : Nat} {A : Int} (h : Trn f K N A) : ∀ r, r ≤ N → (vsm f K r).natAbs ≤ 1152921504606846976 := h.any (fun j hj => ⟨h.nn j hj, Int.le_refl _⟩)
theorem Trn.term {f K : Nat → Int} {N : Nat} {A : Int} (h : Trn f K N A) {g : Int} {j : Nat} (hj : j < N) (hg : 0 ≤ g ∧ g ≤ f j) : (g * K j).natAbs ≤ 1152921504606846976 := by
  have h1 := h.item hj
  rw [Int.natAbs_mul]
  exact Nat.le_trans (Nat.mul_le_mul (show g.natAbs ≤ 1073741824 by omega) (h.kb j hj)) (by omega)
/-- The high part, divided, is small. -/
theorem Trn.high {f K : Nat → Int} {N : Nat} {A : Int} (h : Trn f K N A) : ((vsm (fun j => f j / 32768) K N).tdiv A * 32768).natAbs ≤ 1073741824 := by
  have hf2 : ∀ j, j < N → 0 ≤ f j / 32768 := fun j hj => by have := h.nn j hj; omega
  have h1 := vsm_bound hf2 h.kb N (Nat.le_refl _)
  have h2 := tsm_part (f := f) N
  have h3 := tsm_nn hf2 N (Nat.le_refl _)
  have h4 := h.sum
  have h5 := h.pos
  obtain ⟨H, hH⟩ : ∃ H, H = vsm (fun j => f j / 32768) K N := ⟨_, rfl⟩
  obtain ⟨T, hT⟩ : ∃ T, T = (tsm (fun j => f j / 32768) N).toNat := ⟨_, rfl⟩
  rw [← hH, ← hT] at h1
  rw [← hH]
  have h6 : 32768 * T ≤ A.natAbs := by omega
  have h7 : H.natAbs * 32768 ≤ 1073741824 * A.natAbs := by
    have : H.natAbs * 32768 ≤ 1073741824 * T * 32768 := Nat.mul_le_mul_right _ h1
    rw [Nat.mul_assoc, Nat.mul_comm T] at this
    exact Nat.le_trans this (Nat.mul_le_mul_left _ h6)
  rw [Int.natAbs_mul, Int.natAbs_tdiv]
  have h8 : H.natAbs / A.natAbs * A.natAbs ≤ H.natAbs := Nat.div_mul_le_self _ _
  have h9 : H.natAbs / A.natAbs * 32768 * A.natAbs ≤ 1073741824 * A.natAbs := by
    have := Nat.mul_le_mul_right 32768 h8
    rw [Nat.mul_right_comm]
    exact Nat.le_trans this h7
  exact Nat.le_of_mul_le_mul_right h9 (by omega)
end Go.Proofs.Ytbofcldmgjeklab
