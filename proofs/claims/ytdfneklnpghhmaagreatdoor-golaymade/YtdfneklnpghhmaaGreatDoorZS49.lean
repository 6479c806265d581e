/- Texts of ours, one behind the other: S49 S50 S52 S53 KN1 S54 S55 S56 KR1 S62 KQ1 KQ2. -/
import Derived.Test.YtdfneklnpghhmaaGreatDoorZI22
import Derived.Test.YtdfneklnpghhmaaGreatDoorZK9
import Derived.Test.YtdfneklnpghhmaaGreatDoorZO2
import Derived.Test.YtdfneklnpghhmaaGreatDoorZI6
import Derived.Test.YtdfneklnpghhmaaGreatDoorZKL5
import Derived.Test.YtdfneklnpghhmaaGreatDoorZKA6
import Derived.Test.YtdfneklnpghhmaaGreatDoorZX12
import Derived.Test.YtdfneklnpghhmaaGreatDoorZKL3
import Derived.Test.YtdfneklnpghhmaaGreatDoorZR9
import Derived.Test.YtdfneklnpghhmaaGreatDoorZKL8
import Derived.Test.YtdfneklnpghhmaaGreatDoorZV7
import Derived.Test.YtdfneklnpghhmaaGreatDoorZU2
/- Plain mathematics: sums over a field's elements, and over all words. No Go text here. -/
namespace Go.Proofs.YtdfneklnpghhmaaGreatDoor
open Go.RowKit Go.Sort

/-- The sum of the first n numbers. -/
def zsum (f : Nat → Int) : Nat → Int
  | 0 => 0
  | n + 1 => zsum f n + f n
theorem zsum_congr {f g : Nat → Int} : ∀ n, (∀ a, a < n → f a = g a) → zsum f n = zsum g n
  | 0, _ => rfl
  | n + 1, h => by
    show zsum f n + f n = zsum g n + g n
    rw [zsum_congr n (fun a ha => h a (by omega)), h n (by omega)]
theorem zsum_nil : ∀ n, zsum (fun _ => 0) n = 0
  | 0 => rfl
  | n + 1 => by show zsum (fun _ => 0) n + 0 = 0; rw [zsum_nil n]; rfl
theorem zsum_zero {f : Nat → Int} (n : Nat) (h : ∀ a, a < n → f a = 0) : zsum f n = 0 := (zsum_congr n h).trans (zsum_nil n)
theorem zsum_add (f g : Nat → Int) : ∀ n, zsum (fun a => f a + g a) n = zsum f n + zsum g n
  | 0 => rfl
  | n + 1 => by
    show zsum (fun a => f a + g a) n + (f n + g n) = zsum f n + f n + (zsum g n + g n)
    rw [zsum_add f g n]; omega
theorem zsum_mul (s : Int) (f : Nat → Int) : ∀ n, zsum (fun a => s * f a) n = s * zsum f n
  | 0 => (Int.mul_zero s).symm
  | n + 1 => by
    show zsum (fun a => s * f a) n + s * f n = s * (zsum f n + f n)
    rw [zsum_mul s f n, Int.mul_add]
theorem zsum_const (c : Int) : ∀ n : Nat, zsum (fun _ => c) n = (n : Int) * c
  | 0 => (Int.zero_mul c).symm
  | n + 1 => by
    show zsum (fun _ => c) n + c = ((n + 1 : Nat) : Int) * c
    rw [zsum_const c n, Int.natCast_add, Int.add_mul]
    show _ = (n : Int) * c + 1 * c
    rw [Int.one_mul]
theorem zsum_swap (f : Nat → Nat → Int) (m : Nat) : ∀ n, zsum (fun a => zsum (fun b => f a b) m) n = zsum (fun b => zsum (fun a => f a b) n) m
  | 0 => (zsum_nil m).symm
  | n + 1 => by
    show zsum (fun a => zsum (fun b => f a b) m) n + zsum (fun b => f n b) m = zsum (fun b => zsum (fun a => f a b) n + f n b) m
    rw [zsum_swap f m n, zsum_add]
theorem zsum_one (f : Nat → Int) {b : Nat} : ∀ n, b < n → zsum (fun a => if a = b then f a else 0) n = f b
  | 0, h => absurd h (by omega)
  | n + 1, h => by
    show zsum (fun a => if a = b then f a else 0) n + (if n = b then f n else 0) = f b
    by_cases e : n = b
    · rw [zsum_zero n (fun a ha => if_neg (by omega)), if_pos e, e]; omega
    · rw [zsum_one f n (by omega), if_neg e]; omega
/-- One sign of a word told otherwise. -/
def pt (v : Nat → Nat) (n a : Nat) : Nat → Nat := fun j => if j = n then a else v j
theorem pt_el {D : FD} {v : Nat → Nat} {n a : Nat} (hv : El D v) (ha : a < D.q) : El D (pt v n a) := fun j => by unfold pt; split; exact ha; exact hv j
theorem pt_bd {v : Nat → Nat} {n a : Nat} (hv : Bd n v) : Bd (n + 1) (pt v n a) := fun j hj => by unfold pt; rw [if_neg (by omega)]; exact hv j (by omega)
/-- The sum over all words of n signs. -/
def wsum (q : Nat) : Nat → ((Nat → Nat) → Int) → Int
  | 0, f => f pnil
  | n + 1, f => zsum (fun a => wsum q n (fun v => f (pt v n a))) q
theorem wsum_congr {D : FD} (F : Fld D) : ∀ n {f g : (Nat → Nat) → Int}, (∀ v, El D v → Bd n v → f v = g v) → wsum D.q n f = wsum D.q n g
  | 0, _, _, h => h pnil (el_nil F) (fun _ _ => rfl)
  | n + 1, _, _, h => zsum_congr D.q (fun _ ha => wsum_congr F n (fun _ hv hb => h _ (pt_el hv ha) (pt_bd hb)))
theorem wsum_add (q : Nat) : ∀ n (f g : (Nat → Nat) → Int), wsum q n (fun v => f v + g v) = wsum q n f + wsum q n g
  | 0, _, _ => rfl
  | n + 1, f, g => by
    show zsum (fun a => wsum q n (fun v => f (pt v n a) + g (pt v n a))) q = _
    rw [zsum_congr q (fun a _ => wsum_add q n (fun v => f (pt v n a)) (fun v => g (pt v n a))), zsum_add]; rfl
theorem wsum_mul (q : Nat) (s : Int) : ∀ n (f : (Nat → Nat) → Int), wsum q n (fun v => s * f v) = s * wsum q n f
  | 0, _ => rfl
  | n + 1, f => by
    show zsum (fun a => wsum q n (fun v => s * f (pt v n a))) q = _
    rw [zsum_congr q (fun a _ => wsum_mul q s n (fun v => f (pt v n a))), zsum_mul]; rfl
theorem wsum_nil (q : Nat) : ∀ n, wsum q n (fun _ => 0) = 0
  | 0 => rfl
  | n + 1 => by
    show zsum (fun _ => wsum q n (fun _ => 0)) q = 0
    rw [zsum_congr q (fun _ _ => wsum_nil q n), zsum_nil]
theorem wsum_zsum (q : Nat) (f : Nat → (Nat → Nat) → Int) (n : Nat) : ∀ m, wsum q n (fun v => zsum (fun a => f a v) m) = zsum (fun a => wsum q n (f a)) m
  | 0 => wsum_nil q n
  | m + 1 => by
    show wsum q n (fun v => zsum (fun a => f a v) m + f m v) = zsum (fun a => wsum q n (f a)) m + wsum q n (f m)
    rw [wsum_add, wsum_zsum q f n m]
def bi (b : Bool) : Int := if b = true then 1 else 0
theorem bi_t : bi true = 1 := rfl
theorem bi_f : bi false = 0 := rfl
end Go.Proofs.YtdfneklnpghhmaaGreatDoor

/- Plain mathematics: MacWilliams' identity, by sums over all words. No Go text here. -/
namespace Go.Proofs.YtdfneklnpghhmaaGreatDoor
open Go.RowKit Go.Sort

/-- A word's weight. -/
def wtn (u : Nat → Nat) (n : Nat) : Nat := ct (fun i => !decide (((u i : Nat) : Int) = 0)) n
theorem wtn_le (u : Nat → Nat) : ∀ n, wtn u n ≤ n
  | 0 => Nat.le_refl _
  | n + 1 => by
    have := wtn_le u n
    show wtn u n + (if (!decide (((u n : Nat) : Int) = 0)) = true then 1 else 0) ≤ n + 1
    split <;> omega
end Go.Proofs.YtdfneklnpghhmaaGreatDoor

/- Plain mathematics: the weights of a code, gone through by its messages, and MacWilliams' identity for them. No Go text here. -/
namespace Go.Proofs.YtdfneklnpghhmaaGreatDoor
open Go.RowKit Go.Sort

theorem zsum_addn (g : Nat → Int) (n : Nat) : ∀ m, zsum g (n + m) = zsum g n + zsum (fun b => g (n + b)) m
  | 0 => by show zsum g n = zsum g n + 0; omega
  | m + 1 => by
    show zsum g (n + m) + g (n + m) = zsum g n + (zsum (fun b => g (n + b)) m + g (n + m))
    rw [zsum_addn g n m]; omega
theorem zsum_prod (g : Nat → Int) (q : Nat) : ∀ m, zsum g (m * q) = zsum (fun a => zsum (fun b => g (a * q + b)) q) m
  | 0 => by rw [Nat.zero_mul]; rfl
  | m + 1 => by
    rw [Nat.succ_mul, zsum_addn, zsum_prod g q m]; rfl
theorem dgs_pt {q k a b : Nat} (hq : 2 ≤ q) (hb : b < q) : dgs q (k + 1) (a * q + b) = pt (dgs q k a) k b := by
  funext j
  unfold pt dgs
  by_cases e : j = k
  · rw [if_pos e, if_pos (by omega), e, show k + 1 - 1 - k = 0 by omega, Nat.pow_zero, Nat.div_one, Nat.mul_comm, Nat.mul_add_mod, Nat.mod_eq_of_lt hb]
  · rw [if_neg e]
    by_cases c : j < k
    · rw [if_pos c, if_pos (by omega), show k + 1 - 1 - j = (k - 1 - j) + 1 by omega, Nat.pow_succ', ← Nat.div_div_eq_div_mul, Nat.mul_comm a q, Nat.mul_add_div (by omega), Nat.div_eq_of_lt hb, Nat.add_zero]
    · rw [if_neg c, if_neg (by omega)]
/-- A sum over all messages by their numbers. -/
theorem wsum_dgs {q : Nat} (hq : 2 ≤ q) : ∀ k (f : (Nat → Nat) → Int), zsum (fun r => f (dgs q k r)) (q ^ k) = wsum q k f
  | 0, f => by
    rw [Nat.pow_zero]
    show 0 + f (dgs q 0 0) = f pnil
    have e : dgs q 0 0 = pnil := by funext j; unfold dgs; rw [if_neg (by omega)]; rfl
    rw [e]; omega
  | k + 1, f => by
    rw [Nat.pow_succ, zsum_prod]
    have h1 : zsum (fun a => zsum (fun b => f (dgs q (k + 1) (a * q + b))) q) (q ^ k) = zsum (fun a => zsum (fun b => f (pt (dgs q k a) k b)) q) (q ^ k) := zsum_congr _ (fun a _ => zsum_congr _ (fun b hb => by rw [dgs_pt hq hb]))
    rw [h1, zsum_swap (fun a b => f (pt (dgs q k a) k b))]
    show _ = zsum (fun b => wsum q k (fun v => f (pt v k b))) q
    exact zsum_congr _ (fun b _ => wsum_dgs hq k (fun v => f (pt v k b)))
theorem wcn_zsum (D : FD) (R : Nat → Nat → Nat) (n K x : Nat) : ∀ N, ((wcn D R n K N x : Nat) : Int) = zsum (fun r => bi (decide (wtn (enw D R (dgs D.q K r) K) n = x))) N
  | 0 => rfl
  | N + 1 => by
    show ((wcn D R n K N x + if x = wgr D R n K N then 1 else 0 : Nat) : Int) = zsum _ N + bi (decide (wtn (enw D R (dgs D.q K N) K) n = x))
    rw [← wcn_zsum D R n K x N]
    have e : wgr D R n K N = wtn (enw D R (dgs D.q K N) K) n := rfl
    by_cases c : x = wgr D R n K N
    · rw [if_pos c, decide_eq_true (by rw [← e]; exact c.symm), bi_t]; omega
    · rw [if_neg c, decide_eq_false (by rw [← e]; exact fun h => c h.symm), bi_f]; omega
/-- How many words have a weight: a sum over all messages. -/
theorem wcn_wsum {D : FD} (F : Fld D) (R : Nat → Nat → Nat) (n K x : Nat) : ((wcn D R n K (D.q ^ K) x : Nat) : Int) = wsum D.q K (fun m => bi (decide (wtn (enw D R m K) n = x))) := by
  rw [wcn_zsum, wsum_dgs F.q2 K (fun m => bi (decide (wtn (enw D R m K) n = x)))]
theorem vsm_zsum (f K : Nat → Int) : ∀ r, vsm f K r = zsum (fun x => f x * K x) r
  | 0 => rfl
  | r + 1 => by
    show vsm f K r + f r * K r = zsum (fun x => f x * K x) r + f r * K r
    rw [vsm_zsum f K r]
/-- What a function of the weight sums up to. -/
theorem wcn_sum {D : FD} (F : Fld D) (R : Nat → Nat → Nat) (n K : Nat) (g : Nat → Int) : vsm (fun x => ((wcn D R n K (D.q ^ K) x : Nat) : Int)) g (n + 1) = wsum D.q K (fun m => g (wtn (enw D R m K) n)) := by
  rw [vsm_zsum]
  have h1 : zsum (fun x => ((wcn D R n K (D.q ^ K) x : Nat) : Int) * g x) (n + 1) = zsum (fun x => wsum D.q K (fun m => g x * bi (decide (wtn (enw D R m K) n = x)))) (n + 1) := zsum_congr _ (fun x _ => by rw [wcn_wsum F, wsum_mul, Int.mul_comm])
  rw [h1, ← wsum_zsum D.q (fun x m => g x * bi (decide (wtn (enw D R m K) n = x)))]
  refine wsum_congr F K (fun m _ _ => ?_)
  have hle := wtn_le (enw D R m K) n
  rw [← zsum_one g (n + 1) (show wtn (enw D R m K) n < n + 1 by omega)]
  refine zsum_congr _ (fun x _ => ?_)
  by_cases c : x = wtn (enw D R m K) n
  · rw [if_pos c, decide_eq_true c.symm, bi_t, Int.mul_one]
  · rw [if_neg c, decide_eq_false (fun h => c h.symm), bi_f, Int.mul_zero]
theorem wsum_one (q : Nat) : ∀ k, wsum q k (fun _ => 1) = ((q ^ k : Nat) : Int)
  | 0 => rfl
  | k + 1 => by
    show zsum (fun _ => wsum q k (fun _ => 1)) q = _
    rw [wsum_one q k, zsum_const, Nat.pow_succ, Nat.mul_comm]
    simp
/-- As many words as there are. -/
theorem wcn_all {D : FD} (F : Fld D) (R : Nat → Nat → Nat) (n k : Nat) : tsm (fun x => ((wcn D R n k (D.q ^ k) x : Nat) : Int)) (n + 1) = ((D.q ^ k : Nat) : Int) := by
  unfold tsm
  rw [wcn_sum F R n k (fun _ => 1), wsum_one]
end Go.Proofs.YtdfneklnpghhmaaGreatDoor

/- A code's weights and those of its dual: what weights.Dual makes of them. -/
namespace Go.Proofs.YtdfneklnpghhmaaGreatDoor
open Go.RowKit Go.Sort

/-- No more rows than there were. -/
theorem Red.few {D : FD} (hD : D ∈ fieldsL) {n m k : Nat} {M R : Nat → Nat → Nat} (h : Red D n m M k R) (he : ∀ i, i < m → El D (M i) ∧ Bd n (M i)) : k ≤ m := by
  obtain ⟨k', R', p', hk, hr, hs⟩ := rre_ex hD (fun i hi => (he i hi).1) (fun i hi => (he i hi).2)
  have := (Red.uniq (fld hD) h ⟨p', hr, hs⟩ (fun _ => Iff.rfl)).1
  omega
end Go.Proofs.YtdfneklnpghhmaaGreatDoor

/- TopMacWilliams: the walk of the statement, whatever raw numbers it is given. -/
namespace Go.Proofs.YtdfneklnpghhmaaGreatDoor
open Go.RowKit Go.Sort

theorem Cod.wts {D : FD} (hD : D ∈ fieldsL) {n m : Nat} (ca : Nat) {ao : Option Addr} {M : Nat → Nat → Nat} {w : World} (h : Cod D n ao m M w) :
    Calls Tryz.prog 25 #[.agg #[.int .i64 D.q, .int .i64 (n : Nat), .slice ao m ca]] w (WsP D n m M w) := by
  have hr := h.rows (fld hD)
  have hc := h.chk hD ca
  obtain ⟨A, N, C, Z, h1, h2⟩ := h
  refine (weights_ok hD hr.2.1.1 hr.2.1.2 (M := mzc N Z) (fun wx hx => small_ok hD (h1.below hx) (fun wy hy => hc wy (bel_up' hx hy)))).mono ?_
  rintro x w' ⟨k, R, hred, hrest⟩
  exact ⟨k, R, hred.of_eq h2, hrest⟩
end Go.Proofs.YtdfneklnpghhmaaGreatDoor

/- Plain mathematics: the bounds of Singleton, Delsarte and Plotkin for a code whose words lie apart. No Go text here. -/
namespace Go.Proofs.YtdfneklnpghhmaaGreatDoor
open Go.RowKit Go.Sort

end Go.Proofs.YtdfneklnpghhmaaGreatDoor

/- Plain mathematics: Griesmer's bound (words of a code where others are nought). No Go text here. -/
namespace Go.Proofs.YtdfneklnpghhmaaGreatDoor
open Go.RowKit Go.Sort

end Go.Proofs.YtdfneklnpghhmaaGreatDoor

/- Plain mathematics: Hamming's bound (balls around a code's words), and Varshamov's number against it. No Go text here. -/
namespace Go.Proofs.YtdfneklnpghhmaaGreatDoor
open Go.RowKit Go.Sort

end Go.Proofs.YtdfneklnpghhmaaGreatDoor

/- Golay: places as the bits of a number, of both sides. -/
namespace Go.Proofs.YtdfneklnpghhmaaGreatDoor
open Go.RowKit

theorem wrap_u64 {a : Nat} (h : a < 18446744073709551616) : IntKind.u64.wrap (a : Int) = (a : Int) := by
  show ((a : Int) % 18446744073709551616) = _
  omega
theorem ofi64 {a : Nat} (h : a < 18446744073709551616) : (BitVec.ofInt 64 (a : Int)).toNat = a := by
  rw [BitVec.ofInt_natCast, BitVec.toNat_ofNat]; exact Nat.mod_eq_of_lt (by omega)
theorem or_u64 {a b : Nat} (ha : a < 18446744073709551616) (hb : b < 18446744073709551616) : bits BinOp.or IntKind.u64 (a : Int) (b : Int) = ((a ||| b : Nat) : Int) := by
  show IntKind.u64.wrap ((BitVec.ofInt 64 (a : Int) ||| BitVec.ofInt 64 (b : Int)).toNat : Int) = _
  rw [BitVec.toNat_or, ofi64 ha, ofi64 hb]
  exact wrap_u64 (Nat.or_lt_two_pow (n := 64) ha hb)
theorem and_u64 {a b : Nat} (ha : a < 18446744073709551616) (hb : b < 18446744073709551616) : bits BinOp.and IntKind.u64 (a : Int) (b : Int) = ((a &&& b : Nat) : Int) := by
  show IntKind.u64.wrap ((BitVec.ofInt 64 (a : Int) &&& BitVec.ofInt 64 (b : Int)).toNat : Int) = _
  rw [BitVec.toNat_and, ofi64 ha, ofi64 hb]
  exact wrap_u64 (Nat.lt_of_le_of_lt Nat.and_le_left ha)

end Go.Proofs.YtdfneklnpghhmaaGreatDoor

/- Golay's two codes: their reduced rows; each is its own dual; how far their words lie apart, also without a place. -/
namespace Go.Proofs.YtdfneklnpghhmaaGreatDoor

/-! how far words lie apart -/
/-! the two codes -/
/-! without a place -/
end Go.Proofs.YtdfneklnpghhmaaGreatDoor

/- Golay: together, ball. -/
namespace Go.Proofs.YtdfneklnpghhmaaGreatDoor
open Go.RowKit Go.Sort

set_option maxHeartbeats 4000000 in
set_option maxRecDepth 100000 in
theorem gtog_any {ao : Option Addr} {n ca : Nat} {z : Nat → Int} {w : World} (hX : SlZ ao n z w) (hn : n ≤ 100) (hz : ∀ i, i < n → 0 ≤ z i ∧ z i ≤ 1073741824) :
    Calls Tryz.prog 36 #[.slice ao n ca] w fun e w' => e = .returned (.int .i64 (tsm z n)) ∧ w' = w := by
  have HX : Hid (SlZ ao n z w ∧ ∀ i, i < n → 0 ≤ z i ∧ z i ≤ 1073741824) := ⟨hX, hz⟩
  clear hX hz
  go_enter Tryz.func36, Tryz.ntmps36
  go_wp2
  go_loopw [3, 8] (fun vs vi wr => ∃ (i : Nat) (s : Int), vs = .int .i64 s ∧ vi = .int .i64 (i : Nat) ∧ i ≤ n ∧ 0 ≤ s ∧ s ≤ (i : Int) * 1073741824 ∧ Hid (s = tsm z i ∧ wr = w)) (fun _ vi _ => n - (intOf vi).toNat)
  case atStart => exact ⟨0, 0, rfl, rfl, by omega, by omega, by omega, rfl, rfl⟩
  case round =>
    obtain ⟨i, s, rfl, rfl, hi, hs0, hs1, HS⟩ := hrel
    have hw := HS.out.2.symm
    subst hw
    by_cases hlt : i < n
    · have hib : (i : Int) < (n : Int) := by omega
      obtain ⟨b, off, e1, hcell⟩ := HX.out.1 i hlt
      subst e1
      obtain ⟨v, hv⟩ : ∃ v, v = z i := ⟨_, rfl⟩
      have hv0 := HX.out.2 i hlt
      rw [← hv] at hcell hv0
      have HN : Hid (s + v = tsm z (i + 1)) := by show _ = _; rw [tsm_succ, HS.out.1, hv]
      have hsb : s ≤ 107374182400 := by omega
      clear hv HS
      go_wp2
      go_roundw
      case rel => exact ⟨i + 1, s + v, by go_num, by go_num, by omega, by omega, by omega, HN.out, by first | rfl | trivial⟩
      case measure => simp [intOf]; omega
    · have hib : ¬ (i : Int) < (n : Int) := by omega
      have hie : i = n := by omega
      subst hie
      go_wp2
      go_ret
      exact ⟨by rw [← HS.out.1]; rfl, rfl⟩

theorem kc_const (b : Nat) : ∀ n k, kc (fun _ => (b : Int)) n k = ((b ^ k * chs n k : Nat) : Int)
  | 0, 0 => rfl
  | 0, k + 1 => by show (0 : Int) = ((b ^ (k + 1) * 0 : Nat) : Int); simp
  | n + 1, 0 => by rw [kc_zero, chs_zero]; simp
  | n + 1, k + 1 => by
    show kc (fun _ => (b : Int)) n (k + 1) + (b : Int) * kc (fun _ => (b : Int)) n k = ((b ^ (k + 1) * (chs n k + chs n (k + 1)) : Nat) : Int)
    rw [kc_const b n (k + 1), kc_const b n k, Nat.mul_add, Int.natCast_add, Nat.pow_succ, show b ^ k * b * chs n k = b * (b ^ k * chs n k) by rw [Nat.mul_comm (b ^ k) b, Nat.mul_assoc], Int.natCast_mul b, Int.add_comm]
theorem kv_zero {q : Nat} (hq : 2 ≤ q) (n k : Nat) : kv q n k 0 = (((q - 1) ^ k * chs n k : Nat) : Int) := by
  rw [← kc_const]
  unfold kv
  have : kwc ((q : Int) - 1) 0 = fun _ => (((q - 1 : Nat) : Int)) := funext fun i => by
    unfold kwc
    rw [if_neg (by omega)]; omega
  rw [this]

set_option maxHeartbeats 4000000 in
set_option maxRecDepth 100000 in
theorem gball2_any {D : FD} (hD : D ∈ fieldsL) (n r : Nat) (hn1 : 1 ≤ n) (hp : D.q ^ n ≤ 1073741824) (hr : r ≤ n) (w : World) :
    Calls Tryz.prog 37 #[.int .i64 (D.q : Nat), .int .i64 (n : Nat), .int .i64 (r : Nat)] w fun e w' => e = .returned (.int .i64 (bls D.q n (r + 1) : Nat)) ∧ Below w.heap.size w w' := by
  have h2 := (fld hD).q2
  have h64 := (fld hD).q64
  have hn30 : n ≤ 30 := pow30 h2 hp
  have HC : Hid (∀ (k : Nat) wx, k ≤ n → Calls Tryz.prog 61 #[.int .i64 (D.q : Nat), .int .i64 (n : Nat), .int .i64 (k : Nat), .int .i64 0] wx fun e w' => e = .returned (.tuple #[.int .i64 (((D.q - 1) ^ k * chs n k : Nat) : Int), .int .i64 0]) ∧ Below wx.heap.size wx w') := fun k wx hk => by
    rw [← kv_zero h2]
    have hc := wcheck_any hD (n : Int) (by omega) wx
    rw [show D.wck (n : Int) = 0 by unfold FD.wck; rw [if_neg (by omega), Int.toNat_natCast, if_pos hp]] at hc
    exact wK_ok D.q n k 0 h2 h64 hp hk (by omega) hc
  have HT : Hid (∀ k, k ≤ n → (D.q - 1) ^ k * chs n k ≤ 1073741824) := fun k hk => Nat.le_trans (bterm_le (by omega)) hp
  obtain ⟨R1, hR1⟩ : ∃ R1, R1 = r + 1 := ⟨_, rfl⟩
  have hRw : IntKind.i64.wrap ((r : Int) + 1) = (R1 : Int) := by rw [hR1]; exact wrap_to (by omega) (by omega)
  have hR31 : R1 ≤ 31 := by omega
  have HR : Hid (R1 = r + 1) := hR1
  rw [← hR1]
  clear hR1 hp
  go_enter Tryz.func37, Tryz.ntmps37
  go_wp2
  go_loopw [7, 13] (fun vs vi wr => ∃ i s : Nat, vs = .int .i64 (s : Nat) ∧ vi = .int .i64 (i : Nat) ∧ i ≤ R1 ∧ s ≤ i * 1073741824 ∧ Hid (s = bls D.q n i ∧ Below w.heap.size w wr)) (fun _ vi _ => R1 - (intOf vi).toNat)
  case atStart => exact ⟨0, 0, rfl, rfl, by omega, by omega, rfl, Below.refl _ _⟩
  case round =>
    obtain ⟨i, s, rfl, rfl, hi, hs, HS⟩ := hrel
    rename World => wr
    by_cases hlt : i < R1
    · have hib : (i : Int) < (R1 : Int) := by omega
      obtain ⟨y, hy⟩ : ∃ y, y = (D.q - 1) ^ i * chs n i := ⟨_, rfl⟩
      have hyb : y ≤ 1073741824 := by rw [hy]; exact HT.out i (by have := HR.out; omega)
      have HK : Hid (Calls Tryz.prog 61 #[.int .i64 (D.q : Nat), .int .i64 (n : Nat), .int .i64 (i : Nat), .int .i64 0] wr fun e w' => e = .returned (.tuple #[.int .i64 (y : Nat), .int .i64 0]) ∧ Below wr.heap.size wr w') := by
        show Calls _ _ _ _ _
        rw [hy]; exact HC.out i wr (by have := HR.out; omega)
      have HN : Hid (s + y = bls D.q n (i + 1)) := by show _ = bls D.q n i + _; rw [HS.out.1, hy]
      have hsb : s ≤ 34359738368 := by omega
      clear hy
      go_wp2_with fail
      refine HK.out.mono ?_
      rintro e wx ⟨rfl, hb⟩
      have HB : Hid (Below w.heap.size w wx) := bel_up' HS.out.2 hb
      clear hb HS HK
      go_wp2
      go_roundw
      case rel => exact ⟨i + 1, s + y, by go_num, by go_num, by omega, by omega, HN.out, HB.out⟩
      case measure => simp [intOf]; omega
    · have hib : ¬ (i : Int) < (R1 : Int) := by omega
      have hie : i = R1 := by omega
      subst hie
      go_wp2
      go_ret
      exact ⟨by rw [← HS.out.1]; rfl, HS.out.2⟩
end Go.Proofs.YtdfneklnpghhmaaGreatDoor

/- Golay: Perfect, of a code whose words lie far enough apart and fill all. -/
namespace Go.Proofs.YtdfneklnpghhmaaGreatDoor
open Go.RowKit Go.Sort

theorem tsm_none {z : Nat → Int} : ∀ n, (∀ i, i < n → z i = 0) → tsm z n = 0
  | 0, _ => rfl
  | n + 1, h => by rw [tsm_succ, tsm_none n (fun i hi => h i (by omega)), h n (by omega)]; rfl

theorem wcn_same {D : FD} {R R' : Nat → Nat → Nat} {n k : Nat} (h : ∀ i, i < k → R i = R' i) : ∀ r, wcn D R n k r = wcn D R' n k r
  | 0 => rfl
  | r + 1 => funext fun x => by
    show wcn D R n k r x + (if x = wgr D R n k r then 1 else 0) = wcn D R' n k r x + (if x = wgr D R' n k r then 1 else 0)
    have e : wdr D R k r = wdr D R' k r := by unfold wdr; exact enw_congr h
    rw [wcn_same h r]
    unfold wgr
    rw [e]

end Go.Proofs.YtdfneklnpghhmaaGreatDoor
