/- Texts of ours, one behind the other: S79 KU1 S82. -/
import Derived.Test.YtlljaliemldjkaaZS78
import Derived.Test.YtlljaliemldjkaaZS10
import Derived.Test.YtlljaliemldjkaaZKI13
import Derived.Deep.CutBlock
import Derived.Deep.DeepCutAuto
/- Golay: sets of places as bits of a number (plain mathematics). -/
namespace Go.Proofs.Ytlljaliemldjkaa

end Go.Proofs.Ytlljaliemldjkaa

/- Golay: math/bits.OnesCount64 of any number. -/
namespace Go.Proofs.Ytlljaliemldjkaa
open Go.RowKit

theorem and_i64n {a b : Nat} (ha : a < 9223372036854775808) (hb : b < 9223372036854775808) : bits BinOp.and IntKind.i64 (a : Int) (b : Int) = ((a &&& b : Nat) : Int) := by
  show IntKind.i64.wrap ((BitVec.ofInt 64 (a : Int) &&& BitVec.ofInt 64 (b : Int)).toNat : Int) = _
  rw [BitVec.toNat_and, ofi64 (by omega), ofi64 (by omega)]
  have h : a &&& b ≤ a := Nat.and_le_left
  exact wrap_to rfl (by omega)
theorem msk_a : msk 0x55 8 = 6148914691236517205 := by decide +kernel
theorem msk_b : msk 0x33 8 = 3689348814741910323 := by decide +kernel
theorem msk_c : msk 0x0f 8 = 1085102592571150095 := by decide +kernel
/-- What the first two steps come to. -/
theorem ones_step {x d m : Nat} (hx : x < 18446744073709551616) (hm : m < 9223372036854775808) : IntKind.u64.wrap (bits BinOp.and IntKind.u64 ((x : Int) / (d : Int)) (m : Int) + bits BinOp.and IntKind.u64 (x : Int) (m : Int)) = (((x / d &&& m) + (x &&& m) : Nat) : Int) ∧ (x / d &&& m) + (x &&& m) ≤ 2 * m := by
  have h1 : x / d < 18446744073709551616 := Nat.lt_of_le_of_lt (Nat.div_le_self _ _) hx
  have a1 : x / d &&& m ≤ m := Nat.and_le_right
  have a2 : x &&& m ≤ m := Nat.and_le_right
  rw [← Int.natCast_ediv, and_u64 h1 (by omega), and_u64 hx (by omega)]
  refine ⟨?_, by omega⟩
  rw [← Int.natCast_add]
  exact wrap_u64 (by omega)

set_option maxHeartbeats 4000000 in
set_option maxRecDepth 100000 in
theorem ones64U {s : Nat} (hs : s < 18446744073709551616) (w : World) : Calls Try.prog 55 #[.int .u64 (s : Nat)] w fun e w' => e = .returned (.int .i64 (bcn 64 s : Nat)) ∧ w' = w := by
  obtain ⟨x1, h1⟩ : ∃ x1, x1 = sw1 8 s := ⟨_, rfl⟩
  obtain ⟨x2, h2⟩ : ∃ x2, x2 = sw2 8 x1 := ⟨_, rfl⟩
  obtain ⟨x3, h3⟩ : ∃ x3, x3 = sw3 8 x2 := ⟨_, rfl⟩
  have e1 := ones_step (d := 2) (m := 6148914691236517205) hs (by omega)
  have k1 : (s / 2 &&& 6148914691236517205) + (s &&& 6148914691236517205) = x1 := by rw [h1]; unfold sw1; rw [msk_a]
  rw [k1] at e1
  have e2 := ones_step (x := x1) (d := 4) (m := 3689348814741910323) (by have := e1.2; omega) (by omega)
  have k2 : (x1 / 4 &&& 3689348814741910323) + (x1 &&& 3689348814741910323) = x2 := by rw [h2]; unfold sw2; rw [msk_b]
  rw [k2] at e2
  have b2 : x2 ≤ 7378697629483820646 := e2.2
  obtain ⟨y2, hy2⟩ : ∃ y2, y2 = x2 / 16 + x2 := ⟨_, rfl⟩
  have e3a : IntKind.u64.wrap ((x2 : Int) / 16 + (x2 : Int)) = (y2 : Int) := by
    have e : ((x2 : Int) / 16 + (x2 : Int)) = ((x2 / 16 + x2 : Nat) : Int) := by omega
    rw [e, hy2]
    exact wrap_u64 (by omega)
  have e3b : bits BinOp.and IntKind.u64 (y2 : Int) 1085102592571150095 = (x3 : Int) := by
    have h := and_u64 (a := y2) (b := 1085102592571150095) (by omega) (by omega)
    rw [h3]
    unfold sw3
    rw [msk_c, ← hy2]
    exact h
  have hc : x3 = cts 8 s := by rw [h3, h2, h1]; exact sw_all 8 s
  obtain ⟨x4, h4⟩ : ∃ x4, x4 = x3 + x3 / 256 := ⟨_, rfl⟩
  obtain ⟨x5, h5⟩ : ∃ x5, x5 = x4 + x4 / 65536 := ⟨_, rfl⟩
  obtain ⟨x6, h6⟩ : ∃ x6, x6 = x5 + x5 / 4294967296 := ⟨_, rfl⟩
  obtain ⟨hb, b3⟩ := swar_ones s x3 x4 x5 x6 hc h4 h5 h6
  have b4 : x4 < 2305843009213693952 := by omega
  have b5 : x5 < 4611686018427387904 := by omega
  have b6 : x6 < 9223372036854775808 := by omega
  have e4 : IntKind.u64.wrap ((x3 : Int) + (x3 : Int) / 256) = (x4 : Int) := by
    have e : ((x3 : Int) + (x3 : Int) / 256) = ((x4 : Nat) : Int) := by omega
    rw [e]; exact wrap_u64 (by omega)
  have e5 : IntKind.u64.wrap ((x4 : Int) + (x4 : Int) / 65536) = (x5 : Int) := by
    have e : ((x4 : Int) + (x4 : Int) / 65536) = ((x5 : Nat) : Int) := by omega
    rw [e]; exact wrap_u64 (by omega)
  have e6 : IntKind.u64.wrap ((x5 : Int) + (x5 : Int) / 4294967296) = (x6 : Int) := by
    have e : ((x5 : Int) + (x5 : Int) / 4294967296) = ((x6 : Nat) : Int) := by omega
    rw [e]; exact wrap_u64 (by omega)
  have e7 : IntKind.i64.wrap (x6 : Int) = (x6 : Int) := wrap_to rfl (by omega)
  have e8 : bits BinOp.and IntKind.i64 (x6 : Int) 127 = ((bcn 64 s : Nat) : Int) := by
    have h := and_i64n (a := x6) (b := 127) b6 (by omega)
    rw [← hb]
    have h2 : x6 &&& 127 = x6 % 128 := Nat.and_two_pow_sub_one_eq_mod x6 7
    rw [← h2]; exact h
  have f1 : IntKind.u64.wrap (bits BinOp.and IntKind.u64 ((s : Int) / 2) 6148914691236517205 + bits BinOp.and IntKind.u64 (s : Int) 6148914691236517205) = (x1 : Int) := e1.1
  have f2 : IntKind.u64.wrap (bits BinOp.and IntKind.u64 ((x1 : Int) / 4) 3689348814741910323 + bits BinOp.and IntKind.u64 (x1 : Int) 3689348814741910323) = (x2 : Int) := e2.1
  have HX : Hid (bits BinOp.and IntKind.i64 (x6 : Int) 127 = ((bcn 64 s : Nat) : Int)) := e8
  clear h1 h2 h3 h4 h5 h6 hc hb e1 e2 k1 k2 hy2 e8
  go_enter Try.func55, Try.ntmps55
  go_upto_region 2 with fail
  try rw [f1]
  go_upto_region 3 with fail
  try rw [f2]
  go_upto_region 4 with fail
  try rw [e3a]
  try rw [e3b]
  go_upto_region 5 with fail
  try rw [e4]
  go_upto_region 6 with fail
  try rw [e5]
  go_upto_region 7 with fail
  try rw [e6]
  go_wp2
  go_ret
  exact ⟨by rw [← HX.out]; first | rfl | rw [e7], rfl⟩
end Go.Proofs.Ytlljaliemldjkaa

/- Trellises: rules, what was seen, signs. No Go text here. -/
namespace Go.Proofs.Ytlljaliemldjkaa

/-- How many bits a number below 32 has. -/
def mbl (x : Nat) : Nat := if x = 0 then 0 else if x < 2 then 1 else if x < 4 then 2 else if x < 8 then 3 else if x < 16 then 4 else 5
/-- What some rules look at, together. -/
def orz (z : Nat → Nat) : Nat → Nat
  | 0 => 0
  | k + 1 => orz z k ||| z k
theorem orz_lt {z : Nat → Nat} : ∀ k, (∀ i, i < k → z i < 32) → orz z k < 32
  | 0, _ => by show 0 < 32; omega
  | k + 1, h => Nat.or_lt_two_pow (n := 5) (orz_lt k (fun i hi => h i (by omega))) (h k (by omega))
theorem orz_le {z : Nat → Nat} {i : Nat} : ∀ k, i < k → z i ≤ orz z k
  | 0, h => absurd h (by omega)
  | k + 1, h => by
    show z i ≤ orz z k ||| z k
    by_cases e : i = k
    · rw [e]; exact Nat.right_le_or
    · exact Nat.le_trans (orz_le k (by omega)) Nat.left_le_or
/-- How many bits are remembered. -/
def mmr (z : Nat → Nat) (R : Nat) : Nat := mbl (orz z R) - 1
theorem mbl_le (x : Nat) : mbl x ≤ 5 := by
  unfold mbl
  repeat (first | omega | split)
theorem mmr_le (z : Nat → Nat) (R : Nat) : mmr z R ≤ 4 := by unfold mmr; have := mbl_le (orz z R); omega
theorem mbl_pow {x : Nat} (h : x < 32) (h0 : 0 < x) : x < 2 ^ (mbl x - 1 + 1) := by
  have : ((List.range 32).all fun x => Nat.ble x 0 || Nat.blt x (2 ^ (mbl x - 1 + 1))) = true := by decide +kernel
  have h1 := List.all_eq_true.1 this x (List.mem_range.2 h)
  rw [Bool.or_eq_true] at h1
  rcases h1 with h1 | h1
  · have := Nat.le_of_ble_eq_true h1; omega
  · exact Nat.le_of_ble_eq_true h1
/-- A sign. -/
def sgb (r x : Nat) : Nat := bcn 5 (r &&& x) % 2
theorem sgb_le (r x : Nat) : sgb r x ≤ 1 := by unfold sgb; omega
/-- What was seen. -/
def snm (m : Nat → Nat) (n : Nat) : Nat → Nat
  | 0 => 0
  | k + 1 => 2 * snm m n k + if k < n then m k else 0
theorem snm_lt {m : Nat → Nat} {n : Nat} (hm : ∀ i, i < n → m i ≤ 1) : ∀ k, snm m n k < 2 ^ k
  | 0 => by show 0 < 1; omega
  | k + 1 => by
    have := snm_lt hm k
    show 2 * snm m n k + (if k < n then m k else 0) < 2 ^ (k + 1)
    rw [Nat.pow_succ]
    split
    · rename_i h; have := hm k h; omega
    · omega
/-- A rule looks at what is remembered and the newest alone. -/
theorem sgb_low {r M : Nat} (hr : r < 2 ^ (M + 1)) (x : Nat) : sgb r (x % 2 ^ (M + 1)) = sgb r x := by
  unfold sgb
  have : r &&& x % 2 ^ (M + 1) = r &&& x := Nat.eq_of_testBit_eq fun i => by
    rw [Nat.testBit_and, Nat.testBit_and, Nat.testBit_mod_two_pow]
    by_cases h : i < M + 1
    · rw [decide_eq_true h, Bool.true_and]
    · rw [Nat.testBit_lt_two_pow (Nat.lt_of_lt_of_le hr (Nat.pow_le_pow_right (by omega) (by omega)))]; simp
  rw [this]
/-- All signs of a message, by their numbers. -/
def sgn' (z : Nat → Nat) (R : Nat) (m : Nat → Nat) (n i : Nat) : Nat := sgb (z (i % R)) (snm m n (i / R + 1))
end Go.Proofs.Ytlljaliemldjkaa
