/- Texts of ours, one behind the other: KI3 KI4. -/
import Derived.Test.YtillljojdnofgaaZKH7
import Derived.Test.YtillljojdnofgaaZKE17
/- Words that may lose a bit: the reference's Places. -/
namespace Go.Proofs.Ytillljojdnofgaa
open Go.RowKit Go.Sort

set_option maxHeartbeats 4000000 in
set_option maxRecDepth 100000 in
theorem gplaces_any {wo : Option Addr} {n cw : Nat} {c : Nat → Nat} {w : World} (hS : SlZ wo n (fun j => ((c j : Nat) : Int)) w) (hn : n ≤ 13) (hc : ∀ j, j < n → c j ≤ 1) :
    Calls Try.prog 44 #[.slice wo n cw] w fun e w' => e = .returned (.int .i64 (psm c n : Nat)) ∧ w' = w := by
  have HF : Hid (SlZ wo n (fun j => ((c j : Nat) : Int)) w ∧ ∀ j, j < n → c j ≤ 1) := ⟨hS, hc⟩
  clear hS hc
  go_enter Try.func44, Try.ntmps44
  go_wp2
  go_loopw [3, 4] (fun vs vi wr => ∃ (i s : Nat), i ≤ n ∧ vs = .int .i64 (s : Nat) ∧ vi = .int .i64 (i : Nat) ∧ Hid (s = psm c i ∧ wr = w)) (fun _ vi _ => n - (intOf vi).toNat)
  case atStart => exact ⟨0, 0, by omega, rfl, rfl, rfl, rfl⟩
  case round =>
    obtain ⟨i, s, hi, rfl, rfl, HG⟩ := hrel
    rename World => wr
    have hsb : s ≤ 182 := by
      rw [HG.out.1]
      have h1 := psm_few i fun j hj => HF.out.2 j (by omega)
      have h2 : i * (i + 1) ≤ 13 * 14 := Nat.mul_le_mul (by omega) (by omega)
      omega
    by_cases hlt : i < n
    · have hib : (i : Int) < (n : Int) := by omega
      obtain ⟨b, off, hwo, hcell⟩ := HF.out.1 i hlt
      rw [← HG.out.2] at hcell
      subst hwo
      obtain ⟨x, hx⟩ : ∃ x, x = c i := ⟨_, rfl⟩
      replace hcell : wr.cell? ⟨b, off + i, none⟩ = some (.int .i64 (x : Nat)) := by rw [hx]; exact hcell
      have hx1 : x ≤ 1 := by rw [hx]; exact HF.out.2 i hlt
      have hps : psm c (i + 1) = s + (i + 1) * x := by show psm c i + (i + 1) * c i = _; rw [HG.out.1, hx]
      by_cases e : x = 1
      · have hz : ((x : Int) == 1) = true := by rw [e]; rfl
        have HV : Hid (s + (i + 1) = psm c (i + 1) ∧ wr = w) := ⟨by rw [hps, e]; omega, HG.out.2⟩
        clear e hx hps
        go_wp2
        go_roundw
        case rel => exact ⟨i + 1, s + (i + 1), by omega, by first | rfl | go_num, by first | rfl | go_num, HV.out⟩
        case measure => simp [intOf]; omega
      · have e0 : x = 0 := by omega
        have hz : ((x : Int) == 1) = false := by rw [e0]; rfl
        have HV : Hid (s = psm c (i + 1) ∧ wr = w) := ⟨by rw [hps, e0]; omega, HG.out.2⟩
        clear e e0 hx hps
        go_wp2
        go_roundw
        case rel => exact ⟨i + 1, s, by omega, by first | rfl | go_num, by first | rfl | go_num, HV.out⟩
        case measure => simp [intOf]; omega
    · have hib : ¬ (i : Int) < (n : Int) := by omega
      have hie : n = i := by omega
      have HW : Hid (s = psm c n ∧ wr = w) := by rw [hie]; exact HG.out
      clear hie
      go_wp2
      go_ret
      exact ⟨by rw [HW.out.1]; rfl, HW.out.2⟩
end Go.Proofs.Ytillljojdnofgaa

/- Words that may lose a bit: the bits of a number (gap.bits). -/
namespace Go.Proofs.Ytillljojdnofgaa
open Go.RowKit Go.Sort

/-- The i-th of n bits of a number, the highest first. -/
def bitNo (n k i : Nat) : Nat := k / 2 ^ (n - 1 - i) % 2

theorem and_one (a : Nat) (ha : a < 4611686018427387904) : bits BinOp.and IntKind.i64 (a : Int) 1 = ((a % 2 : Nat) : Int) := by
  have h1 : (BitVec.ofInt 64 (a : Int)).toNat = a := by
    rw [BitVec.ofInt_natCast, BitVec.toNat_ofNat]; exact Nat.mod_eq_of_lt (by omega)
  have h2 : (BitVec.ofInt 64 (1 : Int)).toNat = 1 := by decide
  show IntKind.i64.wrap ((BitVec.ofInt 64 (a : Int) &&& BitVec.ofInt 64 (1 : Int)).toNat : Int) = _
  rw [BitVec.toNat_and, h1, h2, Nat.and_one_is_mod]
  exact wrap_to rfl (by omega)
theorem bit_at (n k t : Nat) (hk : k ≤ 4096) : bits BinOp.and IntKind.i64 ((k : Int) / 2 ^ (n - 1 - t)) 1 = ((bitNo n k t : Nat) : Int) := by
  have e : (k : Int) / 2 ^ (n - 1 - t) = ((k / 2 ^ (n - 1 - t) : Nat) : Int) := by rw [Int.natCast_ediv, Int.natCast_pow]; rfl
  rw [e]
  exact and_one _ (by have := Nat.div_le_self k (2 ^ (n - 1 - t)); omega)

/-- A row of just n numbers. -/
def RowE (g n : Nat) (z : Nat → Int) (w : World) : Prop := RowF g n 3 (fun j => .int .i64 (z j)) w
theorem rowE_zeros {base n : Nat} {w : World} (h : OwnI base (.slice (some ⟨base, 0, none⟩) n n) (List.replicate n 0) w) : RowE base n (fun _ => 0) w := by
  rcases h.2 with ⟨h1, _⟩ | ⟨g, cap, cur, hv, hg, hh, hle, hcm, hsz, htake⟩
  · cases h1
  · simp only [List.length_replicate, Value.slice.injEq, Option.some.injEq, Addr.mk.injEq, and_true, true_and] at hv
    obtain ⟨rfl, rfl⟩ := hv
    by_cases h0 : n = 0
    · exact ⟨cur, hh, by omega, fun o ho => by omega⟩
    · obtain ⟨gl, cl, fl, hvl, hgl, hgl', hll, hcl, hrl, hfl⟩ := h.row n (by simp) (by omega)
      simp only [Value.slice.injEq, Option.some.injEq, Addr.mk.injEq, and_true, true_and] at hvl
      obtain ⟨rfl, rfl⟩ := hvl
      exact RowF.congr hrl fun k hk => by rw [hfl k hk, list_getD_replicate]
theorem RowE.store {g n : Nat} {z : Nat → Int} {w : World} (h : RowE g n z w) (k : Nat) (v : Int) : RowE g n (fun j => if j = k then v else z j) (w.setCell ⟨g, k, none⟩ (.int .i64 v)) := by
  refine (RowF.store h k (.int .i64 v)).congr (fun o _ => ?_)
  show (if o = k then Value.int .i64 v else Value.int .i64 (z o)) = Value.int .i64 (if o = k then v else z o)
  by_cases e : o = k
  · rw [if_pos e, if_pos e]
  · rw [if_neg e, if_neg e]
theorem RowE.own {g n base : Nat} {z : Nat → Int} {w : World} (h : RowE g n z w) (hb : base ≤ g) (hn : n ≤ 1000000) : OwnI base (.slice (some ⟨g, 0, none⟩) n n) (zl n z) w := RowF.own h (zl_len n z) (fun j hj => by rw [zl_getD n z j hj]) hb hn

set_option maxHeartbeats 4000000 in
set_option maxRecDepth 100000 in
theorem bits_any {k n : Nat} (hn : n ≤ 12) (hk : k ≤ 4096) (w : World) :
    Calls Try.prog 47 #[.int .i64 (k : Nat), .int .i64 (n : Nat)] w fun e w' => ∃ g, e = .returned (.slice (some ⟨g, 0, none⟩) n n) ∧ OwnI w.heap.size (.slice (some ⟨g, 0, none⟩) n n) (zl n fun j => ((bitNo n k j : Nat) : Int)) w' ∧ Below w.heap.size w w' := by
  go_enter Try.func47, Try.ntmps47
  go_wp2_with (at_make; refine make_int rfl _ _ rfl _ n rfl rfl (by omega) (by omega) ?_; intro w1 hown1 hgrow1)
  have hrz0 := rowE_zeros hown1
  obtain ⟨g, hg⟩ : ∃ g, g = w.heap.size := ⟨_, rfl⟩
  rw [← hg] at hrz0
  try rw [← hg]
  have HI0 : Hid (RowE g n (fun _ => 0) w1 ∧ Below w.heap.size w w1 ∧ g = w.heap.size) := ⟨hrz0, below_grown hgrow1 (Nat.le_refl _) (fun k hk => by cases hk), hg⟩
  clear hown1 hgrow1 hrz0 hg
  go_loopw [11] (fun vi wr => ∃ (t : Nat) (o : Nat → Int), t ≤ n ∧ vi = .int .i64 (t : Nat) ∧ Hid (RowE g n o wr ∧ (∀ j, j < t → o j = ((bitNo n k j : Nat) : Int)) ∧ Below w.heap.size w wr)) (fun vi _ => n - (intOf vi).toNat)
  case atStart => exact ⟨0, _, by omega, rfl, HI0.out.1, fun j hj => absurd hj (by omega), HI0.out.2.1⟩
  case round =>
    obtain ⟨t, o, ht, rfl, HG⟩ := hrel
    rename World => wr
    by_cases hlt : t < n
    · have hib : (t : Int) < (n : Int) := by omega
      have hib0 : (0 : Int) ≤ (t : Int) := by omega
      obtain ⟨n1, hn1⟩ : ∃ n1, n1 = n - 1 := ⟨_, rfl⟩
      obtain ⟨sh, hsh⟩ : ∃ sh, sh = n - 1 - t := ⟨_, rfl⟩
      have v1 : IntKind.i64.wrap ((n : Int) - 1) = (n1 : Int) := wrap_to (by omega) (by omega)
      have v2 : IntKind.i64.wrap ((n1 : Int) - (t : Int)) = (sh : Int) := wrap_to (by omega) (by omega)
      have hc0 := RowF.cell HG.out.1 t hlt
      have hf0 := RowF.free HG.out.1 t
      obtain ⟨o0, ho0⟩ : ∃ o0, o0 = o t := ⟨_, rfl⟩
      rw [← ho0] at hc0
      obtain ⟨x, hx⟩ : ∃ x : Nat, x = bitNo n k t := ⟨_, rfl⟩
      have hbx : bits BinOp.and IntKind.i64 ((k : Int) / 2 ^ (n - 1 - t)) 1 = (x : Int) := by rw [hx]; exact bit_at n k t hk
      obtain ⟨ws, hws⟩ : ∃ ws, ws = wr.setCell ⟨g, t, none⟩ (.int .i64 (x : Nat)) := ⟨_, rfl⟩
      have HS2 : Hid (RowE g n (fun j => if j = t then (x : Int) else o j) ws ∧ (∀ j, j < t + 1 → (fun j => if j = t then (x : Int) else o j) j = ((bitNo n k j : Nat) : Int)) ∧ Below w.heap.size w ws) := by
        refine ⟨by rw [hws]; exact HG.out.1.store t (x : Int), fun j hj => ?_, by rw [hws]; exact setO_bel HG.out.2.2 (by have := HI0.out.2.2; omega) _⟩
        show (if j = t then (x : Int) else o j) = _
        by_cases e : j = t
        · rw [if_pos e, hx, e]
        · rw [if_neg e]; exact HG.out.2.1 j (by omega)
      clear ho0 hx
      go_wp2
      try rw [hbx]
      try rw [← hws]
      clear hws hc0 hf0 hbx
      go_roundw
      case rel => exact ⟨t + 1, _, by omega, by go_num, HS2.out⟩
      case measure => simp [intOf]; omega
    · have hib : ¬ (t : Int) < (n : Int) := by omega
      have HZ : Hid (OwnI w.heap.size (.slice (some ⟨g, 0, none⟩) n n) (zl n fun j => ((bitNo n k j : Nat) : Int)) wr ∧ Below w.heap.size w wr) := by
        refine ⟨?_, HG.out.2.2⟩
        have h := HG.out.1.own (base := w.heap.size) (by have := HI0.out.2.2; omega) (by omega)
        rw [zl_congr (y := fun j => ((bitNo n k j : Nat) : Int)) (fun j hj => HG.out.2.1 j (by omega))] at h
        exact h
      go_wp2
      go_ret
      exact ⟨g, rfl, HZ.out⟩
end Go.Proofs.Ytillljojdnofgaa
