/- Trellises: the bits of a way. -/
import Derived.Test.YtlljaliemldjkaaZS85
import Derived.Test.YtlljaliemldjkaaZKV11
import Derived.Test.YtlljaliemldjkaaZO5
namespace Go.Proofs.Ytlljaliemldjkaa
open Go.RowKit Go.Sort

theorem bit_atB (n k t : Nat) (hk : k ≤ 1048576) : bits BinOp.and IntKind.i64 ((k : Int) / 2 ^ (n - 1 - t)) 1 = ((bitN n k t : Nat) : Int) := by
  have e : (k : Int) / 2 ^ (n - 1 - t) = ((k / 2 ^ (n - 1 - t) : Nat) : Int) := by rw [Int.natCast_ediv, Int.natCast_pow]; rfl
  rw [e]
  exact and_one _ (by have := Nat.div_le_self k (2 ^ (n - 1 - t)); omega)
set_option maxHeartbeats 4000000 in
set_option maxRecDepth 100000 in
theorem wbits_any {a k n : Nat} (hn : n ≤ 20) (hk : k ≤ 1048576) (w : World) :
    Calls Try.prog 39 #[.agg #[.int .i64 (a : Nat), .int .i64 (k : Nat)], .int .i64 (n : Nat)] w fun e w' => ∃ v, e = .returned v ∧ OwnI w.heap.size v (zl n fun j => ((bitN n k j : Nat) : Int)) w' ∧ Below w.heap.size w w' := by
  obtain ⟨w0, hw0⟩ : ∃ w0, w0 = w.alloc (.cells #[.int .i64 (a : Nat), .int .i64 (k : Nat)] 59) := ⟨_, rfl⟩
  have H0 : Hid (W2 w.heap.size a k w0 ∧ Below w.heap.size w w0 ∧ w0.heap.size = w.heap.size + 1) := by
    rw [hw0]; exact ⟨W2.new _ _ w, (Below.refl _ _).alloc (Nat.le_refl _) _, by simp⟩
  go_enter Try.func39, Try.ntmps39
  go_wp2_with (at_make; rw [← hw0]; refine make_int rfl _ _ rfl _ n rfl rfl (by omega) (by omega) ?_; intro w1 hown1 hgrow1)
  have hrz0 := rowE_zeros hown1
  obtain ⟨g, hg⟩ : ∃ g, g = w.heap.size + 1 := ⟨_, rfl⟩
  have hs0 := H0.out.2.2
  rw [hs0, ← hg] at hrz0
  try rw [hs0]
  rw [← hg]
  have HI0 : Hid (RowE g n (fun _ => 0) w1 ∧ W2 w.heap.size a k w1 ∧ Below w.heap.size w w1 ∧ g = w.heap.size + 1) := by
    have hb : Below w0.heap.size w0 w1 := below_grown hgrow1 (Nat.le_refl _) (fun k hk => by cases hk)
    exact ⟨hrz0, H0.out.1.below hb, bel_up' H0.out.2.1 hb, hg⟩
  clear hs0 hown1 hgrow1 hrz0 hg hw0
  go_loopw [11] (fun vi wr => ∃ (t : Nat) (o : Nat → Int), t ≤ n ∧ vi = .int .i64 (t : Nat) ∧ Hid (RowE g n o wr ∧ (∀ j, j < t → o j = ((bitN n k j : Nat) : Int)) ∧ W2 w.heap.size a k wr ∧ Below w.heap.size w wr)) (fun vi _ => n - (intOf vi).toNat)
  case atStart => exact ⟨0, _, by omega, rfl, HI0.out.1, fun j hj => absurd hj (by omega), HI0.out.2.1, HI0.out.2.2.1⟩
  case round =>
    obtain ⟨t, o, ht, rfl, HG⟩ := hrel
    rename World => wr
    by_cases hlt : t < n
    · have hib : (t : Int) < (n : Int) := by omega
      have hib0 : (0 : Int) ≤ (t : Int) := by omega
      obtain ⟨n1, hn1⟩ : ∃ n1, n1 = n - 1 := ⟨_, rfl⟩
      obtain ⟨sh, hsh⟩ : ∃ sh, sh = n - 1 - t := ⟨_, rfl⟩
      have v1 : IntKind.i64.wrap ((n : Int) - 1) = (n1 : Int) := wrap_to (by omega) (by omega)
      have v2 : IntKind.i64.wrap ((n1 : Int) - (t : Int)) = (sh : Int) := wrap_to (by omega) (by omega)
      have hc0 := RowF.cell HG.out.1 t hlt
      have hf0 := RowF.free HG.out.1 t
      have p1 := HG.out.2.2.1.c1
      obtain ⟨o0, ho0⟩ : ∃ o0, o0 = o t := ⟨_, rfl⟩
      rw [← ho0] at hc0
      obtain ⟨x, hx⟩ : ∃ x : Nat, x = bitN n k t := ⟨_, rfl⟩
      have hbx : bits BinOp.and IntKind.i64 ((k : Int) / 2 ^ (n - 1 - t)) 1 = (x : Int) := by rw [hx]; exact bit_atB n k t hk
      obtain ⟨ws, hws⟩ : ∃ ws, ws = wr.setCell ⟨g, t, none⟩ (.int .i64 (x : Nat)) := ⟨_, rfl⟩
      have HS2 : Hid (RowE g n (fun j => if j = t then (x : Int) else o j) ws ∧ (∀ j, j < t + 1 → (fun j => if j = t then (x : Int) else o j) j = ((bitN n k j : Nat) : Int)) ∧ W2 w.heap.size a k ws ∧ Below w.heap.size w ws) := by
        have hgg := HI0.out.2.2.2
        refine ⟨by rw [hws]; exact HG.out.1.store t (x : Int), fun j hj => ?_, by rw [hws]; exact HG.out.2.2.1.oth (by omega) _ _, by rw [hws]; exact setO_bel HG.out.2.2.2 (by omega) _⟩
        show (if j = t then (x : Int) else o j) = _
        by_cases e : j = t
        · rw [if_pos e, hx, e]
        · rw [if_neg e]; exact HG.out.2.1 j (by omega)
      clear ho0 hx
      go_wp2
      try rw [hbx]
      try rw [← hws]
      clear hws hc0 hf0 hbx
      go_roundw
      case rel => exact ⟨t + 1, _, by omega, by go_num, HS2.out⟩
      case measure => simp [intOf]; omega
    · have hib : ¬ (t : Int) < (n : Int) := by omega
      have HZ : Hid (OwnI w.heap.size (.slice (some ⟨g, 0, none⟩) n n) (zl n fun j => ((bitN n k j : Nat) : Int)) wr ∧ Below w.heap.size w wr) := by
        refine ⟨?_, HG.out.2.2.2⟩
        have h := HG.out.1.own (base := w.heap.size) (by have := HI0.out.2.2.2; omega) (by omega)
        rw [zl_congr (y := fun j => ((bitN n k j : Nat) : Int)) (fun j hj => HG.out.2.1 j (by omega))] at h
        exact h
      go_wp2
      go_ret
      exact ⟨_, rfl, HZ.out⟩
end Go.Proofs.Ytlljaliemldjkaa
