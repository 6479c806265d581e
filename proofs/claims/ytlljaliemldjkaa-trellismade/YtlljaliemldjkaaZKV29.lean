/- Trellises: the law of what is spoken, put together. -/
import Derived.Test.YtlljaliemldjkaaZKV27
import Derived.Test.YtlljaliemldjkaaZKV24
import Derived.Test.YtlljaliemldjkaaZKV21
import Derived.Test.YtlljaliemldjkaaZKE3
namespace Go.Proofs.Ytlljaliemldjkaa
open Go.RowKit Go.Sort

theorem cpt_le {z : Nat → Nat} {R : Nat} {y : Nat → Int} {a b n M : Nat} (hab : a ≤ b) (hb : b ≤ 4) (hl : R * (n + M) ≤ 24) (u : Nat) : cpt z R y a b n M u ≤ 281474976710656 := by
  unfold cpt
  rw [cpp_prN]
  have h1 := prN_le (f := spc z R y a b (dgs 2 n u) n) (fun j => spc_le hab hb j) (R * (n + M))
  have h2 : (4 : Nat) ^ (R * (n + M)) ≤ 4 ^ 24 := Nat.pow_le_pow_right (by decide) hl
  have h3 : (4 : Nat) ^ 24 = 281474976710656 := by decide
  omega
theorem shE_few {z : Nat → Nat} {R : Nat} {y : Nat → Int} {a b n M : Nat} (hab : a ≤ b) (hb : b ≤ 4) (hl : R * (n + M) ≤ 24) (hn : n ≤ 10) : shE z R y a b n M 0 ≤ 576460752303423488 ∧ ∀ j, j < n → shE z R y a b n M (1 + j) ≤ 576460752303423488 := by
  have hp : (2 : Nat) ^ n ≤ 1024 := Nat.le_trans (Nat.pow_le_pow_right (by decide) hn) (by decide)
  have hm : 2 ^ n * 281474976710656 ≤ 1024 * 281474976710656 := Nat.mul_le_mul_right _ hp
  constructor
  · rw [shE_all]
    have h := smN_le (f := cpt z R y a b n M) (C := 281474976710656) (2 ^ n) (fun u _ => cpt_le hab hb hl u)
    omega
  · intro j hj
    rw [shE_one hj]
    have h := smN_le (f := fun u => cpt z R y a b n M u * dgs 2 n u j) (C := 281474976710656) (2 ^ n) (fun u _ => by
      have h1 := cpt_le (z := z) (y := y) hab hb hl u
      have h2 := dgs_le1 n u j
      have h3 : cpt z R y a b n M u * dgs 2 n u j ≤ cpt z R y a b n M u * 1 := Nat.mul_le_mul_left _ h2
      show cpt z R y a b n M u * dgs 2 n u j ≤ _
      omega)
    omega
/-- What is spoken, whatever the signs are. -/
theorem tspk_any {ao so : Option Addr} {R ca l sc : Nat} {a b : Int} {z : Nat → Nat} {y : Nat → Int} {w : World} (hX : RlA ao R z w) (hY : SlZ so l y w) (hYl : LtB so w.heap.size) (hl : l ≤ 300) :
    Calls Try.prog 16 #[.slice ao R ca, .slice so l sc, .int .i64 (lgN (mmr z R) R l y : Nat), .int .i64 a, .int .i64 b, .int .i64 (lgE (mmr z R) R l y)] w fun e w' => e = .returned (.bool true) ∧ Below w.heap.size w w' := by
  have hL : ∀ wx, Below w.heap.size w wx → Calls Try.prog 13 #[.slice ao R ca, .slice so l sc] wx fun e w' => e = .returned (.tuple #[.int .i64 (lgN (mmr z R) R l y : Nat), .int .i64 (lgE (mmr z R) R l y)]) ∧ ∃ d, w' = wx.drewN d := fun wx hb => tlength_any (hX.below hb).rz (hY.below hb hYl) (by omega)
  by_cases hE : lgE (mmr z R) R l y = 0
  · obtain ⟨g1, g2, g3⟩ := lgE_ok hE
    obtain ⟨N, hN⟩ : ∃ N, N = lgN (mmr z R) R l y := ⟨_, rfl⟩
    rw [hE, ← hN] at hL
    rw [← hN] at g1 g2
    rw [hE, ← hN]
    by_cases hbad : a < 0 ∨ b < a ∨ b < 1 ∨ 4 < b ∨ 24 < l
    · have hC : ∀ wx, Below w.heap.size w wx → Calls Try.prog 24 #[.slice ao R ca, .slice so l sc, .int .i64 a, .int .i64 b] wx fun e w' => e = .returned (.tuple #[.slice none 0 0, .int .i64 0, .int .i64 4]) ∧ Below wx.heap.size wx w' := fun wx hb => tch_lim (fun wy hy => hL wy (bel_up' hb hy)) (by omega)
      exact tspk_l hbad hC (fun wx hb => todds_e (by decide) (hC wx hb))
    · by_cases hn : 10 < N
      · exact tspk_m (by omega) (by omega) (by omega) (by omega) (by omega) hn
      · obtain ⟨a', rfl⟩ : ∃ a' : Nat, a = (a' : Int) := ⟨a.toNat, by omega⟩
        obtain ⟨b', rfl⟩ : ∃ b' : Nat, b = (b' : Int) := ⟨b.toNat, by omega⟩
        have hf := shE_few (z := z) (R := R) (y := y) (a := a') (b := b') (n := N) (M := mmr z R) (by omega) (by omega) (by rw [← g1]; omega) (by omega)
        refine tspk_ok (al := shE z R y a' b' N (mmr z R) 0) (on := fun j => shE z R y a' b' N (mmr z R) (1 + j)) (by omega) (by omega) (by omega) (by omega) (by omega) (by omega) hf.1 hf.2 (fun wx hb => ?_) (fun wx hb => ?_)
        · exact rspoken_any (hX.below hb) (hY.below hb hYl) (hYl.mono hb.size) g1 (by omega) (by omega) (by omega) (by omega)
        · exact tch_ok (hX.below hb) (hY.below hb hYl) (hYl.mono hb.size) (by omega) hE hN.symm (by omega) (by omega) (by omega) (by omega)
  · have hn0 : lgN (mmr z R) R l y = 0 := by unfold lgN; rw [if_neg hE]
    rw [hn0] at hL ⊢
    have hC : ∀ wx, Below w.heap.size w wx → Calls Try.prog 24 #[.slice ao R ca, .slice so l sc, .int .i64 a, .int .i64 b] wx fun e w' => e = .returned (.tuple #[.slice none 0 0, .int .i64 0, .int .i64 (lgE (mmr z R) R l y)]) ∧ Below wx.heap.size wx w' := fun wx hb => tch_e hE (fun wy hy => hL wy (bel_up' hb hy))
    exact tspk_e hE hC (fun wx hb => todds_e hE (hC wx hb))
/-- And where the rules are none. -/
theorem tspk_bad {E : Int} (hE : E ≠ 0) {ao so : Option Addr} {R ca l sc : Nat} {a b : Int} {w : World} (hC : ∀ wx, Below w.heap.size w wx → Calls Try.prog 10 #[.slice ao R ca] wx fun e w' => e = .returned (.int .i64 E) ∧ w' = wx) :
    Calls Try.prog 16 #[.slice ao R ca, .slice so l sc, .int .i64 0, .int .i64 a, .int .i64 b, .int .i64 E] w fun e w' => e = .returned (.bool true) ∧ Below w.heap.size w w' := by
  have hL : ∀ wx, Below w.heap.size w wx → Calls Try.prog 13 #[.slice ao R ca, .slice so l sc] wx fun e w' => e = .returned (.tuple #[.int .i64 0, .int .i64 E]) ∧ ∃ d, w' = wx.drewN d := fun wx hb => (tlength_e1 hE (hC wx hb)).mono fun _ _ ⟨h1, h2⟩ => ⟨h1, 0, h2⟩
  have hC2 : ∀ wx, Below w.heap.size w wx → Calls Try.prog 24 #[.slice ao R ca, .slice so l sc, .int .i64 a, .int .i64 b] wx fun e w' => e = .returned (.tuple #[.slice none 0 0, .int .i64 0, .int .i64 E]) ∧ Below wx.heap.size wx w' := fun wx hb => tch_e hE (fun wy hy => hL wy (bel_up' hb hy))
  exact tspk_e (n := 0) hE hC2 (fun wx hb => todds_e hE (hC2 wx hb))
/-- The likeliest, whatever the signs are. -/
theorem tlik_any {ao mo so : Option Addr} {R ca ml mc l sc : Nat} {z : Nat → Nat} {x y : Nat → Int} {w : World} (hX : RlA ao R z w) (hM : SlZ mo ml x w) (hMl : LtB mo w.heap.size) (hml : ml ≤ 300) (hY : SlZ so l y w) (hYl : LtB so w.heap.size) (hl : l ≤ 300) :
    Calls Try.prog 15 #[.slice ao R ca, .slice mo ml mc, .slice so l sc, .int .i64 (lgN (mmr z R) R l y : Nat), .int .i64 (lgE (mmr z R) R l y)] w fun e w' => e = .returned (.bool true) ∧ Below w.heap.size w w' := by
  by_cases hE : lgE (mmr z R) R l y = 0
  · rw [hE]
    exact tlik_ok hX hM hMl hml hY hYl hl hE rfl
  · have hn0 : lgN (mmr z R) R l y = 0 := by unfold lgN; rw [if_neg hE]
    have hL : ∀ wx, Below w.heap.size w wx → Calls Try.prog 13 #[.slice ao R ca, .slice so l sc] wx fun e w' => e = .returned (.tuple #[.int .i64 0, .int .i64 (lgE (mmr z R) R l y)]) ∧ ∃ d, w' = wx.drewN d := fun wx hb => by
      have h := tlength_any (ca := ca) (sc := sc) (hX.below hb).rz (hY.below hb hYl) (by omega)
      rw [hn0] at h
      exact h
    exact tlik_e hE (tvit_e hE hL)
end Go.Proofs.Ytlljaliemldjkaa
