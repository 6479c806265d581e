/- The reference: products, all cases (Mul). -/
import Derived.Test.YtjkncdmbcckcdaaZR4
import Derived.Test.YtjkncdmbcckcdaaZM6
namespace Go.Proofs.Ytjkncdmbcckcdaa
open Go.RowKit

set_option maxHeartbeats 2000000 in
theorem rmul_no {D : FD} (gen : Nat) (v : Value) (a b : Int) (w : World) (h : D.has a = false ∨ D.has b = false) :
    Calls Try.prog 55 #[rf D.q D.p D.m gen v, .int .i64 a, .int .i64 b] w fun e w' => e = .returned (.int .i64 (-1)) ∧ Below w.heap.size w w' := by
  by_cases ha : D.has a = true
  · have hb : D.has b = false := by rcases h with h | h; · rw [ha] at h; cases h
                                    · exact h
    clear h
    unfold rf
    go_enter Try.func55, Try.ntmps55
    go_wp2_with fail
    refine (rhas_any D gen v a _).mono ?_
    rintro e w1 ⟨rfl, hb1⟩
    have HX1 : Hid (Box w.heap.size D gen v w1 ∧ Below w.heap.size w w1) := ⟨(box_new D gen v w).below hb1 (by simp), ((Below.refl _ _).alloc (Nat.le_refl _) _).trans (hb1.mono (by simp))⟩
    obtain ⟨c0, c1, c2, c3, c4⟩ := HX1.out.1
    clear hb1
    go_wp2_with fail
    refine (rhas_any D gen v b _).mono ?_
    rintro e w2 ⟨rfl, hb2⟩
    have HB2 : Hid (Below w.heap.size w w2) := HX1.out.2.trans (hb2.mono HX1.out.2.size)
    clear hb2 c0 c1 c2 c3 c4
    go_wp2
    go_ret
    exact ⟨rfl, HB2.out⟩
  · have ha' : D.has a = false := by simpa using ha
    clear h ha
    unfold rf
    go_enter Try.func55, Try.ntmps55
    go_wp2_with fail
    refine (rhas_any D gen v a _).mono ?_
    rintro e w1 ⟨rfl, hb1⟩
    have HB1 : Hid (Below w.heap.size w w1) := ((Below.refl _ _).alloc (Nat.le_refl _) _).trans (hb1.mono (by simp))
    clear hb1
    go_wp2
    go_ret
    exact ⟨rfl, HB1.out⟩

set_option maxHeartbeats 2000000 in
theorem rmul_one {D : FD} (hm : D.m = 1) (hp : 1 ≤ D.p) (hp2 : D.p ≤ 64) (gen : Nat) (v : Value) (a b : Nat) (w : World) (ha : a < 64) (hb : b < 64) (h1 : D.has a = true) (h2 : D.has b = true) :
    Calls Try.prog 55 #[rf D.q D.p D.m gen v, .int .i64 a, .int .i64 b] w fun e w' => e = .returned (.int .i64 (a * b % D.p : Nat)) ∧ Below w.heap.size w w' := by
  have hm' : ((D.m : Int) == 1) = true := by rw [hm]; rfl
  have y4 : a * b ≤ 64 * 64 := Nat.mul_le_mul (by omega) (by omega)
  have y5 : (a : Int) * (b : Int) ≤ 4096 := by rw [← Int.natCast_mul]; omega
  have y6 : 0 ≤ (a : Int) * (b : Int) := by rw [← Int.natCast_mul]; omega
  clear hm
  unfold rf
  go_enter Try.func55, Try.ntmps55
  go_wp2_with fail
  refine (rhas_any D gen v a _).mono ?_
  rintro e w1 ⟨rfl, hb1⟩
  have HX1 : Hid (Box w.heap.size D gen v w1 ∧ Below w.heap.size w w1) := ⟨(box_new D gen v w).below hb1 (by simp), ((Below.refl _ _).alloc (Nat.le_refl _) _).trans (hb1.mono (by simp))⟩
  have hs1 : w.heap.size < w1.heap.size := by have := hb1.size; simp at this; omega
  obtain ⟨c0, c1, c2, c3, c4⟩ := HX1.out.1
  clear hb1
  go_wp2_with fail
  refine (rhas_any D gen v b _).mono ?_
  rintro e w2 ⟨rfl, hb2⟩
  have HX2 : Hid (Box w.heap.size D gen v w2 ∧ Below w.heap.size w w2) := ⟨HX1.out.1.below hb2 hs1, HX1.out.2.trans (hb2.mono HX1.out.2.size)⟩
  clear hb2 c0 c1 c2 c3 c4
  obtain ⟨c0, c1, c2, c3, c4⟩ := HX2.out.1
  go_wp2
  go_ret
  exact ⟨ret_int (by rw [← Int.natCast_mul, ← Int.natCast_emod]), HX2.out.2⟩

/-- A modulus that lies in memory: digits, and what is behind them. -/
structure ModAt (D : FD) (v : Value) (md : Nat → Nat) (w : World) : Prop where
  lies : D.m = 1 ∨ ∃ gm lm cm, v = .slice (some ⟨gm, 0, none⟩) lm cm ∧ D.m < lm ∧ gm < w.heap.size ∧ Nums gm D.m md w
  lt : ∀ j, md j < D.p
theorem ModAt.below {D : FD} {v : Value} {md : Nat → Nat} {w w' : World} (h : ModAt D v md w) (hb : Below w.heap.size w w') : ModAt D v md w' := by
  refine ⟨?_, h.lt⟩
  rcases h.lies with h1 | ⟨gm, lm, cm, h1, h2, h3, h4⟩
  · exact Or.inl h1
  · exact Or.inr ⟨gm, lm, cm, h1, h2, Nat.lt_of_lt_of_le h3 hb.size, h4.below hb h3⟩

/-- The reference's product, whatever the modulus. -/
theorem rmul_gen {D : FD} (hm1 : 1 ≤ D.m) (hm6 : D.m ≤ 6) (hp : 2 ≤ D.p) (hp2 : D.p ≤ 64) (hq : D.q ≤ 64) (gen : Nat) {v : Value} {md : Nat → Nat} (a b : Nat) {w : World} (ha : a < D.q) (hb : b < D.q) (hM : ModAt D v md w) :
    Calls Try.prog 55 #[rf D.q D.p D.m gen v, .int .i64 a, .int .i64 b] w fun e w' => e = .returned (.int .i64 (rmulN D.p D.m md a b : Nat)) ∧ Below w.heap.size w w' := by
  unfold rmulN
  by_cases hm : D.m = 1
  · rw [if_pos hm]
    exact rmul_one hm (by omega) hp2 gen v a b w (by omega) (by omega) (nat_has ha) (nat_has hb)
  · rw [if_neg hm]
    rcases hM.lies with h1 | ⟨gm, lm, cm, rfl, h2, h3, h4⟩
    · exact absurd h1 hm
    · exact rmul_poly (by omega) hm6 hp hp2 gen gm lm cm md a b w (by omega) (by omega) (nat_has ha) (nat_has hb) h2 h3 hM.lt h4

/-- The reference's product in a field. -/
theorem rmul_any {D : FD} (hD : D ∈ fieldsL) (gen : Nat) {v : Value} (a b : Int) {w : World} (hM : ModAt D v D.md w) :
    Calls Try.prog 55 #[rf D.q D.p D.m gen v, .int .i64 a, .int .i64 b] w fun e w' => e = .returned (.int .i64 (D.mulZ a b)) ∧ Below w.heap.size w w' := by
  have F := fld hD
  by_cases ha : D.has a = true
  · by_cases hb : D.has b = true
    · obtain ⟨x, rfl, hx⟩ := has_nat ha
      obtain ⟨y, rfl, hy⟩ := has_nat hb
      have hv : D.mulZ x y = (rmulN D.p D.m D.md x y : Nat) := by rw [rmul_is hD x y hx hy, FD.mulZ, if_pos ⟨ha, hb⟩]; rfl
      rw [hv]
      exact rmul_gen F.m1 F.m6 F.p2 F.p64 F.q64 gen x y hx hy hM
    · have hv : D.mulZ a b = -1 := by rw [FD.mulZ, if_neg (by simp [hb])]
      rw [hv]; exact rmul_no gen v a b w (Or.inr (by simpa using hb))
  · have hv : D.mulZ a b = -1 := by rw [FD.mulZ, if_neg (by simp [ha])]
    rw [hv]; exact rmul_no gen v a b w (Or.inl (by simpa using ha))
end Go.Proofs.Ytjkncdmbcckcdaa
