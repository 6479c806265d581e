/- A field's table, made (build). -/
import Derived.Test.YtjkncdmbcckcdabZA6
import Derived.Laws.Tables
namespace Go.Proofs.Ytjkncdmbcckcdab
open Go.RowKit

set_option maxRecDepth 1000000 in
theorem zero_size : Try.zeroCells83.size = 133 := by kernel_rfl
theorem zero_three : Try.zeroCells83[3]? = some (.int .i64 0) := by kernel_rfl

/-- A new table. -/
theorem row_new (q p m : Nat) (w : World) : ∃ f : Nat → Value, RowF w.heap.size 133 83 f (w.alloc (.cells (((Try.zeroCells83.setIfInBounds 0 (.int .i64 q)).setIfInBounds 1 (.int .i64 p)).setIfInBounds 2 (.int .i64 m)) 83)) ∧
    f 0 = .int .i64 q ∧ f 1 = .int .i64 p ∧ f 2 = .int .i64 m ∧ f 3 = .int .i64 0 := by
  have hs := zero_size
  have h3 := zero_three
  generalize Try.zeroCells83 = c at *
  refine ⟨fun o => ((((c.setIfInBounds 0 (.int .i64 q)).setIfInBounds 1 (.int .i64 p)).setIfInBounds 2 (.int .i64 m))[o]?).getD (.int .i64 0), ⟨_, two_new _, by simpa using hs, ?_⟩, ?_, ?_, ?_, ?_⟩
  · intro o ho
    show _ = some (Option.getD _ _)
    rw [Array.getElem?_eq_getElem (by simpa [hs] using ho)]; rfl
  · simp [hs]
  · simp [hs]
  · simp [hs]
  · show Option.getD _ _ = _
    rw [Array.getElem?_setIfInBounds_ne (by omega), Array.getElem?_setIfInBounds_ne (by omega), Array.getElem?_setIfInBounds_ne (by omega), h3]; rfl

/-- What is known of the number q, for its table. -/
structure Good (q p m : Nat) : Prop where
  pp : pp q = (p, m)
  p2 : 2 ≤ p
  p64 : p ≤ 64
  m1 : 1 ≤ m
  q2 : 2 ≤ q
  q64 : q ≤ 64
  sums : SumsOk p q
  neg : ∀ a, a < q → negD p q a < q
  opp : ∀ a, a < q → sumD p q a (negD p q a) = 0
  two : Two p q

/-- A table of a field of q = p^m elements: the lower part of its modulus, its generator, and what makes of 1 its powers. -/
structure Tab (q p m low gen : Nat) (st : Nat → Nat) (g : Nat → Value) : Prop where
  sum : TabS p q g
  c2 : g 2 = .int .i64 m
  c3 : g 3 = .int .i64 low
  c4 : g 4 = .int .i64 gen
  pows : Pows st (q - 1) g

set_option maxHeartbeats 2000000 in
set_option maxRecDepth 100000 in
theorem build_prime (q gen : Nat) (w : World) (hG : Good q q 1)
    (hg1 : 1 ≤ gen) (hgq : gen < q) (hgen : Full (fun a => a * gen % q) (q - 1)) (hleast : ∀ g, 1 ≤ g → g < gen → ¬ Full (fun a => a * g % q) (q - 1)) :
    Calls Try.prog 47 #[.int .i64 q] w fun e w' => e = .returned (.pointer (some ⟨w.heap.size, 0, none⟩)) ∧ ∃ g, RowF w.heap.size 133 83 g w' ∧ Tab q q 1 0 gen (fun a => a * gen % q) g ∧ Below w.heap.size w w' := by
  have HG : Hid (Good q q 1) := hG
  have HN : Hid (Full (fun a => a * gen % q) (q - 1) ∧ ∀ g, 1 ≤ g → g < gen → ¬ Full (fun a => a * g % q) (q - 1)) := ⟨hgen, hleast⟩
  clear hG hgen hleast
  go_enter Try.func47, Try.ntmps47
  go_wp2_with fail
  refine (primePower_any q w HG.out.q2 HG.out.q64).mono ?_
  rintro e w' ⟨rfl, rfl⟩
  rw [HG.out.pp]
  go_wp2_with fail
  obtain ⟨f, hrow, h0, h1, h2, h3⟩ := row_new q q 1 w'
  refine (layByNumber_any w'.heap.size q gen f _ HG.out.q2 HG.out.q64 hrow h0 h1 hg1 hgq HN.out.1 HN.out.2).mono ?_
  rintro e w2 ⟨rfl, g2, hrow2, hsame2, hg4, hpows2, hgrow2⟩
  have H2 : Hid (RowF w'.heap.size 133 83 g2 w2 ∧ Tab q q 1 0 gen (fun a => a * gen % q) g2 ∧ Below w'.heap.size w' w2) :=
    ⟨hrow2, ⟨⟨(hsame2 0 (by omega) (by omega)).trans h0, (hsame2 1 (by omega) (by omega)).trans h1, HG.out.two⟩, (hsame2 2 (by omega) (by omega)).trans h2, (hsame2 3 (by omega) (by omega)).trans h3, hg4, hpows2⟩,
     ((Below.refl _ _).alloc (Nat.le_refl _) _).grown hgrow2 (by simp) (by intro k hk; simp at hk; omega)⟩
  clear hrow2 hsame2 hg4 hpows2 hgrow2 h0 h1 h2 h3 hrow
  go_wp2
  go_ret
  exact ⟨rfl, g2, H2.out.1, H2.out.2.1, H2.out.2.2⟩

set_option maxHeartbeats 2000000 in
set_option maxRecDepth 100000 in
theorem build_power (q p m low : Nat) (w : World) (hG : Good q p m) (hm : 2 ≤ m) (hm6 : m ≤ 6)
    (hlq : low < q) (hlow : Full (timesX p q low) (q - 1)) (hleast : ∀ l, l < low → ¬ Full (timesX p q l) (q - 1)) :
    Calls Try.prog 47 #[.int .i64 q] w fun e w' => e = .returned (.pointer (some ⟨w.heap.size, 0, none⟩)) ∧ ∃ g, RowF w.heap.size 133 83 g w' ∧ Tab q p m low p (timesX p q low) g ∧ Below w.heap.size w w' := by
  have HG : Hid (Good q p m) := hG
  have HN : Hid (Full (timesX p q low) (q - 1) ∧ ∀ l, l < low → ¬ Full (timesX p q l) (q - 1)) := ⟨hlow, hleast⟩
  clear hG hlow hleast
  go_enter Try.func47, Try.ntmps47
  go_wp2_with fail
  refine (primePower_any q w HG.out.q2 HG.out.q64).mono ?_
  rintro e w' ⟨rfl, rfl⟩
  rw [HG.out.pp]
  have hm0 : ((m : Int) == 0) = false := by rw [beq_eq_false_iff_ne]; omega
  have hm1 : ((m : Int) == 1) = false := by rw [beq_eq_false_iff_ne]; omega
  go_wp2_with fail
  obtain ⟨f, hrow, h0, h1, h2, h3⟩ := row_new q p m w'
  have ht : TabS p q f := ⟨h0, h1, HG.out.two⟩
  refine (layByModulus_any w'.heap.size p q low f _ HG.out.p2 HG.out.p64 HG.out.q2 HG.out.q64 HG.out.sums.1 HG.out.neg hrow ht hlq HN.out.1 HN.out.2).mono ?_
  rintro e w2 ⟨rfl, g2, hrow2, hsame2, hg3, hg4, hpows2, hgrow2⟩
  have H2 : Hid (RowF w'.heap.size 133 83 g2 w2 ∧ Tab q p m low p (timesX p q low) g2 ∧ Below w'.heap.size w' w2) :=
    ⟨hrow2, ⟨ht.congr (fun o ho _ h3 h4 => hsame2 o ho h3 h4), (hsame2 2 (by omega) (by omega) (by omega)).trans h2, hg3, hg4, hpows2⟩,
     ((Below.refl _ _).alloc (Nat.le_refl _) _).grown hgrow2 (by simp) (by intro k hk; simp at hk; omega)⟩
  clear hrow2 hsame2 hg3 hg4 hpows2 hgrow2 ht h0 h1 h2 h3 hrow
  go_wp2
  go_ret
  exact ⟨rfl, g2, H2.out.1, H2.out.2.1, H2.out.2.2⟩

end Go.Proofs.Ytjkncdmbcckcdab
