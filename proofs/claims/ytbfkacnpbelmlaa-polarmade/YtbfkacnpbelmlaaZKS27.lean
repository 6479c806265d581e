/- Texts of ours, one behind the other: KS27 KS28. -/
import Derived.Test.YtbfkacnpbelmlaaZKS26
import Derived.Test.YtbfkacnpbelmlaaZKS14
import Derived.Test.YtbfkacnpbelmlaaZKS6
import Derived.Test.YtbfkacnpbelmlaaZKS7
import Derived.Test.YtbfkacnpbelmlaaZKE15
import Derived.BigQuiet
/- Polar: bit.All; the reference's PolarMay and PolarWord. -/
namespace Go.Proofs.Ytbfkacnpbelmlaa
open Go.RowKit Go.Sort

set_option maxHeartbeats 2000000 in
theorem bAll_any {ao : Option Addr} {n cap : Nat} {z : Nat → Int} {w : World} (hs : SlZ ao n z w) (hn : n ≤ 1000000) :
    Calls Try.prog 34 #[.slice ao n cap] w fun e w' => e = .returned (.bool (allP isbt z n)) ∧ w' = w := by
  have HC : Hid (Calls Try.prog 47 #[.slice ao n cap, .func (.func 45) #[] #[]] w fun e w' => e = .returned (.bool (allP isbt z n)) ∧ w' = w) := ball_any enters_isbit hs hn (fun x => isBit_any x w)
  obtain ⟨R, hR⟩ : ∃ R, R = allP isbt z n := ⟨_, rfl⟩
  rw [← hR] at HC ⊢
  clear hR hs
  go_enter Try.func34, Try.ntmps34
  go_wp2_with fail
  refine HC.out.mono ?_
  rintro e w' ⟨rfl, hw⟩
  have hw := hw.symm
  subst hw
  go_wp2
  go_ret
  exact ⟨rfl, rfl⟩
/-- What PolarMay says. -/
def pmc (m : Int) (n : Nat) (z : Nat → Int) : Int := if m < 0 ∨ 5 < m then 4 else if 2 ^ m.toNat < n then 6 else if allP isbt z n = true then 0 else 2
set_option maxHeartbeats 4000000 in
set_option maxRecDepth 100000 in
theorem polarMay_any (m : Int) {ao : Option Addr} {n cap : Nat} {z : Nat → Int} {w : World} (hs : SlZ ao n z w) (hn : n ≤ 1000000) :
    Calls Try.prog 14 #[.int .i64 m, .slice ao n cap] w fun e w' => e = .returned (.int .i64 (pmc m n z)) ∧ w' = w := by
  obtain ⟨R, hR⟩ : ∃ R, R = allP isbt z n := ⟨_, rfl⟩
  have HB : Hid (Calls Try.prog 11 #[.slice ao n cap, .bool false] w fun e w' => e = .returned (.bool R) ∧ w' = w) := by
    rw [hR]; exact rbits_any false hs hn
  obtain ⟨E, hE⟩ : ∃ E, E = pmc m n z := ⟨_, rfl⟩
  rw [← hE]
  unfold pmc at hE
  rw [← hR] at hE
  clear hR hs
  by_cases h1 : m < 0
  · rw [if_pos (Or.inl h1)] at hE
    have HE : Hid (E = 4) := hE
    clear hE
    go_enter Try.func14, Try.ntmps14
    go_wp2
    go_ret
    exact ⟨by (first | (rw [HE.out]; rfl) | rw [HE.out]), rfl⟩
  · by_cases h2 : 5 < m
    · rw [if_pos (Or.inr h2)] at hE
      have HE : Hid (E = 4) := hE
      clear hE
      have h2' : m > 5 := h2
      go_enter Try.func14, Try.ntmps14
      go_wp2
      go_ret
      exact ⟨by (first | (rw [HE.out]; rfl) | rw [HE.out]), rfl⟩
    · rw [if_neg (by omega)] at hE
      obtain ⟨M, rfl⟩ : ∃ M : Nat, m = (M : Int) := ⟨m.toNat, by omega⟩
      have hM5 : M ≤ 5 := by omega
      obtain ⟨N, hN⟩ : ∃ N, N = 2 ^ M := ⟨_, rfl⟩
      rw [Int.toNat_natCast, ← hN] at hE
      have hNb : N ≤ 32 := by rw [hN]; exact Nat.le_trans (Nat.pow_le_pow_right (by omega) hM5) (by decide)
      have hNi : (2 : Int) ^ M = (N : Int) := by rw [hN]; simp
      have hNw : IntKind.i64.wrap (N : Int) = (N : Int) := wrap_to rfl (by omega)
      clear hN
      by_cases h3 : N < n
      · rw [if_pos h3] at hE
        have HE : Hid (E = 6) := hE
        clear hE
        have h3i : (N : Int) < (n : Int) := by omega
        go_enter Try.func14, Try.ntmps14
        go_wp2
        go_ret
        exact ⟨by (first | (rw [HE.out]; rfl) | rw [HE.out]), rfl⟩
      · rw [if_neg h3] at hE
        have h3i : ¬ (N : Int) < (n : Int) := by omega
        cases R with
        | true =>
          rw [if_pos rfl] at hE
          have HE : Hid (E = 0) := hE
          clear hE
          go_enter Try.func14, Try.ntmps14
          go_wp2_with fail
          refine HB.out.mono ?_
          rintro e w' ⟨rfl, hw⟩
          have hw := hw.symm
          subst hw
          go_wp2
          go_ret
          exact ⟨by (first | (rw [HE.out]; rfl) | rw [HE.out]), rfl⟩
        | false =>
          rw [if_neg (by intro e; cases e)] at hE
          have HE : Hid (E = 2) := hE
          clear hE
          go_enter Try.func14, Try.ntmps14
          go_wp2_with fail
          refine HB.out.mono ?_
          rintro e w' ⟨rfl, hw⟩
          have hw := hw.symm
          subst hw
          go_wp2
          go_ret
          exact ⟨by (first | (rw [HE.out]; rfl) | rw [HE.out]), rfl⟩
end Go.Proofs.Ytbfkacnpbelmlaa

/- Polar: the reference's PolarWord. -/
namespace Go.Proofs.Ytbfkacnpbelmlaa
open Go.RowKit Go.Sort

set_option maxHeartbeats 4000000 in
set_option maxRecDepth 100000 in
theorem polarWord_any {m N n c : Nat} {p f : Nat → Nat} {ao : Option Addr} {w : World} (hm : m ≤ 5) (hN : N = 2 ^ m) (hn : n ≤ N) (hp : ∀ i, i < n → p i < N) (hf : ∀ i, i < n → f i < 2) (hX : SlZ ao n (fun i => ((f i : Nat) : Int)) w) (hl : LtB ao w.heap.size)
    (hB : ∀ w1, Calls Try.prog 8 #[.int .i64 (m : Nat), .int .i64 (n : Nat)] w1 fun x w' => ∃ v, x = .returned v ∧ OwnI w1.heap.size v (zl n fun i => ((p i : Nat) : Int)) w' ∧ Below w1.heap.size w1 w') :
    Calls Try.prog 15 #[.int .i64 (m : Nat), .slice ao n c] w fun x w' => ∃ v, x = .returned v ∧ OwnI w.heap.size v (zl N fun i => ((psj (pput p f n) i N : Nat) : Int)) w' ∧ Below w.heap.size w w' := by
  have HX : Hid ((SlZ ao n (fun i => ((f i : Nat) : Int)) w ∧ LtB ao w.heap.size) ∧ (∀ i, i < n → p i < N) ∧ (∀ i, i < n → f i < 2) ∧ m ≤ 5 ∧ N = 2 ^ m) := ⟨⟨hX, hl⟩, hp, hf, hm, hN⟩
  have HB0 : Hid (∀ w1, Calls Try.prog 8 #[.int .i64 (m : Nat), .int .i64 (n : Nat)] w1 fun x w' => ∃ v, x = .returned v ∧ OwnI w1.heap.size v (zl n fun i => ((p i : Nat) : Int)) w' ∧ Below w1.heap.size w1 w') := hB
  have hN1 : 1 ≤ N := by rw [hN]; exact Nat.pow_pos (by omega)
  have hNb : N ≤ 32 := by rw [hN]; exact Nat.le_trans (Nat.pow_le_pow_right (by omega) hm) (by decide)
  have hNi : (2 : Int) ^ m = (N : Int) := by rw [hN]; simp
  have hNw : IntKind.i64.wrap (N : Int) = (N : Int) := wrap_to rfl (by omega)
  clear hB hX hl hp hf hN
  go_enter Try.func15, Try.ntmps15
  go_wp2_with (at_make; refine make_int rfl _ _ rfl _ N rfl rfl rfl (by omega) ?_; intro w3 hown3 hgrow3)
  have hrz0 := rowE_zeros hown3
  obtain ⟨g, hg⟩ : ∃ g, g = w.heap.size := ⟨_, rfl⟩
  rw [← hg] at hrz0
  try rw [← hg]
  have HI0 : Hid (RowE g N (fun _ => 0) w3 ∧ Below w.heap.size w w3 ∧ g = w.heap.size) := ⟨hrz0, below_grown hgrow3 (Nat.le_refl _) (fun k hk => by cases hk), hg⟩
  clear hown3 hgrow3 hrz0 hg
  have HB : Hid (Calls Try.prog 8 #[.int .i64 (m : Nat), .int .i64 (n : Nat)] w3 fun x w' => ∃ ao ca, x = .returned (.slice ao n ca) ∧ ArgL ao n ca (fun i => ((p i : Nat) : Int)) w' ∧ (∀ a, ao = some a → w3.heap.size ≤ a.block) ∧ Below w3.heap.size w3 w') := by
    refine (HB0.out w3).mono ?_
    rintro e w' ⟨v, rfl, h1, h2⟩
    obtain ⟨a1, c1, rfl, hA1⟩ := h1.argL
    exact ⟨a1, c1, rfl, hA1, fun a e => (h1.lt a.block (by rw [e]; rfl)).1, h2⟩
  clear HB0
  go_wp2_with fail
  refine HB.out.mono ?_
  rintro e w1 ⟨a1, c1, rfl, hA1, ha1, hb1⟩
  have H1 : Hid (ArgL a1 n c1 (fun i => ((p i : Nat) : Int)) w1 ∧ Below w.heap.size w w1 ∧ RowE g N (fun _ => 0) w1 ∧ (∀ a, a1 = some a → g < a.block)) := ⟨hA1, bel_up' HI0.out.2.1 hb1, HI0.out.1.below hb1 HI0.out.1.lt, fun a e => Nat.lt_of_lt_of_le HI0.out.1.lt (ha1 a e)⟩
  clear hA1 hb1 HB ha1
  go_wp2
  go_loopw [7] (fun vi wr => ∃ (t : Nat) (oo : Nat → Int), t ≤ n ∧ vi = .int .i64 (t : Nat) ∧ Hid (RowE g N oo wr ∧ (∀ j, oo j = ((pput p f t j : Nat) : Int)) ∧ Below w.heap.size w wr ∧ ∀ i, i < n → ∃ b o, a1 = some ⟨b, o, none⟩ ∧ wr.cell? ⟨b, o + i, none⟩ = some (.int .i64 ((p i : Nat) : Int)))) (fun vi _ => n - (intOf vi).toNat)
  case atStart => exact ⟨0, _, by omega, rfl, H1.out.2.2.1, fun j => rfl, H1.out.2.1, H1.out.1.sl⟩
  case round =>
    obtain ⟨t, oo, ht, rfl, HG⟩ := hrel
    rename World => wr
    by_cases hlt : t < n
    · have hib : (t : Int) < (n : Int) := by omega
      have hib0 : (0 : Int) ≤ (t : Int) := by omega
      obtain ⟨q, hq⟩ : ∃ q, q = p t := ⟨_, rfl⟩
      obtain ⟨u, hu⟩ : ∃ u, u = f t := ⟨_, rfl⟩
      have hqN : q < N := by rw [hq]; exact HX.out.2.1 t hlt
      have hqi : (q : Int) < (N : Int) := by omega
      have hqi0 : (0 : Int) ≤ (q : Int) := by omega
      obtain ⟨b1, o1, e1, q1⟩ := HG.out.2.2.2 t hlt
      obtain ⟨b2, o2, e2, q2⟩ := HX.out.1.1 t hlt
      have l2 := HX.out.1.2 _ e2
      have k1 : wr.cell? ⟨b1, o1 + t, none⟩ = some (.int .i64 (q : Nat)) := by rw [hq]; exact q1
      have k2 : wr.cell? ⟨b2, o2 + t, none⟩ = some (.int .i64 (u : Nat)) := by
        rw [hu]
        exact (HG.out.2.2.1.cell (p := ⟨b2, o2 + t, none⟩) l2).trans q2
      have hc0 := RowF.cell HG.out.1 q hqN
      have hf0 := RowF.free HG.out.1 q
      obtain ⟨o0, ho0⟩ : ∃ o0, o0 = oo q := ⟨_, rfl⟩
      rw [← ho0] at hc0
      have HS2 : Hid (∀ d, RowE g N (fun j => if j = q then (u : Int) else oo j) ((wr.drewN d).setCell ⟨g, q, none⟩ (.int .i64 (u : Nat))) ∧ (∀ j, (fun j => if j = q then (u : Int) else oo j) j = ((pput p f (t + 1) j : Nat) : Int)) ∧ Below w.heap.size w ((wr.drewN d).setCell ⟨g, q, none⟩ (.int .i64 (u : Nat))) ∧ ∀ i, i < n → ∃ b o, a1 = some ⟨b, o, none⟩ ∧ ((wr.drewN d).setCell ⟨g, q, none⟩ (.int .i64 (u : Nat))).cell? ⟨b, o + i, none⟩ = some (.int .i64 ((p i : Nat) : Int))) := fun d => by
        refine ⟨RowE.store (HG.out.1.drewN d) q _, fun j => ?_, (bel_drewN HG.out.2.2.1 d).setCell (by have := HI0.out.2.2; show _ ≤ g; omega) _, fun i hi => ?_⟩
        · show (if j = q then (u : Int) else oo j) = ((if j = p t then f t else pput p f t j : Nat) : Int)
          rw [← hq, ← hu]
          by_cases e : j = q
          · rw [if_pos e, if_pos e]
          · rw [if_neg e, if_neg e]; exact HG.out.2.1 j
        · obtain ⟨b9, o9, e9, q9⟩ := HG.out.2.2.2 i hi
          have l9 := H1.out.2.2.2 _ e9
          exact ⟨b9, o9, e9, (cell_blk (a := ⟨b9, o9 + i, none⟩) (Below.heap_setCell _ _ _ b9 (by show b9 ≠ g; dsimp only at l9; omega))).trans q9⟩
      subst e2
      obtain ⟨z1, hz1⟩ : ∃ z1, z1 = a1 := ⟨_, rfl⟩
      clear ho0 hq hu q1 q2 l2
      subst e1
      clear hz1
      go_wp2
      refine quiet_tail 10 (by kernel_rfl) (by kernel_rfl) ?_
      simp only [List.take_succ_cons, List.take_zero, List.drop_succ_cons, List.drop_zero]
      repeat (go_big_quiet_step (fail))
      refine wpQuiet_nil ?_
      intro _ hw'
      obtain ⟨nq, hw''⟩ := hw'
      subst hw''
      have HS3 := HS2.out nq
      have HS4 : Hid _ := HS3
      clear HS3 HS2 k1 k2
      go_wp2
      go_roundw
      case rel => exact ⟨t + 1, _, by omega, by go_num, HS4.out⟩
      case measure => simp [intOf]; omega
    · have hib : ¬ (t : Int) < (n : Int) := by omega
      have HT : Hid (Calls Try.prog 12 #[.slice (some ⟨g, 0, none⟩) N N] wr fun e w' => ∃ v, e = .returned v ∧ OwnI w.heap.size v (zl N fun i => ((psj (pput p f n) i N : Nat) : Int)) w' ∧ Below w.heap.size w w') := by
        have e : t = n := by omega
        subst e
        have hgl : g < wr.heap.size := cell_lt (RowF.cell HG.out.1 0 hN1)
        have hW : Wbt g 0 N (pput p f t) wr := ⟨hgl, fun i hi => by rw [Nat.zero_add, RowF.cell HG.out.1 i hi, HG.out.2.1 i], fun i _ => pput_lt HX.out.2.2.1 i⟩
        refine (rpolar_any (c := N) hW hN1 hNb).mono ?_
        rintro e w' ⟨v, rfl, h1, h2⟩
        exact ⟨v, rfl, h1.mono HG.out.2.2.1.size, bel_up' HG.out.2.2.1 h2⟩
      clear HG HI0
      go_wp2_with fail
      refine HT.out.mono ?_
      rintro e w6 ⟨v, rfl, h1, h2⟩
      have H6 : Hid (OwnI w.heap.size v (zl N fun i => ((psj (pput p f n) i N : Nat) : Int)) w6 ∧ Below w.heap.size w w6) := ⟨h1, h2⟩
      clear h1 h2 HT
      go_wp2
      go_ret
      exact ⟨v, rfl, H6.out⟩
end Go.Proofs.Ytbfkacnpbelmlaa
