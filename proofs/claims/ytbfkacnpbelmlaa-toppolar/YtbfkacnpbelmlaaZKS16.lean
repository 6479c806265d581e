/- Texts of ours, one behind the other: KS16 KS17. -/
import Derived.Test.YtbfkacnpbelmlaaZKS14
/- Polar: Encode where it answers, over what Best and bit.All say. -/
namespace Go.Proofs.Ytbfkacnpbelmlaa
open Go.RowKit Go.Sort

/-- A message's bits at their places, nought elsewhere. -/
def pput (p f : Nat → Nat) : Nat → Nat → Nat
  | 0 => fun _ => 0
  | t + 1 => fun j => if j = p t then f t else pput p f t j
theorem pput_lt {p f : Nat → Nat} : ∀ {n : Nat}, (∀ i, i < n → f i < 2) → ∀ j, pput p f n j < 2
  | 0, _, _ => by show 0 < 2; omega
  | t + 1, h, j => by
    show (if j = p t then f t else pput p f t j) < 2
    by_cases c : j = p t
    · rw [if_pos c]; exact h t (by omega)
    · rw [if_neg c]; exact pput_lt (fun i hi => h i (by omega)) j

set_option maxHeartbeats 2000000 in
set_option maxRecDepth 100000 in
theorem penc_ok {m N n c : Nat} {p f : Nat → Nat} {ao : Option Addr} {w : World} (hm : m ≤ 5) (hN : N = 2 ^ m) (hn : n ≤ N) (hp : ∀ i, i < n → p i < N) (hf : ∀ i, i < n → f i < 2) (hX : SlZ ao n (fun i => ((f i : Nat) : Int)) w) (hl : LtB ao w.heap.size)
    (hB : Calls Try.prog 9 #[.int .i64 (m : Nat), .int .i64 (n : Nat)] w fun x w' => ∃ v, x = .returned (.tuple #[v, .int .i64 0]) ∧ OwnI w.heap.size v (zl n fun i => ((p i : Nat) : Int)) w' ∧ Below w.heap.size w w')
    (hA : ∀ w1, Below w.heap.size w w1 → Calls Try.prog 34 #[.slice ao n c] w1 fun x w' => x = .returned (.bool true) ∧ w' = w1) :
    Calls Try.prog 16 #[.int .i64 (m : Nat), .slice ao n c] w fun x w' => ∃ v, x = .returned (.tuple #[v, .int .i64 0]) ∧ OwnI w.heap.size v (zl N fun i => ((ptr m (pput p f n) i : Nat) : Int)) w' ∧ Below w.heap.size w w' := by
  have HB : Hid (Calls Try.prog 9 #[.int .i64 (m : Nat), .int .i64 (n : Nat)] w fun x w' => ∃ ao ca, x = .returned (.tuple #[.slice ao n ca, .int .i64 0]) ∧ ArgL ao n ca (fun i => ((p i : Nat) : Int)) w' ∧ Below w.heap.size w w') := by
    refine hB.mono ?_
    rintro e w' ⟨v, rfl, h1, h2⟩
    obtain ⟨a1, c1, rfl, hA1⟩ := h1.argL
    exact ⟨a1, c1, rfl, hA1, h2⟩
  have HA : Hid (∀ w1, Below w.heap.size w w1 → Calls Try.prog 34 #[.slice ao n c] w1 fun x w' => x = .returned (.bool true) ∧ w' = w1) := hA
  have HX : Hid ((SlZ ao n (fun i => ((f i : Nat) : Int)) w ∧ LtB ao w.heap.size) ∧ (∀ i, i < n → p i < N) ∧ (∀ i, i < n → f i < 2) ∧ m ≤ 5 ∧ N = 2 ^ m) := ⟨⟨hX, hl⟩, hp, hf, hm, hN⟩
  have hN1 : 1 ≤ N := by rw [hN]; exact Nat.pow_pos (by omega)
  have hNb : N ≤ 32 := by rw [hN]; exact Nat.le_trans (Nat.pow_le_pow_right (by omega) hm) (by decide)
  have hNi : (2 : Int) ^ m = (N : Int) := by rw [hN]; simp
  have hNw : IntKind.i64.wrap (N : Int) = (N : Int) := wrap_to rfl (by omega)
  clear hB hA hX hl hp hf hN
  go_enter Try.func16, Try.ntmps16
  go_wp2_with fail
  refine HB.out.mono ?_
  rintro e w1 ⟨a1, c1, rfl, hA1, hb1⟩
  have H1 : Hid (ArgL a1 n c1 (fun i => ((p i : Nat) : Int)) w1 ∧ Below w.heap.size w w1) := ⟨hA1, hb1⟩
  clear hA1 hb1 HB
  go_wp2_with fail
  refine (HA.out w1 H1.out.2).mono ?_
  rintro e w' ⟨rfl, hw⟩
  have hw := hw.symm
  subst hw
  go_wp2_with (at_make; refine make_int rfl _ _ rfl _ N rfl rfl rfl (by omega) ?_; intro w3 hown3 hgrow3)
  have hrz0 := rowE_zeros hown3
  obtain ⟨g, hg⟩ : ∃ g, g = w1.heap.size := ⟨_, rfl⟩
  rw [← hg] at hrz0
  try rw [← hg]
  have HI0 : Hid (RowE g N (fun _ => 0) w3 ∧ Below w1.heap.size w1 w3 ∧ g = w1.heap.size) := ⟨hrz0, below_grown hgrow3 (Nat.le_refl _) (fun k hk => by cases hk), hg⟩
  clear hown3 hgrow3 hrz0 hg HA
  go_loopw [29] (fun vi wr => ∃ (t : Nat) (oo : Nat → Int), t ≤ n ∧ vi = .int .i64 (t : Nat) ∧ Hid (RowE g N oo wr ∧ (∀ j, oo j = ((pput p f t j : Nat) : Int)) ∧ Below w1.heap.size w1 wr)) (fun vi _ => n - (intOf vi).toNat)
  case atStart => exact ⟨0, _, by omega, rfl, HI0.out.1, fun j => rfl, HI0.out.2.1⟩
  case round =>
    obtain ⟨t, oo, ht, rfl, HG⟩ := hrel
    rename World => wr
    by_cases hlt : t < n
    · have hib : (t : Int) < (n : Int) := by omega
      have hib0 : (0 : Int) ≤ (t : Int) := by omega
      obtain ⟨q, hq⟩ : ∃ q, q = p t := ⟨_, rfl⟩
      obtain ⟨u, hu⟩ : ∃ u, u = f t := ⟨_, rfl⟩
      have hqN : q < N := by rw [hq]; exact HX.out.2.1 t hlt
      have hqi : (q : Int) < (N : Int) := by omega
      have hqi0 : (0 : Int) ≤ (q : Int) := by omega
      obtain ⟨b1, o1, e1, q1⟩ := H1.out.1.sl t hlt
      obtain ⟨b2, o2, e2, q2⟩ := HX.out.1.1 t hlt
      have l1 := H1.out.1.lt _ e1
      have l2 := HX.out.1.2 _ e2
      have k1 : wr.cell? ⟨b1, o1 + t, none⟩ = some (.int .i64 (q : Nat)) := by rw [hq]; exact (HG.out.2.2.cell (p := ⟨b1, o1 + t, none⟩) l1).trans q1
      have k2 : wr.cell? ⟨b2, o2 + t, none⟩ = some (.int .i64 (u : Nat)) := by
        rw [hu]
        have l3 : b2 < w.heap.size := l2
        exact (HG.out.2.2.cell (p := ⟨b2, o2 + t, none⟩) (by have := H1.out.2.size; show b2 < _; omega)).trans ((H1.out.2.cell (p := ⟨b2, o2 + t, none⟩) l3).trans q2)
      have hc0 := RowF.cell HG.out.1 q hqN
      have hf0 := RowF.free HG.out.1 q
      obtain ⟨o0, ho0⟩ : ∃ o0, o0 = oo q := ⟨_, rfl⟩
      rw [← ho0] at hc0
      have HS2 : Hid (RowE g N (fun j => if j = q then (u : Int) else oo j) (wr.setCell ⟨g, q, none⟩ (.int .i64 (u : Nat))) ∧ (∀ j, (fun j => if j = q then (u : Int) else oo j) j = ((pput p f (t + 1) j : Nat) : Int)) ∧ Below w1.heap.size w1 (wr.setCell ⟨g, q, none⟩ (.int .i64 (u : Nat)))) := by
        refine ⟨RowE.store HG.out.1 q _, fun j => ?_, HG.out.2.2.setCell (by have := HI0.out.2.2; show _ ≤ g; omega) _⟩
        show (if j = q then (u : Int) else oo j) = ((if j = p t then f t else pput p f t j : Nat) : Int)
        rw [← hq, ← hu]
        by_cases e : j = q
        · rw [if_pos e, if_pos e]
        · rw [if_neg e, if_neg e]; exact HG.out.2.1 j
      subst e1
      subst e2
      clear ho0 hq hu q1 q2 l1 l2
      go_wp2
      go_roundw
      case rel => exact ⟨t + 1, _, by omega, by go_num, HS2.out⟩
      case measure => simp [intOf]; omega
    · have hib : ¬ (t : Int) < (n : Int) := by omega
      have HT : Hid (Calls Try.prog 33 #[.slice (some ⟨g, 0, none⟩) N N] wr fun e w' => ∃ v, e = .returned v ∧ OwnI w.heap.size v (zl N fun i => ((ptr m (pput p f n) i : Nat) : Int)) w' ∧ Below w.heap.size w w') := by
        have e : t = n := by omega
        subst e
        have hbr := bel_up' H1.out.2 HG.out.2.2
        have hgl : g < wr.heap.size := cell_lt (RowF.cell HG.out.1 0 hN1)
        have hW : Wbt g 0 N (pput p f t) wr := ⟨hgl, fun i hi => by rw [Nat.zero_add, RowF.cell HG.out.1 i hi, HG.out.2.1 i], fun i _ => pput_lt HX.out.2.2.1 i⟩
        have h := transform_any m (c := N) HX.out.2.2.2.1 (by rw [← HX.out.2.2.2.2]; exact hW) (by rw [← HX.out.2.2.2.2]; exact Nat.le_refl _) (by omega)
        rw [← HX.out.2.2.2.2] at h
        refine h.mono ?_
        rintro e w' ⟨v, rfl, h1, h2⟩
        exact ⟨v, rfl, h1.mono hbr.size, bel_up' hbr h2⟩
      clear HG HI0
      go_wp2_with fail
      refine HT.out.mono ?_
      rintro e w6 ⟨v, rfl, h1, h2⟩
      have H6 : Hid (OwnI w.heap.size v (zl N fun i => ((ptr m (pput p f n) i : Nat) : Int)) w6 ∧ Below w.heap.size w w6) := ⟨h1, h2⟩
      clear h1 h2 HT
      go_wp2
      go_ret2
      exact ⟨v, rfl, H6.out⟩
end Go.Proofs.Ytbfkacnpbelmlaa

/- Polar: Encode where a value is no bit. -/
namespace Go.Proofs.Ytbfkacnpbelmlaa
open Go.RowKit Go.Sort

end Go.Proofs.Ytbfkacnpbelmlaa
