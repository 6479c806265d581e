/- code.Weights where there is none; code.Distance. -/
import Derived.Test.YtpgldgicblhjiaaZKL5
namespace Go.Proofs.Ytpgldgicblhjiaa
open Go.RowKit Go.Sort Go.Shelf

set_option maxHeartbeats 8000000 in
set_option maxRecDepth 100000 in
theorem weights_err (e : Int) (he : e ≠ 0) (q n : Int) {ao : Option Addr} {m ca : Nat} {w : World}
    (hC : ∀ wx, Below w.heap.size w wx → Calls Try.prog 36 #[.agg #[.int .i64 q, .int .i64 n, .slice ao m ca]] wx fun x w' => x = .returned (.tuple #[.agg #[.int .i64 0, .int .i64 0, .slice none 0 0], .int .i64 e]) ∧ Below wx.heap.size wx w') :
    Calls Try.prog 9 #[.agg #[.int .i64 q, .int .i64 n, .slice ao m ca]] w fun x w' => x = .returned (.tuple #[.slice none 0 0, .int .i64 e]) ∧ Below w.heap.size w w' := by
  obtain ⟨w0, hw0⟩ : ∃ w0, w0 = w.alloc (.cells #[.int .i64 q, .int .i64 n, .slice ao m ca] 24) := ⟨_, rfl⟩
  have hb0 : Below w.heap.size w w0 := by rw [hw0]; exact (Below.refl _ _).alloc (Nat.le_refl _) _
  have HS : Hid (Calls Try.prog 36 #[.agg #[.int .i64 q, .int .i64 n, .slice ao m ca]] w0 fun x w' => x = .returned (.tuple #[.agg #[.int .i64 0, .int .i64 0, .slice none 0 0], .int .i64 e]) ∧ Below w0.heap.size w0 w') := hC w0 hb0
  have hz : (e != 0) = true := by rw [bne_iff_ne]; exact he
  refine callsIn_wide.1 (callsIn_of_wp_marks (n := 0) Try.func9 rfl trivial ?_ rfl)
  refine wpIn_wide.2 ?_
  simp only [Try.ntmps9, List.size_toArray, List.length_cons, List.length_nil, Nat.reduceAdd, Nat.reduceSub, Array.replicate_succ, Array.replicate_zero, List.push_toArray, List.append_toArray, List.nil_append, List.cons_append]
  go_wp2_with fail
  rw [← hw0]
  have HB0 : Hid (Below w.heap.size w w0 ∧ RB w.heap.size w0) := ⟨hb0, by rw [hw0]; exact RB.new _ _ _ _⟩
  clear hw0 hb0 hC he
  refine HS.out.mono ?_
  rintro x w1 ⟨rfl, hb1⟩
  have H1 : Hid (Below w.heap.size w w1 ∧ RB w.heap.size w1) := ⟨below_two' HB0.out.1 hb1, HB0.out.2.keep hb1⟩
  clear hb1
  obtain ⟨⟨x0, c0⟩, ⟨x1, c1⟩, ⟨x2, c2⟩, f0, f1, f2⟩ := H1.out.2
  obtain ⟨w2, hw2⟩ : ∃ w2, w2 = laid w1 w.heap.size 0 0 (.slice none 0 0) := ⟨_, rfl⟩
  have HB : Hid (Below w.heap.size w w2) := by rw [hw2]; exact laid_below H1.out.1 (Nat.le_refl _) _ _ _
  unfold laid at hw2
  go_wp2
  rw [← hw2]
  refine ⟨.tuple #[.slice none 0 0, .int .i64 e], by simp [results, Try.results9, go_sem], ?_⟩
  exact ⟨rfl, HB.out⟩

/-- The least place above 0 at which there is something; 0: there is none. -/
def Lwt (c : Nat → Nat) (N d : Nat) : Prop := (d = 0 ∧ ∀ i, 0 < i → i < N → c i = 0) ∨ (0 < d ∧ d < N ∧ 0 < c d ∧ ∀ i, 0 < i → i < d → c i = 0)
theorem Lwt.uniq {c : Nat → Nat} {N d e : Nat} (h : Lwt c N d) (h' : Lwt c N e) : d = e := by
  rcases h with ⟨h1, h2⟩ | ⟨h1, h2, h3, h4⟩
  · rcases h' with ⟨k1, k2⟩ | ⟨k1, k2, k3, k4⟩
    · omega
    · have := h2 e k1 k2; omega
  · rcases h' with ⟨k1, k2⟩ | ⟨k1, k2, k3, k4⟩
    · have := k2 d h1 h2; omega
    · rcases Nat.lt_trichotomy d e with h5 | h5 | h5
      · have := k4 d h1 h5; omega
      · exact h5
      · have := h4 e k1 h5; omega
/-- What Distance tells of a code that may be. -/
def DsP (D : FD) (n m : Nat) (M : Nat → Nat → Nat) (w : World) (x : Ending) (w' : World) : Prop :=
  ∃ k R, Red D n m M k R ∧ Below w.heap.size w w' ∧ ((D.q ^ k ≤ 4096 ∧ ∃ d, Lwt (wcn D R n k (D.q ^ k)) (n + 1) d ∧ x = .returned (.tuple #[.int .i64 (d : Nat), .int .i64 0])) ∨
    (¬ D.q ^ k ≤ 4096 ∧ x = .returned (.tuple #[.int .i64 0, .int .i64 4])))

set_option maxHeartbeats 8000000 in
set_option maxRecDepth 100000 in
theorem distance_none (e : Int) (q n : Int) {ao : Option Addr} {m ca : Nat} {w : World}
    (hC : ∀ wx, Below w.heap.size w wx → Calls Try.prog 9 #[.agg #[.int .i64 q, .int .i64 n, .slice ao m ca]] wx fun x w' => x = .returned (.tuple #[.slice none 0 0, .int .i64 e]) ∧ Below wx.heap.size wx w') :
    Calls Try.prog 10 #[.agg #[.int .i64 q, .int .i64 n, .slice ao m ca]] w fun x w' => x = .returned (.tuple #[.int .i64 0, .int .i64 e]) ∧ Below w.heap.size w w' := by
  obtain ⟨w0, hw0⟩ : ∃ w0, w0 = w.alloc (.cells #[.int .i64 q, .int .i64 n, .slice ao m ca] 24) := ⟨_, rfl⟩
  have hb0 : Below w.heap.size w w0 := by rw [hw0]; exact (Below.refl _ _).alloc (Nat.le_refl _) _
  have HS : Hid (Calls Try.prog 9 #[.agg #[.int .i64 q, .int .i64 n, .slice ao m ca]] w0 fun x w' => x = .returned (.tuple #[.slice none 0 0, .int .i64 e]) ∧ Below w0.heap.size w0 w') := hC w0 hb0
  have HB : Hid (Below w.heap.size w w0) := hb0
  clear hC hb0
  go_enter Try.func10, Try.ntmps10
  go_wp2_with fail
  rw [← hw0]
  clear hw0
  refine HS.out.mono ?_
  rintro x w1 ⟨rfl, hb1⟩
  have HB1 : Hid (Below w.heap.size w w1) := below_two' HB.out hb1
  clear hb1
  go_wp2
  go_loopw [15] (fun vi wr => vi = .int .i64 0 ∧ Hid (wr = w1)) (fun _ _ => 0)
  case atStart => exact ⟨rfl, rfl⟩
  case round =>
    obtain ⟨rfl, HG⟩ := hrel
    rename World => wr
    have hw : wr = w1 := HG.out
    subst hw
    go_wp2
    go_ret2
    exact ⟨rfl, HB1.out⟩

set_option maxHeartbeats 8000000 in
set_option maxRecDepth 100000 in
theorem distance_ok {D : FD} {ao : Option Addr} {m n ca : Nat} {M : Nat → Nat → Nat} {w : World} (hn : n ≤ 64)
    (hS : ∀ wx, Below w.heap.size w wx → Calls Try.prog 9 #[.agg #[.int .i64 D.q, .int .i64 (n : Nat), .slice ao m ca]] wx (WsP D n m M wx)) :
    Calls Try.prog 10 #[.agg #[.int .i64 D.q, .int .i64 (n : Nat), .slice ao m ca]] w (DsP D n m M w) := by
  obtain ⟨w0, hw0⟩ : ∃ w0, w0 = w.alloc (.cells #[.int .i64 D.q, .int .i64 (n : Nat), .slice ao m ca] 24) := ⟨_, rfl⟩
  have hb0 : Below w.heap.size w w0 := by rw [hw0]; exact (Below.refl _ _).alloc (Nat.le_refl _) _
  have HS : Hid (Calls Try.prog 9 #[.agg #[.int .i64 D.q, .int .i64 (n : Nat), .slice ao m ca]] w0 (WsP D n m M w0)) := hS w0 hb0
  have HB : Hid (Below w.heap.size w w0) := hb0
  clear hS hb0
  go_enter Try.func10, Try.ntmps10
  go_wp2_with fail
  rw [← hw0]
  clear hw0
  refine HS.out.mono ?_
  rintro x w1 ⟨k, R, hred, hb1, hx⟩
  have HB1 : Hid (Below w.heap.size w w1 ∧ Red D n m M k R) := ⟨below_two' HB.out hb1, hred⟩
  clear hb1 hred
  rcases hx with ⟨hfew, g, hg, hrow, rfl⟩ | ⟨hmany, rfl⟩
  · obtain ⟨c, hce⟩ : ∃ c, c = wcn D R n k (D.q ^ k) := ⟨_, rfl⟩
    rw [← hce] at hrow
    obtain ⟨n1, hn1⟩ : ∃ n1, n1 = n + 1 := ⟨_, rfl⟩
    rw [← hn1] at hrow ⊢
    have HF : Hid (D.q ^ k ≤ 4096 ∧ Row g n1 c w1 ∧ c = wcn D R n k (D.q ^ k) ∧ n1 = n + 1 ∧ ∀ i, c i ≤ 4096) := ⟨hfew, hrow, hce, hn1, fun i => by rw [hce]; exact Nat.le_trans (wcn_le _ _ _ _ _ _) hfew⟩
    have hn65 : n1 ≤ 65 := by omega
    clear hfew hrow hce hn1 hg
    go_wp2
    go_loopw [15] (fun vi wr => ∃ (i : Nat), i ≤ n1 ∧ vi = .int .i64 (i : Nat) ∧ Hid ((∀ j, 0 < j → j < i → c j = 0) ∧ wr = w1)) (fun vi _ => n1 - (intOf vi).toNat)
    case atStart => exact ⟨0, by omega, rfl, fun j h1 h2 => absurd h2 (by omega), rfl⟩
    case round =>
      obtain ⟨i, hi, rfl, HG⟩ := hrel
      rename World => wr
      have hw : wr = w1 := HG.out.2
      subst hw
      by_cases hlt : i < n1
      · have hib : (i : Int) < (n1 : Int) := by omega
        have hib0 : (0 : Int) ≤ (i : Int) := by omega
        have hcell := HF.out.2.1.cell i hlt
        obtain ⟨y, hy⟩ : ∃ y, y = c i := ⟨_, rfl⟩
        rw [← hy] at hcell
        by_cases h0 : 0 < i
        · have z0 : (0 : Int) < (i : Int) := by omega
          by_cases h1 : 0 < y
          · have z1 : (0 : Int) < (y : Int) := by omega
            have HL : Hid (Lwt (wcn D R n k (D.q ^ k)) (n + 1) i) := by
              show Lwt _ _ _
              rw [← HF.out.2.2.1, ← HF.out.2.2.2.1]; exact Or.inr ⟨h0, hlt, by rw [← hy]; exact h1, HG.out.1⟩
            clear hy h0 h1
            go_wp2
            go_ret2
            exact ⟨k, R, HB1.out.2, HB1.out.1, Or.inl ⟨HF.out.1, i, HL.out, rfl⟩⟩
          · have z1 : ¬ (0 : Int) < (y : Int) := by omega
            have HN : Hid (∀ j, 0 < j → j < i + 1 → c j = 0) := fun j h2 h3 => by
              by_cases e : j = i
              · rw [e]; omega
              · exact HG.out.1 j h2 (by omega)
            clear hy h0 h1
            go_wp2
            go_roundw
            case rel => exact ⟨i + 1, by omega, by go_num, HN.out, by first | rfl | trivial⟩
            case measure => simp [intOf]; omega
        · have z0 : ¬ (0 : Int) < (i : Int) := by omega
          have HN : Hid (∀ j, 0 < j → j < i + 1 → c j = 0) := fun j h2 h3 => absurd h2 (by omega)
          clear hy h0
          go_wp2
          go_roundw
          case rel => exact ⟨i + 1, by omega, by go_num, HN.out, by first | rfl | trivial⟩
          case measure => simp [intOf]; omega
      · have hib : ¬ (i : Int) < (n1 : Int) := by omega
        have hie : i = n1 := by omega
        have HL : Hid (Lwt (wcn D R n k (D.q ^ k)) (n + 1) 0) := by
          show Lwt _ _ _
          rw [← HF.out.2.2.1, ← HF.out.2.2.2.1]; exact Or.inl ⟨rfl, fun j h1 h2 => HG.out.1 j h1 (by omega)⟩
        clear hie
        go_wp2
        go_ret2
        exact ⟨k, R, HB1.out.2, HB1.out.1, Or.inl ⟨HF.out.1, 0, HL.out, rfl⟩⟩
  · have HM : Hid (¬ D.q ^ k ≤ 4096) := hmany
    clear hmany
    go_wp2
    go_loopw [15] (fun vi wr => vi = .int .i64 0 ∧ Hid (wr = w1)) (fun _ _ => 0)
    case atStart => exact ⟨rfl, rfl⟩
    case round =>
      obtain ⟨rfl, HG⟩ := hrel
      rename World => wr
      have hw : wr = w1 := HG.out
      subst hw
      go_wp2
      go_ret2
      exact ⟨k, R, HB1.out.2, HB1.out.1, Or.inr ⟨HM.out, rfl⟩⟩
end Go.Proofs.Ytpgldgicblhjiaa
