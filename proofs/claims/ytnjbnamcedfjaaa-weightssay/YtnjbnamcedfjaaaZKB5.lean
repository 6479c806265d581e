/- Weights: the program's together and Dual (printed by make/kb5.py). -/
import Derived.Test.YtnjbnamcedfjaaaZKA7
import Derived.Test.YtnjbnamcedfjaaaZS22
import Derived.Test.YtnjbnamcedfjaaaZW4
import Derived.Test.YtnjbnamcedfjaaaZV7
namespace Go.Proofs.Ytnjbnamcedfjaaa
open Go.RowKit Go.Sort

theorem enters_t1 : ∀ args w, (callFunc 107 args).run Try.prog w = .ok (.enter 107 args) w :=
  enters_of Try.func107 (by kernel_rfl) rfl
theorem enters_d1 : ∀ args w, (callFunc 83 args).run Try.prog w = .ok (.enter 83 args) w :=
  enters_of Try.func83 (by kernel_rfl) rfl
theorem t1_any (j : Nat) (w : World) : Calls Try.prog 107 #[.int .i64 (j : Nat)] w fun e w' => e = .returned (.int .i64 1) ∧ w' = w := by
  go_enter Try.func107, Try.ntmps107
  go_wp2
  go_ret
  exact ⟨rfl, rfl⟩
set_option maxHeartbeats 2000000 in
theorem d1_any (q n k x : Nat) (hq : 2 ≤ q) (hq2 : q ≤ 64) (hp : q ^ n ≤ 1073741824) (hk : k ≤ n) (hx : x ≤ n) {Bq Bn Bk : Nat} {w : World} (hcq : w.cell? ⟨Bq, 0, none⟩ = some (.int .i64 (q : Nat))) (hcn : w.cell? ⟨Bn, 0, none⟩ = some (.int .i64 (n : Nat))) (hcx : w.cell? ⟨Bk, 0, none⟩ = some (.int .i64 (k : Nat))) :
    Calls Try.prog 83 #[.int .i64 (x : Nat), .pointer (some ⟨Bq, 0, none⟩), .pointer (some ⟨Bn, 0, none⟩), .pointer (some ⟨Bk, 0, none⟩)] w fun e w' => e = .returned (.int .i64 (kv q n k x)) ∧ w' = w := by
  have HC : Hid (Calls Try.prog 35 #[.int .i64 (q : Nat), .int .i64 (n : Nat), .int .i64 (k : Nat), .int .i64 (x : Nat)] w fun e w' => e = .returned (.int .i64 (kv q n k x)) ∧ w' = w) := krawv_any q n k x hq hq2 hp hk hx w
  clear hp
  go_enter Try.func83, Try.ntmps83
  go_wp2_with (go_at_call 35; refine HC.out.mono ?_; rintro e w' ⟨rfl, hw⟩; have hw := hw.symm; subst hw)
  go_ret
  exact ⟨rfl, rfl⟩

/-- What together tells of an error. -/
def tge (f : Nat → Int) (M N : Nat) : Int := if outB f M N = true then 2 else if (M : Int) < tsm f N then 2 else if tsm f N = 0 then 5 else 0
/-- The sum that together tells. -/
def tgv (f : Nat → Int) (M N : Nat) : Int := if tge f M N = 0 then tsm f N else 0
theorem tge_ok {f : Nat → Int} {M N : Nat} (h : tge f M N = 0) : outB f M N = false ∧ tsm f N ≤ (M : Int) ∧ tsm f N ≠ 0 := by
  unfold tge at h
  by_cases h1 : outB f M N = true
  · rw [if_pos h1] at h; cases h
  · rw [if_neg h1] at h
    by_cases h2 : (M : Int) < tsm f N
    · rw [if_pos h2] at h; cases h
    · rw [if_neg h2] at h
      by_cases h3 : tsm f N = 0
      · rw [if_pos h3] at h; cases h
      · exact ⟨by simpa using h1, by omega, h3⟩
set_option maxHeartbeats 2000000 in
set_option maxRecDepth 100000 in
theorem tog_any {ao : Option Addr} {N cap M : Nat} {f : Nat → Int} {w : World} (hX : Arg ao N cap f w) (hN : N ≤ 100) (hM : M ≤ 1073741824) :
    Calls Try.prog 82 #[.slice ao N cap, .int .i64 (M : Nat)] w fun e w' => e = .returned (.tuple #[.int .i64 (tgv f M N), .int .i64 (tge f M N)]) ∧ Below w.heap.size w w' := by
  obtain ⟨o, ho⟩ : ∃ o, o = outB f M N := ⟨_, rfl⟩
  have HX : Hid (Arg ao N cap f w) := hX
  have HO : Hid (Calls Try.prog 48 #[.slice ao N cap, .int .i64 (M : Nat)] w fun e w' => e = .returned (.bool o) ∧ Below w.heap.size w w') := by
    show Calls _ _ _ _ _
    rw [ho]
    exact outside_any (M : Nat) hX.sl hX.lt hX.few
  clear hX
  go_enter Try.func82, Try.ntmps82
  go_wp2_with fail
  refine HO.out.mono ?_
  rintro e w1 ⟨rfl, hb⟩
  have H1 : Hid (Below w.heap.size w w1 ∧ Arg ao N cap f w1) := ⟨hb, HX.out.below hb⟩
  clear hb HO
  cases o
  · have hin := outB_no ho.symm
    obtain ⟨S, hS⟩ : ∃ S, S = tsm f N := ⟨_, rfl⟩
    have hS0 : 0 ≤ S := by rw [hS]; exact tsm_nn (fun j hj => (hin j hj).1) N (Nat.le_refl _)
    have hSb : S ≤ 107374182400 := by
      have h1 := tsm_cap (M := M) (fun j hj => (hin j hj).2) N (Nat.le_refl _)
      have h2 : N * M ≤ 100 * 1073741824 := Nat.mul_le_mul hN hM
      rw [hS]
      omega
    have HT : Hid (Calls Try.prog 50 #[.slice ao N cap, .func (.func 107) #[] #[]] w1 fun e w' => e = .returned (.int .i64 S) ∧ w' = w1) := by
      show Calls _ _ _ _ _
      rw [hS]
      refine wtimes_any (K := fun _ => 1) enters_t1 H1.out.2.sl hN (fun j hj => ?_) (fun r hr => ?_) (fun j hj => ?_)
      · have := hin j hj
        rw [Int.mul_one]
        omega
      · have h1 := vsm_bound (K := fun _ => 1) (B := 1) (fun j hj => (hin j hj).1) (fun j hj => by simp) r hr
        have h2 := tsm_cap (M := M) (fun j hj => (hin j hj).2) r hr
        have h3 : r * M ≤ 100 * 1073741824 := Nat.mul_le_mul (by omega) hM
        omega
      · exact t1_any j w1
    have HE : Hid (tge f M N = if (M : Int) < S then 2 else if S = 0 then 5 else 0) := by
      show tge f M N = _
      unfold tge
      rw [← ho, hS, if_neg (by simp)]
    have HS : Hid (S = tsm f N) := hS
    clear hin hS ho
    by_cases hg : (M : Int) < S
    · have hg2 : S > (M : Int) := hg
      have HR : Hid (tge f M N = 2) := by show _ = _; rw [HE.out, if_pos hg]
      go_wp2_with (go_at_call 50; refine HT.out.mono ?_; rintro e w2 ⟨rfl, hw⟩; have hw := hw.symm; subst hw)
      go_ret2
      exact ⟨by unfold tgv; rw [HR.out]; rfl, H1.out.1⟩
    · have hg2 : ¬ S > (M : Int) := hg
      by_cases h0 : S = 0
      · have HR : Hid (tge f M N = 5) := by show _ = _; rw [HE.out, if_neg hg, if_pos h0]
        subst h0
        go_wp2_with (go_at_call 50; refine HT.out.mono ?_; rintro e w2 ⟨rfl, hw⟩; have hw := hw.symm; subst hw)
        go_ret2
        exact ⟨by unfold tgv; rw [HR.out]; rfl, H1.out.1⟩
      · have HR : Hid (tge f M N = 0) := by show _ = _; rw [HE.out, if_neg hg, if_neg h0]
        have hz : (S == 0) = false := by rw [beq_eq_false_iff_ne]; exact h0
        go_wp2_with (go_at_call 50; refine HT.out.mono ?_; rintro e w2 ⟨rfl, hw⟩; have hw := hw.symm; subst hw)
        go_ret2
        exact ⟨by unfold tgv; rw [HR.out, if_pos rfl, ← HS.out]; rfl, H1.out.1⟩
  · have HR : Hid (tge f M N = 2) := by show tge f M N = 2; unfold tge; rw [if_pos ho.symm]
    clear ho
    go_wp2
    go_ret2
    exact ⟨by unfold tgv; rw [HR.out]; rfl, H1.out.1⟩

/-- The boxes of Dual. -/
def duw (w : World) (q n : Int) : World := (w.alloc (.cells #[.int .i64 q] 3)).alloc (.cells #[.int .i64 n] 3)
theorem duw_size (w : World) (q n : Int) : (duw w q n).heap.size = w.heap.size + 2 := by unfold duw; simp
theorem duw_below (w : World) (q n : Int) : Below w.heap.size w (duw w q n) := by
  unfold duw
  exact ((Below.refl _ _).alloc (Nat.le_refl _) _).alloc (by simp) _
theorem duw_cells (w : World) (q n : Int) : (duw w q n).cell? ⟨w.heap.size, 0, none⟩ = some (.int .i64 q) ∧ (duw w q n).cell? ⟨w.heap.size + 1, 0, none⟩ = some (.int .i64 n) := by
  unfold duw
  obtain ⟨w1, h1⟩ : ∃ w1, w1 = w.alloc (.cells #[.int .i64 q] 3) := ⟨_, rfl⟩
  have s1 : w1.heap.size = w.heap.size + 1 := by rw [h1]; simp
  have c1 : w1.cell? ⟨w.heap.size, 0, none⟩ = some (.int .i64 q) := by rw [h1]; simp
  rw [← h1]
  have hb : Below w1.heap.size w1 (w1.alloc (.cells #[.int .i64 n] 3)) := (Below.refl _ _).alloc (Nat.le_refl _) _
  refine ⟨((bcell hb).1 w.heap.size 0 (by omega)).trans c1, ?_⟩
  rw [← s1]
  simp

set_option maxHeartbeats 2000000 in
set_option maxRecDepth 100000 in
theorem wD_err (q e0 : Int) (h0 : e0 ≠ 0) (ao : Option Addr) (N cap : Nat) (hN : N ≤ 1000) {w : World} (hC : ∀ wx, Calls Try.prog 11 #[.int .i64 q, .int .i64 ((N : Int) - 1)] wx fun e w' => e = .returned (.int .i64 e0) ∧ Below wx.heap.size wx w') :
    Calls Try.prog 45 #[.int .i64 q, .slice ao N cap] w fun e w' => e = .returned (.tuple #[.slice none 0 0, .int .i64 e0]) ∧ Below w.heap.size w w' := by
  obtain ⟨wa, hwa⟩ : ∃ wa, wa = duw w q ((N : Int) - 1) := ⟨_, rfl⟩
  have HC : Hid (Calls Try.prog 11 #[.int .i64 q, .int .i64 ((N : Int) - 1)] wa fun e w' => e = .returned (.int .i64 e0) ∧ Below wa.heap.size wa w') := hC wa
  have HA : Hid (Below w.heap.size w wa) := by rw [hwa]; exact duw_below _ _ _
  have h1 : (e0 != 0) = true := bne_iff_ne.2 h0
  have c4 := (duw_cells w q ((N : Int) - 1)).1
  have c5 := (duw_cells w q ((N : Int) - 1)).2
  rw [← hwa] at c4 c5
  unfold duw at hwa
  clear hC
  go_enter Try.func45, Try.ntmps45
  go_wp2_with fail
  rw [← hwa]
  refine HC.out.mono ?_
  rintro e w1 ⟨rfl, hb⟩
  have H1 : Hid (Below w.heap.size w w1) := bel_up' HA.out hb
  clear hb
  go_wp2
  go_ret2
  exact ⟨rfl, H1.out⟩
theorem RowZ.lt {g N : Nat} {z : Nat → Int} {w : World} (h : RowZ g N z w) : g < w.heap.size := by
  obtain ⟨cap, f, h1, h2, h3⟩ := h
  exact h1.lt

set_option maxHeartbeats 4000000 in
set_option maxRecDepth 100000 in
theorem wD_tog {q n : Nat} (hq : 2 ≤ q) (hq2 : q ≤ 64) (hp : q ^ n ≤ 1073741824) {ao : Option Addr} {cap : Nat} {f : Nat → Int} (hE : tge f (q ^ n) (n + 1) ≠ 0) {w : World} (hX : Arg ao (n + 1) cap f w) (hC : ∀ wx, Calls Try.prog 11 #[.int .i64 (q : Nat), .int .i64 (n : Nat)] wx fun e w' => e = .returned (.int .i64 0) ∧ Below wx.heap.size wx w') :
    Calls Try.prog 45 #[.int .i64 (q : Nat), .slice ao (n + 1 : Nat) cap] w fun e w' => e = .returned (.tuple #[.slice none 0 0, .int .i64 (tge f (q ^ n) (n + 1))]) ∧ Below w.heap.size w w' := by
  obtain ⟨N, hN0⟩ : ∃ N, N = n + 1 := ⟨_, rfl⟩
  obtain ⟨wa, hwa⟩ : ∃ wa, wa = duw w (q : Nat) (n : Nat) := ⟨_, rfl⟩
  have hn1 : (N : Int) - 1 = (n : Int) := by omega
  have hn2 : (n : Int) + 1 = (N : Int) := by omega
  have hn30 : n ≤ 30 := pow30 hq hp
  have hN31 : N ≤ 31 := by omega
  have HN : Hid (N = n + 1 ∧ (n : Int) + 1 = (N : Int)) := ⟨hN0, hn2⟩
  rw [← hN0] at hX hE ⊢
  have HC : Hid (Calls Try.prog 11 #[.int .i64 (q : Nat), .int .i64 (n : Nat)] wa fun e w' => e = .returned (.int .i64 0) ∧ Below wa.heap.size wa w') := hC wa
  have sa := duw_size w (q : Nat) (n : Nat)
  have c4 := (duw_cells w (q : Nat) (n : Nat)).1
  have c5 := (duw_cells w (q : Nat) (n : Nat)).2
  have hba := duw_below w (q : Nat) (n : Nat)
  rw [← hwa] at c4 c5 sa hba
  have l4 : w.heap.size < wa.heap.size := by omega
  have l5 : w.heap.size + 1 < wa.heap.size := by omega
  have HA : Hid (Below w.heap.size w wa ∧ Arg ao N cap f wa) := ⟨hba, hX.below hba⟩
  unfold duw at hwa
  obtain ⟨P, hP⟩ : ∃ P, P = q ^ n := ⟨_, rfl⟩
  rw [← hP] at hE ⊢
  have HPw : Hid (∀ ww : World, Calls Try.prog 37 #[.int .i64 (q : Nat), .int .i64 (n : Nat)] ww fun e w' => e = .returned (.int .i64 (P : Nat)) ∧ w' = ww) := fun ww => by
    rw [hP]; exact wpow_is q n (by omega) hq2 (by omega) hp ww
  have hPb : P ≤ 1073741824 := by rw [hP]; exact hp
  have HP : Hid (q ^ n ≤ 1073741824) := hp
  clear hC hX hba hP hp hN0 hn2 sa
  go_enter Try.func45, Try.ntmps45
  go_wp2_with fail
  rw [← hwa]
  refine HC.out.mono ?_
  rintro e w1 ⟨rfl, hb⟩
  clear hwa HC
  have hs1 := hb.size
  have c4 := ((bcell hb).1 w.heap.size 0 l4).trans c4
  have c5 := ((bcell hb).1 (w.heap.size + 1) 0 l5).trans c5
  have H1 : Hid (Below w.heap.size w w1 ∧ Arg ao N cap f w1) := ⟨bel_up' HA.out.1 hb, HA.out.2.below hb⟩
  have l4 : w.heap.size < w1.heap.size := by omega
  have l5 : w.heap.size + 1 < w1.heap.size := by omega
  clear hb HA hs1
  go_wp2_with fail
  refine (HPw.out _).mono ?_
  rintro e w2 ⟨rfl, hw⟩
  have hw := hw.symm
  subst hw
  go_wp2_with fail
  refine (tog_any H1.out.2 (by omega) hPb).mono ?_
  rintro e w2 ⟨rfl, hb⟩
  have hs2 := hb.size
  have c4 := ((bcell hb).1 w.heap.size 0 l4).trans c4
  have c5 := ((bcell hb).1 (w.heap.size + 1) 0 l5).trans c5
  have H2 : Hid (Below w.heap.size w w2 ∧ Arg ao N cap f w2) := ⟨bel_up' H1.out.1 hb, H1.out.2.below hb⟩
  have l4 : w.heap.size < w2.heap.size := by omega
  have l5 : w.heap.size + 1 < w2.heap.size := by omega
  clear hb H1 hs2
  unfold tgv
  rw [if_neg hE]
  obtain ⟨E, hEe⟩ : ∃ E, E = tge f P N := ⟨_, rfl⟩
  rw [← hEe] at hE ⊢
  have h1 : (E != 0) = true := bne_iff_ne.2 hE
  have HEe : Hid (E = tge f P N) := hEe
  clear hEe hE
  go_wp2
  go_ret2
  exact ⟨by rw [← HEe.out]; rfl, H2.out.1⟩

theorem RowZ.drewN {g N : Nat} {z : Nat → Int} {w : World} (h : RowZ g N z w) (k : Nat) : RowZ g N z (w.drewN k) := by
  obtain ⟨cap, f, h1, h2, h3⟩ := h
  exact ⟨cap, f, h1.drewN k, h2, h3⟩
/-- The sum that the transform makes of numbers, at k. -/
def dlm (q n : Nat) (f : Nat → Int) (k : Nat) : Int := vsm f (fun x => kv q n k x) (n + 1)
/-- It can be divided. -/
def dgd (m A : Int) : Prop := 0 ≤ m ∧ m.tmod A = 0
/-- What Dual tells of numbers that may be. -/
def DuP (n : Nat) (m : Nat → Int) (A : Int) (w : World) (e : Ending) (w' : World) : Prop := Below w.heap.size w w' ∧ (((∀ k, k ≤ n → dgd (m k) A) ∧ ∃ g cap, e = .returned (.tuple #[.slice (some ⟨g, 0, none⟩) (n + 1 : Nat) cap, .int .i64 0]) ∧ (g < w'.heap.size ∧ cap = n + 1) ∧ RowZ g (n + 1) (fun k => (m k).tdiv A) w') ∨ ((∃ k, k ≤ n ∧ ¬ dgd (m k) A) ∧ e = .returned (.tuple #[.slice none 0 0, .int .i64 3])))
def DuI (N : Nat) (m : Nat → Int) (A : Int) (w2 : World) (vi : Value) (wr : World) : Prop := ∃ k : Nat, k ≤ N ∧ vi = .int .i64 (k : Nat) ∧ Hid ((∀ j, j < k → dgd (m j) A) ∧ RowZ w2.heap.size N (fun j => if j < k then (m j).tdiv A else 0) wr ∧ Below w2.heap.size w2 wr)
theorem trn_of {q n : Nat} {f : Nat → Int} (hq : 2 ≤ q) (hp : q ^ n ≤ 1073741824) (hE : tge f (q ^ n) (n + 1) = 0) (k : Nat) : Trn f (fun x => kv q n k x) (n + 1) (tsm f (n + 1)) := by
  obtain ⟨h1, h2, h3⟩ := tge_ok hE
  have hin := outB_no h1
  have h4 := tsm_nn (fun j hj => (hin j hj).1) (n + 1) (Nat.le_refl _)
  exact ⟨fun j hj => (hin j hj).1, fun j _ => Nat.le_trans (kv_abs hq n k j) hp, rfl, by omega, by omega⟩

set_option maxHeartbeats 4000000 in
set_option maxRecDepth 100000 in
theorem wD_ok {q n : Nat} (hq : 2 ≤ q) (hq2 : q ≤ 64) (hp : q ^ n ≤ 1073741824) {ao : Option Addr} {cap : Nat} {f : Nat → Int} (hE : tge f (q ^ n) (n + 1) = 0) {w : World} (hX : Arg ao (n + 1) cap f w) (hC : ∀ wx, Calls Try.prog 11 #[.int .i64 (q : Nat), .int .i64 (n : Nat)] wx fun e w' => e = .returned (.int .i64 0) ∧ Below wx.heap.size wx w') :
    Calls Try.prog 45 #[.int .i64 (q : Nat), .slice ao (n + 1 : Nat) cap] w (DuP n (dlm q n f) (tsm f (n + 1)) w) := by
  have HT : Hid (∀ k, Trn f (fun x => kv q n k x) (n + 1) (tsm f (n + 1))) := trn_of hq hp hE
  obtain ⟨N, hN0⟩ : ∃ N, N = n + 1 := ⟨_, rfl⟩
  obtain ⟨wa, hwa⟩ : ∃ wa, wa = duw w (q : Nat) (n : Nat) := ⟨_, rfl⟩
  have hn1 : (N : Int) - 1 = (n : Int) := by omega
  have hn2 : (n : Int) + 1 = (N : Int) := by omega
  have hn30 : n ≤ 30 := pow30 hq hp
  have hN31 : N ≤ 31 := by omega
  have HN : Hid (N = n + 1 ∧ (n : Int) + 1 = (N : Int)) := ⟨hN0, hn2⟩
  rw [← hN0] at hX hE ⊢
  have HC : Hid (Calls Try.prog 11 #[.int .i64 (q : Nat), .int .i64 (n : Nat)] wa fun e w' => e = .returned (.int .i64 0) ∧ Below wa.heap.size wa w') := hC wa
  have sa := duw_size w (q : Nat) (n : Nat)
  have c4 := (duw_cells w (q : Nat) (n : Nat)).1
  have c5 := (duw_cells w (q : Nat) (n : Nat)).2
  have hba := duw_below w (q : Nat) (n : Nat)
  rw [← hwa] at c4 c5 sa hba
  have l4 : w.heap.size < wa.heap.size := by omega
  have l5 : w.heap.size + 1 < wa.heap.size := by omega
  have HA : Hid (Below w.heap.size w wa ∧ Arg ao N cap f wa) := ⟨hba, hX.below hba⟩
  unfold duw at hwa
  obtain ⟨P, hP⟩ : ∃ P, P = q ^ n := ⟨_, rfl⟩
  rw [← hP] at hE
  have HPw : Hid (∀ ww : World, Calls Try.prog 37 #[.int .i64 (q : Nat), .int .i64 (n : Nat)] ww fun e w' => e = .returned (.int .i64 (P : Nat)) ∧ w' = ww) := fun ww => by
    rw [hP]; exact wpow_is q n (by omega) hq2 (by omega) hp ww
  have hPb : P ≤ 1073741824 := by rw [hP]; exact hp
  have HP : Hid (q ^ n ≤ 1073741824) := hp
  clear hC hX hba hP hp hN0 hn2 sa
  go_enter Try.func45, Try.ntmps45
  go_wp2_with fail
  rw [← hwa]
  refine HC.out.mono ?_
  rintro e w1 ⟨rfl, hb⟩
  clear hwa HC
  have hs1 := hb.size
  have c4 := ((bcell hb).1 w.heap.size 0 l4).trans c4
  have c5 := ((bcell hb).1 (w.heap.size + 1) 0 l5).trans c5
  have H1 : Hid (Below w.heap.size w w1 ∧ Arg ao N cap f w1) := ⟨bel_up' HA.out.1 hb, HA.out.2.below hb⟩
  have l4 : w.heap.size < w1.heap.size := by omega
  have l5 : w.heap.size + 1 < w1.heap.size := by omega
  clear hb HA hs1
  go_wp2_with fail
  refine (HPw.out _).mono ?_
  rintro e w2 ⟨rfl, hw⟩
  have hw := hw.symm
  subst hw
  go_wp2_with fail
  refine (tog_any H1.out.2 (by omega) hPb).mono ?_
  rintro e w2 ⟨rfl, hb⟩
  have hs2 := hb.size
  have c4 := ((bcell hb).1 w.heap.size 0 l4).trans c4
  have c5 := ((bcell hb).1 (w.heap.size + 1) 0 l5).trans c5
  have H2 : Hid (Below w.heap.size w w2 ∧ Arg ao N cap f w2) := ⟨bel_up' H1.out.1 hb, H1.out.2.below hb⟩
  have l4 : w.heap.size < w2.heap.size := by omega
  have l5 : w.heap.size + 1 < w2.heap.size := by omega
  clear hb H1 hs2
  unfold tgv
  rw [if_pos hE, hE]
  obtain ⟨A, hA⟩ : ∃ A, A = tsm f N := ⟨_, rfl⟩
  have HT2 : Hid (∀ k, Trn f (fun x => kv q n k x) N A) := by
    show ∀ k, Trn _ _ _ _
    rw [hA, HN.out.1]; exact HT.out
  rw [← hA]
  have hAp := (HT2.out 0).pos
  have hAb := (HT2.out 0).le
  have hAne : A ≠ 0 := by omega
  have HA2 : Hid (A = tsm f N) := hA
  clear hE hA HT HPw
  go_wp2_with (first | (at_make; refine make_int rfl _ _ rfl _ N rfl rfl HN.out.2 (by omega) ?_; intro w3 hown3 hgrow3))
  have HR0 : Hid (RowZ w2.heap.size N (fun j => if j < 0 then (dlm q n f j).tdiv A else 0) w3 ∧ Below w2.heap.size w2 w3) := by
    refine ⟨(RowZ.of (row_zeros hown3)).congr (fun k _ => by rw [if_neg (by omega)]; rfl), below_grown hgrow3 (Nat.le_refl _) (fun k hk => by simp at hk)⟩
  clear hown3 hgrow3
  go_loopw [38] (fun vi wr => DuI N (dlm q n f) A w2 vi wr) (fun vi _ => N - (intOf vi).toNat)
  case atStart => exact ⟨0, by omega, rfl, fun j hj => absurd hj (by omega), HR0.out.1, HR0.out.2⟩
  case round =>
    obtain ⟨k, hk, rfl, HI⟩ := hrel
    rename World => wr
    clear HR0
    by_cases hlt : k < N
    · have hkb : (k : Int) < (N : Int) := by omega
      have hk0 : (0 : Int) ≤ (k : Int) := by omega
      have hal : Below w2.heap.size w2 (wr.alloc (.cells #[.int .i64 (k : Nat)] 3)) := HI.out.2.2.alloc HI.out.2.2.size _
      have b4 := ((bcell hal).1 w.heap.size 0 l4).trans c4
      have b5 := ((bcell hal).1 (w.heap.size + 1) 0 l5).trans c5
      have bk : (wr.alloc (.cells #[.int .i64 (k : Nat)] 3)).cell? ⟨wr.heap.size, 0, none⟩ = some (.int .i64 (k : Nat)) := by simp
      have HAl : Hid (RowZ w2.heap.size N (fun j => if j < k then (dlm q n f j).tdiv A else 0) (wr.alloc (.cells #[.int .i64 (k : Nat)] 3)) ∧ Below w2.heap.size w2 (wr.alloc (.cells #[.int .i64 (k : Nat)] 3))) := by
        refine ⟨HI.out.2.1.below ((Below.refl wr.heap.size wr).alloc (Nat.le_refl _) _) HI.out.2.1.lt, hal⟩
      obtain ⟨M, hM⟩ : ∃ M, M = dlm q n f k := ⟨_, rfl⟩
      have HTm : Hid (Calls Try.prog 50 #[.slice ao N cap, .func (.func 83) #[] #[.pointer (some ⟨w.heap.size, 0, none⟩), .pointer (some ⟨w.heap.size + 1, 0, none⟩), .pointer (some ⟨wr.heap.size, 0, none⟩)]] (wr.alloc (.cells #[.int .i64 (k : Nat)] 3)) fun e w' => e = .returned (.int .i64 M) ∧ w' = wr.alloc (.cells #[.int .i64 (k : Nat)] 3)) := by
        show Calls _ _ _ _ _
        rw [hM]
        unfold dlm
        rw [← HN.out.1]
        refine wtimes_any (K := fun x => kv q n k x) enters_d1 (H2.out.2.below hal).sl (by omega) (fun j hj => Nat.le_trans ((HT2.out k).term hj ⟨(HT2.out k).nn j hj, Int.le_refl _⟩) (by omega)) (fun r hr => Nat.le_trans ((HT2.out k).abs r hr) (by omega)) (fun j hj => ?_)
        have e : (#[Value.int .i64 (j : Nat)] ++ #[Value.pointer (some ⟨w.heap.size, 0, none⟩), .pointer (some ⟨w.heap.size + 1, 0, none⟩), .pointer (some ⟨wr.heap.size, 0, none⟩)] : Array Value) = #[.int .i64 (j : Nat), .pointer (some ⟨w.heap.size, 0, none⟩), .pointer (some ⟨w.heap.size + 1, 0, none⟩), .pointer (some ⟨wr.heap.size, 0, none⟩)] := rfl
        rw [e]
        exact d1_any q n k j hq hq2 HP.out (by have := HN.out.1; omega) (by have := HN.out.1; omega) b4 b5 bk
      have hMb : M.natAbs ≤ 1152921504606846976 := by
        rw [hM]; unfold dlm; rw [← HN.out.1]; exact (HT2.out k).abs N (Nat.le_refl _)
      have HM : Hid (M = dlm q n f k) := hM
      clear hM hal
      by_cases hneg : M < 0
      · have HB : Hid (∃ k, k ≤ n ∧ ¬ dgd (dlm q n f k) (tsm f N)) := ⟨k, by have := HN.out.1; omega, fun h => by rw [← HM.out, ← HA2.out] at h; have := h.1; omega⟩
        go_wp2_with (go_at_call 50; refine HTm.out.mono ?_; rintro e w' ⟨rfl, rfl⟩)
        go_ret2
        exact ⟨bel_up' H2.out.1 HAl.out.2, Or.inr ⟨HB.out, rfl⟩⟩
      · obtain ⟨R, hR⟩ : ∃ R, R = Int.tmod M A := ⟨_, rfl⟩
        have hR' : Int.tmod M A = R := hR.symm
        by_cases hr0 : R = 0
        · subst hr0
          obtain ⟨Q, hQ⟩ : ∃ Q, Q = Int.tdiv M A := ⟨_, rfl⟩
          have hQ' : Int.tdiv M A = Q := hQ.symm
          have hQb : 0 ≤ Q ∧ Q ≤ 1152921504606846976 := by
            have h1 : 0 ≤ Q := by rw [hQ]; exact Int.tdiv_nonneg (by omega) (by omega)
            have h2 : Q.natAbs ≤ M.natAbs := by rw [hQ, Int.natAbs_tdiv]; exact Nat.div_le_self _ _
            omega
          have HG : Hid ((∀ j, j < k + 1 → dgd (dlm q n f j) A) ∧ Q = (dlm q n f k).tdiv A) := by
            refine ⟨fun j hj => ?_, by rw [hQ, HM.out]⟩
            by_cases e : j = k
            · subst e
              exact ⟨by rw [← HM.out]; omega, by rw [← HM.out]; exact hR'⟩
            · exact HI.out.1 j (by omega)
          clear hQ hR HM
          go_wp2_with (go_at_call 50; refine HTm.out.mono ?_; rintro e w' ⟨rfl, rfl⟩)
          obtain ⟨wb, hwb⟩ : ∃ wb, wb = wr.alloc (.cells #[.int .i64 (k : Nat)] 3) := ⟨_, rfl⟩
          rw [← hwb] at bk HAl ⊢
          clear hwb HTm b4 b5
          have hfr := HAl.out.1.free k
          have hck := HAl.out.1.cell k hlt
          refine quiet_tail 6 (by kernel_rfl) (by kernel_rfl) ?_
          simp only [List.take_succ_cons, List.take_zero, List.drop_succ_cons, List.drop_zero]
          repeat (go_big_quiet_step (fail))
          refine wpQuiet_nil ?_
          intro _ hw'
          obtain ⟨nq, hw''⟩ := hw'
          subst hw''
          go_wp2
          go_roundw
          case rel =>
            refine ⟨k + 1, by omega, by go_num, HG.out.1, (HAl.out.1.drewN nq).store k _ (fun j _ => ?_), (below_drewN2 HAl.out.2 nq).setCell (Nat.le_refl _) _⟩
            by_cases e : j = k
            · rw [if_pos e, if_pos (by omega), e, ← HG.out.2]
            · rw [if_neg e]
              by_cases e2 : j < k
              · rw [if_pos (by omega), if_pos e2]
              · rw [if_neg (by omega), if_neg e2]
          case measure => simp [intOf]; omega
        · have hrz : (R != 0) = true := bne_iff_ne.2 hr0
          have HB : Hid (∃ k, k ≤ n ∧ ¬ dgd (dlm q n f k) (tsm f N)) := ⟨k, by have := HN.out.1; omega, fun h => by rw [← HM.out, ← HA2.out] at h; have := h.2; omega⟩
          clear hR
          go_wp2_with (go_at_call 50; refine HTm.out.mono ?_; rintro e w' ⟨rfl, rfl⟩)
          go_ret2
          exact ⟨bel_up' H2.out.1 HAl.out.2, Or.inr ⟨HB.out, rfl⟩⟩
    · have hkb : ¬ (k : Int) < (N : Int) := by omega
      have hke : k = N := by omega
      subst hke
      go_wp2
      go_ret2
      refine ⟨bel_up' H2.out.1 HI.out.2.2, Or.inl ⟨fun j hj => by rw [← HA2.out]; exact HI.out.1 j (by have := HN.out.1; omega), w2.heap.size, k, by rw [← HN.out.1]; rfl, ⟨HI.out.2.1.lt, HN.out.1⟩, ?_⟩⟩
      rw [← HN.out.1, ← HA2.out]
      exact HI.out.2.1.congr (fun j hj => if_pos hj)
end Go.Proofs.Ytnjbnamcedfjaaa
