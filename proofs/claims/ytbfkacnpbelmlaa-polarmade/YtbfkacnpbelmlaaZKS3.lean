/- Texts of ours, one behind the other: KS3 KS4. -/
import Derived.Test.YtbfkacnpbelmlaaZKS1
import Derived.Test.YtbfkacnpbelmlaaZR5
import Derived.Test.YtbfkacnpbelmlaaZKI1
/- Polar: the chances: halved, checkLevels, Chances. -/
namespace Go.Proofs.Ytbfkacnpbelmlaa
open Go.RowKit Go.Sort

/-- The chances of a further level. -/
def hvi (A : Int) (l : List Int) : List Int := l.flatMap fun v => [2 * v * A - v * v, v * v]
theorem hvi_snoc (A : Int) (l : List Int) (v : Int) : hvi A (l ++ [v]) = hvi A l ++ [2 * v * A - v * v, v * v] := by
  unfold hvi
  rw [List.flatMap_append]; rfl
theorem hvi_len (A : Int) : ∀ l : List Int, (hvi A l).length = l.length * 2
  | [] => rfl
  | a :: l => by
    show ([2 * a * A - a * a, a * a] ++ hvi A l).length = _
    rw [List.length_append, hvi_len A l]; simp; omega
def lsI (m : Nat) : List Int := (lss m).map fun x => ((x : Nat) : Int)
theorem lsI_chk : ((List.range 5).all fun m => decide (hvi ((2 ^ 2 ^ m : Nat) : Int) (lsI m) = lsI (m + 1)) && (lsI m).all fun x => decide (0 ≤ x) && decide (x ≤ 65536)) = true := by decide +kernel
theorem lsI_next {m : Nat} (hm : m < 5) : hvi ((2 ^ 2 ^ m : Nat) : Int) (lsI m) = lsI (m + 1) ∧ ∀ x, x ∈ lsI m → 0 ≤ x ∧ x ≤ 65536 := by
  have h := List.all_eq_true.1 lsI_chk m (List.mem_range.2 hm)
  rw [Bool.and_eq_true, decide_eq_true_eq] at h
  refine ⟨h.1, fun x hx => ?_⟩
  have := List.all_eq_true.1 h.2 x hx
  rw [Bool.and_eq_true, decide_eq_true_eq, decide_eq_true_eq] at this
  exact this
theorem lsI_len {m : Nat} (hm : m ≤ 5) : (lsI m).length = 2 ^ m := by unfold lsI; rw [List.length_map, lss_len hm]
theorem list_zl : ∀ l : List Int, l = zl l.length (fun i => l.getD i 0) := fun l => by
  apply List.ext_getElem?
  intro i
  by_cases h : i < l.length
  · rw [zl_get _ _ i h, List.getElem?_eq_getElem h, List.getD_eq_getElem?_getD, List.getElem?_eq_getElem h]; rfl
  · rw [List.getElem?_eq_none (by omega), List.getElem?_eq_none (by rw [zl_len]; omega)]

set_option maxHeartbeats 4000000 in
set_option maxRecDepth 100000 in
theorem halved_any {ao : Option Addr} {n ca A : Nat} {x : Nat → Int} {w : World} (hX : SlZ ao n x w) (hl : LtB ao w.heap.size) (hn : n ≤ 64) (hA : A ≤ 65536) (hx : ∀ i, i < n → 0 ≤ x i ∧ x i ≤ 65536) :
    Calls Try.prog 25 #[.slice ao n ca, .int .i64 (A : Nat)] w fun e w' => ∃ v, e = .returned v ∧ OwnI w.heap.size v (hvi (A : Int) (zl n x)) w' ∧ Below w.heap.size w w' := by
  have HX : Hid (SlZ ao n x w ∧ LtB ao w.heap.size ∧ ∀ i, i < n → 0 ≤ x i ∧ x i ≤ 65536) := ⟨hX, hl, hx⟩
  clear hX hl hx
  go_enter Try.func25, Try.ntmps25
  go_wp2
  go_loopw [5, 10] (fun vs vi wr => ∃ t : Nat, t ≤ n ∧ vi = .int .i64 (t : Nat) ∧ Hid (OwnI w.heap.size vs (hvi (A : Int) (zl t x)) wr ∧ Below w.heap.size w wr)) (fun _ vi _ => n - (intOf vi).toNat)
  case atStart => exact ⟨0, by omega, rfl, OwnI.nil _ _, Below.refl _ _⟩
  case round =>
    obtain ⟨t, ht, rfl, HG⟩ := hrel
    rename World => wr
    have hsz := HG.out.2.size
    by_cases hlt : t < n
    · have hib : (t : Int) < (n : Int) := by omega
      have hib0 : (0 : Int) ≤ (t : Int) := by omega
      obtain ⟨v, hv⟩ : ∃ v : Nat, (v : Int) = x t := ⟨(x t).toNat, by have := (HX.out.2.2 t hlt).1; omega⟩
      have hvb : v ≤ 65536 := by have := (HX.out.2.2 t hlt).2; omega
      obtain ⟨b1, o1, e1, q1⟩ := HX.out.1 t hlt
      have l1 := HX.out.2.1 _ e1
      have c1 : wr.cell? ⟨b1, o1 + t, none⟩ = some (.int .i64 (v : Nat)) := by rw [hv]; exact (HG.out.2.cell (p := ⟨b1, o1 + t, none⟩) l1).trans q1
      obtain ⟨V2, hV2⟩ : ∃ V2, V2 = 2 * v := ⟨_, rfl⟩
      have hV2i : (2 : Int) * (v : Int) = (V2 : Int) := by omega
      obtain ⟨P, hP⟩ : ∃ P, P = V2 * A := ⟨_, rfl⟩
      have hPi : (V2 : Int) * (A : Int) = (P : Int) := by rw [hP]; simp
      have hPb : P ≤ 8589934592 := by rw [hP]; exact Nat.le_trans (Nat.mul_le_mul (show V2 ≤ 131072 by omega) hA) (by decide)
      obtain ⟨Q2, hQ2⟩ : ∃ Q2, Q2 = v * v := ⟨_, rfl⟩
      have hQi : (v : Int) * (v : Int) = (Q2 : Int) := by rw [hQ2]; simp
      have hQb : Q2 ≤ 4294967296 := by rw [hQ2]; exact Nat.le_trans (Nat.mul_le_mul hvb hvb) (by decide)
      have hV2b : V2 ≤ 131072 := by omega
      have HE : Hid (hvi (A : Int) (zl (t + 1) x) = hvi (A : Int) (zl t x) ++ zl 2 (fun j => if j = 0 then (P : Int) - (Q2 : Int) else (Q2 : Int)) ∧ (hvi (A : Int) (zl t x)).length ≤ 128) := by
        refine ⟨?_, by rw [hvi_len, zl_len]; omega⟩
        rw [zl_succ, hvi_snoc, ← hv, hV2i, hPi, hQi]
        rfl
      subst e1
      clear hv hV2 hP hQ2 q1 l1
      go_wp2_with (at_builtin; refine append_ints rfl _ _ rfl w.heap.size _ (hvi (A : Int) (zl t x)) rfl (HG.out.1.alloc _) (some ⟨wr.heap.size, 0, none⟩) 2 2 (fun j => if j = 0 then (P : Int) - (Q2 : Int) else (Q2 : Int)) rfl ?_ (fun h => by cases h) ?_ ?_ ?_)
      · intro j hj
        refine ⟨_, 0, rfl, ?_⟩
        have : j = 0 ∨ j = 1 := by omega
        rcases this with rfl | rfl
        · simp
        · simp
      · have := HE.out.2; omega
      · simp; omega
      intro v3 w3 hown3 hgrow3
      have HY : Hid (OwnI w.heap.size v3 (hvi (A : Int) (zl (t + 1) x)) w3 ∧ Below w.heap.size w w3) := by
        refine ⟨?_, (HG.out.2.alloc hsz _).grown hgrow3 (by simp; omega) (fun k hk => (HG.out.1.lt k hk).1)⟩
        rw [HE.out.1]; exact hown3
      clear hown3 hgrow3 c1
      go_wp2
      go_roundw
      case rel => exact ⟨t + 1, by omega, by go_num, HY.out⟩
      case measure => simp [intOf]; omega
    · have hib : ¬ (t : Int) < (n : Int) := by omega
      have hie : t = n := by omega
      subst hie
      go_wp2
      go_ret
      exact ⟨_, rfl, HG.out⟩

set_option maxHeartbeats 2000000 in
theorem checkLevels_any (m : Int) (w : World) :
    Calls Try.prog 24 #[.int .i64 m] w fun e w' => e = .returned (.int .i64 (if m < 0 ∨ 5 < m then 4 else 0)) ∧ w' = w := by
  by_cases h0 : m < 0
  · rw [if_pos (Or.inl h0)]
    go_enter Try.func24, Try.ntmps24
    go_wp2
    go_ret
    exact ⟨rfl, rfl⟩
  · by_cases h5 : 5 < m
    · rw [if_pos (Or.inr h5)]
      go_enter Try.func24, Try.ntmps24
      go_wp2
      go_ret
      exact ⟨rfl, rfl⟩
    · rw [if_neg (by omega)]
      go_enter Try.func24, Try.ntmps24
      go_wp2
      go_ret
      exact ⟨rfl, rfl⟩
end Go.Proofs.Ytbfkacnpbelmlaa

/- Polar: Chances. -/
namespace Go.Proofs.Ytbfkacnpbelmlaa
open Go.RowKit Go.Sort

theorem pow16 {k : Nat} (hk : k ≤ 4) : 2 ^ k ≤ 16 := Nat.le_trans (Nat.pow_le_pow_right (by omega) hk) (by decide)
theorem pow2p {k : Nat} (hk : k ≤ 4) : 2 ^ 2 ^ k ≤ 65536 := Nat.le_trans (Nat.pow_le_pow_right (by omega) (pow16 hk)) (by decide)
theorem lsI_at {m : Nat} (hm : m < 5) (i : Nat) (hi : i < (lsI m).length) : 0 ≤ (lsI m).getD i 0 ∧ (lsI m).getD i 0 ≤ 65536 := by
  refine (lsI_next hm).2 _ ?_
  simp [List.getD_eq_getElem?_getD, hi]

theorem OwnI.argOf {base n : Nat} {v : Value} {l : List Int} {w : World} (h : OwnI base v l w) (hl : l.length = n) : ∃ ao ca, v = .slice ao n ca ∧ ArgL ao n ca (fun i => l.getD i 0) w := by
  subst hl
  have h2 : OwnI base v (zl l.length fun i => l.getD i 0) w := by rw [← list_zl l]; exact h
  exact h2.argL
theorem halved_ls {A P ca : Nat} {ao : Option Addr} {l l2 : List Int} {w : World} (hx : hvi (A : Int) l = l2 ∧ l.length = P ∧ ∀ i, i < P → 0 ≤ l.getD i 0 ∧ l.getD i 0 ≤ 65536) (hP : P ≤ 16) (hA : A ≤ 65536) (hX : ArgL ao P ca (fun i => l.getD i 0) w) :
    Calls Try.prog 25 #[.slice ao P ca, .int .i64 (A : Nat)] w fun e w' => ∃ v, e = .returned v ∧ OwnI w.heap.size v l2 w' ∧ Below w.heap.size w w' := by
  refine (halved_any hX.sl hX.lt (by omega) hA hx.2.2).mono ?_
  rintro e w' ⟨v, rfl, ho, hb⟩
  refine ⟨v, rfl, ?_, hb⟩
  have e : zl P (fun i => l.getD i 0) = l := by rw [← hx.2.1]; exact (list_zl l).symm
  rw [e, hx.1] at ho
  exact ho
theorem lsI_step {t A P : Nat} (ht : t < 5) (hA : A = 2 ^ P) (hP : P = 2 ^ t) : hvi (A : Int) (lsI t) = lsI (t + 1) ∧ (lsI t).length = P ∧ ∀ i, i < P → 0 ≤ (lsI t).getD i 0 ∧ (lsI t).getD i 0 ≤ 65536 := by
  have hl : (lsI t).length = P := by rw [hP]; exact lsI_len (by omega)
  refine ⟨by rw [hA, hP]; exact (lsI_next ht).1, hl, fun i hi => lsI_at ht i (by omega)⟩

set_option maxHeartbeats 4000000 in
set_option maxRecDepth 100000 in
theorem chances_err {m : Int} (hm : m < 0 ∨ 5 < m) (w : World) :
    Calls Try.prog 7 #[.int .i64 m] w fun e w' => e = .returned (.tuple #[.slice none 0 0, .int .i64 4]) ∧ w' = w := by
  have HC : Hid (Calls Try.prog 24 #[.int .i64 m] w fun e w' => e = .returned (.int .i64 4) ∧ w' = w) := by
    have := checkLevels_any m w
    rw [if_pos hm] at this; exact this
  clear hm
  go_enter Try.func7, Try.ntmps7
  go_wp2_with fail
  refine HC.out.mono ?_
  rintro e w' ⟨rfl, hw⟩
  have hw := hw.symm
  subst hw
  go_wp2
  go_ret2
  exact ⟨rfl, rfl⟩

set_option maxHeartbeats 4000000 in
set_option maxRecDepth 100000 in
theorem chances_ok {m : Nat} (hm : m ≤ 5) (w : World) :
    Calls Try.prog 7 #[.int .i64 (m : Nat)] w fun e w' => ∃ v, e = .returned (.tuple #[v, .int .i64 0]) ∧ OwnI w.heap.size v (lsI m) w' ∧ Below w.heap.size w w' := by
  have HC : Hid (Calls Try.prog 24 #[.int .i64 (m : Nat)] w fun e w' => e = .returned (.int .i64 0) ∧ w' = w) := by
    have := checkLevels_any (m : Int) w
    rw [if_neg (by omega)] at this; exact this
  go_enter Try.func7, Try.ntmps7
  go_wp2_with fail
  refine HC.out.mono ?_
  rintro e w' ⟨rfl, hw⟩
  have hw := hw.symm
  subst hw
  have H0 : Hid (OwnI w.heap.size (.slice (some ⟨w.heap.size, 0, none⟩) 1 1) (lsI 0) (w.alloc (.cells #[.int .i64 1] 3)) ∧ Below w.heap.size w (w.alloc (.cells #[.int .i64 1] 3))) := ⟨ownI_lit w [1] (by decide), (Below.refl _ _).alloc (Nat.le_refl _) _⟩
  clear HC
  go_wp2
  go_loopw [5, 14] (fun vs vi wr => ∃ t : Nat, t ≤ m ∧ vi = .int .i64 (t : Nat) ∧ Hid (OwnI w.heap.size vs (lsI t) wr ∧ Below w.heap.size w wr)) (fun _ vi _ => m - (intOf vi).toNat)
  case atStart => exact ⟨0, by omega, rfl, H0.out⟩
  case round =>
    obtain ⟨t, ht, rfl, HG⟩ := hrel
    clear H0
    rename World => wr
    by_cases hlt : t < m
    · have hib : (t : Int) < (m : Int) := by omega
      have ht4 : t ≤ 4 := by omega
      obtain ⟨P, hP⟩ : ∃ P, P = 2 ^ t := ⟨_, rfl⟩
      have hP16 : P ≤ 16 := by rw [hP]; exact pow16 ht4
      have hPi : (2 : Int) ^ t = (P : Int) := by rw [hP]; simp
      have hPw : IntKind.u64.wrap (P : Int) = (P : Int) := wrap_u64 (by omega)
      obtain ⟨A, hA⟩ : ∃ A, A = 2 ^ P := ⟨_, rfl⟩
      have hAb : A ≤ 65536 := by rw [hA, hP]; exact pow2p ht4
      have hAi : (2 : Int) ^ P = (A : Int) := by rw [hA]; simp
      have hAw : IntKind.i64.wrap (A : Int) = (A : Int) := wrap_to rfl (by omega)
      have hst := lsI_step (show t < 5 by omega) hA hP
      obtain ⟨l, hl⟩ : ∃ l, l = lsI t := ⟨_, rfl⟩
      obtain ⟨l2, hl2⟩ : ∃ l2, l2 = lsI (t + 1) := ⟨_, rfl⟩
      rw [← hl, ← hl2] at hst
      rw [← hl] at HG
      obtain ⟨ao, ca, hv, hA1⟩ := HG.out.1.argOf hst.2.1
      have HH : Hid (Calls Try.prog 25 #[.slice ao P ca, .int .i64 (A : Nat)] _ fun e w' => ∃ v, e = .returned v ∧ OwnI wr.heap.size v l2 w' ∧ Below wr.heap.size wr w') := halved_ls hst hP16 hAb hA1
      have HL2 : Hid (l2 = lsI (t + 1)) := hl2
      clear hA hP hA1 hst hl hl2
      subst hv
      have hsz := HG.out.2.size
      go_wp2_with fail
      refine HH.out.mono ?_
      rintro e w3 ⟨v3, rfl, ho3, hb3⟩
      have H3 : Hid (OwnI w.heap.size v3 (lsI (t + 1)) w3 ∧ Below w.heap.size w w3) := ⟨by rw [← HL2.out]; exact ho3.mono hsz, bel_up' HG.out.2 hb3⟩
      clear ho3 hb3 HH
      go_wp2
      go_roundw
      case rel => exact ⟨t + 1, by omega, by go_num, H3.out⟩
      case measure => simp [intOf]; omega
    · have hib : ¬ (t : Int) < (m : Int) := by omega
      have hie : t = m := by omega
      subst hie
      go_wp2
      go_ret2
      exact ⟨_, rfl, HG.out⟩

end Go.Proofs.Ytbfkacnpbelmlaa
