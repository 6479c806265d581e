/- Polar: the chances: halved, checkLevels, Chances. -/
import Derived.Test.YtbfkacnpbelmlaaZS63
namespace Go.Proofs.Ytbfkacnpbelmlaa
open Go.RowKit Go.Sort

/-- The chances of a further level. -/
def hvi (A : Int) (l : List Int) : List Int := l.flatMap fun v => [2 * v * A - v * v, v * v]
theorem hvi_snoc (A : Int) (l : List Int) (v : Int) : hvi A (l ++ [v]) = hvi A l ++ [2 * v * A - v * v, v * v] := by
  unfold hvi
  rw [List.flatMap_append]; rfl
theorem hvi_len (A : Int) : ∀ l : List Int, (hvi A l).length = l.length * 2
  | [] => rfl
  | a :: l => by
    show ([2 * a * A - a * a, a * a] ++ hvi A l).length = _
    rw [List.length_append, hvi_len A l]; simp; omega
def lsI (m : Nat) : List Int := (lss m).map fun x => ((x : Nat) : Int)
theorem lsI_chk : ((List.range 5).all fun m => decide (hvi ((2 ^ 2 ^ m : Nat) : Int) (lsI m) = lsI (m + 1)) && (lsI m).all fun x => decide (0 ≤ x) && decide (x ≤ 65536)) = true := by decide +kernel
theorem lsI_next {m : Nat} (hm : m < 5) : hvi ((2 ^ 2 ^ m : Nat) : Int) (lsI m) = lsI (m + 1) ∧ ∀ x, x ∈ lsI m → 0 ≤ x ∧ x ≤ 65536 := by
  have h := List.all_eq_true.1 lsI_chk m (List.mem_range.2 hm)
  rw [Bool.and_eq_true, decide_eq_true_eq] at h
  refine ⟨h.1, fun x hx => ?_⟩
  have := List.all_eq_true.1 h.2 x hx
  rw [Bool.and_eq_true, decide_eq_true_eq, decide_eq_true_eq] at this
  exact this
theorem lsI_len {m : Nat} (hm : m ≤ 5) : (lsI m).length = 2 ^ m := by unfold lsI; rw [List.length_map, lss_len hm]
theorem list_zl : ∀ l : List Int, l = zl l.length (fun i => l.getD i 0) := fun l => by
  apply List.ext_getElem?
  intro i
  by_cases h : i < l.length
  · rw [zl_get _ _ i h, List.getElem?_eq_getElem h, List.getD_eq_getElem?_getD, List.getElem?_eq_getElem h]; rfl
  · rw [List.getElem?_eq_none (by omega), List.getElem?_eq_none (by rw [zl_len]; omega)]

set_option maxHeartbeats 4000000 in
set_option maxRecDepth 100000 in
theorem halved_any {ao : Option Addr} {n ca A : Nat} {x : Nat → Int} {w : World} (hX : SlZ ao n x w) (hl : LtB ao w.heap.size) (hn : n ≤ 64) (hA : A ≤ 65536) (hx : ∀ i, i < n → 0 ≤ x i ∧ x i ≤ 65536) :
    Calls Try.prog 25 #[.slice ao n ca, .int .i64 (A : Nat)] w fun e w' => ∃ v, e = .returned v ∧ OwnI w.heap.size v (hvi (A : Int) (zl n x)) w' ∧ Below w.heap.size w w' := by
  have HX : Hid (SlZ ao n x w ∧ LtB ao w.heap.size ∧ ∀ i, i < n → 0 ≤ x i ∧ x i ≤ 65536) := ⟨hX, hl, hx⟩
  clear hX hl hx
  go_enter Try.func25, Try.ntmps25
  go_wp2
  go_loopw [5, 10] (fun vs vi wr => ∃ t : Nat, t ≤ n ∧ vi = .int .i64 (t : Nat) ∧ Hid (OwnI w.heap.size vs (hvi (A : Int) (zl t x)) wr ∧ Below w.heap.size w wr)) (fun _ vi _ => n - (intOf vi).toNat)
  case atStart => exact ⟨0, by omega, rfl, OwnI.nil _ _, Below.refl _ _⟩
  case round =>
    obtain ⟨t, ht, rfl, HG⟩ := hrel
    rename World => wr
    have hsz := HG.out.2.size
    by_cases hlt : t < n
    · have hib : (t : Int) < (n : Int) := by omega
      have hib0 : (0 : Int) ≤ (t : Int) := by omega
      obtain ⟨v, hv⟩ : ∃ v : Nat, (v : Int) = x t := ⟨(x t).toNat, by have := (HX.out.2.2 t hlt).1; omega⟩
      have hvb : v ≤ 65536 := by have := (HX.out.2.2 t hlt).2; omega
      obtain ⟨b1, o1, e1, q1⟩ := HX.out.1 t hlt
      have l1 := HX.out.2.1 _ e1
      have c1 : wr.cell? ⟨b1, o1 + t, none⟩ = some (.int .i64 (v : Nat)) := by rw [hv]; exact (HG.out.2.cell (p := ⟨b1, o1 + t, none⟩) l1).trans q1
      obtain ⟨V2, hV2⟩ : ∃ V2, V2 = 2 * v := ⟨_, rfl⟩
      have hV2i : (2 : Int) * (v : Int) = (V2 : Int) := by omega
      obtain ⟨P, hP⟩ : ∃ P, P = V2 * A := ⟨_, rfl⟩
      have hPi : (V2 : Int) * (A : Int) = (P : Int) := by rw [hP]; simp
      have hPb : P ≤ 8589934592 := by rw [hP]; exact Nat.le_trans (Nat.mul_le_mul (show V2 ≤ 131072 by omega) hA) (by decide)
      obtain ⟨Q2, hQ2⟩ : ∃ Q2, Q2 = v * v := ⟨_, rfl⟩
      have hQi : (v : Int) * (v : Int) = (Q2 : Int) := by rw [hQ2]; simp
      have hQb : Q2 ≤ 4294967296 := by rw [hQ2]; exact Nat.le_trans (Nat.mul_le_mul hvb hvb) (by decide)
      have hV2b : V2 ≤ 131072 := by omega
      have HE : Hid (hvi (A : Int) (zl (t + 1) x) = hvi (A : Int) (zl t x) ++ zl 2 (fun j => if j = 0 then (P : Int) - (Q2 : Int) else (Q2 : Int)) ∧ (hvi (A : Int) (zl t x)).length ≤ 128) := by
        refine ⟨?_, by rw [hvi_len, zl_len]; omega⟩
        rw [zl_succ, hvi_snoc, ← hv, hV2i, hPi, hQi]
        rfl
      subst e1
      clear hv hV2 hP hQ2 q1 l1
      go_wp2_with (at_builtin; refine append_ints rfl _ _ rfl w.heap.size _ (hvi (A : Int) (zl t x)) rfl (HG.out.1.alloc _) (some ⟨wr.heap.size, 0, none⟩) 2 2 (fun j => if j = 0 then (P : Int) - (Q2 : Int) else (Q2 : Int)) rfl ?_ (fun h => by cases h) ?_ ?_ ?_)
      · intro j hj
        refine ⟨_, 0, rfl, ?_⟩
        have : j = 0 ∨ j = 1 := by omega
        rcases this with rfl | rfl
        · simp
        · simp
      · have := HE.out.2; omega
      · simp; omega
      intro v3 w3 hown3 hgrow3
      have HY : Hid (OwnI w.heap.size v3 (hvi (A : Int) (zl (t + 1) x)) w3 ∧ Below w.heap.size w w3) := by
        refine ⟨?_, (HG.out.2.alloc hsz _).grown hgrow3 (by simp; omega) (fun k hk => (HG.out.1.lt k hk).1)⟩
        rw [HE.out.1]; exact hown3
      clear hown3 hgrow3 c1
      go_wp2
      go_roundw
      case rel => exact ⟨t + 1, by omega, by go_num, HY.out⟩
      case measure => simp [intOf]; omega
    · have hib : ¬ (t : Int) < (n : Int) := by omega
      have hie : t = n := by omega
      subst hie
      go_wp2
      go_ret
      exact ⟨_, rfl, HG.out⟩

set_option maxHeartbeats 2000000 in
theorem checkLevels_any (m : Int) (w : World) :
    Calls Try.prog 24 #[.int .i64 m] w fun e w' => e = .returned (.int .i64 (if m < 0 ∨ 5 < m then 4 else 0)) ∧ w' = w := by
  by_cases h0 : m < 0
  · rw [if_pos (Or.inl h0)]
    go_enter Try.func24, Try.ntmps24
    go_wp2
    go_ret
    exact ⟨rfl, rfl⟩
  · by_cases h5 : 5 < m
    · rw [if_pos (Or.inr h5)]
      go_enter Try.func24, Try.ntmps24
      go_wp2
      go_ret
      exact ⟨rfl, rfl⟩
    · rw [if_neg (by omega)]
      go_enter Try.func24, Try.ntmps24
      go_wp2
      go_ret
      exact ⟨rfl, rfl⟩
end Go.Proofs.Ytbfkacnpbelmlaa
