/- Texts of ours, one behind the other: Z6 Z7 Z8. -/
import Derived.Test.YtcgmllamiaflcaaZZ2
import Derived.Test.YtcgmllamiaflcaaZS11
import Derived.Test.YtcgmllamiaflcaaZU11
/- Whole words, and how many messages there are: the program's checkWhole, messages, digits; the law's wholeWord; the reference's Few. -/
namespace Go.Proofs.Ytcgmllamiaflcaa
open Go.RowKit Go.Sort

def FD.hchk (D : FD) (n : Nat) (z : Nat → Int) (k : Int) (m : Nat) (y : Nat → Int) : Int := if D.wchk n z k m y ≠ 0 then D.wchk n z k m y else if (-1 : Int) ∈ zl m y then 2 else 0
theorem wchk_ok {D : FD} {n m : Nat} {z y : Nat → Int} {k : Int} (h : D.wchk n z k m y = 0) : D.rchk n z k = 0 ∧ m = n ∧ ∀ j, j < m → D.wok (y j) = true := by
  unfold FD.wchk at h
  by_cases h1 : D.rchk n z k = 0
  · rw [if_neg (fun x => x h1)] at h
    by_cases h2 : m = n
    · rw [if_neg (fun x => x h2)] at h
      refine ⟨h1, h2, fun j hj => ?_⟩
      by_cases h3 : D.allW y m = true
      · unfold FD.allW at h3
        cases e : D.wok (y j) with
        | true => rfl
        | false =>
          rw [anyB_yes (p := fun j => !D.wok (y j)) (i := j) (by show (!D.wok (y j)) = true; rw [e]; rfl) m hj] at h3
          cases h3
      · rw [if_neg h3] at h; cases h
    · rw [if_pos h2] at h; cases h
  · rw [if_pos h1] at h; exact absurd h h1
theorem neg_in {D : FD} {m : Nat} {y : Nat → Int} (h : ∀ j, j < m → D.wok (y j) = true) : anyB (fun j => decide (y j < 0)) m = decide ((-1 : Int) ∈ zl m y) := by
  by_cases hm : (-1 : Int) ∈ zl m y
  · rw [decide_eq_true hm]
    unfold zl at hm
    obtain ⟨j, hj, e⟩ := List.mem_map.1 hm
    exact anyB_yes (i := j) (decide_eq_true (by rw [e]; omega)) m (List.mem_range.1 hj)
  · rw [decide_eq_false hm]
    refine anyB_no m (fun j hj => decide_eq_false (fun hneg => hm ?_))
    have h1 := h j hj
    unfold FD.wok at h1
    rcases Bool.or_eq_true _ _ ▸ h1 with h2 | h2
    · unfold zl
      exact List.mem_map.2 ⟨j, List.mem_range.2 hj, of_decide_eq_true h2⟩
    · obtain ⟨t, e, _⟩ := has_nat h2
      omega
theorem enters_whole : ∀ args w, (callFunc 70 args).run Try.prog w = .ok (.enter 70 args) w :=
  enters_of Try.func70 (by kernel_rfl) rfl
set_option maxHeartbeats 2000000 in
theorem whole1_any (x : Int) (w : World) : Calls Try.prog 70 #[.int .i64 x] w fun e w' => e = .returned (.bool (decide (x < 0))) ∧ w' = w := by
  go_enter Try.func70, Try.ntmps70
  go_wp2
  go_ret
  exact ⟨rfl, rfl⟩

set_option maxHeartbeats 4000000 in
set_option maxRecDepth 100000 in
theorem checkWhole_any {D : FD} (hD : D ∈ fieldsL) {xo yo : Option Addr} {n cx m cy : Nat} {z y : Nat → Int} (k : Int) {w : World} (hX : Arg xo n cx z w) (hY : Arg yo m cy y w) :
    Calls Try.prog 42 #[.int .i64 D.q, .slice xo n cx, .int .i64 k, .slice yo m cy] w fun e w' => e = .returned (.int .i64 (D.hchk n z k m y)) ∧ Below w.heap.size w w' := by
  obtain ⟨e0, he0⟩ : ∃ e0, e0 = D.wchk n z k m y := ⟨_, rfl⟩
  have HC : Hid (Calls Try.prog 54 #[.int .i64 D.q, .slice xo n cx, .int .i64 k, .slice yo m cy] w fun e w' => e = .returned (.int .i64 e0) ∧ Below w.heap.size w w') := by rw [he0]; exact word_any hD k hX hY
  have HY : Hid (Arg yo m cy y w) := hY
  by_cases h0 : e0 = 0
  · obtain ⟨ab, hab⟩ : ∃ ab, ab = decide ((-1 : Int) ∈ zl m y) := ⟨_, rfl⟩
    have HV : Hid (D.hchk n z k m y = if ab = true then 2 else 0) := by
      show _ = _
      unfold FD.hchk
      rw [← he0, if_neg (fun x => x h0), hab]
      by_cases e : (-1 : Int) ∈ zl m y
      · rw [if_pos e, decide_eq_true e]; rfl
      · rw [if_neg e, decide_eq_false e]; rfl
    have HCf : Hid (∀ wx cap, Below w.heap.size w wx → Calls Try.prog 69 #[.slice yo m cap, .func (.func 70) #[] #[]] wx fun e w' => e = .returned (.bool ab) ∧ w' = wx) := fun wx cap hx => by
      rw [hab, ← neg_in (wchk_ok (he0.symm.trans h0)).2.2]
      exact containsFn_any enters_whole (HY.out.below hx).sl hY.few (fun j _ => whole1_any (y j) wx)
    subst h0
    clear hD hX hY he0 hab
    go_enter Try.func42, Try.ntmps42
    go_wp2_with fail
    refine HC.out.mono ?_
    rintro e w1 ⟨rfl, hb1⟩
    have H1 : Hid (Below w.heap.size w w1) := hb1
    clear hb1
    cases ab
    · go_wp2_with (go_at_call 69; refine (HCf.out _ _ H1.out).mono ?_; rintro e w' ⟨rfl, hw⟩; have hw := hw.symm; subst hw)
      go_ret
      exact ⟨ret_int (by rw [HV.out]; rfl), H1.out⟩
    · go_wp2_with (go_at_call 69; refine (HCf.out _ _ H1.out).mono ?_; rintro e w' ⟨rfl, hw⟩; have hw := hw.symm; subst hw)
      go_ret
      exact ⟨ret_int (by rw [HV.out]; rfl), H1.out⟩
  · have HV : Hid (D.hchk n z k m y = e0) := by show _ = _; unfold FD.hchk; rw [← he0, if_pos h0]
    have hz : (e0 != 0) = true := by rw [bne_iff_ne]; exact h0
    clear h0 hD hX hY he0
    go_enter Try.func42, Try.ntmps42
    go_wp2_with fail
    refine HC.out.mono ?_
    rintro e w1 ⟨rfl, hb1⟩
    have H1 : Hid (Below w.heap.size w w1) := hb1
    clear hb1
    go_wp2
    go_ret
    exact ⟨ret_int (by rw [HV.out]), H1.out⟩

end Go.Proofs.Ytcgmllamiaflcaa

/- How many messages there are, and each by its number: the reference's Few, the program's messages, digits. -/
namespace Go.Proofs.Ytcgmllamiaflcaa
open Go.RowKit Go.Sort

theorem pow_more {q i k : Nat} (hq : 2 ≤ q) (hi : i ≤ k) (h : 4096 < q ^ i) : 4096 < q ^ k := Nat.lt_of_lt_of_le h (Nat.pow_le_pow_right (by omega) hi)

set_option maxHeartbeats 2000000 in
theorem messages_any {q k N : Nat} (hN : N = q ^ k) (hq : 2 ≤ q) (hq2 : q ≤ 64) (hk : k ≤ 1000) (w : World) :
    Calls Try.prog 43 #[.int .i64 q, .int .i64 k] w fun e w' => w' = w ∧ ((N ≤ 4096 ∧ e = .returned (.tuple #[.int .i64 (N : Nat), .int .i64 0])) ∨ (4096 < N ∧ e = .returned (.tuple #[.int .i64 0, .int .i64 4]))) := by
  have HN : Hid (N = q ^ k) := hN
  clear hN
  go_enter Try.func43, Try.ntmps43
  go_wp2
  go_loopw [6, 8] (fun vn vi wr => ∃ (i p : Nat), i ≤ k ∧ p ≤ 4096 ∧ vn = .int .i64 (p : Nat) ∧ vi = .int .i64 i ∧ Hid (p = q ^ i) ∧ wr = w) (fun _ vi _ => k - (intOf vi).toNat)
  case atStart => exact ⟨0, 1, by omega, by omega, rfl, rfl, rfl, rfl⟩
  case round =>
    obtain ⟨i, p, hi, hp, rfl, rfl, HP, hw⟩ := hrel
    have hw := hw.symm
    subst hw
    by_cases hlt : i < k
    · have hib : (i : Int) < (k : Int) := by omega
      obtain ⟨r, hr⟩ : ∃ r, r = p * q := ⟨_, rfl⟩
      have hr2 : r ≤ 262144 := by rw [hr]; exact Nat.mul_le_mul hp hq2
      have hw1 : IntKind.i64.wrap ((p : Int) * (q : Int)) = (r : Int) := wrap_to (by rw [hr]; simp) (by omega)
      have hw2 : (p : Int) * (q : Int) = (r : Int) := by rw [hr]; simp
      have HR : Hid (r = q ^ (i + 1)) := by show r = _; rw [hr, HP.out, Nat.pow_succ]
      clear hr
      by_cases h4 : 4096 < r
      · have hz : (4096 : Int) < (r : Int) := by omega
        have HV : Hid (4096 < N) := by
          show 4096 < N
          rw [HN.out]
          exact pow_more (q := q) (i := i + 1) (k := k) hq (by omega) (by rw [← HR.out]; exact h4)
        go_wp2
        go_ret2
        exact ⟨rfl, Or.inr ⟨HV.out, rfl⟩⟩
      · have hz : ¬ (4096 : Int) < (r : Int) := by omega
        go_wp2
        go_roundw
        case rel => exact ⟨i + 1, r, by omega, by omega, by first | rfl | go_num, by go_num, HR.out, by first | rfl | trivial⟩
        case measure => simp [intOf]; omega
    · have hib : ¬ (i : Int) < (k : Int) := by omega
      have hie : k = i := by omega
      subst hie
      go_wp2
      go_ret2
      exact ⟨rfl, Or.inl ⟨by rw [HN.out, ← HP.out]; exact hp, by rw [HN.out, ← HP.out]; rfl⟩⟩

/-- The digits of a number, the greatest first. -/
def dgs (q k a : Nat) : Nat → Nat := fun j => if j < k then a / q ^ (k - 1 - j) % q else 0
set_option maxHeartbeats 4000000 in
set_option maxRecDepth 100000 in
theorem ldigits_any {q k a : Nat} (hq : 2 ≤ q) (hq2 : q ≤ 64) (hk : k ≤ 1000) (ha : a ≤ 1000000) (w : World) :
    Calls Try.prog 44 #[.int .i64 q, .int .i64 k, .int .i64 a] w fun e w' => e = .returned (.slice (some ⟨w.heap.size, 0, none⟩) k k) ∧ Row w.heap.size k (dgs q k a) w' ∧ Below w.heap.size w w' := by
  go_enter Try.func44, Try.ntmps44
  go_wp2_with (at_make; refine make_int rfl _ _ rfl _ k rfl rfl (by omega) (by omega) ?_; intro w1 hown1 hgrow1)
  have HB1 : Hid (Below w.heap.size w w1 ∧ Row w.heap.size k pnil w1) := ⟨below_grown hgrow1 (Nat.le_refl _) (fun k hk => by simp at hk), row_zeros hown1⟩
  clear hown1 hgrow1
  obtain ⟨gr, hg⟩ : ∃ g, g = w.heap.size := ⟨_, rfl⟩
  have HB2 : Hid (Below w.heap.size w w1 ∧ Row gr k pnil w1 ∧ gr = w.heap.size) := by rw [hg]; exact ⟨HB1.out.1, HB1.out.2, rfl⟩
  rw [← hg]
  have hgD : w.heap.size ≤ gr := by omega
  clear HB1 hg
  go_loopw [2, 8] (fun va vi wr => ∃ (t b : Nat), t ≤ k ∧ b ≤ 1000000 ∧ va = .int .i64 (b : Nat) ∧ vi = .int .i64 ((t : Int) - 1) ∧ Hid (b = a / q ^ (k - t) ∧ Row gr k (fun j => if t ≤ j then dgs q k a j else 0) wr ∧ Below w.heap.size w wr)) (fun _ vi _ => (intOf vi + 1).toNat)
  case atStart => exact ⟨k, a, Nat.le_refl _, ha, rfl, by first | rfl | go_num, by rw [Nat.sub_self]; simp, HB2.out.2.1.congr (fun j hj => by rw [if_neg (by omega)]; rfl), HB2.out.1⟩
  case round =>
    obtain ⟨t, b, ht, hb, rfl, hvi, HK⟩ := hrel
    rename World => wr
    cases t with
    | succ s =>
      have hi' : u8 = .int .i64 (s : Int) := by rw [hvi]; go_num
      clear hvi
      subst hi'
      obtain ⟨r, hr⟩ : ∃ r, r = b % q := ⟨_, rfl⟩
      obtain ⟨d, hd⟩ : ∃ d, d = b / q := ⟨_, rfl⟩
      have hdb : d ≤ 1000000 := by rw [hd]; exact Nat.le_trans (Nat.div_le_self _ _) hb
      have hr1 : Int.tmod (b : Int) (q : Int) = (r : Int) := by rw [hr]; rfl
      have hd1 : Int.tdiv (b : Int) (q : Int) = (d : Int) := by rw [hd]; rfl
      have hrb : r < 64 := by rw [hr]; exact Nat.lt_of_lt_of_le (Nat.mod_lt _ (by omega)) hq2
      have hw1 : IntKind.i64.wrap (r : Int) = (r : Int) := wrap_to rfl (by omega)
      have hw2 : IntKind.i64.wrap (d : Int) = (d : Int) := wrap_to rfl (by omega)
      have hq0 : ((q : Int) == 0) = false := by rw [beq_eq_false_iff_ne]; omega
      have hq1 : ((q : Int) == -1) = false := by rw [beq_eq_false_iff_ne]; omega
      obtain ⟨xv, hxv⟩ : ∃ v, wr.cell? ⟨gr, s, none⟩ = some v := ⟨_, HK.out.2.1.cell s (by omega)⟩
      have hfo := HK.out.2.1.free s
      have hsb : (s : Int) < (k : Int) := by omega
      have hs0 : (0 : Int) ≤ (s : Int) := by omega
      have HV : Hid ((∀ j, j < k → (if s ≤ j then dgs q k a j else 0) = if j = s then r else if s + 1 ≤ j then dgs q k a j else 0) ∧ d = a / q ^ (k - s)) := by
        refine ⟨fun j hj => ?_, ?_⟩
        · by_cases e : j = s
          · rw [if_pos e, if_pos (by omega), hr, HK.out.1, e]
            unfold dgs
            rw [if_pos (by omega), show k - 1 - s = k - (s + 1) from by omega]
          · rw [if_neg e]
            by_cases e2 : s + 1 ≤ j
            · rw [if_pos e2, if_pos (by omega)]
            · rw [if_neg e2, if_neg (by omega)]
        · rw [hd, HK.out.1, Nat.div_div_eq_div_mul, ← Nat.pow_succ, show (k - (s + 1)).succ = k - s from by omega]
      clear hr hd
      go_wp2
      go_roundw
      case rel => exact ⟨s, d, by omega, hdb, by first | rfl | go_num, by go_num, HV.out.2, HK.out.2.1.store s r HV.out.1, HK.out.2.2.setCell hgD _⟩
      case measure => simp [intOf]
    | zero =>
      have hi' : u8 = .int .i64 (-1) := by rw [hvi]; rfl
      clear hvi
      subst hi'
      have HE : Hid (Row gr k (dgs q k a) wr) := HK.out.2.1.congr (fun j _ => by rw [if_pos (by omega)])
      go_wp2
      go_ret
      exact ⟨by rw [← HB2.out.2.2]; rfl, by rw [← HB2.out.2.2]; exact HE.out, HK.out.2.2⟩
end Go.Proofs.Ytcgmllamiaflcaa

/- At how many places a message's word differs: the reference's Off, of whole words. -/
namespace Go.Proofs.Ytcgmllamiaflcaa
open Go.RowKit Go.Sort

end Go.Proofs.Ytcgmllamiaflcaa
