/- Texts of ours, one behind the other: KE17 KE18 KE19 KE20 KE21 S34 KH1 KH2 S35 KH6. -/
import Derived.Test.YtillljojdnofgaaZKE2
import Derived.Test.YtillljojdnofgaaZS3
import Derived.Test.YtillljojdnofgaaZR5
import Derived.Test.YtillljojdnofgaaZL10
import Derived.Test.YtillljojdnofgaaZA1
import Derived.Test.YtillljojdnofgaaZW9
/- Codes of few checks: the program's Stops. -/
namespace Go.Proofs.Ytillljojdnofgaa
open Go.RowKit Go.Sort

end Go.Proofs.Ytillljojdnofgaa

/- Codes of few checks: the reference's Flipped. -/
namespace Go.Proofs.Ytillljojdnofgaa
open Go.RowKit Go.Sort

end Go.Proofs.Ytillljojdnofgaa

/- SparseSays: seven ways through it, over what its calls tell. -/
namespace Go.Proofs.Ytillljojdnofgaa
open Go.RowKit Go.Sort

end Go.Proofs.Ytillljojdnofgaa

/- SparseSays: whatever it is given. -/
namespace Go.Proofs.Ytillljojdnofgaa
open Go.RowKit Go.Sort

end Go.Proofs.Ytillljojdnofgaa

/- Checks and words out of raw numbers (ChecksOf, WordOf; printed by make/ke21.py). -/
namespace Go.Proofs.Ytillljojdnofgaa
open Go.RowKit Go.Sort

/-- Bits, and what is lost, where something may be. -/
def WdB (lost : Bool) (n : Nat) (y : Nat → Int) : Prop := ∀ j, j < n → (y j = 0 ∨ y j = 1) ∨ (lost = true ∧ y j = -1)
theorem WdB.put {lost : Bool} {r : Nat} {y : Nat → Int} {v : Int} (h : WdB lost r y) (hv : (v = 0 ∨ v = 1) ∨ (lost = true ∧ v = -1)) : WdB lost (r + 1) (fun j => if j = r then v else y j) := fun j hj => by
  show ((if j = r then v else y j) = 0 ∨ (if j = r then v else y j) = 1) ∨ (lost = true ∧ (if j = r then v else y j) = -1)
  by_cases e : j = r
  · rw [if_pos e]; exact hv
  · rw [if_neg e]; exact h j (by omega)

set_option maxHeartbeats 8000000 in
set_option maxRecDepth 100000 in
theorem wordOf_any {ao : Option Addr} {n ca : Nat} {z : Nat → Int} {w : World} (h : Arg ao n ca z w) (hn : n ≤ 1000) (f k : Nat) (lost : Bool) (hf : f ≤ 1000) (hk : k ≤ 1000) :
    Calls Try.prog 24 #[.slice ao n ca, .int .i64 f, .int .i64 k, .bool lost] w fun e w' => ∃ v y, e = .returned v ∧ OwnI w.heap.size v (zl k y) w' ∧ WdB lost k y ∧ Below w.heap.size w w' := by
  have HA : Hid (Arg ao n ca z w) := h
  have HPi : Hid (∀ (x : Int) (q : Nat), I64 x → 1 ≤ q → q ≤ 100 → ∃ M : Nat, M < q ∧ ∀ w : World, Calls Try.prog 23 #[.int .i64 x, .int .i64 (q : Nat)] w fun e w' => e = .returned (.int .i64 (M : Nat)) ∧ w' = w) := fun x q hx h1 h2 => by
    have h3 := pick_lo x (q : Int) (by omega)
    have h4 := pick_hi x (q : Int) (by omega)
    exact ⟨(pick x (q : Int)).toNat, by omega, fun w => by rw [Int.toNat_of_nonneg h3]; exact pick_any x q w hx.1 hx.2 (by omega) (by omega)⟩
  clear h
  go_enter Try.func24, Try.ntmps24
  go_wp2
  go_loopw [9, 10] (fun vl vi wr => ∃ (r : Nat) (y : Nat → Int), r ≤ k ∧ vi = .int .i64 r ∧ Hid (OwnI w.heap.size vl (zl r y) wr ∧ WdB lost r y ∧ Below w.heap.size w wr)) (fun _ vi _ => k - (intOf vi).toNat)
  case atStart => exact ⟨0, fun _ => 0, by omega, rfl, OwnI.nil _ _, fun j hj => absurd hj (by omega), Below.refl _ _⟩
  case round =>
    obtain ⟨r, y, hr, rfl, HG⟩ := hrel
    rename World => wr
    have hsz := HG.out.2.2.size
    by_cases hlt : r < k
    · have hib : (r : Int) < (k : Int) := by omega
      have HRa : Hid (∀ wx, Below w.heap.size w wx → Calls Try.prog 60 #[.slice ao n ca, .int .i64 ((f : Int) + (r : Int))] wx fun e w' => (∃ x, e = .returned (.int .i64 x) ∧ I64 x) ∧ ∃ k, w' = wx.drewN k) := fun wx hb => by
        have h := raw_any (HA.out.below hb) hn (f + r) (by omega)
        rw [Int.natCast_add] at h; exact h
      go_wp2_with fail
      refine (HRa.out wr HG.out.2.2).mono ?_
      rintro e w1 ⟨⟨x, rfl, hx⟩, k1, hw1⟩
      have HG1 : Hid (OwnI w.heap.size u9 (zl r y) w1 ∧ Below w.heap.size w w1) := by rw [hw1]; exact ⟨HG.out.1.drewN _, below_drewN2 HG.out.2.2 _⟩
      have hsz1 := HG1.out.2.size
      clear hw1
      obtain ⟨p, hp4, hP⟩ := HPi.out x 4 hx (by omega) (by omega)
      have HP : Hid (∀ w : World, Calls Try.prog 23 #[.int .i64 x, .int .i64 4] w fun e w' => e = .returned (.int .i64 (p : Nat)) ∧ w' = w) := hP
      clear hP hx
      go_wp2_with fail
      refine (HP.out w1).mono ?_
      rintro e w' ⟨rfl, hw⟩
      have hw := hw.symm
      subst hw
      clear HP
      by_cases hp : p ≤ 1
      · have hpb : ¬ (1 : Int) < (p : Int) := by omega
        have hpc : ¬ (p : Int) > 1 := by omega
        go_wp2_with (at_builtin; refine append_int rfl _ _ rfl w.heap.size _ (zl r y) rfl (HG1.out.1.alloc _) ⟨_, 0, none⟩ 1 (p : Int) rfl (by simp) (by rw [zl_len]; omega) (by simp; omega) ?_; intro v2 w3 hown3 hgrow3)
        have HX : Hid (OwnI w.heap.size v2 (zl (r + 1) (fun j => if j = r then (p : Int) else y j)) w3 ∧ WdB lost (r + 1) (fun j => if j = r then (p : Int) else y j) ∧ Below w.heap.size w w3) := by
          refine ⟨?_, HG.out.2.1.put (Or.inl (by omega)), (HG1.out.2.alloc hsz1 _).grown hgrow3 (by simp; omega) (fun k hk => (HG1.out.1.lt k hk).1)⟩
          rw [zl_succ, zl_congr (y := y) (fun j hj => by show (if j = r then (p : Int) else y j) = y j; rw [if_neg (by omega)])]
          show OwnI w.heap.size v2 (zl r y ++ [if r = r then (p : Int) else y r]) w3
          rw [if_pos rfl]; exact hown3
        clear hown3 hgrow3
        go_roundw
        case rel => exact ⟨r + 1, _, by omega, by go_num, HX.out⟩
        case measure => simp [intOf]; omega
      · have hpb : (1 : Int) < (p : Int) := by omega
        have hpc : (p : Int) > 1 := by omega
        obtain ⟨p2, hp2⟩ : ∃ p2 : Nat, p = p2 + 2 := ⟨p - 2, by omega⟩
        have hsub : (p : Int) - 2 = (p2 : Int) := by omega
        have hp21 : p2 ≤ 1 := by omega
        have hsw : IntKind.i64.wrap ((p : Int) - 2) = (p2 : Int) := wrap_to (by omega) (by omega)
        clear hp2 hp hp4
        cases lost with
        | false =>
          go_wp2_with (at_builtin; refine append_int rfl _ _ rfl w.heap.size _ (zl r y) rfl (HG1.out.1.alloc _) ⟨_, 0, none⟩ 1 (p2 : Int) rfl (by simp) (by rw [zl_len]; omega) (by simp; omega) ?_; intro v2 w3 hown3 hgrow3)
          have HX : Hid (OwnI w.heap.size v2 (zl (r + 1) (fun j => if j = r then (p2 : Int) else y j)) w3 ∧ WdB false (r + 1) (fun j => if j = r then (p2 : Int) else y j) ∧ Below w.heap.size w w3) := by
            refine ⟨?_, HG.out.2.1.put (Or.inl (by omega)), (HG1.out.2.alloc hsz1 _).grown hgrow3 (by simp; omega) (fun k hk => (HG1.out.1.lt k hk).1)⟩
            rw [zl_succ, zl_congr (y := y) (fun j hj => by show (if j = r then (p2 : Int) else y j) = y j; rw [if_neg (by omega)])]
            show OwnI w.heap.size v2 (zl r y ++ [if r = r then (p2 : Int) else y r]) w3
            rw [if_pos rfl]; exact hown3
          clear hown3 hgrow3
          go_roundw
          case rel => exact ⟨r + 1, _, by omega, by go_num, HX.out⟩
          case measure => simp [intOf]; omega
        | true =>
          go_wp2_with fail
          refine (HRa.out w1 HG1.out.2).mono ?_
          rintro e w2 ⟨⟨x2, rfl, hx2⟩, k2, hw2⟩
          have HG2 : Hid (OwnI w.heap.size u9 (zl r y) w2 ∧ Below w.heap.size w w2) := by rw [hw2]; exact ⟨HG1.out.1.drewN _, below_drewN2 HG1.out.2 _⟩
          have hsz2 := HG2.out.2.size
          clear hw2
          obtain ⟨x3, hx3⟩ : ∃ x3, IntKind.i64.wrap (x2.tdiv 4) = x3 := ⟨_, rfl⟩
          have hI3 : I64 x3 := by rw [← hx3]; exact i64_wrap _
          obtain ⟨M, hM2, hP⟩ := HPi.out x3 2 hI3 (by omega) (by omega)
          have HP : Hid (∀ w : World, Calls Try.prog 23 #[.int .i64 x3, .int .i64 2] w fun e w' => e = .returned (.int .i64 (M : Nat)) ∧ w' = w) := hP
          clear hP hI3 hx2
          go_wp2_with fail
          refine (HP.out w2).mono ?_
          rintro e w' ⟨rfl, hw⟩
          have hw := hw.symm
          subst hw
          clear HP
          by_cases hM0 : M = 0
          · have hz : ((M : Int) == 0) = true := by rw [hM0]; rfl
            clear hM0
            go_wp2_with (at_builtin; refine append_int rfl _ _ rfl w.heap.size _ (zl r y) rfl (HG2.out.1.alloc _) ⟨_, 0, none⟩ 1 (-1 : Int) rfl (by simp) (by rw [zl_len]; omega) (by simp; omega) ?_; intro v2 w3 hown3 hgrow3)
            have HX : Hid (OwnI w.heap.size v2 (zl (r + 1) (fun j => if j = r then (-1 : Int) else y j)) w3 ∧ WdB true (r + 1) (fun j => if j = r then (-1 : Int) else y j) ∧ Below w.heap.size w w3) := by
              refine ⟨?_, HG.out.2.1.put (Or.inr ⟨rfl, rfl⟩), (HG2.out.2.alloc hsz2 _).grown hgrow3 (by simp; omega) (fun k hk => (HG2.out.1.lt k hk).1)⟩
              rw [zl_succ, zl_congr (y := y) (fun j hj => by show (if j = r then (-1 : Int) else y j) = y j; rw [if_neg (by omega)])]
              show OwnI w.heap.size v2 (zl r y ++ [if r = r then (-1 : Int) else y r]) w3
              rw [if_pos rfl]; exact hown3
            clear hown3 hgrow3
            go_roundw
            case rel => exact ⟨r + 1, _, by omega, by go_num, HX.out⟩
            case measure => simp [intOf]; omega
          · have hz : ((M : Int) == 0) = false := by rw [beq_eq_false_iff_ne]; omega
            clear hM0
            go_wp2_with (at_builtin; refine append_int rfl _ _ rfl w.heap.size _ (zl r y) rfl (HG2.out.1.alloc _) ⟨_, 0, none⟩ 1 (p2 : Int) rfl (by simp) (by rw [zl_len]; omega) (by simp; omega) ?_; intro v2 w3 hown3 hgrow3)
            have HX : Hid (OwnI w.heap.size v2 (zl (r + 1) (fun j => if j = r then (p2 : Int) else y j)) w3 ∧ WdB true (r + 1) (fun j => if j = r then (p2 : Int) else y j) ∧ Below w.heap.size w w3) := by
              refine ⟨?_, HG.out.2.1.put (Or.inl (by omega)), (HG2.out.2.alloc hsz2 _).grown hgrow3 (by simp; omega) (fun k hk => (HG2.out.1.lt k hk).1)⟩
              rw [zl_succ, zl_congr (y := y) (fun j hj => by show (if j = r then (p2 : Int) else y j) = y j; rw [if_neg (by omega)])]
              show OwnI w.heap.size v2 (zl r y ++ [if r = r then (p2 : Int) else y r]) w3
              rw [if_pos rfl]; exact hown3
            clear hown3 hgrow3
            go_roundw
            case rel => exact ⟨r + 1, _, by omega, by go_num, HX.out⟩
            case measure => simp [intOf]; omega
    · have hib : ¬ (r : Int) < (k : Int) := by omega
      have e : r = k := by omega
      subst e
      go_wp2
      go_ret
      exact ⟨_, rfl, y, HG.out.1, HG.out.2.1, HG.out.2.2⟩
end Go.Proofs.Ytillljojdnofgaa

/- Gray's lists. No Go text here. -/
namespace Go.Proofs.Ytillljojdnofgaa

end Go.Proofs.Ytillljojdnofgaa

/- Gray's lists: which sizes may be (digits.Check, product, behind; the reference's SizesMay). -/
namespace Go.Proofs.Ytillljojdnofgaa
open Go.RowKit Go.Sort

end Go.Proofs.Ytillljojdnofgaa

/- Gray's lists: the reference's SizesMay, the program's Gray. -/
namespace Go.Proofs.Ytillljojdnofgaa
open Go.RowKit Go.Sort

theorem setO_bel {B b o : Nat} {u w : World} (h : Below B u w) (hb : B ≤ b) (v : Value) : Below B u (w.setCell ⟨b, o, none⟩ v) := h.setCell hb _

end Go.Proofs.Ytillljojdnofgaa

/- The least ring in which each word stands once. No Go text here. -/
namespace Go.Proofs.Ytillljojdnofgaa

end Go.Proofs.Ytillljojdnofgaa

/- Rings: the word behind a word (digits.next). -/
namespace Go.Proofs.Ytillljojdnofgaa
open Go.RowKit Go.Sort

end Go.Proofs.Ytillljojdnofgaa
