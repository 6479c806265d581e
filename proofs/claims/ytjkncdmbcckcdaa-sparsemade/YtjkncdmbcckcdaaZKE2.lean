/- Codes of few checks: those places of a check for which something holds (those); the sum of its bits (sum). -/
import Derived.Test.YtjkncdmbcckcdaaZKE1
import Derived.Shelf.Abstract
import Derived.Test.YtjkncdmbcckcdaaZL1
namespace Go.Proofs.Ytjkncdmbcckcdaa
open Go.RowKit Go.Sort

set_option maxHeartbeats 4000000 in
set_option maxRecDepth 100000 in
theorem those_any {gf : Nat} {lb : Array Value} (eg : ∀ args w, (callFunc gf args).run Try.prog w = .ok (.enter gf args) w) {ao : Option Addr} {n cap : Nat} {z : Nat → Int} {p : Int → Bool} {w : World} (hs : SlZ ao n z w) (hn : n ≤ 100000)
    (hp : ∀ wx, Below w.heap.size w wx → ∀ j, j < n → Calls Try.prog gf (#[.int .i64 (z j)] ++ lb) wx fun e w' => e = .returned (.bool (p (z j))) ∧ w' = wx) :
    Calls Try.prog 82 #[.slice ao n cap, .func (.func gf) #[] lb] w fun e w' => ∃ v, e = .returned v ∧ OwnI w.heap.size v (selZ p z n) w' ∧ Below w.heap.size w w' := by
  have HS : Hid (SlZ ao n z w ∧ ∀ wx, Below w.heap.size w wx → ∀ j, j < n → Calls Try.prog gf (#[.int .i64 (z j)] ++ lb) wx fun e w' => e = .returned (.bool (p (z j))) ∧ w' = wx) := ⟨hs, hp⟩
  clear hs hp
  go_enter Try.func82, Try.ntmps82
  go_wp2
  go_loopw [5, 10] (fun vo vi wx => ∃ i : Nat, i ≤ n ∧ vi = .int .i64 (i : Nat) ∧ Hid (OwnI w.heap.size vo (selZ p z i) wx ∧ Below w.heap.size w wx)) (fun _ vi _ => n - (intOf vi).toNat)
  case atStart => exact ⟨0, by omega, rfl, OwnI.nil _ _, Below.refl _ _⟩
  case round =>
    obtain ⟨i, hi, rfl, HI⟩ := hrel
    rename World => wr
    by_cases hlt : i < n
    · have hib : (i : Int) < (n : Int) := by omega
      have hib0 : (0 : Int) ≤ (i : Int) := by omega
      obtain ⟨b, off, rfl, hc⟩ := (slz_below HS.out.1 HI.out.2) i hlt
      obtain ⟨x, hx⟩ : ∃ x, x = z i := ⟨_, rfl⟩
      rw [← hx] at hc
      obtain ⟨pb, hpb⟩ : ∃ pb, pb = p x := ⟨_, rfl⟩
      have hcall : Calls Try.prog gf (#[.int .i64 x] ++ lb) wr fun e w' => e = .returned (.bool pb) ∧ w' = wr := by
        rw [hpb, hx]; exact HS.out.2 wr HI.out.2 i hlt
      have HP : Hid (pb = p (z i) ∧ x = z i) := ⟨by rw [hpb, hx], hx⟩
      have hsr := HI.out.2.size
      clear hx hpb
      cases pb with
      | false =>
        have HV : Hid (selZ p z (i + 1) = selZ p z i) := if_neg (by rw [← HP.out.1]; intro h; cases h)
        go_wp2_with (go_at_fn gf; refine hcall.mono ?_; rintro e w' ⟨rfl, hw⟩; have hw := hw.symm; subst hw)
        go_roundw
        case rel => exact ⟨i + 1, by omega, by go_num, by rw [HV.out]; exact HI.out.1, HI.out.2⟩
        case measure => simp [intOf]; omega
      | true =>
        have HV : Hid (selZ p z (i + 1) = selZ p z i ++ [x]) := by
          show _ = _
          rw [HP.out.2]; exact if_pos HP.out.1.symm
        have hle := selZ_len p z i
        go_wp2_with (first
          | (go_at_fn gf; refine hcall.mono ?_; rintro e w' ⟨rfl, hw⟩; have hw := hw.symm; subst hw)
          | (at_builtin; refine append_int rfl _ _ rfl w.heap.size _ (selZ p z i) rfl (HI.out.1.alloc _) ⟨_, 0, none⟩ 1 x rfl (by simp) (by omega) (by simp; omega) ?_; intro v5 w5 hown5 hgrow5))
        have HR : Hid (OwnI w.heap.size v5 (selZ p z (i + 1)) w5 ∧ Below w.heap.size w w5) := ⟨by rw [HV.out]; exact hown5, (HI.out.2.alloc hsr _).grown hgrow5 (by simp; omega) (fun b hb => (HI.out.1.lt b hb).1)⟩
        clear hown5 hgrow5
        go_roundw
        case rel => exact ⟨i + 1, by omega, by go_num, HR.out⟩
        case measure => simp [intOf]; omega
    · have hib : ¬ (i : Int) < (n : Int) := by omega
      have hie : n = i := by omega
      subst hie
      go_wp2
      go_ret
      exact ⟨_, rfl, HI.out⟩
theorem own_form {base : Nat} {v : Value} {l : List Int} {w : World} (h : OwnI base v l w) : ∃ ao cap, v = .slice ao l.length cap := by
  rcases h.2 with ⟨h1, h2⟩ | ⟨g, cap, cur, hv, _⟩
  · exact ⟨none, 0, by rw [h1, h2]⟩
  · exact ⟨_, cap, hv⟩
theorem enters_sum1 : ∀ args w, (callFunc 140 args).run Try.prog w = .ok (.enter 140 args) w :=
  enters_of Try.func140 (by kernel_rfl) rfl
theorem enters_fill1 : ∀ args w, (callFunc 115 args).run Try.prog w = .ok (.enter 115 args) w :=
  enters_of Try.func115 (by kernel_rfl) rfl
set_option maxHeartbeats 2000000 in
theorem sum1_any {B : Nat} {wo : Option Addr} {n cw : Nat} {y : Nat → Int} {w : World} (hc : w.cell? ⟨B, 0, none⟩ = some (.slice wo n cw)) (hy : SlZ wo n y w) (x : Int) (h0 : 0 ≤ x) (h1 : x < (n : Int)) :
    Calls Try.prog 140 #[.int .i64 x, .pointer (some ⟨B, 0, none⟩)] w fun e w' => e = .returned (.bool (decide (y x.toNat = 1))) ∧ w' = w := by
  obtain ⟨j, rfl⟩ : ∃ j : Nat, x = (j : Int) := ⟨x.toNat, by omega⟩
  obtain ⟨b, off, rfl, hcx⟩ := hy j (by omega)
  obtain ⟨v, hv⟩ : ∃ v, v = y j := ⟨_, rfl⟩
  rw [← hv] at hcx
  have e : decide (y ((j : Nat) : Int).toNat = 1) = (v == 1) := by
    rw [Int.toNat_natCast, ← hv]
    by_cases h : v = 1
    · rw [h]; rfl
    · rw [decide_eq_false h, beq_eq_false_iff_ne.2 h]
  rw [e]
  clear hv hy e
  go_enter Try.func140, Try.ntmps140
  go_wp2
  go_ret
  exact ⟨rfl, rfl⟩
set_option maxHeartbeats 2000000 in
theorem fill1_any {B : Nat} {wo : Option Addr} {n cw : Nat} {y : Nat → Int} {w : World} (hc : w.cell? ⟨B, 0, none⟩ = some (.slice wo n cw)) (hy : SlZ wo n y w) (x : Int) (h0 : 0 ≤ x) (h1 : x < (n : Int)) :
    Calls Try.prog 115 #[.int .i64 x, .pointer (some ⟨B, 0, none⟩)] w fun e w' => e = .returned (.bool (decide (y x.toNat = -1))) ∧ w' = w := by
  obtain ⟨j, rfl⟩ : ∃ j : Nat, x = (j : Int) := ⟨x.toNat, by omega⟩
  obtain ⟨b, off, rfl, hcx⟩ := hy j (by omega)
  obtain ⟨v, hv⟩ : ∃ v, v = y j := ⟨_, rfl⟩
  rw [← hv] at hcx
  have e : decide (y ((j : Nat) : Int).toNat = -1) = (v == -1) := by
    rw [Int.toNat_natCast, ← hv]
    by_cases h : v = -1
    · rw [h]; rfl
    · rw [decide_eq_false h, beq_eq_false_iff_ne.2 h]
  rw [e]
  clear hv hy e
  go_enter Try.func115, Try.ntmps115
  go_wp2
  go_ret
  exact ⟨rfl, rfl⟩
set_option maxHeartbeats 4000000 in
set_option maxRecDepth 100000 in
theorem ssum_any {ao wo : Option Addr} {l ca n cw : Nat} {z y : Nat → Int} {w : World} (hz : SlZ ao l z w) (hy : SlZ wo n y w) (hl : l ≤ 100000) (hr : ∀ j, j < l → 0 ≤ z j ∧ z j < (n : Int)) :
    Calls Try.prog 116 #[.slice ao l ca, .slice wo n cw] w fun e w' => e = .returned (.int .i64 (par y z l : Nat)) ∧ Below w.heap.size w w' := by
  obtain ⟨w0, hw0⟩ : ∃ w0, w0 = w.alloc (.cells #[.slice wo n cw] 22) := ⟨_, rfl⟩
  have hb0 : Below w.heap.size w w0 := by rw [hw0]; exact (Below.refl _ _).alloc (Nat.le_refl _) _
  have hc0 : w0.cell? ⟨w.heap.size, 0, none⟩ = some (.slice wo n cw) := by rw [hw0, cell_of_row _ _ _ _ _ (0, 0) (two_new _)]; rfl
  obtain ⟨L, hL⟩ : ∃ L, L = selZ (fun x => decide (y x.toNat = 1)) z l := ⟨_, rfl⟩
  have HT : Hid (Calls Try.prog 82 #[.slice ao l ca, .func (.func 140) #[] #[.pointer (some ⟨w.heap.size, 0, none⟩)]] w0 fun e w' => ∃ v, e = .returned v ∧ OwnI w0.heap.size v L w' ∧ Below w0.heap.size w0 w') := by
    rw [hL]
    refine those_any enters_sum1 (slz_below hz hb0) hl (fun wx hb j hj => ?_)
    have e : (#[Value.int .i64 (z j)] ++ #[Value.pointer (some ⟨w.heap.size, 0, none⟩)] : Array Value) = #[.int .i64 (z j), .pointer (some ⟨w.heap.size, 0, none⟩)] := rfl
    rw [e]
    exact sum1_any (((bcell hb).1 w.heap.size 0 (by rw [hw0]; simp)).trans hc0) (slz_below (slz_below hy hb0) hb) (z j) (hr j hj).1 (hr j hj).2
  obtain ⟨k, hk⟩ : ∃ k, k = L.length := ⟨_, rfl⟩
  have hkl : k ≤ 100000 := by rw [hk, hL]; have := selZ_len (fun x => decide (y x.toNat = 1)) z l; omega
  obtain ⟨r, hr2⟩ : ∃ r, r = k % 2 := ⟨_, rfl⟩
  have hm : (k : Int).tmod 2 = (r : Int) := by rw [Int.tmod_eq_emod_of_nonneg (by omega)]; omega
  have HR : Hid (par y z l = r ∧ L.length = k ∧ Below w.heap.size w w0) := ⟨by unfold par; rw [hr2, hk, hL], hk.symm, hb0⟩
  clear hz hy hr hb0 hc0 hL hk hr2
  go_enter Try.func116, Try.ntmps116
  go_wp2_with fail
  rw [← hw0]
  clear hw0
  refine HT.out.mono ?_
  rintro e w1 ⟨v, rfl, hv, hb1⟩
  obtain ⟨vo, vc, hvv⟩ := own_form hv
  rw [HR.out.2.1] at hvv
  subst hvv
  have HB : Hid (Below w.heap.size w w1) := bel_up' HR.out.2.2 hb1
  clear hv hb1
  go_wp2
  go_ret
  exact ⟨by (first | (rw [HR.out.1]; rfl) | rw [HR.out.1]), HB.out⟩
end Go.Proofs.Ytjkncdmbcckcdaa
