/- Texts of ours, one behind the other: KE1 KE2. -/
import Derived.Test.YtjkncdmbcckcdabZS32
import Derived.Test.YtjkncdmbcckcdabZT5
import Derived.Shelf.Abstract
import Derived.Test.YtjkncdmbcckcdabZL1
/- Codes of few checks: which checks may be (the program's Check, the reference's ChecksMay). -/
namespace Go.Proofs.Ytjkncdmbcckcdab
open Go.RowKit Go.Sort

/-- The place ahead of place j. -/
def ahd (z : Nat → Int) (j : Nat) : Int := if j = 0 then -1 else z (j - 1)
theorem crow_err {n : Int} {z : Nat → Int} {j m : Nat} {e : Int} (h0 : crow n z j = 0) (he : e ≠ 0) (h : (if z j < 0 ∨ n ≤ z j then 10 else if 0 < j ∧ z j ≤ z (j - 1) then 3 else 0) = e) (hj : j < m) : crow n z m = e := by
  have h1 : crow n z (j + 1) = e := by
    show (if crow n z j ≠ 0 then crow n z j else _) = e
    rw [if_neg (fun x => x h0)]; exact h
  rw [crow_to (m := j + 1) (by rw [h1]; exact he) (by omega), h1]
theorem crow_next {n : Int} {z : Nat → Int} {j : Nat} (h0 : crow n z j = 0) (h1 : ¬ (z j < 0 ∨ n ≤ z j)) (h2 : ¬ (0 < j ∧ z j ≤ z (j - 1))) : crow n z (j + 1) = 0 := by
  show (if crow n z j ≠ 0 then crow n z j else _) = 0
  rw [if_neg (fun x => x h0), if_neg h1, if_neg h2]
theorem crows_err {n : Int} {N : Nat → Nat} {Z : Nat → Nat → Int} {i m : Nat} {e : Int} (h0 : crows n N Z i = 0) (he : e ≠ 0) (h : crow n (Z i) (N i) = e) (hi : i < m) : crows n N Z m = e := by
  have h1 : crows n N Z (i + 1) = e := by
    show (if crows n N Z i ≠ 0 then crows n N Z i else _) = e
    rw [if_neg (fun x => x h0)]; exact h
  rw [crows_to (m := i + 1) (by rw [h1]; exact he) (by omega), h1]
theorem crows_next {n : Int} {N : Nat → Nat} {Z : Nat → Nat → Int} {i : Nat} (h0 : crows n N Z i = 0) (h : crow n (Z i) (N i) = 0) : crows n N Z (i + 1) = 0 := by
  show (if crows n N Z i ≠ 0 then crows n N Z i else _) = 0
  rw [if_neg (fun x => x h0)]; exact h

set_option maxHeartbeats 8000000 in
set_option maxRecDepth 100000 in
theorem scheck_any (n : Int) {ao : Option Addr} {m ca : Nat} {A : Nat → Option Addr} {N C : Nat → Nat} {Z : Nat → Nat → Int} {w : World} (hA : MatZ ao m A N C Z w) (hm : m ≤ 1000000) :
    Calls Try.prog 21 #[.int .i64 n, .slice ao m ca] w fun e w' => e = .returned (.int .i64 (schk n m N Z)) ∧ w' = w := by
  obtain ⟨E, hE⟩ : ∃ E, E = schk n m N Z := ⟨_, rfl⟩
  have HA : Hid (MatZ ao m A N C Z w ∧ E = schk n m N Z) := ⟨hA, hE⟩
  rw [← hE]
  clear hA hE
  by_cases h1 : n < 1
  · have HE : Hid (E = 4) := by show _ = _; rw [HA.out.2]; unfold schk; rw [if_pos (Or.inl h1)]
    go_enter Try.func21, Try.ntmps21
    go_wp2
    go_ret
    exact ⟨by (first | (rw [HE.out]; rfl) | rw [HE.out]), rfl⟩
  · by_cases h2 : 64 < n
    · have HE : Hid (E = 4) := by show _ = _; rw [HA.out.2]; unfold schk; rw [if_pos (Or.inr (Or.inl h2))]
      have h2' : n > 64 := h2
      go_enter Try.func21, Try.ntmps21
      go_wp2
      go_ret
      exact ⟨by (first | (rw [HE.out]; rfl) | rw [HE.out]), rfl⟩
    · have h2' : ¬ n > 64 := h2
      by_cases h3 : 64 < m
      · have HE : Hid (E = 4) := by show _ = _; rw [HA.out.2]; unfold schk; rw [if_pos (Or.inr (Or.inr h3))]
        have h3' : (64 : Int) < (m : Int) := by omega
        have h3'' : (m : Int) > 64 := h3'
        go_enter Try.func21, Try.ntmps21
        go_wp2
        go_ret
        exact ⟨by (first | (rw [HE.out]; rfl) | rw [HE.out]), rfl⟩
      · have HE : Hid (E = crows n N Z m) := by show _ = _; rw [HA.out.2]; unfold schk; rw [if_neg (by omega)]
        have h3' : ¬ (64 : Int) < (m : Int) := by omega
        have h3'' : ¬ (m : Int) > 64 := h3'
        go_enter Try.func21, Try.ntmps21
        go_wp2
        go_loopw [23] (fun vi wx => ∃ i : Nat, i ≤ m ∧ vi = .int .i64 (i : Nat) ∧ Hid (crows n N Z i = 0) ∧ wx = w) (fun vi _ => m - (intOf vi).toNat)
        case atStart => exact ⟨0, by omega, rfl, rfl, rfl⟩
        case round =>
          obtain ⟨i, hi, rfl, HG, hwx⟩ := hrel
          have hwx := hwx.symm
          subst hwx
          by_cases hlt : i < m
          · have hib : (i : Int) < (m : Int) := by omega
            have hib0 : (0 : Int) ≤ (i : Int) := by omega
            obtain ⟨b, off, rfl, hci⟩ := HA.out.1.cell i hlt
            obtain ⟨Ni, hNi⟩ : ∃ Ni, Ni = N i := ⟨_, rfl⟩
            obtain ⟨Ai, hAi⟩ : ∃ Ai, Ai = A i := ⟨_, rfl⟩
            rw [← hNi, ← hAi] at hci
            have hfew : Ni ≤ 1000000 := by rw [hNi]; exact HA.out.1.few i hlt
            have HN : Hid (Ni = N i ∧ SlZ Ai Ni (Z i) w) := ⟨hNi, by rw [hNi, hAi]; exact HA.out.1.sl i hlt⟩
            clear hNi hAi
            go_wp2
            go_loopw [7, 29] (fun va vj wx => ∃ j : Nat, j ≤ Ni ∧ vj = .int .i64 (j : Nat) ∧ va = .int .i64 (ahd (Z i) j) ∧ Hid (crow n (Z i) j = 0) ∧ wx = w) (fun _ vj _ => Ni - (intOf vj).toNat)
            case atStart => exact ⟨0, by omega, rfl, rfl, rfl, rfl⟩
            case round =>
              obtain ⟨j, hj, rfl, rfl, HJ, hwx⟩ := hrel
              have hwx := hwx.symm
              subst hwx
              by_cases hlj : j < Ni
              · have hjb : (j : Int) < (Ni : Int) := by omega
                have hjb0 : (0 : Int) ≤ (j : Int) := by omega
                obtain ⟨bx, ox, rfl, hcx⟩ := HN.out.2 j hlj
                obtain ⟨x, hx⟩ : ∃ x, x = Z i j := ⟨_, rfl⟩
                obtain ⟨p, hp⟩ : ∃ p, p = ahd (Z i) j := ⟨_, rfl⟩
                rw [← hx] at hcx
                rw [← hp]
                have HX : Hid (x = Z i j ∧ p = ahd (Z i) j) := ⟨hx, hp⟩
                clear hx hp
                by_cases g1 : x < 0
                · have HV : Hid (E = 10) := by
                    show _ = _
                    rw [HE.out]
                    exact crows_err HG.out (by omega) (crow_err HJ.out (by omega) (if_pos (Or.inl (by rw [← HX.out.1]; exact g1))) (by rw [← HN.out.1]; exact hlj)) hlt
                  go_wp2
                  go_ret
                  exact ⟨by (first | (rw [HV.out]; rfl) | rw [HV.out]), rfl⟩
                · by_cases g2 : n ≤ x
                  · have HV : Hid (E = 10) := by
                      show _ = _
                      rw [HE.out]
                      exact crows_err HG.out (by omega) (crow_err HJ.out (by omega) (if_pos (Or.inr (by rw [← HX.out.1]; exact g2))) (by rw [← HN.out.1]; exact hlj)) hlt
                    have g2' : x ≥ n := g2
                    go_wp2
                    go_ret
                    exact ⟨by (first | (rw [HV.out]; rfl) | rw [HV.out]), rfl⟩
                  · have g2' : ¬ x ≥ n := g2
                    have g0 : ¬ (Z i j < 0 ∨ n ≤ Z i j) := by rw [← HX.out.1]; omega
                    by_cases g3 : x ≤ p
                    · have HV : Hid (E = 3) := by
                        have hj0 : 0 < j ∧ Z i j ≤ Z i (j - 1) := by
                          have h4 := HX.out.2
                          unfold ahd at h4
                          by_cases e0 : j = 0
                          · rw [if_pos e0] at h4; omega
                          · rw [if_neg e0] at h4
                            exact ⟨by omega, by rw [← HX.out.1, ← h4]; exact g3⟩
                        show _ = _
                        rw [HE.out]
                        exact crows_err HG.out (by omega) (crow_err HJ.out (by omega) (by rw [if_neg g0, if_pos hj0]) (by rw [← HN.out.1]; exact hlj)) hlt
                      clear g0
                      go_wp2
                      go_ret
                      exact ⟨by (first | (rw [HV.out]; rfl) | rw [HV.out]), rfl⟩
                    · have HV : Hid (crow n (Z i) (j + 1) = 0 ∧ x = ahd (Z i) (j + 1)) := by
                        refine ⟨crow_next HJ.out g0 (fun h5 => g3 ?_), ?_⟩
                        · have h4 := HX.out.2
                          unfold ahd at h4
                          rw [if_neg (by omega)] at h4
                          rw [HX.out.1, h4]; exact h5.2
                        · unfold ahd
                          rw [if_neg (by omega), Nat.add_sub_cancel]; exact HX.out.1
                      clear g0
                      go_wp2
                      go_roundw
                      case rel => exact ⟨j + 1, by omega, by go_num, by rw [HV.out.2], HV.out.1, by first | rfl | trivial⟩
                      case measure => simp [intOf]; omega
              · have hjb : ¬ (j : Int) < (Ni : Int) := by omega
                have HV : Hid (crows n N Z (i + 1) = 0) := crows_next HG.out (by rw [← HN.out.1, show Ni = j by omega]; exact HJ.out)
                go_wp2
                go_roundw
                case rel => exact ⟨i + 1, by omega, by go_num, HV.out, by first | rfl | trivial⟩
                case measure => simp [intOf]; omega
          · have hib : ¬ (i : Int) < (m : Int) := by omega
            have HV : Hid (E = 0) := by show _ = _; rw [HE.out, show m = i by omega]; exact HG.out
            go_wp2
            go_ret
            exact ⟨by (first | (rw [HV.out]; rfl) | rw [HV.out]), rfl⟩
end Go.Proofs.Ytjkncdmbcckcdab

/- Codes of few checks: those places of a check for which something holds (those); the sum of its bits (sum). -/
namespace Go.Proofs.Ytjkncdmbcckcdab
open Go.RowKit Go.Sort

set_option maxHeartbeats 4000000 in
set_option maxRecDepth 100000 in
theorem those_any {gf : Nat} {lb : Array Value} (eg : ∀ args w, (callFunc gf args).run Try.prog w = .ok (.enter gf args) w) {ao : Option Addr} {n cap : Nat} {z : Nat → Int} {p : Int → Bool} {w : World} (hs : SlZ ao n z w) (hn : n ≤ 100000)
    (hp : ∀ wx, Below w.heap.size w wx → ∀ j, j < n → Calls Try.prog gf (#[.int .i64 (z j)] ++ lb) wx fun e w' => e = .returned (.bool (p (z j))) ∧ w' = wx) :
    Calls Try.prog 27 #[.slice ao n cap, .func (.func gf) #[] lb] w fun e w' => ∃ v, e = .returned v ∧ OwnI w.heap.size v (selZ p z n) w' ∧ Below w.heap.size w w' := by
  have HS : Hid (SlZ ao n z w ∧ ∀ wx, Below w.heap.size w wx → ∀ j, j < n → Calls Try.prog gf (#[.int .i64 (z j)] ++ lb) wx fun e w' => e = .returned (.bool (p (z j))) ∧ w' = wx) := ⟨hs, hp⟩
  clear hs hp
  go_enter Try.func27, Try.ntmps27
  go_wp2
  go_loopw [5, 10] (fun vo vi wx => ∃ i : Nat, i ≤ n ∧ vi = .int .i64 (i : Nat) ∧ Hid (OwnI w.heap.size vo (selZ p z i) wx ∧ Below w.heap.size w wx)) (fun _ vi _ => n - (intOf vi).toNat)
  case atStart => exact ⟨0, by omega, rfl, OwnI.nil _ _, Below.refl _ _⟩
  case round =>
    obtain ⟨i, hi, rfl, HI⟩ := hrel
    rename World => wr
    by_cases hlt : i < n
    · have hib : (i : Int) < (n : Int) := by omega
      have hib0 : (0 : Int) ≤ (i : Int) := by omega
      obtain ⟨b, off, rfl, hc⟩ := (slz_below HS.out.1 HI.out.2) i hlt
      obtain ⟨x, hx⟩ : ∃ x, x = z i := ⟨_, rfl⟩
      rw [← hx] at hc
      obtain ⟨pb, hpb⟩ : ∃ pb, pb = p x := ⟨_, rfl⟩
      have hcall : Calls Try.prog gf (#[.int .i64 x] ++ lb) wr fun e w' => e = .returned (.bool pb) ∧ w' = wr := by
        rw [hpb, hx]; exact HS.out.2 wr HI.out.2 i hlt
      have HP : Hid (pb = p (z i) ∧ x = z i) := ⟨by rw [hpb, hx], hx⟩
      have hsr := HI.out.2.size
      clear hx hpb
      cases pb with
      | false =>
        have HV : Hid (selZ p z (i + 1) = selZ p z i) := if_neg (by rw [← HP.out.1]; intro h; cases h)
        go_wp2_with (go_at_fn gf; refine hcall.mono ?_; rintro e w' ⟨rfl, hw⟩; have hw := hw.symm; subst hw)
        go_roundw
        case rel => exact ⟨i + 1, by omega, by go_num, by rw [HV.out]; exact HI.out.1, HI.out.2⟩
        case measure => simp [intOf]; omega
      | true =>
        have HV : Hid (selZ p z (i + 1) = selZ p z i ++ [x]) := by
          show _ = _
          rw [HP.out.2]; exact if_pos HP.out.1.symm
        have hle := selZ_len p z i
        go_wp2_with (first
          | (go_at_fn gf; refine hcall.mono ?_; rintro e w' ⟨rfl, hw⟩; have hw := hw.symm; subst hw)
          | (at_builtin; refine append_int rfl _ _ rfl w.heap.size _ (selZ p z i) rfl (HI.out.1.alloc _) ⟨_, 0, none⟩ 1 x rfl (by simp) (by omega) (by simp; omega) ?_; intro v5 w5 hown5 hgrow5))
        have HR : Hid (OwnI w.heap.size v5 (selZ p z (i + 1)) w5 ∧ Below w.heap.size w w5) := ⟨by rw [HV.out]; exact hown5, (HI.out.2.alloc hsr _).grown hgrow5 (by simp; omega) (fun b hb => (HI.out.1.lt b hb).1)⟩
        clear hown5 hgrow5
        go_roundw
        case rel => exact ⟨i + 1, by omega, by go_num, HR.out⟩
        case measure => simp [intOf]; omega
    · have hib : ¬ (i : Int) < (n : Int) := by omega
      have hie : n = i := by omega
      subst hie
      go_wp2
      go_ret
      exact ⟨_, rfl, HI.out⟩
theorem own_form {base : Nat} {v : Value} {l : List Int} {w : World} (h : OwnI base v l w) : ∃ ao cap, v = .slice ao l.length cap := by
  rcases h.2 with ⟨h1, h2⟩ | ⟨g, cap, cur, hv, _⟩
  · exact ⟨none, 0, by rw [h1, h2]⟩
  · exact ⟨_, cap, hv⟩
theorem enters_sum1 : ∀ args w, (callFunc 59 args).run Try.prog w = .ok (.enter 59 args) w :=
  enters_of Try.func59 (by kernel_rfl) rfl
theorem enters_fill1 : ∀ args w, (callFunc 44 args).run Try.prog w = .ok (.enter 44 args) w :=
  enters_of Try.func44 (by kernel_rfl) rfl
set_option maxHeartbeats 2000000 in
theorem sum1_any {B : Nat} {wo : Option Addr} {n cw : Nat} {y : Nat → Int} {w : World} (hc : w.cell? ⟨B, 0, none⟩ = some (.slice wo n cw)) (hy : SlZ wo n y w) (x : Int) (h0 : 0 ≤ x) (h1 : x < (n : Int)) :
    Calls Try.prog 59 #[.int .i64 x, .pointer (some ⟨B, 0, none⟩)] w fun e w' => e = .returned (.bool (decide (y x.toNat = 1))) ∧ w' = w := by
  obtain ⟨j, rfl⟩ : ∃ j : Nat, x = (j : Int) := ⟨x.toNat, by omega⟩
  obtain ⟨b, off, rfl, hcx⟩ := hy j (by omega)
  obtain ⟨v, hv⟩ : ∃ v, v = y j := ⟨_, rfl⟩
  rw [← hv] at hcx
  have e : decide (y ((j : Nat) : Int).toNat = 1) = (v == 1) := by
    rw [Int.toNat_natCast, ← hv]
    by_cases h : v = 1
    · rw [h]; rfl
    · rw [decide_eq_false h, beq_eq_false_iff_ne.2 h]
  rw [e]
  clear hv hy e
  go_enter Try.func59, Try.ntmps59
  go_wp2
  go_ret
  exact ⟨rfl, rfl⟩
set_option maxHeartbeats 2000000 in
theorem fill1_any {B : Nat} {wo : Option Addr} {n cw : Nat} {y : Nat → Int} {w : World} (hc : w.cell? ⟨B, 0, none⟩ = some (.slice wo n cw)) (hy : SlZ wo n y w) (x : Int) (h0 : 0 ≤ x) (h1 : x < (n : Int)) :
    Calls Try.prog 44 #[.int .i64 x, .pointer (some ⟨B, 0, none⟩)] w fun e w' => e = .returned (.bool (decide (y x.toNat = -1))) ∧ w' = w := by
  obtain ⟨j, rfl⟩ : ∃ j : Nat, x = (j : Int) := ⟨x.toNat, by omega⟩
  obtain ⟨b, off, rfl, hcx⟩ := hy j (by omega)
  obtain ⟨v, hv⟩ : ∃ v, v = y j := ⟨_, rfl⟩
  rw [← hv] at hcx
  have e : decide (y ((j : Nat) : Int).toNat = -1) = (v == -1) := by
    rw [Int.toNat_natCast, ← hv]
    by_cases h : v = -1
    · rw [h]; rfl
    · rw [decide_eq_false h, beq_eq_false_iff_ne.2 h]
  rw [e]
  clear hv hy e
  go_enter Try.func44, Try.ntmps44
  go_wp2
  go_ret
  exact ⟨rfl, rfl⟩
set_option maxHeartbeats 4000000 in
set_option maxRecDepth 100000 in
theorem ssum_any {ao wo : Option Addr} {l ca n cw : Nat} {z y : Nat → Int} {w : World} (hz : SlZ ao l z w) (hy : SlZ wo n y w) (hl : l ≤ 100000) (hr : ∀ j, j < l → 0 ≤ z j ∧ z j < (n : Int)) :
    Calls Try.prog 45 #[.slice ao l ca, .slice wo n cw] w fun e w' => e = .returned (.int .i64 (par y z l : Nat)) ∧ Below w.heap.size w w' := by
  obtain ⟨w0, hw0⟩ : ∃ w0, w0 = w.alloc (.cells #[.slice wo n cw] 22) := ⟨_, rfl⟩
  have hb0 : Below w.heap.size w w0 := by rw [hw0]; exact (Below.refl _ _).alloc (Nat.le_refl _) _
  have hc0 : w0.cell? ⟨w.heap.size, 0, none⟩ = some (.slice wo n cw) := by rw [hw0, cell_of_row _ _ _ _ _ (0, 0) (two_new _)]; rfl
  obtain ⟨L, hL⟩ : ∃ L, L = selZ (fun x => decide (y x.toNat = 1)) z l := ⟨_, rfl⟩
  have HT : Hid (Calls Try.prog 27 #[.slice ao l ca, .func (.func 59) #[] #[.pointer (some ⟨w.heap.size, 0, none⟩)]] w0 fun e w' => ∃ v, e = .returned v ∧ OwnI w0.heap.size v L w' ∧ Below w0.heap.size w0 w') := by
    rw [hL]
    refine those_any enters_sum1 (slz_below hz hb0) hl (fun wx hb j hj => ?_)
    have e : (#[Value.int .i64 (z j)] ++ #[Value.pointer (some ⟨w.heap.size, 0, none⟩)] : Array Value) = #[.int .i64 (z j), .pointer (some ⟨w.heap.size, 0, none⟩)] := rfl
    rw [e]
    exact sum1_any (((bcell hb).1 w.heap.size 0 (by rw [hw0]; simp)).trans hc0) (slz_below (slz_below hy hb0) hb) (z j) (hr j hj).1 (hr j hj).2
  obtain ⟨k, hk⟩ : ∃ k, k = L.length := ⟨_, rfl⟩
  have hkl : k ≤ 100000 := by rw [hk, hL]; have := selZ_len (fun x => decide (y x.toNat = 1)) z l; omega
  obtain ⟨r, hr2⟩ : ∃ r, r = k % 2 := ⟨_, rfl⟩
  have hm : (k : Int).tmod 2 = (r : Int) := by rw [Int.tmod_eq_emod_of_nonneg (by omega)]; omega
  have HR : Hid (par y z l = r ∧ L.length = k ∧ Below w.heap.size w w0) := ⟨by unfold par; rw [hr2, hk, hL], hk.symm, hb0⟩
  clear hz hy hr hb0 hc0 hL hk hr2
  go_enter Try.func45, Try.ntmps45
  go_wp2_with fail
  rw [← hw0]
  clear hw0
  refine HT.out.mono ?_
  rintro e w1 ⟨v, rfl, hv, hb1⟩
  obtain ⟨vo, vc, hvv⟩ := own_form hv
  rw [HR.out.2.1] at hvv
  subst hvv
  have HB : Hid (Below w.heap.size w w1) := bel_up' HR.out.2.2 hb1
  clear hv hb1
  go_wp2
  go_ret
  exact ⟨by (first | (rw [HR.out.1]; rfl) | rw [HR.out.1]), HB.out⟩
end Go.Proofs.Ytjkncdmbcckcdab
