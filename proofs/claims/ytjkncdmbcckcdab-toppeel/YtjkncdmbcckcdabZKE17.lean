/- Texts of ours, one behind the other: KE17 KE18 KE19 KE20. -/
import Derived.Test.YtjkncdmbcckcdabZKE11
import Derived.Test.YtjkncdmbcckcdabZX18
import Derived.Test.YtjkncdmbcckcdabZR5
import Derived.Test.YtjkncdmbcckcdabZL10
/- Codes of few checks: the program's Stops. -/
namespace Go.Proofs.Ytjkncdmbcckcdab
open Go.RowKit Go.Sort

/-- 64 times no. -/
def tdc : Array Value := #[.bool false, .bool false, .bool false, .bool false, .bool false, .bool false, .bool false, .bool false, .bool false, .bool false, .bool false, .bool false, .bool false, .bool false, .bool false, .bool false, .bool false, .bool false, .bool false, .bool false, .bool false, .bool false, .bool false, .bool false, .bool false, .bool false, .bool false, .bool false, .bool false, .bool false, .bool false, .bool false, .bool false, .bool false, .bool false, .bool false, .bool false, .bool false, .bool false, .bool false, .bool false, .bool false, .bool false, .bool false, .bool false, .bool false, .bool false, .bool false, .bool false, .bool false, .bool false, .bool false, .bool false, .bool false, .bool false, .bool false, .bool false, .bool false, .bool false, .bool false, .bool false, .bool false, .bool false, .bool false]
set_option maxRecDepth 1000000 in
theorem told_is : tdc = Array.replicate 64 (.bool false) := by kernel_rfl
/-- Which of 64 places a list has. -/
def TdR (T : Nat) (l : List Int) (w : World) : Prop := RowF T 64 54 (fun o => .bool (decide ((o : Int) ∈ l))) w
theorem told_new (w : World) : TdR w.heap.size [] (w.alloc (.cells tdc 54)) := by
  rw [told_is]
  refine ⟨_, two_new _, by simp, fun o ho => ?_⟩
  rw [Array.getElem?_replicate, if_pos ho]
  rfl
theorem TdR.put {T : Nat} {l : List Int} {w : World} (h : TdR T l w) (x : Nat) : TdR T (l ++ [(x : Int)]) (w.setCell ⟨T, x, none⟩ (.bool true)) := by
  refine (RowF.store h x (.bool true)).congr (fun o _ => ?_)
  unfold upd
  by_cases e : o = x
  · rw [if_pos e, e, decide_eq_true (List.mem_append.2 (Or.inr (List.mem_singleton.2 rfl)))]
  · rw [if_neg e]
    have : ((o : Int) ∈ l ++ [(x : Int)]) ↔ ((o : Int) ∈ l) := by
      rw [List.mem_append, List.mem_singleton]
      exact ⟨fun h => h.elim id (fun h => absurd h (by omega)), Or.inl⟩
    rw [decide_eq_decide.2 this]
/-- Is it a place? -/
def isp (n x : Int) : Bool := decide (0 ≤ x ∧ x < n)
theorem enters_stops1 : ∀ args w, (callFunc 26 args).run Try.prog w = .ok (.enter 26 args) w :=
  enters_of Try.func26 (by kernel_rfl) rfl
set_option maxHeartbeats 2000000 in
set_option maxRecDepth 100000 in
theorem stops1_any {T : Nat} {l : List Int} {w : World} (h : TdR T l w) (x : Int) (h0 : 0 ≤ x) (h1 : x < 64) :
    Calls Try.prog 26 #[.int .i64 x, .pointer (some ⟨T, 0, none⟩)] w fun e w' => e = .returned (.bool (decide (x ∈ l))) ∧ w' = w := by
  obtain ⟨j, rfl⟩ : ∃ j : Nat, x = (j : Int) := ⟨x.toNat, by omega⟩
  have hj : j < 64 := by omega
  have hcx := RowF.cell h j hj
  obtain ⟨b, hb⟩ : ∃ b, b = decide ((j : Int) ∈ l) := ⟨_, rfl⟩
  rw [← hb] at hcx ⊢
  clear hb h
  go_enter Try.func26, Try.ntmps26
  go_wp2
  go_ret
  exact ⟨rfl, rfl⟩

set_option maxHeartbeats 16000000 in
set_option maxRecDepth 100000 in
theorem sstops_any {ao so : Option Addr} {m ca n l cs : Nat} {A : Nat → Option Addr} {N C : Nat → Nat} {Z : Nat → Nat → Int} {S : Nat → Int} {w : World} (hA : MatZ ao m A N C Z w) (hS : SlZ so l S w) (hl : l ≤ 6000) (hN : ∀ i, i < m → N i ≤ 6000) (h0 : schk (n : Int) m N Z = 0) :
    Calls Try.prog 13 #[.int .i64 (n : Nat), .slice ao m ca, .slice so l cs] w fun e w' => e = .returned (.tuple #[.bool (allP (isp n) S l && stopB (zl l S) N Z m), .int .i64 (if allP (isp n) S l = true then 0 else 10)]) ∧ Below w.heap.size w w' := by
  obtain ⟨g1, g2, g3, g4⟩ := schk_ok h0
  have hn : n ≤ 64 := by omega
  have hm : m ≤ 64 := g3
  obtain ⟨R, hR⟩ : ∃ R, R = (allP (isp n) S l && stopB (zl l S) N Z m) := ⟨_, rfl⟩
  obtain ⟨E, hE⟩ : ∃ E : Int, E = if allP (isp n) S l = true then 0 else 10 := ⟨_, rfl⟩
  have HCk : Hid (Calls Try.prog 21 #[.int .i64 (n : Nat), .slice ao m ca] w fun e w' => e = .returned (.int .i64 0) ∧ w' = w) := by
    have h := scheck_any (n : Int) (ca := ca) hA (by omega)
    rw [h0] at h; exact h
  have HF : Hid (MatZ ao m A N C Z w ∧ SlZ so l S w ∧ (∀ i, i < m → N i ≤ 6000) ∧ (∀ i, i < m → ∀ j, j < N i → 0 ≤ Z i j ∧ Z i j < (n : Int)) ∧ R = (allP (isp n) S l && stopB (zl l S) N Z m) ∧ E = if allP (isp n) S l = true then 0 else 10) := ⟨hA, hS, hN, g4, hR, hE⟩
  rw [← hR, ← hE]
  clear hA hS hN g1 g2 g3 g4 h0 hR hE
  have H0 : Hid (TdR w.heap.size [] (w.alloc (.cells tdc 54)) ∧ Below w.heap.size w (w.alloc (.cells tdc 54))) := ⟨told_new w, (Below.refl _ _).alloc (Nat.le_refl _) _⟩
  go_enter Try.func13, Try.ntmps13
  go_wp2_with fail
  refine HCk.out.mono ?_
  rintro e w' ⟨rfl, hw⟩
  have hw := hw.symm
  subst hw
  clear HCk
  go_wp2
  obtain ⟨T, hT⟩ : ∃ T, T = w.heap.size := ⟨_, rfl⟩
  rw [← hT]
  have HG : Hid (T = w.heap.size) := hT
  clear hT
  go_loopw [23] (fun vi wx => ∃ i : Nat, i ≤ l ∧ vi = .int .i64 (i : Nat) ∧ Hid (allP (isp n) S i = true ∧ TdR T (zl i S) wx ∧ Below w.heap.size w wx)) (fun vi _ => l - (intOf vi).toNat)
  case atStart => exact ⟨0, by omega, rfl, rfl, by rw [HG.out]; exact H0.out.1, H0.out.2⟩
  case round =>
    clear H0
    obtain ⟨i, hi, rfl, HI⟩ := hrel
    rename World => wA
    by_cases hlt : i < l
    · have hib : (i : Int) < (l : Int) := by omega
      have hib0 : (0 : Int) ≤ (i : Int) := by omega
      obtain ⟨b, off, rfl, hci⟩ := (slz_below HF.out.2.1 HI.out.2.2) i hlt
      obtain ⟨x, hx⟩ : ∃ x, x = S i := ⟨_, rfl⟩
      rw [← hx] at hci
      by_cases hp : 0 ≤ x ∧ x < (n : Int)
      · obtain ⟨X, rfl⟩ : ∃ X : Nat, x = (X : Int) := ⟨x.toNat, by omega⟩
        have hX0 : ¬ (X : Int) < 0 := by omega
        have hX1 : ¬ (X : Int) ≥ (n : Int) := by omega
        have hX2 : ¬ (n : Int) ≤ (X : Int) := by omega
        have hX3 : (X : Int) < 64 := by omega
        have hX4 : (0 : Int) ≤ (X : Int) := by omega
        have hX5 : X < 64 := by omega
        have hff := RowF.free HI.out.2.1 X
        have hcc := RowF.cell HI.out.2.1 X hX5
        have HR : Hid (allP (isp n) S (i + 1) = true ∧ TdR T (zl (i + 1) S) (wA.setCell ⟨T, X, none⟩ (.bool true)) ∧ Below w.heap.size w (wA.setCell ⟨T, X, none⟩ (.bool true))) := ⟨by show (allP (isp n) S i && isp n (S i)) = true; rw [HI.out.1, ← hx]; exact decide_eq_true hp, by rw [zl_succ, ← hx]; exact HI.out.2.1.put X, HI.out.2.2.setCell (by show w.heap.size ≤ T; rw [HG.out]; exact Nat.le_refl _) _⟩
        clear hp hx
        go_wp2
        go_roundw
        case rel => exact ⟨i + 1, by omega, by go_num, HR.out⟩
        case measure => simp [intOf]; omega
      · have HV : Hid (R = false ∧ E = 10) := by
          have h : allP (isp n) S l = false := allP_no (by rw [← hx]; exact decide_eq_false hp) l hlt
          exact ⟨by rw [HF.out.2.2.2.2.1, h]; rfl, by rw [HF.out.2.2.2.2.2, h]; rfl⟩
        have HB : Hid (Below w.heap.size w wA) := HI.out.2.2
        by_cases hneg : x < 0
        · clear hp hx
          go_wp2
          go_ret2
          exact ⟨by rw [HV.out.1, HV.out.2]; rfl, HB.out⟩
        · have hge : x ≥ (n : Int) := by omega
          have hge2 : (n : Int) ≤ x := by omega
          clear hp hx
          go_wp2
          go_ret2
          exact ⟨by rw [HV.out.1, HV.out.2]; rfl, HB.out⟩
    · have hib : ¬ (i : Int) < (l : Int) := by omega
      have hie : l = i := by omega
      subst hie
      obtain ⟨L, hL⟩ : ∃ L, L = zl l S := ⟨_, rfl⟩
      have HV : Hid (R = stopB L N Z m ∧ E = 0) := ⟨by rw [HF.out.2.2.2.2.1, HI.out.1, ← hL]; rfl, by rw [HF.out.2.2.2.2.2, HI.out.1]; rfl⟩
      have HT : Hid (TdR T L wA ∧ Below w.heap.size w wA) := ⟨by rw [hL]; exact HI.out.2.1, HI.out.2.2⟩
      clear HI hL
      have HTh : Hid (∀ wx, Below wA.heap.size wA wx → ∀ i, i < m → Calls Try.prog 27 #[.slice (A i) (N i) (C i), .func (.func 26) #[] #[.pointer (some ⟨T, 0, none⟩)]] wx fun e w' => ∃ vo vc, e = .returned (.slice vo (inN L (Z i) (N i)) vc) ∧ Below wx.heap.size wx w') := fun wx hbx i him => by
        refine (those_any (p := fun x => decide (x ∈ L)) enters_stops1 ((HF.out.1.below (bel_up' HT.out.2 hbx)).sl i him) (by have := HF.out.2.2.1 i him; omega) (fun wy hby j hj => ?_)).mono ?_
        · have e : (#[Value.int .i64 (Z i j)] ++ #[Value.pointer (some ⟨T, 0, none⟩)] : Array Value) = #[.int .i64 (Z i j), .pointer (some ⟨T, 0, none⟩)] := rfl
          rw [e]
          have hz := HF.out.2.2.2.1 i him j hj
          exact stops1_any (RowF.below (RowF.below HT.out.1 hbx (RowF.lt HT.out.1)) hby (RowF.lt (RowF.below HT.out.1 hbx (RowF.lt HT.out.1)))) (Z i j) hz.1 (by omega)
        · rintro e w' ⟨v, rfl, hv, hb⟩
          obtain ⟨vo, vc, rfl⟩ := own_form hv
          exact ⟨vo, vc, rfl, hb⟩
      go_wp2
      go_loopw [40] (fun vi wx => ∃ i : Nat, i ≤ m ∧ vi = .int .i64 (i : Nat) ∧ Hid (stopB L N Z i = true ∧ Below wA.heap.size wA wx)) (fun vi _ => m - (intOf vi).toNat)
      case atStart => exact ⟨0, by omega, rfl, rfl, Below.refl _ _⟩
      case round =>
        obtain ⟨i, hi, rfl, HI⟩ := hrel
        rename World => wB
        by_cases hlt : i < m
        · have hib : (i : Int) < (m : Int) := by omega
          have hib0 : (0 : Int) ≤ (i : Int) := by omega
          obtain ⟨b, off, rfl, hci⟩ := (HF.out.1.below (bel_up' HT.out.2 HI.out.2)).cell i hlt
          obtain ⟨K, hK⟩ : ∃ K, K = inN L (Z i) (N i) := ⟨_, rfl⟩
          obtain ⟨Ni, hNi⟩ : ∃ Ni, Ni = N i := ⟨_, rfl⟩
          obtain ⟨Ai, hAi⟩ : ∃ Ai, Ai = A i := ⟨_, rfl⟩
          obtain ⟨Ci, hCi⟩ : ∃ Ci, Ci = C i := ⟨_, rfl⟩
          rw [← hNi, ← hAi, ← hCi] at hci
          have HC : Hid (Calls Try.prog 27 #[.slice Ai Ni Ci, .func (.func 26) #[] #[.pointer (some ⟨T, 0, none⟩)]] wB fun e w' => ∃ vo vc, e = .returned (.slice vo K vc) ∧ Below wB.heap.size wB w') := by
            rw [hNi, hAi, hCi, hK]; exact HTh.out wB HI.out.2 i hlt
          have HK : Hid (K = inN L (Z i) (N i)) := hK
          have hK6 : K ≤ 6000 := by
            have h1 : inN L (Z i) (N i) ≤ N i := selZ_len _ _ _
            have := HF.out.2.2.1 i hlt
            omega
          clear hNi hAi hCi hK
          go_wp2_with fail
          refine HC.out.mono ?_
          rintro e w2 ⟨vo, vc, rfl, hb2⟩
          have HB : Hid (Below wA.heap.size wA w2) := bel_up' HI.out.2 hb2
          clear hb2
          by_cases h1 : K = 1
          · have hz1 : ((K : Int) == 1) = true := by rw [h1]; rfl
            have HR : Hid (R = false ∧ E = 0) := ⟨by rw [HV.out.1]; exact stopB_no (by rw [← HK.out]; exact h1) m hlt, HV.out.2⟩
            have HB2 : Hid (Below w.heap.size w w2) := bel_up' HT.out.2 HB.out
            clear h1
            go_wp2
            go_ret2
            exact ⟨by rw [HR.out.1, HR.out.2]; rfl, HB2.out⟩
          · have hz1 : ((K : Int) == 1) = false := by rw [beq_eq_false_iff_ne]; omega
            have HR : Hid (stopB L N Z (i + 1) = true) := by
              show (stopB L N Z i && !decide (inN L (Z i) (N i) = 1)) = true
              rw [HI.out.1, ← HK.out, decide_eq_false h1]; rfl
            clear h1
            go_wp2
            go_roundw
            case rel => exact ⟨i + 1, by omega, by go_num, HR.out, HB.out⟩
            case measure => simp [intOf]; omega
        · have hib : ¬ (i : Int) < (m : Int) := by omega
          have hie : m = i := by omega
          subst hie
          have HR : Hid (R = true ∧ E = 0 ∧ Below w.heap.size w wB) := ⟨by rw [HV.out.1]; exact HI.out.1, HV.out.2, bel_up' HT.out.2 HI.out.2⟩
          go_wp2
          go_ret2
          exact ⟨by rw [HR.out.1, HR.out.2.1]; rfl, HR.out.2.2⟩
end Go.Proofs.Ytjkncdmbcckcdab

/- Codes of few checks: the reference's Flipped. -/
namespace Go.Proofs.Ytjkncdmbcckcdab
open Go.RowKit Go.Sort

end Go.Proofs.Ytjkncdmbcckcdab

/- SparseSays: seven ways through it, over what its calls tell. -/
namespace Go.Proofs.Ytjkncdmbcckcdab
open Go.RowKit Go.Sort

end Go.Proofs.Ytjkncdmbcckcdab

/- SparseSays: whatever it is given. -/
namespace Go.Proofs.Ytjkncdmbcckcdab
open Go.RowKit Go.Sort

theorem SlZ.slI {ao : Option Addr} {n cap : Nat} {z : Nat → Int} {w : World} (h : SlZ ao n z w) (hn : n ≤ 1000000) : SliceI (.slice ao n cap) (zl n z) w := by
  by_cases h0 : n = 0
  · subst h0
    exact Or.inl ⟨rfl, ao, cap, rfl⟩
  · obtain ⟨b, off, rfl, _⟩ := h 0 (by omega)
    refine Or.inr ⟨fun e => ?_, by rw [zl_len]; exact hn, b, off, cap, by rw [zl_len], fun j hj => ?_⟩
    · have := congrArg List.length e
      rw [zl_len] at this
      exact h0 this
    · rw [zl_len] at hj
      obtain ⟨b', off', e, hc⟩ := h j hj
      cases e
      rw [zl_getD n z j hj]; exact hc
end Go.Proofs.Ytjkncdmbcckcdab
