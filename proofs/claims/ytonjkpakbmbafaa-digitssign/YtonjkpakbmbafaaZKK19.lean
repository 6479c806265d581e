/- Signs that check: the reference's SignOf. -/
import Derived.Test.YtonjkpakbmbafaaZKK14
import Derived.Test.YtonjkpakbmbafaaZKK16
import Derived.Test.YtonjkpakbmbafaaZKK17
import Derived.Test.YtonjkpakbmbafaaZKK18
import Derived.Test.YtonjkpakbmbafaaZW7
import Derived.Test.YtonjkpakbmbafaaZR3
namespace Go.Proofs.Ytonjkpakbmbafaa
open Go.RowKit

theorem checks_any {k : Nat} (h1 : 1 ≤ k) (h5 : k ≤ 5) {ao : Option Addr} {n ca : Nat} {d : Nat → Nat} {w : World} (hS : SlZ ao n (dgz d) w) (hd : ∀ j, j < n → d j ≤ sgx k) (hn : n ≤ 65) :
    Calls Try.prog 55 #[.int .i64 (k : Nat), .slice ao n ca] w fun e w' => e = .returned (.bool (ckk k n d)) ∧ Below w.heap.size w w' := by
  have hc : k = 1 ∨ k = 2 ∨ k = 3 ∨ k = 4 ∨ k = 5 := by omega
  rcases hc with rfl | rfl | rfl | rfl | rfl
  · exact checks_1 hS (fun j hj => by have := hd j hj; unfold sgx at this; rw [if_neg (by omega)] at this; omega) hn
  · exact checks_2 hS (fun j hj => by have := hd j hj; unfold sgx at this; rw [if_pos rfl] at this; omega) hn
  · exact checks_3 hS (fun j hj => by have := hd j hj; unfold sgx at this; rw [if_neg (by omega)] at this; omega) hn
  · exact checks_4 hS (fun j hj => by have := hd j hj; unfold sgx at this; rw [if_neg (by omega)] at this; omega) hn
  · exact checks_5 hS (fun j hj => by have := hd j hj; unfold sgx at this; rw [if_neg (by omega)] at this; omega) hn
theorem own_slz {base n : Nat} {v : Value} {z : Nat → Int} {w : World} (h : OwnI base v (zl n z) w) (h0 : 0 < n) : ∃ g cap, v = .slice (some ⟨g, 0, none⟩) n cap ∧ base ≤ g ∧ g < w.heap.size ∧ SlZ (some ⟨g, 0, none⟩) n z w := by
  obtain ⟨g, cap, f, rfl, hb, hl, hc, hm, hr, hf⟩ := h.row n (zl_len n z) h0
  exact ⟨g, cap, rfl, hb, hl, fun j hj => ⟨g, 0, rfl, by rw [Nat.zero_add, hr.cell j (by omega), hf j hj, zl_getD n z j hj]⟩⟩
theorem zl_xtn (n v : Nat) (d : Nat → Nat) : zl (n + 1) (dgz (xtn d n v)) = zl n (dgz d) ++ [(v : Int)] := by
  rw [zl_succ, zl_congr (y := dgz d) (fun j hj => by unfold dgz; rw [xtn_lt hj])]
  unfold dgz; rw [xtn_at]

set_option maxHeartbeats 8000000 in
set_option maxRecDepth 100000 in
theorem signOf_any {k : Nat} (h1 : 1 ≤ k) (h5 : k ≤ 5) (s : ByteArray) (w : World) (hm : sgm k s.size) (hdg : dgs s s.size = true) :
    Calls Try.prog 26 #[.int .i64 (k : Nat), .string s] w fun e w' => e = .returned (.string (sgS (sgn k s.size (tdg s)))) ∧ Below w.heap.size w w' := by
  obtain ⟨S, hS⟩ : ∃ S, S = sgn k s.size (tdg s) := ⟨_, rfl⟩
  have hSx : S ≤ sgx k := by rw [hS]; exact sgn_le (tdg_lt hdg)
  have HF : Hid (sgm k s.size ∧ dgs s s.size = true ∧ (∀ v, v ≤ sgx k → (ckk k (s.size + 1) (xtn (tdg s) s.size v) = true ↔ v = S)) ∧ S ≤ sgx k) := ⟨hm, hdg, fun v hv => by rw [hS]; exact ckk_iff hm hv (tdg_lt hdg), hSx⟩
  have hsz : s.size ≤ 64 := hm.2.1
  have hs0 : 0 < s.size := hm.1
  rw [← hS]
  clear hS hm hdg hSx
  go_enter Try.func26, Try.ntmps26
  go_wp2
  go_loopw [5, 6] (fun vd vi wr => ∃ (r : Nat), r ≤ s.size ∧ vi = .int .i64 (r : Nat) ∧ Hid (OwnI w.heap.size vd (zl r (dgz (tdg s))) wr ∧ Below w.heap.size w wr)) (fun _ vi _ => s.size - (intOf vi).toNat)
  case atStart => exact ⟨0, by omega, rfl, OwnI.nil _ _, Below.refl _ _⟩
  case round =>
    obtain ⟨r, hr, rfl, HG⟩ := hrel
    rename World => wr
    have hsw := HG.out.2.size
    by_cases hlt : r < s.size
    · have hib : (r : Int) < (s.size : Int) := by omega
      have hib0 : (0 : Int) ≤ (r : Int) := by omega
      have hbt := byt_at s r hlt
      have hd := dgs_at _ HF.out.2.1 r hlt
      obtain ⟨y, hy⟩ : ∃ y, y = tdg s r := ⟨_, rfl⟩
      have hyb : byt s r = 48 + y := by rw [hy]; unfold tdg; omega
      have wu : IntKind.u8.wrap (((s[r]'hlt).toNat : Int) - 48) = (y : Int) := by rw [show ((s[r]'hlt).toNat : Int) - 48 = (y : Int) by omega]; exact u8_ten y (by omega)
      have hy10 : y < 10 := by omega
      have HY : Hid (zl (r + 1) (dgz (tdg s)) = zl r (dgz (tdg s)) ++ [(y : Int)]) := by show zl (r + 1) _ = _; rw [zl_succ, hy]; rfl
      clear hbt hd hy hyb
      go_wp2_with (at_builtin; refine append_int rfl _ _ rfl w.heap.size _ (zl r (dgz (tdg s))) rfl (HG.out.1.alloc _) ⟨_, 0, none⟩ 1 (y : Int) rfl (by simp) (by rw [zl_len]; omega) (by simp; omega) ?_; intro v3 w3 hown3 hgrow3)
      have HX : Hid (OwnI w.heap.size v3 (zl (r + 1) (dgz (tdg s))) w3 ∧ Below w.heap.size w w3) := ⟨by rw [HY.out]; exact hown3, (HG.out.2.alloc hsw _).grown hgrow3 (by simp; omega) (fun k hk => (HG.out.1.lt k hk).1)⟩
      clear hown3 hgrow3
      go_roundw
      case rel => exact ⟨r + 1, by omega, by go_num, HX.out⟩
      case measure => simp [intOf]; omega
    · have hib : ¬ (r : Int) < (s.size : Int) := by omega
      have hre : r = s.size := by omega
      have hown := HG.out.1
      rw [hre] at hown
      obtain ⟨g, cap, hu5, hbg, hgl, hsl⟩ := own_slz hown hs0
      obtain ⟨M, hM⟩ : ∃ M, M = sgx k := ⟨_, rfl⟩
      have HL : Hid (SlZ (some ⟨g, 0, none⟩) s.size (dgz (tdg s)) wr ∧ Below w.heap.size w wr ∧ g < wr.heap.size ∧ M = sgx k ∧ w.heap.size ≤ wr.heap.size) := ⟨hsl, HG.out.2, hgl, hM, hsw⟩
      subst hu5
      have hMb : M ≤ 10 := by rw [hM]; unfold sgx; split <;> omega
      have hMk : (k = 2 ∧ M = 10) ∨ (¬ k = 2 ∧ M = 9) := by
        rw [hM]; unfold sgx
        by_cases e : k = 2
        · left; exact ⟨e, if_pos e⟩
        · right; exact ⟨e, if_neg e⟩
      clear hown hsl hM hre hbg hgl HG
      rcases hMk with ⟨hk2, hM10⟩ | ⟨hk2, hM9⟩
      · have hz : ((k : Int) == 2) = true := by rw [hk2]; rfl
        have HM : Hid (S ≤ 10 ∧ (10 : Nat) = sgx k) := by
          have h := HF.out.2.2.2
          have h2 := HL.out.2.2.2.1
          exact ⟨by omega, by omega⟩
        clear hk2 hM10
        go_wp2
        go_loopw [8] (fun vi wx => ∃ (v : Nat), v ≤ S ∧ vi = .int .i64 (v : Nat) ∧ Hid (Below wr.heap.size wr wx)) (fun vi _ => S - (intOf vi).toNat)
        case atStart => exact ⟨0, by omega, rfl, Below.refl _ _⟩
        case round =>
          obtain ⟨v, hv, rfl, HJ⟩ := hrel
          rename World => wx
          have hvM : v ≤ 10 := by have := HM.out.1; omega
          have hvi : (v : Int) ≤ 10 := by omega
          have hwx := HJ.out.size
          have HCp : Hid (Calls Try.prog 56 #[.slice (some ⟨g, 0, none⟩) s.size cap] wx fun e w' => ∃ v, e = .returned v ∧ OwnI wx.heap.size v (zl s.size (dgz (tdg s))) w' ∧ Below wx.heap.size wx w') :=
            copyI_any (slz_below HL.out.1 HJ.out) (by omega) (fun h => by cases h) (fun x hx => by cases hx; have := HL.out.2.2.1; show g < _; omega)
          go_wp2_with fail
          refine HCp.out.mono ?_
          rintro e w4 ⟨v4, rfl, ho4, hb4⟩
          have hs4 := hb4.size
          go_wp2_with (at_builtin; refine append_int rfl _ _ rfl wx.heap.size _ (zl s.size (dgz (tdg s))) rfl (ho4.alloc _) ⟨_, 0, none⟩ 1 (v : Int) rfl (by simp) (by rw [zl_len]; omega) (by simp; omega) ?_; intro v5 w5 ho5 hg5; replace ho5 : OwnI wx.heap.size v5 (zl (s.size + 1) (dgz (xtn (tdg s) s.size v))) w5 := (zl_xtn s.size v (tdg s)).symm ▸ ho5; obtain ⟨g5, cap5, hv5, hbg5, hgl5, hsl5⟩ := own_slz ho5 (by omega); subst hv5)
          have hb5 : Below wx.heap.size wx w5 := (hb4.alloc hs4 _).grown hg5 (by simp; omega) (fun k hk => (ho4.lt k hk).1)
          obtain ⟨C, hC⟩ : ∃ C, C = ckk k (s.size + 1) (xtn (tdg s) s.size v) := ⟨_, rfl⟩
          have HCh : Hid (Calls Try.prog 55 #[.int .i64 (k : Nat), .slice (some ⟨g5, 0, none⟩) (s.size + 1) cap5] w5 fun e w' => e = .returned (.bool C) ∧ Below w5.heap.size w5 w') := by
            rw [hC]
            refine checks_any h1 h5 hsl5 (fun j hj => ?_) (by omega)
            by_cases e : j = s.size
            · rw [e, xtn_at]; have := HM.out.2; omega
            · rw [xtn_lt (by omega)]
              have h := tdg_lt HF.out.2.1 j (by omega)
              unfold sgx; split <;> omega
          have HK : Hid (C = true ↔ v = S) := by show C = true ↔ v = S; rw [hC]; exact HF.out.2.2.1 v (by have := HM.out.2; omega)
          have HW : Hid (Below wx.heap.size wx w5) := hb5
          clear hC ho5 hg5 ho4 hb4 hsl5 hbg5 hgl5 hb5 hs4
          refine HCh.out.mono ?_
          rintro e w6 ⟨rfl, hb6⟩
          have HE : Hid (Below w.heap.size w w6 ∧ Below wr.heap.size wr w6) := by
            have h1 : Below wx.heap.size wx w6 := HW.out.trans ⟨hb6.os, hb6.tape, hb6.output, hb6.size, fun k hk => hb6.block k (by have := HW.out.size; omega)⟩
            have h2 : Below wr.heap.size wr w6 := HJ.out.trans ⟨h1.os, h1.tape, h1.output, h1.size, fun k hk => h1.block k (by omega)⟩
            exact ⟨HL.out.2.1.trans ⟨h2.os, h2.tape, h2.output, h2.size, fun k hk => h2.block k (by have := HL.out.2.2.2.2; omega)⟩, h2⟩
          clear hb6
          by_cases hve : v = S
          · have hCt : C = true := HK.out.2 hve
            obtain ⟨v1, hv1⟩ : ∃ v1, v1 = v + 1 := ⟨_, rfl⟩
            have wv : IntKind.i64.wrap ((v : Int) + 1) = (v1 : Int) := wrpT (by omega) (by omega)
            have HR : Hid (sgS S = sgA.extract v v1) := by show sgS S = _; rw [← hve, hv1]; rfl
            have hv1a : (v : Int) ≤ (v1 : Int) := by omega
            have hv1b : (v1 : Int) ≤ 11 := by omega
            subst hCt
            clear hve hv1
            go_wp2
            go_ret
            exact ⟨by rw [HR.out]; rfl, HE.out.1⟩
          · have hCf : C = false := by
              cases hc : C with
              | false => rfl
              | true => exact absurd (HK.out.1 hc) hve
            subst hCf
            have hv2 : v + 1 ≤ S := by omega
            clear hve
            go_wp2
            go_roundw
            case rel => exact ⟨v + 1, hv2, by go_num, HE.out.2⟩
            case measure => simp [intOf]; omega
      · have hz : ((k : Int) == 2) = false := by rw [beq_eq_false_iff_ne]; omega
        have HM : Hid (S ≤ 9 ∧ (9 : Nat) = sgx k) := by
          have h := HF.out.2.2.2
          have h2 := HL.out.2.2.2.1
          exact ⟨by omega, by omega⟩
        clear hk2 hM9
        go_wp2
        go_loopw [8] (fun vi wx => ∃ (v : Nat), v ≤ S ∧ vi = .int .i64 (v : Nat) ∧ Hid (Below wr.heap.size wr wx)) (fun vi _ => S - (intOf vi).toNat)
        case atStart => exact ⟨0, by omega, rfl, Below.refl _ _⟩
        case round =>
          obtain ⟨v, hv, rfl, HJ⟩ := hrel
          rename World => wx
          have hvM : v ≤ 9 := by have := HM.out.1; omega
          have hvi : (v : Int) ≤ 9 := by omega
          have hwx := HJ.out.size
          have HCp : Hid (Calls Try.prog 56 #[.slice (some ⟨g, 0, none⟩) s.size cap] wx fun e w' => ∃ v, e = .returned v ∧ OwnI wx.heap.size v (zl s.size (dgz (tdg s))) w' ∧ Below wx.heap.size wx w') :=
            copyI_any (slz_below HL.out.1 HJ.out) (by omega) (fun h => by cases h) (fun x hx => by cases hx; have := HL.out.2.2.1; show g < _; omega)
          go_wp2_with fail
          refine HCp.out.mono ?_
          rintro e w4 ⟨v4, rfl, ho4, hb4⟩
          have hs4 := hb4.size
          go_wp2_with (at_builtin; refine append_int rfl _ _ rfl wx.heap.size _ (zl s.size (dgz (tdg s))) rfl (ho4.alloc _) ⟨_, 0, none⟩ 1 (v : Int) rfl (by simp) (by rw [zl_len]; omega) (by simp; omega) ?_; intro v5 w5 ho5 hg5; replace ho5 : OwnI wx.heap.size v5 (zl (s.size + 1) (dgz (xtn (tdg s) s.size v))) w5 := (zl_xtn s.size v (tdg s)).symm ▸ ho5; obtain ⟨g5, cap5, hv5, hbg5, hgl5, hsl5⟩ := own_slz ho5 (by omega); subst hv5)
          have hb5 : Below wx.heap.size wx w5 := (hb4.alloc hs4 _).grown hg5 (by simp; omega) (fun k hk => (ho4.lt k hk).1)
          obtain ⟨C, hC⟩ : ∃ C, C = ckk k (s.size + 1) (xtn (tdg s) s.size v) := ⟨_, rfl⟩
          have HCh : Hid (Calls Try.prog 55 #[.int .i64 (k : Nat), .slice (some ⟨g5, 0, none⟩) (s.size + 1) cap5] w5 fun e w' => e = .returned (.bool C) ∧ Below w5.heap.size w5 w') := by
            rw [hC]
            refine checks_any h1 h5 hsl5 (fun j hj => ?_) (by omega)
            by_cases e : j = s.size
            · rw [e, xtn_at]; have := HM.out.2; omega
            · rw [xtn_lt (by omega)]
              have h := tdg_lt HF.out.2.1 j (by omega)
              unfold sgx; split <;> omega
          have HK : Hid (C = true ↔ v = S) := by show C = true ↔ v = S; rw [hC]; exact HF.out.2.2.1 v (by have := HM.out.2; omega)
          have HW : Hid (Below wx.heap.size wx w5) := hb5
          clear hC ho5 hg5 ho4 hb4 hsl5 hbg5 hgl5 hb5 hs4
          refine HCh.out.mono ?_
          rintro e w6 ⟨rfl, hb6⟩
          have HE : Hid (Below w.heap.size w w6 ∧ Below wr.heap.size wr w6) := by
            have h1 : Below wx.heap.size wx w6 := HW.out.trans ⟨hb6.os, hb6.tape, hb6.output, hb6.size, fun k hk => hb6.block k (by have := HW.out.size; omega)⟩
            have h2 : Below wr.heap.size wr w6 := HJ.out.trans ⟨h1.os, h1.tape, h1.output, h1.size, fun k hk => h1.block k (by omega)⟩
            exact ⟨HL.out.2.1.trans ⟨h2.os, h2.tape, h2.output, h2.size, fun k hk => h2.block k (by have := HL.out.2.2.2.2; omega)⟩, h2⟩
          clear hb6
          by_cases hve : v = S
          · have hCt : C = true := HK.out.2 hve
            obtain ⟨v1, hv1⟩ : ∃ v1, v1 = v + 1 := ⟨_, rfl⟩
            have wv : IntKind.i64.wrap ((v : Int) + 1) = (v1 : Int) := wrpT (by omega) (by omega)
            have HR : Hid (sgS S = sgA.extract v v1) := by show sgS S = _; rw [← hve, hv1]; rfl
            have hv1a : (v : Int) ≤ (v1 : Int) := by omega
            have hv1b : (v1 : Int) ≤ 11 := by omega
            subst hCt
            clear hve hv1
            go_wp2
            go_ret
            exact ⟨by rw [HR.out]; rfl, HE.out.1⟩
          · have hCf : C = false := by
              cases hc : C with
              | false => rfl
              | true => exact absurd (HK.out.1 hc) hve
            subst hCf
            have hv2 : v + 1 ≤ S := by omega
            clear hve
            go_wp2
            go_roundw
            case rel => exact ⟨v + 1, hv2, by go_num, HE.out.2⟩
            case measure => simp [intOf]; omega
end Go.Proofs.Ytonjkpakbmbafaa
