/- Texts of ours, one behind the other: U6 U7 U8. -/
import Derived.Test.YtjkncdmbcckcdaaZU4
import Derived.Test.YtjkncdmbcckcdaaZN2
/- The program's sums of polynomials. -/
namespace Go.Proofs.Ytjkncdmbcckcdaa
open Go.RowKit

set_option maxHeartbeats 4000000 in
set_option maxRecDepth 100000 in
theorem psum_any {F T : Nat} {D : FD} (hD : D ∈ fieldsL) {g : Nat → Value} {w : World} (h : FAt F T D g w) {ao bo : Option Addr} {n m ca cb : Nat} {a b : Nat → Nat} (hn : n ≤ 1000) (hm : m ≤ 1000) (ha : El D a) (hb : El D b) (hbn : Bd n a) (hbm : Bd m b) (hA : Sl ao n a w) (hB : Sl bo m b w) (hla : LtB ao w.heap.size) (hlb : LtB bo w.heap.size) :
    Calls Try.prog 106 #[.pointer (some ⟨F, 0, none⟩), .slice ao n ca, .slice bo m cb] w fun e w' =>
      ∃ v, e = .returned v ∧ OwnP w.heap.size v (dgn (padd D a b) (max n m)) (padd D a b) w' ∧ Below w.heap.size w w' := by
  have HF : Hid (FAt F T D g w ∧ D ∈ fieldsL ∧ Sl ao n a w ∧ Sl bo m b w ∧ El D a ∧ El D b ∧ Bd n a ∧ Bd m b) := ⟨h, hD, hA, hB, ha, hb, hbn, hbm⟩
  have HL : Hid (LtB ao w.heap.size ∧ LtB bo w.heap.size) := ⟨hla, hlb⟩
  clear h hD hA hB ha hb hbn hbm hla hlb
  obtain ⟨N, hN⟩ : ∃ N, N = max n m := ⟨_, rfl⟩
  rw [← hN]
  have hN2 : N ≤ 1000 := by omega
  have hnN : n ≤ N := by omega
  have hmN : m ≤ N := by omega
  have hmax : (if (n : Int) < (m : Int) then (m : Int) else (n : Int)) = (N : Int) := by split <;> omega
  have HN : Hid (N = max n m) := hN
  clear hN
  go_enter Try.func106, Try.ntmps106
  go_wp2_with (first
    | (at_make; refine make_int rfl _ _ rfl _ N rfl rfl (by have := HN.out; omega) (by omega) ?_; intro w1 hown1 hgrow1)
    | (show wpList _ _ _ (Oper.mk (some 18) _ _ _ _ _ :: _) _ _; (refine copy_int rfl _ _ rfl w.heap.size N N n ca ao rfl rfl pnil a (row_zeros hown1) (HF.out.2.2.1.below (below_grown hgrow1 (Nat.le_refl _) (fun k hk => by simp at hk)) HL.out.1) hnN w.heap.size w (below_grown hgrow1 (Nat.le_refl _) (fun k hk => by simp at hk)) (Nat.le_refl _) ?_); intro w2 hrow2 hb2))
  all_goals
    have HB1 : Hid (Below w.heap.size w w2 ∧ Row w.heap.size N a w2) := ⟨hb2, hrow2.congr (fun k _ => by show (if k < n then a k else pnil k) = a k; split; rfl; exact (HF.out.2.2.2.2.2.2.1 k (by omega)).symm)⟩
    clear hown1 hgrow1 hb2 hrow2
    go_loopw [21] (fun i wr => ∃ r : Nat, r ≤ m ∧ i = .int .i64 r ∧ Row w.heap.size N (fun k => if k < r then D.ad (a k) (b k) else a k) wr ∧ Below w.heap.size w wr) (fun i _ => m - (intOf i).toNat)
    case atStart => exact ⟨0, by omega, rfl, HB1.out.2.congr (fun k _ => by rw [if_neg (by omega)]), HB1.out.1⟩
    case round =>
      obtain ⟨r, hr, rfl, hrow, hbel⟩ := hrel
      have HG : Hid (Row w.heap.size N (fun k => if k < r then D.ad (a k) (b k) else a k) wr ∧ Below w.heap.size w wr) := ⟨hrow, hbel⟩
      clear hrow hbel
      by_cases hlt : r < m
      · obtain ⟨bb, offb, rfl, hcb⟩ := (HF.out.2.2.2.1.below HG.out.2 HL.out.2) r hlt
        have hco : wr.cell? ⟨w.heap.size, r, none⟩ = some (.int .i64 (a r : Nat)) := by
          have h := HG.out.1.cell r (by omega)
          rw [if_neg (by omega)] at h; exact h
        have hfo := HG.out.1.free r
        obtain ⟨z, hz⟩ : ∃ z, z = D.ad (a r) (b r) := ⟨_, rfl⟩
        have HC2 : Hid (Calls Try.prog 122 #[.pointer (some ⟨F, 0, none⟩), .int .i64 (a r : Nat), .int .i64 (b r : Nat)] wr fun e w' => e = .returned (.int .i64 (z : Nat)) ∧ ∃ k, w' = wr.drewN k) := by
          show Calls _ _ _ _ _
          rw [hz]; exact add_nat HF.out.2.1 (HF.out.1.below HG.out.2 HF.out.1.ltF HF.out.1.ltT) (HF.out.2.2.2.2.1 r) (HF.out.2.2.2.2.2.1 r)
        have HV : Hid (Row w.heap.size N (fun k => if k < r then D.ad (a k) (b k) else a k) wr ∧ Below w.heap.size w wr ∧ ∀ k, k < N → (if k < r + 1 then D.ad (a k) (b k) else a k) = if k = r then z else if k < r then D.ad (a k) (b k) else a k) :=
          ⟨HG.out.1, HG.out.2, fun k _ => by
            rw [hz]
            by_cases e : k = r
            · rw [if_pos e, if_pos (by omega), e]
            · rw [if_neg e]
              by_cases e2 : k < r
              · rw [if_pos e2, if_pos (by omega)]
              · rw [if_neg e2, if_neg (by omega)]⟩
        clear hz HG
        have hib : (r : Int) < (N : Int) := by omega
        go_wp2_with (go_at_call 122; refine HC2.out.mono ?_; rintro e w' ⟨rfl, nq, rfl⟩)
        go_roundw
        case rel => exact ⟨r + 1, by omega, by go_num, (HV.out.1.drewN nq).store r z (fun k hk => HV.out.2.2 k hk), (below_drewN2 HV.out.2.1 nq).setCell (by simp) _⟩
        case measure => simp [intOf]; omega
      · have HE : Hid (Row w.heap.size N (padd D a b) wr) := HG.out.1.congr (fun k _ => by
          show (if k < r then D.ad (a k) (b k) else a k) = D.ad (a k) (b k)
          split
          · rfl
          · rw [HF.out.2.2.2.2.2.2.2 k (by omega), ad_zero (fld HF.out.2.1) (HF.out.2.2.2.2.1 k)])
        go_wp2_with fail
        refine (trim_any (HE.out.sl (Nat.le_refl _)) (Nat.le_refl _) (by omega)).mono ?_
        rintro e w' ⟨rfl, k, rfl⟩
        go_wp2
        go_ret
        exact ⟨_, rfl, OwnP.of_row (HE.out.drewN k) (dgn_le _ _) (dgn_le _ _) (by omega) (Nat.le_refl _), below_drewN2 HG.out.2 _⟩
end Go.Proofs.Ytjkncdmbcckcdaa

/- The program's division of polynomials. -/
namespace Go.Proofs.Ytjkncdmbcckcdaa
open Go.RowKit

theorem OwnP.setOther {base n : Nat} {v : Value} {c : Nat → Nat} {w : World} (h : OwnP base v n c w) (a : Addr) (ha : ∀ g, v.ownBlock = some g → g ≠ a.block) (u : Value) : OwnP base v n c (w.setCell a u) := by
  obtain ⟨ao, cap, rfl, h1, h2, hg, hl, hz, hr⟩ := h
  refine ⟨ao, cap, rfl, h1, h2, hg, fun x hx => by simpa [World.setCell] using hl x hx, hz, fun h0 => ?_⟩
  obtain ⟨g, rfl, hrow⟩ := hr h0
  exact ⟨g, rfl, hrow.other (Below.heap_setCell _ _ _ _ (ha g rfl))⟩
theorem OwnP.store {base n cap g : Nat} {c d : Nat → Nat} {w : World} (h : OwnP base (.slice (some ⟨g, 0, none⟩) n cap) n c w) (k u : Nat) (h0 : 0 < n) (hd : ∀ j, j < n → d j = if j = k then u else c j) :
    OwnP base (.slice (some ⟨g, 0, none⟩) n cap) n d (w.setCell ⟨g, k, none⟩ (.int .i64 (u : Nat))) := by
  obtain ⟨ao, cap', hv, h1, h2, hg, hl, hz, hr⟩ := h
  simp only [Value.slice.injEq, true_and] at hv
  obtain ⟨rfl, rfl⟩ := hv
  obtain ⟨g', e, hrow⟩ := hr h0
  cases e
  exact ⟨_, cap, rfl, h1, h2, hg, fun x hx => by simpa [World.setCell] using hl x hx, fun e => (by cases e), fun _ => ⟨g, rfl, hrow.store k u hd⟩⟩

theorem OwnP.row {base n cap : Nat} {ao : Option Addr} {c : Nat → Nat} {w : World} (h : OwnP base (.slice ao n cap) n c w) (h0 : 0 < n) : ∃ g, ao = some ⟨g, 0, none⟩ ∧ base ≤ g ∧ g < w.heap.size ∧ Row g n c w := by
  obtain ⟨ao', cap', hv, h1, h2, hg, hl, hz, hr⟩ := h
  simp only [Value.slice.injEq, true_and] at hv
  obtain ⟨rfl, rfl⟩ := hv
  obtain ⟨g, rfl, hrow⟩ := hr h0
  exact ⟨g, rfl, hg _ rfl, hl _ rfl, hrow⟩

end Go.Proofs.Ytjkncdmbcckcdaa

/- The program's division of polynomials: the walk. -/
namespace Go.Proofs.Ytjkncdmbcckcdaa
open Go.RowKit

end Go.Proofs.Ytjkncdmbcckcdaa
