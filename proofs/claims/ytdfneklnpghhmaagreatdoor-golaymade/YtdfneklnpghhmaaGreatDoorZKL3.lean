/- Texts of ours, one behind the other: KL3 KL4. -/
import Derived.Test.YtdfneklnpghhmaaGreatDoorZKI21
import Derived.Test.YtdfneklnpghhmaaGreatDoorZI6
import Derived.Test.YtdfneklnpghhmaaGreatDoorZX12
import Derived.Deep.RegionHeld3
import Derived.Test.YtdfneklnpghhmaaGreatDoorZKA6
import Derived.Test.YtdfneklnpghhmaaGreatDoorZW11
/- Ranges over span.Words: goThrough, whole. -/
namespace Go.Proofs.YtdfneklnpghhmaaGreatDoor
open Go.RowKit Go.Sort

/-- The number whose digits to the base q are the first values of z. -/
def hnm (q : Nat) (z : Nat → Nat) : Nat → Nat
  | 0 => 0
  | i + 1 => hnm q z i * q + z i
theorem hnm_congr {q : Nat} {z y : Nat → Nat} : ∀ i, (∀ j, j < i → z j = y j) → hnm q z i = hnm q y i
  | 0, _ => rfl
  | i + 1, h => by
    show hnm q z i * q + z i = hnm q y i * q + y i
    rw [hnm_congr i (fun j hj => h j (by omega)), h i (by omega)]
theorem hnm_lt {q : Nat} {z : Nat → Nat} : ∀ i, (∀ j, j < i → z j < q) → hnm q z i < q ^ i
  | 0, _ => by show 0 < 1; omega
  | i + 1, h => by
    have h1 := hnm_lt i (fun j hj => h j (by omega))
    have h2 := h i (by omega)
    show hnm q z i * q + z i < q ^ (i + 1)
    have h3 : (hnm q z i + 1) * q ≤ q ^ i * q := Nat.mul_le_mul_right q h1
    rw [Nat.pow_succ]
    rw [Nat.add_mul, Nat.one_mul] at h3
    omega
theorem enw_zc {D : FD} {R : Nat → Nat → Nat} {z y : Nat → Nat} : ∀ {k : Nat}, (∀ i, i < k → z i = y i) → enw D R z k = enw D R y k
  | 0, _ => rfl
  | k + 1, h => by
    show padd D (enw D R z k) (pscale D (z k) (R k)) = padd D (enw D R y k) (pscale D (y k) (R k))
    rw [enw_zc (fun i hi => h i (by omega)), h k (by omega)]
/-- The r-th word: what is handed on. -/
def WdE (D : FD) (R : Nat → Nat → Nat) (n K B0 : Nat) (r : Nat) (args : Array Value) (X : World) : Prop :=
  ∃ z g c, (∀ i, i < K → z i < D.q) ∧ hnm D.q z K = r ∧ args = #[.slice (some ⟨g, 0, none⟩) n c] ∧ n ≤ c ∧ c ≤ 9223372036854775807 ∧ Row g n (enw D R z K) X ∧ B0 ≤ g
theorem FAt.keepO {own : Nat → Prop} {F T : Nat} {D : FD} {g : Nat → Value} {X Y : World} (h : FAt F T D g X) (k : KpO own X Y) (hF : ¬ own F) (hT : ¬ own T) : FAt F T D g Y := by
  refine ⟨?_, h.row.other (k.same T h.ltT hT), h.tab, Nat.lt_of_lt_of_le h.ltF k.size⟩
  have := h.ptr
  unfold World.cell? at this ⊢
  rw [k.same F h.ltF hF]; exact this
theorem Row.keepO {own : Nat → Prop} {g n : Nat} {c : Nat → Nat} {X Y : World} (h : Row g n c X) (k : KpO own X Y) (hg : ¬ own g) : Row g n c Y := h.other (k.same g h.lt hg)
theorem Mx.keepO {own : Nat → Prop} {B G m k n : Nat} {R : Nat → Nat → Nat} {h : Nat → Nat} {X Y : World} (H : Mx B G m k n R h X) (hk : KpO own X Y) (hG : ¬ own G) (hh : ∀ i, i < k → ¬ own (h i)) : Mx B G m k n R h Y := by
  obtain ⟨f, hf, he⟩ := H.outer
  exact ⟨⟨f, hf.other (hk.same G hf.lt hG), he⟩, fun i hi => (H.row i hi).keepO hk (hh i hi), H.geG, H.ge, H.inj, H.ne, H.le⟩
theorem Mx.cellG {B G m k n : Nat} {R : Nat → Nat → Nat} {h : Nat → Nat} {X : World} (H : Mx B G m k n R h X) (i : Nat) (hi : i < k) : X.cell? ⟨G, i, none⟩ = some (.slice (some ⟨h i, 0, none⟩) n n) := by
  obtain ⟨f, hf, he⟩ := H.outer
  rw [hf.cell i (by have := H.le; omega), he i hi]
/-- The rows that are left. -/
def gtR (G K mc i0 : Nat) (v : Value) : Prop := (i0 < K ∧ v = .slice (some ⟨G, i0, none⟩) (K - i0) (mc - i0)) ∨ (i0 = K ∧ ∃ ro rc, v = .slice ro 0 rc)

set_option maxHeartbeats 16000000 in
set_option maxRecDepth 100000 in
theorem gt_any {D : FD} (hD : D ∈ fieldsL) {n K G mc mm F T B B0 l : Nat} {h : Nat → Nat} {R : Nat → Nat → Nat} {g : Nat → Value} {own : Nat → Prop} {J : Nat → World → Prop}
    (hn1 : 1 ≤ n) (hn : n ≤ 1000) (hK : K ≤ mc) (hmc : mc ≤ 1000000) (hq : D.q ^ K ≤ 1000000) (hR : ∀ i, i < K → El D (R i))
    (hF : ¬ own F) (hT : ¬ own T) (hG : 0 < K → ¬ own G) (hh : ∀ i, i < K → ¬ own (h i)) (hl : B0 ≤ l) (ho : ∀ k, own k → k < B0 ∨ k = l)
    (hJ : ∀ r X Y, J r X → Below X.heap.size X Y → J r Y)
    (hY : ∀ r args X, r < D.q ^ K → J r X → WdE D R n K B0 r args X → YieldAt Fence.wide 0 Tryz.prog l args X fun e Y => e = .returned (.bool true) ∧ J (r + 1) Y ∧ KpO own X Y) :
    ∀ (k i0 : Nat) (z : Nat → Nat) (vr : Value) (gw cw : Nat) (W : World), i0 + k = K → (∀ i, i < i0 → z i < D.q) → gtR G K mc i0 vr → Row gw n (enw D R z i0) W → B0 ≤ gw → gw ≠ l → B0 ≤ W.heap.size → l < W.heap.size → FAt F T D g W → (0 < K → Mx B G mm K n R h W) → n ≤ cw → cw ≤ 9223372036854775807 → J (hnm D.q z i0 * D.q ^ k) W →
      Calls Tryz.prog 51 #[.pointer (some ⟨F, 0, none⟩), .slice (some ⟨gw, 0, none⟩) n cw, vr, .func (.yield l) #[] #[]] W fun e Y => e = .returned (.bool true) ∧ J ((hnm D.q z i0 + 1) * D.q ^ k) Y ∧ KpO own W Y
  | 0, i0, z, vr, gw, cw, W, hi, hz, hv, hrow, hgw, hgl, hB0, hlW, hat, hM, hc1, hc2, hj => by
    have hiK : i0 = K := by omega
    subst hiK
    rcases hv with ⟨h1, _⟩ | ⟨_, ro, rc, rfl⟩
    · omega
    rw [Nat.pow_zero, Nat.mul_one] at hj
    rw [Nat.pow_zero, Nat.mul_one]
    exact callsIn_wide.1 (gt_leaf (hY _ _ W (hnm_lt _ hz) hj ⟨z, gw, cw, hz, rfl, rfl, hc1, hc2, hrow, hgw⟩))
  | k + 1, i0, z, vr, gw, cw, W, hi, hz, hv, hrow, hgw, hgl, hB0, hlW, hat, hM, hc1, hc2, hj => by
    have hiK : i0 < K := by omega
    have hve : vr = .slice (some ⟨G, i0, none⟩) (K - i0) (mc - i0) := by
      rcases hv with ⟨_, h1⟩ | ⟨h1, _⟩
      · exact h1
      · omega
    subst hve
    clear hv
    have ih := gt_any (g := g) (B := B) (mm := mm) hD hn1 hn hK hmc hq hR hF hT hG hh hl ho hJ hY k
    have hq1 : D.q ≤ 64 := (fld hD).q64
    have hFl := fld hD
    obtain ⟨L, hL⟩ : ∃ L, L = K - i0 := ⟨_, rfl⟩
    obtain ⟨C, hC⟩ : ∃ C, C = mc - i0 := ⟨_, rfl⟩
    have hng : ¬ own gw := fun e => by rcases ho gw e with h1 | h1 <;> omega
    have HF : Hid (D ∈ fieldsL ∧ FAt F T D g W ∧ Mx B G mm K n R h W ∧ Row gw n (enw D R z i0) W ∧ ¬ own gw ∧ (∀ i, i < i0 → z i < D.q) ∧ J (hnm D.q z i0 * D.q ^ (k + 1)) W ∧ L = K - i0 ∧ C = mc - i0) := ⟨hD, hat, hM (by omega), hrow, hng, hz, hj, hL, hC⟩
    have HIH : Hid (∀ (i0 : Nat) (z : Nat → Nat) (vr : Value) (gw cw : Nat) (W : World), i0 + k = K → (∀ i, i < i0 → z i < D.q) → gtR G K mc i0 vr → Row gw n (enw D R z i0) W → B0 ≤ gw → gw ≠ l → B0 ≤ W.heap.size → l < W.heap.size → FAt F T D g W → (0 < K → Mx B G mm K n R h W) → n ≤ cw → cw ≤ 9223372036854775807 → J (hnm D.q z i0 * D.q ^ k) W →
      Calls Tryz.prog 51 #[.pointer (some ⟨F, 0, none⟩), .slice (some ⟨gw, 0, none⟩) n cw, vr, .func (.yield l) #[] #[]] W fun e Y => e = .returned (.bool true) ∧ J ((hnm D.q z i0 + 1) * D.q ^ k) Y ∧ KpO own W Y) := ih
    have HN : Hid ((¬ own F) ∧ (¬ own T) ∧ (¬ own G) ∧ (∀ i, i < K → ¬ own (h i)) ∧ (∀ k, own k → k < B0 ∨ k = l) ∧ (∀ r X Y, J r X → Below X.heap.size X Y → J r Y) ∧ (∀ i, i < K → El D (R i))) := ⟨hF, hT, hG (by omega), hh, ho, hJ, hR⟩
    have HSz : Hid (Calls Tryz.prog 72 #[.pointer (some ⟨F, 0, none⟩)] W fun e w' => e = .returned (.int .i64 D.q) ∧ w' = W) := size_any hat
    have hL1 : 1 ≤ L := by omega
    have hLz : ((L : Int) == 0) = false := by rw [beq_eq_false_iff_ne]; omega
    have hLC : L ≤ C := by omega
    have hL0 : (0 : Int) < (L : Int) := by omega
    have hL0n : 0 < L := by omega
    have hLi : (1 : Int) ≤ (L : Int) := by omega
    have hCb : C ≤ 1000000 := by omega
    rw [← hL, ← hC]
    clear hD hat hM hrow hng hz hj hL hC ih hF hT hG hh ho hJ hY hR
    -- two forms
    by_cases hC1 : C = 1
    · subst hC1
      go_enter Tryz.func51, Tryz.ntmps51
      go_wp2_with (go_at_call 72; refine HSz.out.mono ?_; rintro e w' ⟨rfl, hw⟩; have hw := hw.symm; subst hw)
      go_loopw [18] (fun vi wr => ∃ (t : Nat), t ≤ D.q ∧ vi = .int .i64 (t : Nat) ∧ Hid (J ((hnm D.q z i0 * D.q + t) * D.q ^ k) wr ∧ KpO own W wr)) (fun vi _ => D.q - (intOf vi).toNat)
      case atStart => exact ⟨0, by omega, rfl, by rw [Nat.add_zero, Nat.mul_assoc, ← Nat.pow_succ']; exact HF.out.2.2.2.2.2.2.1, KpO.refl _ _⟩
      case round =>
        obtain ⟨t, ht, rfl, HG⟩ := hrel
        rename World => wr
        by_cases hlt : t < D.q
        · have hib : (t : Int) < (D.q : Int) := by omega
          have hatR := HF.out.2.1.keepO HG.out.2 HN.out.1 HN.out.2.1
          have hMR := HF.out.2.2.1.keepO HG.out.2 HN.out.2.2.1 HN.out.2.2.2.1
          have hrR := HF.out.2.2.2.1.keepO HG.out.2 HF.out.2.2.2.2.1
          have hcell := hMR.cellG i0 hiK
          obtain ⟨z', hz'⟩ : ∃ z' : Nat → Nat, z' = fun i => if i = i0 then t else z i := ⟨_, rfl⟩
          have hzi : z' i0 = t := by rw [hz']; exact if_pos rfl
          have hzo : ∀ i, i < i0 → z' i = z i := fun i hi => by rw [hz']; exact if_neg (by omega)
          have hen : enw D R z' (i0 + 1) = padd D (enw D R z i0) (pscale D t (R i0)) := by
            show padd D (enw D R z' i0) (pscale D (z' i0) (R i0)) = _
            rw [hzi, enw_zc hzo]
          have hhn : hnm D.q z' (i0 + 1) = hnm D.q z i0 * D.q + t := by
            show hnm D.q z' i0 * D.q + z' i0 = _
            rw [hzi, hnm_congr i0 hzo]
          have hsz := HG.out.2.size
          have HPl : Hid (∀ wx, Below wr.heap.size wr wx → Calls Tryz.prog 73 #[.pointer (some ⟨F, 0, none⟩), .slice (some ⟨gw, 0, none⟩) n cw, .int .i64 (t : Nat), .slice (some ⟨h i0, 0, none⟩) n n] wx fun e w' => ∃ gr c, e = .returned (.slice (some ⟨gr, 0, none⟩) n c) ∧ wr.heap.size ≤ gr ∧ n ≤ c ∧ c ≤ 9223372036854775807 ∧ Row gr n (enw D R z' (i0 + 1)) w' ∧ Below wr.heap.size wr w') := fun wx hx => by
            have hr2 := (hMR.row i0 hiK).below hx (hMR.row i0 hiK).lt
            have hr1 := hrR.below hx hrR.lt
            refine (plus_any HF.out.1 (hatR.below hx hatR.ltF hatR.ltT) hn1 hn hlt (enw_el hFl i0) (HN.out.2.2.2.2.2.2 i0 hiK) (hr1.sl (Nat.le_refl _)) (fun x e => by cases e; exact hr1.lt) (fun e => by cases e) (hr2.sl (Nat.le_refl _)) (fun x e => by cases e; exact hr2.lt)).mono ?_
            rintro e w' ⟨gr, c, rfl, h1, h2, h3, h4, h5⟩
            have := hx.size
            exact ⟨gr, c, rfl, by omega, h2, h3, by rw [hen]; exact h4, hx.trans (h5.mono hx.size)⟩
          have HGo : Hid (∀ gr c vr wx, gtR G K mc (i0 + 1) vr → Row gr n (enw D R z' (i0 + 1)) wx → wr.heap.size ≤ gr → n ≤ c → c ≤ 9223372036854775807 → Below wr.heap.size wr wx → Calls Tryz.prog 51 #[.pointer (some ⟨F, 0, none⟩), .slice (some ⟨gr, 0, none⟩) n c, vr, .func (.yield l) #[] #[]] wx fun e Y => e = .returned (.bool true) ∧ J ((hnm D.q z i0 * D.q + (t + 1)) * D.q ^ k) Y ∧ KpO own W Y) := fun gr c vr wx hvr hrw hgr hc3 hc4 hx => by
            have h1 := hx.size
            refine (HIH.out (i0 + 1) z' vr gr c wx (by omega) (fun i hi => ?_) hvr hrw (by omega) (by omega) (by omega) (by omega) (hatR.below hx hatR.ltF hatR.ltT) (fun _ => hMR.below hx) hc3 hc4 (by rw [hhn]; exact HN.out.2.2.2.2.2.1 _ _ _ HG.out.1 hx)).mono ?_
            · by_cases e : i = i0
              · rw [e, hzi]; exact hlt
              · rw [hzo i (by omega)]; exact HF.out.2.2.2.2.2.1 i (by omega)
            · rintro e Y ⟨rfl, h2, h3⟩
              rw [hhn] at h2
              exact ⟨rfl, h2, (HG.out.2.trans (.of_below hx)).trans h3⟩
          have hbc : Below wr.heap.size wr wr := Below.refl _ _
          have HCl : Hid (∀ wx, Below wr.heap.size wr wx → wx.cell? ⟨G, i0, none⟩ = some (.slice (some ⟨h i0, 0, none⟩) n n)) := fun wx hx => ((bcell hx).1 G i0 (cell_lt hcell)).trans hcell
          have HCk : Hid (∀ wx, KpO own W wx → wx.cell? ⟨G, i0, none⟩ = some (.slice (some ⟨h i0, 0, none⟩) n n)) := fun wx hx => (HF.out.2.2.1.keepO hx HN.out.2.2.1 HN.out.2.2.2.1).cellG i0 hiK
          clear hatR hMR hrR hz' hzi hzo hen hhn
          have HVR2 : Hid (gtR G K mc (i0 + 1) (.slice (some ⟨G, i0, none⟩) 0 0)) := Or.inr ⟨by have := HF.out.2.2.2.2.2.2.2; omega, _, _, rfl⟩
          have HVR : Hid (gtR G K mc (i0 + 1) (.slice (some ⟨G, i0, none⟩) (L - 1) 0)) := Or.inr ⟨by have := HF.out.2.2.2.2.2.2.2; omega, _, _, by rw [show L - 1 = 0 by omega]⟩
          go_wp2
          refine wp_region_noPanic ?_
          go_region_held3 (fun w' => w'.cell? ⟨G, i0, none⟩ = some (.slice (some ⟨h i0, 0, none⟩) n n)) (first | go_keep | exact HCk.out _ hk3 | exact HCl.out _ (by first | exact hbc | exact hbc.drew))
            (first
              | (go_at_call 73; refine (HPl.out _ (by first | exact hbc | exact hbc.drew | exact hbc.drew.drew)).mono ?_; rintro e w2 ⟨gr, c, rfl, hg1, hg2, hg3, hg4, hb2⟩; replace hbc := hb2)
              | (go_at_call 51; refine (HGo.out gr c _ _ (by first | exact HVR.out | exact HVR2.out) (by first | exact hg4 | exact hg4.drewN 1) hg1 hg2 hg3 (by first | exact hbc | exact hbc.drew)).mono ?_; rintro e w3 ⟨rfl, hj3, hk3⟩)
              | fail)
          refine NoPanic.normal ?_
          have HR : Hid (J ((hnm D.q z i0 * D.q + (t + 1)) * D.q ^ k) w3 ∧ KpO own W w3) := ⟨hj3, hk3⟩
          clear hj3 hk3 hcell hbc hg1 hg2 hg3 hg4 hb2
          go_wp2
          go_roundw
          case rel => exact ⟨t + 1, by omega, by go_num, HR.out⟩
          case measure => simp [intOf]; omega
        · have hib : ¬ (t : Int) < (D.q : Int) := by omega
          have hte : t = D.q := by omega
          have HR : Hid (J ((hnm D.q z i0 + 1) * D.q ^ (k + 1)) wr) := by
            have h1 := HG.out.1
            rw [hte] at h1
            have e : (hnm D.q z i0 + 1) * D.q ^ (k + 1) = (hnm D.q z i0 * D.q + D.q) * D.q ^ k := by
              rw [Nat.pow_succ', ← Nat.mul_assoc, Nat.add_mul, Nat.one_mul]
            show J _ wr
            rw [e]; exact h1
          clear hte
          go_wp2
          go_ret
          exact ⟨rfl, HR.out, HG.out.2⟩
    · have hC2 : ¬ C - 1 = 0 := by omega
      clear hC1
      go_enter Tryz.func51, Tryz.ntmps51
      go_wp2_with (go_at_call 72; refine HSz.out.mono ?_; rintro e w' ⟨rfl, hw⟩; have hw := hw.symm; subst hw)
      go_loopw [18] (fun vi wr => ∃ (t : Nat), t ≤ D.q ∧ vi = .int .i64 (t : Nat) ∧ Hid (J ((hnm D.q z i0 * D.q + t) * D.q ^ k) wr ∧ KpO own W wr)) (fun vi _ => D.q - (intOf vi).toNat)
      case atStart => exact ⟨0, by omega, rfl, by rw [Nat.add_zero, Nat.mul_assoc, ← Nat.pow_succ']; exact HF.out.2.2.2.2.2.2.1, KpO.refl _ _⟩
      case round =>
        obtain ⟨t, ht, rfl, HG⟩ := hrel
        rename World => wr
        by_cases hlt : t < D.q
        · have hib : (t : Int) < (D.q : Int) := by omega
          have hatR := HF.out.2.1.keepO HG.out.2 HN.out.1 HN.out.2.1
          have hMR := HF.out.2.2.1.keepO HG.out.2 HN.out.2.2.1 HN.out.2.2.2.1
          have hrR := HF.out.2.2.2.1.keepO HG.out.2 HF.out.2.2.2.2.1
          have hcell := hMR.cellG i0 hiK
          obtain ⟨z', hz'⟩ : ∃ z' : Nat → Nat, z' = fun i => if i = i0 then t else z i := ⟨_, rfl⟩
          have hzi : z' i0 = t := by rw [hz']; exact if_pos rfl
          have hzo : ∀ i, i < i0 → z' i = z i := fun i hi => by rw [hz']; exact if_neg (by omega)
          have hen : enw D R z' (i0 + 1) = padd D (enw D R z i0) (pscale D t (R i0)) := by
            show padd D (enw D R z' i0) (pscale D (z' i0) (R i0)) = _
            rw [hzi, enw_zc hzo]
          have hhn : hnm D.q z' (i0 + 1) = hnm D.q z i0 * D.q + t := by
            show hnm D.q z' i0 * D.q + z' i0 = _
            rw [hzi, hnm_congr i0 hzo]
          have hsz := HG.out.2.size
          have HPl : Hid (∀ wx, Below wr.heap.size wr wx → Calls Tryz.prog 73 #[.pointer (some ⟨F, 0, none⟩), .slice (some ⟨gw, 0, none⟩) n cw, .int .i64 (t : Nat), .slice (some ⟨h i0, 0, none⟩) n n] wx fun e w' => ∃ gr c, e = .returned (.slice (some ⟨gr, 0, none⟩) n c) ∧ wr.heap.size ≤ gr ∧ n ≤ c ∧ c ≤ 9223372036854775807 ∧ Row gr n (enw D R z' (i0 + 1)) w' ∧ Below wr.heap.size wr w') := fun wx hx => by
            have hr2 := (hMR.row i0 hiK).below hx (hMR.row i0 hiK).lt
            have hr1 := hrR.below hx hrR.lt
            refine (plus_any HF.out.1 (hatR.below hx hatR.ltF hatR.ltT) hn1 hn hlt (enw_el hFl i0) (HN.out.2.2.2.2.2.2 i0 hiK) (hr1.sl (Nat.le_refl _)) (fun x e => by cases e; exact hr1.lt) (fun e => by cases e) (hr2.sl (Nat.le_refl _)) (fun x e => by cases e; exact hr2.lt)).mono ?_
            rintro e w' ⟨gr, c, rfl, h1, h2, h3, h4, h5⟩
            have := hx.size
            exact ⟨gr, c, rfl, by omega, h2, h3, by rw [hen]; exact h4, hx.trans (h5.mono hx.size)⟩
          have HGo : Hid (∀ gr c vr wx, gtR G K mc (i0 + 1) vr → Row gr n (enw D R z' (i0 + 1)) wx → wr.heap.size ≤ gr → n ≤ c → c ≤ 9223372036854775807 → Below wr.heap.size wr wx → Calls Tryz.prog 51 #[.pointer (some ⟨F, 0, none⟩), .slice (some ⟨gr, 0, none⟩) n c, vr, .func (.yield l) #[] #[]] wx fun e Y => e = .returned (.bool true) ∧ J ((hnm D.q z i0 * D.q + (t + 1)) * D.q ^ k) Y ∧ KpO own W Y) := fun gr c vr wx hvr hrw hgr hc3 hc4 hx => by
            have h1 := hx.size
            refine (HIH.out (i0 + 1) z' vr gr c wx (by omega) (fun i hi => ?_) hvr hrw (by omega) (by omega) (by omega) (by omega) (hatR.below hx hatR.ltF hatR.ltT) (fun _ => hMR.below hx) hc3 hc4 (by rw [hhn]; exact HN.out.2.2.2.2.2.1 _ _ _ HG.out.1 hx)).mono ?_
            · by_cases e : i = i0
              · rw [e, hzi]; exact hlt
              · rw [hzo i (by omega)]; exact HF.out.2.2.2.2.2.1 i (by omega)
            · rintro e Y ⟨rfl, h2, h3⟩
              rw [hhn] at h2
              exact ⟨rfl, h2, (HG.out.2.trans (.of_below hx)).trans h3⟩
          have hbc : Below wr.heap.size wr wr := Below.refl _ _
          have HCl : Hid (∀ wx, Below wr.heap.size wr wx → wx.cell? ⟨G, i0, none⟩ = some (.slice (some ⟨h i0, 0, none⟩) n n)) := fun wx hx => ((bcell hx).1 G i0 (cell_lt hcell)).trans hcell
          have HCk : Hid (∀ wx, KpO own W wx → wx.cell? ⟨G, i0, none⟩ = some (.slice (some ⟨h i0, 0, none⟩) n n)) := fun wx hx => (HF.out.2.2.1.keepO hx HN.out.2.2.1 HN.out.2.2.2.1).cellG i0 hiK
          clear hatR hMR hrR hz' hzi hzo hen hhn
          have HVR : Hid (gtR G K mc (i0 + 1) (.slice (some ⟨G, i0 + 1, none⟩) (L - 1) (C - 1))) := by
            have h8 := HF.out.2.2.2.2.2.2.2
            by_cases e : i0 + 1 = K
            · have e2 : L - 1 = 0 := by omega
              rw [e2]
              exact Or.inr ⟨e, _, _, rfl⟩
            · refine Or.inl ⟨by omega, ?_⟩
              rw [show K - (i0 + 1) = L - 1 by omega, show mc - (i0 + 1) = C - 1 by omega]
          go_wp2
          refine wp_region_noPanic ?_
          go_region_held3 (fun w' => w'.cell? ⟨G, i0, none⟩ = some (.slice (some ⟨h i0, 0, none⟩) n n)) (first | go_keep | exact HCk.out _ hk3 | exact HCl.out _ (by first | exact hbc | exact hbc.drew))
            (first
              | (go_at_call 73; refine (HPl.out _ (by first | exact hbc | exact hbc.drew | exact hbc.drew.drew)).mono ?_; rintro e w2 ⟨gr, c, rfl, hg1, hg2, hg3, hg4, hb2⟩; replace hbc := hb2)
              | (go_at_call 51; refine (HGo.out gr c _ _ (by first | exact HVR.out | exact HVR2.out) (by first | exact hg4 | exact hg4.drewN 1) hg1 hg2 hg3 (by first | exact hbc | exact hbc.drew)).mono ?_; rintro e w3 ⟨rfl, hj3, hk3⟩)
              | fail)
          refine NoPanic.normal ?_
          have HR : Hid (J ((hnm D.q z i0 * D.q + (t + 1)) * D.q ^ k) w3 ∧ KpO own W w3) := ⟨hj3, hk3⟩
          clear hj3 hk3 hcell hbc hg1 hg2 hg3 hg4 hb2
          go_wp2
          go_roundw
          case rel => exact ⟨t + 1, by omega, by go_num, HR.out⟩
          case measure => simp [intOf]; omega
        · have hib : ¬ (t : Int) < (D.q : Int) := by omega
          have hte : t = D.q := by omega
          have HR : Hid (J ((hnm D.q z i0 + 1) * D.q ^ (k + 1)) wr) := by
            have h1 := HG.out.1
            rw [hte] at h1
            have e : (hnm D.q z i0 + 1) * D.q ^ (k + 1) = (hnm D.q z i0 * D.q + D.q) * D.q ^ k := by
              rw [Nat.pow_succ', ← Nat.mul_assoc, Nat.add_mul, Nat.one_mul]
            show J _ wr
            rw [e]; exact h1
          clear hte
          go_wp2
          go_ret
          exact ⟨rfl, HR.out, HG.out.2⟩
end Go.Proofs.YtdfneklnpghhmaaGreatDoor

/- Ranges over span.Words: the iterator's contract. -/
namespace Go.Proofs.YtdfneklnpghhmaaGreatDoor
open Go.RowKit Go.Sort

/-- The rows of a code that is ranged over: none, or k of n elements in blocks of their own. -/
def WdR (ro : Option Addr) (n K B G mm : Nat) (R : Nat → Nat → Nat) (h : Nat → Nat) (w : World) : Prop := 0 < K → (ro = some ⟨G, 0, none⟩ ∧ Mx B G mm K n R h w)

theorem make_run (n : Nat) (hn : n ≤ 1000000) (w : World) : ∃ w', (Instr.makeSlice 37 (.int .i64 (n : Nat)) (.int .i64 (n : Nat))).run Tryz.prog w = .ok (.slice (some ⟨w.heap.size, 0, none⟩) n n) w' ∧ Row w.heap.size n pnil w' ∧ Below w.heap.size w w' := by
  obtain ⟨i0, hi, hz0, hz1, hz2⟩ := info_parts Tryz.infoInt
  refine ⟨_, run_make_row (P := Tryz.prog) 37 3 i0 (.int .i64 0) Tryz.underlying37 hi hz0 hz1 rfl .i64 .i64 n (by rw [hz2]; omega) (by omega) w, ⟨n, fun _ => .int .i64 0, ⟨_, two_new _, ?_, fun o ho => ?_⟩, Nat.le_refl _, fun _ _ => rfl⟩, (Below.refl _ _).alloc (Nat.le_refl _) _⟩
  · simp [madeCells]
  · simp [madeCells, ho, Nat.mod_one]
theorem below_two' {A a b c : World} (h : Below A.heap.size A a) (h2 : Below a.heap.size a b) (hc : b = c := by rfl) : Below A.heap.size A c := by
  subst hc
  exact h.trans ⟨h2.os, h2.tape, h2.output, h2.size, fun k hk => h2.block k (by have := h.size; omega)⟩
set_option maxHeartbeats 16000000 in
set_option maxRecDepth 100000 in
theorem words_seq {D : FD} (hD : D ∈ fieldsL) {ro : Option Addr} {n K rc B G mm cb : Nat} {R : Nat → Nat → Nat} {h : Nat → Nat} {own : Nat → Prop} {w : World}
    (hcb : CB cb D.q n (.slice ro K rc) w) (hW : WdR ro n K B G mm R h w) (hn1 : 1 ≤ n) (hn : n ≤ 1000) (hK : K ≤ rc) (hrc : rc ≤ 1000000) (hq : D.q ^ K ≤ 1000000) (hR : ∀ i, i < K → El D (R i))
    (hoB : ∀ k, own k → k < w.heap.size) (hoc : ¬ own cb) (hoG : 0 < K → ¬ own G) (hoh : ∀ i, i < K → ¬ own (h i)) :
    SeqI Tryz.prog 49 #[.pointer (some ⟨cb, 0, none⟩)] (D.q ^ K) (WdE D R n K w.heap.size) own w := by
  intro l J W hbW hl hlW hJ hY hj0
  refine callsIn_wide.2 ?_
  have hcW := hcb.keep hbW
  have HF : Hid (D ∈ fieldsL ∧ WdR ro n K B G mm R h W ∧ (∀ i, i < K → El D (R i)) ∧ (∀ k, own k → k < w.heap.size) ∧ (0 < K → ¬ own G) ∧ (∀ i, i < K → ¬ own (h i)) ∧ J 0 W ∧ w.heap.size ≤ W.heap.size) := ⟨hD, fun hk => ⟨(hW hk).1, (hW hk).2.below hbW⟩, hR, hoB, hoG, hoh, hj0, hbW.size⟩
  have HJ : Hid ((∀ r X Y, J r X → Below X.heap.size X Y → J r Y) ∧ ∀ r args X, r < D.q ^ K → J r X → WdE D R n K w.heap.size r args X → YieldAt Fence.wide 0 Tryz.prog l args X fun e Y => e = .returned (.bool true) ∧ J (r + 1) Y ∧ KpO (fun k => own k ∨ k = l) X Y) := ⟨hJ, hY⟩
  have HGo : Hid (∀ F T g wx gw, FAt F T D g wx → W.heap.size ≤ F → W.heap.size ≤ T → Row gw n pnil wx → W.heap.size ≤ gw → Below W.heap.size W wx → Calls Tryz.prog 51 #[.pointer (some ⟨F, 0, none⟩), .slice (some ⟨gw, 0, none⟩) n n, .slice ro K rc, .func (.yield l) #[] #[]] wx fun e Y => e = .returned (.bool true) ∧ J (D.q ^ K) Y ∧ KpO (fun k => own k ∨ k = l) wx Y) := fun F T g wx gw hat hFw hTw hrow hgw hx => by
    have hs := hx.size
    have hsW := HF.out.2.2.2.2.2.2.2
    have hol : ∀ k, W.heap.size ≤ k → ¬ (own k ∨ k = l) := fun k hk e => by
      rcases e with e | e
      · have := HF.out.2.2.2.1 k e; omega
      · omega
    refine (gt_any (G := G) (mc := rc) (mm := mm) (B := B) (B0 := w.heap.size) (h := h) (g := g) (own := fun k => own k ∨ k = l) (J := J) hD hn1 hn hK hrc hq hR (hol F hFw) (hol T hTw) (fun hk e => ?_) (fun i hi e => ?_) hl (fun k e => ?_) HJ.out.1 HJ.out.2 K 0 (fun _ => 0) (.slice ro K rc) gw n wx (Nat.zero_add K) (fun i hi => absurd hi (by omega)) ?_ hrow (by omega) (by omega) (by omega) (by omega) hat (fun hk => ((HF.out.2.1 hk).2).below hx) (Nat.le_refl _) (by omega) ?_).mono ?_
    · rcases e with e | e
      · exact HF.out.2.2.2.2.1 hk e
      · have := (hW hk).2.ltG; omega
    · rcases e with e | e
      · exact HF.out.2.2.2.2.2.1 i hi e
      · have := (hW (by omega)).2.lt i hi; omega
    · rcases e with e | e
      · exact Or.inl (HF.out.2.2.2.1 k e)
      · exact Or.inr e
    · by_cases hk : 0 < K
      · refine Or.inl ⟨hk, ?_⟩
        rw [(HF.out.2.1 hk).1]; rfl
      · have hk0 : K = 0 := by omega
        exact Or.inr ⟨hk0.symm, ro, rc, by rw [hk0]⟩
    · show J (0 * D.q ^ K) wx
      rw [Nat.zero_mul]
      exact HJ.out.1 0 W wx HF.out.2.2.2.2.2.2.1 hx
    · rintro e Y ⟨rfl, h1, hk⟩
      have h2 : J ((0 + 1) * D.q ^ K) Y := h1
      rw [Nat.zero_add, Nat.one_mul] at h2
      exact ⟨rfl, h2, hk⟩
  have hzE : ((0 : Int) == 0) = true := rfl
  have HNo : Hid (¬ (own cb ∨ cb = l)) := fun e => by
    rcases e with e | e
    · exact hoc e
    · have h5 : cb < w.heap.size := cell_lt hcb.c0
      omega
  clear hD hcb hW hR hoB hoc hoG hoh hJ hY hj0 hq hK hrc hbW hl hlW
  obtain ⟨c0, c1, c2⟩ := hcW
  have HNw : Hid (Calls Tryz.prog 50 #[.int .i64 D.q] W fun e w' => ∃ F T g, e = .returned (.tuple #[.pointer (some ⟨F, 0, none⟩), .int .i64 0]) ∧ FAt F T D g w' ∧ W.heap.size ≤ F ∧ W.heap.size ≤ T ∧ Below W.heap.size W w') := new_any HF.out.1 W
  have HCc : Hid (∀ wx, Below W.heap.size W wx → wx.cell? ⟨cb, 1, none⟩ = some (.int .i64 (n : Nat)) ∧ wx.cell? ⟨cb, 2, none⟩ = some (.slice ro K rc)) := fun wx hx => ⟨((bcell hx).1 cb 1 (cell_lt c1)).trans c1, ((bcell hx).1 cb 2 (cell_lt c2)).trans c2⟩
  have HCk : Hid (∀ wx Y, Below W.heap.size W wx → KpO (fun k => own k ∨ k = l) wx Y → Y.cell? ⟨cb, 1, none⟩ = some (.int .i64 (n : Nat)) ∧ Y.cell? ⟨cb, 2, none⟩ = some (.slice ro K rc)) := fun wx Y hx hk => by
    have h := HCc.out wx hx
    have e := hk.same cb (cell_lt h.1) HNo.out
    unfold World.cell? at h ⊢
    rw [e]; exact h
  show Calls Tryz.prog 49 #[.func (.yield l) #[] #[], .pointer (some ⟨cb, 0, none⟩)] W _
  go_enter Tryz.func49, Tryz.ntmps49
  go_wp2_with fail
  refine HNw.out.mono ?_
  rintro e w1 ⟨F, T, g, rfl, hat, hF1, hT1, hb1⟩
  have HA : Hid (FAt F T D g w1 ∧ W.heap.size ≤ F ∧ W.heap.size ≤ T ∧ Below W.heap.size W w1) := ⟨hat, hF1, hT1, hb1⟩
  have hbc : Below W.heap.size W w1 := hb1
  have hcc := HCc.out _ hb1
  clear hat hF1 hT1 hb1
  go_wp2
  obtain ⟨w4, hmk, hr4, hb4⟩ := make_run n (by omega) w1.drew
  have hbc4 : Below W.heap.size W w4 := below_two' hbc.drew hb4
  have hcc4 := HCc.out _ hbc4
  have hat4 : FAt F T D g w4 := (show FAt F T D g w1.drew from HA.out.1.drewN 1).below hb4 HA.out.1.ltF HA.out.1.ltT
  have HX : Hid (FAt F T D g w4 ∧ Row w1.heap.size n pnil w4 ∧ Below W.heap.size W w4) := ⟨hat4, hr4, hbc4⟩
  clear hat4 hr4 hb4
  refine wp_region_noPanic ?_
  go_region_held3 (fun w' => w'.cell? ⟨cb, 1, none⟩ = some (.int .i64 (n : Nat)) ∧ w'.cell? ⟨cb, 2, none⟩ = some (.slice ro K rc)) (first | go_keep | exact HCk.out _ _ HX.out.2.2 hk5 | exact hcc4 | exact hcc | exact HCc.out _ (by first | exact hbc4 | exact hbc | exact hbc.drew))
    (first
      | (go_at_call 51; refine (HGo.out F T g _ _ HX.out.1 HA.out.2.1 HA.out.2.2.1 HX.out.2.1 HA.out.2.2.2.size HX.out.2.2).mono ?_; rintro e w5 ⟨rfl, hj5, hk5⟩)
      | fail)
  refine NoPanic.normal ?_
  refine bodyPost_end (results_none rfl _ _ _) rfl ?_
  exact ⟨⟨_, rfl⟩, hj5⟩
end Go.Proofs.YtdfneklnpghhmaaGreatDoor
