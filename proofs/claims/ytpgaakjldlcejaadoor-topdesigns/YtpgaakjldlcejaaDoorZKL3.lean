/- Ranges over span.Words: goThrough, whole. -/
import Derived.Test.YtpgaakjldlcejaaDoorZW14
import Derived.Test.YtpgaakjldlcejaaDoorZI1
import Derived.Test.YtpgaakjldlcejaaDoorZI7
import Derived.Test.YtpgaakjldlcejaaDoorZS4
import Derived.Deep.RegionHeld3
namespace Go.Proofs.YtpgaakjldlcejaaDoor
open Go.RowKit Go.Sort

/-- The number whose digits to the base q are the first values of z. -/
def hnm (q : Nat) (z : Nat → Nat) : Nat → Nat
  | 0 => 0
  | i + 1 => hnm q z i * q + z i
theorem hnm_congr {q : Nat} {z y : Nat → Nat} : ∀ i, (∀ j, j < i → z j = y j) → hnm q z i = hnm q y i
  | 0, _ => rfl
  | i + 1, h => by
    show hnm q z i * q + z i = hnm q y i * q + y i
    rw [hnm_congr i (fun j hj => h j (by omega)), h i (by omega)]
theorem hnm_lt {q : Nat} {z : Nat → Nat} : ∀ i, (∀ j, j < i → z j < q) → hnm q z i < q ^ i
  | 0, _ => by show 0 < 1; omega
  | i + 1, h => by
    have h1 := hnm_lt i (fun j hj => h j (by omega))
    have h2 := h i (by omega)
    show hnm q z i * q + z i < q ^ (i + 1)
    have h3 : (hnm q z i + 1) * q ≤ q ^ i * q := Nat.mul_le_mul_right q h1
    rw [Nat.pow_succ]
    rw [Nat.add_mul, Nat.one_mul] at h3
    omega
theorem enw_zc {D : FD} {R : Nat → Nat → Nat} {z y : Nat → Nat} : ∀ {k : Nat}, (∀ i, i < k → z i = y i) → enw D R z k = enw D R y k
  | 0, _ => rfl
  | k + 1, h => by
    show padd D (enw D R z k) (pscale D (z k) (R k)) = padd D (enw D R y k) (pscale D (y k) (R k))
    rw [enw_zc (fun i hi => h i (by omega)), h k (by omega)]
/-- The r-th word: what is handed on. -/
def WdE (D : FD) (R : Nat → Nat → Nat) (n K B0 : Nat) (r : Nat) (args : Array Value) (X : World) : Prop :=
  ∃ z g c, (∀ i, i < K → z i < D.q) ∧ hnm D.q z K = r ∧ args = #[.slice (some ⟨g, 0, none⟩) n c] ∧ n ≤ c ∧ c ≤ 9223372036854775807 ∧ Row g n (enw D R z K) X ∧ B0 ≤ g
theorem FAt.keepO {own : Nat → Prop} {F T : Nat} {D : FD} {g : Nat → Value} {X Y : World} (h : FAt F T D g X) (k : KpO own X Y) (hF : ¬ own F) (hT : ¬ own T) : FAt F T D g Y := by
  refine ⟨?_, h.row.other (k.same T h.ltT hT), h.tab, Nat.lt_of_lt_of_le h.ltF k.size⟩
  have := h.ptr
  unfold World.cell? at this ⊢
  rw [k.same F h.ltF hF]; exact this
theorem Row.keepO {own : Nat → Prop} {g n : Nat} {c : Nat → Nat} {X Y : World} (h : Row g n c X) (k : KpO own X Y) (hg : ¬ own g) : Row g n c Y := h.other (k.same g h.lt hg)
theorem Mx.keepO {own : Nat → Prop} {B G m k n : Nat} {R : Nat → Nat → Nat} {h : Nat → Nat} {X Y : World} (H : Mx B G m k n R h X) (hk : KpO own X Y) (hG : ¬ own G) (hh : ∀ i, i < k → ¬ own (h i)) : Mx B G m k n R h Y := by
  obtain ⟨f, hf, he⟩ := H.outer
  exact ⟨⟨f, hf.other (hk.same G hf.lt hG), he⟩, fun i hi => (H.row i hi).keepO hk (hh i hi), H.geG, H.ge, H.inj, H.ne, H.le⟩
theorem Mx.cellG {B G m k n : Nat} {R : Nat → Nat → Nat} {h : Nat → Nat} {X : World} (H : Mx B G m k n R h X) (i : Nat) (hi : i < k) : X.cell? ⟨G, i, none⟩ = some (.slice (some ⟨h i, 0, none⟩) n n) := by
  obtain ⟨f, hf, he⟩ := H.outer
  rw [hf.cell i (by have := H.le; omega), he i hi]
/-- The rows that are left. -/
def gtR (G K mc i0 : Nat) (v : Value) : Prop := (i0 < K ∧ v = .slice (some ⟨G, i0, none⟩) (K - i0) (mc - i0)) ∨ (i0 = K ∧ ∃ ro rc, v = .slice ro 0 rc)

set_option maxHeartbeats 16000000 in
set_option maxRecDepth 100000 in
theorem gt_any {D : FD} (hD : D ∈ fieldsL) {n K G mc mm F T B B0 l : Nat} {h : Nat → Nat} {R : Nat → Nat → Nat} {g : Nat → Value} {own : Nat → Prop} {J : Nat → World → Prop}
    (hn1 : 1 ≤ n) (hn : n ≤ 1000) (hK : K ≤ mc) (hmc : mc ≤ 1000000) (hq : D.q ^ K ≤ 1000000) (hR : ∀ i, i < K → El D (R i))
    (hF : ¬ own F) (hT : ¬ own T) (hG : 0 < K → ¬ own G) (hh : ∀ i, i < K → ¬ own (h i)) (hl : B0 ≤ l) (ho : ∀ k, own k → k < B0 ∨ k = l)
    (hJ : ∀ r X Y, J r X → Below X.heap.size X Y → J r Y)
    (hY : ∀ r args X, r < D.q ^ K → J r X → WdE D R n K B0 r args X → YieldAt Fence.wide 0 Tryd.prog l args X fun e Y => e = .returned (.bool true) ∧ J (r + 1) Y ∧ KpO own X Y) :
    ∀ (k i0 : Nat) (z : Nat → Nat) (vr : Value) (gw cw : Nat) (W : World), i0 + k = K → (∀ i, i < i0 → z i < D.q) → gtR G K mc i0 vr → Row gw n (enw D R z i0) W → B0 ≤ gw → gw ≠ l → B0 ≤ W.heap.size → l < W.heap.size → FAt F T D g W → (0 < K → Mx B G mm K n R h W) → n ≤ cw → cw ≤ 9223372036854775807 → J (hnm D.q z i0 * D.q ^ k) W →
      Calls Tryd.prog 28 #[.pointer (some ⟨F, 0, none⟩), .slice (some ⟨gw, 0, none⟩) n cw, vr, .func (.yield l) #[] #[]] W fun e Y => e = .returned (.bool true) ∧ J ((hnm D.q z i0 + 1) * D.q ^ k) Y ∧ KpO own W Y
  | 0, i0, z, vr, gw, cw, W, hi, hz, hv, hrow, hgw, hgl, hB0, hlW, hat, hM, hc1, hc2, hj => by
    have hiK : i0 = K := by omega
    subst hiK
    rcases hv with ⟨h1, _⟩ | ⟨_, ro, rc, rfl⟩
    · omega
    rw [Nat.pow_zero, Nat.mul_one] at hj
    rw [Nat.pow_zero, Nat.mul_one]
    exact callsIn_wide.1 (gt_leaf (hY _ _ W (hnm_lt _ hz) hj ⟨z, gw, cw, hz, rfl, rfl, hc1, hc2, hrow, hgw⟩))
  | k + 1, i0, z, vr, gw, cw, W, hi, hz, hv, hrow, hgw, hgl, hB0, hlW, hat, hM, hc1, hc2, hj => by
    have hiK : i0 < K := by omega
    have hve : vr = .slice (some ⟨G, i0, none⟩) (K - i0) (mc - i0) := by
      rcases hv with ⟨_, h1⟩ | ⟨h1, _⟩
      · exact h1
      · omega
    subst hve
    clear hv
    have ih := gt_any (g := g) (B := B) (mm := mm) hD hn1 hn hK hmc hq hR hF hT hG hh hl ho hJ hY k
    have hq1 : D.q ≤ 64 := (fld hD).q64
    have hFl := fld hD
    obtain ⟨L, hL⟩ : ∃ L, L = K - i0 := ⟨_, rfl⟩
    obtain ⟨C, hC⟩ : ∃ C, C = mc - i0 := ⟨_, rfl⟩
    have hng : ¬ own gw := fun e => by rcases ho gw e with h1 | h1 <;> omega
    have HF : Hid (D ∈ fieldsL ∧ FAt F T D g W ∧ Mx B G mm K n R h W ∧ Row gw n (enw D R z i0) W ∧ ¬ own gw ∧ (∀ i, i < i0 → z i < D.q) ∧ J (hnm D.q z i0 * D.q ^ (k + 1)) W ∧ L = K - i0 ∧ C = mc - i0) := ⟨hD, hat, hM (by omega), hrow, hng, hz, hj, hL, hC⟩
    have HIH : Hid (∀ (i0 : Nat) (z : Nat → Nat) (vr : Value) (gw cw : Nat) (W : World), i0 + k = K → (∀ i, i < i0 → z i < D.q) → gtR G K mc i0 vr → Row gw n (enw D R z i0) W → B0 ≤ gw → gw ≠ l → B0 ≤ W.heap.size → l < W.heap.size → FAt F T D g W → (0 < K → Mx B G mm K n R h W) → n ≤ cw → cw ≤ 9223372036854775807 → J (hnm D.q z i0 * D.q ^ k) W →
      Calls Tryd.prog 28 #[.pointer (some ⟨F, 0, none⟩), .slice (some ⟨gw, 0, none⟩) n cw, vr, .func (.yield l) #[] #[]] W fun e Y => e = .returned (.bool true) ∧ J ((hnm D.q z i0 + 1) * D.q ^ k) Y ∧ KpO own W Y) := ih
    have HN : Hid ((¬ own F) ∧ (¬ own T) ∧ (¬ own G) ∧ (∀ i, i < K → ¬ own (h i)) ∧ (∀ k, own k → k < B0 ∨ k = l) ∧ (∀ r X Y, J r X → Below X.heap.size X Y → J r Y) ∧ (∀ i, i < K → El D (R i))) := ⟨hF, hT, hG (by omega), hh, ho, hJ, hR⟩
    have HSz : Hid (Calls Tryd.prog 42 #[.pointer (some ⟨F, 0, none⟩)] W fun e w' => e = .returned (.int .i64 D.q) ∧ w' = W) := size_any hat
    have hL1 : 1 ≤ L := by omega
    have hLz : ((L : Int) == 0) = false := by rw [beq_eq_false_iff_ne]; omega
    have hLC : L ≤ C := by omega
    have hL0 : (0 : Int) < (L : Int) := by omega
    have hL0n : 0 < L := by omega
    have hLi : (1 : Int) ≤ (L : Int) := by omega
    have hCb : C ≤ 1000000 := by omega
    rw [← hL, ← hC]
    clear hD hat hM hrow hng hz hj hL hC ih hF hT hG hh ho hJ hY hR
    -- two forms
    by_cases hC1 : C = 1
    · subst hC1
      go_enter Tryd.func28, Tryd.ntmps28
      go_wp2_with (go_at_call 42; refine HSz.out.mono ?_; rintro e w' ⟨rfl, hw⟩; have hw := hw.symm; subst hw)
      go_loopw [18] (fun vi wr => ∃ (t : Nat), t ≤ D.q ∧ vi = .int .i64 (t : Nat) ∧ Hid (J ((hnm D.q z i0 * D.q + t) * D.q ^ k) wr ∧ KpO own W wr)) (fun vi _ => D.q - (intOf vi).toNat)
      case atStart => exact ⟨0, by omega, rfl, by rw [Nat.add_zero, Nat.mul_assoc, ← Nat.pow_succ']; exact HF.out.2.2.2.2.2.2.1, KpO.refl _ _⟩
      case round =>
        obtain ⟨t, ht, rfl, HG⟩ := hrel
        rename World => wr
        by_cases hlt : t < D.q
        · have hib : (t : Int) < (D.q : Int) := by omega
          have hatR := HF.out.2.1.keepO HG.out.2 HN.out.1 HN.out.2.1
          have hMR := HF.out.2.2.1.keepO HG.out.2 HN.out.2.2.1 HN.out.2.2.2.1
          have hrR := HF.out.2.2.2.1.keepO HG.out.2 HF.out.2.2.2.2.1
          have hcell := hMR.cellG i0 hiK
          obtain ⟨z', hz'⟩ : ∃ z' : Nat → Nat, z' = fun i => if i = i0 then t else z i := ⟨_, rfl⟩
          have hzi : z' i0 = t := by rw [hz']; exact if_pos rfl
          have hzo : ∀ i, i < i0 → z' i = z i := fun i hi => by rw [hz']; exact if_neg (by omega)
          have hen : enw D R z' (i0 + 1) = padd D (enw D R z i0) (pscale D t (R i0)) := by
            show padd D (enw D R z' i0) (pscale D (z' i0) (R i0)) = _
            rw [hzi, enw_zc hzo]
          have hhn : hnm D.q z' (i0 + 1) = hnm D.q z i0 * D.q + t := by
            show hnm D.q z' i0 * D.q + z' i0 = _
            rw [hzi, hnm_congr i0 hzo]
          have hsz := HG.out.2.size
          have HPl : Hid (∀ wx, Below wr.heap.size wr wx → Calls Tryd.prog 43 #[.pointer (some ⟨F, 0, none⟩), .slice (some ⟨gw, 0, none⟩) n cw, .int .i64 (t : Nat), .slice (some ⟨h i0, 0, none⟩) n n] wx fun e w' => ∃ gr c, e = .returned (.slice (some ⟨gr, 0, none⟩) n c) ∧ wr.heap.size ≤ gr ∧ n ≤ c ∧ c ≤ 9223372036854775807 ∧ Row gr n (enw D R z' (i0 + 1)) w' ∧ Below wr.heap.size wr w') := fun wx hx => by
            have hr2 := (hMR.row i0 hiK).below hx (hMR.row i0 hiK).lt
            have hr1 := hrR.below hx hrR.lt
            refine (plus_any HF.out.1 (hatR.below hx hatR.ltF hatR.ltT) hn1 hn hlt (enw_el hFl i0) (HN.out.2.2.2.2.2.2 i0 hiK) (hr1.sl (Nat.le_refl _)) (fun x e => by cases e; exact hr1.lt) (fun e => by cases e) (hr2.sl (Nat.le_refl _)) (fun x e => by cases e; exact hr2.lt)).mono ?_
            rintro e w' ⟨gr, c, rfl, h1, h2, h3, h4, h5⟩
            have := hx.size
            exact ⟨gr, c, rfl, by omega, h2, h3, by rw [hen]; exact h4, hx.trans (h5.mono hx.size)⟩
          have HGo : Hid (∀ gr c vr wx, gtR G K mc (i0 + 1) vr → Row gr n (enw D R z' (i0 + 1)) wx → wr.heap.size ≤ gr → n ≤ c → c ≤ 9223372036854775807 → Below wr.heap.size wr wx → Calls Tryd.prog 28 #[.pointer (some ⟨F, 0, none⟩), .slice (some ⟨gr, 0, none⟩) n c, vr, .func (.yield l) #[] #[]] wx fun e Y => e = .returned (.bool true) ∧ J ((hnm D.q z i0 * D.q + (t + 1)) * D.q ^ k) Y ∧ KpO own W Y) := fun gr c vr wx hvr hrw hgr hc3 hc4 hx => by
            have h1 := hx.size
            refine (HIH.out (i0 + 1) z' vr gr c wx (by omega) (fun i hi => ?_) hvr hrw (by omega) (by omega) (by omega) (by omega) (hatR.below hx hatR.ltF hatR.ltT) (fun _ => hMR.below hx) hc3 hc4 (by rw [hhn]; exact HN.out.2.2.2.2.2.1 _ _ _ HG.out.1 hx)).mono ?_
            · by_cases e : i = i0
              · rw [e, hzi]; exact hlt
              · rw [hzo i (by omega)]; exact HF.out.2.2.2.2.2.1 i (by omega)
            · rintro e Y ⟨rfl, h2, h3⟩
              rw [hhn] at h2
              exact ⟨rfl, h2, (HG.out.2.trans (.of_below hx)).trans h3⟩
          have hbc : Below wr.heap.size wr wr := Below.refl _ _
          have HCl : Hid (∀ wx, Below wr.heap.size wr wx → wx.cell? ⟨G, i0, none⟩ = some (.slice (some ⟨h i0, 0, none⟩) n n)) := fun wx hx => ((bcell hx).1 G i0 (cell_lt hcell)).trans hcell
          have HCk : Hid (∀ wx, KpO own W wx → wx.cell? ⟨G, i0, none⟩ = some (.slice (some ⟨h i0, 0, none⟩) n n)) := fun wx hx => (HF.out.2.2.1.keepO hx HN.out.2.2.1 HN.out.2.2.2.1).cellG i0 hiK
          clear hatR hMR hrR hz' hzi hzo hen hhn
          have HVR2 : Hid (gtR G K mc (i0 + 1) (.slice (some ⟨G, i0, none⟩) 0 0)) := Or.inr ⟨by have := HF.out.2.2.2.2.2.2.2; omega, _, _, rfl⟩
          have HVR : Hid (gtR G K mc (i0 + 1) (.slice (some ⟨G, i0, none⟩) (L - 1) 0)) := Or.inr ⟨by have := HF.out.2.2.2.2.2.2.2; omega, _, _, by rw [show L - 1 = 0 by omega]⟩
          go_wp2
          refine wp_region_noPanic ?_
          go_region_held3 (fun w' => w'.cell? ⟨G, i0, none⟩ = some (.slice (some ⟨h i0, 0, none⟩) n n)) (first | go_keep | exact HCk.out _ hk3 | exact HCl.out _ (by first | exact hbc | exact hbc.drew))
            (first
              | (go_at_call 43; refine (HPl.out _ (by first | exact hbc | exact hbc.drew | exact hbc.drew.drew)).mono ?_; rintro e w2 ⟨gr, c, rfl, hg1, hg2, hg3, hg4, hb2⟩; replace hbc := hb2)
              | (go_at_call 28; refine (HGo.out gr c _ _ (by first | exact HVR.out | exact HVR2.out) (by first | exact hg4 | exact hg4.drewN 1) hg1 hg2 hg3 (by first | exact hbc | exact hbc.drew)).mono ?_; rintro e w3 ⟨rfl, hj3, hk3⟩)
              | fail)
          refine NoPanic.normal ?_
          have HR : Hid (J ((hnm D.q z i0 * D.q + (t + 1)) * D.q ^ k) w3 ∧ KpO own W w3) := ⟨hj3, hk3⟩
          clear hj3 hk3 hcell hbc hg1 hg2 hg3 hg4 hb2
          go_wp2
          go_roundw
          case rel => exact ⟨t + 1, by omega, by go_num, HR.out⟩
          case measure => simp [intOf]; omega
        · have hib : ¬ (t : Int) < (D.q : Int) := by omega
          have hte : t = D.q := by omega
          have HR : Hid (J ((hnm D.q z i0 + 1) * D.q ^ (k + 1)) wr) := by
            have h1 := HG.out.1
            rw [hte] at h1
            have e : (hnm D.q z i0 + 1) * D.q ^ (k + 1) = (hnm D.q z i0 * D.q + D.q) * D.q ^ k := by
              rw [Nat.pow_succ', ← Nat.mul_assoc, Nat.add_mul, Nat.one_mul]
            show J _ wr
            rw [e]; exact h1
          clear hte
          go_wp2
          go_ret
          exact ⟨rfl, HR.out, HG.out.2⟩
    · have hC2 : ¬ C - 1 = 0 := by omega
      clear hC1
      go_enter Tryd.func28, Tryd.ntmps28
      go_wp2_with (go_at_call 42; refine HSz.out.mono ?_; rintro e w' ⟨rfl, hw⟩; have hw := hw.symm; subst hw)
      go_loopw [18] (fun vi wr => ∃ (t : Nat), t ≤ D.q ∧ vi = .int .i64 (t : Nat) ∧ Hid (J ((hnm D.q z i0 * D.q + t) * D.q ^ k) wr ∧ KpO own W wr)) (fun vi _ => D.q - (intOf vi).toNat)
      case atStart => exact ⟨0, by omega, rfl, by rw [Nat.add_zero, Nat.mul_assoc, ← Nat.pow_succ']; exact HF.out.2.2.2.2.2.2.1, KpO.refl _ _⟩
      case round =>
        obtain ⟨t, ht, rfl, HG⟩ := hrel
        rename World => wr
        by_cases hlt : t < D.q
        · have hib : (t : Int) < (D.q : Int) := by omega
          have hatR := HF.out.2.1.keepO HG.out.2 HN.out.1 HN.out.2.1
          have hMR := HF.out.2.2.1.keepO HG.out.2 HN.out.2.2.1 HN.out.2.2.2.1
          have hrR := HF.out.2.2.2.1.keepO HG.out.2 HF.out.2.2.2.2.1
          have hcell := hMR.cellG i0 hiK
          obtain ⟨z', hz'⟩ : ∃ z' : Nat → Nat, z' = fun i => if i = i0 then t else z i := ⟨_, rfl⟩
          have hzi : z' i0 = t := by rw [hz']; exact if_pos rfl
          have hzo : ∀ i, i < i0 → z' i = z i := fun i hi => by rw [hz']; exact if_neg (by omega)
          have hen : enw D R z' (i0 + 1) = padd D (enw D R z i0) (pscale D t (R i0)) := by
            show padd D (enw D R z' i0) (pscale D (z' i0) (R i0)) = _
            rw [hzi, enw_zc hzo]
          have hhn : hnm D.q z' (i0 + 1) = hnm D.q z i0 * D.q + t := by
            show hnm D.q z' i0 * D.q + z' i0 = _
            rw [hzi, hnm_congr i0 hzo]
          have hsz := HG.out.2.size
          have HPl : Hid (∀ wx, Below wr.heap.size wr wx → Calls Tryd.prog 43 #[.pointer (some ⟨F, 0, none⟩), .slice (some ⟨gw, 0, none⟩) n cw, .int .i64 (t : Nat), .slice (some ⟨h i0, 0, none⟩) n n] wx fun e w' => ∃ gr c, e = .returned (.slice (some ⟨gr, 0, none⟩) n c) ∧ wr.heap.size ≤ gr ∧ n ≤ c ∧ c ≤ 9223372036854775807 ∧ Row gr n (enw D R z' (i0 + 1)) w' ∧ Below wr.heap.size wr w') := fun wx hx => by
            have hr2 := (hMR.row i0 hiK).below hx (hMR.row i0 hiK).lt
            have hr1 := hrR.below hx hrR.lt
            refine (plus_any HF.out.1 (hatR.below hx hatR.ltF hatR.ltT) hn1 hn hlt (enw_el hFl i0) (HN.out.2.2.2.2.2.2 i0 hiK) (hr1.sl (Nat.le_refl _)) (fun x e => by cases e; exact hr1.lt) (fun e => by cases e) (hr2.sl (Nat.le_refl _)) (fun x e => by cases e; exact hr2.lt)).mono ?_
            rintro e w' ⟨gr, c, rfl, h1, h2, h3, h4, h5⟩
            have := hx.size
            exact ⟨gr, c, rfl, by omega, h2, h3, by rw [hen]; exact h4, hx.trans (h5.mono hx.size)⟩
          have HGo : Hid (∀ gr c vr wx, gtR G K mc (i0 + 1) vr → Row gr n (enw D R z' (i0 + 1)) wx → wr.heap.size ≤ gr → n ≤ c → c ≤ 9223372036854775807 → Below wr.heap.size wr wx → Calls Tryd.prog 28 #[.pointer (some ⟨F, 0, none⟩), .slice (some ⟨gr, 0, none⟩) n c, vr, .func (.yield l) #[] #[]] wx fun e Y => e = .returned (.bool true) ∧ J ((hnm D.q z i0 * D.q + (t + 1)) * D.q ^ k) Y ∧ KpO own W Y) := fun gr c vr wx hvr hrw hgr hc3 hc4 hx => by
            have h1 := hx.size
            refine (HIH.out (i0 + 1) z' vr gr c wx (by omega) (fun i hi => ?_) hvr hrw (by omega) (by omega) (by omega) (by omega) (hatR.below hx hatR.ltF hatR.ltT) (fun _ => hMR.below hx) hc3 hc4 (by rw [hhn]; exact HN.out.2.2.2.2.2.1 _ _ _ HG.out.1 hx)).mono ?_
            · by_cases e : i = i0
              · rw [e, hzi]; exact hlt
              · rw [hzo i (by omega)]; exact HF.out.2.2.2.2.2.1 i (by omega)
            · rintro e Y ⟨rfl, h2, h3⟩
              rw [hhn] at h2
              exact ⟨rfl, h2, (HG.out.2.trans (.of_below hx)).trans h3⟩
          have hbc : Below wr.heap.size wr wr := Below.refl _ _
          have HCl : Hid (∀ wx, Below wr.heap.size wr wx → wx.cell? ⟨G, i0, none⟩ = some (.slice (some ⟨h i0, 0, none⟩) n n)) := fun wx hx => ((bcell hx).1 G i0 (cell_lt hcell)).trans hcell
          have HCk : Hid (∀ wx, KpO own W wx → wx.cell? ⟨G, i0, none⟩ = some (.slice (some ⟨h i0, 0, none⟩) n n)) := fun wx hx => (HF.out.2.2.1.keepO hx HN.out.2.2.1 HN.out.2.2.2.1).cellG i0 hiK
          clear hatR hMR hrR hz' hzi hzo hen hhn
          have HVR : Hid (gtR G K mc (i0 + 1) (.slice (some ⟨G, i0 + 1, none⟩) (L - 1) (C - 1))) := by
            have h8 := HF.out.2.2.2.2.2.2.2
            by_cases e : i0 + 1 = K
            · have e2 : L - 1 = 0 := by omega
              rw [e2]
              exact Or.inr ⟨e, _, _, rfl⟩
            · refine Or.inl ⟨by omega, ?_⟩
              rw [show K - (i0 + 1) = L - 1 by omega, show mc - (i0 + 1) = C - 1 by omega]
          go_wp2
          refine wp_region_noPanic ?_
          go_region_held3 (fun w' => w'.cell? ⟨G, i0, none⟩ = some (.slice (some ⟨h i0, 0, none⟩) n n)) (first | go_keep | exact HCk.out _ hk3 | exact HCl.out _ (by first | exact hbc | exact hbc.drew))
            (first
              | (go_at_call 43; refine (HPl.out _ (by first | exact hbc | exact hbc.drew | exact hbc.drew.drew)).mono ?_; rintro e w2 ⟨gr, c, rfl, hg1, hg2, hg3, hg4, hb2⟩; replace hbc := hb2)
              | (go_at_call 28; refine (HGo.out gr c _ _ (by first | exact HVR.out | exact HVR2.out) (by first | exact hg4 | exact hg4.drewN 1) hg1 hg2 hg3 (by first | exact hbc | exact hbc.drew)).mono ?_; rintro e w3 ⟨rfl, hj3, hk3⟩)
              | fail)
          refine NoPanic.normal ?_
          have HR : Hid (J ((hnm D.q z i0 * D.q + (t + 1)) * D.q ^ k) w3 ∧ KpO own W w3) := ⟨hj3, hk3⟩
          clear hj3 hk3 hcell hbc hg1 hg2 hg3 hg4 hb2
          go_wp2
          go_roundw
          case rel => exact ⟨t + 1, by omega, by go_num, HR.out⟩
          case measure => simp [intOf]; omega
        · have hib : ¬ (t : Int) < (D.q : Int) := by omega
          have hte : t = D.q := by omega
          have HR : Hid (J ((hnm D.q z i0 + 1) * D.q ^ (k + 1)) wr) := by
            have h1 := HG.out.1
            rw [hte] at h1
            have e : (hnm D.q z i0 + 1) * D.q ^ (k + 1) = (hnm D.q z i0 * D.q + D.q) * D.q ^ k := by
              rw [Nat.pow_succ', ← Nat.mul_assoc, Nat.add_mul, Nat.one_mul]
            show J _ wr
            rw [e]; exact h1
          clear hte
          go_wp2
          go_ret
          exact ⟨rfl, HR.out, HG.out.2⟩
end Go.Proofs.YtpgaakjldlcejaaDoor
