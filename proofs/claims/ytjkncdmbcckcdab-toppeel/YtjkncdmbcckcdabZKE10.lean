/- Codes of few checks: a round of turning (the program's turned). -/
import Derived.Test.YtjkncdmbcckcdabZKE9
namespace Go.Proofs.Ytjkncdmbcckcdab
open Go.RowKit Go.Sort

/-- How often a place stands in the first of some rows. -/
def oall (N : Nat → Nat) (Z : Nat → Nat → Int) (p : Nat) : Nat → Nat
  | 0 => 0
  | k + 1 => oall N Z p k + ofc (Z k) (N k) p
theorem ofc_le (z : Nat → Int) (p : Nat) : ∀ m, ofc z m p ≤ m
  | 0 => Nat.le_refl _
  | m + 1 => by
    have := ofc_le z p m
    show ct _ m + (if decide ((z m).toNat = p) = true then 1 else 0) ≤ m + 1
    have h : ct (fun j => decide ((z j).toNat = p)) m ≤ m := this
    split <;> omega
theorem oall_le {N : Nat → Nat} {Z : Nat → Nat → Int} {p : Nat} : ∀ k, (∀ i, i < k → N i ≤ 6000) → oall N Z p k ≤ k * 6000
  | 0, _ => Nat.le_refl _
  | k + 1, h => by
    have h1 := oall_le (N := N) (Z := Z) (p := p) k (fun i hi => h i (by omega))
    have h2 := ofc_le (Z k) p (N k)
    have h3 := h k (by omega)
    show oall N Z p k + ofc (Z k) (N k) p ≤ (k + 1) * 6000
    omega
theorem oall_ofl (N : Nat → Nat) (Z : Nat → Nat → Int) (p : Nat) (l : List Nat) : ∀ k, k ≤ l.length → oall (fun i => N (l.getD i 0)) (fun i => Z (l.getD i 0)) p k = ofl N Z p (l.take k)
  | 0, _ => rfl
  | k + 1, h => by
    have ih := oall_ofl N Z p l k (by omega)
    show oall _ _ p k + ofc (Z (l.getD k 0)) (N (l.getD k 0)) p = _
    rw [ih, List.take_add_one, List.getElem?_eq_getElem (by omega), ofl_app]
    have e : l.getD k 0 = l[k] := by rw [List.getD_eq_getElem?_getD, List.getElem?_eq_getElem (by omega)]; rfl
    rw [e]
    show _ = _ + (ofc (Z l[k]) (N l[k]) p + 0)
    omega
/-- Turned up to a place. -/
def trnd (f : Nat → Nat) (t : Nat) (y : Nat → Int) (q : Nat) : Nat → Int := fun p => if p < q ∧ f p = t then 1 - y p else y p

set_option maxHeartbeats 16000000 in
set_option maxRecDepth 100000 in
theorem turned_any {ao : Option Addr} {K ca n bw ow cw : Nat} {A : Nat → Option Addr} {N C : Nat → Nat} {Z : Nat → Nat → Int} {y : Nat → Int} {w : World} (hA : MatZ ao K A N C Z w) (hy : SlZ (some ⟨bw, ow, none⟩) n y w) (hlw : bw < w.heap.size) (hK : K ≤ 64) (hn1 : 1 ≤ n) (hn : n ≤ 64) (hN : ∀ i, i < K → N i ≤ 6000) (hZ : ∀ i, i < K → ∀ j, j < N i → 0 ≤ Z i j ∧ Z i j < (n : Int)) (hb : ∀ p, p < n → y p = 0 ∨ y p = 1) :
    Calls Try.prog 30 #[.slice (some ⟨bw, ow, none⟩) n cw, .slice ao K ca] w fun e w' => ∃ g c, e = .returned (.slice (some ⟨g, 0, none⟩) n c) ∧ w.heap.size ≤ g ∧ RowZ g n (trnd (fun p => oall N Z p K) (mxv (fun p => oall N Z p K) n) y n) w' ∧ Below w.heap.size w w' := by
  have HF : Hid (MatZ ao K A N C Z w ∧ SlZ (some ⟨bw, ow, none⟩) n y w ∧ (∀ i, i < K → N i ≤ 6000) ∧ (∀ i, i < K → ∀ j, j < N i → 0 ≤ Z i j ∧ Z i j < (n : Int)) ∧ (∀ p, p < n → y p = 0 ∨ y p = 1) ∧ bw < w.heap.size) := ⟨hA, hy, hN, hZ, hb, hlw⟩
  clear hA hy hN hZ hb hlw
  go_enter Try.func30, Try.ntmps30
  go_wp2_with (at_make; refine make_int rfl _ _ rfl _ n rfl rfl rfl (by omega) ?_; intro w1 hown1 hgrow1)
  have H1 : Hid (Row w.heap.size n pnil w1 ∧ Below w.heap.size w w1) := ⟨row_zeros hown1, below_grown hgrow1 (Nat.le_refl _) (fun k hk => by simp at hk)⟩
  obtain ⟨go, hgo⟩ : ∃ go, go = w.heap.size := ⟨_, rfl⟩
  rw [← hgo]
  have HG : Hid (go = w.heap.size) := hgo
  clear hown1 hgrow1 hgo
  go_loopw [18] (fun vi wx => ∃ i : Nat, i ≤ K ∧ vi = .int .i64 (i : Nat) ∧ Hid (Row go n (fun p => oall N Z p i) wx ∧ Below w.heap.size w wx)) (fun vi _ => K - (intOf vi).toNat)
  case atStart => exact ⟨0, by omega, rfl, by rw [HG.out]; exact H1.out.1, H1.out.2⟩
  case round =>
    obtain ⟨i, hi, rfl, HI⟩ := hrel
    rename World => wA
    by_cases hlt : i < K
    · have hib : (i : Int) < (K : Int) := by omega
      have hib0 : (0 : Int) ≤ (i : Int) := by omega
      obtain ⟨b, off, rfl, hci⟩ := (HF.out.1.below HI.out.2).cell i hlt
      obtain ⟨Ni, hNi⟩ : ∃ Ni, Ni = N i := ⟨_, rfl⟩
      obtain ⟨Ai, hAi⟩ : ∃ Ai, Ai = A i := ⟨_, rfl⟩
      obtain ⟨Ci, hCi⟩ : ∃ Ci, Ci = C i := ⟨_, rfl⟩
      rw [← hNi, ← hAi, ← hCi] at hci
      have hN6 : Ni ≤ 6000 := by rw [hNi]; exact HF.out.2.2.1 i hlt
      have HN : Hid (Ni = N i ∧ (∀ wx, Below w.heap.size w wx → SlZ Ai Ni (Z i) wx) ∧ ∀ j, j < Ni → 0 ≤ Z i j ∧ Z i j < (n : Int)) := ⟨hNi, fun wx hb => by rw [hNi, hAi]; exact (HF.out.1.below hb).sl i hlt, fun j hj => HF.out.2.2.2.1 i hlt j (by rw [← hNi]; exact hj)⟩
      clear hNi hAi hCi
      go_wp2
      go_loopw [24] (fun vj wx => ∃ j : Nat, j ≤ Ni ∧ vj = .int .i64 (j : Nat) ∧ Hid (Row go n (fun p => oall N Z p i + ofc (Z i) j p) wx ∧ Below w.heap.size w wx)) (fun vj _ => Ni - (intOf vj).toNat)
      case atStart => exact ⟨0, by omega, rfl, HI.out⟩
      case round =>
        obtain ⟨j, hj, rfl, HJ⟩ := hrel
        rename World => wB
        by_cases hlj : j < Ni
        · have hjb : (j : Int) < (Ni : Int) := by omega
          have hjb0 : (0 : Int) ≤ (j : Int) := by omega
          obtain ⟨bx, ox, rfl, hcx⟩ := HN.out.2.1 wB HJ.out.2 j hlj
          have hxr := HN.out.2.2 j hlj
          obtain ⟨X, hX⟩ : ∃ X : Nat, Z i j = (X : Int) := ⟨(Z i j).toNat, by omega⟩
          rw [hX] at hcx hxr
          have hXn : X < n := by omega
          have hXb : (X : Int) < (n : Int) := by omega
          have hX0 : (0 : Int) ≤ (X : Int) := by omega
          have hcc := HJ.out.1.cell X hXn
          have hff := HJ.out.1.free X
          obtain ⟨ov, hov⟩ : ∃ ov, ov = oall N Z X i + ofc (Z i) j X := ⟨_, rfl⟩
          replace hcc : wB.cell? ⟨go, X, none⟩ = some (.int .i64 ((ov : Nat) : Int)) := by rw [hov]; exact hcc
          have hovb : ov ≤ 400000 := by
            have h1 := oall_le (N := N) (Z := Z) (p := X) i (fun i' h' => HF.out.2.2.1 i' (by omega))
            have h2 := ofc_le (Z i) X j
            omega
          have hov1 : (ov : Int) + 1 = ((ov + 1 : Nat) : Int) := by omega
          have HR : Hid (Row go n (fun p => oall N Z p i + ofc (Z i) (j + 1) p) (wB.setCell ⟨go, X, none⟩ (.int .i64 ((ov : Int) + 1))) ∧ Below w.heap.size w (wB.setCell ⟨go, X, none⟩ (.int .i64 ((ov : Int) + 1)))) := by
            rw [hov1]
            refine ⟨HJ.out.1.store X (ov + 1) (fun p _ => ?_), HJ.out.2.setCell (by show w.heap.size ≤ go; rw [HG.out]; exact Nat.le_refl _) _⟩
            show oall N Z p i + (ct (fun j => decide ((Z i j).toNat = p)) j + if decide ((Z i j).toNat = p) = true then 1 else 0) = if p = X then ov + 1 else oall N Z p i + ofc (Z i) j p
            rw [hX, Int.toNat_natCast]
            by_cases e : p = X
            · rw [if_pos e, e, if_pos (decide_eq_true rfl), hov]; rfl
            · rw [if_neg e, if_neg (by simp; omega)]; rfl
          clear hov hX hov1
          go_wp2
          go_roundw
          case rel => exact ⟨j + 1, by omega, by go_num, HR.out⟩
          case measure => simp [intOf]; omega
        · have hjb : ¬ (j : Int) < (Ni : Int) := by omega
          have HV : Hid (Row go n (fun p => oall N Z p (i + 1)) wB) := by
            refine HJ.out.1.congr (fun p _ => ?_)
            show oall N Z p i + ofc (Z i) j p = oall N Z p i + ofc (Z i) (N i) p
            rw [← HN.out.1, show Ni = j by omega]
          go_wp2
          go_roundw
          case rel => exact ⟨i + 1, by omega, by go_num, HV.out, HJ.out.2⟩
          case measure => simp [intOf]; omega
    · have hib : ¬ (i : Int) < (K : Int) := by omega
      have hie : K = i := by omega
      subst hie
      obtain ⟨f, hf⟩ : ∃ f, f = fun p => oall N Z p K := ⟨_, rfl⟩
      obtain ⟨t, ht⟩ : ∃ t, t = mxv f n := ⟨_, rfl⟩
      have hf6 : ∀ p, f p ≤ 400000 := fun p => by
        have h1 := oall_le (N := N) (Z := Z) (p := p) K (fun i' h' => HF.out.2.2.1 i' h')
        rw [hf]
        show oall N Z p K ≤ 400000
        omega
      have H2 : Hid (Row go n f wA ∧ Below w.heap.size w wA) := ⟨by rw [hf]; exact HI.out.1, HI.out.2⟩
      have HCl : Hid (Calls Try.prog 23 #[.slice (some ⟨bw, ow, none⟩) n cw] wA fun e w' => ∃ g c, e = .returned (.slice (some ⟨g, 0, none⟩) n c) ∧ wA.heap.size ≤ g ∧ RowZ g n y w' ∧ Below wA.heap.size wA w') := by
        refine (sclone_any (slz_below HF.out.2.1 H2.out.2) (by omega) (by omega) (by have := H2.out.2.size; have := HF.out.2.2.2.2.2; omega)).mono ?_
        rintro e w' ⟨g, c, e1, _, _, e2, e3, e4⟩
        exact ⟨g, c, e1, e2, e3, e4⟩
      have HMx : Hid (∀ wx, Below wA.heap.size wA wx → Calls Try.prog 46 #[.slice (some ⟨go, 0, none⟩) n n] wx fun e w' => e = .returned (.int .i64 (t : Nat)) ∧ w' = wx) := fun wx hb => by
        rw [ht]; exact smax_any (H2.out.1.below hb H2.out.1.lt) (by omega) (by omega) (fun p _ => by have := hf6 p; omega)
      have HT : Hid (t = mxv f n ∧ f = fun p => oall N Z p K) := ⟨ht, hf⟩
      clear ht hf HI
      go_wp2_with fail
      refine HCl.out.mono ?_
      rintro e w3 ⟨g, c, rfl, hg, hr3, hb3⟩
      have H3 : Hid (wA.heap.size ≤ g ∧ RowZ g n y w3 ∧ Below wA.heap.size wA w3) := ⟨hg, hr3, hb3⟩
      clear hg hr3 hb3
      go_wp2_with fail
      refine (HMx.out w3 H3.out.2.2).mono ?_
      rintro e w' ⟨rfl, hw⟩
      have hw := hw.symm
      subst hw
      go_wp2
      go_loopw [42] (fun vi wx => ∃ q : Nat, q ≤ n ∧ vi = .int .i64 (q : Nat) ∧ Hid (RowZ g n (trnd f t y q) wx ∧ Below wA.heap.size wA wx)) (fun vi _ => n - (intOf vi).toNat)
      case atStart => exact ⟨0, by omega, rfl, H3.out.2.1.congr (fun p _ => (if_neg (by omega)).symm), H3.out.2.2⟩
      case round =>
        obtain ⟨q, hq, rfl, HQ⟩ := hrel
        rename World => wC
        by_cases hlq : q < n
        · have hqb : (q : Int) < (n : Int) := by omega
          have hqb0 : (0 : Int) ≤ (q : Int) := by omega
          have hco := (H2.out.1.below HQ.out.2 H2.out.1.lt).cell q hlq
          obtain ⟨x, hx⟩ : ∃ x, x = f q := ⟨_, rfl⟩
          rw [← hx] at hco
          by_cases hxt : x = t
          · have hz : ((x : Int) == (t : Int)) = true := by rw [hxt]; simp
            have hcc := HQ.out.1.cell q hlq
            have hff := HQ.out.1.free q
            have hyq : trnd f t y q q = y q := if_neg (by omega)
            rw [hyq] at hcc
            have HR : Hid (RowZ g n (trnd f t y (q + 1)) (wC.setCell ⟨g, q, none⟩ (.int .i64 (1 - y q))) ∧ Below wA.heap.size wA (wC.setCell ⟨g, q, none⟩ (.int .i64 (1 - y q)))) := by
              refine ⟨HQ.out.1.store q _ (fun p _ => ?_), HQ.out.2.setCell H3.out.1 _⟩
              unfold trnd
              by_cases e : p = q
              · rw [if_pos e, e, if_pos ⟨by omega, by rw [← hx]; exact hxt⟩]
              · rw [if_neg e]
                by_cases e2 : p < q ∧ f p = t
                · rw [if_pos e2, if_pos ⟨by omega, e2.2⟩]
                · rw [if_neg e2, if_neg (fun h => e2 ⟨by omega, h.2⟩)]
            clear hxt hx hyq
            rcases HF.out.2.2.2.2.1 q hlq with hv | hv
            · rw [hv] at hcc HR
              clear hv
              go_wp2
              go_roundw
              case rel => exact ⟨q + 1, by omega, by go_num, HR.out⟩
              case measure => simp [intOf]; omega
            · rw [hv] at hcc HR
              clear hv
              go_wp2
              go_roundw
              case rel => exact ⟨q + 1, by omega, by go_num, HR.out⟩
              case measure => simp [intOf]; omega
          · have hz : ((x : Int) == (t : Int)) = false := by rw [beq_eq_false_iff_ne]; omega
            have HV : Hid (RowZ g n (trnd f t y (q + 1)) wC) := by
              refine HQ.out.1.congr (fun p _ => ?_)
              unfold trnd
              by_cases e2 : p < q ∧ f p = t
              · rw [if_pos e2, if_pos ⟨by omega, e2.2⟩]
              · rw [if_neg e2, if_neg (fun h => e2 ⟨?_, h.2⟩)]
                have h1 := h.1
                by_cases e : p = q
                · exact absurd (by rw [hx, ← e]; exact h.2) hxt
                · omega
            clear hxt hx
            go_wp2
            go_roundw
            case rel => exact ⟨q + 1, by omega, by go_num, HV.out, HQ.out.2⟩
            case measure => simp [intOf]; omega
        · have hqb : ¬ (q : Int) < (n : Int) := by omega
          have hqe : n = q := by omega
          subst hqe
          have HR : Hid (w.heap.size ≤ g ∧ RowZ g n (trnd (fun p => oall N Z p K) (mxv (fun p => oall N Z p K) n) y n) wC ∧ Below w.heap.size w wC) := ⟨by have := H2.out.2.size; have := H3.out.1; omega, by rw [← HT.out.2, ← HT.out.1]; exact HQ.out.1, bel_up' H2.out.2 HQ.out.2⟩
          go_wp2
          go_ret
          exact ⟨g, ⟨c, rfl⟩, HR.out⟩
end Go.Proofs.Ytjkncdmbcckcdab
