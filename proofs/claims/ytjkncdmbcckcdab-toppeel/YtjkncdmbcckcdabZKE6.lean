/- Texts of ours, one behind the other: KE6 KE7 KE8. -/
import Derived.Test.YtjkncdmbcckcdabZKE5
import Derived.Test.YtjkncdmbcckcdabZL1
import Derived.Test.YtjkncdmbcckcdabZW4
/- Codes of few checks: the program's Peel. -/
namespace Go.Proofs.Ytjkncdmbcckcdab
open Go.RowKit Go.Sort

/-- Which places are lost. -/
def lefts (y : Nat → Int) : Nat → List Int
  | 0 => []
  | p + 1 => if y p = -1 then lefts y p ++ [(p : Int)] else lefts y p
theorem lefts_len (y : Nat → Int) : ∀ p, (lefts y p).length ≤ p
  | 0 => Nat.le_refl _
  | p + 1 => by
    have := lefts_len y p
    show (if y p = -1 then lefts y p ++ [(p : Int)] else lefts y p).length ≤ p + 1
    split
    · rw [List.length_append]; show _ + 1 ≤ _; omega
    · omega
theorem ct_alike {p q : Nat → Bool} : ∀ n, (∀ i, i < n → p i = q i) → ct p n = ct q n
  | 0, _ => rfl
  | n + 1, h => by
    show ct p n + (if p n = true then 1 else 0) = ct q n + if q n = true then 1 else 0
    rw [ct_alike n (fun i hi => h i (by omega)), h n (by omega)]
/-- What Peel tells. -/
def PeP (m n : Nat) (N : Nat → Nat) (Z : Nat → Nat → Int) (y : Nat → Int) (w : World) (e : Ending) (w' : World) : Prop := Below w.heap.size w w' ∧ ∃ g c vl k, e = .returned (.tuple #[.slice (some ⟨g, 0, none⟩) n c, vl, .int .i64 0]) ∧ pround m N Z (prounds m N Z y k) = prounds m N Z y k ∧ RowZ g n (prounds m N Z y k) w' ∧ OwnI w.heap.size vl (lefts (prounds m N Z y k) n) w'
def PeI (m n : Nat) (N : Nat → Nat) (Z : Nat → Nat → Int) (y : Nat → Int) (w : World) (gk : Nat) (vf : Value) (wx : World) : Prop := ∃ g c k, vf = .slice (some ⟨g, 0, none⟩) n c ∧ Hid (w.heap.size ≤ g ∧ RowZ g n (prounds m N Z y k) wx ∧ gk = lct n (prounds m N Z y k) ∧ Below w.heap.size w wx)

set_option maxHeartbeats 16000000 in
set_option maxRecDepth 100000 in
theorem speel_ok {ao : Option Addr} {m ca n bw ow cw : Nat} {A : Nat → Option Addr} {N C : Nat → Nat} {Z : Nat → Nat → Int} {y : Nat → Int} {w : World} (hA : MatZ ao m A N C Z w) (hy : SlZ (some ⟨bw, ow, none⟩) n y w) (hlw : bw < w.heap.size) (hN : ∀ i, i < m → N i ≤ 6000) (h0 : schk (n : Int) m N Z = 0) (h1 : bchk isht n y (n : Int) = 0) :
    Calls Try.prog 10 #[.int .i64 (n : Nat), .slice ao m ca, .slice (some ⟨bw, ow, none⟩) n cw] w (PeP m n N Z y w) := by
  obtain ⟨g1, g2, g3, g4⟩ := schk_ok h0
  have hn1 : 1 ≤ n := by omega
  have hn : n ≤ 64 := by omega
  have HCk : Hid (Calls Try.prog 21 #[.int .i64 (n : Nat), .slice ao m ca] w fun e w' => e = .returned (.int .i64 0) ∧ w' = w) := by
    have h := scheck_any (n : Int) (ca := ca) hA (by omega)
    rw [h0] at h; exact h
  have HHd : Hid (Calls Try.prog 22 #[.slice (some ⟨bw, ow, none⟩) n cw, .int .i64 (n : Nat)] w fun e w' => e = .returned (.int .i64 0) ∧ w' = w) := by
    have h := bHeard_any (n : Int) (cap := cw) hy (by omega)
    rw [h1] at h; exact h
  have HCl : Hid (Calls Try.prog 23 #[.slice (some ⟨bw, ow, none⟩) n cw] w fun e w' => ∃ g c, e = .returned (.slice (some ⟨g, 0, none⟩) n c) ∧ n ≤ c ∧ c ≤ 9223372036854775807 ∧ w.heap.size ≤ g ∧ RowZ g n y w' ∧ Below w.heap.size w w') := sclone_any hy (by omega) (by omega) hlw
  have HF : Hid (∀ wx g c y', Below w.heap.size w wx → RowZ g n y' wx → Calls Try.prog 24 #[.slice ao m ca, .slice (some ⟨g, 0, none⟩) n c] wx fun e w' => ∃ g' c', e = .returned (.slice (some ⟨g', 0, none⟩) n c') ∧ wx.heap.size ≤ g' ∧ RowZ g' n (pround m N Z y') w' ∧ Below wx.heap.size wx w') := fun wx g c y' hb hr => by
    refine (fill_any (hA.below hb) hr.slz hr.lt' g3 hn1 hn hN g4).mono ?_
    rintro e w' ⟨g', c', e1, _, _, e2, e3, e4⟩
    exact ⟨g', c', e1, e2, e3, e4⟩
  have HZ : Hid (∀ i, i < m → ∀ j, j < N i → 0 ≤ Z i j ∧ Z i j < (n : Int)) := g4
  clear hA hy hlw hN h0 h1 g1 g2 g3 g4
  go_enter Try.func10, Try.ntmps10
  go_wp2_with fail
  refine HCk.out.mono ?_
  rintro e w' ⟨rfl, hw⟩
  have hw := hw.symm
  subst hw
  go_wp2_with fail
  refine HHd.out.mono ?_
  rintro e w' ⟨rfl, hw⟩
  have hw := hw.symm
  subst hw
  go_wp2_with fail
  refine HCl.out.mono ?_
  rintro e w1 ⟨g, c, rfl, _, _, hg, hr1, hb1⟩
  have H1 : Hid (PeI m n N Z y w (lct n y) (.slice (some ⟨g, 0, none⟩) n c) w1) := ⟨g, c, 0, rfl, hg, hr1, rfl, hb1⟩
  clear hg hr1 hb1 HCk HHd HCl
  go_wp2
  go_loopg [6] (lct n y) (fun gk vf wx => PeI m n N Z y w gk vf wx)
  case atStart => exact H1.out
  case round =>
    clear H1
    obtain ⟨g, c, k, rfl, HI⟩ := hrel
    rename World => wA
    have HFl : Hid (Calls Try.prog 24 #[.slice ao m ca, .slice (some ⟨g, 0, none⟩) n c] wA fun e w' => ∃ g' c', e = .returned (.slice (some ⟨g', 0, none⟩) n c') ∧ wA.heap.size ≤ g' ∧ RowZ g' n (pround m N Z (prounds m N Z y k)) w' ∧ Below wA.heap.size wA w') := HF.out wA g c _ HI.out.2.2.2 HI.out.2.1
    go_wp2_with fail
    refine HFl.out.mono ?_
    rintro e w2 ⟨g', c', rfl, hg', hr2, hb2⟩
    obtain ⟨R, hR⟩ : ∃ R, R = eqN (pround m N Z (prounds m N Z y k)) (prounds m N Z y k) n := ⟨_, rfl⟩
    have H2 : Hid (Below w.heap.size w w2 ∧ RowZ g n (prounds m N Z y k) w2 ∧ RowZ g' n (pround m N Z (prounds m N Z y k)) w2 ∧ w.heap.size ≤ g') := ⟨bel_up' HI.out.2.2.2 hb2, HI.out.2.1.below hb2 HI.out.2.1.lt', hr2, by have := HI.out.2.2.2.size; omega⟩
    have HEq : Hid (Calls Try.prog 25 #[.slice (some ⟨g', 0, none⟩) n c', .slice (some ⟨g, 0, none⟩) n c] w2 fun e w' => e = .returned (.bool R) ∧ ∃ d, w' = w2.drewN d) := by
      rw [hR]; exact sequal_any H2.out.2.2.1.slz H2.out.2.1.slz (by omega)
    have HRn : Hid (R = eqN (pround m N Z (prounds m N Z y k)) (prounds m N Z y k) n) := hR
    clear hg' hr2 hb2 hR HFl
    cases R with
    | false =>
      go_wp2_with fail
      refine HEq.out.mono ?_
      rintro e w3 ⟨rfl, d3, hw3⟩
      have H3 : Hid (PeI m n N Z y w (lct n (pround m N Z (prounds m N Z y k))) (.slice (some ⟨g', 0, none⟩) n c') w3 ∧ lct n (pround m N Z (prounds m N Z y k)) < gk) := by
        refine ⟨⟨g', c', k + 1, rfl, H2.out.2.2.2, ?_, rfl, ?_⟩, ?_⟩
        · have hb3 : Below w2.heap.size w2 w3 := by rw [hw3]; exact below_drewN2 (Below.refl _ _) d3
          exact H2.out.2.2.1.below hb3 H2.out.2.2.1.lt'
        · rw [hw3]; exact below_drewN2 H2.out.1 d3
        · rw [HI.out.2.2.1]
          rcases pround_next (y := prounds m N Z y k) HZ.out with ⟨h, _⟩ | h
          · have := (eqN_iff n).2 h
            rw [← HRn.out] at this; cases this
          · exact h
      clear hw3
      go_wp2
      go_roundg (lct n (pround m N Z (prounds m N Z y k)))
      case measure => exact H3.out.2
      case rel => exact H3.out.1
    | true =>
      have HFx : Hid (pround m N Z (prounds m N Z y k) = prounds m N Z y k) := by
        rcases pround_next (y := prounds m N Z y k) HZ.out with ⟨_, h⟩ | h
        · exact h
        · have h1 := (eqN_iff n).1 HRn.out.symm
          have h2 : lct n (pround m N Z (prounds m N Z y k)) = lct n (prounds m N Z y k) := by
            unfold lct
            exact ct_alike n (fun p hp => by rw [h1 p hp])
          omega
      go_wp2_with fail
      refine HEq.out.mono ?_
      rintro e w3 ⟨rfl, d3, hw3⟩
      obtain ⟨yk, hyk⟩ : ∃ yk, yk = prounds m N Z y k := ⟨_, rfl⟩
      have H3 : Hid (Below w.heap.size w w3 ∧ RowZ g n yk w3) := by
        have hb3 : Below w2.heap.size w2 w3 := by rw [hw3]; exact below_drewN2 (Below.refl _ _) d3
        exact ⟨bel_up' H2.out.1 hb3, by rw [hyk]; exact H2.out.2.1.below hb3 H2.out.2.1.lt'⟩
      have HY : Hid (yk = prounds m N Z y k) := hyk
      clear hw3 hyk
      go_wp2
      go_loopw [7, 35] (fun vl vi wx => ∃ i : Nat, i ≤ n ∧ vi = .int .i64 (i : Nat) ∧ Hid (OwnI w3.heap.size vl (lefts yk i) wx ∧ Below w3.heap.size w3 wx)) (fun _ vi _ => n - (intOf vi).toNat)
      case atStart => exact ⟨0, by omega, rfl, OwnI.nil _ _, Below.refl _ _⟩
      case round =>
        obtain ⟨i, hi, rfl, HJ⟩ := hrel
        rename World => wB
        have hszB := HJ.out.2.size
        by_cases hlt : i < n
        · have hib : (i : Int) < (n : Int) := by omega
          have hib0 : (0 : Int) ≤ (i : Int) := by omega
          have hcc := (H3.out.2.below HJ.out.2 H3.out.2.lt').cell i hlt
          obtain ⟨v, hv⟩ : ∃ v, v = yk i := ⟨_, rfl⟩
          rw [← hv] at hcc
          by_cases h1 : v = -1
          · have hz : (v == -1) = true := by rw [h1]; rfl
            have HV : Hid (lefts yk (i + 1) = lefts yk i ++ [(i : Int)]) := if_pos (by rw [← hv]; exact h1)
            have hle := lefts_len yk i
            clear h1 hv
            go_wp2_with (at_builtin; refine append_int rfl _ _ rfl w3.heap.size _ (lefts yk i) rfl (HJ.out.1.alloc _) ⟨_, 0, none⟩ 1 (i : Int) rfl (by simp) (by omega) (by simp; omega) ?_; intro v5 w5 hown5 hgrow5)
            have HR : Hid (OwnI w3.heap.size v5 (lefts yk (i + 1)) w5 ∧ Below w3.heap.size w3 w5) := ⟨by rw [HV.out]; exact hown5, (HJ.out.2.alloc hszB _).grown hgrow5 (by simp; omega) (fun b hb => (HJ.out.1.lt b hb).1)⟩
            clear hown5 hgrow5
            go_roundw
            case rel => exact ⟨i + 1, by omega, by go_num, HR.out⟩
            case measure => simp [intOf]; omega
          · have hz : (v == -1) = false := beq_eq_false_iff_ne.2 h1
            have HV : Hid (lefts yk (i + 1) = lefts yk i) := if_neg (by rw [← hv]; exact h1)
            clear h1 hv
            go_wp2
            go_roundw
            case rel => exact ⟨i + 1, by omega, by go_num, by rw [HV.out]; exact HJ.out.1, HJ.out.2⟩
            case measure => simp [intOf]; omega
        · have hib : ¬ (i : Int) < (n : Int) := by omega
          have hie : n = i := by omega
          subst hie
          have HR : Hid (PeP m n N Z y w (.returned (.tuple #[.slice (some ⟨g, 0, none⟩) n c, u7, .int .i64 0])) wB) := by
            refine ⟨bel_up' H3.out.1 HJ.out.2, g, c, u7, k, rfl, HFx.out, ?_, ?_⟩
            · rw [← HY.out]; exact H3.out.2.below HJ.out.2 H3.out.2.lt'
            · rw [← HY.out]; exact HJ.out.1.mono H3.out.1.size
          go_wp2
          go_ret3
          exact HR.out
end Go.Proofs.Ytjkncdmbcckcdab

/- Codes of few checks: the reference's alone and Peeled. -/
namespace Go.Proofs.Ytjkncdmbcckcdab
open Go.RowKit Go.Sort

end Go.Proofs.Ytjkncdmbcckcdab

/- Codes of few checks: the reference's Peeled. -/
namespace Go.Proofs.Ytjkncdmbcckcdab
open Go.RowKit Go.Sort

set_option maxHeartbeats 2000000 in
theorem rcopyZ_any {b off n cap : Nat} {z : Nat → Int} {w : World} (h : SlZ (some ⟨b, off, none⟩) n z w) (h0 : 0 < n) (hn : n ≤ 1000000) (hl : b < w.heap.size) :
    Calls Try.prog 9 #[.slice (some ⟨b, off, none⟩) n cap] w fun e w' => ∃ g c, e = .returned (.slice (some ⟨g, 0, none⟩) n c) ∧ w.heap.size ≤ g ∧ RowZ g n z w' ∧ Below w.heap.size w w' := by
  have HS : Hid (SlZ (some ⟨b, off, none⟩) n z w ∧ LtB (some ⟨b, off, none⟩) w.heap.size) := ⟨h, fun x hx => by cases hx; exact hl⟩
  clear h hl
  go_enter Try.func9, Try.ntmps9
  go_wp2_with (at_builtin; refine append_ints rfl _ _ rfl w.heap.size _ [] rfl (own_empty (two_new _) (Nat.le_refl _)) (some ⟨b, off, none⟩) n cap z rfl (HS.out.1.below ((Below.refl _ _).alloc (Nat.le_refl _) _) HS.out.2) (fun e => by cases e) (by simpa using hn) (by simp) ?_; intro v' w' hown hgrow)
  obtain ⟨g, c, e1, _, _, g3, g4⟩ := OwnI.rowZ hown h0
  subst e1
  have HB : Hid (Below w.heap.size w w') := ((Below.refl _ _).alloc (Nat.le_refl _) _).grown hgrow (by simp) (by intro k hk; have hk : some w.heap.size = some k := hk; cases hk; exact Nat.le_refl _)
  have HR : Hid (w.heap.size ≤ g ∧ RowZ g n z w') := ⟨g3, g4⟩
  clear hown hgrow g3 g4
  go_ret
  exact ⟨g, c, rfl, HR.out.1, HR.out.2, HB.out⟩
theorem RowZ.sliceI {g n c : Nat} {z : Nat → Int} {w : World} (h : RowZ g n z w) (h0 : 0 < n) (hn : n ≤ 1000000) : SliceI (.slice (some ⟨g, 0, none⟩) n c) (zl n z) w := by
  refine Or.inr ⟨fun e => ?_, by rw [zl_len]; exact hn, g, 0, c, by rw [zl_len], fun j hj => ?_⟩
  · have := congrArg List.length e
    rw [zl_len] at this
    exact absurd this (by show n ≠ 0; omega)
  · rw [zl_len] at hj
    rw [Nat.zero_add, h.cell j hj, zl_getD n z j hj]
end Go.Proofs.Ytjkncdmbcckcdab
