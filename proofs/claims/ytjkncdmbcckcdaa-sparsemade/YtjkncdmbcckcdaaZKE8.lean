/- Codes of few checks: the reference's Peeled. -/
import Derived.Test.YtjkncdmbcckcdaaZKE7
import Derived.Test.YtjkncdmbcckcdaaZU1
namespace Go.Proofs.Ytjkncdmbcckcdaa
open Go.RowKit Go.Sort

set_option maxHeartbeats 2000000 in
theorem rcopyZ_any {b off n cap : Nat} {z : Nat → Int} {w : World} (h : SlZ (some ⟨b, off, none⟩) n z w) (h0 : 0 < n) (hn : n ≤ 1000000) (hl : b < w.heap.size) :
    Calls Try.prog 46 #[.slice (some ⟨b, off, none⟩) n cap] w fun e w' => ∃ g c, e = .returned (.slice (some ⟨g, 0, none⟩) n c) ∧ w.heap.size ≤ g ∧ RowZ g n z w' ∧ Below w.heap.size w w' := by
  have HS : Hid (SlZ (some ⟨b, off, none⟩) n z w ∧ LtB (some ⟨b, off, none⟩) w.heap.size) := ⟨h, fun x hx => by cases hx; exact hl⟩
  clear h hl
  go_enter Try.func46, Try.ntmps46
  go_wp2_with (at_builtin; refine append_ints rfl _ _ rfl w.heap.size _ [] rfl (own_empty (two_new _) (Nat.le_refl _)) (some ⟨b, off, none⟩) n cap z rfl (HS.out.1.below ((Below.refl _ _).alloc (Nat.le_refl _) _) HS.out.2) (fun e => by cases e) (by simpa using hn) (by simp) ?_; intro v' w' hown hgrow)
  obtain ⟨g, c, e1, _, _, g3, g4⟩ := OwnI.rowZ hown h0
  subst e1
  have HB : Hid (Below w.heap.size w w') := ((Below.refl _ _).alloc (Nat.le_refl _) _).grown hgrow (by simp) (by intro k hk; have hk : some w.heap.size = some k := hk; cases hk; exact Nat.le_refl _)
  have HR : Hid (w.heap.size ≤ g ∧ RowZ g n z w') := ⟨g3, g4⟩
  clear hown hgrow g3 g4
  go_ret
  exact ⟨g, c, rfl, HR.out.1, HR.out.2, HB.out⟩
theorem RowZ.sliceI {g n c : Nat} {z : Nat → Int} {w : World} (h : RowZ g n z w) (h0 : 0 < n) (hn : n ≤ 1000000) : SliceI (.slice (some ⟨g, 0, none⟩) n c) (zl n z) w := by
  refine Or.inr ⟨fun e => ?_, by rw [zl_len]; exact hn, g, 0, c, by rw [zl_len], fun j hj => ?_⟩
  · have := congrArg List.length e
    rw [zl_len] at this
    exact absurd this (by show n ≠ 0; omega)
  · rw [zl_len] at hj
    rw [Nat.zero_add, h.cell j hj, zl_getD n z j hj]
theorem zl_eq_iff {n : Nat} {a b : Nat → Int} : zl n a = zl n b ↔ ∀ j, j < n → a j = b j := by
  constructor
  · intro h j hj
    have := congrArg (fun l => l.getD j 0) h
    simp only [zl_getD n a j hj, zl_getD n b j hj] at this
    exact this
  · exact zl_congr
theorem prounds_bits {m n : Nat} {N : Nat → Nat} {Z : Nat → Nat → Int} {y : Nat → Int} (h : Bts n y) : ∀ k, Bts n (prounds m N Z y k)
  | 0 => h
  | k + 1 => pround_bits (prounds_bits h k)
theorem flR_some {pr : Fil} {y : Nat → Int} {M d : Nat} {x : Nat × Int} (h : pr (M - 1 - d) = some x) : flR pr y M (d + 1) = fun p => if p = x.1 then x.2 else flR pr y M d p := by
  show (match pr (M - 1 - d) with
    | some x => fun p => if p = x.1 then x.2 else flR pr y M d p
    | none => flR pr y M d) = _
  rw [h]
theorem flR_none {pr : Fil} {y : Nat → Int} {M d : Nat} (h : pr (M - 1 - d) = none) : flR pr y M (d + 1) = flR pr y M d := by
  show (match pr (M - 1 - d) with
    | some x => fun p => if p = x.1 then x.2 else flR pr y M d p
    | none => flR pr y M d) = _
  rw [h]
theorem pround_R (m : Nat) (N : Nat → Nat) (Z : Nat → Nat → Int) (y : Nat → Int) : flR (pfil N Z y) y m m = pround m N Z y :=
  (fill_same (fun i x _ hx => ⟨(pfil_lost i x hx).1, (pfil_lost i x hx).2.1⟩)).symm
/-- What Peeled tells. -/
def PdP (m n : Nat) (N : Nat → Nat) (Z : Nat → Nat → Int) (y : Nat → Int) (w : World) (e : Ending) (w' : World) : Prop := Below w.heap.size w w' ∧ ∃ g c vl k, e = .returned (.tuple #[.slice (some ⟨g, 0, none⟩) n c, vl]) ∧ pround m N Z (prounds m N Z y k) = prounds m N Z y k ∧ RowZ g n (prounds m N Z y k) w' ∧ OwnI w.heap.size vl (lefts (prounds m N Z y k) n) w'

set_option maxHeartbeats 16000000 in
set_option maxRecDepth 100000 in
theorem rpeeled_any {ao : Option Addr} {m ca n bw ow cw : Nat} {A : Nat → Option Addr} {N C : Nat → Nat} {Z : Nat → Nat → Int} {y : Nat → Int} {w : World} (hA : MatZ ao m A N C Z w) (hy : SlZ (some ⟨bw, ow, none⟩) n y w) (hlw : bw < w.heap.size) (hm : m ≤ 64) (hn1 : 1 ≤ n) (hn : n ≤ 64) (hN : ∀ i, i < m → N i ≤ 6000) (hZ : ∀ i, i < m → ∀ j, j < N i → 0 ≤ Z i j ∧ Z i j < (n : Int)) (hB : Bts n y) :
    Calls Try.prog 31 #[.slice ao m ca, .slice (some ⟨bw, ow, none⟩) n cw] w (PdP m n N Z y w) := by
  have HCl : Hid (Calls Try.prog 46 #[.slice (some ⟨bw, ow, none⟩) n cw] w fun e w' => ∃ g c, e = .returned (.slice (some ⟨g, 0, none⟩) n c) ∧ w.heap.size ≤ g ∧ RowZ g n y w' ∧ Below w.heap.size w w') := rcopyZ_any hy (by omega) (by omega) hlw
  have HF : Hid (MatZ ao m A N C Z w ∧ (∀ i, i < m → N i ≤ 6000) ∧ (∀ i, i < m → ∀ j, j < N i → 0 ≤ Z i j ∧ Z i j < (n : Int)) ∧ Bts n y) := ⟨hA, hN, hZ, hB⟩
  clear hA hy hlw hN hZ hB
  go_enter Try.func31, Try.ntmps31
  go_wp2_with fail
  refine HCl.out.mono ?_
  rintro e w1 ⟨g, c, rfl, hg, hr1, hb1⟩
  have H1 : Hid (PeI m n N Z y w (lct n y) (.slice (some ⟨g, 0, none⟩) n c) w1) := ⟨g, c, 0, rfl, hg, hr1, rfl, hb1⟩
  clear hg hr1 hb1 HCl
  go_wp2
  go_loopg [6] (lct n y) (fun gk vf wx => PeI m n N Z y w gk vf wx)
  case atStart => exact H1.out
  case round =>
    clear H1
    obtain ⟨g, c, k, rfl, HI⟩ := hrel
    rename World => wA
    obtain ⟨yk, hyk⟩ : ∃ yk, yk = prounds m N Z y k := ⟨_, rfl⟩
    have HY : Hid (yk = prounds m N Z y k ∧ RowZ g n yk wA ∧ Bts n yk) := ⟨hyk, by rw [hyk]; exact HI.out.2.1, by rw [hyk]; exact prounds_bits HF.out.2.2.2 k⟩
    clear hyk
    have HC2 : Hid (Calls Try.prog 46 #[.slice (some ⟨g, 0, none⟩) n c] wA fun e w' => ∃ g c, e = .returned (.slice (some ⟨g, 0, none⟩) n c) ∧ wA.heap.size ≤ g ∧ RowZ g n yk w' ∧ Below wA.heap.size wA w') := rcopyZ_any HY.out.2.1.slz (by omega) (by omega) HY.out.2.1.lt'
    go_wp2_with fail
    refine HC2.out.mono ?_
    rintro e w2 ⟨g2, c2, rfl, hg2, hr2, hb2⟩
    have H2 : Hid (wA.heap.size ≤ g2 ∧ RowZ g2 n yk w2 ∧ Below wA.heap.size wA w2) := ⟨hg2, hr2, hb2⟩
    clear hg2 hr2 hb2 HC2
    go_wp2
    go_loopw [8] (fun vi wx => ∃ d : Nat, d ≤ m ∧ vi = .int .i64 ((m : Int) - 1 - (d : Int)) ∧ Hid (RowZ g2 n (flR (pfil N Z yk) yk m d) wx ∧ Below wA.heap.size wA wx)) (fun vi _ => (intOf vi + 1).toNat)
    case atStart => exact ⟨0, by omega, by go_num, H2.out.2.1, H2.out.2.2⟩
    case round =>
      obtain ⟨d, hd, rfl, HJ⟩ := hrel
      rename World => wB
      by_cases hlt : d < m
      · obtain ⟨i, hie⟩ : ∃ i, i = m - 1 - d := ⟨_, rfl⟩
        have hiw : (m : Int) - 1 - (d : Int) = (i : Int) := by omega
        have him : i < m := by omega
        have hib : (i : Int) < (m : Int) := by omega
        have hib0 : (0 : Int) ≤ (i : Int) := by omega
        have hig : (i : Int) ≥ 0 := hib0
        rw [hiw]
        have HI2 : Hid (i = m - 1 - d ∧ (i : Int) - 1 = (m : Int) - 1 - ((d + 1 : Nat) : Int)) := ⟨hie, by omega⟩
        clear hie hiw
        obtain ⟨b, off, rfl, hci⟩ := (HF.out.1.below (bel_up' HI.out.2.2.2 HJ.out.2)).cell i him
        obtain ⟨Ni, hNi⟩ : ∃ Ni, Ni = N i := ⟨_, rfl⟩
        obtain ⟨Ai, hAi⟩ : ∃ Ai, Ai = A i := ⟨_, rfl⟩
        obtain ⟨Ci, hCi⟩ : ∃ Ci, Ci = C i := ⟨_, rfl⟩
        rw [← hNi, ← hAi, ← hCi] at hci
        have HAl : Hid (Calls Try.prog 72 #[.slice Ai Ni Ci, .slice (some ⟨g, 0, none⟩) n c] wB (AlP yk (Z i) Ni wB)) := by
          have hz := (HF.out.1.below (bel_up' HI.out.2.2.2 HJ.out.2)).sl i him
          rw [← hNi, ← hAi] at hz
          have h6 := HF.out.2.1 i him
          rw [← hNi] at h6
          exact ralone_any hz (HY.out.2.1.below HJ.out.2 HY.out.2.1.lt').slz (by omega) (fun j hj => HF.out.2.2.1 i him j (by rw [← hNi]; exact hj)) HY.out.2.2
        have HN : Hid (Ni = N i) := hNi
        clear hNi hAi hCi
        go_wp2_with fail
        refine HAl.out.mono ?_
        rintro e w' ⟨hw, hres⟩
        have hw := hw.symm
        subst hw
        rcases hres with ⟨x, hx, rfl⟩ | ⟨hne, a, s, rfl⟩
        · have hmem : x ∈ losts yk (Z i) Ni := by rw [hx]; exact List.mem_singleton.2 rfl
          obtain ⟨_, jx, hjx, ejx⟩ := selZ_mem _ hmem
          have hxr := HF.out.2.2.1 i him jx (by rw [← HN.out]; exact hjx)
          rw [ejx] at hxr
          obtain ⟨X, hX⟩ : ∃ X : Nat, x = (X : Int) := ⟨x.toNat, by omega⟩
          subst hX
          have hXn : X < n := by omega
          have hXb : (X : Int) < (n : Int) := by omega
          have hX0 : (0 : Int) ≤ (X : Int) := by omega
          obtain ⟨S, hS⟩ : ∃ S, S = par yk (Z i) Ni := ⟨_, rfl⟩
          rw [← hS]
          have hcc := HJ.out.1.cell X hXn
          have hff := HJ.out.1.free X
          obtain ⟨ov, hov⟩ : ∃ ov, ov = flR (pfil N Z yk) yk m d X := ⟨_, rfl⟩
          rw [← hov] at hcc
          have HR : Hid (RowZ g2 n (flR (pfil N Z yk) yk m (d + 1)) (wB.setCell ⟨g2, X, none⟩ (.int .i64 ((S : Nat) : Int))) ∧ Below wA.heap.size wA (wB.setCell ⟨g2, X, none⟩ (.int .i64 ((S : Nat) : Int)))) := by
            refine ⟨?_, HJ.out.2.setCell H2.out.1 _⟩
            have hpf : pfil N Z yk i = some (X, ((S : Nat) : Int)) := by
              have h := pfil_some (N := N) (Z := Z) (y := yk) (i := i) (x := (X : Int)) (by rw [← HN.out]; exact hx)
              rw [← HN.out, ← hS] at h
              exact h
            rw [flR_some (x := (X, ((S : Nat) : Int))) (by rw [← HI2.out.1]; exact hpf)]
            exact HJ.out.1.store X _ (fun j _ => rfl)
          clear hx hmem hov hS hci
          go_wp2
          go_roundw
          case rel => exact ⟨d + 1, by omega, by rw [← HI2.out.2], HR.out⟩
          case measure => first | (simp [intOf]; done) | (simp [intOf]; omega)
        · have HR : Hid (RowZ g2 n (flR (pfil N Z yk) yk m (d + 1)) wB) := by
            show RowZ _ _ _ _
            rw [flR_none (by rw [← HI2.out.1]; exact pfil_none (by rw [← HN.out]; exact hne))]
            exact HJ.out.1
          clear hne hci
          go_wp2
          go_roundw
          case rel => exact ⟨d + 1, by omega, by rw [← HI2.out.2], HR.out, HJ.out.2⟩
          case measure => first | (simp [intOf]; done) | (simp [intOf]; omega)
      · have hde : m = d := by omega
        subst hde
        have hneg : (m : Int) - 1 - (m : Int) = -1 := by omega
        rw [hneg]
        clear hneg
        have H3 : Hid (Below w.heap.size w wB ∧ RowZ g n yk wB ∧ RowZ g2 n (pround m N Z yk) wB ∧ w.heap.size ≤ g2) := ⟨bel_up' HI.out.2.2.2 HJ.out.2, HY.out.2.1.below HJ.out.2 HY.out.2.1.lt', by rw [← pround_R]; exact HJ.out.1, by have := HI.out.2.2.2.size; have := H2.out.1; omega⟩
        obtain ⟨R, hR⟩ : ∃ R, R = decide (zl n yk = zl n (pround m N Z yk)) := ⟨_, rfl⟩
        have HSm : Hid (Calls Try.prog 33 #[.slice (some ⟨g, 0, none⟩) n c, .slice (some ⟨g2, 0, none⟩) n c2] wB fun e w' => e = .returned (.bool R) ∧ ∃ d, w' = wB.drewN d) := by
          rw [hR]; exact same_any (H3.out.2.1.sliceI (by omega) (by omega)) (H3.out.2.2.1.sliceI (by omega) (by omega))
        have HRn : Hid (R = decide (zl n yk = zl n (pround m N Z yk))) := hR
        clear hR HJ H2
        cases R with
        | false =>
          go_wp2_with fail
          refine HSm.out.mono ?_
          rintro e w3 ⟨rfl, d3, hw3⟩
          have H4 : Hid (PeI m n N Z y w (lct n (pround m N Z yk)) (.slice (some ⟨g2, 0, none⟩) n c2) w3 ∧ lct n (pround m N Z yk) < gk) := by
            have hb3 : Below wB.heap.size wB w3 := by rw [hw3]; exact below_drewN2 (Below.refl _ _) d3
            refine ⟨⟨g2, c2, k + 1, rfl, H3.out.2.2.2, ?_, by rw [HY.out.1]; rfl, bel_up' H3.out.1 hb3⟩, ?_⟩
            · show RowZ g2 n (pround m N Z (prounds m N Z y k)) w3
              rw [← HY.out.1]
              exact H3.out.2.2.1.below hb3 H3.out.2.2.1.lt'
            · rw [HI.out.2.2.1, ← HY.out.1]
              rcases pround_next (y := yk) HF.out.2.2.1 with ⟨h, _⟩ | h
              · have h1 := of_decide_eq_false HRn.out.symm
                exact absurd (zl_eq_iff.2 (fun j hj => (h j hj).symm)) h1
              · exact h
          clear hw3
          go_wp2
          go_roundg (lct n (pround m N Z yk))
          case measure => exact H4.out.2
          case rel => exact H4.out.1
        | true =>
          have HFx : Hid (pround m N Z yk = yk) := by
            rcases pround_next (y := yk) HF.out.2.2.1 with ⟨_, h⟩ | h
            · exact h
            · have h1 := zl_eq_iff.1 (of_decide_eq_true HRn.out.symm)
              have h2 : lct n (pround m N Z yk) = lct n yk := by
                unfold lct
                exact ct_alike n (fun p hp => by rw [h1 p hp])
              omega
          go_wp2_with fail
          refine HSm.out.mono ?_
          rintro e w3 ⟨rfl, d3, hw3⟩
          have H4 : Hid (Below w.heap.size w w3 ∧ RowZ g n yk w3) := by
            have hb3 : Below wB.heap.size wB w3 := by rw [hw3]; exact below_drewN2 (Below.refl _ _) d3
            exact ⟨bel_up' H3.out.1 hb3, H3.out.2.1.below hb3 H3.out.2.1.lt'⟩
          clear hw3
          go_wp2
          go_loopw [12, 13] (fun vl vi wx => ∃ i : Nat, i ≤ n ∧ vi = .int .i64 (i : Nat) ∧ Hid (OwnI w3.heap.size vl (lefts yk i) wx ∧ Below w3.heap.size w3 wx)) (fun _ vi _ => n - (intOf vi).toNat)
          case atStart => exact ⟨0, by omega, rfl, OwnI.nil _ _, Below.refl _ _⟩
          case round =>
            obtain ⟨i, hi, rfl, HJ⟩ := hrel
            rename World => wC
            have hszB := HJ.out.2.size
            by_cases hlt2 : i < n
            · have hib : (i : Int) < (n : Int) := by omega
              have hib0 : (0 : Int) ≤ (i : Int) := by omega
              have hcc := (H4.out.2.below HJ.out.2 H4.out.2.lt').cell i hlt2
              have hbt := HY.out.2.2 i hlt2
              obtain ⟨v, hv⟩ : ∃ v, v = yk i := ⟨_, rfl⟩
              rw [← hv] at hcc hbt
              by_cases h1 : v = -1
              · have hz : v < 0 := by omega
                have HV : Hid (lefts yk (i + 1) = lefts yk i ++ [(i : Int)]) := if_pos (by rw [← hv]; exact h1)
                have hle := lefts_len yk i
                clear h1 hv hbt
                go_wp2_with (at_builtin; refine append_int rfl _ _ rfl w3.heap.size _ (lefts yk i) rfl (HJ.out.1.alloc _) ⟨_, 0, none⟩ 1 (i : Int) rfl (by simp) (by omega) (by simp; omega) ?_; intro v5 w5 hown5 hgrow5)
                have HR : Hid (OwnI w3.heap.size v5 (lefts yk (i + 1)) w5 ∧ Below w3.heap.size w3 w5) := ⟨by rw [HV.out]; exact hown5, (HJ.out.2.alloc hszB _).grown hgrow5 (by simp; omega) (fun b hb => (HJ.out.1.lt b hb).1)⟩
                clear hown5 hgrow5
                go_roundw
                case rel => exact ⟨i + 1, by omega, by go_num, HR.out⟩
                case measure => simp [intOf]; omega
              · have hz : ¬ v < 0 := by omega
                have HV : Hid (lefts yk (i + 1) = lefts yk i) := if_neg (by rw [← hv]; exact h1)
                clear h1 hv hbt
                go_wp2
                go_roundw
                case rel => exact ⟨i + 1, by omega, by go_num, by rw [HV.out]; exact HJ.out.1, HJ.out.2⟩
                case measure => simp [intOf]; omega
            · have hib : ¬ (i : Int) < (n : Int) := by omega
              have hie : n = i := by omega
              subst hie
              have HR : Hid (PdP m n N Z y w (.returned (.tuple #[.slice (some ⟨g, 0, none⟩) n c, u12])) wC) := by
                refine ⟨bel_up' H4.out.1 HJ.out.2, g, c, u12, k, rfl, by rw [← HY.out.1]; exact HFx.out, ?_, ?_⟩
                · rw [← HY.out.1]; exact H4.out.2.below HJ.out.2 H4.out.2.lt'
                · rw [← HY.out.1]; exact HJ.out.1.mono H4.out.1.size
              go_wp2
              go_ret2
              exact HR.out
end Go.Proofs.Ytjkncdmbcckcdaa
