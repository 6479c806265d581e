/- Texts of ours, one behind the other: KE11 KE12 KE13 KE14 KE15 KE16. -/
import Derived.Test.YtjkncdmbcckcdabZKE10
/- Codes of few checks: the program's Flip. -/
namespace Go.Proofs.Ytjkncdmbcckcdab
open Go.RowKit Go.Sort

theorem results_fours {fn : Func} {t u v x : Tmp} (h : fn.results = #[.tmp t, .tmp u, .tmp v, .tmp x]) (tmps : Array Value) (P : Program) (w : World) :
    (results fn tmps).run P w = .ok (.tuple #[tmps.getD t undef, tmps.getD u undef, tmps.getD v undef, tmps.getD x undef]) w := by
  simp [results, h]

theorem odd_mat {base m : Nat} {ao : Option Addr} {v : Value} {A : Nat → Option Addr} {N C : Nat → Nat} {Z : Nat → Nat → Int} {l : List Nat} {w : World} (ho : OwnV base v (rowsV A N C l) w) (hA : MatZ ao m A N C Z w) (hl : ∀ i ∈ l, i < m) :
    ∃ vo vc, v = .slice vo l.length vc ∧ MatZ vo l.length (fun k => A (l.getD k 0)) (fun k => N (l.getD k 0)) (fun k => C (l.getD k 0)) (fun k => Z (l.getD k 0)) w := by
  obtain ⟨vo, vc, hv, _, _, _, hc⟩ := ho.open
  have hlen : (rowsV A N C l).length = l.length := by unfold rowsV; exact List.length_map ..
  rw [hlen] at hv
  have hm : ∀ k, k < l.length → l.getD k 0 < m := fun k hk => hl _ (by rw [List.getD_eq_getElem?_getD, List.getElem?_eq_getElem hk]; exact List.getElem_mem hk)
  refine ⟨vo, vc, hv, fun k hk => ?_, fun k hk => hA.sl _ (hm k hk), fun k hk => hA.le _ (hm k hk), fun k hk => hA.cap _ (hm k hk), fun k hk => hA.nil _ (hm k hk), fun k hk => hA.few _ (hm k hk)⟩
  have hg : (rowsV A N C l)[k]? = some (.slice (A (l.getD k 0)) (N (l.getD k 0)) (C (l.getD k 0))) := by
    unfold rowsV
    rw [List.getElem?_map, List.getD_eq_getElem?_getD, List.getElem?_eq_getElem hk]; rfl
  obtain ⟨g, e, h1, _⟩ := hc k _ hg
  exact ⟨g, 0, e, by rw [Nat.zero_add]; exact h1⟩
theorem trnd_is (n m : Nat) (N : Nat → Nat) (Z : Nat → Nat → Int) (y : Nat → Int) : trnd (fun p => oall (fun k => N ((odds N Z y m).getD k 0)) (fun k => Z ((odds N Z y m).getD k 0)) p (odds N Z y m).length) (mxv (fun p => oall (fun k => N ((odds N Z y m).getD k 0)) (fun k => Z ((odds N Z y m).getD k 0)) p (odds N Z y m).length) n) y n = tround n m N Z y := by
  have e : (fun p => oall (fun k => N ((odds N Z y m).getD k 0)) (fun k => Z ((odds N Z y m).getD k 0)) p (odds N Z y m).length) = fun p => oft N Z y p m := by
    funext p
    rw [oall_ofl N Z p _ _ (Nat.le_refl _), List.take_length, oft_ofl]
  rw [e]
  rfl
/-- What Flip tells. -/
def FpP (m n : Nat) (N : Nat → Nat) (Z : Nat → Nat → Int) (y : Nat → Int) (most : Nat) (w : World) (e : Ending) (w' : World) : Prop := Below w.heap.size w w' ∧ ∃ g c r, e = .returned (.tuple #[.slice (some ⟨g, 0, none⟩) n c, .bool (decide ((odds N Z (trounds n m N Z y r) m).length = 0)), .int .i64 (r : Nat), .int .i64 0]) ∧ Tend n m N Z y most r ∧ RowZ g n (trounds n m N Z y r) w'
def FpI (m n : Nat) (A : Nat → Option Addr) (N C : Nat → Nat) (Z : Nat → Nat → Int) (y : Nat → Int) (most : Nat) (w : World) (vo vr vd : Value) (wx : World) : Prop := ∃ (g c r K : Nat) (oo : Option Addr) (oc : Nat), r ≤ most ∧ vo = .slice (some ⟨g, 0, none⟩) n c ∧ vr = .int .i64 (r : Nat) ∧ vd = .slice oo K oc ∧ K ≤ 64 ∧ Hid (w.heap.size ≤ g ∧ RowZ g n (trounds n m N Z y r) wx ∧ K = (odds N Z (trounds n m N Z y r) m).length ∧ (∀ j, j < r → odds N Z (trounds n m N Z y j) m ≠ []) ∧ OwnV w.heap.size (.slice oo K oc) (rowsV A N C (odds N Z (trounds n m N Z y r) m)) wx ∧ Below w.heap.size w wx)

set_option maxHeartbeats 16000000 in
set_option maxRecDepth 100000 in
theorem sflip_ok {ao : Option Addr} {m ca n bw ow cw most : Nat} {A : Nat → Option Addr} {N C : Nat → Nat} {Z : Nat → Nat → Int} {y : Nat → Int} {w : World} (hA : MatZ ao m A N C Z w) (hy : SlZ (some ⟨bw, ow, none⟩) n y w) (hlw : bw < w.heap.size) (hN : ∀ i, i < m → N i ≤ 6000) (h0 : schk (n : Int) m N Z = 0) (h1 : bchk isbt n y (n : Int) = 0) (hmost : most ≤ 100) :
    Calls Try.prog 14 #[.int .i64 (n : Nat), .slice ao m ca, .slice (some ⟨bw, ow, none⟩) n cw, .int .i64 (most : Nat)] w (FpP m n N Z y most w) := by
  obtain ⟨g1, g2, g3, g4⟩ := schk_ok h0
  have hn1 : 1 ≤ n := by omega
  have hn : n ≤ 64 := by omega
  have hbits : ∀ p, p < n → y p = 0 ∨ y p = 1 := fun p hp => by
    unfold bchk at h1
    rw [if_neg (fun x => x rfl)] at h1
    by_cases h : allP isbt y n = true
    · exact of_decide_eq_true (allP_iff n h p hp)
    · rw [if_neg h] at h1; cases h1
  have HCk : Hid (Calls Try.prog 21 #[.int .i64 (n : Nat), .slice ao m ca] w fun e w' => e = .returned (.int .i64 0) ∧ w' = w) := by
    have h := scheck_any (n : Int) (ca := ca) hA (by omega)
    rw [h0] at h; exact h
  have HHd : Hid (Calls Try.prog 28 #[.slice (some ⟨bw, ow, none⟩) n cw, .int .i64 (n : Nat)] w fun e w' => e = .returned (.int .i64 0) ∧ w' = w) := by
    have h := bCheck_any (n : Int) (cap := cw) hy (by omega)
    rw [h1] at h; exact h
  have HCl : Hid (Calls Try.prog 23 #[.slice (some ⟨bw, ow, none⟩) n cw] w fun e w' => ∃ g c, e = .returned (.slice (some ⟨g, 0, none⟩) n c) ∧ n ≤ c ∧ c ≤ 9223372036854775807 ∧ w.heap.size ≤ g ∧ RowZ g n y w' ∧ Below w.heap.size w w') := sclone_any hy (by omega) (by omega) hlw
  have HOd : Hid (∀ wx g c y', Below w.heap.size w wx → RowZ g n y' wx → Calls Try.prog 29 #[.slice ao m ca, .slice (some ⟨g, 0, none⟩) n c] wx fun e w' => ∃ oo oc, e = .returned (.slice oo (odds N Z y' m).length oc) ∧ OwnV wx.heap.size (.slice oo (odds N Z y' m).length oc) (rowsV A N C (odds N Z y' m)) w' ∧ Below wx.heap.size wx w') := fun wx g c y' hb hr => by
    refine (oddOnes_any (hA.below hb) hr.slz g3 hN g4).mono ?_
    rintro e w' ⟨v, rfl, ho, hb'⟩
    obtain ⟨vo, vc, rfl, _⟩ := odd_mat ho ((hA.below hb).below hb') (fun i hi => (odds_lt m i hi).1)
    exact ⟨vo, vc, rfl, ho, hb'⟩
  have HTu : Hid (∀ wx g c y' oo oc, Below w.heap.size w wx → RowZ g n y' wx → (∀ p, p < n → y' p = 0 ∨ y' p = 1) → OwnV w.heap.size (.slice oo (odds N Z y' m).length oc) (rowsV A N C (odds N Z y' m)) wx → Calls Try.prog 30 #[.slice (some ⟨g, 0, none⟩) n c, .slice oo (odds N Z y' m).length oc] wx fun e w' => ∃ g' c', e = .returned (.slice (some ⟨g', 0, none⟩) n c') ∧ wx.heap.size ≤ g' ∧ RowZ g' n (tround n m N Z y') w' ∧ Below wx.heap.size wx w') := fun wx g c y' oo oc hb hr hbt ho => by
    obtain ⟨vo, vc, e, hM⟩ := odd_mat ho (hA.below hb) (fun i hi => (odds_lt m i hi).1)
    cases e
    have hlen := odds_len N Z y' m
    have hin : ∀ k, k < (odds N Z y' m).length → (odds N Z y' m).getD k 0 < m := fun k hk => (odds_lt m _ (by rw [List.getD_eq_getElem?_getD, List.getElem?_eq_getElem hk]; exact List.getElem_mem hk)).1
    have h := turned_any (cw := c) (ca := oc) hM hr.slz hr.lt' (by omega) hn1 hn (fun k hk => hN _ (hin k hk)) (fun k hk => g4 _ (hin k hk)) hbt
    rw [trnd_is] at h
    exact h
  have HB : Hid (∀ r p, p < n → trounds n m N Z y r p = 0 ∨ trounds n m N Z y r p = 1) := fun r => trounds_bits hbits r
  have hm0 : ¬ (most : Int) < 0 := by omega
  have hm1 : ¬ (100 : Int) < (most : Int) := by omega
  have hm2 : ¬ (most : Int) > 100 := hm1
  have hm64 : m ≤ 64 := g3
  clear hA hy hlw hN h0 h1 g1 g2 g3 g4 hbits
  go_enter Try.func14, Try.ntmps14
  go_wp2_with fail
  refine HCk.out.mono ?_
  rintro e w' ⟨rfl, hw⟩
  have hw := hw.symm
  subst hw
  go_wp2_with fail
  refine HHd.out.mono ?_
  rintro e w' ⟨rfl, hw⟩
  have hw := hw.symm
  subst hw
  go_wp2_with fail
  refine HCl.out.mono ?_
  rintro e w1 ⟨g, c, rfl, _, _, hg, hr1, hb1⟩
  have H1 : Hid (w.heap.size ≤ g ∧ RowZ g n y w1 ∧ Below w.heap.size w w1) := ⟨hg, hr1, hb1⟩
  clear hg hr1 hb1 HCk HHd HCl
  go_wp2_with fail
  refine (HOd.out w1 g c y H1.out.2.2 H1.out.2.1).mono ?_
  rintro e w2 ⟨oo, oc, rfl, ho2, hb2⟩
  obtain ⟨K, hK⟩ : ∃ K, K = (odds N Z y m).length := ⟨_, rfl⟩
  have hK64 : K ≤ 64 := by rw [hK]; have := odds_len N Z y m; omega
  rw [← hK] at ho2 ⊢
  have H2 : Hid (FpI m n A N C Z y most w (.slice (some ⟨g, 0, none⟩) n c) (.int .i64 ((0 : Nat) : Int)) (.slice oo K oc) w2) := ⟨g, c, 0, K, oo, oc, by omega, rfl, rfl, rfl, hK64, H1.out.1, H1.out.2.1.below hb2 H1.out.2.1.lt', hK, fun j hj => absurd hj (by omega), ho2.mono H1.out.2.2.size, bel_up' H1.out.2.2 hb2⟩
  clear ho2 hb2 hK H1
  go_wp2
  go_loopw [8, 10, 14] (fun vo vr vd wx => FpI m n A N C Z y most w vo vr vd wx) (fun _ vr _ _ => most - (intOf vr).toNat)
  case atStart => exact H2.out
  case round =>
    clear H2
    obtain ⟨g, c, r, K, oo, oc, hr, rfl, rfl, rfl, hK64', HI⟩ := hrel
    rename World => wA
    have key : ∀ b, (b = decide ((odds N Z (trounds n m N Z y r) m).length = 0)) → (odds N Z (trounds n m N Z y r) m = [] ∨ r = most) → FpP m n N Z y most w (.returned (.tuple #[.slice (some ⟨g, 0, none⟩) n c, .bool b, .int .i64 (r : Nat), .int .i64 0])) wA := fun b hb hend => ⟨HI.out.2.2.2.2.2, g, c, r, by rw [hb], ⟨hr, HI.out.2.2.2.1, hend⟩, HI.out.2.1⟩
    have HKey : Hid _ := key
    clear key
    by_cases hK0 : K = 0
    · have hkz : ¬ (K : Int) > 0 := by omega
      have hkz2 : ¬ (0 : Int) < (K : Int) := by omega
      have hkz3 : ((K : Int) == 0) = true := by rw [hK0]; rfl
      have HR : Hid (FpP m n N Z y most w (.returned (.tuple #[.slice (some ⟨g, 0, none⟩) n c, .bool true, .int .i64 (r : Nat), .int .i64 0])) wA) := HKey.out true (by rw [← HI.out.2.2.1, hK0]; rfl) (Or.inl (List.length_eq_zero_iff.1 (by rw [← HI.out.2.2.1]; exact hK0)))
      clear hK0
      go_wp2
      refine bodyPost_ret (results_fours rfl _ _ _) rfl ?_
      exact HR.out
    · have hkz : (K : Int) > 0 := by omega
      have hkz2 : (0 : Int) < (K : Int) := by omega
      have hkz3 : ((K : Int) == 0) = false := by rw [beq_eq_false_iff_ne]; omega
      by_cases hrm : r < most
      · have hrb : (r : Int) < (most : Int) := by omega
        obtain ⟨yr, hyr⟩ : ∃ yr, yr = trounds n m N Z y r := ⟨_, rfl⟩
        have HTn : Hid (Calls Try.prog 30 #[.slice (some ⟨g, 0, none⟩) n c, .slice oo K oc] wA fun e w' => ∃ g' c', e = .returned (.slice (some ⟨g', 0, none⟩) n c') ∧ wA.heap.size ≤ g' ∧ RowZ g' n (trounds n m N Z y (r + 1)) w' ∧ Below wA.heap.size wA w') := by
          have h := HTu.out wA g c (trounds n m N Z y r) oo oc HI.out.2.2.2.2.2 HI.out.2.1 (HB.out r) (by rw [← HI.out.2.2.1]; exact HI.out.2.2.2.2.1)
          rw [← HI.out.2.2.1] at h
          exact h
        have HNe : Hid (∀ j, j < r + 1 → odds N Z (trounds n m N Z y j) m ≠ []) := fun j hj => by
          by_cases e : j = r
          · rw [e]; intro h
            have := HI.out.2.2.1
            rw [h] at this
            exact hK0 this
          · exact HI.out.2.2.2.1 j (by omega)
        have hr100 : r ≤ 100 := by omega
        clear hK0 hyr
        go_wp2_with fail
        refine HTn.out.mono ?_
        rintro e w3 ⟨g', c', rfl, hg', hr3, hb3⟩
        have H3 : Hid (w.heap.size ≤ g' ∧ RowZ g' n (trounds n m N Z y (r + 1)) w3 ∧ Below w.heap.size w w3) := ⟨by have := HI.out.2.2.2.2.2.size; omega, hr3, bel_up' HI.out.2.2.2.2.2 hb3⟩
        clear hg' hr3 hb3 HTn
        go_wp2_with fail
        refine (HOd.out w3 g' c' _ H3.out.2.2 H3.out.2.1).mono ?_
        rintro e w4 ⟨oo4, oc4, rfl, ho4, hb4⟩
        obtain ⟨K4, hK4⟩ : ∃ K4, K4 = (odds N Z (trounds n m N Z y (r + 1)) m).length := ⟨_, rfl⟩
        have hK464 : K4 ≤ 64 := by rw [hK4]; have := odds_len N Z (trounds n m N Z y (r + 1)) m; omega
        rw [← hK4] at ho4 ⊢
        have HR : Hid (FpI m n A N C Z y most w (.slice (some ⟨g', 0, none⟩) n c') (.int .i64 ((r : Int) + 1)) (.slice oo4 K4 oc4) w4) := ⟨g', c', r + 1, K4, oo4, oc4, by omega, rfl, rfl, rfl, hK464, H3.out.1, H3.out.2.1.below hb4 H3.out.2.1.lt', hK4, HNe.out, ho4.mono H3.out.2.2.size, bel_up' H3.out.2.2 hb4⟩
        clear ho4 hb4 hK4
        go_wp2
        go_roundw
        case rel => exact HR.out
        case measure => simp [intOf]; omega
      · have hrb : ¬ (r : Int) < (most : Int) := by omega
        have HR : Hid (FpP m n N Z y most w (.returned (.tuple #[.slice (some ⟨g, 0, none⟩) n c, .bool false, .int .i64 (r : Nat), .int .i64 0])) wA) := HKey.out false (by rw [← HI.out.2.2.1]; exact (decide_eq_false hK0).symm) (Or.inr (by omega))
        clear hK0
        go_wp2
        refine bodyPost_ret (results_fours rfl _ _ _) rfl ?_
        exact HR.out
end Go.Proofs.Ytjkncdmbcckcdab

/- Codes of few checks: what Flip says of what is wrong. -/
namespace Go.Proofs.Ytjkncdmbcckcdab
open Go.RowKit Go.Sort

end Go.Proofs.Ytjkncdmbcckcdab

/- Codes of few checks: what Stops says of checks that are none. -/
namespace Go.Proofs.Ytjkncdmbcckcdab
open Go.RowKit Go.Sort

end Go.Proofs.Ytjkncdmbcckcdab

/- Codes of few checks: the reference's odd checks. -/
namespace Go.Proofs.Ytjkncdmbcckcdab
open Go.RowKit Go.Sort

end Go.Proofs.Ytjkncdmbcckcdab

/- Codes of few checks: the reference's Bits. -/
namespace Go.Proofs.Ytjkncdmbcckcdab
open Go.RowKit Go.Sort

end Go.Proofs.Ytjkncdmbcckcdab

/- Codes of few checks: the reference's Stopping (over what In says, as a premise). -/
namespace Go.Proofs.Ytjkncdmbcckcdab
open Go.RowKit Go.Sort

/-- How many of a check's places lie in a set. -/
def inN (l : List Int) (z : Nat → Int) (j : Nat) : Nat := (selZ (fun x => decide (x ∈ l)) z j).length
/-- No check has just one place of the set. -/
def stopB (l : List Int) (N : Nat → Nat) (Z : Nat → Nat → Int) : Nat → Bool
  | 0 => true
  | i + 1 => stopB l N Z i && !decide (inN l (Z i) (N i) = 1)
theorem stopB_no {l : List Int} {N : Nat → Nat} {Z : Nat → Nat → Int} {i : Nat} (h : inN l (Z i) (N i) = 1) : ∀ m, i < m → stopB l N Z m = false
  | 0, hi => absurd hi (by omega)
  | m + 1, hi => by
    show (stopB l N Z m && !decide (inN l (Z m) (N m) = 1)) = false
    by_cases e : i = m
    · subst e; rw [decide_eq_true h, Bool.not_true, Bool.and_false]
    · rw [stopB_no h m (by omega), Bool.false_and]

end Go.Proofs.Ytjkncdmbcckcdab
