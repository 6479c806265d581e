/- Codes of few checks: the reference's Flipped. -/
import Derived.Test.YtjkncdmbcckcdaaZKE17
namespace Go.Proofs.Ytjkncdmbcckcdaa
open Go.RowKit Go.Sort

/-- A running maximum. -/
def Mxs (f : Nat → Nat) (n t : Nat) : Prop := (∀ p, p < n → f p ≤ t) ∧ (t = 0 ∨ ∃ p, p < n ∧ f p = t)
theorem Mxs.up {f f' : Nat → Nat} {n t X : Nat} (h : Mxs f n t) (hX : X < n) (hf : ∀ p, p < n → f' p = if p = X then f X + 1 else f p) (hgt : t < f X + 1) : Mxs f' n (f X + 1) := by
  refine ⟨fun p hp => ?_, Or.inr ⟨X, hX, by rw [hf X hX, if_pos rfl]⟩⟩
  rw [hf p hp]
  split
  · exact Nat.le_refl _
  · have := h.1 p hp; omega
theorem Mxs.stay {f f' : Nat → Nat} {n t X : Nat} (h : Mxs f n t) (hf : ∀ p, p < n → f' p = if p = X then f X + 1 else f p) (hle : ¬ t < f X + 1) : Mxs f' n t := by
  refine ⟨fun p hp => ?_, ?_⟩
  · rw [hf p hp]
    split
    · omega
    · exact h.1 p hp
  · rcases h.2 with h0 | ⟨p, hp, hpt⟩
    · omega
    · refine Or.inr ⟨p, hp, ?_⟩
      rw [hf p hp, if_neg (fun e => by rw [e] at hpt; omega)]
      exact hpt
theorem Mxs.congr {f f' : Nat → Nat} {n t : Nat} (h : Mxs f n t) (hf : ∀ p, p < n → f' p = f p) : Mxs f' n t := by
  refine ⟨fun p hp => by rw [hf p hp]; exact h.1 p hp, ?_⟩
  rcases h.2 with h0 | ⟨p, hp, hpt⟩
  · exact Or.inl h0
  · exact Or.inr ⟨p, hp, by rw [hf p hp]; exact hpt⟩
theorem map_zlE (l : List Nat) : l.map (fun i : Nat => (i : Int)) = zl l.length (fun k => ((l.getD k 0 : Nat) : Int)) := by
  apply List.ext_getElem
  · rw [List.length_map, zl_len]
  · intro i h1 h2
    rw [List.length_map] at h1
    have h3 := zl_get l.length (fun k => ((l.getD k 0 : Nat) : Int)) i h1
    rw [List.getElem?_eq_getElem h2] at h3
    rw [Option.some.inj h3, List.getElem_map, List.getD_eq_getElem?_getD, List.getElem?_eq_getElem h1]
    rfl
theorem Row.setOther {g N : Nat} {c : Nat → Nat} {w : World} (h : Row g N c w) (a : Addr) (ha : g ≠ a.block) (v : Value) : Row g N c (w.setCell a v) := by
  obtain ⟨cap, f, h1, h2, h3⟩ := h
  exact ⟨cap, f, h1.setOther a ha v, h2, h3⟩
/-- What Flipped tells. -/
def FdP (m n : Nat) (N : Nat → Nat) (Z : Nat → Nat → Int) (y : Nat → Int) (most : Nat) (w : World) (e : Ending) (w' : World) : Prop := Below w.heap.size w w' ∧ ∃ g c r, e = .returned (.tuple #[.slice (some ⟨g, 0, none⟩) n c, .bool (decide ((odds N Z (trounds n m N Z y r) m).length = 0)), .int .i64 (r : Nat)]) ∧ Tend n m N Z y most r ∧ RowZ g n (trounds n m N Z y r) w'

set_option maxHeartbeats 16000000 in
set_option maxRecDepth 100000 in
theorem rflipped_any {ao : Option Addr} {m ca n bw ow cw most : Nat} {A : Nat → Option Addr} {N C : Nat → Nat} {Z : Nat → Nat → Int} {y : Nat → Int} {w : World} (hA : MatZ ao m A N C Z w) (hy : SlZ (some ⟨bw, ow, none⟩) n y w) (hlw : bw < w.heap.size) (hm : m ≤ 64) (hn1 : 1 ≤ n) (hn : n ≤ 64) (hN : ∀ i, i < m → N i ≤ 6000) (hZ : ∀ i, i < m → ∀ j, j < N i → 0 ≤ Z i j ∧ Z i j < (n : Int)) (hb : ∀ p, p < n → y p = 0 ∨ y p = 1) (hmost : most ≤ 100) :
    Calls Try.prog 34 #[.slice ao m ca, .slice (some ⟨bw, ow, none⟩) n cw, .int .i64 (most : Nat)] w (FdP m n N Z y most w) := by
  have HCl : Hid (Calls Try.prog 46 #[.slice (some ⟨bw, ow, none⟩) n cw] w fun e w' => ∃ g c, e = .returned (.slice (some ⟨g, 0, none⟩) n c) ∧ w.heap.size ≤ g ∧ RowZ g n y w' ∧ Below w.heap.size w w') := rcopyZ_any hy (by omega) (by omega) hlw
  have HF : Hid (MatZ ao m A N C Z w ∧ (∀ i, i < m → N i ≤ 6000) ∧ (∀ i, i < m → ∀ j, j < N i → 0 ≤ Z i j ∧ Z i j < (n : Int)) ∧ ∀ r p, p < n → trounds n m N Z y r p = 0 ∨ trounds n m N Z y r p = 1) := ⟨hA, hN, hZ, fun r => trounds_bits hb r⟩
  clear hA hy hlw hN hZ hb
  go_enter Try.func34, Try.ntmps34
  go_wp2_with fail
  refine HCl.out.mono ?_
  rintro e w1 ⟨g, c, rfl, hg, hr1, hb1⟩
  have H1 : Hid (RowZ g n y w1 ∧ Below w.heap.size w w1) := ⟨hr1, hb1⟩
  have HG : Hid (w.heap.size ≤ g) := hg
  clear hg hr1 hb1 HCl
  go_wp2
  go_loopw [9] (fun vr wx => ∃ r : Nat, r ≤ most ∧ vr = .int .i64 (r : Nat) ∧ Hid (RowZ g n (trounds n m N Z y r) wx ∧ (∀ j, j < r → odds N Z (trounds n m N Z y j) m ≠ []) ∧ Below w.heap.size w wx)) (fun vr _ => most - (intOf vr).toNat)
  case atStart => exact ⟨0, by omega, rfl, H1.out.1, fun j hj => absurd hj (by omega), H1.out.2⟩
  case round =>
    clear H1
    obtain ⟨r, hr, rfl, HI⟩ := hrel
    rename World => wA
    obtain ⟨yr, hyr⟩ : ∃ yr, yr = trounds n m N Z y r := ⟨_, rfl⟩
    obtain ⟨lo, hlo⟩ : ∃ lo, lo = odds N Z yr m := ⟨_, rfl⟩
    obtain ⟨K, hK⟩ : ∃ K, K = lo.length := ⟨_, rfl⟩
    have hK64 : K ≤ 64 := by rw [hK, hlo]; have := odds_len N Z yr m; omega
    have HY : Hid (yr = trounds n m N Z y r ∧ lo = odds N Z yr m ∧ K = lo.length ∧ RowZ g n yr wA ∧ (∀ p, p < n → yr p = 0 ∨ yr p = 1) ∧ ∀ i ∈ lo, i < m) := ⟨hyr, hlo, hK, by rw [hyr]; exact HI.out.1, by rw [hyr]; exact HF.out.2.2.2 r, fun i hi => (odds_lt m i (by rw [← hlo]; exact hi)).1⟩
    have HOd : Hid (Calls Try.prog 77 #[.slice ao m ca, .slice (some ⟨g, 0, none⟩) n c] wA fun e w' => ∃ oo oc, e = .returned (.slice oo K oc) ∧ (0 < K → ∃ b, oo = some ⟨b, 0, none⟩ ∧ RowZ b K (fun k => ((lo.getD k 0 : Nat) : Int)) w') ∧ Below wA.heap.size wA w') := by
      refine (rodd_any (HF.out.1.below HI.out.2.2) HY.out.2.2.2.1.slz hm HF.out.2.1 HF.out.2.2.1 HY.out.2.2.2.2.1).mono ?_
      rintro e w' ⟨v, rfl, ho, hb'⟩
      have e1 : oddI N Z yr m = zl K (fun k => ((lo.getD k 0 : Nat) : Int)) := by
        unfold oddI; rw [← hlo, hK]; exact map_zlE lo
      rw [e1] at ho
      obtain ⟨oo, oc, hv⟩ := own_form ho
      rw [zl_len] at hv
      subst hv
      refine ⟨oo, oc, rfl, fun h0 => ?_, hb'⟩
      obtain ⟨b, cap, e2, _, _, _, g4⟩ := OwnI.rowZ ho h0
      cases e2
      exact ⟨b, rfl, g4⟩
    have key : ∀ b wx, (b = decide (K = 0)) → Below wA.heap.size wA wx → (K = 0 ∨ r = most) → FdP m n N Z y most w (.returned (.tuple #[.slice (some ⟨g, 0, none⟩) n c, .bool b, .int .i64 (r : Nat)])) wx := fun b wx hb hbx hend => by
      refine ⟨bel_up' HI.out.2.2 hbx, g, c, r, ?_, ⟨hr, HI.out.2.1, ?_⟩, HI.out.1.below hbx HI.out.1.lt'⟩
      · rw [hb, ← HY.out.1, ← HY.out.2.1, ← HY.out.2.2.1]
      · rcases hend with h | h
        · exact Or.inl (List.length_eq_zero_iff.1 (by rw [← HY.out.1, ← HY.out.2.1, ← HY.out.2.2.1]; exact h))
        · exact Or.inr h
    have HKey : Hid _ := key
    clear key hyr hlo hK
    go_wp2_with fail
    refine HOd.out.mono ?_
    rintro e w2 ⟨oo, oc, rfl, hoo, hb2⟩
    have H2 : Hid ((0 < K → ∃ b, oo = some ⟨b, 0, none⟩ ∧ RowZ b K (fun k => ((lo.getD k 0 : Nat) : Int)) w2) ∧ Below wA.heap.size wA w2) := ⟨hoo, hb2⟩
    clear hoo hb2 HOd
    by_cases hK0 : K = 0
    · have hkz : ((K : Int) == 0) = true := by rw [hK0]; rfl
      have HR : Hid (FdP m n N Z y most w (.returned (.tuple #[.slice (some ⟨g, 0, none⟩) n c, .bool true, .int .i64 (r : Nat)])) w2) := HKey.out true w2 (by rw [hK0]; rfl) H2.out.2 (Or.inl hK0)
      clear hK0
      go_wp2
      go_ret3
      exact HR.out
    · have hkz : ((K : Int) == 0) = false := by rw [beq_eq_false_iff_ne]; omega
      by_cases hrm : r = most
      · have hrb : ((r : Int) == (most : Int)) = true := by rw [hrm]; simp
        have HR : Hid (FdP m n N Z y most w (.returned (.tuple #[.slice (some ⟨g, 0, none⟩) n c, .bool false, .int .i64 (r : Nat)])) w2) := HKey.out false w2 (decide_eq_false hK0).symm H2.out.2 (Or.inr hrm)
        clear hK0 hrm
        go_wp2
        go_ret3
        exact HR.out
      · have hrb : ((r : Int) == (most : Int)) = false := by rw [beq_eq_false_iff_ne]; omega
        obtain ⟨ob, rfl, hrow⟩ := H2.out.1 (by omega)
        have H3 : Hid (RowZ ob K (fun k => ((lo.getD k 0 : Nat) : Int)) w2 ∧ RowZ g n yr w2 ∧ MatZ ao m A N C Z w2 ∧ Below w.heap.size w w2 ∧ ∀ k, k < K → lo.getD k 0 < m) := ⟨hrow, HY.out.2.2.2.1.below H2.out.2 HY.out.2.2.2.1.lt', (HF.out.1.below HI.out.2.2).below H2.out.2, bel_up' HI.out.2.2 H2.out.2, fun k hk => HY.out.2.2.2.2.2 _ (by rw [List.getD_eq_getElem?_getD, List.getElem?_eq_getElem (by rw [← HY.out.2.2.1]; exact hk)]; exact List.getElem_mem _)⟩
        have HNe : Hid (∀ j, j < r + 1 → odds N Z (trounds n m N Z y j) m ≠ []) := fun j hj => by
          by_cases e : j = r
          · rw [e, ← HY.out.1, ← HY.out.2.1]; intro h
            exact hK0 (by rw [HY.out.2.2.1, h]; rfl)
          · exact HI.out.2.1 j (by omega)
        clear hrow H2 HKey HI
        go_wp2_with (at_make; refine make_int rfl _ _ rfl _ n rfl rfl rfl (by omega) ?_; intro w3 hown3 hgrow3)
        have H4 : Hid (Row w2.heap.size n pnil w3 ∧ Below w2.heap.size w2 w3) := ⟨row_zeros hown3, below_grown hgrow3 (Nat.le_refl _) (fun k hk => by simp at hk)⟩
        obtain ⟨gi, hgi⟩ : ∃ gi, gi = w2.heap.size := ⟨_, rfl⟩
        rw [← hgi]
        have HGi : Hid (gi = w2.heap.size) := hgi
        clear hown3 hgrow3 hgi
        go_loopw [12, 13] (fun vt vi wx => ∃ i t : Nat, i ≤ K ∧ t ≤ 400000 ∧ vi = .int .i64 (i : Nat) ∧ vt = .int .i64 (t : Nat) ∧ Hid (Row gi n (fun p => oall (fun k => N (lo.getD k 0)) (fun k => Z (lo.getD k 0)) p i) wx ∧ Mxs (fun p => oall (fun k => N (lo.getD k 0)) (fun k => Z (lo.getD k 0)) p i) n t ∧ Below w2.heap.size w2 wx)) (fun _ vi _ => K - (intOf vi).toNat)
        case atStart => exact ⟨0, 0, by omega, by omega, rfl, rfl, by rw [HGi.out]; exact H4.out.1, ⟨fun p _ => Nat.le_refl _, Or.inl rfl⟩, H4.out.2⟩
        case round =>
          clear H4
          obtain ⟨i, t, hi, ht4, rfl, rfl, HJ⟩ := hrel
          rename World => wB
          by_cases hlt : i < K
          · have hib : (i : Int) < (K : Int) := by omega
            have hib0 : (0 : Int) ≤ (i : Int) := by omega
            have hcl := (H3.out.1.below HJ.out.2.2 H3.out.1.lt').cell i hlt
            obtain ⟨li, hli⟩ : ∃ li, li = lo.getD i 0 := ⟨_, rfl⟩
            replace hcl : wB.cell? ⟨ob, i, none⟩ = some (.int .i64 ((li : Nat) : Int)) := by rw [hli]; exact hcl
            have hlm : li < m := by rw [hli]; exact H3.out.2.2.2.2 i hlt
            have hlb : (li : Int) < (m : Int) := by omega
            have hlb0 : (0 : Int) ≤ (li : Int) := by omega
            obtain ⟨b, off, rfl, hci⟩ := (H3.out.2.2.1.below HJ.out.2.2).cell li hlm
            obtain ⟨Ni, hNi⟩ : ∃ Ni, Ni = N li := ⟨_, rfl⟩
            obtain ⟨Ai, hAi⟩ : ∃ Ai, Ai = A li := ⟨_, rfl⟩
            obtain ⟨Ci, hCi⟩ : ∃ Ci, Ci = C li := ⟨_, rfl⟩
            rw [← hNi, ← hAi, ← hCi] at hci
            have hN6 : Ni ≤ 6000 := by rw [hNi]; exact HF.out.2.1 li hlm
            have HN : Hid (Ni = N li ∧ li = lo.getD i 0 ∧ (∀ wx, Below w2.heap.size w2 wx → SlZ Ai Ni (Z li) wx) ∧ ∀ j, j < Ni → 0 ≤ Z li j ∧ Z li j < (n : Int)) := ⟨hNi, hli, fun wx hb => by rw [hNi, hAi]; exact (H3.out.2.2.1.below hb).sl li hlm, fun j hj => HF.out.2.2.1 li hlm j (by rw [← hNi]; exact hj)⟩
            clear hNi hAi hCi hli
            go_wp2
            go_loopw [12, 15] (fun vt vj wx => ∃ j t : Nat, j ≤ Ni ∧ t ≤ 400000 ∧ vj = .int .i64 (j : Nat) ∧ vt = .int .i64 (t : Nat) ∧ Hid (Row gi n (fun p => oall (fun k => N (lo.getD k 0)) (fun k => Z (lo.getD k 0)) p i + ofc (Z li) j p) wx ∧ Mxs (fun p => oall (fun k => N (lo.getD k 0)) (fun k => Z (lo.getD k 0)) p i + ofc (Z li) j p) n t ∧ Below w2.heap.size w2 wx)) (fun _ vj _ => Ni - (intOf vj).toNat)
            case atStart => exact ⟨0, t, by omega, ht4, rfl, rfl, HJ.out⟩
            case round =>
              obtain ⟨j, t, hj, ht4, rfl, rfl, HJ⟩ := hrel
              rename World => wC
              by_cases hlj : j < Ni
              · have hjb : (j : Int) < (Ni : Int) := by omega
                have hjb0 : (0 : Int) ≤ (j : Int) := by omega
                obtain ⟨bx, ox, rfl, hcx⟩ := HN.out.2.2.1 wC HJ.out.2.2 j hlj
                have hxr := HN.out.2.2.2 j hlj
                obtain ⟨X, hX⟩ : ∃ X : Nat, Z li j = (X : Int) := ⟨(Z li j).toNat, by omega⟩
                rw [hX] at hcx hxr
                have hXn : X < n := by omega
                have hXb : (X : Int) < (n : Int) := by omega
                have hX0 : (0 : Int) ≤ (X : Int) := by omega
                have hcc := HJ.out.1.cell X hXn
                have hff := HJ.out.1.free X
                obtain ⟨ov, hov⟩ : ∃ ov, ov = oall (fun k => N (lo.getD k 0)) (fun k => Z (lo.getD k 0)) X i + ofc (Z li) j X := ⟨_, rfl⟩
                replace hcc : wC.cell? ⟨gi, X, none⟩ = some (.int .i64 ((ov : Nat) : Int)) := by rw [hov]; exact hcc
                have hovb : ov ≤ 399999 := by
                  have h1 := oall_le (N := fun k => N (lo.getD k 0)) (Z := fun k => Z (lo.getD k 0)) (p := X) i (fun i' h' => HF.out.2.1 _ (H3.out.2.2.2.2 i' (by omega)))
                  have h2 := ofc_le (Z li) X j
                  omega
                have hov1 : (ov : Int) + 1 = ((ov + 1 : Nat) : Int) := by omega
                have hstep : ∀ p, p < n → oall (fun k => N (lo.getD k 0)) (fun k => Z (lo.getD k 0)) p i + ofc (Z li) (j + 1) p = if p = X then ov + 1 else oall (fun k => N (lo.getD k 0)) (fun k => Z (lo.getD k 0)) p i + ofc (Z li) j p := fun p _ => by
                  show oall _ _ p i + (ct (fun j => decide ((Z li j).toNat = p)) j + if decide ((Z li j).toNat = p) = true then 1 else 0) = _
                  rw [hX, Int.toNat_natCast]
                  by_cases e : p = X
                  · rw [if_pos e, e, if_pos (decide_eq_true rfl), hov]; rfl
                  · rw [if_neg e, if_neg (by simp; omega)]; rfl
                have HR : Hid (Row gi n (fun p => oall (fun k => N (lo.getD k 0)) (fun k => Z (lo.getD k 0)) p i + ofc (Z li) (j + 1) p) (wC.setCell ⟨gi, X, none⟩ (.int .i64 ((ov : Int) + 1))).drew ∧ Below w2.heap.size w2 (wC.setCell ⟨gi, X, none⟩ (.int .i64 ((ov : Int) + 1))).drew ∧ SlZ (some ⟨bx, ox, none⟩) Ni (Z li) (wC.setCell ⟨gi, X, none⟩ (.int .i64 ((ov : Int) + 1))).drew) := by
                  have hbb : Below w2.heap.size w2 (wC.setCell ⟨gi, X, none⟩ (.int .i64 ((ov : Int) + 1))).drew := (HJ.out.2.2.setCell (by show w2.heap.size ≤ gi; rw [HGi.out]; exact Nat.le_refl _) _).drew
                  refine ⟨?_, hbb, HN.out.2.2.1 _ hbb⟩
                  rw [hov1]
                  exact (HJ.out.1.store X (ov + 1) hstep).other rfl
                have hX' : Z li j = (X : Int) := hX
                have hcx2 : (wC.setCell ⟨gi, X, none⟩ (.int .i64 ((ov : Int) + 1))).cell? ⟨bx, ox + j, none⟩ = some (.int .i64 ((X : Nat) : Int)) := by
                  obtain ⟨b3, o3, e3, h3⟩ := HR.out.2.2 j hlj
                  cases e3
                  exact Eq.trans h3 (by rw [hX])
                have hcc2 : (wC.setCell ⟨gi, X, none⟩ (.int .i64 ((ov : Int) + 1))).cell? ⟨gi, X, none⟩ = some (.int .i64 ((ov : Int) + 1)) := by
                  have h := HR.out.1.cell X hXn
                  rw [hov1]
                  rw [hov1] at h
                  refine Eq.trans h ?_
                  exact congrArg (fun k : Nat => some (Value.int .i64 ((k : Nat) : Int))) ((hstep X hXn).trans (if_pos rfl))
                have HM : Hid (∀ t', (if t < ov + 1 then t' = ov + 1 else t' = t) → Mxs (fun p => oall (fun k => N (lo.getD k 0)) (fun k => Z (lo.getD k 0)) p i + ofc (Z li) (j + 1) p) n t') := fun t' ht' => by
                  by_cases hgt : t < ov + 1
                  · rw [if_pos hgt] at ht'
                    rw [ht', hov]
                    exact HJ.out.2.1.up hXn (by rw [← hov]; exact hstep) (by show t < _ + 1; rw [← hov]; exact hgt)
                  · rw [if_neg hgt] at ht'
                    rw [ht']
                    exact HJ.out.2.1.stay (by show ∀ p, p < n → _ = if p = X then (_ + _) + 1 else _; rw [← hov]; exact hstep) (by show ¬ t < _ + 1; rw [← hov]; exact hgt)
                clear hov hX hX' hov1 hstep hxr
                by_cases hgt : t < ov + 1
                · have hgb : (ov : Int) + 1 > (t : Int) := by omega
                  have hgb2 : (t : Int) < (ov : Int) + 1 := by omega
                  go_wp2
                  go_region
                  go_wp2
                  go_roundw
                  case rel => exact ⟨j + 1, ov + 1, by omega, by omega, by go_num, by go_num, HR.out.1, HM.out _ (by rw [if_pos hgt]), HR.out.2.1⟩
                  case measure => simp [intOf]; omega
                · have hgb : ¬ (ov : Int) + 1 > (t : Int) := by omega
                  have hgb2 : ¬ (t : Int) < (ov : Int) + 1 := by omega
                  go_wp2
                  go_region
                  go_wp2
                  go_roundw
                  case rel => exact ⟨j + 1, t, by omega, by omega, by go_num, by go_num, HR.out.1, HM.out _ (by rw [if_neg hgt]), HR.out.2.1⟩
                  case measure => simp [intOf]; omega
              · have hjb : ¬ (j : Int) < (Ni : Int) := by omega
                have HV : Hid (Row gi n (fun p => oall (fun k => N (lo.getD k 0)) (fun k => Z (lo.getD k 0)) p (i + 1)) wC ∧ Mxs (fun p => oall (fun k => N (lo.getD k 0)) (fun k => Z (lo.getD k 0)) p (i + 1)) n t) := by
                  have e : ∀ p, oall (fun k => N (lo.getD k 0)) (fun k => Z (lo.getD k 0)) p (i + 1) = oall (fun k => N (lo.getD k 0)) (fun k => Z (lo.getD k 0)) p i + ofc (Z li) j p := fun p => by
                    show oall _ _ p i + ofc (Z (lo.getD i 0)) (N (lo.getD i 0)) p = _
                    rw [← HN.out.2.1, ← HN.out.1, show Ni = j by omega]
                  exact ⟨HJ.out.1.congr (fun p _ => (e p).symm), HJ.out.2.1.congr (fun p _ => e p)⟩
                go_wp2
                go_roundw
                case rel => exact ⟨i + 1, t, by omega, ht4, by go_num, by go_num, HV.out.1, HV.out.2, HJ.out.2.2⟩
                case measure => simp [intOf]; omega
          · have hib : ¬ (i : Int) < (K : Int) := by omega
            have hie : K = i := by omega
            subst hie
            obtain ⟨f, hf⟩ : ∃ f, f = fun p => oall (fun k => N (lo.getD k 0)) (fun k => Z (lo.getD k 0)) p K := ⟨_, rfl⟩
            have HT : Hid (trnd f t yr n = trounds n m N Z y (r + 1)) := by
              have e1 : t = mxv f n := by rw [hf]; exact mxv_is (by omega) HJ.out.2.1.1 HJ.out.2.1.2
              have e2 := trnd_is n m N Z yr
              rw [← HY.out.2.1, ← HY.out.2.2.1, ← hf, ← e1] at e2
              show _ = tround n m N Z (trounds n m N Z y r)
              rw [← HY.out.1]
              exact e2
            have H5 : Hid (Row gi n f wB ∧ RowZ g n yr wB ∧ Below w.heap.size w wB ∧ gi ≠ g) := ⟨by rw [hf]; exact HJ.out.1, H3.out.2.1.below HJ.out.2.2 H3.out.2.1.lt', bel_up' H3.out.2.2.2.1 HJ.out.2.2, by have := H3.out.2.1.lt'; have := HGi.out; omega⟩
            clear hf HJ
            go_wp2
            go_loopw [16] (fun vi wx => ∃ q : Nat, q ≤ n ∧ vi = .int .i64 (q : Nat) ∧ Hid (RowZ g n (trnd f t yr q) wx ∧ Row gi n f wx ∧ Below w.heap.size w wx)) (fun vi _ => n - (intOf vi).toNat)
            case atStart => exact ⟨0, by omega, rfl, H5.out.2.1.congr (fun p _ => (if_neg (by omega)).symm), H5.out.1, H5.out.2.2.1⟩
            case round =>
              obtain ⟨q, hq, rfl, HQ⟩ := hrel
              rename World => wC
              by_cases hlq : q < n
              · have hqb : (q : Int) < (n : Int) := by omega
                have hqb0 : (0 : Int) ≤ (q : Int) := by omega
                have hco := HQ.out.2.1.cell q hlq
                obtain ⟨x, hx⟩ : ∃ x, x = f q := ⟨_, rfl⟩
                rw [← hx] at hco
                by_cases hxt : x = t
                · have hz : ((x : Int) == (t : Int)) = true := by rw [hxt]; simp
                  have hcc := HQ.out.1.cell q hlq
                  have hff := HQ.out.1.free q
                  have hyq : trnd f t yr q q = yr q := if_neg (by omega)
                  rw [hyq] at hcc
                  have HR : Hid (RowZ g n (trnd f t yr (q + 1)) (wC.setCell ⟨g, q, none⟩ (.int .i64 (1 - yr q))) ∧ Row gi n f (wC.setCell ⟨g, q, none⟩ (.int .i64 (1 - yr q))) ∧ Below w.heap.size w (wC.setCell ⟨g, q, none⟩ (.int .i64 (1 - yr q)))) := by
                    refine ⟨HQ.out.1.store q _ (fun p _ => ?_), HQ.out.2.1.setOther _ H5.out.2.2.2 _, HQ.out.2.2.setCell HG.out _⟩
                    unfold trnd
                    by_cases e : p = q
                    · rw [if_pos e, e, if_pos ⟨by omega, by rw [← hx]; exact hxt⟩]
                    · rw [if_neg e]
                      by_cases e2 : p < q ∧ f p = t
                      · rw [if_pos e2, if_pos ⟨by omega, e2.2⟩]
                      · rw [if_neg e2, if_neg (fun h => e2 ⟨by omega, h.2⟩)]
                  clear hxt hx hyq
                  rcases HY.out.2.2.2.2.1 q hlq with hv | hv
                  · rw [hv] at hcc HR
                    clear hv
                    go_wp2
                    go_roundw
                    case rel => exact ⟨q + 1, by omega, by go_num, HR.out⟩
                    case measure => simp [intOf]; omega
                  · rw [hv] at hcc HR
                    clear hv
                    go_wp2
                    go_roundw
                    case rel => exact ⟨q + 1, by omega, by go_num, HR.out⟩
                    case measure => simp [intOf]; omega
                · have hz : ((x : Int) == (t : Int)) = false := by rw [beq_eq_false_iff_ne]; omega
                  have HV : Hid (RowZ g n (trnd f t yr (q + 1)) wC) := by
                    refine HQ.out.1.congr (fun p _ => ?_)
                    unfold trnd
                    by_cases e2 : p < q ∧ f p = t
                    · rw [if_pos e2, if_pos ⟨by omega, e2.2⟩]
                    · rw [if_neg e2, if_neg (fun h => e2 ⟨?_, h.2⟩)]
                      have h1 := h.1
                      by_cases e : p = q
                      · exact absurd (by rw [hx, ← e]; exact h.2) hxt
                      · omega
                  clear hxt hx
                  go_wp2
                  go_roundw
                  case rel => exact ⟨q + 1, by omega, by go_num, HV.out, HQ.out.2⟩
                  case measure => simp [intOf]; omega
              · have hqb : ¬ (q : Int) < (n : Int) := by omega
                have hqe : n = q := by omega
                subst hqe
                have HR : Hid (RowZ g n (trounds n m N Z y (r + 1)) wC ∧ (∀ j, j < r + 1 → odds N Z (trounds n m N Z y j) m ≠ []) ∧ Below w.heap.size w wC) := ⟨by rw [← HT.out]; exact HQ.out.1, HNe.out, HQ.out.2.2⟩
                have hr100 : r ≤ 100 := by omega
                go_wp2
                go_roundw
                case rel => exact ⟨r + 1, by omega, by go_num, HR.out⟩
                case measure => simp [intOf]; omega
end Go.Proofs.Ytjkncdmbcckcdaa
