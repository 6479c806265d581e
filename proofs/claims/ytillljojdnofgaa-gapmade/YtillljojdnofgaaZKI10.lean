/- Words that may lose a bit: lists behind one another (slices.Concat of however many), the reference's Lost and Holds. -/
import Derived.Test.YtillljojdnofgaaZKI9
import Derived.Test.YtillljojdnofgaaZI32
namespace Go.Proofs.Ytillljojdnofgaa
open Go.RowKit Go.Sort

/-- The first r of many lists, behind one another. -/
def catK (nn : Nat → Nat) (zz : Nat → Nat → Int) : Nat → List Int
  | 0 => []
  | r + 1 => catK nn zz r ++ zl (nn r) (zz r)
def sumK (nn : Nat → Nat) : Nat → Nat
  | 0 => 0
  | r + 1 => sumK nn r + nn r
theorem catK_len (nn : Nat → Nat) (zz : Nat → Nat → Int) : ∀ r, (catK nn zz r).length = sumK nn r
  | 0 => rfl
  | r + 1 => by
    show (catK nn zz r ++ zl (nn r) (zz r)).length = sumK nn r + nn r
    rw [List.length_append, zl_len, catK_len]
theorem sumK_le (nn : Nat → Nat) (r : Nat) : ∀ k, sumK nn r ≤ sumK nn (r + k)
  | 0 => Nat.le_refl _
  | k + 1 => Nat.le_trans (sumK_le nn r k) (Nat.le_add_right _ _)
/-- K lists that lie in an array. -/
def ManyL (B K : Nat) (x : Nat → Option Addr) (nn cx : Nat → Nat) (zz : Nat → Nat → Int) (w : World) : Prop := ∀ r, r < K → w.cell? ⟨B, r, none⟩ = some (.slice (x r) (nn r) (cx r)) ∧ SlZ (x r) (nn r) (zz r) w ∧ (x r = none → cx r = 0)
theorem ManyL.below {B K : Nat} {x : Nat → Option Addr} {nn cx : Nat → Nat} {zz : Nat → Nat → Int} {w w' : World} (h : ManyL B K x nn cx zz w) (hb : Below w.heap.size w w') : ManyL B K x nn cx zz w' := fun r hr => by
  obtain ⟨h1, h2, h3⟩ := h r hr
  exact ⟨((bcell hb).1 B r (cell_lt h1)).trans h1, slz_below h2 hb, h3⟩

set_option maxHeartbeats 8000000 in
set_option maxRecDepth 100000 in
theorem concatK {B K c : Nat} {x : Nat → Option Addr} {nn cx : Nat → Nat} {zz : Nat → Nat → Int} {w : World} (h : ManyL B K x nn cx zz w) (hK : K ≤ 1000) (hn : sumK nn K ≤ 1000) :
    Calls Try.prog 81 #[.slice (some ⟨B, 0, none⟩) K c] w fun e w' => ∃ v, e = .returned v ∧ OwnI w.heap.size v (catK nn zz K) w' ∧ Below w.heap.size w w' := by
  have HT : Hid (ManyL B K x nn cx zz w ∧ sumK nn K ≤ 1000) := ⟨h, hn⟩
  obtain ⟨S, hS⟩ : ∃ S, S = sumK nn K := ⟨_, rfl⟩
  have hS1 : S ≤ 1000 := by omega
  have HSm : Hid (S = sumK nn K) := hS
  clear h hn hS
  go_enter Try.func81, Try.ntmps81
  go_wp2
  go_loopw [3, 11] (fun vs vi wr => ∃ r s : Nat, r ≤ K ∧ vs = .int .i64 (s : Nat) ∧ vi = .int .i64 r ∧ s ≤ 1000 ∧ Hid (s = sumK nn r) ∧ wr = w) (fun _ vi _ => K - (intOf vi).toNat)
  case atStart => exact ⟨0, 0, by omega, rfl, rfl, by omega, rfl, rfl⟩
  case round =>
    obtain ⟨r, s, hr, rfl, rfl, hs, HS, hw⟩ := hrel
    have hw := hw.symm
    subst hw
    by_cases hlt : r < K
    · have hib : (r : Int) < (K : Int) := by omega
      have hib0 : (0 : Int) ≤ (r : Int) := by omega
      obtain ⟨hc, _, _⟩ := HT.out.1 r hlt
      obtain ⟨xr, hxr⟩ : ∃ xr, xr = x r := ⟨_, rfl⟩
      obtain ⟨nr, hnr⟩ : ∃ nr, nr = nn r := ⟨_, rfl⟩
      obtain ⟨cr, hcr⟩ : ∃ cr, cr = cx r := ⟨_, rfl⟩
      rw [← hxr, ← hnr, ← hcr] at hc
      have hsn : s + nr = sumK nn (r + 1) := by rw [HS.out, hnr]; rfl
      have hle := sumK_le nn (r + 1) (K - (r + 1))
      rw [show r + 1 + (K - (r + 1)) = K by omega] at hle
      have hsm : s + nr ≤ 1000 := by have := HT.out.2; omega
      have HS2 : Hid (s + nr = sumK nn (r + 1)) := hsn
      have hneg : ¬ ((s : Int) + (nr : Int) < 0) := by omega
      clear hsn hle hxr hnr hcr
      go_wp2
      go_roundw
      case rel => exact ⟨r + 1, s + nr, by omega, by go_num, by go_num, hsm, HS2.out, by first | rfl | trivial⟩
      case measure => simp [intOf]; omega
    · have hib : ¬ (r : Int) < (K : Int) := by omega
      have hsn : s = S := by rw [HS.out, HSm.out, show r = K by omega]
      have HG : Hid (Calls Try.prog 94 #[.slice none 0 0, .int .i64 (s : Nat)] w fun e w' => ∃ v, e = .returned v ∧ OwnI w.heap.size v [] w' ∧ Below w.heap.size w w') := grow_any (by omega) w
      clear hsn
      go_wp2_with fail
      refine HG.out.mono ?_
      rintro e w1 ⟨v1, rfl, ho1, hb1⟩
      have H1 : Hid (OwnI w.heap.size v1 (catK nn zz 0) w1 ∧ Below w.heap.size w w1) := ⟨ho1, hb1⟩
      clear ho1 hb1
      go_wp2
      go_loopw [6, 27] (fun vl vi wr => ∃ r : Nat, r ≤ K ∧ vi = .int .i64 r ∧ Hid (OwnI w.heap.size vl (catK nn zz r) wr ∧ Below w.heap.size w wr)) (fun _ vi _ => K - (intOf vi).toNat)
      case atStart => exact ⟨0, by omega, rfl, H1.out⟩
      case round =>
        clear H1
        obtain ⟨r, hr, rfl, HK⟩ := hrel
        rename World => wr
        by_cases hlt : r < K
        · have hib : (r : Int) < (K : Int) := by omega
          have hib0 : (0 : Int) ≤ (r : Int) := by omega
          obtain ⟨hc, hsl, hnx⟩ := (HT.out.1.below HK.out.2) r hlt
          obtain ⟨xr, hxr⟩ : ∃ xr, xr = x r := ⟨_, rfl⟩
          obtain ⟨nr, hnr⟩ : ∃ nr, nr = nn r := ⟨_, rfl⟩
          obtain ⟨cr, hcr⟩ : ∃ cr, cr = cx r := ⟨_, rfl⟩
          have HP : Hid (SlZ xr nr (zz r) wr ∧ (xr = none → cr = 0) ∧ catK nn zz r ++ zl nr (zz r) = catK nn zz (r + 1)) := by rw [hxr, hnr, hcr]; exact ⟨hsl, hnx, rfl⟩
          have hll : (catK nn zz r).length + nr ≤ 1000 := by
            have hle := sumK_le nn (r + 1) (K - (r + 1))
            rw [show r + 1 + (K - (r + 1)) = K by omega] at hle
            have e : sumK nn (r + 1) = sumK nn r + nn r := rfl
            have := HT.out.2
            rw [catK_len, hnr]; omega
          rw [← hxr, ← hnr, ← hcr] at hc
          have hsz := HK.out.2.size
          clear hsl hnx hxr hnr hcr
          go_wp2_with (at_builtin; refine append_ints rfl _ _ rfl w.heap.size _ (catK nn zz r) rfl HK.out.1 xr nr cr (zz r) rfl HP.out.1 HP.out.2.1 (by omega) hsz ?_; intro v5 w5 hown5 hgrow5)
          have HR : Hid (OwnI w.heap.size v5 (catK nn zz (r + 1)) w5 ∧ Below w.heap.size w w5) := ⟨by rw [← HP.out.2.2]; exact hown5, HK.out.2.grown hgrow5 hsz (fun k hk => (HK.out.1.lt k hk).1)⟩
          clear hown5 hgrow5
          go_roundw
          case rel => exact ⟨r + 1, by omega, by go_num, HR.out⟩
          case measure => simp [intOf]; omega
        · have hib : ¬ (r : Int) < (K : Int) := by omega
          have HE : Hid (OwnI w.heap.size u6 (catK nn zz K) wr ∧ Below w.heap.size w wr) := by
            have h := HK.out
            rw [show r = K by omega] at h; exact h
          go_wp2
          go_ret
          exact ⟨_, rfl, HE.out⟩

/-- All words that come of one by losing one of its first k numbers. -/
def lsL (f : Nat → Nat) : Nat → List (Nat → Nat)
  | 0 => []
  | k + 1 => lsL f k ++ [wo k f]
theorem lsL_len (f : Nat → Nat) : ∀ k, (lsL f k).length = k
  | 0 => rfl
  | k + 1 => by show (lsL f k ++ [wo k f]).length = k + 1; rw [List.length_append, lsL_len]; rfl
theorem lsL_mem {f c : Nat → Nat} : ∀ k, c ∈ lsL f k ↔ ∃ i, i < k ∧ c = wo i f
  | 0 => ⟨fun h => (by cases h), fun ⟨i, h, _⟩ => absurd h (by omega)⟩
  | k + 1 => by
    show c ∈ lsL f k ++ [wo k f] ↔ _
    rw [List.mem_append, lsL_mem k, List.mem_singleton]
    constructor
    · rintro (⟨i, hi, e⟩ | e)
      · exact ⟨i, by omega, e⟩
      · exact ⟨k, by omega, e⟩
    · rintro ⟨i, hi, e⟩
      by_cases h : i = k
      · exact Or.inr (by rw [e, h])
      · exact Or.inl ⟨i, by omega, e⟩

set_option maxHeartbeats 8000000 in
set_option maxRecDepth 100000 in
theorem rlost_any {ao : Option Addr} {n ca : Nat} {f : Nat → Nat} {w : World} (hA : ArgL ao n ca (fun j => ((f j : Nat) : Int)) w) (hn : n ≤ 13) :
    Calls Try.prog 17 #[.slice ao n ca] w fun e w' => ∃ v, e = .returned v ∧ WLs w.heap.size v (n - 1) (lsL f n) w' ∧ Below w.heap.size w w' := by
  have HA : Hid (ArgL ao n ca (fun j => ((f j : Nat) : Int)) w) := hA
  clear hA
  go_enter Try.func17, Try.ntmps17
  go_wp2
  go_loopw [3, 4] (fun vo vk wr => ∃ k : Nat, k ≤ n ∧ vk = .int .i64 (k : Nat) ∧ Hid (WLs w.heap.size vo (n - 1) (lsL f k) wr ∧ Below w.heap.size w wr)) (fun _ vk _ => n - (intOf vk).toNat)
  case atStart => exact ⟨0, by omega, rfl, WLs.nil _ _ _, Below.refl _ _⟩
  case round =>
    obtain ⟨k, hk, rfl, HG⟩ := hrel
    rename World => wr
    by_cases hlt : k < n
    · have hib : (k : Int) < (n : Int) := by omega
      obtain ⟨m, hm⟩ : ∃ m, m = n - 1 := ⟨_, rfl⟩
      have HW : Hid (Calls Try.prog 54 #[.slice ao n ca, .int .i64 (k : Nat)] wr fun e w' => ∃ vo vc, e = .returned (.slice vo m vc) ∧ OwnI wr.heap.size (.slice vo m vc) (wz m (wo k f)) w' ∧ Below wr.heap.size wr w') := by
        have hS := slz_below HA.out.sl HG.out.2
        obtain ⟨b, off, e, _⟩ := hS k hlt
        subst e
        refine (without_any hlt (by omega) HA.out.le HA.out.cap hS (Nat.lt_of_lt_of_le (HA.out.lt _ rfl) HG.out.2.size)).mono ?_
        rintro e w' ⟨v, rfl, ho, hb⟩
        rw [← hm] at ho
        obtain ⟨vo, vc, rfl, _⟩ := OwnI.argL (n := m) (y := fun j => ((wo k f j : Nat) : Int)) ho
        exact ⟨vo, vc, rfl, ho, hb⟩
      have hszr := HG.out.2.size
      have HM : Hid (m = n - 1) := hm
      clear hm
      go_wp2_with fail
      refine HW.out.mono ?_
      rintro e w1 ⟨bo, cb, rfl, ho1, hb1⟩
      have hs1 := hb1.size
      obtain ⟨lst, hov, hln, hels⟩ := HG.out.1.below hb1
      have hll : lst.length ≤ 1000000 := by rw [hln, lsL_len]; omega
      have HV : Hid (OwnV w.heap.size u3 lst w1 ∧ lst.length = (lsL f k).length ∧ (∀ (j : Nat) (u : Value) (c : Nat → Nat), lst[j]? = some u → (lsL f k)[j]? = some c → OwnI w.heap.size u (wz (n - 1) c) w1) ∧ OwnI w.heap.size (.slice bo m cb) (wz (n - 1) (wo k f)) w1 ∧ Below w.heap.size w w1) := ⟨hov, hln, hels, by rw [← HM.out]; exact ho1.mono hszr, bel_up' HG.out.2 hb1⟩
      clear hov hln hels ho1 hb1
      go_wp2_with (at_builtin; refine append_sl rfl _ _ rfl w.heap.size u3 lst rfl (HV.out.1.below ((Below.refl _ _).alloc (Nat.le_refl _) _) (Nat.le_refl _)) ⟨w1.heap.size, 0, none⟩ 1 (.slice bo m cb) rfl rfl (by rw [cell_of_row _ _ _ _ _ (0, 0) (two_new _)]; rfl) hll (by simp; omega) ?_; intro v' w6 hown6 hg6)
      have hal : Below w1.heap.size w1 (w1.alloc (.cells #[.slice bo m cb] 22)) := (Below.refl _ _).alloc (Nat.le_refl _) _
      have ho := HV.out.1.below hal (Nat.le_refl _)
      have H6 : Hid (WLs w.heap.size v' (n - 1) (lsL f (k + 1)) w6 ∧ Below w.heap.size w w6) := by
        refine ⟨?_, (bel_up' HV.out.2.2.2.2 hal).grown hg6 (by simp; omega) (fun q hq => ho.open_ge q hq)⟩
        have hp := wl_push ho HV.out.2.1 (fun j u c hu hc => (HV.out.2.2.1 j u c hu hc).below hal fun q hq => ((HV.out.2.2.1 j u c hu hc).lt q hq).2) (HV.out.2.2.2.1.below hal fun q hq => (HV.out.2.2.2.1.lt q hq).2) hg6
        exact ⟨_, hown6, hp.1, hp.2⟩
      clear hown6 hg6 hal ho
      try go_wp2
      go_roundw
      case rel => exact ⟨k + 1, by omega, by go_num, H6.out⟩
      case measure => simp [intOf]; omega
    · have hib : ¬ (k : Int) < (n : Int) := by omega
      have HE : Hid (WLs w.heap.size u3 (n - 1) (lsL f n) wr ∧ Below w.heap.size w wr) := by
        have h := HG.out
        rw [show k = n by omega] at h; exact h
      go_wp2
      go_ret
      exact ⟨_, rfl, HE.out⟩

set_option maxHeartbeats 2000000 in
set_option maxRecDepth 100000 in
theorem gholds_any {base n : Nat} {v u : Value} {L : List (Nat → Nat)} {lm : List Int} {w : World} (hL : WLs base v n L w) (hu : SliceI u lm w) (hl : L.length ≤ 1000000) (hn : n ≤ 1000000) (b : Bool) (hb : b = true ↔ ∃ c ∈ L, wz n c = lm) :
    Calls Try.prog 51 #[v, u] w fun e w' => e = .returned (.bool b) ∧ ∃ n, w' = w.drewN n := by
  obtain ⟨l, ho, hln, he⟩ := hL
  obtain ⟨ao, ca, rfl, _, _, _, hc⟩ := ho.open
  have HC : Hid ((∀ (j : Nat) (u : Value) (c : Nat → Nat), l[j]? = some u → L[j]? = some c → OwnI base u (wz n c) w) ∧ l.length = L.length ∧ (∀ (j : Nat) (u : Value), l[j]? = some u → ∃ g, ao = some ⟨g, 0, none⟩ ∧ w.cell? ⟨g, j, none⟩ = some u ∧ w.frozen? ⟨g, j, none⟩ = false) ∧ SliceI u lm w ∧ (b = true ↔ ∃ c ∈ L, wz n c = lm)) := ⟨he, hln, hc, hu, hb⟩
  rw [hln]
  obtain ⟨M, hM⟩ : ∃ M, M = L.length := ⟨_, rfl⟩
  rw [← hM] at hl ⊢
  have HM : Hid (M = L.length) := hM
  clear he hc ho hu hb hln hM
  go_enter Try.func51, Try.ntmps51
  go_wp2
  go_loopw [5] (fun i wr => ∃ r : Nat, r ≤ M ∧ i = .int .i64 r ∧ Hid (∀ (j : Nat), j < r → ∀ c, L[j]? = some c → wz n c ≠ lm) ∧ ∃ d, wr = w.drewN d) (fun i _ => M - (intOf i).toNat)
  case atStart => exact ⟨0, by omega, rfl, fun j hj => absurd hj (by omega), 0, rfl⟩
  case round =>
    obtain ⟨r, hr, rfl, HN, d, rfl⟩ := hrel
    by_cases hlt : r < M
    · have h1 : r < L.length := by rw [← HM.out]; exact hlt
      have h2 : r < l.length := by rw [HC.out.2.1]; exact h1
      obtain ⟨p, hp⟩ : ∃ p, L[r]? = some p := ⟨L[r], List.getElem?_eq_getElem h1⟩
      obtain ⟨v, hv⟩ : ∃ v, l[r]? = some v := ⟨l[r], List.getElem?_eq_getElem h2⟩
      obtain ⟨g, rfl, hc, _⟩ := HC.out.2.2.1 r v hv
      have hc : (w.drewN d).cell? ⟨g, r, none⟩ = some v := hc
      have hib : (r : Int) < (M : Int) := by omega
      have hib0 : (0 : Int) ≤ (r : Int) := by omega
      obtain ⟨t, ht⟩ : ∃ t : Bool, t = decide (wz n p = lm) := ⟨_, rfl⟩
      have HS : Hid (Calls Try.prog 16 #[v, u] (w.drewN d) fun e w' => e = .returned (.bool t) ∧ ∃ m, w' = (w.drewN d).drewN m) := by
        show Calls _ _ _ _ _
        rw [ht]
        exact same_any (((HC.out.1 r v p hv hp).slice (by unfold wz; rw [zl_len]; exact hn)).drewN d) (HC.out.2.2.2.1.drewN d)
      have HP : Hid (L[r]? = some p ∧ t = decide (wz n p = lm)) := ⟨hp, ht⟩
      clear h1 h2 hp hv ht
      go_wp2_with fail
      refine HS.out.mono ?_
      rintro e w2 ⟨rfl, m, rfl⟩
      cases t
      · have HN2 : Hid (∀ (j : Nat), j < r + 1 → ∀ c, L[j]? = some c → wz n c ≠ lm) := fun j hj p' hp' => by
          by_cases e : j = r
          · subst e
            have h1 := HP.out.1
            rw [hp'] at h1
            cases h1
            exact of_decide_eq_false HP.out.2.symm
          · exact HN.out j (by omega) p' hp'
        go_wp2
        go_roundw
        case rel => exact ⟨r + 1, by omega, by go_num, HN2.out, _, by first | rfl | rw [World.drewN_drewN]⟩
        case measure => simp [intOf]; omega
      · have HB : Hid (b = true) := HC.out.2.2.2.2.2 ⟨p, List.mem_of_getElem? HP.out.1, of_decide_eq_true HP.out.2.symm⟩
        go_wp2
        go_ret
        exact ⟨by rw [HB.out]; rfl, _, by first | rfl | rw [World.drewN_drewN]⟩
    · have hib : ¬ (r : Int) < (M : Int) := by omega
      have HB : Hid (b = false) := by
        show b = false
        cases hb2 : b
        · rfl
        · obtain ⟨p, hp, he⟩ := HC.out.2.2.2.2.1 hb2
          obtain ⟨j, hj, e⟩ := List.getElem_of_mem hp
          exact absurd he (HN.out j (by have := HM.out; omega) p (by rw [List.getElem?_eq_getElem hj, e]))
      go_wp2
      go_ret
      exact ⟨by rw [HB.out]; rfl, _, rfl⟩
end Go.Proofs.Ytillljojdnofgaa
