/- Texts of ours, one behind the other: Z1 E5 Z2 Z3. -/
import Derived.Test.YtnjbnamcedfjaaaGreatZY1
import Derived.Test.YtnjbnamcedfjaaaGreatZT9
import Derived.Test.YtnjbnamcedfjaaaGreatZL10
import Derived.Test.YtnjbnamcedfjaaaGreatZR9
import Derived.Test.YtnjbnamcedfjaaaGreatZL1
/- The program's words (reed): values, Check and Encode where all may be. -/
namespace Go.Proofs.YtnjbnamcedfjaaaGreat
open Go.RowKit Go.Sort

set_option maxHeartbeats 8000000 in
set_option maxRecDepth 100000 in
theorem rvalues_any {F T : Nat} {D : FD} (hD : D ∈ fieldsL) {g : Nat → Value} {w : World} (hat : FAt F T D g w) {ao xo : Option Addr} {k n ca cx : Nat} {a xs : Nat → Nat} (hk : k ≤ 128) (hn : n ≤ 64) (ha : El D a) (hx : ∀ i, i < n → xs i < D.q) (hA : Sl ao k a w) (hX : Sl xo n xs w) (hla : LtB ao w.heap.size) (hlx : LtB xo w.heap.size) :
    Calls Tryz.prog 35 #[.pointer (some ⟨F, 0, none⟩), .slice ao k ca, .slice xo n cx] w fun e w' =>
      e = .returned (.slice (some ⟨w.heap.size, 0, none⟩) n n) ∧ Row w.heap.size n (fun i => D.ev a (xs i) k) w' ∧ Below w.heap.size w w' := by
  have HF : Hid (FAt F T D g w ∧ D ∈ fieldsL ∧ Sl ao k a w ∧ Sl xo n xs w ∧ El D a ∧ (∀ i, i < n → xs i < D.q) ∧ LtB ao w.heap.size ∧ LtB xo w.heap.size) := ⟨hat, hD, hA, hX, ha, hx, hla, hlx⟩
  clear hat hD hA hX ha hx hla hlx
  go_enter Tryz.func35, Tryz.ntmps35
  go_wp2_with (at_make; refine make_int rfl _ _ rfl _ n rfl rfl (by omega) (by omega) ?_; intro w1 hown1 hgrow1)
  have HB1 : Hid (Below w.heap.size w w1 ∧ Row w.heap.size n pnil w1) := ⟨below_grown hgrow1 (Nat.le_refl _) (fun k hk => by simp at hk), row_zeros hown1⟩
  clear hown1 hgrow1
  obtain ⟨gr, hg⟩ : ∃ g, g = w.heap.size := ⟨_, rfl⟩
  have HB2 : Hid (Below w.heap.size w w1 ∧ Row gr n pnil w1 ∧ gr = w.heap.size) := by rw [hg]; exact ⟨HB1.out.1, HB1.out.2, rfl⟩
  rw [← hg]
  have hgD : w.heap.size ≤ gr := by omega
  clear HB1 hg
  go_loopw [16] (fun i wr => ∃ r : Nat, r ≤ n ∧ i = .int .i64 r ∧ Hid (Row gr n (fun j => if j < r then D.ev a (xs j) k else 0) wr ∧ Below w.heap.size w wr)) (fun i _ => n - (intOf i).toNat)
  case atStart => exact ⟨0, by omega, rfl, HB2.out.2.1.congr (fun j _ => by rw [if_neg (by omega)]; rfl), HB2.out.1⟩
  case round =>
    obtain ⟨r, hr, rfl, HG⟩ := hrel
    rename World => wA
    by_cases hlt : r < n
    · have hib : (r : Int) < (n : Int) := by omega
      obtain ⟨bx, ox, hxo, hcx⟩ := (HF.out.2.2.2.1.below HG.out.2 HF.out.2.2.2.2.2.2.2) r hlt
      subst hxo
      obtain ⟨x, hx⟩ : ∃ x, x = xs r := ⟨_, rfl⟩
      rw [← hx] at hcx
      have hxq : x < D.q := by rw [hx]; exact HF.out.2.2.2.2.2.1 r hlt
      have HX : Hid (x = xs r ∧ x < D.q) := ⟨hx, hxq⟩
      clear hx hxq
      go_wp2
      go_loopw [10] (fun vi wr => ∃ t : Nat, t ≤ k ∧ vi = .int .i64 ((t : Int) - 1) ∧ Hid (Row gr n (fun j => if j < r then D.ev a (xs j) k else if j = r then D.val a k x (k - t) else 0) wr ∧ Below w.heap.size w wr)) (fun vi _ => (intOf vi + 1).toNat)
      case atStart => exact ⟨k, Nat.le_refl _, by first | rfl | go_num, HG.out.1.congr (fun j _ => by
        by_cases e : j < r
        · rw [if_pos e, if_pos e]
        · rw [if_neg e, if_neg e]
          split
          · rw [Nat.sub_self]; rfl
          · rfl), HG.out.2⟩
      case round =>
        obtain ⟨t, ht, hvi, HK⟩ := hrel
        rename World => wr
        cases t with
        | succ s =>
          have hi' : u10 = .int .i64 (s : Int) := by rw [hvi]; go_num
          clear hvi
          subst hi'
          obtain ⟨y, hy⟩ : ∃ y, y = D.val a k x (k - (s + 1)) := ⟨_, rfl⟩
          have hyq : y < D.q := by rw [hy]; exact val_lt HF.out.2.1 a k x HF.out.2.2.2.2.1 _
          have hco : wr.cell? ⟨gr, r, none⟩ = some (.int .i64 (y : Nat)) := by
            have h := HK.out.1.cell r hlt
            rw [if_neg (by omega), if_pos rfl, ← hy] at h; exact h
          have hfo := HK.out.1.free r
          obtain ⟨ba, oa, hao, hca⟩ := (HF.out.2.2.1.below HK.out.2 HF.out.2.2.2.2.2.2.1) s (by omega)
          subst hao
          obtain ⟨ax, hax⟩ : ∃ ax, ax = a s := ⟨_, rfl⟩
          rw [← hax] at hca
          obtain ⟨p, hp⟩ : ∃ p, p = D.mul y x := ⟨_, rfl⟩
          obtain ⟨u, hu⟩ : ∃ u, u = sumD D.p D.q p ax := ⟨_, rfl⟩
          have F' := fld HF.out.2.1
          have hatr := HF.out.1.below HK.out.2 HF.out.1.ltF HF.out.1.ltT
          have HC1 : Hid (∀ d, Calls Tryz.prog 46 #[.pointer (some ⟨F, 0, none⟩), .int .i64 (y : Nat), .int .i64 (x : Nat)] (wr.drewN d) fun e w' => e = .returned (.int .i64 (p : Nat)) ∧ ∃ k, w' = (wr.drewN d).drewN k) := fun d => by
            rw [hp]; exact mul_nat HF.out.2.1 (hatr.drewN d) hyq HX.out.2
          have HC2 : Hid (∀ d, Calls Tryz.prog 45 #[.pointer (some ⟨F, 0, none⟩), .int .i64 (p : Nat), .int .i64 (ax : Nat)] (wr.drewN d) fun e w' => e = .returned (.int .i64 (u : Nat)) ∧ ∃ k, w' = (wr.drewN d).drewN k) := fun d => by
            rw [hu]; exact add_nat HF.out.2.1 (hatr.drewN d) (by rw [hp]; exact F'.mul_lt _ _) (by rw [hax]; exact HF.out.2.2.2.2.1 s)
          have HY : D.val a k x (k - s) = u := by
            rw [hu, hp, hy, hax, show k - s = (k - (s + 1)) + 1 from by omega, FD.val, show k - 1 - (k - (s + 1)) = s from by omega]
          have HV : Hid (∀ j, j < n → (if j < r then D.ev a (xs j) k else if j = r then D.val a k x (k - s) else 0) = if j = r then u else if j < r then D.ev a (xs j) k else if j = r then D.val a k x (k - (s + 1)) else 0) := fun j _ => by
            by_cases e : j = r
            · rw [if_pos e, if_neg (by omega), if_pos e, HY]
            · rw [if_neg e, if_neg e, if_neg e]
          have hsb : (s : Int) < (k : Int) := by omega
          clear hax hp hu hy HY F' hatr
          go_wp2
          refine quiet_tail 16 (by kernel_rfl) (by kernel_rfl) ?_
          simp only [List.take_succ_cons, List.take_zero, List.drop_succ_cons, List.drop_zero]
          repeat (go_big_quiet_step (first | (go_at_call 46; exact Calls.quiet_of (HC1.out _)) | (go_at_call 45; exact Calls.quiet_of (HC2.out _)) | fail))
          refine wpQuiet_nil ?_
          intro _ hw'
          obtain ⟨nq, hw''⟩ := hw'
          subst hw''
          go_wp2
          go_roundw
          case rel => exact ⟨s, by omega, by go_num, (HK.out.1.drewN nq).store r u HV.out, (below_drewN2 HK.out.2 nq).setCell hgD _⟩
          case measure => simp [intOf]
        | zero =>
          have hi' : u10 = .int .i64 (-1) := by rw [hvi]; rfl
          clear hvi
          subst hi'
          have HE : Hid (Row gr n (fun j => if j < r + 1 then D.ev a (xs j) k else 0) wr ∧ Below w.heap.size w wr) := by
            refine ⟨HK.out.1.congr (fun j _ => ?_), HK.out.2⟩
            by_cases e : j < r
            · rw [if_pos e, if_pos (by omega)]
            · rw [if_neg e]
              by_cases e2 : j = r
              · rw [if_pos e2, if_pos (by omega), e2, Nat.sub_zero, val_is (fld HF.out.2.1) x k HF.out.2.2.2.2.1 HX.out.2, HX.out.1]
              · rw [if_neg e2, if_neg (by omega)]
          go_wp2
          go_roundw
          case rel => exact ⟨r + 1, by omega, by go_num, HE.out⟩
          case measure => simp [intOf]; omega
    · have hib : ¬ (r : Int) < (n : Int) := by omega
      have HE : Hid (Row gr n (fun j => D.ev a (xs j) k) wA) := HG.out.1.congr (fun j hj => by rw [if_pos (by omega)])
      go_wp2
      go_ret
      exact ⟨by rw [← HB2.out.2.2]; rfl, by rw [← HB2.out.2.2]; exact HE.out, HG.out.2⟩

set_option maxHeartbeats 8000000 in
set_option maxRecDepth 100000 in
theorem rcheck_ok {D : FD} (hD : D ∈ fieldsL) {xo : Option Addr} {n cx k : Nat} {xs : Nat → Nat} {w : World} (hn1 : 1 ≤ n) (hn : n ≤ 64) (hcn : n ≤ cx) (hx : ∀ i, i < n → xs i < D.q) (hne : ∀ i j, i < n → j < n → i ≠ j → xs i ≠ xs j) (hX : Sl xo n xs w) (hlx : LtB xo w.heap.size) (hk1 : 1 ≤ k) (hk : k ≤ n) :
    Calls Tryz.prog 17 #[.int .i64 D.q, .slice xo n cx, .int .i64 (k : Nat)] w fun e w' => e = .returned (.int .i64 0) ∧ Below w.heap.size w w' := by
  have HF : Hid (D ∈ fieldsL ∧ (∀ i, i < n → xs i < D.q) ∧ (∀ i j, i < n → j < n → i ≠ j → xs i ≠ xs j) ∧ Sl xo n xs w ∧ LtB xo w.heap.size) := ⟨hD, hx, hne, hX, hlx⟩
  have hz1 : ¬ (n : Int) < 1 := by omega
  have hz2 : ¬ (64 : Int) < (n : Int) := by omega
  have hz3 : ¬ (k : Int) < 1 := by omega
  have hz4 : ¬ (n : Int) < (k : Int) := by omega
  clear hD hx hne hX hlx
  go_enter Tryz.func17, Tryz.ntmps17
  go_wp2_with fail
  refine (new_any HF.out.1 w).mono ?_
  rintro e w1 ⟨F, T, g, rfl, hat, hF, hT, hb1⟩
  have HA : Hid (FAt F T D g w1 ∧ Sl xo n xs w1 ∧ Below w.heap.size w w1) := ⟨hat, HF.out.2.2.2.1.below hb1 HF.out.2.2.2.2, hb1⟩
  clear hat hF hT hb1
  go_wp2
  go_loopw [29] (fun i wr => ∃ r : Nat, r ≤ n ∧ i = .int .i64 r ∧ wr = w1) (fun i _ => n - (intOf i).toNat)
  case atStart => exact ⟨0, by omega, rfl, rfl⟩
  case round =>
    obtain ⟨r, hr, rfl, hw⟩ := hrel
    have hw := hw.symm
    subst hw
    by_cases hlt : r < n
    · have hib : (r : Int) < (n : Int) := by omega
      obtain ⟨bx, ox, hxo, hcx⟩ := HA.out.2.1 r hlt
      subst hxo
      obtain ⟨x, hx⟩ : ∃ x, x = xs r := ⟨_, rfl⟩
      rw [← hx] at hcx
      have hcap : (r : Int) ≤ (cx : Int) := by omega
      have HC1 : Hid (Calls Tryz.prog 28 #[.pointer (some ⟨F, 0, none⟩), .int .i64 (x : Nat)] w1 fun e w' => e = .returned (.bool true) ∧ w' = w1) := by
        have h := has_any HA.out.1 (x : Int)
        rw [has_of_lt (by rw [hx]; exact HF.out.2.1 r hlt)] at h; exact h
      have HC2 : Hid (Calls Tryz.prog 29 #[.slice (some ⟨bx, ox, none⟩) r cx, .int .i64 (x : Nat)] w1 fun e w' => e = .returned (.bool false) ∧ w' = w1) := by
        have h := contains_any (ca := cx) (w := w1) (z := fun j => ((xs j : Nat) : Int)) (x : Int) (show SlZ (some ⟨bx, ox, none⟩) r (fun j => ((xs j : Nat) : Int)) w1 from HA.out.2.1.less (by omega)) (by omega)
        rw [decide_eq_false (fun hm => by
          unfold zl at hm
          obtain ⟨j, hj, e⟩ := List.mem_map.1 hm
          have hj := List.mem_range.1 hj
          exact HF.out.2.2.1 j r (by omega) hlt (by omega) (by rw [← hx]; omega))] at h
        exact h
      clear hx
      go_wp2_with fail
      refine HC1.out.mono ?_
      rintro e w' ⟨rfl, hw⟩
      have hw := hw.symm
      subst hw
      go_wp2_with fail
      refine HC2.out.mono ?_
      rintro e w' ⟨rfl, hw⟩
      have hw := hw.symm
      subst hw
      go_wp2
      go_roundw
      case rel => exact ⟨r + 1, by omega, by go_num, by first | rfl | trivial⟩
      case measure => simp [intOf]; omega
    · have hib : ¬ (r : Int) < (n : Int) := by omega
      go_wp2
      go_ret
      exact ⟨rfl, HA.out.2.2⟩
set_option maxHeartbeats 4000000 in
set_option maxRecDepth 100000 in
theorem encode_ok {D : FD} (hD : D ∈ fieldsL) {xo ao : Option Addr} {n cx k ca : Nat} {xs a : Nat → Nat} {w : World} (hn1 : 1 ≤ n) (hn : n ≤ 64) (hcn : n ≤ cx) (hx : ∀ i, i < n → xs i < D.q) (hne : ∀ i j, i < n → j < n → i ≠ j → xs i ≠ xs j) (hX : Sl xo n xs w) (hlx : LtB xo w.heap.size) (hk1 : 1 ≤ k) (hk : k ≤ n) (ha : El D a) (hA : Sl ao k a w) (hla : LtB ao w.heap.size) :
    Calls Tryz.prog 22 #[.int .i64 D.q, .slice xo n cx, .slice ao k ca] w fun e w' => ∃ g, e = .returned (.tuple #[.slice (some ⟨g, 0, none⟩) n n, .int .i64 0]) ∧ Row g n (fun i => D.ev a (xs i) k) w' ∧ Below w.heap.size w w' := by
  have HF : Hid (D ∈ fieldsL ∧ (∀ i, i < n → xs i < D.q) ∧ (∀ i j, i < n → j < n → i ≠ j → xs i ≠ xs j) ∧ Sl xo n xs w ∧ LtB xo w.heap.size ∧ El D a ∧ Sl ao k a w ∧ LtB ao w.heap.size) := ⟨hD, hx, hne, hX, hlx, ha, hA, hla⟩
  have HC0 : Hid (Calls Tryz.prog 17 #[.int .i64 D.q, .slice xo n cx, .int .i64 (k : Nat)] w fun e w' => e = .returned (.int .i64 0) ∧ Below w.heap.size w w') := rcheck_ok hD hn1 hn hcn hx hne hX hlx hk1 hk
  clear hD hx hne hX hlx ha hA hla
  go_enter Tryz.func22, Tryz.ntmps22
  go_wp2_with fail
  refine HC0.out.mono ?_
  rintro e w1 ⟨rfl, hb1⟩
  have H1 : Hid (Below w.heap.size w w1) := hb1
  have HC1 : Hid (Calls Tryz.prog 34 #[.int .i64 D.q, .slice ao k ca] w1 fun e w' => e = .returned (.int .i64 0) ∧ Below w1.heap.size w1 w') := by
    have h := check_any (cap := ca) HF.out.1 (w := w1) (z := fun j => ((a j : Nat) : Int)) (show SlZ ao k (fun j => ((a j : Nat) : Int)) w1 from HF.out.2.2.2.2.2.2.1.below hb1 HF.out.2.2.2.2.2.2.2) (HF.out.2.2.2.2.2.2.2.mono hb1.size) (by omega)
    rw [chk_nat HF.out.2.2.2.2.2.1 (by omega)] at h; exact h
  clear hb1
  go_wp2_with fail
  refine HC1.out.mono ?_
  rintro e w2 ⟨rfl, hb2⟩
  have H2 : Hid (Below w.heap.size w w2) := bel_up' H1.out hb2
  clear hb2
  go_wp2_with fail
  refine (new_any HF.out.1 w2).mono ?_
  rintro e w3 ⟨F, T, g, rfl, hat, hF, hT, hb3⟩
  have H3 : Hid (FAt F T D g w3 ∧ Below w.heap.size w w3) := ⟨hat, bel_up' H2.out hb3⟩
  clear hat hF hT hb3
  go_wp2_with fail
  refine (rvalues_any HF.out.1 H3.out.1 (by omega) hn HF.out.2.2.2.2.2.1 HF.out.2.1 (HF.out.2.2.2.2.2.2.1.below H3.out.2 HF.out.2.2.2.2.2.2.2) (HF.out.2.2.2.1.below H3.out.2 HF.out.2.2.2.2.1) (HF.out.2.2.2.2.2.2.2.mono H3.out.2.size) (HF.out.2.2.2.2.1.mono H3.out.2.size)).mono ?_
  rintro e w4 ⟨rfl, hrow, hb4⟩
  have H4 : Hid (Row w3.heap.size n (fun i => D.ev a (xs i) k) w4 ∧ Below w.heap.size w w4) := ⟨hrow, bel_up' H3.out.2 hb4⟩
  clear hrow hb4
  go_wp2
  go_ret2
  exact ⟨_, rfl, H4.out.1, H4.out.2⟩
set_option maxHeartbeats 4000000 in
set_option maxRecDepth 100000 in
theorem apart_any {ao bo : Option Addr} {n ca cb : Nat} {a b : Nat → Nat} {w : World} (hA : Sl ao n a w) (hB : Sl bo n b w) (hn : n ≤ 1000) :
    Calls Tryz.prog 62 #[.slice ao n ca, .slice bo n cb] w fun e w' => e = .returned (.int .i64 (ct (fun i => !decide (a i = b i)) n : Nat)) ∧ w' = w := by
  have HF : Hid (Sl ao n a w ∧ Sl bo n b w) := ⟨hA, hB⟩
  clear hA hB
  go_enter Tryz.func62, Tryz.ntmps62
  go_wp2
  go_loopw [5, 15] (fun vm vi wr => ∃ (r m : Nat), r ≤ n ∧ m ≤ r ∧ vm = .int .i64 (m : Nat) ∧ vi = .int .i64 r ∧ Hid (m = ct (fun i => !decide (a i = b i)) r) ∧ wr = w) (fun _ vi _ => n - (intOf vi).toNat)
  case atStart => exact ⟨0, 0, by omega, by omega, rfl, rfl, rfl, rfl⟩
  case round =>
    obtain ⟨r, m, hr, hmr, rfl, rfl, HM, hw⟩ := hrel
    have hw := hw.symm
    subst hw
    by_cases hlt : r < n
    · have hib : (r : Int) < (n : Int) := by omega
      obtain ⟨ba, oa, hao, hca⟩ := HF.out.1 r hlt
      subst hao
      obtain ⟨bb, ob, hbo, hcb⟩ := HF.out.2 r hlt
      subst hbo
      obtain ⟨x, hx⟩ : ∃ x, x = a r := ⟨_, rfl⟩
      obtain ⟨y, hy⟩ : ∃ y, y = b r := ⟨_, rfl⟩
      rw [← hx] at hca
      rw [← hy] at hcb
      by_cases e : x = y
      · have hz : (((x : Nat) : Int) != ((y : Nat) : Int)) = false := by rw [e]; simp
        have HV : Hid (m = ct (fun i => !decide (a i = b i)) (r + 1)) := by
          show m = ct (fun i => !decide (a i = b i)) r + if (!decide (a r = b r)) = true then 1 else 0
          rw [← HM.out, decide_eq_true (by rw [← hx, ← hy]; exact e)]; rfl
        clear e hx hy
        go_wp2
        go_roundw
        case rel => exact ⟨r + 1, m, by omega, by omega, rfl, by go_num, HV.out, by first | rfl | trivial⟩
        case measure => simp [intOf]; omega
      · have hz : (((x : Nat) : Int) != ((y : Nat) : Int)) = true := by rw [bne_iff_ne]; omega
        have HV : Hid (m + 1 = ct (fun i => !decide (a i = b i)) (r + 1)) := by
          show m + 1 = ct (fun i => !decide (a i = b i)) r + if (!decide (a r = b r)) = true then 1 else 0
          rw [← HM.out, decide_eq_false (by rw [← hx, ← hy]; exact e)]; rfl
        clear e hx hy
        go_wp2
        go_roundw
        case rel => exact ⟨r + 1, m + 1, by omega, by omega, by go_num, by go_num, HV.out, by first | rfl | trivial⟩
        case measure => simp [intOf]; omega
    · have hib : ¬ (r : Int) < (n : Int) := by omega
      have hre : n = r := by omega
      subst hre
      go_wp2
      go_ret
      exact ⟨by rw [← HM.out]; rfl, rfl⟩
end Go.Proofs.YtnjbnamcedfjaaaGreat

/- TopApart: the walk of the statement, whatever raw numbers it is given. -/
namespace Go.Proofs.YtnjbnamcedfjaaaGreat
open Go.RowKit Go.Sort

theorem pick_in {m : Int} {k : Nat} (hk : 0 < k) : ∃ M : Nat, pick m (k : Int) = (M : Int) ∧ M < k := by
  have h1 := pick_lo m (k : Int) (by omega)
  have h2 := pick_hi m (k : Int) (by omega)
  exact ⟨(pick m (k : Int)).toNat, by omega, by omega⟩
end Go.Proofs.YtnjbnamcedfjaaaGreat

/- Places and a dimension: may they be? The program's Check, the reference's ReedMay, whatever they are given. -/
namespace Go.Proofs.YtnjbnamcedfjaaaGreat
open Go.RowKit Go.Sort

/-- What the first r places say: 0, 2 (no element), 7 (there twice). -/
def FD.pch (D : FD) (z : Nat → Int) : Nat → Int
  | 0 => 0
  | r + 1 => if D.pch z r ≠ 0 then D.pch z r else if D.has (z r) = true then (if z r ∈ zl r z then 7 else 0) else 2
theorem pch_stays {D : FD} {z : Nat → Int} {r : Nat} (h : D.pch z r ≠ 0) : ∀ k, D.pch z (r + k) = D.pch z r
  | 0 => rfl
  | k + 1 => by
    have ih := pch_stays h k
    show (if D.pch z (r + k) ≠ 0 then D.pch z (r + k) else _) = _
    rw [ih, if_pos h]
theorem pch_to {D : FD} {z : Nat → Int} {r n : Nat} (h : D.pch z r ≠ 0) (hn : r ≤ n) : D.pch z n = D.pch z r := by
  have := pch_stays h (n - r)
  rwa [show r + (n - r) = n from by omega] at this
def FD.rchk (D : FD) (n : Nat) (z : Nat → Int) (k : Int) : Int := if n < 1 ∨ 64 < n then 4 else if D.pch z n ≠ 0 then D.pch z n else if k < 1 ∨ (n : Int) < k then 6 else 0

set_option maxHeartbeats 8000000 in
set_option maxRecDepth 100000 in
theorem rcheck_any {D : FD} (hD : D ∈ fieldsL) {xo : Option Addr} {n cx : Nat} {z : Nat → Int} (k : Int) {w : World} (hX : Arg xo n cx z w) :
    Calls Tryz.prog 17 #[.int .i64 D.q, .slice xo n cx, .int .i64 k] w fun e w' => e = .returned (.int .i64 (D.rchk n z k)) ∧ Below w.heap.size w w' := by
  have HF : Hid (D ∈ fieldsL ∧ Arg xo n cx z w) := ⟨hD, hX⟩
  have hn6 := hX.few
  have hcn := hX.le
  clear hD hX
  go_enter Tryz.func17, Tryz.ntmps17
  go_wp2_with fail
  refine (new_any HF.out.1 w).mono ?_
  rintro e w1 ⟨F, T, g, rfl, hat, hF, hT, hb1⟩
  have HA : Hid (FAt F T D g w1 ∧ SlZ xo n z w1 ∧ Below w.heap.size w w1) := ⟨hat, HF.out.2.sl.below hb1 HF.out.2.lt, hb1⟩
  clear hat hF hT hb1
  by_cases h1 : n < 1
  · have HV : Hid (D.rchk n z k = 4) := by show D.rchk n z k = 4; unfold FD.rchk; rw [if_pos (Or.inl h1)]
    have hz1 : (n : Int) < 1 := by omega
    go_wp2
    go_ret
    exact ⟨ret_int (by rw [HV.out]), HA.out.2.2⟩
  · have hz1 : ¬ (n : Int) < 1 := by omega
    by_cases h64 : 64 < n
    · have HV : Hid (D.rchk n z k = 4) := by show D.rchk n z k = 4; unfold FD.rchk; rw [if_pos (Or.inr h64)]
      have hz2 : (64 : Int) < (n : Int) := by omega
      go_wp2
      go_ret
      exact ⟨ret_int (by rw [HV.out]), HA.out.2.2⟩
    · have hz2 : ¬ (64 : Int) < (n : Int) := by omega
      have HR : Hid (D.rchk n z k = if D.pch z n ≠ 0 then D.pch z n else if k < 1 ∨ (n : Int) < k then 6 else 0) := by show D.rchk n z k = _; unfold FD.rchk; rw [if_neg (by omega)]
      clear h1 h64
      go_wp2
      go_loopw [29] (fun i wr => ∃ r : Nat, r ≤ n ∧ i = .int .i64 r ∧ Hid (D.pch z r = 0) ∧ wr = w1) (fun i _ => n - (intOf i).toNat)
      case atStart => exact ⟨0, by omega, rfl, rfl, rfl⟩
      case round =>
        obtain ⟨r, hr, rfl, HP, hw⟩ := hrel
        have hw := hw.symm
        subst hw
        by_cases hlt : r < n
        · have hib : (r : Int) < (n : Int) := by omega
          obtain ⟨bx, ox, hxo, hcx⟩ := HA.out.2.1 r hlt
          subst hxo
          obtain ⟨x, hx⟩ : ∃ x, x = z r := ⟨_, rfl⟩
          rw [← hx] at hcx
          have hcap : (r : Int) ≤ (cx : Int) := by omega
          obtain ⟨hb0, hh0⟩ : ∃ hb0, hb0 = D.has x := ⟨_, rfl⟩
          obtain ⟨hb1, hh1⟩ : ∃ hb1, hb1 = decide (x ∈ zl r z) := ⟨_, rfl⟩
          have HC1 : Hid (Calls Tryz.prog 28 #[.pointer (some ⟨F, 0, none⟩), .int .i64 x] w1 fun e w' => e = .returned (.bool hb0) ∧ w' = w1) := by
            rw [hh0]; exact has_any HA.out.1 x
          have HC2 : Hid (Calls Tryz.prog 29 #[.slice (some ⟨bx, ox, none⟩) r cx, .int .i64 x] w1 fun e w' => e = .returned (.bool hb1) ∧ w' = w1) := by
            rw [hh1]; exact contains_any x (fun j hj => HA.out.2.1 j (by omega)) (by omega)
          have HN : Hid (D.pch z (r + 1) = if hb0 = true then (if hb1 = true then 7 else 0) else 2) := by
            show (if D.pch z r ≠ 0 then D.pch z r else if D.has (z r) = true then (if z r ∈ zl r z then 7 else 0) else 2) = _
            rw [if_neg (fun h => h HP.out), hh0, hh1, ← hx]
            by_cases e : x ∈ zl r z
            · rw [if_pos e, decide_eq_true e]; simp
            · rw [if_neg e, decide_eq_false e]; simp
          clear hx hh0 hh1
          cases hb0 with
          | false =>
            have HV : Hid (D.rchk n z k = 2) := by
              have h2 : D.pch z (r + 1) = 2 := HN.out
              show _ = _
              rw [HR.out, pch_to (r := r + 1) (by rw [h2]; omega) (by omega), h2]; rfl
            go_wp2_with fail
            refine HC1.out.mono ?_
            rintro e w' ⟨rfl, hw⟩
            have hw := hw.symm
            subst hw
            go_wp2
            go_ret
            exact ⟨ret_int (by rw [HV.out]), HA.out.2.2⟩
          | true =>
            cases hb1 with
            | true =>
              have HV : Hid (D.rchk n z k = 7) := by
                have h2 : D.pch z (r + 1) = 7 := HN.out
                show _ = _
                rw [HR.out, pch_to (r := r + 1) (by rw [h2]; omega) (by omega), h2]; rfl
              go_wp2_with fail
              refine HC1.out.mono ?_
              rintro e w' ⟨rfl, hw⟩
              have hw := hw.symm
              subst hw
              go_wp2_with fail
              refine HC2.out.mono ?_
              rintro e w' ⟨rfl, hw⟩
              have hw := hw.symm
              subst hw
              go_wp2
              go_ret
              exact ⟨ret_int (by rw [HV.out]), HA.out.2.2⟩
            | false =>
              go_wp2_with fail
              refine HC1.out.mono ?_
              rintro e w' ⟨rfl, hw⟩
              have hw := hw.symm
              subst hw
              go_wp2_with fail
              refine HC2.out.mono ?_
              rintro e w' ⟨rfl, hw⟩
              have hw := hw.symm
              subst hw
              go_wp2
              go_roundw
              case rel => exact ⟨r + 1, by omega, by go_num, HN.out, by first | rfl | trivial⟩
              case measure => simp [intOf]; omega
        · have hib : ¬ (r : Int) < (n : Int) := by omega
          have hre : n = r := by omega
          subst hre
          by_cases hk1 : k < 1
          · have HV : Hid (D.rchk n z k = 6) := by show _ = _; rw [HR.out, if_neg (fun h => h HP.out), if_pos (Or.inl hk1)]
            go_wp2
            go_ret
            exact ⟨ret_int (by rw [HV.out]), HA.out.2.2⟩
          · by_cases hk2 : (n : Int) < k
            · have HV : Hid (D.rchk n z k = 6) := by show _ = _; rw [HR.out, if_neg (fun h => h HP.out), if_pos (Or.inr hk2)]
              go_wp2
              go_ret
              exact ⟨ret_int (by rw [HV.out]), HA.out.2.2⟩
            · have HV : Hid (D.rchk n z k = 0) := by show _ = _; rw [HR.out, if_neg (fun h => h HP.out), if_neg (by omega)]
              go_wp2
              go_ret
              exact ⟨ret_int (by rw [HV.out]), HA.out.2.2⟩
end Go.Proofs.YtnjbnamcedfjaaaGreat

/- The reference's ReedMay, whatever it is given. -/
namespace Go.Proofs.YtnjbnamcedfjaaaGreat
open Go.RowKit Go.Sort

set_option maxHeartbeats 8000000 in
set_option maxRecDepth 100000 in
theorem reedMay_any {D : FD} (hD : D ∈ fieldsL) {xo : Option Addr} {n cx : Nat} {z : Nat → Int} (k : Int) {w : World} (hX : Arg xo n cx z w) :
    Calls Tryz.prog 18 #[.int .i64 D.q, .slice xo n cx, .int .i64 k] w fun e w' => e = .returned (.int .i64 (D.rchk n z k)) ∧ Below w.heap.size w w' := by
  have HF : Hid (D ∈ fieldsL ∧ Arg xo n cx z w) := ⟨hD, hX⟩
  have hn6 := hX.few
  have hcn := hX.le
  clear hD hX
  go_enter Tryz.func18, Tryz.ntmps18
  go_wp2_with fail
  refine (rfield_sl HF.out.1 w).mono ?_
  rintro e w1 ⟨gm, cm, rfl, hmod, hb1⟩
  unfold rf
  obtain ⟨wa, hwa⟩ : ∃ wa, wa = w1.alloc (.cells #[.int .i64 D.q, .int .i64 D.p, .int .i64 D.m, .int .i64 D.gen, .slice (some ⟨gm, 0, none⟩) (D.m + 1) cm] 28) := ⟨_, rfl⟩
  have HA : Hid (Box w1.heap.size D D.gen (.slice (some ⟨gm, 0, none⟩) (D.m + 1) cm) wa ∧ wa.heap.size = w1.heap.size + 1 ∧ Below w.heap.size w wa) := by
    have hb : Below w1.heap.size w1 wa := by rw [hwa]; exact (Below.refl _ _).alloc (Nat.le_refl _) _
    exact ⟨by rw [hwa]; exact box_new D D.gen _ w1, by rw [hwa]; simp, bel_up' hb1 hb⟩
  clear hmod hb1
  by_cases h1 : n < 1
  · have HV : Hid (D.rchk n z k = 4) := by show D.rchk n z k = 4; unfold FD.rchk; rw [if_pos (Or.inl h1)]
    have hz1 : (n : Int) < 1 := by omega
    go_wp2
    go_ret
    rw [← hwa]
    exact ⟨ret_int (by rw [HV.out]), HA.out.2.2⟩
  · have hz1 : ¬ (n : Int) < 1 := by omega
    by_cases h64 : 64 < n
    · have HV : Hid (D.rchk n z k = 4) := by show D.rchk n z k = 4; unfold FD.rchk; rw [if_pos (Or.inr h64)]
      have hz2 : (64 : Int) < (n : Int) := by omega
      go_wp2
      go_ret
      rw [← hwa]
      exact ⟨ret_int (by rw [HV.out]), HA.out.2.2⟩
    · have hz2 : ¬ (64 : Int) < (n : Int) := by omega
      have HR : Hid (D.rchk n z k = if D.pch z n ≠ 0 then D.pch z n else if k < 1 ∨ (n : Int) < k then 6 else 0) := by show D.rchk n z k = _; unfold FD.rchk; rw [if_neg (by omega)]
      clear h1 h64
      go_wp2
      rw [← hwa]
      clear hwa
      go_loopw [9] (fun i wr => ∃ r : Nat, r ≤ n ∧ i = .int .i64 r ∧ Hid (D.pch z r = 0 ∧ Below wa.heap.size wa wr)) (fun i _ => n - (intOf i).toNat)
      case atStart => exact ⟨0, by omega, rfl, rfl, Below.refl _ _⟩
      case round =>
        obtain ⟨r, hr, rfl, HP⟩ := hrel
        rename World => wr
        by_cases hlt : r < n
        · have hib : (r : Int) < (n : Int) := by omega
          have hib0 : (0 : Int) ≤ (r : Int) := by omega
          have hArg := HF.out.2.below (bel_up' HA.out.2.2 HP.out.2)
          obtain ⟨bx, ox, hxo, hcx⟩ := hArg.sl r hlt
          subst hxo
          obtain ⟨x, hx⟩ : ∃ x, x = z r := ⟨_, rfl⟩
          rw [← hx] at hcx
          have hcap : (r : Int) ≤ (cx : Int) := by omega
          obtain ⟨hb0, hh0⟩ : ∃ hb0, hb0 = D.has x := ⟨_, rfl⟩
          obtain ⟨hb1, hh1⟩ : ∃ hb1, hb1 = decide (x ∈ zl r z) := ⟨_, rfl⟩
          have HC1 : Hid (∀ d os, Calls Tryz.prog 30 #[.agg #[.int .i64 D.q, .int .i64 D.p, .int .i64 D.m, .int .i64 D.gen, .slice (some ⟨gm, 0, none⟩) (D.m + 1) cm], .int .i64 x] (grow (redrawn wr d) os) fun e w'' => e = .returned (.bool hb0) ∧ ∃ p : Regrown, w'' = grow (redrawn wr p.d) p.os) := fun d os => by
            rw [hh0]
            exact Calls.regrown_of (rhas_any D D.gen _ x _)
          have HC2 : Hid (∀ w3, Below wr.heap.size wr w3 → ∀ d, Calls Tryz.prog 31 #[.int .i64 x, .slice (some ⟨bx, ox, none⟩) r cx] (w3.drewN d) fun e w' => e = .returned (.bool hb1) ∧ ∃ k, w' = (w3.drewN d).drewN k) := fun w3 h3 d => by
            rw [hh1]
            exact in_any x (arg_sliceI ((hArg.below h3).drewN d) (by omega))
          have HN : Hid (D.pch z (r + 1) = if hb0 = true then (if hb1 = true then 7 else 0) else 2) := by
            show (if D.pch z r ≠ 0 then D.pch z r else if D.has (z r) = true then (if z r ∈ zl r z then 7 else 0) else 2) = _
            rw [if_neg (fun h => h HP.out.1), hh0, hh1, ← hx]
            by_cases e : x ∈ zl r z
            · rw [if_pos e, decide_eq_true e]; simp
            · rw [if_neg e, decide_eq_false e]; simp
          have hbx := HA.out.1.below (B := wa.heap.size) HP.out.2 (by have := HA.out.2.1; omega)
          have k0 := cell_regrown hbx.c0
          have k1 := cell_regrown hbx.c1
          have k2 := cell_regrown hbx.c2
          have k3 := cell_regrown hbx.c3
          have k4 := cell_regrown hbx.c4
          have k5 := cell_regrown hcx
          have HB2 : Hid (Below w.heap.size w wr ∧ Below wa.heap.size wa wr) := ⟨bel_up' HA.out.2.2 HP.out.2, HP.out.2⟩
          have HCx : Hid (∀ w3, Below wr.heap.size wr w3 → w3.cell? ⟨bx, ox + r, none⟩ = some (.int .i64 x)) := fun w3 h3 => ((bcell h3).1 _ _ (cell_lt hcx)).trans hcx
          clear hx hh0 hh1 hArg hbx hcx
          go_wp2
          refine wp_region_quiet_below (by kernel_rfl) (by kernel_rfl) ?_
          repeat (go_big_quiet_step (first | (go_at_call 30; exact HC1.out _ _)))
          refine wpQuiet_nil ?_
          intro _ hw'
          obtain ⟨⟨dr, osr⟩, hw''⟩ := hw'
          subst hw''
          obtain ⟨w3, hw3⟩ : ∃ w3, w3 = grow (redrawn wr dr) osr := ⟨_, rfl⟩
          have H3 : Hid (Below wr.heap.size wr w3 ∧ Below w.heap.size w w3 ∧ Below wa.heap.size wa w3) := by
            have h : Below wr.heap.size wr w3 := by rw [hw3]; exact below_regrown wr dr osr
            exact ⟨h, bel_up' HB2.out.1 h, bel_up' HB2.out.2 h⟩
          rw [← hw3]
          clear hw3 k0 k1 k2 k3 k4 k5 HC1
          have hcx := HCx.out w3 H3.out.1
          have HC3 : Hid (∀ d, Calls Tryz.prog 31 #[.int .i64 x, .slice (some ⟨bx, ox, none⟩) r cx] (w3.drewN d) fun e w' => e = .returned (.bool hb1) ∧ ∃ k, w' = (w3.drewN d).drewN k) := HC2.out w3 H3.out.1
          clear HC2
          cases hb0 with
          | false =>
            have HV : Hid (D.rchk n z k = 2) := by
              have h2 : D.pch z (r + 1) = 2 := HN.out
              show _ = _
              rw [HR.out, pch_to (r := r + 1) (by rw [h2]; omega) (by omega), h2]; rfl
            go_wp2
            go_ret
            exact ⟨ret_int (by rw [HV.out]), H3.out.2.1⟩
          | true =>
            cases hb1 with
            | true =>
              have HV : Hid (D.rchk n z k = 7) := by
                have h2 : D.pch z (r + 1) = 7 := HN.out
                show _ = _
                rw [HR.out, pch_to (r := r + 1) (by rw [h2]; omega) (by omega), h2]; rfl
              go_wp2
              go_quiet ((go_at_call 31; exact Calls.quiet_of (HC3.out _)))
              go_wp2
              go_ret
              exact ⟨ret_int (by rw [HV.out]), below_drewN2 H3.out.2.1 _⟩
            | false =>
              go_wp2
              go_quiet ((go_at_call 31; exact Calls.quiet_of (HC3.out _)))
              go_wp2
              go_roundw
              case rel => exact ⟨r + 1, by omega, by go_num, HN.out, below_drewN2 H3.out.2.2 _⟩
              case measure => simp [intOf]; omega
        · have hib : ¬ (r : Int) < (n : Int) := by omega
          have hre : n = r := by omega
          subst hre
          have H3 : Hid (Below w.heap.size w wr) := bel_up' HA.out.2.2 HP.out.2
          by_cases hk1 : k < 1
          · have HV : Hid (D.rchk n z k = 6) := by show _ = _; rw [HR.out, if_neg (fun h => h HP.out.1), if_pos (Or.inl hk1)]
            go_wp2
            go_ret
            exact ⟨ret_int (by rw [HV.out]), H3.out⟩
          · by_cases hk2 : (n : Int) < k
            · have HV : Hid (D.rchk n z k = 6) := by show _ = _; rw [HR.out, if_neg (fun h => h HP.out.1), if_pos (Or.inr hk2)]
              go_wp2
              go_ret
              exact ⟨ret_int (by rw [HV.out]), H3.out⟩
            · have HV : Hid (D.rchk n z k = 0) := by show _ = _; rw [HR.out, if_neg (fun h => h HP.out.1), if_neg (by omega)]
              go_wp2
              go_ret
              exact ⟨ret_int (by rw [HV.out]), H3.out⟩
end Go.Proofs.YtnjbnamcedfjaaaGreat
