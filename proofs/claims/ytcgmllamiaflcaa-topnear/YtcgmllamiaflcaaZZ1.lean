/- Texts of ours, one behind the other: Z1 E5. -/
import Derived.Test.YtcgmllamiaflcaaZS11
import Derived.Test.YtcgmllamiaflcaaZH2
import Derived.Test.YtcgmllamiaflcaaZX17
import Derived.Test.YtcgmllamiaflcaaZL10
/- The program's words (reed): values, Check and Encode where all may be. -/
namespace Go.Proofs.Ytcgmllamiaflcaa
open Go.RowKit Go.Sort

set_option maxHeartbeats 8000000 in
set_option maxRecDepth 100000 in
theorem rvalues_any {F T : Nat} {D : FD} (hD : D ∈ fieldsL) {g : Nat → Value} {w : World} (hat : FAt F T D g w) {ao xo : Option Addr} {k n ca cx : Nat} {a xs : Nat → Nat} (hk : k ≤ 128) (hn : n ≤ 64) (ha : El D a) (hx : ∀ i, i < n → xs i < D.q) (hA : Sl ao k a w) (hX : Sl xo n xs w) (hla : LtB ao w.heap.size) (hlx : LtB xo w.heap.size) :
    Calls Try.prog 32 #[.pointer (some ⟨F, 0, none⟩), .slice ao k ca, .slice xo n cx] w fun e w' =>
      e = .returned (.slice (some ⟨w.heap.size, 0, none⟩) n n) ∧ Row w.heap.size n (fun i => D.ev a (xs i) k) w' ∧ Below w.heap.size w w' := by
  have HF : Hid (FAt F T D g w ∧ D ∈ fieldsL ∧ Sl ao k a w ∧ Sl xo n xs w ∧ El D a ∧ (∀ i, i < n → xs i < D.q) ∧ LtB ao w.heap.size ∧ LtB xo w.heap.size) := ⟨hat, hD, hA, hX, ha, hx, hla, hlx⟩
  clear hat hD hA hX ha hx hla hlx
  go_enter Try.func32, Try.ntmps32
  go_wp2_with (at_make; refine make_int rfl _ _ rfl _ n rfl rfl (by omega) (by omega) ?_; intro w1 hown1 hgrow1)
  have HB1 : Hid (Below w.heap.size w w1 ∧ Row w.heap.size n pnil w1) := ⟨below_grown hgrow1 (Nat.le_refl _) (fun k hk => by simp at hk), row_zeros hown1⟩
  clear hown1 hgrow1
  obtain ⟨gr, hg⟩ : ∃ g, g = w.heap.size := ⟨_, rfl⟩
  have HB2 : Hid (Below w.heap.size w w1 ∧ Row gr n pnil w1 ∧ gr = w.heap.size) := by rw [hg]; exact ⟨HB1.out.1, HB1.out.2, rfl⟩
  rw [← hg]
  have hgD : w.heap.size ≤ gr := by omega
  clear HB1 hg
  go_loopw [16] (fun i wr => ∃ r : Nat, r ≤ n ∧ i = .int .i64 r ∧ Hid (Row gr n (fun j => if j < r then D.ev a (xs j) k else 0) wr ∧ Below w.heap.size w wr)) (fun i _ => n - (intOf i).toNat)
  case atStart => exact ⟨0, by omega, rfl, HB2.out.2.1.congr (fun j _ => by rw [if_neg (by omega)]; rfl), HB2.out.1⟩
  case round =>
    obtain ⟨r, hr, rfl, HG⟩ := hrel
    rename World => wA
    by_cases hlt : r < n
    · have hib : (r : Int) < (n : Int) := by omega
      obtain ⟨bx, ox, hxo, hcx⟩ := (HF.out.2.2.2.1.below HG.out.2 HF.out.2.2.2.2.2.2.2) r hlt
      subst hxo
      obtain ⟨x, hx⟩ : ∃ x, x = xs r := ⟨_, rfl⟩
      rw [← hx] at hcx
      have hxq : x < D.q := by rw [hx]; exact HF.out.2.2.2.2.2.1 r hlt
      have HX : Hid (x = xs r ∧ x < D.q) := ⟨hx, hxq⟩
      clear hx hxq
      go_wp2
      go_loopw [10] (fun vi wr => ∃ t : Nat, t ≤ k ∧ vi = .int .i64 ((t : Int) - 1) ∧ Hid (Row gr n (fun j => if j < r then D.ev a (xs j) k else if j = r then D.val a k x (k - t) else 0) wr ∧ Below w.heap.size w wr)) (fun vi _ => (intOf vi + 1).toNat)
      case atStart => exact ⟨k, Nat.le_refl _, by first | rfl | go_num, HG.out.1.congr (fun j _ => by
        by_cases e : j < r
        · rw [if_pos e, if_pos e]
        · rw [if_neg e, if_neg e]
          split
          · rw [Nat.sub_self]; rfl
          · rfl), HG.out.2⟩
      case round =>
        obtain ⟨t, ht, hvi, HK⟩ := hrel
        rename World => wr
        cases t with
        | succ s =>
          have hi' : u10 = .int .i64 (s : Int) := by rw [hvi]; go_num
          clear hvi
          subst hi'
          obtain ⟨y, hy⟩ : ∃ y, y = D.val a k x (k - (s + 1)) := ⟨_, rfl⟩
          have hyq : y < D.q := by rw [hy]; exact val_lt HF.out.2.1 a k x HF.out.2.2.2.2.1 _
          have hco : wr.cell? ⟨gr, r, none⟩ = some (.int .i64 (y : Nat)) := by
            have h := HK.out.1.cell r hlt
            rw [if_neg (by omega), if_pos rfl, ← hy] at h; exact h
          have hfo := HK.out.1.free r
          obtain ⟨ba, oa, hao, hca⟩ := (HF.out.2.2.1.below HK.out.2 HF.out.2.2.2.2.2.2.1) s (by omega)
          subst hao
          obtain ⟨ax, hax⟩ : ∃ ax, ax = a s := ⟨_, rfl⟩
          rw [← hax] at hca
          obtain ⟨p, hp⟩ : ∃ p, p = D.mul y x := ⟨_, rfl⟩
          obtain ⟨u, hu⟩ : ∃ u, u = sumD D.p D.q p ax := ⟨_, rfl⟩
          have F' := fld HF.out.2.1
          have hatr := HF.out.1.below HK.out.2 HF.out.1.ltF HF.out.1.ltT
          have HC1 : Hid (∀ d, Calls Try.prog 20 #[.pointer (some ⟨F, 0, none⟩), .int .i64 (y : Nat), .int .i64 (x : Nat)] (wr.drewN d) fun e w' => e = .returned (.int .i64 (p : Nat)) ∧ ∃ k, w' = (wr.drewN d).drewN k) := fun d => by
            rw [hp]; exact mul_nat HF.out.2.1 (hatr.drewN d) hyq HX.out.2
          have HC2 : Hid (∀ d, Calls Try.prog 19 #[.pointer (some ⟨F, 0, none⟩), .int .i64 (p : Nat), .int .i64 (ax : Nat)] (wr.drewN d) fun e w' => e = .returned (.int .i64 (u : Nat)) ∧ ∃ k, w' = (wr.drewN d).drewN k) := fun d => by
            rw [hu]; exact add_nat HF.out.2.1 (hatr.drewN d) (by rw [hp]; exact F'.mul_lt _ _) (by rw [hax]; exact HF.out.2.2.2.2.1 s)
          have HY : D.val a k x (k - s) = u := by
            rw [hu, hp, hy, hax, show k - s = (k - (s + 1)) + 1 from by omega, FD.val, show k - 1 - (k - (s + 1)) = s from by omega]
          have HV : Hid (∀ j, j < n → (if j < r then D.ev a (xs j) k else if j = r then D.val a k x (k - s) else 0) = if j = r then u else if j < r then D.ev a (xs j) k else if j = r then D.val a k x (k - (s + 1)) else 0) := fun j _ => by
            by_cases e : j = r
            · rw [if_pos e, if_neg (by omega), if_pos e, HY]
            · rw [if_neg e, if_neg e, if_neg e]
          have hsb : (s : Int) < (k : Int) := by omega
          clear hax hp hu hy HY F' hatr
          go_wp2
          refine quiet_tail 16 (by kernel_rfl) (by kernel_rfl) ?_
          simp only [List.take_succ_cons, List.take_zero, List.drop_succ_cons, List.drop_zero]
          repeat (go_big_quiet_step (first | (go_at_call 20; exact Calls.quiet_of (HC1.out _)) | (go_at_call 19; exact Calls.quiet_of (HC2.out _)) | fail))
          refine wpQuiet_nil ?_
          intro _ hw'
          obtain ⟨nq, hw''⟩ := hw'
          subst hw''
          go_wp2
          go_roundw
          case rel => exact ⟨s, by omega, by go_num, (HK.out.1.drewN nq).store r u HV.out, (below_drewN2 HK.out.2 nq).setCell hgD _⟩
          case measure => simp [intOf]
        | zero =>
          have hi' : u10 = .int .i64 (-1) := by rw [hvi]; rfl
          clear hvi
          subst hi'
          have HE : Hid (Row gr n (fun j => if j < r + 1 then D.ev a (xs j) k else 0) wr ∧ Below w.heap.size w wr) := by
            refine ⟨HK.out.1.congr (fun j _ => ?_), HK.out.2⟩
            by_cases e : j < r
            · rw [if_pos e, if_pos (by omega)]
            · rw [if_neg e]
              by_cases e2 : j = r
              · rw [if_pos e2, if_pos (by omega), e2, Nat.sub_zero, val_is (fld HF.out.2.1) x k HF.out.2.2.2.2.1 HX.out.2, HX.out.1]
              · rw [if_neg e2, if_neg (by omega)]
          go_wp2
          go_roundw
          case rel => exact ⟨r + 1, by omega, by go_num, HE.out⟩
          case measure => simp [intOf]; omega
    · have hib : ¬ (r : Int) < (n : Int) := by omega
      have HE : Hid (Row gr n (fun j => D.ev a (xs j) k) wA) := HG.out.1.congr (fun j hj => by rw [if_pos (by omega)])
      go_wp2
      go_ret
      exact ⟨by rw [← HB2.out.2.2]; rfl, by rw [← HB2.out.2.2]; exact HE.out, HG.out.2⟩

set_option maxHeartbeats 8000000 in
set_option maxRecDepth 100000 in
theorem rcheck_ok {D : FD} (hD : D ∈ fieldsL) {xo : Option Addr} {n cx k : Nat} {xs : Nat → Nat} {w : World} (hn1 : 1 ≤ n) (hn : n ≤ 64) (hcn : n ≤ cx) (hx : ∀ i, i < n → xs i < D.q) (hne : ∀ i j, i < n → j < n → i ≠ j → xs i ≠ xs j) (hX : Sl xo n xs w) (hlx : LtB xo w.heap.size) (hk1 : 1 ≤ k) (hk : k ≤ n) :
    Calls Try.prog 29 #[.int .i64 D.q, .slice xo n cx, .int .i64 (k : Nat)] w fun e w' => e = .returned (.int .i64 0) ∧ Below w.heap.size w w' := by
  have HF : Hid (D ∈ fieldsL ∧ (∀ i, i < n → xs i < D.q) ∧ (∀ i j, i < n → j < n → i ≠ j → xs i ≠ xs j) ∧ Sl xo n xs w ∧ LtB xo w.heap.size) := ⟨hD, hx, hne, hX, hlx⟩
  have hz1 : ¬ (n : Int) < 1 := by omega
  have hz2 : ¬ (64 : Int) < (n : Int) := by omega
  have hz3 : ¬ (k : Int) < 1 := by omega
  have hz4 : ¬ (n : Int) < (k : Int) := by omega
  clear hD hx hne hX hlx
  go_enter Try.func29, Try.ntmps29
  go_wp2_with fail
  refine (new_any HF.out.1 w).mono ?_
  rintro e w1 ⟨F, T, g, rfl, hat, hF, hT, hb1⟩
  have HA : Hid (FAt F T D g w1 ∧ Sl xo n xs w1 ∧ Below w.heap.size w w1) := ⟨hat, HF.out.2.2.2.1.below hb1 HF.out.2.2.2.2, hb1⟩
  clear hat hF hT hb1
  go_wp2
  go_loopw [29] (fun i wr => ∃ r : Nat, r ≤ n ∧ i = .int .i64 r ∧ wr = w1) (fun i _ => n - (intOf i).toNat)
  case atStart => exact ⟨0, by omega, rfl, rfl⟩
  case round =>
    obtain ⟨r, hr, rfl, hw⟩ := hrel
    have hw := hw.symm
    subst hw
    by_cases hlt : r < n
    · have hib : (r : Int) < (n : Int) := by omega
      obtain ⟨bx, ox, hxo, hcx⟩ := HA.out.2.1 r hlt
      subst hxo
      obtain ⟨x, hx⟩ : ∃ x, x = xs r := ⟨_, rfl⟩
      rw [← hx] at hcx
      have hcap : (r : Int) ≤ (cx : Int) := by omega
      have HC1 : Hid (Calls Try.prog 37 #[.pointer (some ⟨F, 0, none⟩), .int .i64 (x : Nat)] w1 fun e w' => e = .returned (.bool true) ∧ w' = w1) := by
        have h := has_any HA.out.1 (x : Int)
        rw [has_of_lt (by rw [hx]; exact HF.out.2.1 r hlt)] at h; exact h
      have HC2 : Hid (Calls Try.prog 52 #[.slice (some ⟨bx, ox, none⟩) r cx, .int .i64 (x : Nat)] w1 fun e w' => e = .returned (.bool false) ∧ w' = w1) := by
        have h := contains_any (ca := cx) (w := w1) (z := fun j => ((xs j : Nat) : Int)) (x : Int) (show SlZ (some ⟨bx, ox, none⟩) r (fun j => ((xs j : Nat) : Int)) w1 from HA.out.2.1.less (by omega)) (by omega)
        rw [decide_eq_false (fun hm => by
          unfold zl at hm
          obtain ⟨j, hj, e⟩ := List.mem_map.1 hm
          have hj := List.mem_range.1 hj
          exact HF.out.2.2.1 j r (by omega) hlt (by omega) (by rw [← hx]; omega))] at h
        exact h
      clear hx
      go_wp2_with fail
      refine HC1.out.mono ?_
      rintro e w' ⟨rfl, hw⟩
      have hw := hw.symm
      subst hw
      go_wp2_with fail
      refine HC2.out.mono ?_
      rintro e w' ⟨rfl, hw⟩
      have hw := hw.symm
      subst hw
      go_wp2
      go_roundw
      case rel => exact ⟨r + 1, by omega, by go_num, by first | rfl | trivial⟩
      case measure => simp [intOf]; omega
    · have hib : ¬ (r : Int) < (n : Int) := by omega
      go_wp2
      go_ret
      exact ⟨rfl, HA.out.2.2⟩
set_option maxHeartbeats 4000000 in
set_option maxRecDepth 100000 in
theorem encode_ok {D : FD} (hD : D ∈ fieldsL) {xo ao : Option Addr} {n cx k ca : Nat} {xs a : Nat → Nat} {w : World} (hn1 : 1 ≤ n) (hn : n ≤ 64) (hcn : n ≤ cx) (hx : ∀ i, i < n → xs i < D.q) (hne : ∀ i j, i < n → j < n → i ≠ j → xs i ≠ xs j) (hX : Sl xo n xs w) (hlx : LtB xo w.heap.size) (hk1 : 1 ≤ k) (hk : k ≤ n) (ha : El D a) (hA : Sl ao k a w) (hla : LtB ao w.heap.size) :
    Calls Try.prog 11 #[.int .i64 D.q, .slice xo n cx, .slice ao k ca] w fun e w' => ∃ g, e = .returned (.tuple #[.slice (some ⟨g, 0, none⟩) n n, .int .i64 0]) ∧ Row g n (fun i => D.ev a (xs i) k) w' ∧ Below w.heap.size w w' := by
  have HF : Hid (D ∈ fieldsL ∧ (∀ i, i < n → xs i < D.q) ∧ (∀ i j, i < n → j < n → i ≠ j → xs i ≠ xs j) ∧ Sl xo n xs w ∧ LtB xo w.heap.size ∧ El D a ∧ Sl ao k a w ∧ LtB ao w.heap.size) := ⟨hD, hx, hne, hX, hlx, ha, hA, hla⟩
  have HC0 : Hid (Calls Try.prog 29 #[.int .i64 D.q, .slice xo n cx, .int .i64 (k : Nat)] w fun e w' => e = .returned (.int .i64 0) ∧ Below w.heap.size w w') := rcheck_ok hD hn1 hn hcn hx hne hX hlx hk1 hk
  clear hD hx hne hX hlx ha hA hla
  go_enter Try.func11, Try.ntmps11
  go_wp2_with fail
  refine HC0.out.mono ?_
  rintro e w1 ⟨rfl, hb1⟩
  have H1 : Hid (Below w.heap.size w w1) := hb1
  have HC1 : Hid (Calls Try.prog 30 #[.int .i64 D.q, .slice ao k ca] w1 fun e w' => e = .returned (.int .i64 0) ∧ Below w1.heap.size w1 w') := by
    have h := check_any (cap := ca) HF.out.1 (w := w1) (z := fun j => ((a j : Nat) : Int)) (show SlZ ao k (fun j => ((a j : Nat) : Int)) w1 from HF.out.2.2.2.2.2.2.1.below hb1 HF.out.2.2.2.2.2.2.2) (HF.out.2.2.2.2.2.2.2.mono hb1.size) (by omega)
    rw [chk_nat HF.out.2.2.2.2.2.1 (by omega)] at h; exact h
  clear hb1
  go_wp2_with fail
  refine HC1.out.mono ?_
  rintro e w2 ⟨rfl, hb2⟩
  have H2 : Hid (Below w.heap.size w w2) := bel_up' H1.out hb2
  clear hb2
  go_wp2_with fail
  refine (new_any HF.out.1 w2).mono ?_
  rintro e w3 ⟨F, T, g, rfl, hat, hF, hT, hb3⟩
  have H3 : Hid (FAt F T D g w3 ∧ Below w.heap.size w w3) := ⟨hat, bel_up' H2.out hb3⟩
  clear hat hF hT hb3
  go_wp2_with fail
  refine (rvalues_any HF.out.1 H3.out.1 (by omega) hn HF.out.2.2.2.2.2.1 HF.out.2.1 (HF.out.2.2.2.2.2.2.1.below H3.out.2 HF.out.2.2.2.2.2.2.2) (HF.out.2.2.2.1.below H3.out.2 HF.out.2.2.2.2.1) (HF.out.2.2.2.2.2.2.2.mono H3.out.2.size) (HF.out.2.2.2.2.1.mono H3.out.2.size)).mono ?_
  rintro e w4 ⟨rfl, hrow, hb4⟩
  have H4 : Hid (Row w3.heap.size n (fun i => D.ev a (xs i) k) w4 ∧ Below w.heap.size w w4) := ⟨hrow, bel_up' H3.out.2 hb4⟩
  clear hrow hb4
  go_wp2
  go_ret2
  exact ⟨_, rfl, H4.out.1, H4.out.2⟩
set_option maxHeartbeats 4000000 in
set_option maxRecDepth 100000 in
theorem apart_any {ao bo : Option Addr} {n ca cb : Nat} {a b : Nat → Nat} {w : World} (hA : Sl ao n a w) (hB : Sl bo n b w) (hn : n ≤ 1000) :
    Calls Try.prog 16 #[.slice ao n ca, .slice bo n cb] w fun e w' => e = .returned (.int .i64 (ct (fun i => !decide (a i = b i)) n : Nat)) ∧ w' = w := by
  have HF : Hid (Sl ao n a w ∧ Sl bo n b w) := ⟨hA, hB⟩
  clear hA hB
  go_enter Try.func16, Try.ntmps16
  go_wp2
  go_loopw [5, 15] (fun vm vi wr => ∃ (r m : Nat), r ≤ n ∧ m ≤ r ∧ vm = .int .i64 (m : Nat) ∧ vi = .int .i64 r ∧ Hid (m = ct (fun i => !decide (a i = b i)) r) ∧ wr = w) (fun _ vi _ => n - (intOf vi).toNat)
  case atStart => exact ⟨0, 0, by omega, by omega, rfl, rfl, rfl, rfl⟩
  case round =>
    obtain ⟨r, m, hr, hmr, rfl, rfl, HM, hw⟩ := hrel
    have hw := hw.symm
    subst hw
    by_cases hlt : r < n
    · have hib : (r : Int) < (n : Int) := by omega
      obtain ⟨ba, oa, hao, hca⟩ := HF.out.1 r hlt
      subst hao
      obtain ⟨bb, ob, hbo, hcb⟩ := HF.out.2 r hlt
      subst hbo
      obtain ⟨x, hx⟩ : ∃ x, x = a r := ⟨_, rfl⟩
      obtain ⟨y, hy⟩ : ∃ y, y = b r := ⟨_, rfl⟩
      rw [← hx] at hca
      rw [← hy] at hcb
      by_cases e : x = y
      · have hz : (((x : Nat) : Int) != ((y : Nat) : Int)) = false := by rw [e]; simp
        have HV : Hid (m = ct (fun i => !decide (a i = b i)) (r + 1)) := by
          show m = ct (fun i => !decide (a i = b i)) r + if (!decide (a r = b r)) = true then 1 else 0
          rw [← HM.out, decide_eq_true (by rw [← hx, ← hy]; exact e)]; rfl
        clear e hx hy
        go_wp2
        go_roundw
        case rel => exact ⟨r + 1, m, by omega, by omega, rfl, by go_num, HV.out, by first | rfl | trivial⟩
        case measure => simp [intOf]; omega
      · have hz : (((x : Nat) : Int) != ((y : Nat) : Int)) = true := by rw [bne_iff_ne]; omega
        have HV : Hid (m + 1 = ct (fun i => !decide (a i = b i)) (r + 1)) := by
          show m + 1 = ct (fun i => !decide (a i = b i)) r + if (!decide (a r = b r)) = true then 1 else 0
          rw [← HM.out, decide_eq_false (by rw [← hx, ← hy]; exact e)]; rfl
        clear e hx hy
        go_wp2
        go_roundw
        case rel => exact ⟨r + 1, m + 1, by omega, by omega, by go_num, by go_num, HV.out, by first | rfl | trivial⟩
        case measure => simp [intOf]; omega
    · have hib : ¬ (r : Int) < (n : Int) := by omega
      have hre : n = r := by omega
      subst hre
      go_wp2
      go_ret
      exact ⟨by rw [← HM.out]; rfl, rfl⟩
end Go.Proofs.Ytcgmllamiaflcaa

/- TopApart: the walk of the statement, whatever raw numbers it is given. -/
namespace Go.Proofs.Ytcgmllamiaflcaa
open Go.RowKit Go.Sort

theorem pick_in {m : Int} {k : Nat} (hk : 0 < k) : ∃ M : Nat, pick m (k : Int) = (M : Int) ∧ M < k := by
  have h1 := pick_lo m (k : Int) (by omega)
  have h2 := pick_hi m (k : Int) (by omega)
  exact ⟨(pick m (k : Int)).toNat, by omega, by omega⟩
theorem blw_zl' {q k : Nat} {y : Nat → Int} (h : Blw q k y) : zl k y = zl k fun j => ((zc k y j : Nat) : Int) :=
  zl_congr fun j hj => by
    have := (h j hj).1
    unfold zc
    rw [if_pos hj]; omega

end Go.Proofs.Ytcgmllamiaflcaa
