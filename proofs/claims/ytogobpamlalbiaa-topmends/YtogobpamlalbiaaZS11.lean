/- Texts of ours, one behind the other: S11 Z1 E5. -/
import Derived.Test.YtogobpamlalbiaaZH1
import Derived.Test.YtogobpamlalbiaaZN2
import Derived.Test.YtogobpamlalbiaaZX17
import Derived.Test.YtogobpamlalbiaaZL10
/- A polynomial that is not nought has fewer roots than coefficients; words of few coefficients are far apart. -/
namespace Go.Proofs.Ytogobpamlalbiaa
open Go.RowKit Go.Sort

/-- How many of the first n. -/
def ct (p : Nat → Bool) : Nat → Nat
  | 0 => 0
  | n + 1 => ct p n + if p n = true then 1 else 0
theorem ct_none {p : Nat → Bool} : ∀ n, (∀ i, i < n → p i = false) → ct p n = 0
  | 0, _ => rfl
  | n + 1, h => by
    show ct p n + (if p n = true then 1 else 0) = 0
    rw [ct_none n (fun i hi => h i (by omega)), h n (by omega)]; rfl
theorem ct_one1 {p p' : Nat → Bool} (i0 : Nat) : ∀ n, (∀ i, i < n → i ≠ i0 → p i = true → p' i = true) → ct p n ≤ ct p' n + if i0 < n then 1 else 0
  | 0, _ => by simp [ct]
  | n + 1, h => by
    show ct p n + (if p n = true then 1 else 0) ≤ ct p' n + (if p' n = true then 1 else 0) + if i0 < n + 1 then 1 else 0
    have ih := ct_one1 i0 n (fun i hi => h i (by omega))
    by_cases e : i0 = n
    · rw [if_neg (by omega)] at ih
      rw [if_pos (show i0 < n + 1 by omega)]
      split <;> split <;> omega
    · have h1 := h n (by omega) (fun x => e x.symm)
      by_cases hp : p n = true
      · rw [if_pos hp, if_pos (h1 hp)]
        by_cases hi : i0 < n
        · rw [if_pos hi] at ih; rw [if_pos (show i0 < n + 1 by omega)]; omega
        · rw [if_neg hi] at ih; split <;> omega
      · rw [if_neg hp]
        by_cases hi : i0 < n
        · rw [if_pos hi] at ih; rw [if_pos (show i0 < n + 1 by omega)]; omega
        · rw [if_neg hi] at ih; omega
theorem ct_not (p : Nat → Bool) : ∀ n, ct p n + ct (fun i => !p i) n = n
  | 0 => rfl
  | n + 1 => by
    show ct p n + (if p n = true then 1 else 0) + (ct (fun i => !p i) n + if (!p n) = true then 1 else 0) = n + 1
    have := ct_not p n
    cases p n <;> simp <;> omega
theorem ev_sub {D : FD} (F : Fld D) {a b : Nat → Nat} (x : Nat) (ha : El D a) (hb : El D b) : ∀ n, D.ev (psub D a b) x n = D.sb (D.ev a x n) (D.ev b x n)
  | 0 => (sb_self F (zero_lt' F)).symm
  | n + 1 => by
    show D.ad (D.ev (psub D a b) x n) (D.mul (D.sb (a n) (b n)) (D.xp x n)) = D.sb (D.ad (D.ev a x n) (D.mul (a n) (D.xp x n))) (D.ad (D.ev b x n) (D.mul (b n) (D.xp x n)))
    rw [ev_sub F x ha hb n, sb_mul F (ha n) (hb n)]
    have h1 := ev_lt F a x n
    have h2 := ev_lt F b x n
    have h3 := F.mul_lt (a n) (D.xp x n)
    have h4 := F.mul_lt (b n) (D.xp x n)
    unfold FD.sb
    rw [ng_ad F h2 h4, ad4 F h1 (ng_lt F h2) h3 (ng_lt F h4)]
/-- X - r. -/
def xmr (D : FD) (r : Nat) : Nat → Nat := fun j => if j = 0 then D.ng r else if j = 1 then 1 else 0
theorem xmr_el {D : FD} (F : Fld D) {r : Nat} (hr : r < D.q) : El D (xmr D r) := fun j => by
  unfold xmr
  split
  · exact ng_lt F hr
  · split
    · exact one_lt' F
    · exact zero_lt' F
theorem xmr_bd {D : FD} (r : Nat) : Bd 2 (xmr D r) := fun j hj => by
  unfold xmr
  rw [if_neg (by omega), if_neg (by omega)]
theorem xmr_ev {D : FD} (F : Fld D) {r x : Nat} (hr : r < D.q) (hx : x < D.q) : D.ev (xmr D r) x 2 = D.sb x r := by
  show D.ad (D.ad 0 (D.mul (D.ng r) 1)) (D.mul 1 (D.mul 1 x)) = D.ad x (D.ng r)
  rw [mul1 F (ng_lt F hr), omul F (F.mul_lt _ _), omul F hx, zero_ad F (ng_lt F hr), ad_comm F]
/-- A root goes out as a factor. -/
theorem root_out {D : FD} (F : Fld D) {d : Nat → Nat} {k r : Nat} (hd : El D d) (hb : Bd (k + 1) d) (hr : r < D.q) (h0 : D.ev d r (k + 1) = 0) : ∃ Q, El D Q ∧ Bd k Q ∧ d = pmul D k Q (xmr D r) := by
  have hi : D.mul (xmr D r 1) 1 = 1 := mul1 F (one_lt' F)
  have h1 := div_is F (b := xmr D r) (l := 1) (inv := 1) k hd
  have hR := divR_bd F (xmr_el F hr) (xmr_bd r) hi k hd hb
  obtain ⟨Q, hQ⟩ : ∃ Q, Q = divQ D (xmr D r) 1 1 k d := ⟨_, rfl⟩
  obtain ⟨R, hRe⟩ : ∃ R, R = divR D (xmr D r) 1 1 k d := ⟨_, rfl⟩
  rw [← hQ, ← hRe] at h1
  rw [← hRe] at hR
  have eQ : El D Q := by rw [hQ]; exact el_divQ F k d
  have bQ : Bd k Q := by rw [hQ]; exact divQ_bd k d
  have eR : El D R := by rw [hRe]; exact el_divR F k hd
  have h2 : D.ev d r (k + 2) = 0 := by rw [ev_from F r hb (by omega)]; exact h0
  rw [← h1, ev_add F r (el_mul F _ _ _) eR, ev_mul F r (xmr_bd r) (xmr_el F hr) k (k + 2) (Nat.le_refl _), xmr_ev F hr hr, sb_self F hr, mul0 F, zero_ad F (ev_lt F _ _ _), ev_from F r hR (by omega)] at h2
  have h3 : R 0 = 0 := by
    have h2 : D.ad 0 (D.mul (R 0) 1) = 0 := h2
    rw [zero_ad F (F.mul_lt _ _), mul1 F (eR 0)] at h2; exact h2
  have h4 : R = pnil := by
    funext j
    cases j with
    | zero => exact h3
    | succ j => exact hR _ (by omega)
  refine ⟨Q, eQ, bQ, ?_⟩
  rw [h4] at h1
  rw [← h1]
  funext j
  exact ad_zero F (el_mul F _ _ _ _)
theorem few_roots {D : FD} (F : Fld D) {xs : Nat → Nat} {n : Nat} (hx : ∀ i, i < n → xs i < D.q) (hne : ∀ i j, i < n → j < n → i ≠ j → xs i ≠ xs j) : ∀ k {d : Nat → Nat}, El D d → Bd k d → d ≠ pnil → ct (fun i => decide (D.ev d (xs i) k = 0)) n < k
  | 0, d, _, hb, h0 => absurd (bd_nil_of hb) h0
  | k + 1, d, hd, hb, h0 => by
    by_cases h : ∃ i, i < n ∧ D.ev d (xs i) (k + 1) = 0
    · obtain ⟨i0, hi0, hr⟩ := h
      obtain ⟨Q, eQ, bQ, hQ⟩ := root_out F hd hb (hx i0 hi0) hr
      have hQ0 : Q ≠ pnil := fun e => h0 (by
        rw [hQ, e]
        funext j
        have : ∀ m, pmul D m pnil (xmr D (xs i0)) j = 0 := fun m => by
          induction m with
          | zero => rfl
          | succ m ih =>
            show D.ad (pmul D m pnil (xmr D (xs i0)) j) (psh m (pscale D 0 (xmr D (xs i0))) j) = 0
            rw [ih]
            unfold psh pscale
            split
            · rw [zmul F, ad_zero F (zero_lt' F)]
            · rw [ad_zero F (zero_lt' F)]
        exact this k)
      have ih := few_roots F hx hne k eQ bQ hQ0
      have h1 := ct_one1 (p := fun i => decide (D.ev d (xs i) (k + 1) = 0)) (p' := fun i => decide (D.ev Q (xs i) k = 0)) i0 n (fun i hi hne' hp => by
        have hp : D.ev d (xs i) (k + 1) = 0 := of_decide_eq_true hp
        refine decide_eq_true ?_
        have h2 : D.ev d (xs i) (k + 2) = 0 := by rw [ev_from F _ hb (by omega)]; exact hp
        rw [hQ, ev_mul F _ (xmr_bd _) (xmr_el F (hx i0 hi0)) k (k + 2) (Nat.le_refl _), xmr_ev F (hx i0 hi0) (hx i hi)] at h2
        by_cases e : D.ev Q (xs i) k = 0
        · exact e
        · exfalso
          have h3 : D.sb (xs i) (xs i0) = 0 := mul_cancel F e (sb_lt F (hx i hi) (hx i0 hi0)) (zero_lt' F) (h2.trans (mul0 F _).symm)
          exact hne i i0 hi hi0 hne' (sb_eq_zero F (hx i hi) (hx i0 hi0) h3))
      rw [if_pos hi0] at h1
      omega
    · rw [ct_none n (fun i hi => decide_eq_false (fun e => h ⟨i, hi, e⟩))]
      omega
/-- Words of two messages of k numbers: apart at more than n - k places. -/
theorem far_apart {D : FD} (F : Fld D) {xs a b : Nat → Nat} {n k : Nat} (hx : ∀ i, i < n → xs i < D.q) (hne : ∀ i j, i < n → j < n → i ≠ j → xs i ≠ xs j) (ha : El D a) (hb : El D b) (hba : Bd k a) (hbb : Bd k b) (h : a ≠ b) : n < k + ct (fun i => !decide (D.ev a (xs i) k = D.ev b (xs i) k)) n := by
  have h1 := few_roots F hx hne k (el_sub F ha hb) (fun j hj => by show D.sb (a j) (b j) = 0; rw [hba j hj, hbb j hj, sb_self F (zero_lt' F)]) (fun e => h (by
    funext j
    exact sb_eq_zero F (ha j) (hb j) (congrFun e j)))
  have h2 := ct_not (fun i => decide (D.ev a (xs i) k = D.ev b (xs i) k)) n
  have e : (fun i => decide (D.ev (psub D a b) (xs i) k = 0)) = fun i => decide (D.ev a (xs i) k = D.ev b (xs i) k) := by
    funext i
    rw [ev_sub F _ ha hb]
    refine decide_eq_decide.2 ⟨fun e => sb_eq_zero F (ev_lt F _ _ _) (ev_lt F _ _ _) e, fun e => by rw [e, sb_self F (ev_lt F _ _ _)]⟩
  rw [e] at h1
  omega
end Go.Proofs.Ytogobpamlalbiaa

/- The program's words (reed): values, Check and Encode where all may be. -/
namespace Go.Proofs.Ytogobpamlalbiaa
open Go.RowKit Go.Sort

set_option maxHeartbeats 8000000 in
set_option maxRecDepth 100000 in
theorem rvalues_any {F T : Nat} {D : FD} (hD : D ∈ fieldsL) {g : Nat → Value} {w : World} (hat : FAt F T D g w) {ao xo : Option Addr} {k n ca cx : Nat} {a xs : Nat → Nat} (hk : k ≤ 128) (hn : n ≤ 64) (ha : El D a) (hx : ∀ i, i < n → xs i < D.q) (hA : Sl ao k a w) (hX : Sl xo n xs w) (hla : LtB ao w.heap.size) (hlx : LtB xo w.heap.size) :
    Calls Try.prog 35 #[.pointer (some ⟨F, 0, none⟩), .slice ao k ca, .slice xo n cx] w fun e w' =>
      e = .returned (.slice (some ⟨w.heap.size, 0, none⟩) n n) ∧ Row w.heap.size n (fun i => D.ev a (xs i) k) w' ∧ Below w.heap.size w w' := by
  have HF : Hid (FAt F T D g w ∧ D ∈ fieldsL ∧ Sl ao k a w ∧ Sl xo n xs w ∧ El D a ∧ (∀ i, i < n → xs i < D.q) ∧ LtB ao w.heap.size ∧ LtB xo w.heap.size) := ⟨hat, hD, hA, hX, ha, hx, hla, hlx⟩
  clear hat hD hA hX ha hx hla hlx
  go_enter Try.func35, Try.ntmps35
  go_wp2_with (at_make; refine make_int rfl _ _ rfl _ n rfl rfl (by omega) (by omega) ?_; intro w1 hown1 hgrow1)
  have HB1 : Hid (Below w.heap.size w w1 ∧ Row w.heap.size n pnil w1) := ⟨below_grown hgrow1 (Nat.le_refl _) (fun k hk => by simp at hk), row_zeros hown1⟩
  clear hown1 hgrow1
  obtain ⟨gr, hg⟩ : ∃ g, g = w.heap.size := ⟨_, rfl⟩
  have HB2 : Hid (Below w.heap.size w w1 ∧ Row gr n pnil w1 ∧ gr = w.heap.size) := by rw [hg]; exact ⟨HB1.out.1, HB1.out.2, rfl⟩
  rw [← hg]
  have hgD : w.heap.size ≤ gr := by omega
  clear HB1 hg
  go_loopw [16] (fun i wr => ∃ r : Nat, r ≤ n ∧ i = .int .i64 r ∧ Hid (Row gr n (fun j => if j < r then D.ev a (xs j) k else 0) wr ∧ Below w.heap.size w wr)) (fun i _ => n - (intOf i).toNat)
  case atStart => exact ⟨0, by omega, rfl, HB2.out.2.1.congr (fun j _ => by rw [if_neg (by omega)]; rfl), HB2.out.1⟩
  case round =>
    obtain ⟨r, hr, rfl, HG⟩ := hrel
    rename World => wA
    by_cases hlt : r < n
    · have hib : (r : Int) < (n : Int) := by omega
      obtain ⟨bx, ox, hxo, hcx⟩ := (HF.out.2.2.2.1.below HG.out.2 HF.out.2.2.2.2.2.2.2) r hlt
      subst hxo
      obtain ⟨x, hx⟩ : ∃ x, x = xs r := ⟨_, rfl⟩
      rw [← hx] at hcx
      have hxq : x < D.q := by rw [hx]; exact HF.out.2.2.2.2.2.1 r hlt
      have HX : Hid (x = xs r ∧ x < D.q) := ⟨hx, hxq⟩
      clear hx hxq
      go_wp2
      go_loopw [10] (fun vi wr => ∃ t : Nat, t ≤ k ∧ vi = .int .i64 ((t : Int) - 1) ∧ Hid (Row gr n (fun j => if j < r then D.ev a (xs j) k else if j = r then D.val a k x (k - t) else 0) wr ∧ Below w.heap.size w wr)) (fun vi _ => (intOf vi + 1).toNat)
      case atStart => exact ⟨k, Nat.le_refl _, by first | rfl | go_num, HG.out.1.congr (fun j _ => by
        by_cases e : j < r
        · rw [if_pos e, if_pos e]
        · rw [if_neg e, if_neg e]
          split
          · rw [Nat.sub_self]; rfl
          · rfl), HG.out.2⟩
      case round =>
        obtain ⟨t, ht, hvi, HK⟩ := hrel
        rename World => wr
        cases t with
        | succ s =>
          have hi' : u10 = .int .i64 (s : Int) := by rw [hvi]; go_num
          clear hvi
          subst hi'
          obtain ⟨y, hy⟩ : ∃ y, y = D.val a k x (k - (s + 1)) := ⟨_, rfl⟩
          have hyq : y < D.q := by rw [hy]; exact val_lt HF.out.2.1 a k x HF.out.2.2.2.2.1 _
          have hco : wr.cell? ⟨gr, r, none⟩ = some (.int .i64 (y : Nat)) := by
            have h := HK.out.1.cell r hlt
            rw [if_neg (by omega), if_pos rfl, ← hy] at h; exact h
          have hfo := HK.out.1.free r
          obtain ⟨ba, oa, hao, hca⟩ := (HF.out.2.2.1.below HK.out.2 HF.out.2.2.2.2.2.2.1) s (by omega)
          subst hao
          obtain ⟨ax, hax⟩ : ∃ ax, ax = a s := ⟨_, rfl⟩
          rw [← hax] at hca
          obtain ⟨p, hp⟩ : ∃ p, p = D.mul y x := ⟨_, rfl⟩
          obtain ⟨u, hu⟩ : ∃ u, u = sumD D.p D.q p ax := ⟨_, rfl⟩
          have F' := fld HF.out.2.1
          have hatr := HF.out.1.below HK.out.2 HF.out.1.ltF HF.out.1.ltT
          have HC1 : Hid (∀ d, Calls Try.prog 47 #[.pointer (some ⟨F, 0, none⟩), .int .i64 (y : Nat), .int .i64 (x : Nat)] (wr.drewN d) fun e w' => e = .returned (.int .i64 (p : Nat)) ∧ ∃ k, w' = (wr.drewN d).drewN k) := fun d => by
            rw [hp]; exact mul_nat HF.out.2.1 (hatr.drewN d) hyq HX.out.2
          have HC2 : Hid (∀ d, Calls Try.prog 46 #[.pointer (some ⟨F, 0, none⟩), .int .i64 (p : Nat), .int .i64 (ax : Nat)] (wr.drewN d) fun e w' => e = .returned (.int .i64 (u : Nat)) ∧ ∃ k, w' = (wr.drewN d).drewN k) := fun d => by
            rw [hu]; exact add_nat HF.out.2.1 (hatr.drewN d) (by rw [hp]; exact F'.mul_lt _ _) (by rw [hax]; exact HF.out.2.2.2.2.1 s)
          have HY : D.val a k x (k - s) = u := by
            rw [hu, hp, hy, hax, show k - s = (k - (s + 1)) + 1 from by omega, FD.val, show k - 1 - (k - (s + 1)) = s from by omega]
          have HV : Hid (∀ j, j < n → (if j < r then D.ev a (xs j) k else if j = r then D.val a k x (k - s) else 0) = if j = r then u else if j < r then D.ev a (xs j) k else if j = r then D.val a k x (k - (s + 1)) else 0) := fun j _ => by
            by_cases e : j = r
            · rw [if_pos e, if_neg (by omega), if_pos e, HY]
            · rw [if_neg e, if_neg e, if_neg e]
          have hsb : (s : Int) < (k : Int) := by omega
          clear hax hp hu hy HY F' hatr
          go_wp2
          refine quiet_tail 16 (by kernel_rfl) (by kernel_rfl) ?_
          simp only [List.take_succ_cons, List.take_zero, List.drop_succ_cons, List.drop_zero]
          repeat (go_big_quiet_step (first | (go_at_call 47; exact Calls.quiet_of (HC1.out _)) | (go_at_call 46; exact Calls.quiet_of (HC2.out _)) | fail))
          refine wpQuiet_nil ?_
          intro _ hw'
          obtain ⟨nq, hw''⟩ := hw'
          subst hw''
          go_wp2
          go_roundw
          case rel => exact ⟨s, by omega, by go_num, (HK.out.1.drewN nq).store r u HV.out, (below_drewN2 HK.out.2 nq).setCell hgD _⟩
          case measure => simp [intOf]
        | zero =>
          have hi' : u10 = .int .i64 (-1) := by rw [hvi]; rfl
          clear hvi
          subst hi'
          have HE : Hid (Row gr n (fun j => if j < r + 1 then D.ev a (xs j) k else 0) wr ∧ Below w.heap.size w wr) := by
            refine ⟨HK.out.1.congr (fun j _ => ?_), HK.out.2⟩
            by_cases e : j < r
            · rw [if_pos e, if_pos (by omega)]
            · rw [if_neg e]
              by_cases e2 : j = r
              · rw [if_pos e2, if_pos (by omega), e2, Nat.sub_zero, val_is (fld HF.out.2.1) x k HF.out.2.2.2.2.1 HX.out.2, HX.out.1]
              · rw [if_neg e2, if_neg (by omega)]
          go_wp2
          go_roundw
          case rel => exact ⟨r + 1, by omega, by go_num, HE.out⟩
          case measure => simp [intOf]; omega
    · have hib : ¬ (r : Int) < (n : Int) := by omega
      have HE : Hid (Row gr n (fun j => D.ev a (xs j) k) wA) := HG.out.1.congr (fun j hj => by rw [if_pos (by omega)])
      go_wp2
      go_ret
      exact ⟨by rw [← HB2.out.2.2]; rfl, by rw [← HB2.out.2.2]; exact HE.out, HG.out.2⟩

set_option maxHeartbeats 8000000 in
set_option maxRecDepth 100000 in
theorem rcheck_ok {D : FD} (hD : D ∈ fieldsL) {xo : Option Addr} {n cx k : Nat} {xs : Nat → Nat} {w : World} (hn1 : 1 ≤ n) (hn : n ≤ 64) (hcn : n ≤ cx) (hx : ∀ i, i < n → xs i < D.q) (hne : ∀ i j, i < n → j < n → i ≠ j → xs i ≠ xs j) (hX : Sl xo n xs w) (hlx : LtB xo w.heap.size) (hk1 : 1 ≤ k) (hk : k ≤ n) :
    Calls Try.prog 5 #[.int .i64 D.q, .slice xo n cx, .int .i64 (k : Nat)] w fun e w' => e = .returned (.int .i64 0) ∧ Below w.heap.size w w' := by
  have HF : Hid (D ∈ fieldsL ∧ (∀ i, i < n → xs i < D.q) ∧ (∀ i j, i < n → j < n → i ≠ j → xs i ≠ xs j) ∧ Sl xo n xs w ∧ LtB xo w.heap.size) := ⟨hD, hx, hne, hX, hlx⟩
  have hz1 : ¬ (n : Int) < 1 := by omega
  have hz2 : ¬ (64 : Int) < (n : Int) := by omega
  have hz3 : ¬ (k : Int) < 1 := by omega
  have hz4 : ¬ (n : Int) < (k : Int) := by omega
  clear hD hx hne hX hlx
  go_enter Try.func5, Try.ntmps5
  go_wp2_with fail
  refine (new_any HF.out.1 w).mono ?_
  rintro e w1 ⟨F, T, g, rfl, hat, hF, hT, hb1⟩
  have HA : Hid (FAt F T D g w1 ∧ Sl xo n xs w1 ∧ Below w.heap.size w w1) := ⟨hat, HF.out.2.2.2.1.below hb1 HF.out.2.2.2.2, hb1⟩
  clear hat hF hT hb1
  go_wp2
  go_loopw [29] (fun i wr => ∃ r : Nat, r ≤ n ∧ i = .int .i64 r ∧ wr = w1) (fun i _ => n - (intOf i).toNat)
  case atStart => exact ⟨0, by omega, rfl, rfl⟩
  case round =>
    obtain ⟨r, hr, rfl, hw⟩ := hrel
    have hw := hw.symm
    subst hw
    by_cases hlt : r < n
    · have hib : (r : Int) < (n : Int) := by omega
      obtain ⟨bx, ox, hxo, hcx⟩ := HA.out.2.1 r hlt
      subst hxo
      obtain ⟨x, hx⟩ : ∃ x, x = xs r := ⟨_, rfl⟩
      rw [← hx] at hcx
      have hcap : (r : Int) ≤ (cx : Int) := by omega
      have HC1 : Hid (Calls Try.prog 24 #[.pointer (some ⟨F, 0, none⟩), .int .i64 (x : Nat)] w1 fun e w' => e = .returned (.bool true) ∧ w' = w1) := by
        have h := has_any HA.out.1 (x : Int)
        rw [has_of_lt (by rw [hx]; exact HF.out.2.1 r hlt)] at h; exact h
      have HC2 : Hid (Calls Try.prog 25 #[.slice (some ⟨bx, ox, none⟩) r cx, .int .i64 (x : Nat)] w1 fun e w' => e = .returned (.bool false) ∧ w' = w1) := by
        have h := contains_any (ca := cx) (w := w1) (z := fun j => ((xs j : Nat) : Int)) (x : Int) (show SlZ (some ⟨bx, ox, none⟩) r (fun j => ((xs j : Nat) : Int)) w1 from HA.out.2.1.less (by omega)) (by omega)
        rw [decide_eq_false (fun hm => by
          unfold zl at hm
          obtain ⟨j, hj, e⟩ := List.mem_map.1 hm
          have hj := List.mem_range.1 hj
          exact HF.out.2.2.1 j r (by omega) hlt (by omega) (by rw [← hx]; omega))] at h
        exact h
      clear hx
      go_wp2_with fail
      refine HC1.out.mono ?_
      rintro e w' ⟨rfl, hw⟩
      have hw := hw.symm
      subst hw
      go_wp2_with fail
      refine HC2.out.mono ?_
      rintro e w' ⟨rfl, hw⟩
      have hw := hw.symm
      subst hw
      go_wp2
      go_roundw
      case rel => exact ⟨r + 1, by omega, by go_num, by first | rfl | trivial⟩
      case measure => simp [intOf]; omega
    · have hib : ¬ (r : Int) < (n : Int) := by omega
      go_wp2
      go_ret
      exact ⟨rfl, HA.out.2.2⟩
set_option maxHeartbeats 4000000 in
set_option maxRecDepth 100000 in
theorem apart_any {ao bo : Option Addr} {n ca cb : Nat} {a b : Nat → Nat} {w : World} (hA : Sl ao n a w) (hB : Sl bo n b w) (hn : n ≤ 1000) :
    Calls Try.prog 55 #[.slice ao n ca, .slice bo n cb] w fun e w' => e = .returned (.int .i64 (ct (fun i => !decide (a i = b i)) n : Nat)) ∧ w' = w := by
  have HF : Hid (Sl ao n a w ∧ Sl bo n b w) := ⟨hA, hB⟩
  clear hA hB
  go_enter Try.func55, Try.ntmps55
  go_wp2
  go_loopw [5, 15] (fun vm vi wr => ∃ (r m : Nat), r ≤ n ∧ m ≤ r ∧ vm = .int .i64 (m : Nat) ∧ vi = .int .i64 r ∧ Hid (m = ct (fun i => !decide (a i = b i)) r) ∧ wr = w) (fun _ vi _ => n - (intOf vi).toNat)
  case atStart => exact ⟨0, 0, by omega, by omega, rfl, rfl, rfl, rfl⟩
  case round =>
    obtain ⟨r, m, hr, hmr, rfl, rfl, HM, hw⟩ := hrel
    have hw := hw.symm
    subst hw
    by_cases hlt : r < n
    · have hib : (r : Int) < (n : Int) := by omega
      obtain ⟨ba, oa, hao, hca⟩ := HF.out.1 r hlt
      subst hao
      obtain ⟨bb, ob, hbo, hcb⟩ := HF.out.2 r hlt
      subst hbo
      obtain ⟨x, hx⟩ : ∃ x, x = a r := ⟨_, rfl⟩
      obtain ⟨y, hy⟩ : ∃ y, y = b r := ⟨_, rfl⟩
      rw [← hx] at hca
      rw [← hy] at hcb
      by_cases e : x = y
      · have hz : (((x : Nat) : Int) != ((y : Nat) : Int)) = false := by rw [e]; simp
        have HV : Hid (m = ct (fun i => !decide (a i = b i)) (r + 1)) := by
          show m = ct (fun i => !decide (a i = b i)) r + if (!decide (a r = b r)) = true then 1 else 0
          rw [← HM.out, decide_eq_true (by rw [← hx, ← hy]; exact e)]; rfl
        clear e hx hy
        go_wp2
        go_roundw
        case rel => exact ⟨r + 1, m, by omega, by omega, rfl, by go_num, HV.out, by first | rfl | trivial⟩
        case measure => simp [intOf]; omega
      · have hz : (((x : Nat) : Int) != ((y : Nat) : Int)) = true := by rw [bne_iff_ne]; omega
        have HV : Hid (m + 1 = ct (fun i => !decide (a i = b i)) (r + 1)) := by
          show m + 1 = ct (fun i => !decide (a i = b i)) r + if (!decide (a r = b r)) = true then 1 else 0
          rw [← HM.out, decide_eq_false (by rw [← hx, ← hy]; exact e)]; rfl
        clear e hx hy
        go_wp2
        go_roundw
        case rel => exact ⟨r + 1, m + 1, by omega, by omega, by go_num, by go_num, HV.out, by first | rfl | trivial⟩
        case measure => simp [intOf]; omega
    · have hib : ¬ (r : Int) < (n : Int) := by omega
      have hre : n = r := by omega
      subst hre
      go_wp2
      go_ret
      exact ⟨by rw [← HM.out]; rfl, rfl⟩
end Go.Proofs.Ytogobpamlalbiaa

/- TopApart: the walk of the statement, whatever raw numbers it is given. -/
namespace Go.Proofs.Ytogobpamlalbiaa
open Go.RowKit Go.Sort

theorem pick_in {m : Int} {k : Nat} (hk : 0 < k) : ∃ M : Nat, pick m (k : Int) = (M : Int) ∧ M < k := by
  have h1 := pick_lo m (k : Int) (by omega)
  have h2 := pick_hi m (k : Int) (by omega)
  exact ⟨(pick m (k : Int)).toNat, by omega, by omega⟩
theorem blw_zl' {q k : Nat} {y : Nat → Int} (h : Blw q k y) : zl k y = zl k fun j => ((zc k y j : Nat) : Int) :=
  zl_congr fun j hj => by
    have := (h j hj).1
    unfold zc
    rw [if_pos hj]; omega

end Go.Proofs.Ytogobpamlalbiaa
