/- SparseSays: whatever it is given. -/
import Derived.Test.YtjkncdmbcckcdaaZKE19
import Derived.Test.YtjkncdmbcckcdaaZR18
import Derived.Test.YtjkncdmbcckcdaaZL10
namespace Go.Proofs.Ytjkncdmbcckcdaa
open Go.RowKit Go.Sort

set_option maxHeartbeats 2000000 in
set_option maxRecDepth 100000 in
theorem sparseSays_heavy (n most : Int) {ao wo so : Option Addr} {m ca l cw ls cs : Nat} {w : World} (hH : Calls Try.prog 20 #[.slice ao m ca] w fun x w' => x = .returned (.bool true) ∧ w' = w) :
    Calls Try.prog 7 #[.int .i64 n, .slice ao m ca, .slice wo l cw, .slice so ls cs, .int .i64 most] w fun x w' => x = .returned (.bool true) ∧ Below w.heap.size w w' := by
  have HH : Hid (Calls Try.prog 20 #[.slice ao m ca] w fun x w' => x = .returned (.bool true) ∧ w' = w) := hH
  clear hH
  go_enter Try.func7, Try.ntmps7
  go_wp2_with fail
  refine HH.out.mono ?_
  rintro x w0 ⟨rfl, hw0⟩
  have hw0 := hw0.symm
  subst hw0
  go_wp2
  go_ret
  exact ⟨rfl, Below.refl _ _⟩
set_option maxHeartbeats 2000000 in
set_option maxRecDepth 100000 in
theorem sparseSays_long (n most : Int) {ao wo so : Option Addr} {m ca l cw ls cs : Nat} {w : World} (hl : l ≤ 17592186044416) (hs : ls ≤ 17592186044416) (hlen : 200 < l + ls) (hH : Calls Try.prog 20 #[.slice ao m ca] w fun x w' => x = .returned (.bool false) ∧ w' = w) :
    Calls Try.prog 7 #[.int .i64 n, .slice ao m ca, .slice wo l cw, .slice so ls cs, .int .i64 most] w fun x w' => x = .returned (.bool true) ∧ Below w.heap.size w w' := by
  obtain ⟨N1, hN1⟩ : ∃ N1, N1 = l + ls := ⟨_, rfl⟩
  have g1 : IntKind.i64.wrap ((l : Int) + (ls : Int)) = (N1 : Int) := wrap_to (by omega) (by omega)
  have g3 : (200 : Int) < (N1 : Int) := by omega
  have HH : Hid (Calls Try.prog 20 #[.slice ao m ca] w fun x w' => x = .returned (.bool false) ∧ w' = w) := hH
  clear hH hN1
  go_enter Try.func7, Try.ntmps7
  go_wp2_with fail
  refine HH.out.mono ?_
  rintro x w0 ⟨rfl, hw0⟩
  have hw0 := hw0.symm
  subst hw0
  go_wp2
  go_ret
  exact ⟨rfl, Below.refl _ _⟩

theorem SlZ.slI {ao : Option Addr} {n cap : Nat} {z : Nat → Int} {w : World} (h : SlZ ao n z w) (hn : n ≤ 1000000) : SliceI (.slice ao n cap) (zl n z) w := by
  by_cases h0 : n = 0
  · subst h0
    exact Or.inl ⟨rfl, ao, cap, rfl⟩
  · obtain ⟨b, off, rfl, _⟩ := h 0 (by omega)
    refine Or.inr ⟨fun e => ?_, by rw [zl_len]; exact hn, b, off, cap, by rw [zl_len], fun j hj => ?_⟩
    · have := congrArg List.length e
      rw [zl_len] at this
      exact h0 this
    · rw [zl_len] at hj
      obtain ⟨b', off', e, hc⟩ := h j hj
      cases e
      rw [zl_getD n z j hj]; exact hc
theorem allP_imp {p q : Int → Bool} {z : Nat → Int} (h : ∀ x, p x = true → q x = true) : ∀ n, allP p z n = true → allP q z n = true
  | 0, _ => rfl
  | n + 1, hp => by
    have hp : (allP p z n && p (z n)) = true := hp
    rw [Bool.and_eq_true] at hp
    show (allP q z n && q (z n)) = true
    rw [allP_imp h n hp.1, h _ hp.2]; rfl
theorem bt_ht (x : Int) (h : isbt x = true) : isht x = true := by
  unfold isbt at h
  unfold isht
  rw [decide_eq_true_eq] at h ⊢
  exact Or.inr h
/-- At which round peeling ends. -/
noncomputable def pk (m : Nat) (N : Nat → Nat) (Z : Nat → Nat → Int) (y : Nat → Int) : Nat := Classical.epsilon fun k => pround m N Z (prounds m N Z y k) = prounds m N Z y k
theorem pk_is {m : Nat} {N : Nat → Nat} {Z : Nat → Nat → Int} {y : Nat → Int} {k : Nat} (h : pround m N Z (prounds m N Z y k) = prounds m N Z y k) : prounds m N Z y k = prounds m N Z y (pk m N Z y) :=
  prounds_end h (Classical.epsilon_spec (p := fun k => pround m N Z (prounds m N Z y k) = prounds m N Z y k) ⟨k, h⟩)
/-- At which round turning ends. -/
noncomputable def tk (n m : Nat) (N : Nat → Nat) (Z : Nat → Nat → Int) (y : Nat → Int) (most : Nat) : Nat := Classical.epsilon fun r => Tend n m N Z y most r
theorem tk_is {n m : Nat} {N : Nat → Nat} {Z : Nat → Nat → Int} {y : Nat → Int} {most r : Nat} (h : Tend n m N Z y most r) : r = tk n m N Z y most :=
  tend_one h (Classical.epsilon_spec (p := fun r => Tend n m N Z y most r) ⟨r, h⟩)
theorem bel_same {w w' : World} (h : w' = w) : Below w.heap.size w w' := by rw [h]; exact Below.refl _ _
theorem bel_drew {w w' : World} (h : ∃ d, w' = w.drewN d) : Below w.heap.size w w' := by
  obtain ⟨d, rfl⟩ := h
  exact below_drewN2 (Below.refl _ _) d

set_option maxHeartbeats 4000000 in
theorem sparseSays_few (n most : Int) {ao wo so : Option Addr} {m ca l cw ls cs : Nat} {A : Nat → Option Addr} {N C : Nat → Nat} {Z : Nat → Nat → Int} {y S : Nat → Int} {w : World} (hA : MatZ ao m A N C Z w) (hm : m ≤ 6000) (hN : ∀ i, i < m → N i ≤ 6000) (hW : Arg wo l cw y w) (hS : SlZ so ls S w) (hlen : l + ls ≤ 200)
    (hH : Calls Try.prog 20 #[.slice ao m ca] w fun x w' => x = .returned (.bool false) ∧ w' = w) :
    Calls Try.prog 7 #[.int .i64 n, .slice ao m ca, .slice wo l cw, .slice so ls cs, .int .i64 most] w fun x w' => x = .returned (.bool true) ∧ Below w.heap.size w w' := by
  have ck : ∀ wx, Below w.heap.size w wx → Calls Try.prog 29 #[.int .i64 n, .slice ao m ca] wx fun x w' => x = .returned (.int .i64 (schk n m N Z)) ∧ w' = wx := fun wx hb => scheck_any n (hA.below hb) (by omega)
  have c1 : ∀ wx, Below w.heap.size w wx → Calls Try.prog 28 #[.int .i64 n, .slice ao m ca] wx fun x w' => x = .returned (.int .i64 (schk n m N Z)) ∧ Below wx.heap.size wx w' := fun wx hb => by
    refine (rchecks_any n (hA.below hb) (by omega)).mono ?_
    rintro x w' ⟨rfl, h⟩
    exact ⟨rfl, bel_drew h⟩
  have c2 : ∀ wx, Below w.heap.size w wx → Calls Try.prog 29 #[.int .i64 n, .slice ao m ca] wx fun x w' => x = .returned (.int .i64 (schk n m N Z)) ∧ Below wx.heap.size wx w' := fun wx hb => by
    refine (ck wx hb).mono ?_
    rintro x w' ⟨rfl, h⟩
    exact ⟨rfl, bel_same h⟩
  by_cases h0 : ¬ (schk n m N Z = 0)
  · refine sparseSays_c1 (L3 := []) n most (schk n m N Z) (schk n m N Z) false hlen h0 hH c1 c2 (fun wx hb => ?_) (fun wx hb => ?_) hS (fun wx hb => ?_) (fun h => absurd h h0) (fun _ => rfl) (by unfold evS; rw [if_pos h0])
    · refine (speel_e1 n _ h0 (ck wx hb)).mono ?_
      rintro x w' ⟨rfl, h⟩
      exact ⟨bel_same h, none, 0, 0, none, 0, 0, rfl, Or.inl ⟨h0, rfl⟩, Or.inl ⟨rfl, none, 0, rfl⟩⟩
    · refine (sflip_e1 n _ most h0 (ck wx hb)).mono ?_
      rintro x w' ⟨rfl, h⟩
      exact ⟨bel_same h, none, 0, 0, rfl, Or.inl ⟨h0, rfl⟩⟩
    · refine (sstops_e1 n _ h0 (ck wx hb)).mono ?_
      rintro x w' ⟨rfl, h⟩
      exact ⟨rfl, bel_same h⟩
  replace h0 := Classical.not_not.1 h0
  obtain ⟨g1, g2, g3, g4⟩ := schk_ok h0
  obtain ⟨nn, rfl⟩ : ∃ nn : Nat, n = (nn : Int) := ⟨n.toNat, by omega⟩
  rw [h0] at ck c1 c2
  have st : ∀ wx, Below w.heap.size w wx → Calls Try.prog 36 #[.int .i64 (nn : Nat), .slice ao m ca, .slice so ls cs] wx fun x w' => x = .returned (.tuple #[.bool (allP (isp nn) S ls && stopB (zl ls S) N Z m), .int .i64 (if allP (isp nn) S ls = true then 0 else 10)]) ∧ Below wx.heap.size wx w' := fun wx hb => sstops_any (hA.below hb) (slz_below hS hb) (by omega) hN h0
  have sp : (if allP (isp nn) S ls = true then (0 : Int) else 10) = 0 → ∀ wx, Below w.heap.size w wx → Calls Try.prog 37 #[.slice ao m ca, .slice so ls cs] wx fun x w' => x = .returned (.bool (allP (isp nn) S ls && stopB (zl ls S) N Z m)) ∧ Below wx.heap.size wx w' := fun h wx hb => by
    have ha : allP (isp nn) S ls = true := Classical.byContradiction fun e => by rw [if_neg e] at h; cases h
    refine (rstopping_any (l := zl ls S) (hA.below hb) g3 hN (fun d x => in_any x (((slz_below hS hb).slI (by omega)).drewN d))).mono ?_
    rintro x w' ⟨rfl, h⟩
    exact ⟨by rw [ha]; rfl, bel_drew h⟩
  have rb : (if allP (isp nn) S ls = true then (0 : Int) else 10) ≠ 0 → (allP (isp nn) S ls && stopB (zl ls S) N Z m) = false := fun h => by
    have ha : ¬ allP (isp nn) S ls = true := fun e => h (by rw [if_pos e])
    rw [Bool.eq_false_iff.2 ha]; rfl
  have ev : (if allP (isp nn) S ls = true then (0 : Int) else 10) = evS 0 nn S ls := by
    show _ = if (0 : Int) ≠ 0 then (0 : Int) else if allP (isp nn) S ls = true then 0 else 10
    exact (if_neg (fun h : (0 : Int) ≠ 0 => h rfl)).symm
  have hy : ∀ wx, Below w.heap.size w wx → SlZ wo l y wx := fun wx hb => slz_below hW.sl hb
  by_cases hl : ¬ ((l : Int) = (nn : Int))
  · refine sparseSays_c2 (L3 := []) nn most _ _ hlen hl hH c1 c2 (fun wx hb => ?_) (fun wx hb => ?_) hS st sp rb ev
    · have hb2 := bHeard_any (cap := cw) (nn : Int) (hy wx hb) (by omega)
      have e6 : bchk isht l y (nn : Int) = 6 := by unfold bchk; rw [if_pos hl]
      rw [e6] at hb2
      refine (speel_e2 nn 6 (by decide) (ck wx hb) hb2).mono ?_
      rintro x w' ⟨rfl, h⟩
      exact ⟨bel_same h, none, 0, 0, none, 0, 0, rfl, Or.inl ⟨by decide, rfl⟩, Or.inl ⟨rfl, none, 0, rfl⟩⟩
    · have hb2 := bCheck_any (cap := cw) (nn : Int) (hy wx hb) (by omega)
      have e6 : bchk isbt l y (nn : Int) = 6 := by unfold bchk; rw [if_pos hl]
      rw [e6] at hb2
      refine (sflip_e2 nn 6 most (by decide) (ck wx hb) hb2).mono ?_
      rintro x w' ⟨rfl, h⟩
      exact ⟨bel_same h, none, 0, 0, rfl, Or.inl ⟨by decide, rfl⟩⟩
  replace hl := Classical.not_not.1 hl
  obtain rfl : l = nn := by omega
  have bt : ∀ (g b : Bool), allP (isbg g) y l = b → ∀ wx, Below w.heap.size w wx → Calls Try.prog 30 #[.slice wo l cw, .bool g] wx fun x w' => x = .returned (.bool b) ∧ Below wx.heap.size wx w' := fun g b hgb wx hb => by
    refine (rbits_any g (hy wx hb) (by omega)).mono ?_
    rintro x w' ⟨rfl, h⟩
    exact ⟨by rw [hgb], bel_same h⟩
  have et : isbg true = isht := by funext x; rfl
  have ef : isbg false = isbt := by funext x; rfl
  have ch : ∀ wx, Below w.heap.size w wx → Calls Try.prog 73 #[.slice wo l cw, .int .i64 (l : Nat)] wx fun x w' => x = .returned (.int .i64 (bchk isht l y (l : Nat))) ∧ w' = wx := fun wx hb => bHeard_any (l : Int) (hy wx hb) (by omega)
  have cb : ∀ wx, Below w.heap.size w wx → Calls Try.prog 78 #[.slice wo l cw, .int .i64 (l : Nat)] wx fun x w' => x = .returned (.int .i64 (bchk isbt l y (l : Nat))) ∧ w' = wx := fun wx hb => bCheck_any (l : Int) (hy wx hb) (by omega)
  by_cases hh : ¬ (allP isht y l = true)
  · have hh0 : allP isht y l = false := Bool.eq_false_iff.2 hh
    have hb0 : allP isbt y l = false := Bool.eq_false_iff.2 fun h => hh (allP_imp bt_ht l h)
    have eh : bchk isht l y (l : Nat) = 2 := by unfold bchk; rw [if_neg (fun h => h rfl), if_neg hh]
    have eb : bchk isbt l y (l : Nat) = 2 := by unfold bchk; rw [if_neg (fun h => h rfl), hb0]; rfl
    rw [eh] at ch
    rw [eb] at cb
    refine sparseSays_c3 (L3 := []) l most _ _ hlen rfl hH c1 c2 (bt true false (by rw [et]; exact hh0)) (fun wx hb => ?_) (bt false false (by rw [ef]; exact hb0)) (fun wx hb => ?_) hS st sp rb ev
    · refine (speel_e2 l 2 (by decide) (ck wx hb) (ch wx hb)).mono ?_
      rintro x w' ⟨rfl, h⟩
      exact ⟨bel_same h, none, 0, 0, none, 0, 0, rfl, Or.inl ⟨by decide, rfl⟩, Or.inl ⟨rfl, none, 0, rfl⟩⟩
    · refine (sflip_e2 l 2 most (by decide) (ck wx hb) (cb wx hb)).mono ?_
      rintro x w' ⟨rfl, h⟩
      exact ⟨bel_same h, none, 0, 0, rfl, Or.inl ⟨by decide, rfl⟩⟩
  replace hh := Classical.not_not.1 hh
  have hl1 : 1 ≤ l := by omega
  obtain ⟨bw, ow, rfl, _⟩ := hW.sl 0 (by omega)
  have hlt : ∀ wx, Below w.heap.size w wx → bw < wx.heap.size := fun wx hb => Nat.lt_of_lt_of_le (hW.lt _ rfl) hb.size
  have eh : bchk isht l y (l : Nat) = 0 := by unfold bchk; rw [if_neg (fun h => h rfl), if_pos hh]
  have hB : Bts l y := fun p hp => by
    have h := allP_iff l hh p hp
    unfold isht at h
    exact of_decide_eq_true h
  have pd : ∀ wx, Below w.heap.size w wx → Calls Try.prog 31 #[.slice ao m ca, .slice (some ⟨bw, ow, none⟩) l cw] wx fun x w' => Below wx.heap.size wx w' ∧ ∃ vo vn vc uo un uc, x = .returned (.tuple #[.slice vo vn vc, .slice uo un uc]) ∧ KI (.slice vo vn vc) (zl l (prounds m N Z y (pk m N Z y))) w' ∧ KI (.slice uo un uc) (lefts (prounds m N Z y (pk m N Z y)) l) w' := fun wx hb => by
    refine (rpeeled_any (hA.below hb) (hy wx hb) (hlt wx hb) g3 hl1 (by omega) hN g4 hB).mono ?_
    rintro x w' ⟨hb', g, c, vl, k, rfl, hk, hr, ho⟩
    rw [pk_is hk] at hr ho
    obtain ⟨uo, uc, rfl⟩ := own_form ho
    refine ⟨hb', _, _, _, _, _, _, rfl, ⟨hr.sliceI hl1 (by omega), fun k hk => ?_⟩, ho.ki ?_⟩
    · have hk : some g = some k := hk
      cases hk
      exact hr.lt'
    · have := lefts_len (prounds m N Z y (pk m N Z y)) l; omega
  have pe : ∀ wx, Below w.heap.size w wx → Calls Try.prog 32 #[.int .i64 (l : Nat), .slice ao m ca, .slice (some ⟨bw, ow, none⟩) l cw] wx (PlP 0 (zl l (prounds m N Z y (pk m N Z y))) (lefts (prounds m N Z y (pk m N Z y)) l) wx) := fun wx hb => by
    refine (speel_ok (hA.below hb) (hy wx hb) (hlt wx hb) hN h0 eh).mono ?_
    rintro x w' ⟨hb', g, c, vl, k, rfl, hk, hr, ho⟩
    rw [pk_is hk] at hr ho
    obtain ⟨uo, uc, rfl⟩ := own_form ho
    refine ⟨hb', _, _, _, _, _, _, rfl, Or.inr ⟨rfl, hr.sliceI hl1 (by omega)⟩, ho.slice ?_⟩
    have := lefts_len (prounds m N Z y (pk m N Z y)) l; omega
  by_cases hbt : ¬ (allP isbt y l = true)
  · have hb0 : allP isbt y l = false := Bool.eq_false_iff.2 hbt
    have eb : bchk isbt l y (l : Nat) = 2 := by unfold bchk; rw [if_neg (fun h => h rfl), hb0]; rfl
    rw [eb] at cb
    refine sparseSays_c4 (L3 := []) l most _ _ hlen rfl hH c1 c2 (bt true true (by rw [et]; exact hh)) pd pe (bt false false (by rw [ef]; exact hb0)) (fun wx hb => ?_) hS st sp rb ev
    refine (sflip_e2 l 2 most (by decide) (ck wx hb) (cb wx hb)).mono ?_
    rintro x w' ⟨rfl, h⟩
    exact ⟨bel_same h, none, 0, 0, rfl, Or.inl ⟨by decide, rfl⟩⟩
  replace hbt := Classical.not_not.1 hbt
  have eb : bchk isbt l y (l : Nat) = 0 := by unfold bchk; rw [if_neg (fun h => h rfl), if_pos hbt]
  rw [eb] at cb
  have fe : most < 0 ∨ 100 < most → ∀ wx, Below w.heap.size w wx → Calls Try.prog 35 #[.int .i64 (l : Nat), .slice ao m ca, .slice (some ⟨bw, ow, none⟩) l cw, .int .i64 most] wx (FlP 6 [] false 0 wx) := fun h wx hb => by
    refine (sflip_e3 l most h (ck wx hb) (cb wx hb)).mono ?_
    rintro x w' ⟨rfl, h⟩
    exact ⟨bel_same h, none, 0, 0, rfl, Or.inl ⟨by decide, rfl⟩⟩
  by_cases hm0 : most < 0
  · exact sparseSays_c5a (L3 := []) l most _ _ hlen rfl hm0 hH c1 c2 (bt true true (by rw [et]; exact hh)) pd pe (bt false true (by rw [ef]; exact hbt)) (fe (Or.inl hm0)) hS st sp rb ev
  by_cases hm1 : most > 100
  · exact sparseSays_c5b (L3 := []) l most _ _ hlen rfl hm0 hm1 hH c1 c2 (bt true true (by rw [et]; exact hh)) pd pe (bt false true (by rw [ef]; exact hbt)) (fe (Or.inr hm1)) hS st sp rb ev
  obtain ⟨mo, rfl⟩ : ∃ mo : Nat, most = (mo : Int) := ⟨most.toNat, by omega⟩
  have hbits : ∀ p, p < l → y p = 0 ∨ y p = 1 := fun p hp => by
    have h := allP_iff l hbt p hp
    unfold isbt at h
    exact of_decide_eq_true h
  refine sparseSays_c6 (L3 := zl l (trounds l m N Z y (tk l m N Z y mo))) l mo _ (tk l m N Z y mo : Nat) _ (decide ((odds N Z (trounds l m N Z y (tk l m N Z y mo)) m).length = 0)) hlen rfl hm0 hm1 hH c1 c2 (bt true true (by rw [et]; exact hh)) pd pe (bt false true (by rw [ef]; exact hbt)) (fun wx hb => ?_) (fun wx hb => ?_) hS st sp rb ev
  · refine (rflipped_any (hA.below hb) (hy wx hb) (hlt wx hb) g3 hl1 (by omega) hN g4 hbits (by omega)).mono ?_
    rintro x w' ⟨hb', g, c, r, rfl, ht, hr⟩
    have e := tk_is ht
    subst e
    refine ⟨hb', _, _, _, rfl, hr.sliceI hl1 (by omega), fun k hk => ?_⟩
    have hk : some g = some k := hk
    cases hk
    exact hr.lt'
  · refine (sflip_ok (hA.below hb) (hy wx hb) (hlt wx hb) hN h0 eb (by omega)).mono ?_
    rintro x w' ⟨hb', g, c, r, rfl, ht, hr⟩
    have e := tk_is ht
    subst e
    exact ⟨hb', _, _, _, rfl, Or.inr ⟨rfl, hr.sliceI hl1 (by omega)⟩⟩

theorem sparseSays_walk (n most : Int) {ao wo so : Option Addr} {m ca l cw ls cs : Nat} {A : Nat → Option Addr} {N C : Nat → Nat} {Z : Nat → Nat → Int} {y S : Nat → Int} {w : World} (hA : MatO ao m A N C Z w) (hm : m ≤ 17592186044416) (hN : ∀ i, i < m → N i ≤ 17592186044416) (hW : ArgL wo l cw y w) (hS : ArgL so ls cs S w) (hl : l ≤ 17592186044416) (hls : ls ≤ 17592186044416) :
    Calls Try.prog 7 #[.int .i64 n, .slice ao m ca, .slice wo l cw, .slice so ls cs, .int .i64 most] w fun x w' => x = .returned (.bool true) ∧ Below w.heap.size w w' := by
  have hH := heavy_any (ca := ca) hA.cell hm hN
  by_cases hv : 6000 < hvs N m m
  · rw [decide_eq_true hv] at hH
    exact sparseSays_heavy n most hH
  · rw [decide_eq_false hv] at hH
    by_cases hlen : 200 < l + ls
    · exact sparseSays_long n most hl hls hlen hH
    · obtain ⟨h1, h2⟩ := hvs_few m (Nat.le_of_not_lt hv)
      exact sparseSays_few n most (hA.matZ (fun i hi => by have := h2 i hi; omega)) h1 h2 (hW.arg (by omega)) hS.sl (by omega) hH
end Go.Proofs.Ytjkncdmbcckcdaa
