/- Texts of ours, one behind the other: Z11 Z12 Z13. -/
import Derived.Test.YtjkncdmbcckcdaaZZ8
/- All near messages: the walk of the reference's Near. -/
namespace Go.Proofs.Ytjkncdmbcckcdaa
open Go.RowKit Go.Sort

theorem LLx.push {g base : Nat} {v v' u : Value} {l : List Value} {L : List (Nat × (Nat → Nat))} {p : Nat × (Nat → Nat)} {w w' : World} (h1 : OwnV base v l w) (h2 : Elms l L w) (h3 : ∀ u ∈ l, u.ownBlock ≠ some g) (hu : Elm u p w) (hne : u.ownBlock ≠ some g) (ho : OwnV base v' (l ++ [u]) w') (hg : w.grownBy w' v.ownBlock) : LLx g base v' (L ++ [p]) w' := by
  refine ⟨_, ho, (h2.snoc hu).grown h1 hg, fun x hx => ?_⟩
  rcases List.mem_append.1 hx with hx | hx
  · exact h3 x hx
  · rw [List.mem_singleton.1 hx]; exact hne

set_option maxHeartbeats 16000000 in
set_option maxRecDepth 100000 in
theorem rnear_any {D : FD} (hD : D ∈ fieldsL) (gen gm cm : Nat) {xo yo : Option Addr} {n cx cy k k1 N : Nat} {xs y : Nat → Nat} (r : Int) {w : World} (hk1 : k = k1 + 1) (hN : N = D.q ^ k) (hN2 : N ≤ 4096) (hn : n ≤ 64) (hx : ∀ i, i < n → xs i < D.q) (hX : Sl xo n xs w) (hlx : LtB xo w.heap.size) (hk : k ≤ n) (hY : Sl yo n y w) (hly : LtB yo w.heap.size) (hM : ModAt D (.slice (some ⟨gm, 0, none⟩) (D.m + 1) cm) D.md w) :
    Calls Try.prog 12 #[.agg #[.int .i64 D.q, .int .i64 D.p, .int .i64 D.m, .int .i64 gen, .slice (some ⟨gm, 0, none⟩) (D.m + 1) cm], .slice xo n cx, .int .i64 (k : Nat), .slice yo n cy, .int .i64 r] w fun e w' => ∃ v, e = .returned v ∧ LLs w.heap.size v (nrL D k1 n xs y r N) w' ∧ Below w.heap.size w w' := by
  obtain ⟨wa, hwa⟩ : ∃ wa, wa = w.alloc (.cells #[.int .i64 D.q, .int .i64 D.p, .int .i64 D.m, .int .i64 gen, .slice (some ⟨gm, 0, none⟩) (D.m + 1) cm] 27) := ⟨_, rfl⟩
  have hba : Below w.heap.size w wa := by rw [hwa]; exact (Below.refl _ _).alloc (Nat.le_refl _) _
  have HF : Hid (D ∈ fieldsL ∧ Sl xo n xs wa ∧ LtB xo wa.heap.size ∧ Sl yo n y wa ∧ LtB yo wa.heap.size ∧ (∀ i, i < n → xs i < D.q) ∧ ModAt D (.slice (some ⟨gm, 0, none⟩) (D.m + 1) cm) D.md wa ∧ Below w.heap.size w wa ∧ k = k1 + 1 ∧ N = D.q ^ k) := ⟨hD, hX.below hba hlx, hlx.mono hba.size, hY.below hba hly, hly.mono hba.size, hx, hM.below hba, hba, hk1, hN⟩
  have HX : Hid (Box w.heap.size D gen (.slice (some ⟨gm, 0, none⟩) (D.m + 1) cm) wa ∧ wa.heap.size = w.heap.size + 1) := ⟨by rw [hwa]; exact box_new D gen _ w, by rw [hwa]; simp⟩
  have h64 := (fld hD).q64
  have h2q := (fld hD).q2
  have hN0 : 0 < N := by rw [hN]; exact Nat.pow_pos (by omega)
  clear hD hX hlx hY hly hx hM hba hk1 hN
  go_enter Try.func12, Try.ntmps12
  go_wp2_with (at_make; rw [← hwa]; refine make_int rfl _ _ rfl _ k rfl rfl (by omega) (by omega) ?_; intro w1 hown1 hgrow1)
  have HB1 : Hid (Below wa.heap.size wa w1 ∧ Row wa.heap.size k pnil w1) := ⟨below_grown hgrow1 (Nat.le_refl _) (fun k hk => by simp at hk), row_zeros hown1⟩
  clear hown1 hgrow1
  obtain ⟨g, hg⟩ : ∃ g, g = w.heap.size + 1 := ⟨_, rfl⟩
  have HB2 : Hid (Below wa.heap.size wa w1 ∧ Row g k pnil w1 ∧ wa.heap.size ≤ g) := by rw [hg, ← HX.out.2]; exact ⟨HB1.out.1, HB1.out.2, Nat.le_refl _⟩
  rw [← hg]
  have hgw : wa.heap.size ≤ g := HB2.out.2.2
  clear HB1 hg hwa
  go_loopg [12, 13] N (fun gk vo vm wr => ∃ (a : Nat) (mb : Bool), a + gk = N ∧ vm = .bool mb ∧ Hid (mb = decide (0 < gk) ∧ (0 < gk → Row g k (dgs D.q k a) wr) ∧ LLx g wa.heap.size vo (nrL D k1 n xs y r a) wr ∧ Below wa.heap.size wa wr))
  case atStart =>
    refine ⟨0, true, by omega, rfl, ?_, ?_, ?_, HB2.out.1⟩
    · rw [decide_eq_true hN0]
    · exact fun _ => HB2.out.2.1.congr (fun j _ => dgs_zero.symm)
    · exact ⟨[], OwnV.nil _ _, Elms.nil _, fun u hu => by simp at hu⟩
  case round =>
    obtain ⟨a, mb, haN, rfl, HG⟩ := hrel
    by_cases hgk : 0 < gk
    · have hmb : mb = true := by rw [HG.out.1, decide_eq_true hgk]
      subst hmb
      have hbx := HX.out.1.below (B := wa.heap.size) HG.out.2.2.2 (by have := HX.out.2; omega)
      obtain ⟨k0, k1', k2, k3, k4⟩ := hbx
      obtain ⟨ap, hap⟩ : ∃ ap, ap = ct (fun i => !decide (D.ev (dgs D.q k a) (xs i) k = y i)) n := ⟨_, rfl⟩
      have HOf : Hid (Calls Try.prog 45 #[.agg #[.int .i64 D.q, .int .i64 D.p, .int .i64 D.m, .int .i64 gen, .slice (some ⟨gm, 0, none⟩) (D.m + 1) cm], .slice xo n cx, .slice yo n cy, .slice (some ⟨g, 0, none⟩) k k] wr fun e w' => e = .returned (.tuple #[.int .i64 (ap : Nat), .int .i64 (n : Nat)]) ∧ Below wr.heap.size wr w') := by
        have hrow := HG.out.2.1 hgk
        have hb := HG.out.2.2.2
        rw [hap]
        exact roff_any HF.out.1 gen gm cm hn (by omega) (HF.out.2.1.below hb HF.out.2.2.1) (HF.out.2.2.2.1.below hb HF.out.2.2.2.2.1) (hrow.sl (Nat.le_refl _)) (HF.out.2.2.1.mono hb.size) (HF.out.2.2.2.2.1.mono hb.size) (fun p hp => by cases hp; exact hrow.lt) HF.out.2.2.2.2.2.1 (dgs_el (fld HF.out.1) k a) (HF.out.2.2.2.2.2.2.1.below hb)
      have HNx : Hid (nrL D k1 n xs y r (a + 1) = nrL D k1 n xs y r a ++ if (ap : Int) ≤ r then [(k1, dgs D.q k a)] else []) := by
        show nrL D k1 n xs y r a ++ _ = _
        rw [hap, HF.out.2.2.2.2.2.2.2.2.1]
      clear hap
      go_wp2_with fail
      refine HOf.out.mono ?_
      rintro e w3 ⟨rfl, hb3⟩
      have H3 : Hid (Row g k (dgs D.q k a) w3 ∧ LLx g wa.heap.size u12 (nrL D k1 n xs y r a) w3 ∧ Below wa.heap.size wa w3 ∧ Below wr.heap.size wr w3) := ⟨(HG.out.2.1 hgk).below hb3 (HG.out.2.1 hgk).lt, HG.out.2.2.1.below hb3 (Nat.le_refl _), bel_up' HG.out.2.2.2 hb3, hb3⟩
      clear hb3 k0 k1' k2 k3 k4
      have haN' : a < D.q ^ k := by rw [← HF.out.2.2.2.2.2.2.2.2.2]; omega
      have HNt : Hid (∀ wx, Row g k (dgs D.q k a) wx → Calls Try.prog 47 #[.slice (some ⟨g, 0, none⟩) k k, .int .i64 D.q] wx fun e w' => ∃ mb', e = .returned (.bool mb') ∧ wx.grownBy w' (some g) ∧ mb' = decide (0 < gk - 1) ∧ (0 < gk - 1 → Row g k (dgs D.q k (a + 1)) w')) := fun wx hrow => by
        refine (rnext_any HF.out.1 (dgm_mn (fld HF.out.1) k a) (by omega) (hrow.congr (fun j hj => (dgm_lo hj).symm))).mono ?_
        rintro e w' ⟨hgr, ⟨rfl, c', hr', hmn, haf⟩ | ⟨rfl, hl, _⟩⟩
        · have h := dgs_next (fld HF.out.1) haN' hmn haf
          rw [← HF.out.2.2.2.2.2.2.2.2.2] at h
          exact ⟨true, rfl, hgr, by rw [decide_eq_true (by omega)], fun _ => hr'.congr h.2⟩
        · have h := dgs_last (fld HF.out.1) haN' hl
          rw [← HF.out.2.2.2.2.2.2.2.2.2] at h
          exact ⟨false, rfl, hgr, by rw [decide_eq_false (by omega)], fun h2 => absurd h2 (by omega)⟩
      clear haN'
      by_cases hle : (ap : Int) ≤ r
      · have HCp : Hid (Calls Try.prog 46 #[.slice (some ⟨g, 0, none⟩) k k] w3 fun e w' => ∃ v, e = .returned v ∧ OwnI w3.heap.size v (zl k fun j => ((dgs D.q k a j : Nat) : Int)) w' ∧ Below w3.heap.size w3 w') := copyI_any ((H3.out.1.sl (Nat.le_refl _)).z) (by omega) (fun e => by cases e) (fun p hp => by cases hp; exact H3.out.1.lt)
        have HN2 : Hid (nrL D k1 n xs y r (a + 1) = nrL D k1 n xs y r a ++ [(k1, dgs D.q k a)]) := by show _ = _; rw [HNx.out, if_pos hle]
        go_wp2_with fail
        refine HCp.out.mono ?_
        rintro e w4 ⟨v4, rfl, ho4, hb4⟩
        obtain ⟨bo, cb, hv4, _⟩ := ho4.argL
        subst hv4
        obtain ⟨lst, hov, hels, hap⟩ := H3.out.2.1
        have hll : lst.length ≤ 1000000 := by rw [hels.1]; have := nrL_len (D := D) (k1 := k1) (n := n) (xs := xs) (y := y) (r := r) a; omega
        have HV : Hid (OwnV wa.heap.size u12 lst w4 ∧ Elms lst (nrL D k1 n xs y r a) w4 ∧ (∀ u ∈ lst, u.ownBlock ≠ some g) ∧ Elm (.slice bo k cb) (k1, dgs D.q k a) w4 ∧ Value.ownBlock (.slice bo k cb) ≠ some g ∧ Row g k (dgs D.q k a) w4 ∧ Below wa.heap.size wa w4) := by
          have he : OwnI w3.heap.size (.slice bo k cb) (zl (k1 + 1) fun j => ((dgs D.q k a j : Nat) : Int)) w4 := by
            have h := ho4
            rw [show zl k (fun j => ((dgs D.q k a j : Nat) : Int)) = zl (k1 + 1) (fun j => ((dgs D.q k a j : Nat) : Int)) from by rw [HF.out.2.2.2.2.2.2.2.2.1]] at h
            exact h
          refine ⟨hov.below hb4 (Nat.le_refl _), hels.below hb4 (Nat.le_refl _), hap, (elm_of_own he).1, fun e => ?_, H3.out.1.below hb4 H3.out.1.lt, bel_up' H3.out.2.2.1 hb4⟩
          have h1 := (elm_of_own he).2 g e
          have h2 := H3.out.1.lt
          omega
        have hs4 := HV.out.2.2.2.2.2.2.size
        clear ho4 hb4 hov hels hap
        go_wp2_with (at_builtin; refine append_sl rfl _ _ rfl wa.heap.size u12 lst rfl (HV.out.1.below ((Below.refl _ _).alloc (Nat.le_refl _) _) (Nat.le_refl _)) ⟨w4.heap.size, 0, none⟩ 1 (.slice bo k cb) rfl rfl (by rw [cell_of_row _ _ _ _ _ (0, 0) (two_new _)]; rfl) hll (by simp; omega) ?_; intro v' w6 hown6 hg6; have hb6 : Below wa.heap.size wa w6 := (HV.out.2.2.2.2.2.2.alloc hs4 _).grown hg6 (by simp; omega) (fun q hq => (HV.out.1.below ((Below.refl w4.heap.size w4).alloc (Nat.le_refl _) (.cells #[.slice bo k cb] 22)) (Nat.le_refl _)).open_ge q hq); have hc0 := (HX.out.1.below (B := wa.heap.size) hb6 (by have := HX.out.2; omega)).c0)
        have hal : Below w4.heap.size w4 (w4.alloc (.cells #[.slice bo k cb] 22)) := (Below.refl _ _).alloc (Nat.le_refl _) _
        have ho := HV.out.1.below hal (Nat.le_refl _)
        have H6 : Hid (LLx g wa.heap.size v' (nrL D k1 n xs y r (a + 1)) w6 ∧ Row g k (dgs D.q k a) w6 ∧ Below wa.heap.size wa w6) := by
          refine ⟨?_, ?_, hb6⟩
          · rw [HN2.out]
            exact LLx.push ho (HV.out.2.1.below hal (Nat.le_refl _)) HV.out.2.2.1 (HV.out.2.2.2.1.below hal (Nat.le_refl _)) HV.out.2.2.2.2.1 hown6 hg6
          · have hr := HV.out.2.2.2.2.2.1.below hal HV.out.2.2.2.2.2.1.lt
            exact hr.other (hg6.block g hr.lt (fun e => hr.apart ho e))
        clear hown6 hg6 hal ho hb6
        refine (HNt.out _ H6.out.2.1).mono ?_
        rintro e w7 ⟨mb', rfl, hg7, hmb', hrow7⟩
        have H7 : Hid (mb' = decide (0 < gk - 1) ∧ (0 < gk - 1 → Row g k (dgs D.q k (a + 1)) w7) ∧ LLx g wa.heap.size v' (nrL D k1 n xs y r (a + 1)) w7 ∧ Below wa.heap.size wa w7) := ⟨hmb', hrow7, H6.out.1.apart H6.out.2.1 hg7, H6.out.2.2.grown hg7 H6.out.2.2.size (fun q hq => by cases hq; exact hgw)⟩
        clear hg7 hmb' hrow7 hc0
        go_wp2
        go_roundg (gk - 1)
        case measure => omega
        case rel => exact ⟨a + 1, mb', by omega, rfl, H7.out⟩
      · have HN2 : Hid (nrL D k1 n xs y r (a + 1) = nrL D k1 n xs y r a) := by show _ = _; rw [HNx.out, if_neg hle, List.append_nil]
        have hc0 := (HX.out.1.below (B := wa.heap.size) H3.out.2.2.1 (by have := HX.out.2; omega)).c0
        go_wp2_with fail
        refine (HNt.out _ H3.out.1).mono ?_
        rintro e w7 ⟨mb', rfl, hg7, hmb', hrow7⟩
        have H7 : Hid (mb' = decide (0 < gk - 1) ∧ (0 < gk - 1 → Row g k (dgs D.q k (a + 1)) w7) ∧ LLx g wa.heap.size u12 (nrL D k1 n xs y r (a + 1)) w7 ∧ Below wa.heap.size wa w7) := ⟨hmb', hrow7, by rw [HN2.out]; exact H3.out.2.1.apart H3.out.1 hg7, H3.out.2.2.1.grown hg7 H3.out.2.2.1.size (fun q hq => by cases hq; exact hgw)⟩
        clear hg7 hmb' hrow7 hc0
        go_wp2
        go_roundg (gk - 1)
        case measure => omega
        case rel => exact ⟨a + 1, mb', by omega, rfl, H7.out⟩
    · have hmb : mb = false := by rw [HG.out.1, decide_eq_false hgk]
      subst hmb
      have hae : N = a := by omega
      subst hae
      go_wp2
      go_ret
      exact ⟨_, rfl, HG.out.2.2.1.lls.mono (by have := HX.out.2; omega), bel_up' HF.out.2.2.2.2.2.2.2.1 HG.out.2.2.2⟩
end Go.Proofs.Ytjkncdmbcckcdaa

/- What it says that places, a dimension and a whole word may be; the calls that say no. -/
namespace Go.Proofs.Ytjkncdmbcckcdaa
open Go.RowKit Go.Sort

theorem pch_ok {D : FD} {z : Nat → Int} : ∀ n, D.pch z n = 0 → (∀ i, i < n → D.has (z i) = true) ∧ ∀ i j, i < j → j < n → z i ≠ z j
  | 0, _ => ⟨fun i hi => absurd hi (by omega), fun i j _ hj => absurd hj (by omega)⟩
  | n + 1, h => by
    have h : (if D.pch z n ≠ 0 then D.pch z n else if D.has (z n) = true then (if z n ∈ zl n z then (7 : Int) else 0) else 2) = 0 := h
    by_cases h0 : D.pch z n = 0
    · rw [if_neg (fun x => x h0)] at h
      obtain ⟨h1, h2⟩ := pch_ok n h0
      by_cases h3 : D.has (z n) = true
      · rw [if_pos h3] at h
        by_cases h4 : z n ∈ zl n z
        · rw [if_pos h4] at h; cases h
        · refine ⟨fun i hi => ?_, fun i j hij hj => ?_⟩
          · by_cases e : i = n
            · rw [e]; exact h3
            · exact h1 i (by omega)
          · by_cases e : j = n
            · intro e2
              refine h4 ?_
              unfold zl
              exact List.mem_map.2 ⟨i, List.mem_range.2 (by omega), by rw [e2, e]⟩
            · exact h2 i j hij (by omega)
      · rw [if_neg h3] at h; cases h
    · rw [if_pos h0] at h; exact absurd h h0
theorem rchk_ok {D : FD} {n : Nat} {z : Nat → Int} {k : Int} (h : D.rchk n z k = 0) : 1 ≤ n ∧ n ≤ 64 ∧ D.pch z n = 0 ∧ 1 ≤ k ∧ k ≤ (n : Int) := by
  unfold FD.rchk at h
  by_cases h1 : n < 1 ∨ 64 < n
  · rw [if_pos h1] at h; cases h
  · rw [if_neg h1] at h
    by_cases h2 : D.pch z n = 0
    · rw [if_neg (fun x => x h2)] at h
      by_cases h3 : k < 1 ∨ (n : Int) < k
      · rw [if_pos h3] at h; cases h
      · exact ⟨by omega, by omega, h2, by omega, by omega⟩
    · rw [if_pos h2] at h; exact absurd h h2
theorem hchk_ok {D : FD} {n m : Nat} {z y : Nat → Int} {k : Int} (h : D.hchk n z k m y = 0) : D.rchk n z k = 0 ∧ m = n ∧ ∀ j, j < m → D.has (y j) = true := by
  unfold FD.hchk at h
  by_cases h1 : D.wchk n z k m y = 0
  · rw [if_neg (fun x => x h1)] at h
    obtain ⟨h2, h3, h4⟩ := wchk_ok h1
    refine ⟨h2, h3, fun j hj => ?_⟩
    by_cases h5 : (-1 : Int) ∈ zl m y
    · rw [if_pos h5] at h; cases h
    · have h6 := h4 j hj
      unfold FD.wok at h6
      rcases Bool.or_eq_true _ _ ▸ h6 with h7 | h7
      · exfalso
        refine h5 ?_
        unfold zl
        exact List.mem_map.2 ⟨j, List.mem_range.2 hj, of_decide_eq_true h7⟩
      · exact h7
  · rw [if_pos h1] at h; exact absurd h h1
theorem has_el {D : FD} (F : Fld D) {n : Nat} {z : Nat → Int} (h : ∀ j, j < n → D.has (z j) = true) : El D (zc n z) := fun j => by
  unfold zc
  split
  · next hj =>
    obtain ⟨t, e, ht⟩ := has_nat (h j hj)
    rw [e, Int.toNat_natCast]; exact ht
  · exact zero_lt' F
theorem has_sl {D : FD} {ao : Option Addr} {n : Nat} {z : Nat → Int} {w : World} (h : ∀ j, j < n → D.has (z j) = true) (hs : SlZ ao n z w) : Sl ao n (zc n z) w := fun j hj => by
  obtain ⟨b, off, e, hc⟩ := hs j hj
  obtain ⟨t, e2, _⟩ := has_nat (h j hj)
  refine ⟨b, off, e, ?_⟩
  rw [hc]
  unfold zc
  rw [if_pos hj, e2, Int.toNat_natCast]
/-- What places that may be are, as elements. -/
theorem places_ok {D : FD} (F : Fld D) {n : Nat} {z : Nat → Int} {k : Int} (h : D.rchk n z k = 0) : (∀ i, i < n → zc n z i < D.q) ∧ ∀ i j, i < n → j < n → i ≠ j → zc n z i ≠ zc n z j := by
  obtain ⟨_, _, h1, _, _⟩ := rchk_ok h
  obtain ⟨h2, h3⟩ := pch_ok n h1
  refine ⟨fun i _ => has_el F h2 i, fun i j hi hj hij e => ?_⟩
  obtain ⟨a, ea, _⟩ := has_nat (h2 i hi)
  obtain ⟨b, eb, _⟩ := has_nat (h2 j hj)
  unfold zc at e
  rw [if_pos hi, if_pos hj, ea, eb, Int.toNat_natCast, Int.toNat_natCast] at e
  rcases Nat.lt_or_ge i j with h4 | h4
  · exact h3 i j h4 hj (by rw [ea, eb, e])
  · exact h3 j i (by omega) hi (by rw [ea, eb, e])

set_option maxHeartbeats 2000000 in
set_option maxRecDepth 100000 in
theorem within_err (q e : Int) (he : e ≠ 0) (k r : Int) {xo yo : Option Addr} {n cx m cy : Nat} {w : World} (h : Calls Try.prog 48 #[.int .i64 q, .slice xo n cx, .int .i64 k, .slice yo m cy] w fun x w' => x = .returned (.int .i64 e) ∧ Below w.heap.size w w') :
    Calls Try.prog 13 #[.int .i64 q, .slice xo n cx, .int .i64 k, .slice yo m cy, .int .i64 r] w fun x w' => x = .returned (.tuple #[.slice none 0 0, .int .i64 e]) ∧ Below w.heap.size w w' := by
  have HC : Hid (Calls Try.prog 48 #[.int .i64 q, .slice xo n cx, .int .i64 k, .slice yo m cy] w fun x w' => x = .returned (.int .i64 e) ∧ Below w.heap.size w w') := h
  have hz : (e != 0) = true := by rw [bne_iff_ne]; exact he
  clear h he
  go_enter Try.func13, Try.ntmps13
  go_wp2_with fail
  refine HC.out.mono ?_
  rintro x w1 ⟨rfl, hb1⟩
  have H1 : Hid (Below w.heap.size w w1) := hb1
  clear hb1
  go_wp2
  go_ret2
  exact ⟨rfl, H1.out⟩
set_option maxHeartbeats 2000000 in
set_option maxRecDepth 100000 in
theorem within_many {q k : Nat} (hq : 2 ≤ q) (hq2 : q ≤ 64) (hk : k ≤ 1000) (hN : 4096 < q ^ k) (r : Int) {xo yo : Option Addr} {n cx m cy : Nat} {w : World} (h : Calls Try.prog 48 #[.int .i64 q, .slice xo n cx, .int .i64 k, .slice yo m cy] w fun x w' => x = .returned (.int .i64 0) ∧ Below w.heap.size w w') :
    Calls Try.prog 13 #[.int .i64 q, .slice xo n cx, .int .i64 k, .slice yo m cy, .int .i64 r] w fun x w' => x = .returned (.tuple #[.slice none 0 0, .int .i64 4]) ∧ Below w.heap.size w w' := by
  have HC : Hid (Calls Try.prog 48 #[.int .i64 q, .slice xo n cx, .int .i64 k, .slice yo m cy] w fun x w' => x = .returned (.int .i64 0) ∧ Below w.heap.size w w') := h
  have HMs : Hid (∀ wx, Calls Try.prog 49 #[.int .i64 q, .int .i64 k] wx fun e w' => w' = wx ∧ e = .returned (.tuple #[.int .i64 0, .int .i64 4])) := fun wx => by
    refine (messages_any rfl hq hq2 hk wx).mono ?_
    rintro e w' ⟨h1, ⟨h3, _⟩ | ⟨_, h2⟩⟩
    · omega
    · exact ⟨h1, h2⟩
  clear h hN
  go_enter Try.func13, Try.ntmps13
  go_wp2_with fail
  refine HC.out.mono ?_
  rintro x w1 ⟨rfl, hb1⟩
  have H1 : Hid (Below w.heap.size w w1) := hb1
  clear hb1
  go_wp2_with fail
  refine (HMs.out w1).mono ?_
  rintro x w' ⟨hw, rfl⟩
  have hw := hw.symm
  subst hw
  go_wp2
  go_ret2
  exact ⟨rfl, H1.out⟩
end Go.Proofs.Ytjkncdmbcckcdaa

/- Places and words where no field has that many elements. -/
namespace Go.Proofs.Ytjkncdmbcckcdaa
open Go.RowKit Go.Sort

set_option maxHeartbeats 2000000 in
set_option maxRecDepth 100000 in
theorem word_none (q : Int) (h : ∀ D ∈ fieldsL, (D.q : Int) ≠ q) {xo yo : Option Addr} {n cx m cy : Nat} (k : Int) (w : World) :
    Calls Try.prog 86 #[.int .i64 q, .slice xo n cx, .int .i64 k, .slice yo m cy] w fun e w' => e = .returned (.int .i64 1) ∧ w' = w := by
  have HC : Hid (Calls Try.prog 89 #[.int .i64 q, .slice xo n cx, .int .i64 k] w fun e w' => e = .returned (.int .i64 1) ∧ w' = w) := rcheck_none q h _ k w
  clear h
  go_enter Try.func86, Try.ntmps86
  go_wp2_with fail
  refine HC.out.mono ?_
  rintro e w' ⟨rfl, hw⟩
  have hw := hw.symm
  subst hw
  go_wp2
  go_ret
  exact ⟨rfl, rfl⟩
set_option maxHeartbeats 2000000 in
set_option maxRecDepth 100000 in
theorem checkWhole_none (q : Int) (h : ∀ D ∈ fieldsL, (D.q : Int) ≠ q) {xo yo : Option Addr} {n cx m cy : Nat} (k : Int) (w : World) :
    Calls Try.prog 48 #[.int .i64 q, .slice xo n cx, .int .i64 k, .slice yo m cy] w fun e w' => e = .returned (.int .i64 1) ∧ w' = w := by
  have HC : Hid (Calls Try.prog 86 #[.int .i64 q, .slice xo n cx, .int .i64 k, .slice yo m cy] w fun e w' => e = .returned (.int .i64 1) ∧ w' = w) := word_none q h k w
  clear h
  go_enter Try.func48, Try.ntmps48
  go_wp2_with fail
  refine HC.out.mono ?_
  rintro e w' ⟨rfl, hw⟩
  have hw := hw.symm
  subst hw
  go_wp2
  go_ret
  exact ⟨rfl, rfl⟩
set_option maxHeartbeats 2000000 in
set_option maxRecDepth 100000 in
theorem reedMay_none (q : Int) (h : ∀ D ∈ fieldsL, (D.q : Int) ≠ q) {xo : Option Addr} {n cx : Nat} (k : Int) (w : World) :
    Calls Try.prog 83 #[.int .i64 q, .slice xo n cx, .int .i64 k] w fun e w' => e = .returned (.int .i64 1) ∧ Below w.heap.size w w' := by
  have HB : Hid (∀ D ∈ fieldsL, (D.q : Int) ≠ q) := h
  clear h
  go_enter Try.func83, Try.ntmps83
  go_wp2_with fail
  refine (rfield_none q w HB.out).mono ?_
  rintro e w1 ⟨rfl, hb1⟩
  have HA : Hid (Below w.heap.size w w1) := hb1
  clear hb1
  unfold rf0
  go_wp2
  go_ret
  exact ⟨rfl, by first | exact HA.out | exact HA.out.alloc HA.out.size _⟩
set_option maxHeartbeats 2000000 in
set_option maxRecDepth 100000 in
theorem reedWord_none (q : Int) (h : ∀ D ∈ fieldsL, (D.q : Int) ≠ q) {xo yo : Option Addr} {n cx m cy : Nat} (k : Int) (w : World) :
    Calls Try.prog 40 #[.int .i64 q, .slice xo n cx, .int .i64 k, .slice yo m cy] w fun e w' => e = .returned (.int .i64 1) ∧ Below w.heap.size w w' := by
  have HC : Hid (Calls Try.prog 83 #[.int .i64 q, .slice xo n cx, .int .i64 k] w fun e w' => e = .returned (.int .i64 1) ∧ Below w.heap.size w w') := reedMay_none q h k w
  clear h
  go_enter Try.func40, Try.ntmps40
  go_wp2_with fail
  refine HC.out.mono ?_
  rintro e w1 ⟨rfl, hb1⟩
  have HA : Hid (Below w.heap.size w w1) := hb1
  clear hb1
  go_wp2
  go_ret
  exact ⟨rfl, HA.out⟩
set_option maxHeartbeats 2000000 in
set_option maxRecDepth 100000 in
theorem wholeWord_none (q : Int) (h : ∀ D ∈ fieldsL, (D.q : Int) ≠ q) {xo yo : Option Addr} {n cx m cy : Nat} (k : Int) (w : World) :
    Calls Try.prog 9 #[.int .i64 q, .slice xo n cx, .int .i64 k, .slice yo m cy] w fun e w' => e = .returned (.int .i64 1) ∧ Below w.heap.size w w' := by
  have HC : Hid (Calls Try.prog 40 #[.int .i64 q, .slice xo n cx, .int .i64 k, .slice yo m cy] w fun e w' => e = .returned (.int .i64 1) ∧ Below w.heap.size w w') := reedWord_none q h k w
  clear h
  go_enter Try.func9, Try.ntmps9
  go_wp2_with fail
  refine HC.out.mono ?_
  rintro e w1 ⟨rfl, hb1⟩
  have HA : Hid (Below w.heap.size w w1) := hb1
  clear hb1
  go_wp2
  go_ret
  exact ⟨rfl, HA.out⟩
end Go.Proofs.Ytjkncdmbcckcdaa
