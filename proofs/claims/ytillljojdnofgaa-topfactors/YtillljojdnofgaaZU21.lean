/- The program's parts of a polynomial: the walk (parts). -/
import Derived.Test.YtillljojdnofgaaZU20
import Derived.WalkMore
import Derived.ScopeJumps
import Derived.Deep.LoopGhost
namespace Go.Proofs.Ytillljojdnofgaa
open Go.RowKit

/-- A scope that begins with its only label: what holds at the label, each time. -/
theorem scope_again {P : Program} {Q : Exit → Act → World → Prop} {a : Act} {w : World} {rest : Code} (l : Nat) (J : Act → World → Prop) (m : Act → World → Nat) (hJ : J a w)
    (pass : ∀ a w, J a w → rest.wp P (Exit.jump l (fun a' w' => J a' w' ∧ m a' w' < m a w) Q) a w) : (Code.scope ((Code.label l).seq rest)).wp P Q a w := by
  refine wp_scope_jumps l J m (rest := Code.skip.seq rest) (by simp [findLabel]) ?_ (fun a w h => wp_seq (wp_skip (pass a w h)))
  refine wp_seq (wp_label ?_)
  refine wp_mono (pass a w hJ) ?_
  intro e a' w' h
  cases e with
  | goto l' => exact ⟨h.1, h.2.1⟩
  | normal => exact h
  | exit id => exact h
  | ret => exact h
  | panic ch => exact h
  | outgrown => exact h

theorem OwnV.open_ge {base : Nat} {v : Value} {l : List Value} {w : World} (h : OwnV base v l w) : ∀ k, v.ownBlock = some k → base ≤ k := by
  intro k hk
  rcases h.2 with ⟨h1, _⟩ | ⟨g, cap, cur, hv, hg, _⟩
  · rw [h1] at hk; cases hk
  · rw [hv] at hk
    have hk : some g = some k := hk
    cases hk; exact hg

theorem after_one {D : FD} (hD : D ∈ fieldsL) (w : World) :
    Calls Try.prog 91 #[.int .i64 D.q, .slice (some ⟨w.heap.size, 0, none⟩) 1 1] (w.alloc (.cells #[.int .i64 1] 3)) fun e w' => ∃ v d' c', e = .returned v ∧ Elm v (d', c') w' ∧ Mn D d' c' ∧ Aft D 0 pone d' c' ∧ Below w.heap.size w w' := by
  have hF := fld hD
  have hp := pa_one hF w
  have hbl : Below w.heap.size w (w.alloc (.cells #[.int .i64 1] 3)) := (Below.refl _ _).alloc (Nat.le_refl _) _
  refine (after_any hD (d := 0) (ca := 1) ⟨el_one hF, pone_bd, rfl⟩ (by omega) hp.sl hp.lt hp.nil).mono ?_
  rintro e w' ⟨v, d', c', rfl, ho, hm, ha, hb⟩
  exact ⟨v, d', c', rfl, ho.elm, hm, ha, bel_up hbl hb⟩
theorem after_elm {D : FD} (hD : D ∈ fieldsL) {v : Value} {d : Nat} {c : Nat → Nat} {w : World} (hc : Mn D d c) (hd : d ≤ 1000) (h : Elm v (d, c) w) :
    Calls Try.prog 91 #[.int .i64 D.q, v] w fun e w' => ∃ v' d' c', e = .returned v' ∧ Elm v' (d', c') w' ∧ Mn D d' c' ∧ Aft D d c d' c' ∧ Below w.heap.size w w' := by
  obtain ⟨ao, ca, rfl, _, _, hs, hl, hn⟩ := h.sl
  refine (after_any hD hc hd hs hl hn).mono ?_
  rintro e w' ⟨v, d', c', rfl, ho, hm, ha, hb⟩
  exact ⟨v, d', c', rfl, ho.elm, hm, ha, hb⟩

set_option maxHeartbeats 2000000 in
set_option maxRecDepth 100000 in
theorem parts_any {F T : Nat} {D : FD} (hD : D ∈ fieldsL) {g : Nat → Value} {w : World} (h : FAt F T D g w) {va : Value} {da : Nat} {a0 : Nat → Nat} (hm : Mn D da a0) (hda : da ≤ 127) (ha : Elm va (da, a0) w) :
    Calls Try.prog 75 #[.pointer (some ⟨F, 0, none⟩), va] w fun e w' => ∃ v L, e = .returned v ∧ LLs w.heap.size v L w' ∧ Pre D L a0 pone ∧ Below w.heap.size w w' := by
  have HF : Hid (FAt F T D g w ∧ D ∈ fieldsL ∧ Mn D da a0 ∧ Elm va (da, a0) w) := ⟨h, hD, hm, ha⟩
  clear h hD hm ha
  go_enter Try.func75, Try.ntmps75
  go_wp2_with (go_at_call 26; refine (size_any HF.out.1).mono ?_; rintro e w' ⟨rfl, hw⟩; have hw := hw.symm; subst hw)
  refine (after_one HF.out.2.1 w).mono ?_
  rintro e w1 ⟨vd, dx, x, rfl, hel, hmx, haf, hb1⟩
  have HS : Hid (dx = 1 ∧ PSt D a0 a0 x [] da dx ∧ Elm vd (dx, x) w1 ∧ Below w.heap.size w w1) := by
    have h := pst_start HF.out.2.2.1 hmx haf
    exact ⟨h.1, h.2, hel, hb1⟩
  clear hel hmx haf hb1
  go_wp2
  go_loopg [1, 5, 6] (D.q ^ 250 - D.key dx x) (fun k va vo vd wr => ∃ (da dx : Nat) (a x : Nat → Nat) (L : List (Nat × (Nat → Nat))), L.length + da ≤ 127 ∧ dx ≤ 200 ∧ Hid (PSt D a0 a x L da dx ∧ k = D.q ^ 250 - D.key dx x) ∧ Elm va (da, a) wr ∧ Elm vd (dx, x) wr ∧ LLs w.heap.size vo L wr ∧ Below w.heap.size w wr)
  case atStart =>
    have h1 := HS.out.1
    exact ⟨da, dx, a0, x, [], by rw [List.length_nil]; omega, by omega, ⟨HS.out.2.1, rfl⟩, HF.out.2.2.2.below HS.out.2.2.2 (Nat.le_refl _), HS.out.2.2.1, LLs.nil _ _, HS.out.2.2.2⟩
  case round =>
    clear HS hda
    obtain ⟨da1, dx1, a, x1, L, hda, hdx, HP, hea, hex, hls, hbel⟩ := hrel
    have HG : Hid (Elm u1 (da1, a) wr ∧ Elm u6 (dx1, x1) wr ∧ LLs w.heap.size u5 L wr ∧ Below w.heap.size w wr) := ⟨hea, hex, hls, hbel⟩
    obtain ⟨ga, ca, rfl, _, _, _⟩ := hea
    obtain ⟨gx, cx, rfl, _, _, _⟩ := hex
    clear hls hbel
    by_cases hlt : 2 * (dx1 + 1) ≤ da1 + 2
    · go_wp2
      refine scope_again 0 (fun a' w' => ∃ (da2 : Nat) (a2 : Nat → Nat) (L2 : List (Nat × (Nat → Nat))) (v1 v5 v7 v8 v13 v14 v15 v16 v17 v18 v19 v20 v21 v22 v23 v24 v25 v26 v27 v28 v29 v30 v31 v32 v33 v34 v35 v36 v37 v38 v39 : Value), a' = { tmps := #[.pointer (some ⟨F, 0, none⟩), v1, undef, undef, .slice none 0 0, v5, .slice (some ⟨gx, 0, none⟩) (dx1 + 1) cx, v7, v8, .pointer (some ⟨F, 0, none⟩), .int .i64 D.q, .slice (some ⟨w.heap.size, 0, none⟩) 1 1, vd, v13, v14, v15, v16, v17, v18, v19, v20, v21, v22, v23, v24, v25, v26, v27, v28, v29, v30, v31, v32, v33, v34, v35, v36, v37, v38, v39, undef, undef, undef, undef, undef, undef, undef, undef], defers := [] } ∧ Hid (PSt D a0 a2 x1 L2 da2 dx1) ∧ L2.length + da2 ≤ 127 ∧ Elm v1 (da2, a2) w' ∧ Elm (.slice (some ⟨gx, 0, none⟩) (dx1 + 1) cx) (dx1, x1) w' ∧ LLs w.heap.size v5 L2 w' ∧ Below w.heap.size w w') (fun a' _ => slLen (a'.tmps.getD 1 undef)) ?_ ?_
      · exact ⟨da1, a, L, _, _, _, _, _, _, _, _, _, _, _, _, _, _, _, _, _, _, _, _, _, _, _, _, _, _, _, _, _, _, _, rfl, HP.out.1, hda, HG.out.1, HG.out.2.1, HG.out.2.2.1, HG.out.2.2.2⟩
      · clear HG
        rintro a' w' ⟨da2, a2, L2, v1, v5, v7, v8, v13, v14, v15, v16, v17, v18, v19, v20, v21, v22, v23, v24, v25, v26, v27, v28, v29, v30, v31, v32, v33, v34, v35, v36, v37, v38, v39, rfl, HP2, hda2, he1, he6, hls, hbel⟩
        have HG : Hid (Elm v1 (da2, a2) w' ∧ Elm (.slice (some ⟨gx, 0, none⟩) (dx1 + 1) cx) (dx1, x1) w' ∧ LLs w.heap.size v5 L2 w' ∧ Below w.heap.size w w' ∧ FAt F T D g w') := ⟨he1, he6, hls, hbel, HF.out.1.below hbel HF.out.1.ltF HF.out.1.ltT⟩
        obtain ⟨g2, c2, rfl, _, _, _⟩ := he1
        clear he6 hls hbel
        go_wp2_with fail
        refine (div_found HF.out.2.1 HG.out.2.2.2.2 HP2.out.mna HP2.out.mnx HG.out.1 HG.out.2.1 (by omega) (by omega)).mono ?_
        rintro e w3 ⟨vq, vr, rfl, hb3, hr⟩
        rcases hr with ⟨db, b, ro, rc, rfl, heq, hmb, hdd, hab⟩ | ⟨hnp, ro, rn, rc, rfl⟩
        · obtain ⟨gq, cq, rfl, hq1, hq2, hq3⟩ := heq
          have HD : Hid (Elm (.slice (some ⟨gq, 0, none⟩) (db + 1) cq) (db, b) w3 ∧ Below w'.heap.size w' w3 ∧ PSt D a0 b x1 (L2 ++ [(dx1, x1)]) db dx1) := by
            refine ⟨⟨gq, cq, rfl, hq1, hq2, hq3⟩, hb3, ?_⟩
            obtain ⟨db', h1, h2, h3⟩ := pst_found HF.out.2.1 HP2.out hmb.el hmb.bd hab
            rw [show db = db' from by omega]; exact h3
          have hpos := HP2.out.pos
          clear hb3 hq1 hq2 hq3 hmb hab
          have HC : Hid (Calls Try.prog 78 #[.slice (some ⟨gx, 0, none⟩) (dx1 + 1) cx] w3 fun e w4 => ∃ v, e = .returned v ∧ Elm v (dx1, x1) w4 ∧ Below w3.heap.size w3 w4) := by
            obtain ⟨ao, ca, e, _, _, hs, hl, hn⟩ := (HG.out.2.1.below HD.out.2.1 (Nat.le_refl _)).sl
            cases e
            refine (clone_any hs (by show dx1 + 1 ≤ 1000000; omega) hn hl).mono ?_
            rintro e w4 ⟨v, rfl, ho, hb⟩
            exact ⟨v, rfl, ho.elm, hb⟩
          go_wp2_with (first
            | (go_at_call 78; refine HC.out.mono ?_; rintro e w4 ⟨vc, rfl, hec, hb4⟩; obtain ⟨gc, cc, rfl, hc1, hc2, hc3⟩ := hec; have HL4 := HG.out.2.2.1.below (bel_up HD.out.2.1 hb4) (Nat.le_refl _); obtain ⟨l, hov, hels⟩ := HL4; have hll : l.length ≤ 1000000 := by rw [hels.1]; omega)
            | (at_builtin; refine append_sl rfl _ _ rfl w.heap.size v5 l rfl (hov.below ((Below.refl _ _).alloc (Nat.le_refl _) _) (Nat.le_refl _)) ⟨w4.heap.size, 0, none⟩ 1 (.slice (some ⟨gc, 0, none⟩) (dx1 + 1) cc) rfl rfl (by rw [cell_of_row _ _ _ _ _ (0, 0) (two_new _)]; rfl) hll (by have h1 := HG.out.2.2.2.1.size; have h2 := HD.out.2.1.size; have h3 := hb4.size; simp; omega) ?_; intro v' w5 hown5 hgrow5))
          go_step3
          have hal : Below w4.heap.size w4 (w4.alloc (.cells #[.slice (some ⟨gc, 0, none⟩) (dx1 + 1) cc] 22)) := (Below.refl _ _).alloc (Nat.le_refl _) _
          have ho := hov.below hal (Nat.le_refl _)
          have h34 := bel_up hb4 hal
          have h24 := bel_up HD.out.2.1 h34
          have hx : Elm (.slice (some ⟨gc, 0, none⟩) (dx1 + 1) cc) (dx1, x1) w4 := ⟨gc, cc, rfl, hc1, hc2, hc3⟩
          have hs1 := HG.out.2.2.2.1.size
          have hs2 := h24.size
          refine ⟨rfl, ⟨db, b, L2 ++ [(dx1, x1)], _, _, _, _, _, _, _, _, _, _, _, _, _, _, _, _, _, _, _, _, _, _, _, _, _, _, _, _, _, _, _, rfl, HD.out.2.2, ?_, (HD.out.1.below h34 (Nat.le_refl _)).grown ho hgrow5, (HG.out.2.1.below h24 (Nat.le_refl _)).grown ho hgrow5, ⟨_, hown5, ((hels.below hal (Nat.le_refl _)).snoc (hx.below hal (Nat.le_refl _))).grown ho hgrow5⟩, ?_⟩, ?_⟩
          · rw [List.length_append, List.length_singleton]; omega
          · exact (bel_up HG.out.2.2.2.1 h24).grown hgrow5 (by omega) ho.open_ge
          · simp [slLen]; omega
        · have HD : Hid (Below w'.heap.size w' w3 ∧ ¬ PD D x1 a2) := ⟨hb3, hnp⟩
          clear hb3 hnp
          have HA : Hid (Calls Try.prog 91 #[.int .i64 D.q, .slice (some ⟨gx, 0, none⟩) (dx1 + 1) cx] w3 fun e w4 => ∃ v' d' c', e = .returned v' ∧ Elm v' (d', c') w4 ∧ Mn D d' c' ∧ Aft D dx1 x1 d' c' ∧ Below w3.heap.size w3 w4) :=
            after_elm HF.out.2.1 HP2.out.mnx (by omega) (HG.out.2.1.below HD.out.1 (Nat.le_refl _))
          have HZ : Hid (Calls Try.prog 26 #[.pointer (some ⟨F, 0, none⟩)] w3 fun e w4 => e = .returned (.int .i64 D.q) ∧ w4 = w3) := size_any (HG.out.2.2.2.2.below HD.out.1 HG.out.2.2.2.2.ltF HG.out.2.2.2.2.ltT)
          go_wp2_with (first
            | (go_at_call 26; refine HZ.out.mono ?_; rintro e w4 ⟨rfl, hw⟩; have hw := hw.symm; subst hw)
            | (go_at_call 91; refine HA.out.mono ?_; rintro e w5 ⟨vn, dn, xn, rfl, hen, hmn, han, hb5⟩))
          simp only [Exit.jump]
          go_wp2_with (first
            | (go_at_call 26; refine HZ.out.mono ?_; rintro e w4 ⟨rfl, hw⟩; have hw := hw.symm; subst hw)
            | (go_at_call 91; refine HA.out.mono ?_; rintro e w5 ⟨vn, dn, xn, rfl, hen, hmn, han, hb5⟩))
          have hnx := pst_next (fld HF.out.2.1) HP2.out HD.out.2 hmn han
          have hkl := key_lt (fld HF.out.2.1) HP2.out.mnx hdx
          have hgk := HP.out.2
          have hdn : dn ≤ 200 := by omega
          have hb25 := bel_up HD.out.1 hb5
          have HR : Hid (PSt D a0 a2 xn L2 da2 dn ∧ D.q ^ 250 - D.key dn xn < gk ∧ Elm vn (dn, xn) w5 ∧ Below w'.heap.size w' w5) := ⟨hnx.1, by omega, hen, hb25⟩
          clear hnx hkl hgk hmn han hen hb5 hb25
          go_roundg (D.q ^ 250 - D.key dn xn)
          case measure => exact HR.out.2.1
          case rel => exact ⟨da2, dn, a2, xn, L2, hda2, hdn, ⟨HR.out.1, rfl⟩, HG.out.1.below HR.out.2.2.2 (Nat.le_refl _), HR.out.2.2.1, HG.out.2.2.1.below HR.out.2.2.2 (Nat.le_refl _), bel_up HG.out.2.2.2.1 HR.out.2.2.2⟩
    · have hd0 : da1 < 2 * dx1 := by omega
      by_cases h1 : 1 ≤ da1
      · have HE : Hid (Pre D (L ++ [(da1, a)]) a0 pone) := pst_end HF.out.2.1 HP.out.1 hd0 h1
        obtain ⟨l, hov, hels⟩ := HG.out.2.2.1
        have hll : l.length ≤ 1000000 := by rw [hels.1]; omega
        have HV : Hid (OwnV w.heap.size u5 l wr ∧ Elms l L wr) := ⟨hov, hels⟩
        clear hov hels
        go_wp2_with (at_builtin; refine append_sl rfl _ _ rfl w.heap.size u5 l rfl (HV.out.1.below ((Below.refl _ _).alloc (Nat.le_refl _) _) (Nat.le_refl _)) ⟨wr.heap.size, 0, none⟩ 1 (.slice (some ⟨ga, 0, none⟩) (da1 + 1) ca) rfl rfl (by rw [cell_of_row _ _ _ _ _ (0, 0) (two_new _)]; rfl) hll (by have h1 := HG.out.2.2.2.size; simp; omega) ?_; intro v' w5 hown5 hgrow5)
        go_ret
        have hal : Below wr.heap.size wr (wr.alloc (.cells #[.slice (some ⟨ga, 0, none⟩) (da1 + 1) ca] 22)) := (Below.refl _ _).alloc (Nat.le_refl _) _
        have ho := HV.out.1.below hal (Nat.le_refl _)
        have hs := HG.out.2.2.2.size
        refine ⟨v', rfl, L ++ [(da1, a)], ⟨_, hown5, ((HV.out.2.below hal (Nat.le_refl _)).snoc (HG.out.1.below hal (Nat.le_refl _))).grown ho hgrow5⟩, HE.out, ?_⟩
        refine (bel_up HG.out.2.2.2 hal).grown hgrow5 (by simp; omega) ?_
        intro k hk
        exact (ho.open_ge k hk)
      · have e0 : da1 = 0 := by omega
        subst e0
        have HE : Hid (Pre D L a0 pone) := pst_end0 HP.out.1
        go_wp2
        go_ret
        exact ⟨u5, rfl, L, HG.out.2.2.1, HE.out, HG.out.2.2.2⟩
end Go.Proofs.Ytillljojdnofgaa
