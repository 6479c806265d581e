/- The law's part on Help and Mend: storeMends. -/
import Derived.Test.YtbofcldmgjeklaaZKM25
import Derived.Test.YtbofcldmgjeklaaZKM12
import Derived.Test.YtbofcldmgjeklaaZI8
import Derived.Test.YtbofcldmgjeklaaZR9
import Derived.Deep.CutBlock
import Derived.Deep.DeepCutAuto
namespace Go.Proofs.Ytbofcldmgjeklaa
open Go.RowKit Go.Sort

theorem dot_ev {D : FD} (c : Nat → Nat) (x : Nat) : ∀ n, dot D c (D.xp x) n = D.ev c x n
  | 0 => rfl
  | n + 1 => by
    show D.ad (dot D c (D.xp x) n) (D.mul (c n) (D.xp x n)) = D.ad (D.ev c x n) (D.mul (c n) (D.xp x n))
    rw [dot_ev c x n]

theorem hlc_is (D : FD) (no : Nat) (zo : Nat → Int) (n d lost : Int) : hlc D no zo n d lost = if ((no : Nat) : Int) ≠ d then 6 else if D.allHas zo no = true then (if ¬ (0 ≤ lost ∧ lost < n) then 10 else 0) else 2 := by
  unfold hlc
  rw [nchk_allHas]
  by_cases c : ((no : Nat) : Int) = d
  · rw [if_neg (show ¬ ((no : Nat) : Int) ≠ d from fun x => x c)]
    by_cases c2 : D.allHas zo no = true
    · rw [if_pos c2, if_neg (show ¬ (0 : Int) ≠ 0 by decide), if_neg (show ¬ ((no : Nat) : Int) ≠ d from fun x => x c), if_pos c2]
    · rw [if_neg c2, if_pos (show (2 : Int) ≠ 0 by decide), if_neg (show ¬ ((no : Nat) : Int) ≠ d from fun x => x c), if_neg c2]
  · rw [if_pos (show ((no : Nat) : Int) ≠ d from c), if_pos (show (6 : Int) ≠ 0 by decide), if_pos (show ((no : Nat) : Int) ≠ d from c)]

set_option maxHeartbeats 8000000 in
set_option maxRecDepth 100000 in
theorem storeMends_any {D : FD} (hD : D ∈ fieldsL) (gen gm cm : Nat) {B F T : Nat} {g : Nat → Value} {n k d m ca hm hc m' cb : Nat} {ao ho bo : Option Addr} {z h : Nat → Int} {A : Nat → Option Addr} {N C : Nat → Nat} {Z : Nat → Nat → Int} {w : World} (hP : PlA B F (n : Nat) (k : Nat) (d : Nat) w) (hF : FAt F T D g w) (hM : ModAt D (.slice (some ⟨gm, 0, none⟩) (D.m + 1) cm) D.md w) (hA : Arg ao m ca z w) (hH : MatZ ho hm A N C Z w) (hB : Arg bo m' cb h w) (hm1 : m ≤ 1000) (hm2 : m' ≤ 1000) (hhm : hm ≤ 1000000) (hd1 : 1 ≤ d) (hd : d ≤ 15) (hn : n ≤ D.q) (lost : Int) :
    Calls Try.prog 18 #[.pointer (some ⟨B, 0, none⟩), .agg #[.int .i64 D.q, .int .i64 D.p, .int .i64 D.m, .int .i64 gen, .slice (some ⟨gm, 0, none⟩) (D.m + 1) cm], .int .i64 (n : Nat), .int .i64 (d : Nat), .slice ao m ca, .slice ho hm hc, .int .i64 lost, .slice bo m' cb] w fun e w' => e = .returned (.bool true) ∧ Below w.heap.size w w' := by
  obtain ⟨wa, hwa⟩ : ∃ wa, wa = w.alloc (.cells #[.int .i64 D.q, .int .i64 D.p, .int .i64 D.m, .int .i64 gen, .slice (some ⟨gm, 0, none⟩) (D.m + 1) cm] 31) := ⟨_, rfl⟩
  have hba : Below w.heap.size w wa := by rw [hwa]; exact (Below.refl _ _).alloc (Nat.le_refl _) _
  have hsa : wa.heap.size = w.heap.size + 1 := by rw [hwa]; simp
  have HX : Hid (Box w.heap.size D gen (.slice (some ⟨gm, 0, none⟩) (D.m + 1) cm) wa ∧ wa.heap.size = w.heap.size + 1 ∧ Below w.heap.size w wa ∧ ModAt D (.slice (some ⟨gm, 0, none⟩) (D.m + 1) cm) D.md wa ∧ D ∈ fieldsL ∧ Arg ao m ca z wa ∧ MatZ ho hm A N C Z wa ∧ PlA B F (n : Nat) (k : Nat) (d : Nat) wa ∧ FAt F T D g wa ∧ Arg bo m' cb h wa) := ⟨by rw [hwa]; exact box_new D gen _ w, hsa, hba, hM.below hba, hD, hA.below hba, hH.below hba, hP.below hba, hF.below hba hF.ltF hF.ltT, hB.below hba⟩
  have HBx : Hid (∀ wx, Below wa.heap.size wa wx → Box w.heap.size D gen (.slice (some ⟨gm, 0, none⟩) (D.m + 1) cm) wx) := fun wx hb => HX.out.1.below (B := wa.heap.size) hb (by omega)
  clear hD hba hsa hM hA hH hP hF hB
  go_enter Try.func18, Try.ntmps18
  go_upto_if 28 with fail
  rw [← hwa]
  clear hwa
  go_cut [17] (fun v17 wx => ∃ (oo : Option Addr) (no oc : Nat) (zo : Nat → Int), v17 = .slice oo no oc ∧ no ≤ 1000000 ∧ Hid (SlZ oo no zo wa) ∧ wx = wa)
  case first =>
    by_cases h0 : 0 < hm
    · have hb : (0 : Int) < (hm : Int) := by omega
      obtain ⟨b, off, rfl, hc0⟩ := HX.out.2.2.2.2.2.2.1.cell 0 h0
      rw [Nat.add_zero] at hc0
      go_wp2
      go_meet
      case rel => exact ⟨A 0, N 0, C 0, Z 0, rfl, HX.out.2.2.2.2.2.2.1.few 0 h0, HX.out.2.2.2.2.2.2.1.sl 0 h0, rfl⟩
    · have hb : ¬ (0 : Int) < (hm : Int) := by omega
      go_wp2
      go_meet
      case rel => exact ⟨none, 0, 0, fun _ => 0, rfl, by omega, (show Hid _ from fun j hj => absurd hj (by omega)), rfl⟩
  case rest =>
    obtain ⟨oo, no, oc, zo, hv17, hno, HO, hwc⟩ := hcut
    subst hv17
    have hwc := hwc.symm
    subst hwc
    obtain ⟨E, hE⟩ : ∃ E, E = hlc D no zo n d lost := ⟨_, rfl⟩
    have HHelp : Hid (∀ wx, Below wa.heap.size wa wx → Calls Try.prog 52 #[.pointer (some ⟨B, 0, none⟩), .slice oo no oc, .int .i64 lost] wx fun e w' => Below wx.heap.size wx w' ∧ ((E ≠ 0 ∧ e = .returned (.tuple #[.int .i64 0, .int .i64 E])) ∨ (E = 0 ∧ e = .returned (.tuple #[.int .i64 (D.ev (zc no zo) lost.toNat no : Nat), .int .i64 0])))) := fun wx hb => by
      rw [hE]
      exact shelp_any HX.out.2.2.2.2.1 (HX.out.2.2.2.2.2.2.2.1.below hb) (HX.out.2.2.2.2.2.2.2.2.1.below hb HX.out.2.2.2.2.2.2.2.2.1.ltF HX.out.2.2.2.2.2.2.2.2.1.ltT) (slz_below HO.out hb) hno (by omega) (by omega) lost
    have HMend : Hid (∀ wx, Below wa.heap.size wa wx → Calls Try.prog 56 #[.pointer (some ⟨B, 0, none⟩), .int .i64 lost, .slice ao m ca, .slice bo m' cb] wx (MeP D m z m' h n d lost wx)) := fun wx hb => smend_any HX.out.2.2.2.2.1 (HX.out.2.2.2.2.2.2.2.1.below hb) (HX.out.2.2.2.2.2.2.2.2.1.below hb HX.out.2.2.2.2.2.2.2.2.1.ltF HX.out.2.2.2.2.2.2.2.2.1.ltT) (HX.out.2.2.2.2.2.1.below hb) (HX.out.2.2.2.2.2.2.2.2.2.below hb) hm1 hm2 (by omega) (by omega) lost
    have HE : Hid (E = if ((no : Nat) : Int) ≠ (d : Int) then 6 else if D.allHas zo no = true then (if ¬ (0 ≤ lost ∧ lost < (n : Int)) then 10 else 0) else 2) := by
      show E = _
      rw [hE]
      exact hlc_is D no zo n d lost
    clear hE
    go_upto_block 0 with fail
    go_cut [18] (fun v18 wx => v18 = .int .i64 E ∧ Hid (Below wa.heap.size wa wx))
    case first =>
      by_cases c1 : ((no : Nat) : Int) = (d : Int)
      · have hz1 : (((no : Nat) : Int) != (d : Int)) = false := by rw [c1]; simp
        have HE1 : Hid (E = if D.allHas zo no = true then (if ¬ (0 ≤ lost ∧ lost < (n : Int)) then 10 else 0) else 2) := by have h := HE.out; rw [if_neg (by omega)] at h; exact h
        obtain ⟨t, ht⟩ : ∃ t, t = D.allHas zo no := ⟨_, rfl⟩
        have HEl : Hid (Calls Try.prog 13 #[.agg #[.int .i64 D.q, .int .i64 D.p, .int .i64 D.m, .int .i64 gen, .slice (some ⟨gm, 0, none⟩) (D.m + 1) cm], .slice oo no oc] wa fun e w' => e = .returned (.bool t) ∧ Below wa.heap.size wa w') := by rw [ht]; exact relements_any gen _ hno HO.out
        rw [← ht] at HE1
        obtain ⟨k0, k1, k2, k3, k4⟩ := HX.out.1
        clear ht c1 HE
        go_wp2_with fail
        refine HEl.out.mono ?_
        rintro e w1 ⟨rfl, hb1⟩
        have HB1 : Hid (Below wa.heap.size wa w1) := hb1
        clear hb1 k0 k1 k2 k3 k4
        cases t with
        | false =>
          have hE2 : E = 2 := by have h := HE1.out; simp at h; exact h
          clear HE1
          subst hE2
          go_wp2
          go_meet
          case rel => exact ⟨rfl, HB1.out⟩
        | true =>
          have HE2 : Hid (E = if ¬ (0 ≤ lost ∧ lost < (n : Int)) then 10 else 0) := by have h := HE1.out; rw [if_pos rfl] at h; exact h
          clear HE1
          by_cases c2 : lost < 0
          · have hE3 : E = 10 := by rw [HE2.out, if_pos (by omega)]
            clear HE2
            subst hE3
            go_wp2
            go_meet
            case rel => exact ⟨rfl, HB1.out⟩
          · by_cases c3 : (n : Int) ≤ lost
            · have hE3 : E = 10 := by rw [HE2.out, if_pos (by omega)]
              clear HE2
              subst hE3
              go_wp2
              go_meet
              case rel => exact ⟨rfl, HB1.out⟩
            · have hE3 : E = 0 := by rw [HE2.out, if_neg (by omega)]
              clear HE2
              subst hE3
              go_wp2
              go_meet
              case rel => exact ⟨rfl, HB1.out⟩
      · have hz1 : (((no : Nat) : Int) != (d : Int)) = true := by rw [bne_iff_ne]; exact c1
        have hE2 : E = 6 := by rw [HE.out, if_pos c1]
        clear HE c1
        subst hE2
        go_wp2
        go_meet
        case rel => exact ⟨rfl, Below.refl _ _⟩
    case rest =>
      obtain ⟨hv18, HB⟩ := hcut
      subst hv18
      obtain ⟨V, hV1, hV2⟩ : ∃ V : Nat, (E = 0 → V = D.ev (zc no zo) lost.toNat no) ∧ (E ≠ 0 → V = 0) := by
        by_cases c : E = 0
        · exact ⟨_, fun _ => rfl, fun x => absurd c x⟩
        · exact ⟨0, fun x => absurd x c, fun _ => rfl⟩
      have HV : Hid ((E = 0 → V = D.ev (zc no zo) lost.toNat no) ∧ (E ≠ 0 → V = 0)) := ⟨hV1, hV2⟩
      clear hV1 hV2
      go_upto_if 51 with fail
      go_cut [19] (fun v19 wx => v19 = .int .i64 (V : Nat) ∧ Hid (Below wa.heap.size wa wx))
      case first =>
        by_cases c : E = 0
        · have HNk : Hid (D.nchk no zo (d : Nat) = 0) := by
            show _ = _
            rw [nchk_allHas]
            have h := HE.out
            by_cases c1 : ((no : Nat) : Int) = (d : Int)
            · rw [if_neg (by omega)] at h ⊢
              cases hh : D.allHas zo no with
              | true => rfl
              | false => rw [hh] at h; simp at h; omega
            · rw [if_pos c1] at h; omega
          have hlx : 0 ≤ lost ∧ lost < (n : Int) := by
            have h := HE.out
            by_cases c2 : 0 ≤ lost ∧ lost < (n : Int)
            · exact c2
            · exfalso
              rw [if_pos c2] at h
              by_cases c1 : ((no : Nat) : Int) = (d : Int)
              · rw [if_neg (by omega)] at h
                cases hh : D.allHas zo no with
                | true => rw [hh] at h; simp at h; omega
                | false => rw [hh] at h; simp at h; omega
              · rw [if_pos c1] at h; omega
          obtain ⟨x, hx⟩ : ∃ x : Nat, lost = (x : Int) := ⟨lost.toNat, by omega⟩
          have hxq : x < D.q := by omega
          have HVe : Hid (V = D.ev (zc no zo) x no) := by
            have h := HV.out.1 c
            rw [hx, Int.toNat_natCast] at h
            exact h
          have hEz : (E == 0) = true := by rw [c]; rfl
          clear HV HE HHelp HMend hlx c
          subst hx
          have HPw : Hid (∀ q, Calls Try.prog 23 #[.agg #[.int .i64 D.q, .int .i64 D.p, .int .i64 D.m, .int .i64 gen, .slice (some ⟨gm, 0, none⟩) (D.m + 1) cm], .int .i64 (x : Nat), .int .i64 (d : Nat)] (wc.drewN q) fun e w' => ∃ v, e = .returned v ∧ OwnI wc.heap.size v (zl d fun j => ((D.xp x j : Nat) : Int)) w' ∧ Below wc.heap.size (wc.drewN q) w') := fun q => rpowers_any HX.out.2.2.2.2.1 gen gm cm hxq (by omega) ((HX.out.2.2.2.1.below HB.out).below (below_drewN2 (Below.refl _ _) q))
          have HSk : Hid (∀ wx, Below wa.heap.size wa wx → PwS w.heap.size D gen gm cm w.heap.size 0 D.q wx) := fun wx hb => by
            obtain ⟨c0, c1, c2, c3, c4⟩ := HBx.out wx hb
            exact ⟨c0, c1, c2, c3, c4, c0⟩
          have hS0 : PwS w.heap.size D gen gm cm w.heap.size 0 D.q wc.drew := HSk.out _ (below_drewN2 HB.out 1)
          go_wp2
          refine wp_region_noPanic ?_
          refine wp_region_L (S := PwS w.heap.size D gen gm cm w.heap.size 0 D.q) [] (by kernel_rfl) ?_
          refine wpAnyL_take (i := 0) (v := ?_) (by rw [List.getElem?_toArray]; rfl) (by decide +kernel) (by decide +kernel) (by decide +kernel) (by decide +kernel) (by decide +kernel) (fun _ _ _ h => h) hS0 (Or.inl ⟨by rfl, ?_⟩) ?_
          rotate_left
          · intro wz hSz; obtain ⟨z0, z1, z2, z3, z4, z5⟩ := hSz; go_simp; first | done | with_reducible rfl
          try simp only [Act.put, List.setIfInBounds_toArray, List.set_cons_zero, List.set_cons_succ]
          refine wpAnyL_take (i := 1) (v := ?_) (by rw [List.getElem?_toArray]; rfl) (by decide +kernel) (by decide +kernel) (by decide +kernel) (by decide +kernel) (by decide +kernel) (fun _ _ _ h => h) hS0 (Or.inl ⟨by rfl, ?_⟩) ?_
          rotate_left
          · intro wz hSz; obtain ⟨z0, z1, z2, z3, z4, z5⟩ := hSz; go_simp; first | done | with_reducible rfl
          try simp only [Act.put, List.setIfInBounds_toArray, List.set_cons_zero, List.set_cons_succ]
          refine wpAnyL_take (i := 2) (v := ?_) (by rw [List.getElem?_toArray]; rfl) (by decide +kernel) (by decide +kernel) (by decide +kernel) (by decide +kernel) (by decide +kernel) (fun _ _ _ h => h) hS0 (Or.inl ⟨by rfl, ?_⟩) ?_
          rotate_left
          · intro wz hSz; obtain ⟨z0, z1, z2, z3, z4, z5⟩ := hSz; go_simp; first | done | with_reducible rfl
          try simp only [Act.put, List.setIfInBounds_toArray, List.set_cons_zero, List.set_cons_succ]
          refine wpAnyL_take (i := 3) (v := ?_) (by rw [List.getElem?_toArray]; rfl) (by decide +kernel) (by decide +kernel) (by decide +kernel) (by decide +kernel) (by decide +kernel) (fun _ _ _ h => h) hS0 (Or.inl ⟨by rfl, ?_⟩) ?_
          rotate_left
          · intro wz hSz; obtain ⟨z0, z1, z2, z3, z4, z5⟩ := hSz; go_simp; first | done | with_reducible rfl
          try simp only [Act.put, List.setIfInBounds_toArray, List.set_cons_zero, List.set_cons_succ]
          refine wpAnyL_take (i := 4) (v := ?_) (by rw [List.getElem?_toArray]; rfl) (by decide +kernel) (by decide +kernel) (by decide +kernel) (by decide +kernel) (by decide +kernel) (fun _ _ _ h => h) hS0 (Or.inl ⟨by rfl, ?_⟩) ?_
          rotate_left
          · intro wz hSz; obtain ⟨z0, z1, z2, z3, z4, z5⟩ := hSz; go_simp; first | done | with_reducible rfl
          try simp only [Act.put, List.setIfInBounds_toArray, List.set_cons_zero, List.set_cons_succ]
          refine wpAnyL_one (i := 5) (by kernel_rfl) (by rw [List.getElem?_toArray]; rfl) (fun K hK => ?_)
          have HK : Hid _ := hK
          clear hK
          go_simp
          refine (HPw.out 1).mono ?_
          rintro e w2 ⟨v2, rfl, hown2, hb2⟩
          replace hb2 : Below wc.heap.size wc w2 := ⟨hb2.os, hb2.tape, hb2.output, hb2.size, hb2.block⟩
          have HB2 : Hid (Below wa.heap.size wa w2) := bel_up' HB.out hb2
          obtain ⟨po, pc, rfl, hpa⟩ := hown2.argN (by omega)
          have HDt : Hid (Calls Try.prog 22 #[.agg #[.int .i64 D.q, .int .i64 D.p, .int .i64 D.m, .int .i64 gen, .slice (some ⟨gm, 0, none⟩) (D.m + 1) cm], .slice oo no oc, .slice po d pc] w2 fun e w' => e = .returned (.int .i64 (V : Nat)) ∧ Below w2.heap.size w2 w') := by
            have hz := HNk.out
            have hnd : no = d := by have := (nchk_ok hz).1; omega
            have hsl := has_sl (nchk_ok hz).2 (slz_below HO.out HB2.out)
            show Calls _ _ _ _ _
            rw [HVe.out, ← dot_ev, hnd]
            rw [hnd] at hsl
            refine rdot_any HX.out.2.2.2.2.1 gen gm cm (by omega) (fun i hi => ?_) (fun i _ => xp_lt (fld HX.out.2.2.2.2.1) _ _) hsl (fun a ha => ?_) hpa.sl hpa.lt (HX.out.2.2.2.1.below HB2.out)
            · rw [← hnd]; exact zc_lt hz (by omega)
            · obtain ⟨b', off', e', hc'⟩ := hsl 0 (by omega)
              rw [ha] at e'
              cases e'
              exact cell_lt hc'
          have hS2 := HSk.out w2 HB2.out
          clear hown2 hb2 hpa
          refine HK.out _ _ (fun _ => hS2) ?_
          clear HK K
          refine wpAnyL_one (i := 6) (by kernel_rfl) (by rw [List.getElem?_toArray]; rfl) (fun K hK => ?_)
          have HK : Hid _ := hK
          clear hK
          go_simp
          refine HDt.out.mono ?_
          rintro e w3 ⟨rfl, hb3⟩
          have HB3 : Hid (Below wa.heap.size wa w3) := bel_up' HB2.out hb3
          have hS3 := HSk.out w3 HB3.out
          clear hb3
          refine HK.out _ _ (fun _ => hS3) ?_
          clear HK K
          refine wpAnyL_one (i := 7) (by kernel_rfl) (by rw [List.getElem?_toArray]; rfl) (fun K hK => ?_)
          have HK : Hid _ := hK
          clear hK
          go_simp
          refine HK.out _ _ (fun _ => hS3) ?_
          clear HK K
          refine wpAnyL_done (by kernel_rfl) (NoPanic.normal ?_)
          clear hS2 hS3 hS0
          go_wp2
          go_meet
          case rel => exact ⟨rfl, HB3.out⟩
        · have hEz : (E == 0) = false := by rw [beq_eq_false_iff_ne]; exact c
          have hV0 := HV.out.2 c
          clear HV HE c
          subst hV0
          go_wp2
          go_meet
          case rel => exact ⟨rfl, HB.out⟩
      case rest =>
        obtain ⟨hv19, HB1⟩ := hcut
        subst hv19
        go_wp2_with fail
        refine (HHelp.out _ HB1.out).mono ?_
        rintro e w4 ⟨hb4, he4⟩
        have HB4 : Hid (Below wa.heap.size wa w4) := bel_up' HB1.out hb4
        obtain ⟨V', hV'⟩ : ∃ V' : Nat, e = .returned (.tuple #[.int .i64 (V' : Nat), .int .i64 E]) ∧ Calls Try.prog 53 #[.int .i64 (V' : Nat), .int .i64 E, .int .i64 (V : Nat), .int .i64 E] w4 fun r w' => r = .returned (.bool true) ∧ w' = w4 := by
          rcases he4 with ⟨hne, rfl⟩ | ⟨he0, rfl⟩
          · exact ⟨0, rfl, num_err E hne _ w4⟩
          · refine ⟨V, ?_, ?_⟩
            · rw [HV.out.1 he0, he0]
            · rw [he0]; exact num_same _ w4
        have HNu : Hid (Calls Try.prog 53 #[.int .i64 (V' : Nat), .int .i64 E, .int .i64 (V : Nat), .int .i64 E] w4 fun r w' => r = .returned (.bool true) ∧ w' = w4) := hV'.2
        have he5 := hV'.1
        clear hV' he4 hb4 HB HB1 HE HV HHelp
        subst he5
        go_wp2_with fail
        refine HNu.out.mono ?_
        rintro e w5 ⟨rfl, hw5⟩
        have hw5 := hw5.symm
        subst hw5
        clear HNu
        have HM0 : Hid (mdc D m z m' h n d lost = if ¬ (0 ≤ lost ∧ lost < (n : Int)) then 10 else if ndchk m z n d ≠ 0 then ndchk m z n d else if lost ∈ zl m z then 7 else D.nchk m' h (m : Nat)) := rfl
        by_cases c1 : lost < 0
        · have HMe : Hid (mdc D m z m' h n d lost = 10 ∧ (10 : Int) ≠ 0) := ⟨by rw [HM0.out, if_pos (by omega)], by decide⟩
          go_wp2_with fail
          refine (HMend.out w4 HB4.out).mono ?_
          rintro e w8 ⟨hb8, ⟨_, rfl⟩ | ⟨hz0, _⟩⟩
          · have HB8 : Hid (Below w.heap.size w w8) := bel_up' (bel_up' HX.out.2.2.1 HB4.out) hb8
            rw [HMe.out.1]
            clear hb8
            go_wp2_with fail
            refine (list_err2 10 HMe.out.2 none 0 _ w8).mono ?_
            rintro e w9 ⟨rfl, hw9⟩
            have hw9 := hw9.symm
            subst hw9
            go_wp2
            go_ret
            exact ⟨rfl, HB8.out⟩
          · rw [HMe.out.1] at hz0
            exact absurd hz0 HMe.out.2
        · by_cases c2 : (n : Int) ≤ lost
          · have HMe : Hid (mdc D m z m' h n d lost = 10 ∧ (10 : Int) ≠ 0) := ⟨by rw [HM0.out, if_pos (by omega)], by decide⟩
            go_wp2_with fail
            refine (HMend.out w4 HB4.out).mono ?_
            rintro e w8 ⟨hb8, ⟨_, rfl⟩ | ⟨hz0, _⟩⟩
            · have HB8 : Hid (Below w.heap.size w w8) := bel_up' (bel_up' HX.out.2.2.1 HB4.out) hb8
              rw [HMe.out.1]
              clear hb8
              go_wp2_with fail
              refine (list_err2 10 HMe.out.2 none 0 _ w8).mono ?_
              rintro e w9 ⟨rfl, hw9⟩
              have hw9 := hw9.symm
              subst hw9
              go_wp2
              go_ret
              exact ⟨rfl, HB8.out⟩
            · rw [HMe.out.1] at hz0
              exact absurd hz0 HMe.out.2
          · have HM1 : Hid (mdc D m z m' h n d lost = if ndchk m z n d ≠ 0 then ndchk m z n d else if lost ∈ zl m z then 7 else D.nchk m' h (m : Nat)) := by have h := HM0.out; rw [if_neg (by omega)] at h; exact h
            clear HM0
            obtain ⟨E1, hE1⟩ : ∃ E1, E1 = ndchk m z n d := ⟨_, rfl⟩
            have HC1 : Hid (Calls Try.prog 48 #[.slice ao m ca, .int .i64 (n : Nat), .int .i64 (d : Nat)] w4 fun e w' => e = .returned (.int .i64 E1) ∧ ∃ j, w' = w4.drewN j) := by
              rw [hE1]; exact nodesMay_any (n : Nat) (HX.out.2.2.2.2.2.1.below HB4.out) hm1 (d : Nat)
            have HE1 : Hid (E1 = ndchk m z n d) := hE1
            rw [← hE1] at HM1
            clear hE1
            go_wp2_with fail
            refine HC1.out.mono ?_
            rintro e w6 ⟨rfl, j6, hw6⟩
            have HB6 : Hid (Below wa.heap.size wa w6) := by rw [hw6]; exact below_drewN2 HB4.out j6
            clear hw6
            by_cases c3 : E1 = 0
            · have HM2 : Hid (mdc D m z m' h n d lost = if lost ∈ zl m z then 7 else D.nchk m' h (m : Nat)) := by have h := HM1.out; rw [if_neg (by omega)] at h; exact h
              have HNd : Hid (m = d ∧ ndc n z m = 0) := by
                have h := HE1.out
                rw [c3] at h
                unfold ndchk at h
                by_cases c4 : ((m : Nat) : Int) = (d : Nat)
                · rw [if_neg (by omega)] at h; exact ⟨by omega, h.symm⟩
                · rw [if_pos c4] at h; omega
              clear HM1 HE1 HC1
              subst c3
              obtain ⟨t2, ht2⟩ : ∃ t2, t2 = decide (lost ∈ zl m z) := ⟨_, rfl⟩
              have HIn : Hid (Calls Try.prog 54 #[.int .i64 lost, .slice ao m ca] w6 fun e w' => e = .returned (.bool t2) ∧ ∃ j, w' = w6.drewN j) := by
                rw [ht2]; exact in_any lost (arg_sliceI (HX.out.2.2.2.2.2.1.below HB6.out) (Nat.le_refl _))
              have HT2 : Hid (mdc D m z m' h n d lost = if t2 = true then 7 else D.nchk m' h (m : Nat)) := by
                show _ = _
                rw [HM2.out, ht2]
                simp only [decide_eq_true_eq]
              clear ht2 HM2
              go_wp2_with fail
              refine HIn.out.mono ?_
              rintro e w7 ⟨rfl, j7, hw7⟩
              have HB7 : Hid (Below wa.heap.size wa w7) := by rw [hw7]; exact below_drewN2 HB6.out j7
              clear hw7
              cases t2 with
              | true =>
                have HMe : Hid (mdc D m z m' h n d lost = 7 ∧ (7 : Int) ≠ 0) := ⟨by have h := HT2.out; simp at h; exact h, by decide⟩
                go_wp2_with fail
                refine (HMend.out w7 HB7.out).mono ?_
                rintro e w8 ⟨hb8, ⟨_, rfl⟩ | ⟨hz0, _⟩⟩
                · have HB8 : Hid (Below w.heap.size w w8) := bel_up' (bel_up' HX.out.2.2.1 HB7.out) hb8
                  rw [HMe.out.1]
                  clear hb8
                  go_wp2_with fail
                  refine (list_err2 7 HMe.out.2 none 0 _ w8).mono ?_
                  rintro e w9 ⟨rfl, hw9⟩
                  have hw9 := hw9.symm
                  subst hw9
                  go_wp2
                  go_ret
                  exact ⟨rfl, HB8.out⟩
                · rw [HMe.out.1] at hz0
                  exact absurd hz0 HMe.out.2
              | false =>
                have HM3 : Hid (mdc D m z m' h n d lost = if ((m' : Nat) : Int) ≠ (d : Int) then 6 else if D.allHas h m' = true then 0 else 2) := by
                  have h1 := HT2.out
                  simp at h1
                  show _ = _
                  rw [h1, nchk_allHas, HNd.out.1]
                clear HT2
                by_cases c5 : ((m' : Nat) : Int) = (d : Int)
                · have hz5 : (((m' : Nat) : Int) != (d : Int)) = false := by rw [c5]; simp
                  obtain ⟨t3, ht3⟩ : ∃ t3, t3 = D.allHas h m' := ⟨_, rfl⟩
                  have HM4 : Hid (mdc D m z m' h n d lost = if t3 = true then 0 else 2) := by have h := HM3.out; rw [if_neg (by omega), ← ht3] at h; exact h
                  have HEl : Hid (Calls Try.prog 13 #[.agg #[.int .i64 D.q, .int .i64 D.p, .int .i64 D.m, .int .i64 gen, .slice (some ⟨gm, 0, none⟩) (D.m + 1) cm], .slice bo m' cb] w7 fun e w' => e = .returned (.bool t3) ∧ Below w7.heap.size w7 w') := by
                    rw [ht3]; exact relements_any gen _ (by omega) (HX.out.2.2.2.2.2.2.2.2.2.below HB7.out).sl
                  have HMd : Hid (m' = d) := by show m' = d; omega
                  obtain ⟨k0, k1, k2, k3, k4⟩ := HBx.out w7 HB7.out
                  clear ht3 c5 HM3
                  go_wp2_with fail
                  refine HEl.out.mono ?_
                  rintro e w8 ⟨rfl, hb8⟩
                  have HB8 : Hid (Below wa.heap.size wa w8) := bel_up' HB7.out hb8
                  clear hb8 k0 k1 k2 k3 k4
                  cases t3 with
                  | false =>
                    have HMe : Hid (mdc D m z m' h n d lost = 2 ∧ (2 : Int) ≠ 0) := ⟨by have h := HM4.out; simp at h; exact h, by decide⟩
                    go_wp2_with fail
                    refine (HMend.out w8 HB8.out).mono ?_
                    rintro e w8 ⟨hb8, ⟨_, rfl⟩ | ⟨hz0, _⟩⟩
                    · have HB8 : Hid (Below w.heap.size w w8) := bel_up' (bel_up' HX.out.2.2.1 HB8.out) hb8
                      rw [HMe.out.1]
                      clear hb8
                      go_wp2_with fail
                      refine (list_err2 2 HMe.out.2 none 0 _ w8).mono ?_
                      rintro e w9 ⟨rfl, hw9⟩
                      have hw9 := hw9.symm
                      subst hw9
                      go_wp2
                      go_ret
                      exact ⟨rfl, HB8.out⟩
                    · rw [HMe.out.1] at hz0
                      exact absurd hz0 HMe.out.2
                  | true =>
                    have HMz : Hid (mdc D m z m' h n d lost = 0) := by have h := HM4.out; simp at h; exact h
                    obtain ⟨d1, hd1'⟩ : ∃ d1, d = d1 + 1 := ⟨d - 1, by omega⟩
                    have HN1 : Hid (d = d1 + 1) := hd1'
                    have HR : Hid ((∀ i, i < d → zc d z i < n ∧ ((zc d z i : Nat) : Int) = z i) ∧ (∀ i j, i < d → j < d → i ≠ j → zc d z i ≠ zc d z j) ∧ (∀ i, i < d → zc d h i < D.q) ∧ (∀ i, i < d → D.has (h i) = true)) := by
                      have h1 := HNd.out
                      rw [h1.1] at h1
                      have hok := ndc_ok h1.2
                      have hzz : ∀ i, i < d → zc d z i < n ∧ ((zc d z i : Nat) : Int) = z i := fun i hi => by
                        have := (hok i hi).1
                        unfold zc
                        rw [if_pos hi]
                        omega
                      have hnk : D.nchk m' h (d : Nat) = 0 := by
                        have h2 := HMz.out
                        unfold mdc at h2
                        rw [if_neg (by omega), if_neg (by unfold ndchk; rw [if_neg (by have := HNd.out.1; omega)]; have := HNd.out.2; omega), HNd.out.1] at h2
                        by_cases c : lost ∈ zl d z
                        · rw [if_pos c] at h2; omega
                        · rw [if_neg c] at h2; exact h2
                      rw [HMd.out] at hnk
                      refine ⟨hzz, fun i j hi hj hne e => ?_, fun i hi => zc_lt hnk hi, (nchk_ok hnk).2⟩
                      refine ndc_apart h1.2 hi hj hne ?_
                      rw [← (hzz i hi).2, ← (hzz j hj).2, e]
                    clear hd1'
                    go_wp2
                    go_loopw [23, 24] (fun vp vi wr => ∃ i : Nat, i ≤ d ∧ vi = .int .i64 (i : Nat) ∧ Hid (LLs wa.heap.size vp (rl i d1 fun a => pwr D d (zc d z a)) wr ∧ Below wa.heap.size wa wr)) (fun _ vi _ => d - (intOf vi).toNat)
                    case atStart => exact ⟨0, by omega, rfl, LLs.nil _ _, HB8.out⟩
                    case round =>
                      obtain ⟨i, hi, rfl, HG⟩ := hrel
                      rename World => wr
                      by_cases hlt : i < d
                      · have hib : (i : Int) < (d : Int) := by omega
                        have him : (i : Int) < (m : Int) := by have := HNd.out.1; omega
                        obtain ⟨k0, k1', k2, k3, k4⟩ := HBx.out _ HG.out.2
                        obtain ⟨bx, ox, rfl, hcx⟩ := (HX.out.2.2.2.2.2.1.below HG.out.2).sl i (by have := HNd.out.1; omega)
                        obtain ⟨x, hx⟩ : ∃ x, x = zc d z i := ⟨_, rfl⟩
                        replace hcx : wr.cell? ⟨bx, ox + i, none⟩ = some (.int .i64 (x : Nat)) := by rw [hcx, hx, (HR.out.1 i hlt).2]
                        have hxq : x < D.q := by rw [hx]; have := (HR.out.1 i hlt).1; omega
                        have HP : Hid (∀ q, Calls Try.prog 23 #[.agg #[.int .i64 D.q, .int .i64 D.p, .int .i64 D.m, .int .i64 gen, .slice (some ⟨gm, 0, none⟩) (D.m + 1) cm], .int .i64 (x : Nat), .int .i64 (d : Nat)] (wr.drewN q) fun e w' => ∃ v, e = .returned v ∧ OwnI wr.heap.size v (zl d fun j => ((D.xp x j : Nat) : Int)) w' ∧ Below wr.heap.size (wr.drewN q) w') := fun q => rpowers_any HX.out.2.2.2.2.1 gen gm cm hxq (by omega) ((HX.out.2.2.2.1.below HG.out.2).below (below_drewN2 (Below.refl _ _) q))
                        have HXe : Hid (x = zc d z i) := hx
                        have hi0 : (0 : Int) ≤ (i : Int) := by omega
                        have hS0 : PwS w.heap.size D gen gm cm bx (ox + i) x wr.drew := ⟨k0, k1', k2, k3, k4, hcx⟩
                        have HSk : Hid (∀ wx, Below wr.heap.size wr wx → PwS w.heap.size D gen gm cm bx (ox + i) x wx) := fun wx hb => by
                          obtain ⟨c0, c1, c2, c3, c4⟩ := HBx.out wx (bel_up' HG.out.2 hb)
                          exact ⟨c0, c1, c2, c3, c4, ((bcell hb).1 _ _ (cell_lt hcx)).trans hcx⟩
                        have HSa : Hid (∀ wx, Below wa.heap.size wa wx → PwS w.heap.size D gen gm cm bx (ox + i) x wx) := fun wx hb => by
                          obtain ⟨c0, c1, c2, c3, c4⟩ := HBx.out wx hb
                          obtain ⟨b', o', e', hc'⟩ := (HX.out.2.2.2.2.2.1.below hb).sl i (by have := HNd.out.1; omega)
                          cases e'
                          refine ⟨c0, c1, c2, c3, c4, ?_⟩
                          rw [hc', HXe.out, (HR.out.1 i hlt).2]
                        clear hx
                        go_wp2
                        refine wp_region_noPanic ?_
                        refine wp_region_L (S := PwS w.heap.size D gen gm cm bx (ox + i) x) [] (by kernel_rfl) ?_
                        refine wpAnyL_take (i := 0) (v := ?_) (by rw [List.getElem?_toArray]; rfl) (by decide +kernel) (by decide +kernel) (by decide +kernel) (by decide +kernel) (by decide +kernel) (fun _ _ _ h => h) hS0 (Or.inl ⟨by rfl, ?_⟩) ?_
                        rotate_left
                        · intro wz hSz; obtain ⟨z0, z1, z2, z3, z4, z5⟩ := hSz; go_simp; first | done | with_reducible rfl | (simp only [hi0, hib, and_self, if_true, Int.toNat_natCast]; first | done | with_reducible rfl) | (simp [hi0, hib]; first | done | with_reducible rfl)
                        try simp only [Act.put, List.setIfInBounds_toArray, List.set_cons_zero, List.set_cons_succ]
                        refine wpAnyL_take (i := 1) (v := ?_) (by rw [List.getElem?_toArray]; rfl) (by decide +kernel) (by decide +kernel) (by decide +kernel) (by decide +kernel) (by decide +kernel) (fun _ _ _ h => h) hS0 (Or.inl ⟨by rfl, ?_⟩) ?_
                        rotate_left
                        · intro wz hSz; obtain ⟨z0, z1, z2, z3, z4, z5⟩ := hSz; go_simp; first | done | with_reducible rfl | (simp only [hi0, hib, and_self, if_true, Int.toNat_natCast]; first | done | with_reducible rfl) | (simp [hi0, hib]; first | done | with_reducible rfl)
                        try simp only [Act.put, List.setIfInBounds_toArray, List.set_cons_zero, List.set_cons_succ]
                        refine wpAnyL_take (i := 2) (v := ?_) (by rw [List.getElem?_toArray]; rfl) (by decide +kernel) (by decide +kernel) (by decide +kernel) (by decide +kernel) (by decide +kernel) (fun _ _ _ h => h) hS0 (Or.inl ⟨by rfl, ?_⟩) ?_
                        rotate_left
                        · intro wz hSz; obtain ⟨z0, z1, z2, z3, z4, z5⟩ := hSz; go_simp; first | done | with_reducible rfl | (simp only [hi0, hib, and_self, if_true, Int.toNat_natCast]; first | done | with_reducible rfl) | (simp [hi0, hib]; first | done | with_reducible rfl)
                        try simp only [Act.put, List.setIfInBounds_toArray, List.set_cons_zero, List.set_cons_succ]
                        refine wpAnyL_take (i := 3) (v := ?_) (by rw [List.getElem?_toArray]; rfl) (by decide +kernel) (by decide +kernel) (by decide +kernel) (by decide +kernel) (by decide +kernel) (fun _ _ _ h => h) hS0 (Or.inl ⟨by rfl, ?_⟩) ?_
                        rotate_left
                        · intro wz hSz; obtain ⟨z0, z1, z2, z3, z4, z5⟩ := hSz; go_simp; first | done | with_reducible rfl | (simp only [hi0, hib, and_self, if_true, Int.toNat_natCast]; first | done | with_reducible rfl) | (simp [hi0, hib]; first | done | with_reducible rfl)
                        try simp only [Act.put, List.setIfInBounds_toArray, List.set_cons_zero, List.set_cons_succ]
                        refine wpAnyL_take (i := 4) (v := ?_) (by rw [List.getElem?_toArray]; rfl) (by decide +kernel) (by decide +kernel) (by decide +kernel) (by decide +kernel) (by decide +kernel) (fun _ _ _ h => h) hS0 (Or.inl ⟨by rfl, ?_⟩) ?_
                        rotate_left
                        · intro wz hSz; obtain ⟨z0, z1, z2, z3, z4, z5⟩ := hSz; go_simp; first | done | with_reducible rfl | (simp only [hi0, hib, and_self, if_true, Int.toNat_natCast]; first | done | with_reducible rfl) | (simp [hi0, hib]; first | done | with_reducible rfl)
                        try simp only [Act.put, List.setIfInBounds_toArray, List.set_cons_zero, List.set_cons_succ]
                        refine wpAnyL_take (i := 5) (v := ?_) (by rw [List.getElem?_toArray]; rfl) (by decide +kernel) (by decide +kernel) (by decide +kernel) (by decide +kernel) (by decide +kernel) (fun _ _ _ h => h) hS0 (Or.inl ⟨by rfl, ?_⟩) ?_
                        rotate_left
                        · intro wz hSz; obtain ⟨z0, z1, z2, z3, z4, z5⟩ := hSz; go_simp; first | done | with_reducible rfl | (simp only [hi0, hib, and_self, if_true, Int.toNat_natCast]; first | done | with_reducible rfl) | (simp [hi0, hib]; first | done | with_reducible rfl)
                        try simp only [Act.put, List.setIfInBounds_toArray, List.set_cons_zero, List.set_cons_succ]
                        refine wpAnyL_take (i := 6) (v := ?_) (by rw [List.getElem?_toArray]; rfl) (by decide +kernel) (by decide +kernel) (by decide +kernel) (by decide +kernel) (by decide +kernel) (fun _ _ _ h => h) hS0 (Or.inl ⟨by rfl, ?_⟩) ?_
                        rotate_left
                        · intro wz hSz; obtain ⟨z0, z1, z2, z3, z4, z5⟩ := hSz; go_simp; first | done | with_reducible rfl | (simp only [hi0, hib, and_self, if_true, Int.toNat_natCast]; first | done | with_reducible rfl) | (simp [hi0, hib]; first | done | with_reducible rfl)
                        try simp only [Act.put, List.setIfInBounds_toArray, List.set_cons_zero, List.set_cons_succ]
                        refine wpAnyL_one (i := 7) (by kernel_rfl) (by rw [List.getElem?_toArray]; rfl) (fun K hK => ?_)
                        have HK : Hid _ := hK
                        clear hK
                        go_simp
                        refine (HP.out 1).mono ?_
                        rintro e w2 ⟨v2, rfl, hown2, hb2⟩
                        replace hb2 : Below wr.heap.size wr w2 := ⟨hb2.os, hb2.tape, hb2.output, hb2.size, hb2.block⟩
                        have hel : Elm v2 (d1, pwr D d ((zc d z) i)) w2 := by
                          have e1 : (zl d fun j => ((D.xp x j : Nat) : Int)) = zl (d1 + 1) fun j => ((pwr D d ((zc d z) i) j : Nat) : Int) := by
                            rw [← HN1.out, HXe.out]
                            exact zl_congr (fun j hj => by unfold pwr; rw [if_pos hj])
                          rw [e1] at hown2
                          exact (elm_of_own hown2).1
                        have HE : Hid (Elm v2 (d1, pwr D d ((zc d z) i)) w2 ∧ Below wr.heap.size wr w2) := ⟨hel, hb2⟩
                        obtain ⟨l, hl1, hl2⟩ := HG.out.1
                        have HL : Hid (OwnV wa.heap.size u23 l w2 ∧ Elms l (rl i d1 fun a => pwr D d ((zc d z) a)) w2) := ⟨hl1.below hb2 (Nat.le_refl _), hl2.below hb2 (Nat.le_refl _)⟩
                        have hll : l.length + 1 ≤ 1000000 := by rw [hl2.1, rl_len]; omega
                        have hs2 := HG.out.2.size
                        have hs3 := hb2.size
                        obtain ⟨g2, cap2, rfl, _⟩ := hel
                        have hS2 := HSk.out w2 hb2
                        clear hown2 hb2 hl1 hl2
                        refine HK.out _ _ (fun _ => hS2) ?_
                        clear HK K
                        refine wpAnyL_one (i := 8) (by kernel_rfl) (by rw [List.getElem?_toArray]; rfl) (fun K hK => ?_)
                        have HK : Hid _ := hK
                        clear hK
                        go_simp
                        obtain ⟨w3, hw3⟩ : ∃ w3, w3 = w2.alloc (.cells #[.slice (some ⟨g2, 0, none⟩) (d1 + 1) cap2] 22) := ⟨_, rfl⟩
                        have G3 : Hid (Below w2.heap.size w2 w3 ∧ w3.cell? ⟨w2.heap.size, 0, none⟩ = some (.slice (some ⟨g2, 0, none⟩) (d1 + 1) cap2)) := by
                          rw [hw3]; exact ⟨(Below.refl _ _).alloc (Nat.le_refl _) _, by simp⟩
                        have hS3 := HSk.out w3 (bel_up' HE.out.2 G3.out.1)
                        first | rw [← hw3] | skip
                        clear hw3
                        refine HK.out _ _ (fun _ => hS3) ?_
                        clear HK K
                        try simp only [Act.put, List.setIfInBounds_toArray, List.set_cons_zero, List.set_cons_succ]
                        refine wpAnyL_one (i := 9) (by kernel_rfl) (by rw [List.getElem?_toArray]; rfl) (fun K hK => ?_)
                        refine step_append_sls (by rfl) _ _ (by rfl) wa.heap.size u23 l (by rfl) (HL.out.1.below G3.out.1 (Nat.le_refl _)) (some ⟨w2.heap.size, 0, none⟩) 1 1 (fun _ => .slice (some ⟨g2, 0, none⟩) (d1 + 1) cap2) (by rfl) (SlV.one G3.out.2) (fun _ _ => rfl) (fun e => by cases e) hll (by have := G3.out.1.size; omega) wa (bel_up' (bel_up' HG.out.2 HE.out.2) G3.out.1) (Nat.le_refl _) ?_
                        intro v' w4 hown4 hgrow4 hb4
                        have H4 : Hid (LLs wa.heap.size v' (rl (i + 1) d1 fun a => pwr D d ((zc d z) a)) w4 ∧ Below wa.heap.size wa w4) := by
                          refine ⟨?_, hb4⟩
                          rw [rl_succ]
                          exact LLs.push (HL.out.1.below G3.out.1 (Nat.le_refl _)) (HL.out.2.below G3.out.1 (Nat.le_refl _)) (HE.out.1.below G3.out.1 (Nat.le_refl _)) hown4 hgrow4
                        have hS4 := HSa.out w4 hb4
                        refine hK _ _ (fun _ => hS4) ?_
                        clear hK K
                        clear hown4 hgrow4 hb4
                        refine wpAnyL_one (i := 10) (by kernel_rfl) (by rw [List.getElem?_toArray]; rfl) (fun K hK => ?_)
                        have HK : Hid _ := hK
                        clear hK
                        go_simp
                        refine HK.out _ _ (fun _ => hS4) ?_
                        clear HK K
                        refine wpAnyL_done (by kernel_rfl) (NoPanic.normal ?_)
                        go_wp2
                        go_roundw
                        case rel => exact ⟨i + 1, by omega, by go_num, H4.out⟩
                        case measure => simp [intOf]; omega
                      · have hib : ¬ (i : Int) < (d : Int) := by omega
                        have e : d = i := by omega
                        subst e
                        obtain ⟨ro, rc, vs, rfl, hro⟩ := HG.out.1.rws
                        obtain ⟨q, hq1, hq2, hq3⟩ := thr_ex HX.out.2.2.2.2.1 (y := zc d h) d (fun i hi => by have := (HR.out.1 i hi).1; omega) HR.out.2.1 HR.out.2.2.1
                        have HQ : Hid (El D q ∧ Bd d q ∧ ∀ i, i < d → D.ev q (zc d z i) d = zc d h i) := ⟨hq1, hq2, hq3⟩
                        have HSv : Hid (Calls Try.prog 55 #[.agg #[.int .i64 D.q, .int .i64 D.p, .int .i64 D.m, .int .i64 gen, .slice (some ⟨gm, 0, none⟩) (D.m + 1) cm], .slice ro d rc, .slice bo m' cb] wr fun e w' => ∃ g, e = .returned (.tuple #[.slice (some ⟨g, 0, none⟩) d d, .bool true]) ∧ wr.heap.size ≤ g ∧ Row g d q w' ∧ Below wr.heap.size wr w') := by
                          have hb := (HX.out.2.2.2.2.2.2.2.2.2.below HG.out.2).sl
                          show Calls _ _ _ _ _
                          rw [HMd.out] at hb ⊢
                          exact pow_solve HX.out.2.2.2.2.1 gen gm cm (xs := zc d z) (b := zc d h) HN1.out (by omega) hro.matR (has_sl HR.out.2.2.2 hb) HR.out.2.2.1 (HX.out.2.2.2.1.below HG.out.2) (fun kr R p h1 h2 => solve_thr HX.out.2.2.2.2.1 (fun i hi => by have := (HR.out.1 i hi).1; omega) HR.out.2.1 HR.out.2.2.1 HQ.out.1 HQ.out.2.1 HQ.out.2.2 h1 h2)
                        obtain ⟨k0, k1', k2, k3, k4⟩ := HBx.out _ HG.out.2
                        clear hro hq1 hq2 hq3
                        go_wp2_with fail
                        refine HSv.out.mono ?_
                        rintro e w9 ⟨gx, rfl, hge, hrow, hb9⟩
                        have H9 : Hid (Row gx d q w9 ∧ Below wa.heap.size wa w9) := ⟨hrow, bel_up' HG.out.2 hb9⟩
                        clear hrow hb9 k0 k1' k2 k3 k4
                        go_wp2_with fail
                        refine (HMend.out _ H9.out.2).mono ?_
                        rintro e w10 ⟨hb10, ⟨hz, _⟩ | ⟨_, co, gc, rfl, hgc, hrc, he, hbd, hv⟩⟩
                        · exact absurd HMz.out hz
                        · have HL : Hid (Calls Try.prog 33 #[.slice (some ⟨gc, 0, none⟩) m m, .int .i64 0, .slice (some ⟨gx, 0, none⟩) d d, .int .i64 0] w10 fun r w' => r = .returned (.bool true) ∧ ∃ n, w' = w10.drewN n) := by
                            have hm := HNd.out.1
                            rw [hm] at hrc hbd hv ⊢
                            have e : co = q := thr_one (fld HX.out.2.2.2.2.1) (fun i hi => by have := (HR.out.1 i hi).1; omega) HR.out.2.1 he HQ.out.1 hbd HQ.out.2.1 (fun i hi => by
                              rw [HQ.out.2.2 i hi, ← hv i hi]
                              unfold FD.vl
                              rw [ev_from (fld HX.out.2.2.2.2.1) _ hbd (show d ≤ 1000 by omega)])
                            rw [e] at hrc
                            have hx := H9.out.1.below hb10 H9.out.1.lt
                            exact list_gen (Or.inr ⟨rfl, zl d fun j => ((q j : Nat) : Int), arg_sliceI (row_arg hrc (by omega)) (Nat.le_refl _), arg_sliceI (row_arg hx (by omega)) (Nat.le_refl _)⟩)
                          have HB10 : Hid (Below w.heap.size w w10) := bel_up' (bel_up' HX.out.2.2.1 H9.out.2) hb10
                          clear hb10 hgc hrc he hbd hv
                          go_wp2_with fail
                          refine HL.out.mono ?_
                          rintro e w11 ⟨rfl, j11, hw11⟩
                          have HB11 : Hid (Below w.heap.size w w11) := by rw [hw11]; exact below_drewN2 HB10.out j11
                          clear hw11
                          go_wp2
                          go_ret
                          exact ⟨rfl, HB11.out⟩
                · have hz5 : (((m' : Nat) : Int) != (d : Int)) = true := by rw [bne_iff_ne]; exact c5
                  have HMe : Hid (mdc D m z m' h n d lost = 6 ∧ (6 : Int) ≠ 0) := ⟨by rw [HM3.out, if_pos c5], by decide⟩
                  go_wp2_with fail
                  refine (HMend.out w7 HB7.out).mono ?_
                  rintro e w8 ⟨hb8, ⟨_, rfl⟩ | ⟨hz0, _⟩⟩
                  · have HB8 : Hid (Below w.heap.size w w8) := bel_up' (bel_up' HX.out.2.2.1 HB7.out) hb8
                    rw [HMe.out.1]
                    clear hb8
                    go_wp2_with fail
                    refine (list_err2 6 HMe.out.2 none 0 _ w8).mono ?_
                    rintro e w9 ⟨rfl, hw9⟩
                    have hw9 := hw9.symm
                    subst hw9
                    go_wp2
                    go_ret
                    exact ⟨rfl, HB8.out⟩
                  · rw [HMe.out.1] at hz0
                    exact absurd hz0 HMe.out.2
            · have hz3 : (E1 == 0) = false := by rw [beq_eq_false_iff_ne]; exact c3
              have HMe : Hid (mdc D m z m' h n d lost = E1 ∧ E1 ≠ 0) := ⟨by rw [HM1.out, if_pos c3], c3⟩
              clear c3
              go_wp2_with fail
              refine (HMend.out w6 HB6.out).mono ?_
              rintro e w8 ⟨hb8, ⟨_, rfl⟩ | ⟨hz0, _⟩⟩
              · have HB8 : Hid (Below w.heap.size w w8) := bel_up' (bel_up' HX.out.2.2.1 HB6.out) hb8
                rw [HMe.out.1]
                clear hb8
                go_wp2_with fail
                refine (list_err2 E1 HMe.out.2 none 0 _ w8).mono ?_
                rintro e w9 ⟨rfl, hw9⟩
                have hw9 := hw9.symm
                subst hw9
                go_wp2
                go_ret
                exact ⟨rfl, HB8.out⟩
              · rw [HMe.out.1] at hz0
                exact absurd hz0 HMe.out.2
end Go.Proofs.Ytbofcldmgjeklaa
