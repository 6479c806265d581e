/- The walk of the statement FieldSays. -/
import Derived.Test.YtmnkablobhdbjaaZB6
import Derived.Test.YtmnkablobhdbjaaZD1
import Derived.Deep.RegionHeld3
namespace Go.Proofs.Ytmnkablobhdbjaa
open Go.RowKit

set_option maxHeartbeats 4000000 in
set_option maxRecDepth 1000000 in
theorem fieldSays_none (q a b k size : Int) (w : World) (h : ∀ D ∈ fieldsL, (D.q : Int) ≠ q) :
    Calls Try.prog 3 #[.int .i64 q, .int .i64 a, .int .i64 b, .int .i64 k, .int .i64 size] w fun e w' => e = .returned (.bool true) ∧ Below w.heap.size w w' := by
  have HN : Hid (∀ D ∈ fieldsL, (D.q : Int) ≠ q) := h
  clear h
  go_enter Try.func3, Try.ntmps3
  go_wp2_with fail
  refine (new_none q w HN.out).mono ?_
  rintro e w' ⟨rfl, hw⟩
  have hw := hw.symm
  subst hw
  go_wp2_with fail
  refine (rfield_none q w HN.out).mono ?_
  rintro e w1 ⟨rfl, hb1⟩
  have HB : Hid (Below w.heap.size w w1) := hb1
  clear hb1
  unfold rf0
  go_wp2
  go_ret
  exact ⟨rfl, HB.out.alloc HB.out.size _⟩

theorem within_len (D : FD) (size : Int) : (D.withinL size).length ≤ D.q := by
  unfold FD.withinL
  split
  · exact stayTo_len _ _ _
  · exact Nat.zero_le _
theorem modL_len {D : FD} : D.modL.length = D.m + 1 := by unfold FD.modL; rw [List.length_append, digL_len]; rfl

set_option maxHeartbeats 16000000 in
set_option maxRecDepth 1000000 in
theorem fieldSays_some {D : FD} (hD : D ∈ fieldsL) (a b k size : Int) (w : World) (hk1 : -9223372036854775808 ≤ k) (hk2 : k ≤ 9223372036854775807) :
    Calls Try.prog 3 #[.int .i64 D.q, .int .i64 a, .int .i64 b, .int .i64 k, .int .i64 size] w fun e w' => e = .returned (.bool true) ∧ Below w.heap.size w w' := by
  have HD : Hid (D ∈ fieldsL) := hD
  have hm6 := (fld hD).m6
  have h64 := (fld hD).q64
  clear hD
  go_enter Try.func3, Try.ntmps3
  go_wp2_with fail
  refine (new_any HD.out w).mono ?_
  rintro e w1 ⟨F, T, g, rfl, hat, hF, hT, hb1⟩
  have HA1 : Hid (FAt F T D g w1 ∧ Below w.heap.size w w1) := ⟨hat, hb1⟩
  clear hat hF hT hb1
  go_wp2_with fail
  refine (rfield_any HD.out w1).mono ?_
  rintro e w2 ⟨v, rfl, hown, hmod, hb2⟩
  have HA2 : Hid (FAt F T D g w2 ∧ OwnI w1.heap.size v D.modL w2 ∧ ModAt D v D.md w2 ∧ Below w.heap.size w w2) := ⟨HA1.out.1.below hb2 HA1.out.1.ltF HA1.out.1.ltT, hown, hmod, bel_up HA1.out.2 hb2⟩
  clear hown hmod hb2 HA1
  unfold rf
  obtain ⟨gm, cm, fm, hvm, hgm⟩ := HA2.out.2.1.row (D.m + 1) modL_len (by omega)
  subst hvm
  clear hgm
  go_wp2
  obtain ⟨W, hW⟩ : ∃ W : World, W = w2.alloc (.cells #[.int .i64 D.q, .int .i64 D.p, .int .i64 D.m, .int .i64 D.gen, .slice (some ⟨gm, 0, none⟩) (D.m + 1) cm] 28) := ⟨_, rfl⟩
  have hbW : Below w2.heap.size w2 W := by rw [hW]; exact (Below.refl _ _).alloc (Nat.le_refl _) _
  obtain ⟨G, hG⟩ : ∃ G, G = w2.heap.size := ⟨_, rfl⟩
  have HA : Hid (FAt F T D g W ∧ Box G D D.gen (.slice (some ⟨gm, 0, none⟩) (D.m + 1) cm) W ∧ OwnI w1.heap.size (.slice (some ⟨gm, 0, none⟩) (D.m + 1) cm) D.modL W ∧ ModAt D (.slice (some ⟨gm, 0, none⟩) (D.m + 1) cm) D.md W ∧ Below w.heap.size w W ∧ G < W.heap.size) :=
    ⟨HA2.out.1.below hbW HA2.out.1.ltF HA2.out.1.ltT, by rw [hG, hW]; exact box_new D D.gen _ w2, HA2.out.2.1.below hbW (fun k hk => (HA2.out.2.1.lt k hk).2), HA2.out.2.2.1.below hbW, bel_up HA2.out.2.2.2 hbW, by rw [hG, hW]; simp⟩
  rw [← hW, ← hG]
  clear hW hG hbW HA2
  obtain ⟨c0, c1, c2, c3, c4⟩ := HA.out.2.1
  have hbc : Below W.heap.size W W := Below.refl _ _
  go_region_held3 (fun w' => w'.cell? ⟨G, 0, none⟩ = some (.int .i64 (D.q : Nat)) ∧ w'.cell? ⟨G, 1, none⟩ = some (.int .i64 (D.p : Nat)) ∧ w'.cell? ⟨G, 2, none⟩ = some (.int .i64 (D.m : Nat)) ∧ w'.cell? ⟨G, 3, none⟩ = some (.int .i64 (D.gen : Nat)) ∧ w'.cell? ⟨G, 4, none⟩ = some (.slice (some ⟨gm, 0, none⟩) (D.m + 1) cm))
    (first | go_keep | exact ⟨(HA.out.2.1.below (B := W.heap.size) (by first | exact hbc | exact hbc.drew) HA.out.2.2.2.2.2).c0, (HA.out.2.1.below (B := W.heap.size) (by first | exact hbc | exact hbc.drew) HA.out.2.2.2.2.2).c1, (HA.out.2.1.below (B := W.heap.size) (by first | exact hbc | exact hbc.drew) HA.out.2.2.2.2.2).c2, (HA.out.2.1.below (B := W.heap.size) (by first | exact hbc | exact hbc.drew) HA.out.2.2.2.2.2).c3, (HA.out.2.1.below (B := W.heap.size) (by first | exact hbc | exact hbc.drew) HA.out.2.2.2.2.2).c4⟩)
    (first
      | (go_at_call 11; refine (size_any (HA.out.1.below (B := W.heap.size) (by first | exact hbc | exact hbc.drew) HA.out.1.ltF HA.out.1.ltT)).mono ?_; rintro e w' ⟨rfl, hw'⟩; have hw' := hw'.symm; subst hw')
      | (go_at_call 12; refine (char_any (HA.out.1.below (B := W.heap.size) (by first | exact hbc | exact hbc.drew) HA.out.1.ltF HA.out.1.ltT)).mono ?_; rintro e w' ⟨rfl, hw'⟩; have hw' := hw'.symm; subst hw')
      | (go_at_call 13; refine (degree_any (HA.out.1.below (B := W.heap.size) (by first | exact hbc | exact hbc.drew) HA.out.1.ltF HA.out.1.ltT)).mono ?_; rintro e w' ⟨rfl, hw'⟩; have hw' := hw'.symm; subst hw')
      | (go_at_call 14; refine (gen_any (HA.out.1.below (B := W.heap.size) (by first | exact hbc | exact hbc.drew) HA.out.1.ltF HA.out.1.ltT)).mono ?_; rintro e w' ⟨rfl, hw'⟩; have hw' := hw'.symm; subst hw')
      | (go_at_call 17; refine (has_any (HA.out.1.below (B := W.heap.size) (by first | exact hbc | exact hbc.drew) HA.out.1.ltF HA.out.1.ltT) _).mono ?_; rintro e w' ⟨rfl, hw'⟩; have hw' := hw'.symm; subst hw')
      | (go_at_call 18; refine (rhas_any D D.gen _ _ _).mono ?_; rintro e w' ⟨rfl, hb'⟩; replace hbc := bel_up (by first | exact hbc | exact hbc.drew) hb'; clear hb')
      | (go_at_call 16; refine (poly_any HD.out (HA.out.1.below (B := W.heap.size) (by first | exact hbc | exact hbc.drew) HA.out.1.ltF HA.out.1.ltT)).mono ?_; rintro e w' ⟨vp, rfl, hop, hb'⟩; replace hbc := bel_up (by first | exact hbc | exact hbc.drew) hb'; clear hb')
      | (go_at_call 15; refine (same_any (hop.slice (by rw [modL_len]; omega)) ((HA.out.2.2.1.below (B := W.heap.size) (by first | exact hbc | exact hbc.drew) (fun k hk => (HA.out.2.2.1.lt k hk).2)).slice (by rw [modL_len]; omega))).mono ?_; rintro e w' ⟨rfl, n, hw'⟩; replace hbc : Below W.heap.size W w' := (by rw [hw']; first | exact below_drewN2 hbc n | exact below_drewN2 hbc.drew n); clear hw'))
  go_wp2
  go_region_held3 (fun w' => w'.cell? ⟨G, 0, none⟩ = some (.int .i64 (D.q : Nat)) ∧ w'.cell? ⟨G, 1, none⟩ = some (.int .i64 (D.p : Nat)) ∧ w'.cell? ⟨G, 2, none⟩ = some (.int .i64 (D.m : Nat)) ∧ w'.cell? ⟨G, 3, none⟩ = some (.int .i64 (D.gen : Nat)) ∧ w'.cell? ⟨G, 4, none⟩ = some (.slice (some ⟨gm, 0, none⟩) (D.m + 1) cm))
    (first | go_keep | exact ⟨(HA.out.2.1.below (B := W.heap.size) (by first | exact hbc | exact hbc.drew) HA.out.2.2.2.2.2).c0, (HA.out.2.1.below (B := W.heap.size) (by first | exact hbc | exact hbc.drew) HA.out.2.2.2.2.2).c1, (HA.out.2.1.below (B := W.heap.size) (by first | exact hbc | exact hbc.drew) HA.out.2.2.2.2.2).c2, (HA.out.2.1.below (B := W.heap.size) (by first | exact hbc | exact hbc.drew) HA.out.2.2.2.2.2).c3, (HA.out.2.1.below (B := W.heap.size) (by first | exact hbc | exact hbc.drew) HA.out.2.2.2.2.2).c4⟩)
    (first
      | (go_at_call 19; refine (add_any HD.out (HA.out.1.below (B := W.heap.size) (by first | exact hbc | exact hbc.drew) HA.out.1.ltF HA.out.1.ltT) _ _).mono ?_; rintro e w' ⟨rfl, n, hw'⟩; replace hbc : Below W.heap.size W w' := (by rw [hw']; first | exact below_drewN2 hbc n | exact below_drewN2 hbc.drew n); clear hw')
      | (go_at_call 20; refine (radd_any HD.out D.gen _ _ _ _).mono ?_; rintro e w' ⟨rfl, hb'⟩; replace hbc := bel_up (by first | exact hbc | exact hbc.drew) hb'; clear hb')
      | (go_at_call 21; refine (sub_any HD.out (HA.out.1.below (B := W.heap.size) (by first | exact hbc | exact hbc.drew) HA.out.1.ltF HA.out.1.ltT) _ _).mono ?_; rintro e w' ⟨rfl, n, hw'⟩; replace hbc : Below W.heap.size W w' := (by rw [hw']; first | exact below_drewN2 hbc n | exact below_drewN2 hbc.drew n); clear hw')
      | (go_at_call 22; refine (rsub_any HD.out D.gen _ _ _ _).mono ?_; rintro e w' ⟨rfl, hb'⟩; replace hbc := bel_up (by first | exact hbc | exact hbc.drew) hb'; clear hb')
      | (go_at_call 23; refine (mul_any HD.out (HA.out.1.below (B := W.heap.size) (by first | exact hbc | exact hbc.drew) HA.out.1.ltF HA.out.1.ltT) _ _).mono ?_; rintro e w' ⟨rfl, n, hw'⟩; replace hbc : Below W.heap.size W w' := (by rw [hw']; first | exact below_drewN2 hbc n | exact below_drewN2 hbc.drew n); clear hw')
      | (go_at_call 24; refine (rmul_any HD.out D.gen _ _ (HA.out.2.2.2.1.below (by first | exact hbc | exact hbc.drew))).mono ?_; rintro e w' ⟨rfl, hb'⟩; replace hbc := bel_up (by first | exact hbc | exact hbc.drew) hb'; clear hb')
      | (go_at_call 25; refine (neg_any HD.out (HA.out.1.below (B := W.heap.size) (by first | exact hbc | exact hbc.drew) HA.out.1.ltF HA.out.1.ltT) _).mono ?_; rintro e w' ⟨rfl, n, hw'⟩; replace hbc : Below W.heap.size W w' := (by rw [hw']; first | exact below_drewN2 hbc n | exact below_drewN2 hbc.drew n); clear hw')
      | (go_at_call 26; refine (rneg_any HD.out D.gen _ _ _).mono ?_; rintro e w' ⟨rfl, hb'⟩; replace hbc := bel_up (by first | exact hbc | exact hbc.drew) hb'; clear hb')
      | (go_at_call 27; refine (inv_any HD.out (HA.out.1.below (B := W.heap.size) (by first | exact hbc | exact hbc.drew) HA.out.1.ltF HA.out.1.ltT) _).mono ?_; rintro e w' ⟨rfl, n, hw'⟩; replace hbc : Below W.heap.size W w' := (by rw [hw']; first | exact below_drewN2 hbc n | exact below_drewN2 hbc.drew n); clear hw')
      | (go_at_call 28; refine (rinv_any HD.out D.gen _ (HA.out.2.2.2.1.below (by first | exact hbc | exact hbc.drew))).mono ?_; rintro e w' ⟨rfl, hb'⟩; replace hbc := bel_up (by first | exact hbc | exact hbc.drew) hb'; clear hb'))
  go_wp2
  go_region_held3 (fun w' => w'.cell? ⟨G, 0, none⟩ = some (.int .i64 (D.q : Nat)) ∧ w'.cell? ⟨G, 1, none⟩ = some (.int .i64 (D.p : Nat)) ∧ w'.cell? ⟨G, 2, none⟩ = some (.int .i64 (D.m : Nat)) ∧ w'.cell? ⟨G, 3, none⟩ = some (.int .i64 (D.gen : Nat)) ∧ w'.cell? ⟨G, 4, none⟩ = some (.slice (some ⟨gm, 0, none⟩) (D.m + 1) cm))
    (first | go_keep | exact ⟨(HA.out.2.1.below (B := W.heap.size) (by first | exact hbc | exact hbc.drew) HA.out.2.2.2.2.2).c0, (HA.out.2.1.below (B := W.heap.size) (by first | exact hbc | exact hbc.drew) HA.out.2.2.2.2.2).c1, (HA.out.2.1.below (B := W.heap.size) (by first | exact hbc | exact hbc.drew) HA.out.2.2.2.2.2).c2, (HA.out.2.1.below (B := W.heap.size) (by first | exact hbc | exact hbc.drew) HA.out.2.2.2.2.2).c3, (HA.out.2.1.below (B := W.heap.size) (by first | exact hbc | exact hbc.drew) HA.out.2.2.2.2.2).c4⟩)
    (first
      | (go_at_call 29; refine (pow_any HD.out (HA.out.1.below (B := W.heap.size) (by first | exact hbc | exact hbc.drew) HA.out.1.ltF HA.out.1.ltT) _ _ hk1 hk2).mono ?_; rintro e w' ⟨rfl, n, hw'⟩; replace hbc : Below W.heap.size W w' := (by rw [hw']; first | exact below_drewN2 hbc n | exact below_drewN2 hbc.drew n); clear hw')
      | (go_at_call 30; refine (rpow_any HD.out D.gen _ _ hk1 hk2 (HA.out.2.2.2.1.below (by first | exact hbc | exact hbc.drew))).mono ?_; rintro e w' ⟨rfl, hb'⟩; replace hbc := bel_up (by first | exact hbc | exact hbc.drew) hb'; clear hb')
      | (go_at_call 31; refine (log_any HD.out (HA.out.1.below (B := W.heap.size) (by first | exact hbc | exact hbc.drew) HA.out.1.ltF HA.out.1.ltT) _).mono ?_; rintro e w' ⟨rfl, hw'⟩; have hw' := hw'.symm; subst hw')
      | (go_at_call 32; refine (rlog_any HD.out _ (HA.out.2.2.2.1.below (by first | exact hbc | exact hbc.drew))).mono ?_; rintro e w' ⟨rfl, hb'⟩; replace hbc := bel_up (by first | exact hbc | exact hbc.drew) hb'; clear hb')
      | (go_at_call 33; refine (frob_any HD.out (HA.out.1.below (B := W.heap.size) (by first | exact hbc | exact hbc.drew) HA.out.1.ltF HA.out.1.ltT) _ _ hk1 hk2).mono ?_; rintro e w' ⟨rfl, n, hw'⟩; replace hbc : Below W.heap.size W w' := (by rw [hw']; first | exact below_drewN2 hbc n | exact below_drewN2 hbc.drew n); clear hw')
      | (go_at_call 34; refine (rfrob_any HD.out D.gen _ _ (HA.out.2.2.2.1.below (by first | exact hbc | exact hbc.drew))).mono ?_; rintro e w' ⟨rfl, hb'⟩; replace hbc := bel_up (by first | exact hbc | exact hbc.drew) hb'; clear hb')
      | (go_at_call 35; refine (trace_any HD.out (HA.out.1.below (B := W.heap.size) (by first | exact hbc | exact hbc.drew) HA.out.1.ltF HA.out.1.ltT) _).mono ?_; rintro e w' ⟨rfl, n, hw'⟩; replace hbc : Below W.heap.size W w' := (by rw [hw']; first | exact below_drewN2 hbc n | exact below_drewN2 hbc.drew n); clear hw')
      | (go_at_call 36; refine (rtrace_any HD.out D.gen _ (HA.out.2.2.2.1.below (by first | exact hbc | exact hbc.drew))).mono ?_; rintro e w' ⟨rfl, hb'⟩; replace hbc := bel_up (by first | exact hbc | exact hbc.drew) hb'; clear hb')
      | (go_at_call 37; refine (norm_any HD.out (HA.out.1.below (B := W.heap.size) (by first | exact hbc | exact hbc.drew) HA.out.1.ltF HA.out.1.ltT) _).mono ?_; rintro e w' ⟨rfl, n, hw'⟩; replace hbc : Below W.heap.size W w' := (by rw [hw']; first | exact below_drewN2 hbc n | exact below_drewN2 hbc.drew n); clear hw')
      | (go_at_call 38; refine (rnorm_any HD.out D.gen _ (HA.out.2.2.2.1.below (by first | exact hbc | exact hbc.drew))).mono ?_; rintro e w' ⟨rfl, hb'⟩; replace hbc := bel_up (by first | exact hbc | exact hbc.drew) hb'; clear hb')
      | (go_at_call 39; refine (within_any HD.out (HA.out.1.below (B := W.heap.size) (by first | exact hbc | exact hbc.drew) HA.out.1.ltF HA.out.1.ltT) _).mono ?_; rintro e w' ⟨vw, rfl, how, hb'⟩; replace hbc := bel_up (by first | exact hbc | exact hbc.drew) hb'; have howl := how.lt; clear hb')
      | (go_at_call 40; refine (rwithin_any HD.out D.gen _ (HA.out.2.2.2.1.below (by first | exact hbc | exact hbc.drew))).mono ?_; rintro e w' ⟨vr, rfl, hor, hb'⟩; replace how := (OwnI.below how hb' (fun k hk => (howl k hk).2)); replace hbc := bel_up (by first | exact hbc | exact hbc.drew) hb'; clear hb')
      | (go_at_call 15; refine (same_any (how.slice (Nat.le_trans (within_len D _) (by omega))) (hor.slice (Nat.le_trans (within_len D _) (by omega)))).mono ?_; rintro e w' ⟨rfl, n, hw'⟩; replace hbc : Below W.heap.size W w' := (by rw [hw']; first | exact below_drewN2 hbc n | exact below_drewN2 hbc.drew n); clear hw'))
  go_wp2
  go_ret
  exact ⟨rfl, HA.out.2.2.2.2.1.trans (hbc.mono HA.out.2.2.2.2.1.size)⟩
end Go.Proofs.Ytmnkablobhdbjaa
