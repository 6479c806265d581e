/- The walk of the statement TopFrobenius. -/
import Derived.Test.YtillljojdnofgaaZM10
import Derived.Test.YtillljojdnofgaaZR18
import Derived.Test.YtillljojdnofgaaZC2
import Derived.Deep.RegionWith
namespace Go.Proofs.Ytillljojdnofgaa
open Go.RowKit

theorem emb_cell {D E : FD} {base gi ci : Nat} {w : World} (h : OwnI base (.slice (some ⟨gi, 0, none⟩) E.q ci) (D.embL E) w) (a : Nat) (ha : a < E.q) : w.cell? ⟨gi, a, none⟩ = some (.int .i64 (D.emb E (D.root E) a : Nat)) := by
  have hl : (D.embL E).length = E.q := by simp [FD.embL]
  obtain ⟨g', cap', hv, _, _, hc, _⟩ := h.at (by intro e; rw [e] at hl; simp at hl; omega)
  simp only [Value.slice.injEq, Option.some.injEq, Addr.mk.injEq, and_true] at hv
  obtain ⟨rfl, _, _⟩ := hv
  rw [hc a (by rw [hl]; exact ha)]
  unfold FD.embL
  rw [List.getD_eq_getElem?_getD, List.getElem?_map, List.getElem?_range ha]
  rfl

set_option maxHeartbeats 8000000 in
set_option maxRecDepth 100000 in
theorem topFrobenius_walk (q0 a0 b0 s0 : Int) (w : World) (hq1 : -9223372036854775808 ≤ q0) (hq2 : q0 ≤ 9223372036854775807) (ha1 : -9223372036854775808 ≤ a0) (ha2 : a0 ≤ 9223372036854775807)
    (hb1 : -9223372036854775808 ≤ b0) (hb2 : b0 ≤ 9223372036854775807) (hc1 : -9223372036854775808 ≤ s0) (hc2 : s0 ≤ 9223372036854775807) :
    Calls Try.prog 5 #[.int .i64 q0, .int .i64 a0, .int .i64 b0, .int .i64 s0] w fun e w' => e = .returned (.bool true) ∧ Below w.heap.size w w' := by
  go_enter Try.func5, Try.ntmps5
  go_wp2_with fail
  refine (fieldOf_any q0 w hq1 hq2).mono ?_
  rintro e w1 ⟨D, F, T, g, hD, hs, rfl, hat, hF, hT, hbel⟩
  have h2 := (fld hD).q2
  have h64 := (fld hD).q64
  have hp64 := (fld hD).p64
  obtain ⟨x, hx, hxq⟩ := pick_nat a0 (show 0 < D.q from by omega)
  obtain ⟨y, hy, hyq⟩ := pick_nat b0 (show 0 < D.q from by omega)
  have HP : Hid ((∀ w1 : World, Calls Try.prog 23 #[.int .i64 a0, .int .i64 (D.q : Int)] w1 fun e w' => e = .returned (.int .i64 (x : Int)) ∧ w' = w1) ∧
      (∀ w1 : World, Calls Try.prog 23 #[.int .i64 b0, .int .i64 (D.q : Int)] w1 fun e w' => e = .returned (.int .i64 (y : Int)) ∧ w' = w1)) :=
    ⟨fun w1 => by rw [← hx]; exact pick_any a0 _ w1 ha1 ha2 (by omega) (by omega), fun w1 => by rw [← hy]; exact pick_any b0 _ w1 hb1 hb2 (by omega) (by omega)⟩
  have HA : Hid (FAt F T D g w1 ∧ Below w.heap.size w w1) := ⟨hat, hbel⟩
  have HD : Hid (D ∈ fieldsL) := hD
  have e1 := v1 hD hxq
  have e2 := v2 hD hxq hyq
  have e3 := v3 hD hxq hyq
  have e4 := v4 hD hxq
  have e5 := v5 hD hxq
  have e6 : ¬ D.traceZ x < 0 := by have := v6 hD hxq; omega
  have e7 : ¬ (D.p : Int) ≤ D.traceZ x := by have := v6 hD hxq; omega
  have e8 : ¬ D.normZ x < 0 := by have := v6 hD hxq; omega
  have e9 : ¬ (D.p : Int) ≤ D.normZ x := by have := v6 hD hxq; omega
  have e10 := v7 hD hxq hyq
  have e11 := v8 hD hxq hyq
  clear hat hbel hx hy hs hD hF hT
  go_wp2_with fail
  refine (size_any HA.out.1).mono ?_
  rintro e w' ⟨rfl, hw⟩
  have hw := hw.symm
  subst hw
  go_wp2_with fail
  refine (char_any HA.out.1).mono ?_
  rintro e w' ⟨rfl, hw⟩
  have hw := hw.symm
  subst hw
  go_wp2_with fail
  refine (HP.out.1 _).mono ?_
  rintro e w' ⟨rfl, hw⟩
  have hw := hw.symm
  subst hw
  go_wp2_with fail
  refine (HP.out.2 _).mono ?_
  rintro e w' ⟨rfl, hw⟩
  have hw := hw.symm
  subst hw
  go_wp2_with (first
      | (go_at_call 30; refine (add_any HD.out (by first | exact HA.out.1 | exact HA.out.1.drewN _) _ _).mono ?_; rintro e w' ⟨rfl, n, rfl⟩)
      | (go_at_call 31; refine (mul_any HD.out (by first | exact HA.out.1 | exact HA.out.1.drewN _) _ _).mono ?_; rintro e w' ⟨rfl, n, rfl⟩)
      | (go_at_call 29; refine (frob_any HD.out (by first | exact HA.out.1 | exact HA.out.1.drewN _) _ _ (by omega) (by omega)).mono ?_; rintro e w' ⟨rfl, n, rfl⟩)
      | (go_at_call 32; refine (trace_any HD.out (by first | exact HA.out.1 | exact HA.out.1.drewN _) _).mono ?_; rintro e w' ⟨rfl, n, rfl⟩)
      | (go_at_call 33; refine (norm_any HD.out (by first | exact HA.out.1 | exact HA.out.1.drewN _) _).mono ?_; rintro e w' ⟨rfl, n, rfl⟩)
      | (go_at_call 28; refine (pow_any HD.out (by first | exact HA.out.1 | exact HA.out.1.drewN _) _ _ (by omega) (by omega)).mono ?_; rintro e w' ⟨rfl, n, rfl⟩))
  refine (sizeOf_any s0 _ hc1 hc2).mono ?_
  rintro e w2 ⟨rfl, hb⟩
  obtain ⟨E, hE, hsE⟩ := sizeOf_field s0
  rw [hsE]
  have hb' : Below w1.heap.size w1 w2 := bel_up (below_drewN2 (Below.refl _ _) _) hb
  have HA2 : Hid (FAt F T D g w2 ∧ Below w.heap.size w w2 ∧ E ∈ fieldsL) := ⟨HA.out.1.below hb' HA.out.1.ltF HA.out.1.ltT, bel_up HA.out.2 hb', hE⟩
  have hE2 := (fld hE).q2
  have hE64 := (fld hE).q64
  clear hb hb' hsE hE HA HP e1 e2 e3 e4 e5 e6 e7 e8 e9 e10 e11
  go_wp2_with fail
  refine (within_any HD.out HA2.out.1 E.q).mono ?_
  rintro e w3 ⟨vl, rfl, hol, hb3⟩
  have HA3 : Hid (FAt F T D g w3 ∧ Below w.heap.size w w3) := ⟨HA2.out.1.below hb3 HA2.out.1.ltF HA2.out.1.ltT, bel_up HA2.out.2.1 hb3⟩
  by_cases hok : E.p = D.p ∧ D.m % E.m = 0
  · have HK : Hid (E.p = D.p ∧ D.m % E.m = 0) := hok
    rw [within_field HA2.out.2.2, if_pos hok] at hol
    obtain ⟨gl, cl, fl, hvl, hrest⟩ := hol.row E.q (stay_len HD.out HA2.out.2.2 hok) (by omega)
    subst hvl
    have HL : Hid (OwnI w2.heap.size (.slice (some ⟨gl, 0, none⟩) E.q cl) (D.stayTo E.m D.q) w3) := hol
    have hbe : ((E.q : Int) == 0) = false := eq_false' (by omega)
    clear hrest hol hok hb3
    go_wp2_with fail
    refine (embed_any HD.out HA2.out.2.2 w3 HK.out).mono ?_
    rintro e w4 ⟨vi, rfl, hoi, hb4⟩
    obtain ⟨gi, ci, fi, hvi, hrest⟩ := hoi.row E.q (by simp [FD.embL]) (by omega)
    subst hvi
    have HA4 : Hid (FAt F T D g w4 ∧ Below w.heap.size w w4 ∧ OwnI w2.heap.size (.slice (some ⟨gl, 0, none⟩) E.q cl) (D.stayTo E.m D.q) w4 ∧ OwnI w3.heap.size (.slice (some ⟨gi, 0, none⟩) E.q ci) (D.embL E) w4) :=
      ⟨HA3.out.1.below hb4 HA3.out.1.ltF HA3.out.1.ltT, bel_up HA3.out.2 hb4, HL.out.below hb4 (fun k hk => (HL.out.lt k hk).2), hoi⟩
    clear hoi hb4 hrest HL
    have hne : ((E.q : Int) != (E.q : Int)) = false := by simp
    go_wp2_with fail
    refine (new_any HA2.out.2.2 w4).mono ?_
    rintro e w5 ⟨F2, T2, g2, rfl, hat2, hF2, hT2, hb5⟩
    have HA5 : Hid (FAt F T D g w5 ∧ FAt F2 T2 E g2 w5 ∧ Below w.heap.size w w5 ∧ SliceI (.slice (some ⟨gl, 0, none⟩) E.q cl) (D.stayTo E.m D.q) w5 ∧ OwnI w3.heap.size (.slice (some ⟨gi, 0, none⟩) E.q ci) (D.embL E) w5) :=
      ⟨HA4.out.1.below hb5 HA4.out.1.ltF HA4.out.1.ltT, hat2, bel_up HA4.out.2.1 hb5, (HA4.out.2.2.1.below hb5 (fun k hk => (HA4.out.2.2.1.lt k hk).2)).slice (by rw [stay_len HD.out HA2.out.2.2 HK.out]; omega), HA4.out.2.2.2.below hb5 (fun k hk => (HA4.out.2.2.2.lt k hk).2)⟩
    clear hat2 hb5 hF2 hT2 HA4
    obtain ⟨x', hx', hxl⟩ := pick_nat (x : Int) (show 0 < E.q from by omega)
    obtain ⟨y', hy', hyl⟩ := pick_nat (y : Int) (show 0 < E.q from by omega)
    have HP : Hid ((∀ w1 : World, Calls Try.prog 23 #[.int .i64 (x : Int), .int .i64 (E.q : Int)] w1 fun e w' => e = .returned (.int .i64 (x' : Int)) ∧ w' = w1) ∧
        (∀ w1 : World, Calls Try.prog 23 #[.int .i64 (y : Int), .int .i64 (E.q : Int)] w1 fun e w' => e = .returned (.int .i64 (y' : Int)) ∧ w' = w1)) :=
      ⟨fun w1 => by rw [← hx']; exact pick_any _ _ w1 (by omega) (by omega) (by omega) (by omega), fun w1 => by rw [← hy']; exact pick_any _ _ w1 (by omega) (by omega) (by omega) (by omega)⟩
    clear hx' hy'
    go_wp2_with fail
    refine (HP.out.1 _).mono ?_
    rintro e w' ⟨rfl, hw⟩
    have hw := hw.symm
    subst hw
    go_wp2_with fail
    refine (HP.out.2 _).mono ?_
    rintro e w' ⟨rfl, hw⟩
    have hw := hw.symm
    subst hw
    clear HP
    obtain ⟨s, hs⟩ : ∃ s, s = sumD E.p E.q x' y' := ⟨_, rfl⟩
    obtain ⟨m, hm⟩ : ∃ m, m = E.mul x' y' := ⟨_, rfl⟩
    have hsq : s < E.q := by rw [hs]; exact (fld HA2.out.2.2).sum_lt x' y' hxl hyl
    have hmq : m < E.q := by rw [hm]; exact (fld HA2.out.2.2).mul_lt x' y'
    obtain ⟨ex, hex⟩ : ∃ ex, ex = D.emb E (D.root E) x' := ⟨_, rfl⟩
    obtain ⟨ey, hey⟩ : ∃ ey, ey = D.emb E (D.root E) y' := ⟨_, rfl⟩
    obtain ⟨es, hes⟩ : ∃ es, es = D.emb E (D.root E) s := ⟨_, rfl⟩
    obtain ⟨em, hem⟩ : ∃ em, em = D.emb E (D.root E) m := ⟨_, rfl⟩
    have cx : w5.cell? ⟨gi, x', none⟩ = some (.int .i64 (ex : Nat)) := by rw [hex]; exact emb_cell HA5.out.2.2.2.2 x' hxl
    have cy : w5.cell? ⟨gi, y', none⟩ = some (.int .i64 (ey : Nat)) := by rw [hey]; exact emb_cell HA5.out.2.2.2.2 y' hyl
    have cs : w5.cell? ⟨gi, s, none⟩ = some (.int .i64 (es : Nat)) := by rw [hes]; exact emb_cell HA5.out.2.2.2.2 s hsq
    have cm : w5.cell? ⟨gi, m, none⟩ = some (.int .i64 (em : Nat)) := by rw [hem]; exact emb_cell HA5.out.2.2.2.2 m hmq
    have H4 : Hid ((∀ k, Calls Try.prog 30 #[.pointer (some ⟨F, 0, none⟩), .int .i64 (ex : Nat), .int .i64 (ey : Nat)] (w5.drewN k) fun e w' => e = .returned (.int .i64 (es : Nat)) ∧ ∃ n, w' = (w5.drewN k).drewN n) ∧
        (∀ k, Calls Try.prog 31 #[.pointer (some ⟨F, 0, none⟩), .int .i64 (ex : Nat), .int .i64 (ey : Nat)] (w5.drewN k) fun e w' => e = .returned (.int .i64 (em : Nat)) ∧ ∃ n, w' = (w5.drewN k).drewN n) ∧
        (∀ k, Calls Try.prog 30 #[.pointer (some ⟨F2, 0, none⟩), .int .i64 (x' : Nat), .int .i64 (y' : Nat)] (w5.drewN k) fun e w' => e = .returned (.int .i64 (s : Nat)) ∧ ∃ n, w' = (w5.drewN k).drewN n) ∧
        (∀ k, Calls Try.prog 31 #[.pointer (some ⟨F2, 0, none⟩), .int .i64 (x' : Nat), .int .i64 (y' : Nat)] (w5.drewN k) fun e w' => e = .returned (.int .i64 (m : Nat)) ∧ ∃ n, w' = (w5.drewN k).drewN n) ∧
        (∀ k, Calls Try.prog 38 #[.int .i64 (ex : Nat), .slice (some ⟨gl, 0, none⟩) E.q cl] (w5.drewN k) fun e w' => e = .returned (.bool true) ∧ ∃ n, w' = (w5.drewN k).drewN n)) := by
      refine ⟨fun k => ?_, fun k => ?_, fun k => ?_, fun k => ?_, fun k => ?_⟩
      · have h := add_nat HD.out (HA5.out.1.drewN k) (emb_lt HD.out HA2.out.2.2 HK.out x') (emb_lt HD.out HA2.out.2.2 HK.out y')
        rw [← emb_add HD.out HA2.out.2.2 HK.out hxl hyl, ← hs, ← hex, ← hey, ← hes] at h; exact h
      · have h := mul_nat HD.out (HA5.out.1.drewN k) (emb_lt HD.out HA2.out.2.2 HK.out x') (emb_lt HD.out HA2.out.2.2 HK.out y')
        rw [← emb_mul HD.out HA2.out.2.2 HK.out hxl hyl, ← hm, ← hex, ← hey, ← hem] at h; exact h
      · have h := add_nat HA2.out.2.2 (HA5.out.2.1.drewN k) hxl hyl
        rw [← hs] at h; exact h
      · have h := mul_nat HA2.out.2.2 (HA5.out.2.1.drewN k) hxl hyl
        rw [← hm] at h; exact h
      · have h := in_any (D.emb E (D.root E) x' : Nat) (HA5.out.2.2.2.1.drewN k)
        rw [decide_eq_true (emb_in HD.out HA2.out.2.2 HK.out hxl), ← hex] at h
        exact h
    have hxy : ((x' : Int) == (y' : Int)) = true ∨ (((x' : Int) == (y' : Int)) = false ∧ ((ex : Int) != (ey : Int)) = true) := by
      by_cases h : x' = y'
      · exact Or.inl (eq_true' (by omega))
      · exact Or.inr ⟨eq_false' (by omega), bne_iff_ne.2 (fun e => h (emb_inj HD.out HA2.out.2.2 HK.out hxl hyl (by rw [← hex, ← hey]; omega)))⟩
    have HB5 : Hid (Below w.heap.size w w5) := HA5.out.2.2.1
    clear hex hey hes hem hs hm HA5 HA2 HA3 HK HD
    rcases hxy with t | ⟨t1, t2⟩
    · go_wp2_with fail
      go_big_quiet (first
        | (go_at_call 38; exact Calls.quiet_of (H4.out.2.2.2.2 _))
        | (go_at_call_of 30 (Value.pointer (some (Addr.mk F 0 none))); exact Calls.quiet_of (H4.out.1 _))
        | (go_at_call_of 30 (Value.pointer (some (Addr.mk F2 0 none))); exact Calls.quiet_of (H4.out.2.2.1 _))
        | (go_at_call_of 31 (Value.pointer (some (Addr.mk F 0 none))); exact Calls.quiet_of (H4.out.2.1 _))
        | (go_at_call_of 31 (Value.pointer (some (Addr.mk F2 0 none))); exact Calls.quiet_of (H4.out.2.2.2.1 _)))
      go_wp2
      go_ret
      exact ⟨rfl, below_drewN2 HB5.out _⟩
    · go_wp2_with fail
      go_big_quiet (first
        | (go_at_call 38; exact Calls.quiet_of (H4.out.2.2.2.2 _))
        | (go_at_call_of 30 (Value.pointer (some (Addr.mk F 0 none))); exact Calls.quiet_of (H4.out.1 _))
        | (go_at_call_of 30 (Value.pointer (some (Addr.mk F2 0 none))); exact Calls.quiet_of (H4.out.2.2.1 _))
        | (go_at_call_of 31 (Value.pointer (some (Addr.mk F 0 none))); exact Calls.quiet_of (H4.out.2.1 _))
        | (go_at_call_of 31 (Value.pointer (some (Addr.mk F2 0 none))); exact Calls.quiet_of (H4.out.2.2.2.1 _)))
      go_wp2
      go_ret
      exact ⟨rfl, below_drewN2 HB5.out _⟩
  · rw [within_field HA2.out.2.2, if_neg hok] at hol
    have HK : Hid (¬ (E.p = D.p ∧ D.m % E.m = 0)) := hok
    obtain ⟨ao, ca, hvl⟩ : ∃ ao ca, vl = .slice ao 0 ca := by
      rcases hol.slice (by simp) with ⟨_, ao, ca, h⟩ | ⟨h, _⟩
      · exact ⟨ao, ca, h⟩
      · exact absurd rfl h
    subst hvl
    clear hol hok hb3
    go_wp2_with fail
    refine (embed_form HD.out HA2.out.2.2 w3 HK.out).mono ?_
    rintro e w4 ⟨rfl, hb4⟩
    have HB4 : Hid (Below w.heap.size w w4) := bel_up HA3.out.2 hb4
    clear hb4
    go_wp2
    go_ret
    exact ⟨rfl, HB4.out⟩
end Go.Proofs.Ytillljojdnofgaa
