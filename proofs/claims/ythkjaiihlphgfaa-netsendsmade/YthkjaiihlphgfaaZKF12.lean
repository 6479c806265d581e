/- Texts of ours, one behind the other: KF12 KF13. -/
import Derived.Test.YthkjaiihlphgfaaZKF7
import Derived.Test.YthkjaiihlphgfaaZKF8
import Derived.Test.YthkjaiihlphgfaaZKF9
import Derived.Test.YthkjaiihlphgfaaZKF10
import Derived.Test.YthkjaiihlphgfaaZKF11
import Derived.Test.YthkjaiihlphgfaaZL10
import Derived.Test.YthkjaiihlphgfaaZO3
/- NetSends: whatever it is given. -/
namespace Go.Proofs.Ythkjaiihlphgfaa
open Go.RowKit Go.Sort

set_option maxHeartbeats 4000000 in
set_option maxRecDepth 100000 in
theorem netSends_long (q n x : Int) {eo ao bo co : Option Addr} {m ec mv ca l cb lc cc : Nat} {w : World} (h1 : m ≤ 17592186044416) (h2 : l ≤ 17592186044416) (h3 : lc ≤ 17592186044416) (hlen : 200 < m + l + lc) :
    Calls Try.prog 3 #[.int .i64 q, .agg #[.int .i64 n, .slice eo m ec], .slice ao mv ca, .slice bo l cb, .slice co lc cc, .int .i64 x] w fun e w' => e = .returned (.bool true) ∧ Below w.heap.size w w' := by
  obtain ⟨wa, hwa⟩ : ∃ wa, wa = w.alloc (.cells #[.int .i64 n, .slice eo m ec] 24) := ⟨_, rfl⟩
  have Gwa : Hid (NsN w.heap.size n (.slice eo m ec) w wa) := ⟨by rw [hwa]; exact NB.new _ _ _, by rw [hwa]; exact (Below.refl _ _).alloc (Nat.le_refl _) _⟩
  have hnb : (200 : Int) < (m : Int) + (l : Int) + (lc : Int) := by omega
  have hc := Gwa.out.nb
  obtain ⟨c0, c1⟩ := hc
  rw [hwa] at c0 c1
  go_enter Try.func3, Try.ntmps3
  go_wp2
  rw [← hwa]
  go_ret
  exact ⟨rfl, Gwa.out.bel⟩
set_option maxHeartbeats 4000000 in
set_option maxRecDepth 100000 in
theorem netSends_heavy (q n x : Int) {eo ao bo co : Option Addr} {m ec mv ca l cb lc cc : Nat} {w : World} (hlen : m + l + lc ≤ 200) (hH : ∀ wx, Below w.heap.size w wx → Calls Try.prog 9 #[.slice ao mv ca] wx fun e w' => e = .returned (.bool true) ∧ Below wx.heap.size wx w') :
    Calls Try.prog 3 #[.int .i64 q, .agg #[.int .i64 n, .slice eo m ec], .slice ao mv ca, .slice bo l cb, .slice co lc cc, .int .i64 x] w fun e w' => e = .returned (.bool true) ∧ Below w.heap.size w w' := by
  obtain ⟨wa, hwa⟩ : ∃ wa, wa = w.alloc (.cells #[.int .i64 n, .slice eo m ec] 24) := ⟨_, rfl⟩
  have Gwa : Hid (NsN w.heap.size n (.slice eo m ec) w wa) := ⟨by rw [hwa]; exact NB.new _ _ _, by rw [hwa]; exact (Below.refl _ _).alloc (Nat.le_refl _) _⟩
  have HH : Hid _ := hH
  have hnb : ¬ (200 : Int) < (m : Int) + (l : Int) + (lc : Int) := by omega
  clear hH
  have hc := Gwa.out.nb
  obtain ⟨c0, c1⟩ := hc
  rw [hwa] at c0 c1
  go_enter Try.func3, Try.ntmps3
  go_wp2_with fail
  clear c0 c1
  rw [← hwa]
  refine (HH.out wa Gwa.out.bel).mono ?_
  rintro e wh ⟨rfl, hbh⟩
  have HB : Hid (Below w.heap.size w wh) := bel_up' Gwa.out.bel hbh
  clear hbh
  go_wp2
  go_ret
  exact ⟨rfl, HB.out⟩
end Go.Proofs.Ythkjaiihlphgfaa

/- NetSends over a field: its ways joined (printed by make/kf13.py). -/
namespace Go.Proofs.Ythkjaiihlphgfaa
open Go.RowKit Go.Sort

set_option maxHeartbeats 8000000 in
theorem netSends_field {D : FD} (hD : D ∈ fieldsL) (n x : Int) {eo ao bo co : Option Addr} {m ec mv ca l cb lc cc : Nat} {F T : Nat → Int} {A : Nat → Option Addr} {N C : Nat → Nat} {Z : Nat → Nat → Int} {y c : Nat → Int} {w : World} (hA : MatZ ao mv A N C Z w) (hmv6 : mv ≤ 6000) (hE : EdZ eo m F T w) (hY : Arg bo l cb y w) (hC : Arg co lc cc c w) (hlen : m + l + lc ≤ 200)
    (hH : ∀ wx, Below w.heap.size w wx → Calls Try.prog 9 #[.slice ao mv ca] wx fun e w' => e = .returned (.bool false) ∧ Below wx.heap.size wx w') :
    Calls Try.prog 3 #[.int .i64 D.q, .agg #[.int .i64 n, .slice eo m ec], .slice ao mv ca, .slice bo l cb, .slice co lc cc, .int .i64 x] w fun e w' => e = .returned (.bool true) ∧ Below w.heap.size w w' := by
  have hV : ∀ wx, Below w.heap.size w wx → ∀ i, i < mv → ∃ b off, ao = some ⟨b, off, none⟩ ∧ wx.cell? ⟨b, off + i, none⟩ = some (.slice (A i) (N i) (C i)) := fun wx hb => (hA.below hb).cell
  have c1 : ∀ wx, Below w.heap.size w wx → Calls Try.prog 10 #[.int .i64 D.q, .slice ao mv ca] wx fun e w' => e = .returned (.int .i64 (D.mchk mv N Z)) ∧ Below wx.heap.size wx w' := fun wx hb => matrixMay_any hD (hA.below hb) (by omega)
  have c2 : ∀ wx, Below w.heap.size w wx → Calls Try.prog 11 #[.int .i64 D.q] wx fun e w' => ∃ gm cm, e = .returned (.tuple #[.agg #[.int .i64 D.q, .int .i64 D.p, .int .i64 D.m, .int .i64 D.gen, .slice (some ⟨gm, 0, none⟩) (D.m + 1) cm], .int .i64 0]) ∧ ModAt D (.slice (some ⟨gm, 0, none⟩) (D.m + 1) cm) D.md w' ∧ Below wx.heap.size wx w' := fun wx _ => rfield_sl hD wx
  have c3 : ∀ wx, Below w.heap.size w wx → ∀ gm cm : Nat, Calls Try.prog 12 #[.agg #[.int .i64 D.q, .int .i64 D.p, .int .i64 D.m, .int .i64 D.gen, .slice (some ⟨gm, 0, none⟩) (D.m + 1) cm], .slice bo l cb] wx fun e w' => e = .returned (.bool (D.allHas y l)) ∧ Below wx.heap.size wx w' := fun wx hb gm cm => relements_any D.gen _ (by omega) (slz_below hY.sl hb)
  have c7 : ∀ wx, Below w.heap.size w wx → ∀ gm cm : Nat, Calls Try.prog 12 #[.agg #[.int .i64 D.q, .int .i64 D.p, .int .i64 D.m, .int .i64 D.gen, .slice (some ⟨gm, 0, none⟩) (D.m + 1) cm], .slice co lc cc] wx fun e w' => e = .returned (.bool (D.allHas c lc)) ∧ Below wx.heap.size wx w' := fun wx hb gm cm => relements_any D.gen _ (by omega) (slz_below hC.sl hb)
  have c5 : ∀ wx, Below w.heap.size w wx → Calls Try.prog 14 #[.int .i64 D.q, .slice ao mv ca, .slice bo l cb] wx (SnP (D.sdchk mv N Z l y) (zl mv fun i => ((dot D (mzc N Z i) (zc l y) l : Nat) : Int)) wx) := fun wx hb => nSend_any hD (hA.below hb) hmv6 (slz_below hY.sl hb) (by omega)
  obtain ⟨s, hs⟩ : ∃ s, s = skchk n x (nchkE n m F T) := ⟨_, rfl⟩
  have c6 : ∀ wx, Below w.heap.size w wx → Calls Try.prog 16 #[.agg #[.int .i64 n, .slice eo m ec], .int .i64 x] wx fun e w' => e = .returned (.int .i64 s) ∧ Below wx.heap.size wx w' := fun wx hb => by rw [hs]; exact rsinkMay_any n x (hE.below hb) (by omega)
  obtain ⟨okb, L, sl, k, hSv⟩ : ∃ (okb : Bool) (L : Nat) (sl : Nat → Int) (k : Nat), D.hrchk (skchk n x (nchkE n m F T)) mv N Z m lc c = 0 → 0 < (tlN T x m).length → SvA D (tlN T x m).length (fun i => N ((tlN T x m).getD i 0)) (fun i => Z ((tlN T x m).getD i 0)) (fun i => c ((tlN T x m).getD i 0)) okb L sl k := by
    by_cases h : D.hrchk (skchk n x (nchkE n m F T)) mv N Z m lc c = 0 ∧ 0 < (tlN T x m).length
    · have h1 := h.1
      unfold FD.hrchk at h1
      by_cases e1 : skchk n x (nchkE n m F T) ≠ 0
      · rw [if_pos e1] at h1; exact absurd h1 e1
      · rw [if_neg e1] at h1
        by_cases e2 : D.mchk mv N Z ≠ 0
        · rw [if_pos e2] at h1; exact absurd h1 e2
        · rw [if_neg e2] at h1
          by_cases e3 : mv ≠ m ∨ lc ≠ m
          · rw [if_pos e3] at h1; cases h1
          · rw [if_neg e3] at h1
            by_cases e4 : D.allHas c lc = true
            · have hmv64 := mchk_le (Classical.not_not.1 e2) rfl
              have hlt : ∀ i ∈ tlN T x m, i < mv := fun i hi => by have := tlN_lt m i hi; omega
              have hK := tlN_len T x m
              obtain ⟨g1, _⟩ := sel_chk (l := tlN T x m) (Classical.not_not.1 e2) hlt (by omega) h.2
              obtain ⟨okb, L, sl, k, _, _, hh⟩ := solveF hD (y := fun i => c ((tlN T x m).getD i 0)) g1 h.2 (allHas_iff.2 fun j hj => allHas_iff.1 e4 _ (by have := sel_lt (tlN_lt m) j hj; omega))
              exact ⟨okb, L, sl, k, fun _ _ => hh⟩
            · rw [if_neg e4] at h1; cases h1
    · exact ⟨false, 0, fun _ => 0, 0, fun h1 h2 => absurd ⟨h1, h2⟩ h⟩
  obtain ⟨ok, hok⟩ : ∃ ok, ok = (decide (0 < (tlN T x m).length) && (okb && !decide (k < N ((tlN T x m).getD 0 0)))) := ⟨_, rfl⟩
  have c9 : ∀ wx, Below w.heap.size w wx → Calls Try.prog 18 #[.int .i64 D.q, .agg #[.int .i64 n, .slice eo m ec], .slice ao mv ca, .slice co lc cc, .int .i64 x] wx (SnP (if D.hrchk s mv N Z m lc c ≠ 0 then D.hrchk s mv N Z m lc c else if ok = true then 0 else 9) (zl L sl) wx) := fun wx hb => by
    rw [hs, hok]; exact nHear_any hD n x (hE.below hb) (hA.below hb) (slz_below hC.sl hb) (by omega) hmv6 (by omega) (fun a b => (hSv a b).q)
  rw [← hs] at hSv
  have hrq : ∀ v, D.hrchk s mv N Z m lc c = v → v ≠ 0 → ∀ wx, Below w.heap.size w wx → Calls Try.prog 18 #[.int .i64 D.q, .agg #[.int .i64 n, .slice eo m ec], .slice ao mv ca, .slice co lc cc, .int .i64 x] wx (SnP v (zl L sl) wx) := fun v hv hv0 wx hb => by
    have h := c9 wx hb
    rw [hv, if_pos hv0] at h
    exact h
  by_cases hM : D.mchk mv N Z = 0
  · rw [hM] at c1
    have hmv64 : mv ≤ 64 := mchk_le hM rfl
    by_cases h0 : mv = 0
    · cases hyv : D.allHas y l with
      | false =>
        have e5 : D.sdchk mv N Z l y = 2 := by unfold FD.sdchk; rw [if_neg (fun h => h hM), if_neg (by omega), hyv]; rfl
        rw [e5] at c5
        rw [hyv] at c3
        by_cases hs0 : s = 0
        · rw [hs0] at c6
          have un : D.hrchk s mv N Z m lc c = if mv ≠ m ∨ lc ≠ m then 6 else if D.allHas c lc = true then 0 else 2 := by unfold FD.hrchk; rw [if_neg (fun h => h hs0), if_neg (fun h => h hM)]
          by_cases hmm : mv = m
          · by_cases hcm : lc = m
            · rw [if_neg (by omega)] at un
              cases hcv : D.allHas c lc with
              | false =>
                rw [hcv] at c7 un
                exact netSends_w3aS5 n x (dt := fun i => dot D (mzc N Z i) (zc l y) l) hlen h0 hmm hcm hV hH c1 c2 c3 c5 c6 c7 (hrq 2 un (by decide))
              | true =>
                rw [hcv] at c7 un
                have un : D.hrchk s mv N Z m lc c = 0 := un
                have c8 : ∀ wx, Below w.heap.size w wx → ∀ gm cm : Nat, ModAt D (.slice (some ⟨gm, 0, none⟩) (D.m + 1) cm) D.md wx → Calls Try.prog 17 #[.agg #[.int .i64 D.q, .int .i64 D.p, .int .i64 D.m, .int .i64 D.gen, .slice (some ⟨gm, 0, none⟩) (D.m + 1) cm], .agg #[.int .i64 n, .slice eo m ec], .slice ao mv ca, .slice co lc cc, .int .i64 x] wx (HdP ok (zl L sl) wx) := fun wx hb gm cm hmd => by
                  have hA' := hA.below hb
                  have hC' := slz_below hC.sl hb
                  have hE' := hE.below hb
                  subst hmm
                  subst hcm
                  rw [hok]
                  exact rheard_any n x D.gen gm cm hE' hA' hC' (by omega) hmd (fun hk => hSv un hk)
                have h9 := c9
                rw [un] at h9
                cases ok with
                | true => exact netSends_w3aS6 n x (dt := fun i => dot D (mzc N Z i) (zc l y) l) hlen h0 hmm hcm hV hH c1 c2 c3 c5 c6 c7 c8 h9
                | false => exact netSends_w3aS7 n x (dt := fun i => dot D (mzc N Z i) (zc l y) l) hlen h0 hmm hcm hV hH c1 c2 c3 c5 c6 c7 c8 h9
            · exact netSends_w3aS4 n x (dt := fun i => dot D (mzc N Z i) (zc l y) l) hlen h0 hmm hcm hV hH c1 c2 c3 c5 c6 (hrq 6 (by rw [un, if_pos (Or.inr hcm)]) (by decide))
          · exact netSends_w3aS3 n x (dt := fun i => dot D (mzc N Z i) (zc l y) l) hlen h0 hmm hV hH c1 c2 c3 c5 c6 (hrq 6 (by rw [un, if_pos (Or.inl hmm)]) (by decide))
        · exact netSends_w3aS1 n x s (dt := fun i => dot D (mzc N Z i) (zc l y) l) hlen h0 hs0 hV hH c1 c2 c3 c5 c6 (hrq s (by unfold FD.hrchk; rw [if_pos hs0]) hs0)
      | true =>
        have e5 : D.sdchk mv N Z l y = 0 := by unfold FD.sdchk; rw [if_neg (fun h => h hM), if_neg (by omega), hyv]; rfl
        rw [e5] at c5
        rw [hyv] at c3
        have c5 : ∀ wx, Below w.heap.size w wx → Calls Try.prog 14 #[.int .i64 D.q, .slice ao mv ca, .slice bo l cb] wx (SnP 0 [] wx) := fun wx hb => by
          have h := c5 wx hb
          rw [h0] at h ⊢
          exact h
        by_cases hs0 : s = 0
        · rw [hs0] at c6
          have un : D.hrchk s mv N Z m lc c = if mv ≠ m ∨ lc ≠ m then 6 else if D.allHas c lc = true then 0 else 2 := by unfold FD.hrchk; rw [if_neg (fun h => h hs0), if_neg (fun h => h hM)]
          by_cases hmm : mv = m
          · by_cases hcm : lc = m
            · rw [if_neg (by omega)] at un
              cases hcv : D.allHas c lc with
              | false =>
                rw [hcv] at c7 un
                exact netSends_w4aS5 n x (dt := fun i => dot D (mzc N Z i) (zc l y) l) (L1 := []) hlen h0 hmm hcm hV hH c1 c2 c3 c5 c6 c7 (hrq 2 un (by decide))
              | true =>
                rw [hcv] at c7 un
                have un : D.hrchk s mv N Z m lc c = 0 := un
                have c8 : ∀ wx, Below w.heap.size w wx → ∀ gm cm : Nat, ModAt D (.slice (some ⟨gm, 0, none⟩) (D.m + 1) cm) D.md wx → Calls Try.prog 17 #[.agg #[.int .i64 D.q, .int .i64 D.p, .int .i64 D.m, .int .i64 D.gen, .slice (some ⟨gm, 0, none⟩) (D.m + 1) cm], .agg #[.int .i64 n, .slice eo m ec], .slice ao mv ca, .slice co lc cc, .int .i64 x] wx (HdP ok (zl L sl) wx) := fun wx hb gm cm hmd => by
                  have hA' := hA.below hb
                  have hC' := slz_below hC.sl hb
                  have hE' := hE.below hb
                  subst hmm
                  subst hcm
                  rw [hok]
                  exact rheard_any n x D.gen gm cm hE' hA' hC' (by omega) hmd (fun hk => hSv un hk)
                have h9 := c9
                rw [un] at h9
                cases ok with
                | true => exact netSends_w4aS6 n x (dt := fun i => dot D (mzc N Z i) (zc l y) l) (L1 := []) hlen h0 hmm hcm hV hH c1 c2 c3 c5 c6 c7 c8 h9
                | false => exact netSends_w4aS7 n x (dt := fun i => dot D (mzc N Z i) (zc l y) l) (L1 := []) hlen h0 hmm hcm hV hH c1 c2 c3 c5 c6 c7 c8 h9
            · exact netSends_w4aS4 n x (dt := fun i => dot D (mzc N Z i) (zc l y) l) (L1 := []) hlen h0 hmm hcm hV hH c1 c2 c3 c5 c6 (hrq 6 (by rw [un, if_pos (Or.inr hcm)]) (by decide))
          · exact netSends_w4aS3 n x (dt := fun i => dot D (mzc N Z i) (zc l y) l) (L1 := []) hlen h0 hmm hV hH c1 c2 c3 c5 c6 (hrq 6 (by rw [un, if_pos (Or.inl hmm)]) (by decide))
        · exact netSends_w4aS1 n x s (dt := fun i => dot D (mzc N Z i) (zc l y) l) (L1 := []) hlen h0 hs0 hV hH c1 c2 c3 c5 c6 (hrq s (by unfold FD.hrchk; rw [if_pos hs0]) hs0)
    · have hp : 0 < mv := by omega
      by_cases hl : l = N 0
      · cases hyv : D.allHas y l with
        | false =>
          have e5 : D.sdchk mv N Z l y = 2 := by unfold FD.sdchk; rw [if_neg (fun h => h hM), if_neg (fun h => h.2 hl), hyv]; rfl
          rw [e5] at c5
          rw [hyv] at c3
          by_cases hs0 : s = 0
          · rw [hs0] at c6
            have un : D.hrchk s mv N Z m lc c = if mv ≠ m ∨ lc ≠ m then 6 else if D.allHas c lc = true then 0 else 2 := by unfold FD.hrchk; rw [if_neg (fun h => h hs0), if_neg (fun h => h hM)]
            by_cases hmm : mv = m
            · by_cases hcm : lc = m
              · rw [if_neg (by omega)] at un
                cases hcv : D.allHas c lc with
                | false =>
                  rw [hcv] at c7 un
                  exact netSends_w3bS5 n x (dt := fun i => dot D (mzc N Z i) (zc l y) l) hlen hp hmv6 hl hmm hcm hV hH c1 c2 c3 c5 c6 c7 (hrq 2 un (by decide))
                | true =>
                  rw [hcv] at c7 un
                  have un : D.hrchk s mv N Z m lc c = 0 := un
                  have c8 : ∀ wx, Below w.heap.size w wx → ∀ gm cm : Nat, ModAt D (.slice (some ⟨gm, 0, none⟩) (D.m + 1) cm) D.md wx → Calls Try.prog 17 #[.agg #[.int .i64 D.q, .int .i64 D.p, .int .i64 D.m, .int .i64 D.gen, .slice (some ⟨gm, 0, none⟩) (D.m + 1) cm], .agg #[.int .i64 n, .slice eo m ec], .slice ao mv ca, .slice co lc cc, .int .i64 x] wx (HdP ok (zl L sl) wx) := fun wx hb gm cm hmd => by
                    have hA' := hA.below hb
                    have hC' := slz_below hC.sl hb
                    have hE' := hE.below hb
                    subst hmm
                    subst hcm
                    rw [hok]
                    exact rheard_any n x D.gen gm cm hE' hA' hC' (by omega) hmd (fun hk => hSv un hk)
                  have h9 := c9
                  rw [un] at h9
                  cases ok with
                  | true => exact netSends_w3bS6 n x (dt := fun i => dot D (mzc N Z i) (zc l y) l) hlen hp hmv6 hl hmm hcm hV hH c1 c2 c3 c5 c6 c7 c8 h9
                  | false => exact netSends_w3bS7 n x (dt := fun i => dot D (mzc N Z i) (zc l y) l) hlen hp hmv6 hl hmm hcm hV hH c1 c2 c3 c5 c6 c7 c8 h9
              · exact netSends_w3bS4 n x (dt := fun i => dot D (mzc N Z i) (zc l y) l) hlen hp hmv6 hl hmm hcm hV hH c1 c2 c3 c5 c6 (hrq 6 (by rw [un, if_pos (Or.inr hcm)]) (by decide))
            · exact netSends_w3bS3 n x (dt := fun i => dot D (mzc N Z i) (zc l y) l) hlen hp hmv6 hl hmm hV hH c1 c2 c3 c5 c6 (hrq 6 (by rw [un, if_pos (Or.inl hmm)]) (by decide))
          · exact netSends_w3bS1 n x s (dt := fun i => dot D (mzc N Z i) (zc l y) l) hlen hp hmv6 hl hs0 hV hH c1 c2 c3 c5 c6 (hrq s (by unfold FD.hrchk; rw [if_pos hs0]) hs0)
        | true =>
          have e5 : D.sdchk mv N Z l y = 0 := by unfold FD.sdchk; rw [if_neg (fun h => h hM), if_neg (fun h => h.2 hl), hyv]; rfl
          rw [e5] at c5
          rw [hyv] at c3
          have c4 : ∀ wx, Below w.heap.size w wx → ∀ gm cm : Nat, ModAt D (.slice (some ⟨gm, 0, none⟩) (D.m + 1) cm) D.md wx → ∀ i, i < mv → Calls Try.prog 13 #[.agg #[.int .i64 D.q, .int .i64 D.p, .int .i64 D.m, .int .i64 D.gen, .slice (some ⟨gm, 0, none⟩) (D.m + 1) cm], .slice (A i) (N i) (C i), .slice bo l cb] wx fun e w' => e = .returned (.int .i64 (dot D (mzc N Z i) (zc l y) l : Nat)) ∧ Below wx.heap.size wx w' := fun wx hb gm cm hmd i hi => by
            obtain ⟨_, _, _, k4, k5⟩ := mchk_mats (fld hD) hM (hA.below hb) hp
            have hNi : N i = l := by
              obtain ⟨b', o', e', hc'⟩ := k5.cell i hi
              obtain ⟨b2, o2, e2, hc2⟩ := (hA.below hb).cell i hi
              rw [e'] at e2
              cases e2
              rw [hc2] at hc'
              have := congrArg (fun o => match o with | some (Value.slice _ n _) => n | _ => 0) hc'
              rw [hl]; exact this
            have h6 := k5.sl i hi
            rw [← hl] at h6
            rw [hNi]
            exact rdot_any hD D.gen gm cm (by omega) (fun j _ => (k4 i hi).1 j) (fun j hj => allHas_q hyv j hj) h6 (fun a ha => k5.lt (by omega) i hi a ha) (allHas_sl hyv (slz_below hY.sl hb)) (fun a ha => Nat.lt_of_lt_of_le (hY.lt a ha) hb.size) hmd
          by_cases hs0 : s = 0
          · rw [hs0] at c6
            have un : D.hrchk s mv N Z m lc c = if mv ≠ m ∨ lc ≠ m then 6 else if D.allHas c lc = true then 0 else 2 := by unfold FD.hrchk; rw [if_neg (fun h => h hs0), if_neg (fun h => h hM)]
            by_cases hmm : mv = m
            · by_cases hcm : lc = m
              · rw [if_neg (by omega)] at un
                cases hcv : D.allHas c lc with
                | false =>
                  rw [hcv] at c7 un
                  exact netSends_w4bS5 n x (dt := fun i => dot D (mzc N Z i) (zc l y) l) (L1 := []) hlen hp hmv6 hl hmm hcm hV hH c1 c2 c3 c4 c5 c6 c7 (hrq 2 un (by decide))
                | true =>
                  rw [hcv] at c7 un
                  have un : D.hrchk s mv N Z m lc c = 0 := un
                  have c8 : ∀ wx, Below w.heap.size w wx → ∀ gm cm : Nat, ModAt D (.slice (some ⟨gm, 0, none⟩) (D.m + 1) cm) D.md wx → Calls Try.prog 17 #[.agg #[.int .i64 D.q, .int .i64 D.p, .int .i64 D.m, .int .i64 D.gen, .slice (some ⟨gm, 0, none⟩) (D.m + 1) cm], .agg #[.int .i64 n, .slice eo m ec], .slice ao mv ca, .slice co lc cc, .int .i64 x] wx (HdP ok (zl L sl) wx) := fun wx hb gm cm hmd => by
                    have hA' := hA.below hb
                    have hC' := slz_below hC.sl hb
                    have hE' := hE.below hb
                    subst hmm
                    subst hcm
                    rw [hok]
                    exact rheard_any n x D.gen gm cm hE' hA' hC' (by omega) hmd (fun hk => hSv un hk)
                  have h9 := c9
                  rw [un] at h9
                  cases ok with
                  | true => exact netSends_w4bS6 n x (dt := fun i => dot D (mzc N Z i) (zc l y) l) (L1 := []) hlen hp hmv6 hl hmm hcm hV hH c1 c2 c3 c4 c5 c6 c7 c8 h9
                  | false => exact netSends_w4bS7 n x (dt := fun i => dot D (mzc N Z i) (zc l y) l) (L1 := []) hlen hp hmv6 hl hmm hcm hV hH c1 c2 c3 c4 c5 c6 c7 c8 h9
              · exact netSends_w4bS4 n x (dt := fun i => dot D (mzc N Z i) (zc l y) l) (L1 := []) hlen hp hmv6 hl hmm hcm hV hH c1 c2 c3 c4 c5 c6 (hrq 6 (by rw [un, if_pos (Or.inr hcm)]) (by decide))
            · exact netSends_w4bS3 n x (dt := fun i => dot D (mzc N Z i) (zc l y) l) (L1 := []) hlen hp hmv6 hl hmm hV hH c1 c2 c3 c4 c5 c6 (hrq 6 (by rw [un, if_pos (Or.inl hmm)]) (by decide))
          · exact netSends_w4bS1 n x s (dt := fun i => dot D (mzc N Z i) (zc l y) l) (L1 := []) hlen hp hmv6 hl hs0 hV hH c1 c2 c3 c4 c5 c6 (hrq s (by unfold FD.hrchk; rw [if_pos hs0]) hs0)
      · have e5 : D.sdchk mv N Z l y = 6 := by unfold FD.sdchk; rw [if_neg (fun h => h hM), if_pos ⟨hp, hl⟩]
        rw [e5] at c5
        by_cases hs0 : s = 0
        · rw [hs0] at c6
          have un : D.hrchk s mv N Z m lc c = if mv ≠ m ∨ lc ≠ m then 6 else if D.allHas c lc = true then 0 else 2 := by unfold FD.hrchk; rw [if_neg (fun h => h hs0), if_neg (fun h => h hM)]
          by_cases hmm : mv = m
          · by_cases hcm : lc = m
            · rw [if_neg (by omega)] at un
              cases hcv : D.allHas c lc with
              | false =>
                rw [hcv] at c7 un
                exact netSends_w2S5 n x (dt := fun i => dot D (mzc N Z i) (zc l y) l) hlen hp hmv6 hl hmm hcm hV hH c1 c2 c5 c6 c7 (hrq 2 un (by decide))
              | true =>
                rw [hcv] at c7 un
                have un : D.hrchk s mv N Z m lc c = 0 := un
                have c8 : ∀ wx, Below w.heap.size w wx → ∀ gm cm : Nat, ModAt D (.slice (some ⟨gm, 0, none⟩) (D.m + 1) cm) D.md wx → Calls Try.prog 17 #[.agg #[.int .i64 D.q, .int .i64 D.p, .int .i64 D.m, .int .i64 D.gen, .slice (some ⟨gm, 0, none⟩) (D.m + 1) cm], .agg #[.int .i64 n, .slice eo m ec], .slice ao mv ca, .slice co lc cc, .int .i64 x] wx (HdP ok (zl L sl) wx) := fun wx hb gm cm hmd => by
                  have hA' := hA.below hb
                  have hC' := slz_below hC.sl hb
                  have hE' := hE.below hb
                  subst hmm
                  subst hcm
                  rw [hok]
                  exact rheard_any n x D.gen gm cm hE' hA' hC' (by omega) hmd (fun hk => hSv un hk)
                have h9 := c9
                rw [un] at h9
                cases ok with
                | true => exact netSends_w2S6 n x (dt := fun i => dot D (mzc N Z i) (zc l y) l) hlen hp hmv6 hl hmm hcm hV hH c1 c2 c5 c6 c7 c8 h9
                | false => exact netSends_w2S7 n x (dt := fun i => dot D (mzc N Z i) (zc l y) l) hlen hp hmv6 hl hmm hcm hV hH c1 c2 c5 c6 c7 c8 h9
            · exact netSends_w2S4 n x (dt := fun i => dot D (mzc N Z i) (zc l y) l) hlen hp hmv6 hl hmm hcm hV hH c1 c2 c5 c6 (hrq 6 (by rw [un, if_pos (Or.inr hcm)]) (by decide))
          · exact netSends_w2S3 n x (dt := fun i => dot D (mzc N Z i) (zc l y) l) hlen hp hmv6 hl hmm hV hH c1 c2 c5 c6 (hrq 6 (by rw [un, if_pos (Or.inl hmm)]) (by decide))
        · exact netSends_w2S1 n x s (dt := fun i => dot D (mzc N Z i) (zc l y) l) hlen hp hmv6 hl hs0 hV hH c1 c2 c5 c6 (hrq s (by unfold FD.hrchk; rw [if_pos hs0]) hs0)
  · have e5 : D.sdchk mv N Z l y = D.mchk mv N Z := by unfold FD.sdchk; rw [if_pos hM]
    rw [e5] at c5
    have c2' : ∀ wx, Below w.heap.size w wx → Calls Try.prog 11 #[.int .i64 D.q] wx fun e w' => (∃ a b c d so sn sc e0, e = .returned (.tuple #[.agg #[.int .i64 a, .int .i64 b, .int .i64 c, .int .i64 d, .slice so sn sc], .int .i64 e0])) ∧ Below wx.heap.size wx w' := fun wx hb => by
      refine (c2 wx hb).mono ?_
      rintro e w' ⟨gm, cm, rfl, _, hb'⟩
      exact ⟨⟨_, _, _, _, _, _, _, _, rfl⟩, hb'⟩
    by_cases hs0 : s = 0
    · rw [hs0] at c6
      have h9 := hrq (D.mchk mv N Z) (by unfold FD.hrchk; rw [if_neg (fun h => h hs0), if_pos hM]) hM
      by_cases h0 : mv = 0
      · exact netSends_w1aS2 D.q (D.mchk mv N Z) n x (dt := fun _ => 0) hlen hM h0 hV hH c1 c2' c5 c6 h9
      · exact netSends_w1bS2 D.q (D.mchk mv N Z) n x (dt := fun _ => 0) hlen hM (by omega) hmv6 hV hH c1 c2' c5 c6 h9
    · have h9 := hrq s (by unfold FD.hrchk; rw [if_pos hs0]) hs0
      by_cases h0 : mv = 0
      · exact netSends_w1aS1 D.q (D.mchk mv N Z) n x s (dt := fun _ => 0) hlen hM h0 hs0 hV hH c1 c2' c5 c6 h9
      · exact netSends_w1bS1 D.q (D.mchk mv N Z) n x s (dt := fun _ => 0) hlen hM (by omega) hmv6 hs0 hV hH c1 c2' c5 c6 h9
end Go.Proofs.Ythkjaiihlphgfaa
