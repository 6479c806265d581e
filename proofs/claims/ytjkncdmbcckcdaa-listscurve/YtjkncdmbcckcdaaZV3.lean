/- The reference's polynomials: sums (PAdd). -/
import Derived.Test.YtjkncdmbcckcdaaZV2
namespace Go.Proofs.Ytjkncdmbcckcdaa
open Go.RowKit

/-- The n coefficients c as a list of numbers. -/
def NL (n : Nat) (c : Nat → Nat) : List Int := (List.range n).map fun k => ((c k : Nat) : Int)
theorem NL_len (n : Nat) (c : Nat → Nat) : (NL n c).length = n := by simp [NL]
theorem NL_succ (n : Nat) (c : Nat → Nat) : NL (n + 1) c = NL n c ++ [((c n : Nat) : Int)] := by unfold NL; rw [List.range_succ, List.map_append]; rfl
theorem NL_get (n : Nat) (c : Nat → Nat) (j : Nat) (hj : j < n) : (NL n c).getD j 0 = ((c j : Nat) : Int) := by
  unfold NL
  rw [List.getD_eq_getElem?_getD, List.getElem?_map, List.getElem?_range hj]; rfl
theorem OwnI.ownP {base n : Nat} {v : Value} {c : Nat → Nat} {w : World} (h : OwnI base v (NL n c) w) : OwnP base v n c w := by
  rcases h.2 with ⟨h1, h2⟩ | ⟨g, cap, cur, hv, hg, hh, hle, hcm, hsz, htake⟩
  · rw [NL_len] at h2
    subst h2
    exact ⟨none, 0, h1, Nat.le_refl _, by omega, fun x hx => (by cases hx), fun x hx => (by cases hx), fun _ => rfl, fun h0 => absurd h0 (by omega)⟩
  · rw [NL_len] at hv hle
    refine ⟨_, cap, hv, hle, by unfold maxLen at hcm; omega, fun x hx => (by cases hx; exact hg), fun x hx => (by cases hx; exact lt_of_block hh), fun e => (by cases e), fun h0 => ⟨g, rfl, ?_⟩⟩
    obtain ⟨g', cap', f, hv', hg', hl', hle', hcm', hrow, hf⟩ := h.row n (NL_len n c) h0
    rw [hv'] at hv
    simp only [Value.slice.injEq, Option.some.injEq, Addr.mk.injEq, and_true, true_and] at hv
    obtain ⟨rfl, rfl⟩ := hv
    exact ⟨_, f, hrow, hle', fun k hk => by rw [hf k hk, NL_get n c k hk]⟩

set_option maxHeartbeats 4000000 in
set_option maxRecDepth 100000 in
theorem rpadd_any {D : FD} (hD : D ∈ fieldsL) (gen gm cm : Nat) {ao bo : Option Addr} {n m ca cb : Nat} {a b : Nat → Nat} {w : World} (hn : n ≤ 1000) (hm : m ≤ 1000) (ha : El D a) (hb : El D b) (hbn : Bd n a) (hbm : Bd m b) (hA : Sl ao n a w) (hB : Sl bo m b w) (hla : LtB ao w.heap.size) (hlb : LtB bo w.heap.size) :
    Calls Try.prog 69 #[rf D.q D.p D.m gen (.slice (some ⟨gm, 0, none⟩) (D.m + 1) cm), .slice ao n ca, .slice bo m cb] w fun e w' => ∃ v, e = .returned v ∧ OwnP w.heap.size v (dgn (padd D a b) (max n m)) (padd D a b) w' ∧ Below w.heap.size w w' := by
  have HF : Hid (D ∈ fieldsL ∧ Sl ao n a w ∧ Sl bo m b w ∧ El D a ∧ El D b ∧ Bd n a ∧ Bd m b ∧ LtB ao w.heap.size ∧ LtB bo w.heap.size) := ⟨hD, hA, hB, ha, hb, hbn, hbm, hla, hlb⟩
  clear hD hA hB ha hb hbn hbm hla hlb
  have HB0 : Hid (Box w.heap.size D gen (.slice (some ⟨gm, 0, none⟩) (D.m + 1) cm) (w.alloc (.cells #[.int .i64 D.q, .int .i64 D.p, .int .i64 D.m, .int .i64 gen, .slice (some ⟨gm, 0, none⟩) (D.m + 1) cm] 27))) := box_new D gen _ w
  unfold rf
  obtain ⟨N, hN⟩ : ∃ N, N = max n m := ⟨_, rfl⟩
  rw [← hN]
  have hN2 : N ≤ 1000 := by omega
  have hN3 : n ≤ N := by omega
  have hN4 : m ≤ N := by omega
  have HN : Hid (N = max n m) := hN
  clear hN
  go_enter Try.func69, Try.ntmps69
  go_wp2
  go_loopw [7, 8] (fun vl i wr => ∃ r : Nat, r ≤ N ∧ i = .int .i64 r ∧ OwnI (w.heap.size + 1) vl (NL r (padd D a b)) wr ∧ Box w.heap.size D gen (.slice (some ⟨gm, 0, none⟩) (D.m + 1) cm) wr ∧ Below w.heap.size w wr ∧ w.heap.size < wr.heap.size) (fun _ i _ => N - (intOf i).toNat)
  case atStart => exact ⟨0, by omega, rfl, OwnI.nil _ _, HB0.out, (Below.refl _ _).alloc (Nat.le_refl _) _, by simp⟩
  case round =>
    obtain ⟨r, hr, rfl, hown, hbox, hbel, hlt1⟩ := hrel
    obtain ⟨c0, c1, c2, c3, c4⟩ := hbox
    have HG : Hid (OwnI (w.heap.size + 1) u7 (NL r (padd D a b)) wr ∧ Box w.heap.size D gen (.slice (some ⟨gm, 0, none⟩) (D.m + 1) cm) wr ∧ Below w.heap.size w wr) := ⟨hown, ⟨c0, c1, c2, c3, c4⟩, hbel⟩
    clear hown hbel
    have HC : Hid (∀ w3 : World, Calls Try.prog 107 #[.agg #[.int .i64 D.q, .int .i64 D.p, .int .i64 D.m, .int .i64 gen, .slice (some ⟨gm, 0, none⟩) (D.m + 1) cm], .int .i64 (a r : Nat), .int .i64 (b r : Nat)] w3 fun e w' => e = .returned (.int .i64 (padd D a b r : Nat)) ∧ Below w3.heap.size w3 w') :=
      fun w3 => radd_nat HF.out.1 gen _ (a r) (b r) (HF.out.2.2.2.1 r) (HF.out.2.2.2.2.1 r) w3
    by_cases h1 : r < n
    · obtain ⟨ba, offa, rfl, hca⟩ := (HF.out.2.1.below HG.out.2.2 HF.out.2.2.2.2.2.2.2.1) r h1
      by_cases h2 : r < m
      · obtain ⟨bb, offb, rfl, hcb⟩ := (HF.out.2.2.1.below HG.out.2.2 HF.out.2.2.2.2.2.2.2.2) r h2
        go_wp2_with (first
          | (go_at_call 107; refine (HC.out _).mono ?_; rintro e w2 ⟨rfl, hb2⟩; have hs2 := hb2.size; have HG2 : Hid (OwnI (w.heap.size + 1) u7 (NL r (padd D a b)) w2 ∧ Box w.heap.size D gen (.slice (some ⟨gm, 0, none⟩) (D.m + 1) cm) w2 ∧ Below w.heap.size w w2) := ⟨HG.out.1.below hb2 (fun k hk => (HG.out.1.lt k hk).2), HG.out.2.1.below (B := wr.heap.size) hb2 hlt1, bel_up' HG.out.2.2 hb2⟩; clear hb2)
          | (at_builtin; refine append_int rfl _ _ rfl (w.heap.size + 1) _ (NL r (padd D a b)) rfl (HG2.out.1.alloc _) ⟨_, 0, none⟩ 1 (padd D a b r : Nat) rfl (by simp) (by rw [NL_len]; omega) (by simp; omega) ?_; intro v3 w3 hown3 hgrow3))
        have HE : Hid (OwnI (w.heap.size + 1) v3 (NL (r + 1) (padd D a b)) w3 ∧ Box w.heap.size D gen (.slice (some ⟨gm, 0, none⟩) (D.m + 1) cm) w3 ∧ Below w.heap.size w w3 ∧ w.heap.size < w3.heap.size) := by
          have hb3 : Below (w.heap.size + 1) w2 w3 := ((Below.refl _ _).alloc (by omega) _).grown hgrow3 (by simp; omega) (fun k hk => (HG2.out.1.lt k hk).1)
          refine ⟨by rw [NL_succ]; exact hown3, HG2.out.2.1.below (B := w.heap.size + 1) hb3 (by omega), HG2.out.2.2.trans (hb3.mono (by omega)), by have := hb3.size; omega⟩
        clear hown3 hgrow3
        go_roundw
        case rel => exact ⟨r + 1, by omega, by go_num, HE.out⟩
        case measure => simp [intOf]; omega
      · have hb0 : b r = 0 := HF.out.2.2.2.2.2.2.1 r (by omega)
        rw [hb0] at HC
        go_wp2_with (first
          | (go_at_call 107; refine (HC.out _).mono ?_; rintro e w2 ⟨rfl, hb2⟩; have hs2 := hb2.size; have HG2 : Hid (OwnI (w.heap.size + 1) u7 (NL r (padd D a b)) w2 ∧ Box w.heap.size D gen (.slice (some ⟨gm, 0, none⟩) (D.m + 1) cm) w2 ∧ Below w.heap.size w w2) := ⟨HG.out.1.below hb2 (fun k hk => (HG.out.1.lt k hk).2), HG.out.2.1.below (B := wr.heap.size) hb2 hlt1, bel_up' HG.out.2.2 hb2⟩; clear hb2)
          | (at_builtin; refine append_int rfl _ _ rfl (w.heap.size + 1) _ (NL r (padd D a b)) rfl (HG2.out.1.alloc _) ⟨_, 0, none⟩ 1 (padd D a b r : Nat) rfl (by simp) (by rw [NL_len]; omega) (by simp; omega) ?_; intro v3 w3 hown3 hgrow3))
        have HE : Hid (OwnI (w.heap.size + 1) v3 (NL (r + 1) (padd D a b)) w3 ∧ Box w.heap.size D gen (.slice (some ⟨gm, 0, none⟩) (D.m + 1) cm) w3 ∧ Below w.heap.size w w3 ∧ w.heap.size < w3.heap.size) := by
          have hb3 : Below (w.heap.size + 1) w2 w3 := ((Below.refl _ _).alloc (by omega) _).grown hgrow3 (by simp; omega) (fun k hk => (HG2.out.1.lt k hk).1)
          refine ⟨by rw [NL_succ]; exact hown3, HG2.out.2.1.below (B := w.heap.size + 1) hb3 (by omega), HG2.out.2.2.trans (hb3.mono (by omega)), by have := hb3.size; omega⟩
        clear hown3 hgrow3
        go_roundw
        case rel => exact ⟨r + 1, by omega, by go_num, HE.out⟩
        case measure => simp [intOf]; omega
    · have ha0 : a r = 0 := HF.out.2.2.2.2.2.1 r (by omega)
      by_cases h2 : r < m
      · obtain ⟨bb, offb, rfl, hcb⟩ := (HF.out.2.2.1.below HG.out.2.2 HF.out.2.2.2.2.2.2.2.2) r h2
        rw [ha0] at HC
        go_wp2_with (first
          | (go_at_call 107; refine (HC.out _).mono ?_; rintro e w2 ⟨rfl, hb2⟩; have hs2 := hb2.size; have HG2 : Hid (OwnI (w.heap.size + 1) u7 (NL r (padd D a b)) w2 ∧ Box w.heap.size D gen (.slice (some ⟨gm, 0, none⟩) (D.m + 1) cm) w2 ∧ Below w.heap.size w w2) := ⟨HG.out.1.below hb2 (fun k hk => (HG.out.1.lt k hk).2), HG.out.2.1.below (B := wr.heap.size) hb2 hlt1, bel_up' HG.out.2.2 hb2⟩; clear hb2)
          | (at_builtin; refine append_int rfl _ _ rfl (w.heap.size + 1) _ (NL r (padd D a b)) rfl (HG2.out.1.alloc _) ⟨_, 0, none⟩ 1 (padd D a b r : Nat) rfl (by simp) (by rw [NL_len]; omega) (by simp; omega) ?_; intro v3 w3 hown3 hgrow3))
        have HE : Hid (OwnI (w.heap.size + 1) v3 (NL (r + 1) (padd D a b)) w3 ∧ Box w.heap.size D gen (.slice (some ⟨gm, 0, none⟩) (D.m + 1) cm) w3 ∧ Below w.heap.size w w3 ∧ w.heap.size < w3.heap.size) := by
          have hb3 : Below (w.heap.size + 1) w2 w3 := ((Below.refl _ _).alloc (by omega) _).grown hgrow3 (by simp; omega) (fun k hk => (HG2.out.1.lt k hk).1)
          refine ⟨by rw [NL_succ]; exact hown3, HG2.out.2.1.below (B := w.heap.size + 1) hb3 (by omega), HG2.out.2.2.trans (hb3.mono (by omega)), by have := hb3.size; omega⟩
        clear hown3 hgrow3
        go_roundw
        case rel => exact ⟨r + 1, by omega, by go_num, HE.out⟩
        case measure => simp [intOf]; omega
      · have HO : Hid (OwnP (w.heap.size + 1) u7 N (padd D a b) wr) := by
          have h := HG.out.1.ownP
          rw [show r = N from by have := HN.out; omega] at h; exact h
        obtain ⟨lo, lc, hlv, h3, h4, _, h6, h7, h8⟩ := HO.out.open
        subst hlv
        have HT : Hid (Calls Try.prog 67 #[.slice lo N lc] wr fun e w' => ∃ v, e = .returned v ∧ OwnP wr.heap.size v (dgn (padd D a b) N) (padd D a b) w' ∧ Below wr.heap.size wr w') := rtrim_any h8 h3 h4 h7 h6 (by omega)
        clear h3 h4 h6 h7 h8
        go_wp2_with fail
        refine HT.out.mono ?_
        rintro e w2 ⟨v, rfl, hown, hb2⟩
        have HR : Hid (OwnP w.heap.size v (dgn (padd D a b) N) (padd D a b) w2 ∧ Below w.heap.size w w2) := ⟨hown.mono (by omega), bel_up' HG.out.2.2 hb2⟩
        clear hown hb2
        go_wp2
        go_ret
        exact ⟨v, rfl, HR.out.1, HR.out.2⟩
end Go.Proofs.Ytjkncdmbcckcdaa
