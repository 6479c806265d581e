/- Words that may lose a bit: the reference's GapMended (printed by make/ki14.py). -/
import Derived.Test.YtillljojdnofgaaZKI13
import Derived.Test.YtillljojdnofgaaZW13
namespace Go.Proofs.Ytillljojdnofgaa
open Go.RowKit Go.Sort

/-- A word c of n bits of which the word f of l bits may have come. -/
def relW (n l : Nat) (f c : Nat → Nat) : Prop := wz n c = wz l f ∨ (l + 1 = n ∧ ∃ d ∈ lsL c n, wz (n - 1) d = wz l f) ∨ (l = n + 1 ∧ ∃ d ∈ lsL f l, wz (l - 1) d = wz n c)
/-- What GapMended tells. -/
def GmP (n a l : Nat) (f : Nat → Nat) (v : Value) (ok : Bool) (w : World) : Prop := (ok = true ∧ ∃ c, c ∈ wdL n a (2 ^ n) ∧ relW n l f c ∧ KI v (wz n c) w) ∨ (ok = false ∧ KI v [] w ∧ ∀ c ∈ wdL n a (2 ^ n), ¬ relW n l f c)
theorem gs_slI {ao : Option Addr} {n cap : Nat} {z : Nat → Int} {w : World} (h : SlZ ao n z w) (hn : n ≤ 1000000) : SliceI (.slice ao n cap) (zl n z) w := by
  by_cases h0 : n = 0
  · subst h0
    exact Or.inl ⟨rfl, ao, cap, rfl⟩
  · obtain ⟨b, off, e, _⟩ := h 0 (by omega)
    subst e
    refine Or.inr ⟨fun e => ?_, by rw [zl_len]; exact hn, b, off, cap, by rw [zl_len], fun j hj => ?_⟩
    · have := congrArg List.length e
      rw [zl_len] at this
      exact h0 this
    · rw [zl_len] at hj
      rw [zl_getD n z j hj]
      obtain ⟨b2, o2, e2, hc⟩ := h j hj
      cases e2
      exact hc
theorem wz_len (n : Nat) (c : Nat → Nat) : (wz n c).length = n := zl_len _ _
theorem OwnI.ki' {base n : Nat} {v : Value} {c : Nat → Nat} {w w' : World} (h : OwnI base v (wz n c) w ∧ n ≤ 12) (hb : Below w.heap.size w w') : KI v (wz n c) w' := (h.1.ki (by rw [wz_len]; omega)).below hb

set_option maxHeartbeats 32000000 in
set_option maxRecDepth 100000 in
theorem gapMended_any {ao : Option Addr} {n a l ca : Nat} {f : Nat → Nat} {w : World} (hA : ArgL ao l ca (fun j => ((f j : Nat) : Int)) w) (hl : l ≤ 13) (hn1 : 1 ≤ n) (hn : n ≤ 12) (ha : a ≤ n) :
    Calls Try.prog 13 #[.int .i64 (n : Nat), .int .i64 (a : Nat), .slice ao l ca] w fun e w' => ∃ v ok, e = .returned (.tuple #[v, .bool ok]) ∧ GmP n a l f v ok w' ∧ Below w.heap.size w w' := by
  have HW : Hid (Calls Try.prog 9 #[.int .i64 (n : Nat), .int .i64 (a : Nat)] w fun e w' => ∃ so sc, e = .returned (.slice so (wdL n a (2 ^ n)).length sc) ∧ WLs w.heap.size (.slice so (wdL n a (2 ^ n)).length sc) n (wdL n a (2 ^ n)) w' ∧ Below w.heap.size w w') := by
    refine (gapWords_any hn1 hn ha w).mono ?_
    rintro e w' ⟨v, rfl, hw, hb⟩
    obtain ⟨so, sc, rfl⟩ := hw.form
    exact ⟨so, sc, rfl, hw, hb⟩
  obtain ⟨L, hL⟩ : ∃ L, L = wdL n a (2 ^ n) := ⟨_, rfl⟩
  have hLl : L.length ≤ 4096 := by
    rw [hL]
    exact Nat.le_trans (wdL_len n a (2 ^ n)) (Nat.le_trans (Nat.pow_le_pow_right (by omega) hn) (by decide))
  rw [← hL] at HW
  obtain ⟨M, hM⟩ : ∃ M, M = L.length := ⟨_, rfl⟩
  rw [← hM] at HW hLl
  have HL : Hid (M = L.length ∧ L = wdL n a (2 ^ n) ∧ ArgL ao l ca (fun j => ((f j : Nat) : Int)) w) := ⟨hM, hL, hA⟩
  obtain ⟨n0, hn0⟩ : ∃ n0, n0 = n - 1 := ⟨_, rfl⟩
  obtain ⟨n2, hn2⟩ : ∃ n2, n2 = n + 1 := ⟨_, rfl⟩
  have w0s : IntKind.i64.wrap ((n : Int) - 1) = (n0 : Int) := wrap_to (by omega) (by omega)
  have w2s : IntKind.i64.wrap ((n : Int) + 1) = (n2 : Int) := wrap_to (by omega) (by omega)
  have hlb : (0 : Int) ≤ (l : Int) := by omega
  obtain ⟨b1, hb1⟩ : ∃ b1, b1 = ((l : Int) == (n0 : Int)) := ⟨_, rfl⟩
  obtain ⟨b2, hb2⟩ : ∃ b2, b2 = ((l : Int) == (n2 : Int)) := ⟨_, rfl⟩
  have HB : Hid ((b1 = true → l + 1 = n) ∧ (b1 = false → l + 1 ≠ n) ∧ (b2 = true → l = n + 1) ∧ (b2 = false → l ≠ n + 1)) := by
    refine ⟨fun e => ?_, fun e => ?_, fun e => ?_, fun e => ?_⟩
    · rw [e] at hb1; have := beq_iff_eq.1 hb1.symm; omega
    · rw [e] at hb1; have := beq_eq_false_iff_ne.1 hb1.symm; omega
    · rw [e] at hb2; have := beq_iff_eq.1 hb2.symm; omega
    · rw [e] at hb2; have := beq_eq_false_iff_ne.1 hb2.symm; omega
  have HBq : Hid ((((l : Int) == (n0 : Int)) = b1) ∧ (((l : Int) == (n2 : Int)) = b2)) := ⟨hb1.symm, hb2.symm⟩
  clear hA hL hM hn0 hn2 hb1 hb2
  go_enter Try.func13, Try.ntmps13
  go_wp2_with fail
  refine HW.out.mono ?_
  rintro e w1 ⟨so, sc, rfl, hw1, hb1'⟩
  have H1 : Hid (WLs w.heap.size (.slice so M sc) n L w1 ∧ Below w.heap.size w w1) := ⟨hw1, hb1'⟩
  clear hw1 hb1'
  go_wp2
  go_loopw [9] (fun vi wr => ∃ i : Nat, i ≤ M ∧ vi = .int .i64 (i : Nat) ∧ Hid ((∀ (j : Nat), j < i → ∀ c, L[j]? = some c → ¬ relW n l f c) ∧ Below w1.heap.size w1 wr)) (fun vi _ => M - (intOf vi).toNat)
  case atStart => exact ⟨0, by omega, rfl, fun j hj => absurd hj (by omega), Below.refl _ _⟩
  case round =>
    obtain ⟨i, hi, rfl, HG⟩ := hrel
    rename World => wr
    by_cases hlt : i < M
    · have hib : (i : Int) < (M : Int) := by omega
      have hib0 : (0 : Int) ≤ (i : Int) := by omega
      have hiL : i < L.length := by rw [← HL.out.1]; exact hlt
      obtain ⟨c, hc⟩ : ∃ c, L[i]? = some c := ⟨L[i], List.getElem?_eq_getElem hiL⟩
      have hWr : WLs w.heap.size (.slice so M sc) n L wr := H1.out.1.below HG.out.2
      have hAr : ArgL ao l ca (fun j => ((f j : Nat) : Int)) wr := ⟨slz_below HL.out.2.2.sl (bel_up' H1.out.2 HG.out.2), HL.out.2.2.lt.mono (bel_up' H1.out.2 HG.out.2).size, HL.out.2.2.nil, HL.out.2.2.le, HL.out.2.2.cap⟩
      obtain ⟨g, x, cx, hso, hcell, hown, harg⟩ := hWr.item hc
      subst hso
      obtain ⟨t, ht⟩ : ∃ t : Bool, t = decide (wz n c = wz l f) := ⟨_, rfl⟩
      have HSm : Hid (∀ wz : World, (∃ d, wz = wr.drewN d) → Calls Try.prog 16 #[.slice x n cx, .slice ao l ca] wz fun e w' => e = .returned (.bool t) ∧ ∃ d, w' = wz.drewN d) := fun wz hz => by
        obtain ⟨d, rfl⟩ := hz
        rw [ht]
        exact same_any ((gs_slI harg.sl (by omega)).drewN d) ((gs_slI hAr.sl (by omega)).drewN d)
      have HLo1 : Hid (∀ wz : World, Below wr.heap.size wr wz → Calls Try.prog 17 #[.slice x n cx] wz fun e w' => ∃ v, e = .returned v ∧ WLs wz.heap.size v (n - 1) (lsL c n) w' ∧ Below wz.heap.size wz w') := fun wz hz => rlost_any ⟨slz_below harg.sl hz, harg.lt.mono hz.size, harg.nil, harg.le, harg.cap⟩ (by omega)
      have HLo2 : Hid (∀ wz : World, Below wr.heap.size wr wz → Calls Try.prog 17 #[.slice ao l ca] wz fun e w' => ∃ v, e = .returned v ∧ WLs wz.heap.size v (l - 1) (lsL f l) w' ∧ Below wz.heap.size wz w') := fun wz hz => rlost_any ⟨slz_below hAr.sl hz, hAr.lt.mono hz.size, hAr.nil, hAr.le, hAr.cap⟩ hl
      obtain ⟨h1, hh1⟩ : ∃ h1 : Bool, h1 = (lsL c n).any (fun d => decide (wz (n - 1) d = wz l f)) := ⟨_, rfl⟩
      obtain ⟨h2, hh2⟩ : ∃ h2 : Bool, h2 = (lsL f l).any (fun d => decide (wz (l - 1) d = wz n c)) := ⟨_, rfl⟩
      have i1 : h1 = true ↔ ∃ d ∈ lsL c n, wz (n - 1) d = wz l f := by rw [hh1, List.any_eq_true]; exact ⟨fun ⟨d, h, e⟩ => ⟨d, h, of_decide_eq_true e⟩, fun ⟨d, h, e⟩ => ⟨d, h, decide_eq_true e⟩⟩
      have i2 : h2 = true ↔ ∃ d ∈ lsL f l, wz (l - 1) d = wz n c := by rw [hh2, List.any_eq_true]; exact ⟨fun ⟨d, h, e⟩ => ⟨d, h, of_decide_eq_true e⟩, fun ⟨d, h, e⟩ => ⟨d, h, decide_eq_true e⟩⟩
      have HHo1 : Hid (∀ (wz : World) (B : Nat) (v : Value), Below wr.heap.size wr wz → WLs B v (n - 1) (lsL c n) wz → Calls Try.prog 51 #[v, .slice ao l ca] wz fun e w' => e = .returned (.bool h1) ∧ ∃ d, w' = wz.drewN d) := fun wz B v hz hv => gholds_any hv (gs_slI (slz_below hAr.sl hz) (by omega)) (by rw [lsL_len]; omega) (by omega) h1 i1
      have HHo2 : Hid (∀ (wz : World) (B : Nat) (v : Value), Below wr.heap.size wr wz → WLs B v (l - 1) (lsL f l) wz → Calls Try.prog 51 #[v, .slice x n cx] wz fun e w' => e = .returned (.bool h2) ∧ ∃ d, w' = wz.drewN d) := fun wz B v hz hv => gholds_any hv (gs_slI (slz_below harg.sl hz) (by omega)) (by rw [lsL_len]; omega) (by omega) h2 i2
      have tF : n ≠ l → t = false := fun h => by rw [ht]; exact decide_eq_false fun e => h (by have := congrArg List.length e; rw [wz_len, wz_len] at this; exact this)
      have tI : t = true ↔ wz n c = wz l f := by rw [ht]; exact decide_eq_true_iff
      obtain ⟨r, hr⟩ : ∃ r : Bool, r = if b1 = true then h1 else if b2 = true then h2 else t := ⟨_, rfl⟩
      have HT : Hid (L[i]? = some c ∧ (r = true ↔ relW n l f c) ∧ OwnI w.heap.size (.slice x n cx) (wz n c) wr ∧ n ≤ 12) := by
        refine ⟨hc, ?_, hown, hn⟩
        unfold relW
        cases b1 with
        | true =>
          have e := HB.out.1 rfl
          rw [hr, if_pos rfl, i1]
          constructor
          · exact fun h => Or.inr (Or.inl ⟨e, h⟩)
          · rintro (h | ⟨_, h⟩ | ⟨h, _⟩)
            · exact absurd (tI.2 h) (by rw [tF (by omega)]; decide)
            · exact h
            · omega
        | false =>
          have e := HB.out.2.1 rfl
          rw [hr, if_neg (by decide)]
          cases b2 with
          | true =>
            have e2 := HB.out.2.2.1 rfl
            rw [if_pos rfl, i2]
            constructor
            · exact fun h => Or.inr (Or.inr ⟨e2, h⟩)
            · rintro (h | ⟨h, _⟩ | ⟨_, h⟩)
              · exact absurd (tI.2 h) (by rw [tF (by omega)]; decide)
              · omega
              · exact h
          | false =>
            have e2 := HB.out.2.2.2 rfl
            rw [if_neg (by decide), tI]
            constructor
            · exact Or.inl
            · rintro (h | ⟨h, _⟩ | ⟨h, _⟩)
              · exact h
              · exact absurd h e
              · exact absurd h e2
      clear hc hWr hAr hown harg hiL hh1 hh2 i1 i2 tI ht
      cases b1 with
      | true =>
        have ht : t = false := tF (by have := HB.out.1 rfl; omega)
        subst ht
        have b2f : b2 = false := by
          cases b2 with
          | false => rfl
          | true => have e1 := HB.out.1 rfl; have e2 := HB.out.2.2.1 rfl; omega
        subst b2f
        replace hr : r = h1 := hr
        subst hr
        have HLo := HLo1
        have HHo := HHo1
        clear HLo1 HLo2 HHo1 HHo2 tF h2
        go_wp2
        refine wp_region_noPanic ?_
        refine wp_region_L (S := fun wz => wz.cell? ⟨g, i, none⟩ = some (.slice x n cx)) [] (by kernel_rfl) ?_
        have hS0 : wr.drew.cell? ⟨g, i, none⟩ = some (.slice x n cx) := hcell
        refine wpAnyL_take (i := 0) (v := ?_) (by rw [List.getElem?_toArray]; rfl) (by decide +kernel) (by decide +kernel) (by decide +kernel) (by decide +kernel) (by decide +kernel) (fun _ _ _ h => h) hS0 (Or.inl ⟨by rfl, ?_⟩) ?_
        rotate_left
        · intro wz hSz; have z0 : wz.cell? ⟨g, i, none⟩ = some (.slice x n cx) := hSz; go_simp; first | done | with_reducible rfl | (simp only [hib0, hib, hlb, and_self, if_true, Int.toNat_natCast]; first | done | with_reducible rfl)
        try simp only [Act.put, List.setIfInBounds_toArray, List.set_cons_zero, List.set_cons_succ]
        refine wpAnyL_take (i := 1) (v := ?_) (by rw [List.getElem?_toArray]; rfl) (by decide +kernel) (by decide +kernel) (by decide +kernel) (by decide +kernel) (by decide +kernel) (fun _ _ _ h => h) hS0 (Or.inl ⟨by rfl, ?_⟩) ?_
        rotate_left
        · intro wz hSz; have z0 : wz.cell? ⟨g, i, none⟩ = some (.slice x n cx) := hSz; go_simp; first | done | with_reducible rfl | (simp only [hib0, hib, hlb, and_self, if_true, Int.toNat_natCast]; first | done | with_reducible rfl)
        try simp only [Act.put, List.setIfInBounds_toArray, List.set_cons_zero, List.set_cons_succ]
        refine wpAnyL_take (i := 2) (v := ?_) (by rw [List.getElem?_toArray]; rfl) (by decide +kernel) (by decide +kernel) (by decide +kernel) (by decide +kernel) (by decide +kernel) (fun _ _ _ h => h) hS0 (Or.inl ⟨by rfl, ?_⟩) ?_
        rotate_left
        · intro wz hSz; have z0 : wz.cell? ⟨g, i, none⟩ = some (.slice x n cx) := hSz; go_simp; first | done | with_reducible rfl | (simp only [hib0, hib, hlb, and_self, if_true, Int.toNat_natCast]; first | done | with_reducible rfl)
        try simp only [Act.put, List.setIfInBounds_toArray, List.set_cons_zero, List.set_cons_succ]
        refine wpAnyL_take (i := 3) (v := ?_) (by rw [List.getElem?_toArray]; rfl) (by decide +kernel) (by decide +kernel) (by decide +kernel) (by decide +kernel) (by decide +kernel) (fun _ _ _ h => h) hS0 (Or.inl ⟨by rfl, ?_⟩) ?_
        rotate_left
        · intro wz hSz; have z0 : wz.cell? ⟨g, i, none⟩ = some (.slice x n cx) := hSz; go_simp; first | done | with_reducible rfl | (simp only [hib0, hib, hlb, and_self, if_true, Int.toNat_natCast]; first | done | with_reducible rfl)
        try simp only [Act.put, List.setIfInBounds_toArray, List.set_cons_zero, List.set_cons_succ]
        refine wpAnyL_take (i := 4) (v := ?_) (by rw [List.getElem?_toArray]; rfl) (by decide +kernel) (by decide +kernel) (by decide +kernel) (by decide +kernel) (by decide +kernel) (fun _ _ _ h => h) hS0 (Or.inl ⟨by rfl, ?_⟩) ?_
        rotate_left
        · intro wz hSz; have z0 : wz.cell? ⟨g, i, none⟩ = some (.slice x n cx) := hSz; go_simp; first | done | with_reducible rfl | (simp only [hib0, hib, hlb, and_self, if_true, Int.toNat_natCast]; first | done | with_reducible rfl)
        try simp only [Act.put, List.setIfInBounds_toArray, List.set_cons_zero, List.set_cons_succ]
        refine wpAnyL_one (i := 5) (by kernel_rfl) (by rw [List.getElem?_toArray]; rfl) (fun K hK => ?_)
        have HK : Hid _ := hK
        clear hK
        go_simp
        refine (HSm.out wr.drew ⟨1, rfl⟩).mono ?_
        rintro e w2 ⟨rfl, d2, hd2⟩
        have hS2 : w2.cell? ⟨g, i, none⟩ = some (.slice x n cx) := by rw [hd2]; exact hcell
        have hB2 : Hid (Below wr.heap.size wr w2) := by rw [hd2]; exact below_drewN2 (below_drewN2 (Below.refl _ _) 1) d2
        clear hd2
        refine HK.out _ _ (fun _ => hS2) ?_
        clear HK K
        try simp only [Act.put, List.setIfInBounds_toArray, List.set_cons_zero, List.set_cons_succ]
        refine wpAnyL_take (i := 6) (v := ?_) (by rw [List.getElem?_toArray]; rfl) (by decide +kernel) (by decide +kernel) (by decide +kernel) (by decide +kernel) (by decide +kernel) (fun _ _ _ h => h) hS2 (Or.inl ⟨by rfl, ?_⟩) ?_
        rotate_left
        · intro wz hSz; have z0 : wz.cell? ⟨g, i, none⟩ = some (.slice x n cx) := hSz; go_simp; first | done | with_reducible rfl | (simp only [hib0, hib, hlb, and_self, if_true, Int.toNat_natCast]; first | done | with_reducible rfl)
        try simp only [Act.put, List.setIfInBounds_toArray, List.set_cons_zero, List.set_cons_succ]
        refine wpAnyL_take (i := 7) (v := ?_) (by rw [List.getElem?_toArray]; rfl) (by decide +kernel) (by decide +kernel) (by decide +kernel) (by decide +kernel) (by decide +kernel) (fun _ _ _ h => h) hS2 (Or.inl ⟨by rfl, ?_⟩) ?_
        rotate_left
        · intro wz hSz; have z0 : wz.cell? ⟨g, i, none⟩ = some (.slice x n cx) := hSz; go_simp; first | done | with_reducible rfl | (simp only [hib0, hib, hlb, and_self, if_true, Int.toNat_natCast]; first | done | with_reducible rfl)
        try simp only [Act.put, List.setIfInBounds_toArray, List.set_cons_zero, List.set_cons_succ]
        refine wpAnyL_take (i := 8) (v := ?_) (by rw [List.getElem?_toArray]; rfl) (by decide +kernel) (by decide +kernel) (by decide +kernel) (by decide +kernel) (by decide +kernel) (fun _ _ _ h => h) hS2 (Or.inl ⟨by rfl, ?_⟩) ?_
        rotate_left
        · intro wz hSz; have z0 : wz.cell? ⟨g, i, none⟩ = some (.slice x n cx) := hSz; go_simp; first | done | with_reducible rfl | (simp only [hib0, hib, hlb, and_self, if_true, Int.toNat_natCast]; first | done | with_reducible rfl)
        try simp only [Act.put, List.setIfInBounds_toArray, List.set_cons_zero, List.set_cons_succ]
        refine wpAnyL_take (i := 9) (v := ?_) (by rw [List.getElem?_toArray]; rfl) (by decide +kernel) (by decide +kernel) (by decide +kernel) (by decide +kernel) (by decide +kernel) (fun _ _ _ h => h) hS2 (Or.inl ⟨by rfl, ?_⟩) ?_
        rotate_left
        · intro wz hSz; have z0 : wz.cell? ⟨g, i, none⟩ = some (.slice x n cx) := hSz; go_simp; first | done | with_reducible rfl | (simp only [hib0, hib, hlb, and_self, if_true, Int.toNat_natCast]; first | done | with_reducible rfl)
        try simp only [Act.put, List.setIfInBounds_toArray, List.set_cons_zero, List.set_cons_succ]
        refine wpAnyL_take (i := 10) (v := ?_) (by rw [List.getElem?_toArray]; rfl) (by decide +kernel) (by decide +kernel) (by decide +kernel) (by decide +kernel) (by decide +kernel) (fun _ _ _ h => h) hS2 (Or.inl ⟨by rfl, ?_⟩) ?_
        rotate_left
        · intro wz hSz; have z0 : wz.cell? ⟨g, i, none⟩ = some (.slice x n cx) := hSz; go_simp; first | done | with_reducible rfl | (simp only [hib0, hib, hlb, and_self, if_true, Int.toNat_natCast]; first | done | with_reducible rfl)
        try simp only [Act.put, List.setIfInBounds_toArray, List.set_cons_zero, List.set_cons_succ]
        refine wpAnyL_take (i := 11) (v := ?_) (by rw [List.getElem?_toArray]; rfl) (by decide +kernel) (by decide +kernel) (by decide +kernel) (by decide +kernel) (by decide +kernel) (fun _ _ _ h => h) hS2 (Or.inl ⟨by rfl, ?_⟩) ?_
        rotate_left
        · intro wz hSz; have q1 := HBq.out.1; have z0 : wz.cell? ⟨g, i, none⟩ = some (.slice x n cx) := hSz; go_simp; first | done | with_reducible rfl | (simp only [hib0, hib, hlb, and_self, if_true, Int.toNat_natCast]; first | done | with_reducible rfl)
        try simp only [Act.put, List.setIfInBounds_toArray, List.set_cons_zero, List.set_cons_succ]
        refine wpAnyL_take (i := 12) (v := ?_) (by rw [List.getElem?_toArray]; rfl) (by decide +kernel) (by decide +kernel) (by decide +kernel) (by decide +kernel) (by decide +kernel) (fun _ _ _ h => h) hS2 (Or.inl ⟨by rfl, ?_⟩) ?_
        rotate_left
        · intro wz hSz; have z0 : wz.cell? ⟨g, i, none⟩ = some (.slice x n cx) := hSz; go_simp; first | done | with_reducible rfl | (simp only [hib0, hib, hlb, and_self, if_true, Int.toNat_natCast]; first | done | with_reducible rfl)
        try simp only [Act.put, List.setIfInBounds_toArray, List.set_cons_zero, List.set_cons_succ]
        refine wpAnyL_take (i := 13) (v := ?_) (by rw [List.getElem?_toArray]; rfl) (by decide +kernel) (by decide +kernel) (by decide +kernel) (by decide +kernel) (by decide +kernel) (fun _ _ _ h => h) hS2 (Or.inl ⟨by rfl, ?_⟩) ?_
        rotate_left
        · intro wz hSz; have z0 : wz.cell? ⟨g, i, none⟩ = some (.slice x n cx) := hSz; go_simp; first | done | with_reducible rfl | (simp only [hib0, hib, hlb, and_self, if_true, Int.toNat_natCast]; first | done | with_reducible rfl)
        try simp only [Act.put, List.setIfInBounds_toArray, List.set_cons_zero, List.set_cons_succ]
        refine wpAnyL_take (i := 14) (v := ?_) (by rw [List.getElem?_toArray]; rfl) (by decide +kernel) (by decide +kernel) (by decide +kernel) (by decide +kernel) (by decide +kernel) (fun _ _ _ h => h) hS2 (Or.inl ⟨by rfl, ?_⟩) ?_
        rotate_left
        · intro wz hSz; have z0 : wz.cell? ⟨g, i, none⟩ = some (.slice x n cx) := hSz; go_simp; first | done | with_reducible rfl | (simp only [hib0, hib, hlb, and_self, if_true, Int.toNat_natCast]; first | done | with_reducible rfl)
        try simp only [Act.put, List.setIfInBounds_toArray, List.set_cons_zero, List.set_cons_succ]
        refine wpAnyL_take (i := 15) (v := ?_) (by rw [List.getElem?_toArray]; rfl) (by decide +kernel) (by decide +kernel) (by decide +kernel) (by decide +kernel) (by decide +kernel) (fun _ _ _ h => h) hS2 (Or.inl ⟨by rfl, ?_⟩) ?_
        rotate_left
        · intro wz hSz; have z0 : wz.cell? ⟨g, i, none⟩ = some (.slice x n cx) := hSz; go_simp; first | done | with_reducible rfl | (simp only [hib0, hib, hlb, and_self, if_true, Int.toNat_natCast]; first | done | with_reducible rfl)
        try simp only [Act.put, List.setIfInBounds_toArray, List.set_cons_zero, List.set_cons_succ]
        refine wpAnyL_take (i := 16) (v := ?_) (by rw [List.getElem?_toArray]; rfl) (by decide +kernel) (by decide +kernel) (by decide +kernel) (by decide +kernel) (by decide +kernel) (fun _ _ _ h => h) hS2 (Or.inl ⟨by rfl, ?_⟩) ?_
        rotate_left
        · intro wz hSz; have z0 : wz.cell? ⟨g, i, none⟩ = some (.slice x n cx) := hSz; go_simp; first | done | with_reducible rfl | (simp only [hib0, hib, hlb, and_self, if_true, Int.toNat_natCast]; first | done | with_reducible rfl)
        try simp only [Act.put, List.setIfInBounds_toArray, List.set_cons_zero, List.set_cons_succ]
        refine wpAnyL_take (i := 18) (v := ?_) (by rw [List.getElem?_toArray]; rfl) (by decide +kernel) (by decide +kernel) (by decide +kernel) (by decide +kernel) (by decide +kernel) (fun _ _ _ h => h) hS2 (Or.inl ⟨by rfl, ?_⟩) ?_
        rotate_left
        · intro wz hSz; have z0 : wz.cell? ⟨g, i, none⟩ = some (.slice x n cx) := hSz; go_simp; first | done | with_reducible rfl | (simp only [hib0, hib, hlb, and_self, if_true, Int.toNat_natCast]; first | done | with_reducible rfl)
        try simp only [Act.put, List.setIfInBounds_toArray, List.set_cons_zero, List.set_cons_succ]
        refine wpAnyL_one (i := 17) (by kernel_rfl) (by rw [List.getElem?_toArray]; rfl) (fun K hK => ?_)
        have HK : Hid _ := hK
        clear hK
        go_simp
        refine (HLo.out w2 hB2.out).mono ?_
        rintro e w3 ⟨v3, rfl, hw3, hb3⟩
        have hS3 : w3.cell? ⟨g, i, none⟩ = some (.slice x n cx) := ((bcell hb3).1 g i (cell_lt hS2)).trans hS2
        have hB3 : Hid (Below wr.heap.size wr w3 ∧ WLs w2.heap.size v3 (n - 1) (lsL c n) w3) := ⟨bel_up' hB2.out hb3, hw3⟩
        clear hw3 hb3
        refine HK.out _ _ (fun _ => hS3) ?_
        clear HK K
        try simp only [Act.put, List.setIfInBounds_toArray, List.set_cons_zero, List.set_cons_succ]
        refine wpAnyL_one (i := 19) (by kernel_rfl) (by rw [List.getElem?_toArray]; rfl) (fun K hK => ?_)
        have HK : Hid _ := hK
        clear hK
        go_simp
        refine (HHo.out w3 w2.heap.size v3 hB3.out.1 hB3.out.2).mono ?_
        rintro e w4 ⟨rfl, d4, hd4⟩
        have hS4 : w4.cell? ⟨g, i, none⟩ = some (.slice x n cx) := by rw [hd4]; exact hS3
        have hB4 : Hid (Below wr.heap.size wr w4) := by rw [hd4]; exact below_drewN2 hB3.out.1 d4
        clear hd4
        refine HK.out _ _ (fun _ => hS4) ?_
        clear HK K
        try simp only [Act.put, List.setIfInBounds_toArray, List.set_cons_zero, List.set_cons_succ]
        cases r with
        | true =>
          refine wpAnyL_take (i := 20) (v := ?_) (by rw [List.getElem?_toArray]; rfl) (by decide +kernel) (by decide +kernel) (by decide +kernel) (by decide +kernel) (by decide +kernel) (fun _ _ _ h => h) hS4 (Or.inl ⟨by rfl, ?_⟩) ?_
          rotate_left
          · intro wz hSz; have z0 : wz.cell? ⟨g, i, none⟩ = some (.slice x n cx) := hSz; go_simp; first | done | with_reducible rfl | (simp only [hib0, hib, hlb, and_self, if_true, Int.toNat_natCast]; first | done | with_reducible rfl)
          try simp only [Act.put, List.setIfInBounds_toArray, List.set_cons_zero, List.set_cons_succ]
          refine wpAnyL_take (i := 21) (v := ?_) (by rw [List.getElem?_toArray]; rfl) (by decide +kernel) (by decide +kernel) (by decide +kernel) (by decide +kernel) (by decide +kernel) (fun _ _ _ h => h) hS4 (Or.inl ⟨by rfl, ?_⟩) ?_
          rotate_left
          · intro wz hSz; have z0 : wz.cell? ⟨g, i, none⟩ = some (.slice x n cx) := hSz; go_simp; first | done | with_reducible rfl | (simp only [hib0, hib, hlb, and_self, if_true, Int.toNat_natCast]; first | done | with_reducible rfl)
          try simp only [Act.put, List.setIfInBounds_toArray, List.set_cons_zero, List.set_cons_succ]
          refine wpAnyL_take (i := 22) (v := ?_) (by rw [List.getElem?_toArray]; rfl) (by decide +kernel) (by decide +kernel) (by decide +kernel) (by decide +kernel) (by decide +kernel) (fun _ _ _ h => h) hS4 (Or.inl ⟨by rfl, ?_⟩) ?_
          rotate_left
          · intro wz hSz; have z0 : wz.cell? ⟨g, i, none⟩ = some (.slice x n cx) := hSz; go_simp; first | done | with_reducible rfl | (simp only [hib0, hib, hlb, and_self, if_true, Int.toNat_natCast]; first | done | with_reducible rfl)
          try simp only [Act.put, List.setIfInBounds_toArray, List.set_cons_zero, List.set_cons_succ]
          refine wpAnyL_take (i := 23) (v := undef) (by rw [List.getElem?_toArray]; rfl) (by decide +kernel) (by decide +kernel) (by decide +kernel) (by decide +kernel) (by decide +kernel) (fun _ _ _ h => h) hS4 (Or.inr ⟨by rfl, rfl⟩) ?_
          try simp only [Act.put, List.setIfInBounds_toArray, List.set_cons_zero, List.set_cons_succ]
          refine wpAnyL_take (i := 24) (v := undef) (by rw [List.getElem?_toArray]; rfl) (by decide +kernel) (by decide +kernel) (by decide +kernel) (by decide +kernel) (by decide +kernel) (fun _ _ _ h => h) hS4 (Or.inr ⟨by rfl, rfl⟩) ?_
          try simp only [Act.put, List.setIfInBounds_toArray, List.set_cons_zero, List.set_cons_succ]
          refine wpAnyL_take (i := 25) (v := undef) (by rw [List.getElem?_toArray]; rfl) (by decide +kernel) (by decide +kernel) (by decide +kernel) (by decide +kernel) (by decide +kernel) (fun _ _ _ h => h) hS4 (Or.inr ⟨by rfl, rfl⟩) ?_
          try simp only [Act.put, List.setIfInBounds_toArray, List.set_cons_zero, List.set_cons_succ]
          refine wpAnyL_take (i := 26) (v := undef) (by rw [List.getElem?_toArray]; rfl) (by decide +kernel) (by decide +kernel) (by decide +kernel) (by decide +kernel) (by decide +kernel) (fun _ _ _ h => h) hS4 (Or.inr ⟨by rfl, rfl⟩) ?_
          try simp only [Act.put, List.setIfInBounds_toArray, List.set_cons_zero, List.set_cons_succ]
          refine wpAnyL_take (i := 27) (v := undef) (by rw [List.getElem?_toArray]; rfl) (by decide +kernel) (by decide +kernel) (by decide +kernel) (by decide +kernel) (by decide +kernel) (fun _ _ _ h => h) hS4 (Or.inr ⟨by rfl, rfl⟩) ?_
          try simp only [Act.put, List.setIfInBounds_toArray, List.set_cons_zero, List.set_cons_succ]
          refine wpAnyL_take (i := 28) (v := undef) (by rw [List.getElem?_toArray]; rfl) (by decide +kernel) (by decide +kernel) (by decide +kernel) (by decide +kernel) (by decide +kernel) (fun _ _ _ h => h) hS4 (Or.inr ⟨by rfl, rfl⟩) ?_
          try simp only [Act.put, List.setIfInBounds_toArray, List.set_cons_zero, List.set_cons_succ]
          refine wpAnyL_take (i := 29) (v := undef) (by rw [List.getElem?_toArray]; rfl) (by decide +kernel) (by decide +kernel) (by decide +kernel) (by decide +kernel) (by decide +kernel) (fun _ _ _ h => h) hS4 (Or.inr ⟨by rfl, rfl⟩) ?_
          try simp only [Act.put, List.setIfInBounds_toArray, List.set_cons_zero, List.set_cons_succ]
          refine wpAnyL_take (i := 30) (v := undef) (by rw [List.getElem?_toArray]; rfl) (by decide +kernel) (by decide +kernel) (by decide +kernel) (by decide +kernel) (by decide +kernel) (fun _ _ _ h => h) hS4 (Or.inr ⟨by rfl, rfl⟩) ?_
          try simp only [Act.put, List.setIfInBounds_toArray, List.set_cons_zero, List.set_cons_succ]
          refine wpAnyL_take (i := 31) (v := undef) (by rw [List.getElem?_toArray]; rfl) (by decide +kernel) (by decide +kernel) (by decide +kernel) (by decide +kernel) (by decide +kernel) (fun _ _ _ h => h) hS4 (Or.inr ⟨by rfl, rfl⟩) ?_
          try simp only [Act.put, List.setIfInBounds_toArray, List.set_cons_zero, List.set_cons_succ]
          refine wpAnyL_take (i := 32) (v := undef) (by rw [List.getElem?_toArray]; rfl) (by decide +kernel) (by decide +kernel) (by decide +kernel) (by decide +kernel) (by decide +kernel) (fun _ _ _ h => h) hS4 (Or.inr ⟨by rfl, rfl⟩) ?_
          try simp only [Act.put, List.setIfInBounds_toArray, List.set_cons_zero, List.set_cons_succ]
          refine wpAnyL_take (i := 33) (v := undef) (by rw [List.getElem?_toArray]; rfl) (by decide +kernel) (by decide +kernel) (by decide +kernel) (by decide +kernel) (by decide +kernel) (fun _ _ _ h => h) hS4 (Or.inr ⟨by rfl, rfl⟩) ?_
          try simp only [Act.put, List.setIfInBounds_toArray, List.set_cons_zero, List.set_cons_succ]
          refine wpAnyL_take (i := 34) (v := undef) (by rw [List.getElem?_toArray]; rfl) (by decide +kernel) (by decide +kernel) (by decide +kernel) (by decide +kernel) (by decide +kernel) (fun _ _ _ h => h) hS4 (Or.inr ⟨by rfl, rfl⟩) ?_
          try simp only [Act.put, List.setIfInBounds_toArray, List.set_cons_zero, List.set_cons_succ]
          refine wpAnyL_take (i := 35) (v := undef) (by rw [List.getElem?_toArray]; rfl) (by decide +kernel) (by decide +kernel) (by decide +kernel) (by decide +kernel) (by decide +kernel) (fun _ _ _ h => h) hS4 (Or.inr ⟨by rfl, rfl⟩) ?_
          try simp only [Act.put, List.setIfInBounds_toArray, List.set_cons_zero, List.set_cons_succ]
          refine wpAnyL_take (i := 36) (v := undef) (by rw [List.getElem?_toArray]; rfl) (by decide +kernel) (by decide +kernel) (by decide +kernel) (by decide +kernel) (by decide +kernel) (fun _ _ _ h => h) hS4 (Or.inr ⟨by rfl, rfl⟩) ?_
          try simp only [Act.put, List.setIfInBounds_toArray, List.set_cons_zero, List.set_cons_succ]
          refine wpAnyL_take (i := 37) (v := ?_) (by rw [List.getElem?_toArray]; rfl) (by decide +kernel) (by decide +kernel) (by decide +kernel) (by decide +kernel) (by decide +kernel) (fun _ _ _ h => h) hS4 (Or.inl ⟨by rfl, ?_⟩) ?_
          rotate_left
          · intro wz hSz; have z0 : wz.cell? ⟨g, i, none⟩ = some (.slice x n cx) := hSz; go_simp; first | done | with_reducible rfl | (simp only [hib0, hib, hlb, and_self, if_true, Int.toNat_natCast]; first | done | with_reducible rfl)
          try simp only [Act.put, List.setIfInBounds_toArray, List.set_cons_zero, List.set_cons_succ]
          refine wpAnyL_done (by kernel_rfl) (NoPanic.normal ?_)
          have HE : Hid (GmP n a l f (.slice x n cx) true w4 ∧ Below w.heap.size w w4) := ⟨Or.inl ⟨rfl, c, by rw [← HL.out.2.1]; exact List.mem_of_getElem? HT.out.1, HT.out.2.1.1 rfl, OwnI.ki' HT.out.2.2 hB4.out⟩, bel_up' (bel_up' H1.out.2 HG.out.2) hB4.out⟩
          have hcl : w4.cell? ⟨g, i, none⟩ = some (.slice x n cx) := hS4
          go_wp2
          go_ret2
          first | exact ⟨_, _, rfl, HE.out⟩ | exact ⟨_, Or.inl ⟨rfl, HE.out⟩⟩ | exact ⟨_, Or.inr ⟨rfl, HE.out⟩⟩
        | false =>
          refine wpAnyL_take (i := 20) (v := ?_) (by rw [List.getElem?_toArray]; rfl) (by decide +kernel) (by decide +kernel) (by decide +kernel) (by decide +kernel) (by decide +kernel) (fun _ _ _ h => h) hS4 (Or.inl ⟨by rfl, ?_⟩) ?_
          rotate_left
          · intro wz hSz; have z0 : wz.cell? ⟨g, i, none⟩ = some (.slice x n cx) := hSz; go_simp; first | done | with_reducible rfl | (simp only [hib0, hib, hlb, and_self, if_true, Int.toNat_natCast]; first | done | with_reducible rfl)
          try simp only [Act.put, List.setIfInBounds_toArray, List.set_cons_zero, List.set_cons_succ]
          refine wpAnyL_take (i := 21) (v := ?_) (by rw [List.getElem?_toArray]; rfl) (by decide +kernel) (by decide +kernel) (by decide +kernel) (by decide +kernel) (by decide +kernel) (fun _ _ _ h => h) hS4 (Or.inl ⟨by rfl, ?_⟩) ?_
          rotate_left
          · intro wz hSz; have z0 : wz.cell? ⟨g, i, none⟩ = some (.slice x n cx) := hSz; go_simp; first | done | with_reducible rfl | (simp only [hib0, hib, hlb, and_self, if_true, Int.toNat_natCast]; first | done | with_reducible rfl)
          try simp only [Act.put, List.setIfInBounds_toArray, List.set_cons_zero, List.set_cons_succ]
          refine wpAnyL_take (i := 22) (v := ?_) (by rw [List.getElem?_toArray]; rfl) (by decide +kernel) (by decide +kernel) (by decide +kernel) (by decide +kernel) (by decide +kernel) (fun _ _ _ h => h) hS4 (Or.inl ⟨by rfl, ?_⟩) ?_
          rotate_left
          · intro wz hSz; have z0 : wz.cell? ⟨g, i, none⟩ = some (.slice x n cx) := hSz; go_simp; first | done | with_reducible rfl | (simp only [hib0, hib, hlb, and_self, if_true, Int.toNat_natCast]; first | done | with_reducible rfl)
          try simp only [Act.put, List.setIfInBounds_toArray, List.set_cons_zero, List.set_cons_succ]
          refine wpAnyL_take (i := 23) (v := ?_) (by rw [List.getElem?_toArray]; rfl) (by decide +kernel) (by decide +kernel) (by decide +kernel) (by decide +kernel) (by decide +kernel) (fun _ _ _ h => h) hS4 (Or.inl ⟨by rfl, ?_⟩) ?_
          rotate_left
          · intro wz hSz; have z0 : wz.cell? ⟨g, i, none⟩ = some (.slice x n cx) := hSz; go_simp; first | done | with_reducible rfl | (simp only [hib0, hib, hlb, and_self, if_true, Int.toNat_natCast]; first | done | with_reducible rfl)
          try simp only [Act.put, List.setIfInBounds_toArray, List.set_cons_zero, List.set_cons_succ]
          refine wpAnyL_take (i := 24) (v := ?_) (by rw [List.getElem?_toArray]; rfl) (by decide +kernel) (by decide +kernel) (by decide +kernel) (by decide +kernel) (by decide +kernel) (fun _ _ _ h => h) hS4 (Or.inl ⟨by rfl, ?_⟩) ?_
          rotate_left
          · intro wz hSz; have z0 : wz.cell? ⟨g, i, none⟩ = some (.slice x n cx) := hSz; go_simp; first | done | with_reducible rfl | (simp only [hib0, hib, hlb, and_self, if_true, Int.toNat_natCast]; first | done | with_reducible rfl)
          try simp only [Act.put, List.setIfInBounds_toArray, List.set_cons_zero, List.set_cons_succ]
          refine wpAnyL_take (i := 25) (v := ?_) (by rw [List.getElem?_toArray]; rfl) (by decide +kernel) (by decide +kernel) (by decide +kernel) (by decide +kernel) (by decide +kernel) (fun _ _ _ h => h) hS4 (Or.inl ⟨by rfl, ?_⟩) ?_
          rotate_left
          · intro wz hSz; have z0 : wz.cell? ⟨g, i, none⟩ = some (.slice x n cx) := hSz; go_simp; first | done | with_reducible rfl | (simp only [hib0, hib, hlb, and_self, if_true, Int.toNat_natCast]; first | done | with_reducible rfl)
          try simp only [Act.put, List.setIfInBounds_toArray, List.set_cons_zero, List.set_cons_succ]
          refine wpAnyL_take (i := 26) (v := ?_) (by rw [List.getElem?_toArray]; rfl) (by decide +kernel) (by decide +kernel) (by decide +kernel) (by decide +kernel) (by decide +kernel) (fun _ _ _ h => h) hS4 (Or.inl ⟨by rfl, ?_⟩) ?_
          rotate_left
          · intro wz hSz; have z0 : wz.cell? ⟨g, i, none⟩ = some (.slice x n cx) := hSz; go_simp; first | done | with_reducible rfl | (simp only [hib0, hib, hlb, and_self, if_true, Int.toNat_natCast]; first | done | with_reducible rfl)
          try simp only [Act.put, List.setIfInBounds_toArray, List.set_cons_zero, List.set_cons_succ]
          refine wpAnyL_take (i := 27) (v := ?_) (by rw [List.getElem?_toArray]; rfl) (by decide +kernel) (by decide +kernel) (by decide +kernel) (by decide +kernel) (by decide +kernel) (fun _ _ _ h => h) hS4 (Or.inl ⟨by rfl, ?_⟩) ?_
          rotate_left
          · intro wz hSz; have q2 := HBq.out.2; have z0 : wz.cell? ⟨g, i, none⟩ = some (.slice x n cx) := hSz; go_simp; first | done | with_reducible rfl | (simp only [hib0, hib, hlb, and_self, if_true, Int.toNat_natCast]; first | done | with_reducible rfl)
          try simp only [Act.put, List.setIfInBounds_toArray, List.set_cons_zero, List.set_cons_succ]
          refine wpAnyL_take (i := 28) (v := ?_) (by rw [List.getElem?_toArray]; rfl) (by decide +kernel) (by decide +kernel) (by decide +kernel) (by decide +kernel) (by decide +kernel) (fun _ _ _ h => h) hS4 (Or.inl ⟨by rfl, ?_⟩) ?_
          rotate_left
          · intro wz hSz; have z0 : wz.cell? ⟨g, i, none⟩ = some (.slice x n cx) := hSz; go_simp; first | done | with_reducible rfl | (simp only [hib0, hib, hlb, and_self, if_true, Int.toNat_natCast]; first | done | with_reducible rfl)
          try simp only [Act.put, List.setIfInBounds_toArray, List.set_cons_zero, List.set_cons_succ]
          refine wpAnyL_take (i := 29) (v := undef) (by rw [List.getElem?_toArray]; rfl) (by decide +kernel) (by decide +kernel) (by decide +kernel) (by decide +kernel) (by decide +kernel) (fun _ _ _ h => h) hS4 (Or.inr ⟨by rfl, rfl⟩) ?_
          try simp only [Act.put, List.setIfInBounds_toArray, List.set_cons_zero, List.set_cons_succ]
          refine wpAnyL_take (i := 30) (v := undef) (by rw [List.getElem?_toArray]; rfl) (by decide +kernel) (by decide +kernel) (by decide +kernel) (by decide +kernel) (by decide +kernel) (fun _ _ _ h => h) hS4 (Or.inr ⟨by rfl, rfl⟩) ?_
          try simp only [Act.put, List.setIfInBounds_toArray, List.set_cons_zero, List.set_cons_succ]
          refine wpAnyL_take (i := 31) (v := undef) (by rw [List.getElem?_toArray]; rfl) (by decide +kernel) (by decide +kernel) (by decide +kernel) (by decide +kernel) (by decide +kernel) (fun _ _ _ h => h) hS4 (Or.inr ⟨by rfl, rfl⟩) ?_
          try simp only [Act.put, List.setIfInBounds_toArray, List.set_cons_zero, List.set_cons_succ]
          refine wpAnyL_take (i := 32) (v := undef) (by rw [List.getElem?_toArray]; rfl) (by decide +kernel) (by decide +kernel) (by decide +kernel) (by decide +kernel) (by decide +kernel) (fun _ _ _ h => h) hS4 (Or.inr ⟨by rfl, rfl⟩) ?_
          try simp only [Act.put, List.setIfInBounds_toArray, List.set_cons_zero, List.set_cons_succ]
          refine wpAnyL_take (i := 33) (v := undef) (by rw [List.getElem?_toArray]; rfl) (by decide +kernel) (by decide +kernel) (by decide +kernel) (by decide +kernel) (by decide +kernel) (fun _ _ _ h => h) hS4 (Or.inr ⟨by rfl, rfl⟩) ?_
          try simp only [Act.put, List.setIfInBounds_toArray, List.set_cons_zero, List.set_cons_succ]
          refine wpAnyL_take (i := 34) (v := undef) (by rw [List.getElem?_toArray]; rfl) (by decide +kernel) (by decide +kernel) (by decide +kernel) (by decide +kernel) (by decide +kernel) (fun _ _ _ h => h) hS4 (Or.inr ⟨by rfl, rfl⟩) ?_
          try simp only [Act.put, List.setIfInBounds_toArray, List.set_cons_zero, List.set_cons_succ]
          refine wpAnyL_take (i := 35) (v := undef) (by rw [List.getElem?_toArray]; rfl) (by decide +kernel) (by decide +kernel) (by decide +kernel) (by decide +kernel) (by decide +kernel) (fun _ _ _ h => h) hS4 (Or.inr ⟨by rfl, rfl⟩) ?_
          try simp only [Act.put, List.setIfInBounds_toArray, List.set_cons_zero, List.set_cons_succ]
          refine wpAnyL_take (i := 36) (v := ?_) (by rw [List.getElem?_toArray]; rfl) (by decide +kernel) (by decide +kernel) (by decide +kernel) (by decide +kernel) (by decide +kernel) (fun _ _ _ h => h) hS4 (Or.inl ⟨by rfl, ?_⟩) ?_
          rotate_left
          · intro wz hSz; have z0 : wz.cell? ⟨g, i, none⟩ = some (.slice x n cx) := hSz; go_simp; first | done | with_reducible rfl | (simp only [hib0, hib, hlb, and_self, if_true, Int.toNat_natCast]; first | done | with_reducible rfl)
          try simp only [Act.put, List.setIfInBounds_toArray, List.set_cons_zero, List.set_cons_succ]
          refine wpAnyL_take (i := 37) (v := ?_) (by rw [List.getElem?_toArray]; rfl) (by decide +kernel) (by decide +kernel) (by decide +kernel) (by decide +kernel) (by decide +kernel) (fun _ _ _ h => h) hS4 (Or.inl ⟨by rfl, ?_⟩) ?_
          rotate_left
          · intro wz hSz; have z0 : wz.cell? ⟨g, i, none⟩ = some (.slice x n cx) := hSz; go_simp; first | done | with_reducible rfl | (simp only [hib0, hib, hlb, and_self, if_true, Int.toNat_natCast]; first | done | with_reducible rfl)
          try simp only [Act.put, List.setIfInBounds_toArray, List.set_cons_zero, List.set_cons_succ]
          refine wpAnyL_done (by kernel_rfl) (NoPanic.normal ?_)
          have HN : Hid ((∀ (j : Nat), j < i + 1 → ∀ c, L[j]? = some c → ¬ relW n l f c) ∧ Below w1.heap.size w1 w4) := by
            refine ⟨fun j hj c' hc' => ?_, bel_up' HG.out.2 hB4.out⟩
            by_cases e : j = i
            · subst e
              have h1 := HT.out.1
              rw [hc'] at h1
              cases h1
              exact fun hr => by have := HT.out.2.1.2 hr; cases this
            · exact HG.out.1 j (by omega) c' hc'
          go_wp2
          go_roundw
          case rel => exact ⟨i + 1, by omega, by go_num, HN.out⟩
          case measure => simp [intOf]; omega
      | false =>
        cases b2 with
        | true =>
          have ht : t = false := tF (by have := HB.out.2.2.1 rfl; omega)
          subst ht
          replace hr : r = h2 := hr
          subst hr
          have HLo := HLo2
          have HHo := HHo2
          clear HLo1 HLo2 HHo1 HHo2 tF h1
          go_wp2
          refine wp_region_noPanic ?_
          refine wp_region_L (S := fun wz => wz.cell? ⟨g, i, none⟩ = some (.slice x n cx)) [] (by kernel_rfl) ?_
          have hS0 : wr.drew.cell? ⟨g, i, none⟩ = some (.slice x n cx) := hcell
          refine wpAnyL_take (i := 0) (v := ?_) (by rw [List.getElem?_toArray]; rfl) (by decide +kernel) (by decide +kernel) (by decide +kernel) (by decide +kernel) (by decide +kernel) (fun _ _ _ h => h) hS0 (Or.inl ⟨by rfl, ?_⟩) ?_
          rotate_left
          · intro wz hSz; have z0 : wz.cell? ⟨g, i, none⟩ = some (.slice x n cx) := hSz; go_simp; first | done | with_reducible rfl | (simp only [hib0, hib, hlb, and_self, if_true, Int.toNat_natCast]; first | done | with_reducible rfl)
          try simp only [Act.put, List.setIfInBounds_toArray, List.set_cons_zero, List.set_cons_succ]
          refine wpAnyL_take (i := 1) (v := ?_) (by rw [List.getElem?_toArray]; rfl) (by decide +kernel) (by decide +kernel) (by decide +kernel) (by decide +kernel) (by decide +kernel) (fun _ _ _ h => h) hS0 (Or.inl ⟨by rfl, ?_⟩) ?_
          rotate_left
          · intro wz hSz; have z0 : wz.cell? ⟨g, i, none⟩ = some (.slice x n cx) := hSz; go_simp; first | done | with_reducible rfl | (simp only [hib0, hib, hlb, and_self, if_true, Int.toNat_natCast]; first | done | with_reducible rfl)
          try simp only [Act.put, List.setIfInBounds_toArray, List.set_cons_zero, List.set_cons_succ]
          refine wpAnyL_take (i := 2) (v := ?_) (by rw [List.getElem?_toArray]; rfl) (by decide +kernel) (by decide +kernel) (by decide +kernel) (by decide +kernel) (by decide +kernel) (fun _ _ _ h => h) hS0 (Or.inl ⟨by rfl, ?_⟩) ?_
          rotate_left
          · intro wz hSz; have z0 : wz.cell? ⟨g, i, none⟩ = some (.slice x n cx) := hSz; go_simp; first | done | with_reducible rfl | (simp only [hib0, hib, hlb, and_self, if_true, Int.toNat_natCast]; first | done | with_reducible rfl)
          try simp only [Act.put, List.setIfInBounds_toArray, List.set_cons_zero, List.set_cons_succ]
          refine wpAnyL_take (i := 3) (v := ?_) (by rw [List.getElem?_toArray]; rfl) (by decide +kernel) (by decide +kernel) (by decide +kernel) (by decide +kernel) (by decide +kernel) (fun _ _ _ h => h) hS0 (Or.inl ⟨by rfl, ?_⟩) ?_
          rotate_left
          · intro wz hSz; have z0 : wz.cell? ⟨g, i, none⟩ = some (.slice x n cx) := hSz; go_simp; first | done | with_reducible rfl | (simp only [hib0, hib, hlb, and_self, if_true, Int.toNat_natCast]; first | done | with_reducible rfl)
          try simp only [Act.put, List.setIfInBounds_toArray, List.set_cons_zero, List.set_cons_succ]
          refine wpAnyL_take (i := 4) (v := ?_) (by rw [List.getElem?_toArray]; rfl) (by decide +kernel) (by decide +kernel) (by decide +kernel) (by decide +kernel) (by decide +kernel) (fun _ _ _ h => h) hS0 (Or.inl ⟨by rfl, ?_⟩) ?_
          rotate_left
          · intro wz hSz; have z0 : wz.cell? ⟨g, i, none⟩ = some (.slice x n cx) := hSz; go_simp; first | done | with_reducible rfl | (simp only [hib0, hib, hlb, and_self, if_true, Int.toNat_natCast]; first | done | with_reducible rfl)
          try simp only [Act.put, List.setIfInBounds_toArray, List.set_cons_zero, List.set_cons_succ]
          refine wpAnyL_one (i := 5) (by kernel_rfl) (by rw [List.getElem?_toArray]; rfl) (fun K hK => ?_)
          have HK : Hid _ := hK
          clear hK
          go_simp
          refine (HSm.out wr.drew ⟨1, rfl⟩).mono ?_
          rintro e w2 ⟨rfl, d2, hd2⟩
          have hS2 : w2.cell? ⟨g, i, none⟩ = some (.slice x n cx) := by rw [hd2]; exact hcell
          have hB2 : Hid (Below wr.heap.size wr w2) := by rw [hd2]; exact below_drewN2 (below_drewN2 (Below.refl _ _) 1) d2
          clear hd2
          refine HK.out _ _ (fun _ => hS2) ?_
          clear HK K
          try simp only [Act.put, List.setIfInBounds_toArray, List.set_cons_zero, List.set_cons_succ]
          refine wpAnyL_take (i := 6) (v := ?_) (by rw [List.getElem?_toArray]; rfl) (by decide +kernel) (by decide +kernel) (by decide +kernel) (by decide +kernel) (by decide +kernel) (fun _ _ _ h => h) hS2 (Or.inl ⟨by rfl, ?_⟩) ?_
          rotate_left
          · intro wz hSz; have z0 : wz.cell? ⟨g, i, none⟩ = some (.slice x n cx) := hSz; go_simp; first | done | with_reducible rfl | (simp only [hib0, hib, hlb, and_self, if_true, Int.toNat_natCast]; first | done | with_reducible rfl)
          try simp only [Act.put, List.setIfInBounds_toArray, List.set_cons_zero, List.set_cons_succ]
          refine wpAnyL_take (i := 7) (v := ?_) (by rw [List.getElem?_toArray]; rfl) (by decide +kernel) (by decide +kernel) (by decide +kernel) (by decide +kernel) (by decide +kernel) (fun _ _ _ h => h) hS2 (Or.inl ⟨by rfl, ?_⟩) ?_
          rotate_left
          · intro wz hSz; have z0 : wz.cell? ⟨g, i, none⟩ = some (.slice x n cx) := hSz; go_simp; first | done | with_reducible rfl | (simp only [hib0, hib, hlb, and_self, if_true, Int.toNat_natCast]; first | done | with_reducible rfl)
          try simp only [Act.put, List.setIfInBounds_toArray, List.set_cons_zero, List.set_cons_succ]
          refine wpAnyL_take (i := 8) (v := ?_) (by rw [List.getElem?_toArray]; rfl) (by decide +kernel) (by decide +kernel) (by decide +kernel) (by decide +kernel) (by decide +kernel) (fun _ _ _ h => h) hS2 (Or.inl ⟨by rfl, ?_⟩) ?_
          rotate_left
          · intro wz hSz; have z0 : wz.cell? ⟨g, i, none⟩ = some (.slice x n cx) := hSz; go_simp; first | done | with_reducible rfl | (simp only [hib0, hib, hlb, and_self, if_true, Int.toNat_natCast]; first | done | with_reducible rfl)
          try simp only [Act.put, List.setIfInBounds_toArray, List.set_cons_zero, List.set_cons_succ]
          refine wpAnyL_take (i := 9) (v := ?_) (by rw [List.getElem?_toArray]; rfl) (by decide +kernel) (by decide +kernel) (by decide +kernel) (by decide +kernel) (by decide +kernel) (fun _ _ _ h => h) hS2 (Or.inl ⟨by rfl, ?_⟩) ?_
          rotate_left
          · intro wz hSz; have z0 : wz.cell? ⟨g, i, none⟩ = some (.slice x n cx) := hSz; go_simp; first | done | with_reducible rfl | (simp only [hib0, hib, hlb, and_self, if_true, Int.toNat_natCast]; first | done | with_reducible rfl)
          try simp only [Act.put, List.setIfInBounds_toArray, List.set_cons_zero, List.set_cons_succ]
          refine wpAnyL_take (i := 10) (v := ?_) (by rw [List.getElem?_toArray]; rfl) (by decide +kernel) (by decide +kernel) (by decide +kernel) (by decide +kernel) (by decide +kernel) (fun _ _ _ h => h) hS2 (Or.inl ⟨by rfl, ?_⟩) ?_
          rotate_left
          · intro wz hSz; have z0 : wz.cell? ⟨g, i, none⟩ = some (.slice x n cx) := hSz; go_simp; first | done | with_reducible rfl | (simp only [hib0, hib, hlb, and_self, if_true, Int.toNat_natCast]; first | done | with_reducible rfl)
          try simp only [Act.put, List.setIfInBounds_toArray, List.set_cons_zero, List.set_cons_succ]
          refine wpAnyL_take (i := 11) (v := ?_) (by rw [List.getElem?_toArray]; rfl) (by decide +kernel) (by decide +kernel) (by decide +kernel) (by decide +kernel) (by decide +kernel) (fun _ _ _ h => h) hS2 (Or.inl ⟨by rfl, ?_⟩) ?_
          rotate_left
          · intro wz hSz; have q1 := HBq.out.1; have z0 : wz.cell? ⟨g, i, none⟩ = some (.slice x n cx) := hSz; go_simp; first | done | with_reducible rfl | (simp only [hib0, hib, hlb, and_self, if_true, Int.toNat_natCast]; first | done | with_reducible rfl)
          try simp only [Act.put, List.setIfInBounds_toArray, List.set_cons_zero, List.set_cons_succ]
          refine wpAnyL_take (i := 12) (v := ?_) (by rw [List.getElem?_toArray]; rfl) (by decide +kernel) (by decide +kernel) (by decide +kernel) (by decide +kernel) (by decide +kernel) (fun _ _ _ h => h) hS2 (Or.inl ⟨by rfl, ?_⟩) ?_
          rotate_left
          · intro wz hSz; have z0 : wz.cell? ⟨g, i, none⟩ = some (.slice x n cx) := hSz; go_simp; first | done | with_reducible rfl | (simp only [hib0, hib, hlb, and_self, if_true, Int.toNat_natCast]; first | done | with_reducible rfl)
          try simp only [Act.put, List.setIfInBounds_toArray, List.set_cons_zero, List.set_cons_succ]
          refine wpAnyL_take (i := 13) (v := undef) (by rw [List.getElem?_toArray]; rfl) (by decide +kernel) (by decide +kernel) (by decide +kernel) (by decide +kernel) (by decide +kernel) (fun _ _ _ h => h) hS2 (Or.inr ⟨by rfl, rfl⟩) ?_
          try simp only [Act.put, List.setIfInBounds_toArray, List.set_cons_zero, List.set_cons_succ]
          refine wpAnyL_take (i := 14) (v := undef) (by rw [List.getElem?_toArray]; rfl) (by decide +kernel) (by decide +kernel) (by decide +kernel) (by decide +kernel) (by decide +kernel) (fun _ _ _ h => h) hS2 (Or.inr ⟨by rfl, rfl⟩) ?_
          try simp only [Act.put, List.setIfInBounds_toArray, List.set_cons_zero, List.set_cons_succ]
          refine wpAnyL_take (i := 15) (v := undef) (by rw [List.getElem?_toArray]; rfl) (by decide +kernel) (by decide +kernel) (by decide +kernel) (by decide +kernel) (by decide +kernel) (fun _ _ _ h => h) hS2 (Or.inr ⟨by rfl, rfl⟩) ?_
          try simp only [Act.put, List.setIfInBounds_toArray, List.set_cons_zero, List.set_cons_succ]
          refine wpAnyL_take (i := 16) (v := undef) (by rw [List.getElem?_toArray]; rfl) (by decide +kernel) (by decide +kernel) (by decide +kernel) (by decide +kernel) (by decide +kernel) (fun _ _ _ h => h) hS2 (Or.inr ⟨by rfl, rfl⟩) ?_
          try simp only [Act.put, List.setIfInBounds_toArray, List.set_cons_zero, List.set_cons_succ]
          refine wpAnyL_take (i := 17) (v := undef) (by rw [List.getElem?_toArray]; rfl) (by decide +kernel) (by decide +kernel) (by decide +kernel) (by decide +kernel) (by decide +kernel) (fun _ _ _ h => h) hS2 (Or.inr ⟨by rfl, rfl⟩) ?_
          try simp only [Act.put, List.setIfInBounds_toArray, List.set_cons_zero, List.set_cons_succ]
          refine wpAnyL_take (i := 18) (v := undef) (by rw [List.getElem?_toArray]; rfl) (by decide +kernel) (by decide +kernel) (by decide +kernel) (by decide +kernel) (by decide +kernel) (fun _ _ _ h => h) hS2 (Or.inr ⟨by rfl, rfl⟩) ?_
          try simp only [Act.put, List.setIfInBounds_toArray, List.set_cons_zero, List.set_cons_succ]
          refine wpAnyL_take (i := 19) (v := undef) (by rw [List.getElem?_toArray]; rfl) (by decide +kernel) (by decide +kernel) (by decide +kernel) (by decide +kernel) (by decide +kernel) (fun _ _ _ h => h) hS2 (Or.inr ⟨by rfl, rfl⟩) ?_
          try simp only [Act.put, List.setIfInBounds_toArray, List.set_cons_zero, List.set_cons_succ]
          refine wpAnyL_take (i := 20) (v := ?_) (by rw [List.getElem?_toArray]; rfl) (by decide +kernel) (by decide +kernel) (by decide +kernel) (by decide +kernel) (by decide +kernel) (fun _ _ _ h => h) hS2 (Or.inl ⟨by rfl, ?_⟩) ?_
          rotate_left
          · intro wz hSz; have z0 : wz.cell? ⟨g, i, none⟩ = some (.slice x n cx) := hSz; go_simp; first | done | with_reducible rfl | (simp only [hib0, hib, hlb, and_self, if_true, Int.toNat_natCast]; first | done | with_reducible rfl)
          try simp only [Act.put, List.setIfInBounds_toArray, List.set_cons_zero, List.set_cons_succ]
          refine wpAnyL_take (i := 21) (v := ?_) (by rw [List.getElem?_toArray]; rfl) (by decide +kernel) (by decide +kernel) (by decide +kernel) (by decide +kernel) (by decide +kernel) (fun _ _ _ h => h) hS2 (Or.inl ⟨by rfl, ?_⟩) ?_
          rotate_left
          · intro wz hSz; have z0 : wz.cell? ⟨g, i, none⟩ = some (.slice x n cx) := hSz; go_simp; first | done | with_reducible rfl | (simp only [hib0, hib, hlb, and_self, if_true, Int.toNat_natCast]; first | done | with_reducible rfl)
          try simp only [Act.put, List.setIfInBounds_toArray, List.set_cons_zero, List.set_cons_succ]
          refine wpAnyL_take (i := 22) (v := ?_) (by rw [List.getElem?_toArray]; rfl) (by decide +kernel) (by decide +kernel) (by decide +kernel) (by decide +kernel) (by decide +kernel) (fun _ _ _ h => h) hS2 (Or.inl ⟨by rfl, ?_⟩) ?_
          rotate_left
          · intro wz hSz; have z0 : wz.cell? ⟨g, i, none⟩ = some (.slice x n cx) := hSz; go_simp; first | done | with_reducible rfl | (simp only [hib0, hib, hlb, and_self, if_true, Int.toNat_natCast]; first | done | with_reducible rfl)
          try simp only [Act.put, List.setIfInBounds_toArray, List.set_cons_zero, List.set_cons_succ]
          refine wpAnyL_take (i := 23) (v := ?_) (by rw [List.getElem?_toArray]; rfl) (by decide +kernel) (by decide +kernel) (by decide +kernel) (by decide +kernel) (by decide +kernel) (fun _ _ _ h => h) hS2 (Or.inl ⟨by rfl, ?_⟩) ?_
          rotate_left
          · intro wz hSz; have z0 : wz.cell? ⟨g, i, none⟩ = some (.slice x n cx) := hSz; go_simp; first | done | with_reducible rfl | (simp only [hib0, hib, hlb, and_self, if_true, Int.toNat_natCast]; first | done | with_reducible rfl)
          try simp only [Act.put, List.setIfInBounds_toArray, List.set_cons_zero, List.set_cons_succ]
          refine wpAnyL_take (i := 24) (v := ?_) (by rw [List.getElem?_toArray]; rfl) (by decide +kernel) (by decide +kernel) (by decide +kernel) (by decide +kernel) (by decide +kernel) (fun _ _ _ h => h) hS2 (Or.inl ⟨by rfl, ?_⟩) ?_
          rotate_left
          · intro wz hSz; have z0 : wz.cell? ⟨g, i, none⟩ = some (.slice x n cx) := hSz; go_simp; first | done | with_reducible rfl | (simp only [hib0, hib, hlb, and_self, if_true, Int.toNat_natCast]; first | done | with_reducible rfl)
          try simp only [Act.put, List.setIfInBounds_toArray, List.set_cons_zero, List.set_cons_succ]
          refine wpAnyL_take (i := 25) (v := ?_) (by rw [List.getElem?_toArray]; rfl) (by decide +kernel) (by decide +kernel) (by decide +kernel) (by decide +kernel) (by decide +kernel) (fun _ _ _ h => h) hS2 (Or.inl ⟨by rfl, ?_⟩) ?_
          rotate_left
          · intro wz hSz; have z0 : wz.cell? ⟨g, i, none⟩ = some (.slice x n cx) := hSz; go_simp; first | done | with_reducible rfl | (simp only [hib0, hib, hlb, and_self, if_true, Int.toNat_natCast]; first | done | with_reducible rfl)
          try simp only [Act.put, List.setIfInBounds_toArray, List.set_cons_zero, List.set_cons_succ]
          refine wpAnyL_take (i := 26) (v := ?_) (by rw [List.getElem?_toArray]; rfl) (by decide +kernel) (by decide +kernel) (by decide +kernel) (by decide +kernel) (by decide +kernel) (fun _ _ _ h => h) hS2 (Or.inl ⟨by rfl, ?_⟩) ?_
          rotate_left
          · intro wz hSz; have z0 : wz.cell? ⟨g, i, none⟩ = some (.slice x n cx) := hSz; go_simp; first | done | with_reducible rfl | (simp only [hib0, hib, hlb, and_self, if_true, Int.toNat_natCast]; first | done | with_reducible rfl)
          try simp only [Act.put, List.setIfInBounds_toArray, List.set_cons_zero, List.set_cons_succ]
          refine wpAnyL_take (i := 27) (v := ?_) (by rw [List.getElem?_toArray]; rfl) (by decide +kernel) (by decide +kernel) (by decide +kernel) (by decide +kernel) (by decide +kernel) (fun _ _ _ h => h) hS2 (Or.inl ⟨by rfl, ?_⟩) ?_
          rotate_left
          · intro wz hSz; have q2 := HBq.out.2; have z0 : wz.cell? ⟨g, i, none⟩ = some (.slice x n cx) := hSz; go_simp; first | done | with_reducible rfl | (simp only [hib0, hib, hlb, and_self, if_true, Int.toNat_natCast]; first | done | with_reducible rfl)
          try simp only [Act.put, List.setIfInBounds_toArray, List.set_cons_zero, List.set_cons_succ]
          refine wpAnyL_take (i := 28) (v := ?_) (by rw [List.getElem?_toArray]; rfl) (by decide +kernel) (by decide +kernel) (by decide +kernel) (by decide +kernel) (by decide +kernel) (fun _ _ _ h => h) hS2 (Or.inl ⟨by rfl, ?_⟩) ?_
          rotate_left
          · intro wz hSz; have z0 : wz.cell? ⟨g, i, none⟩ = some (.slice x n cx) := hSz; go_simp; first | done | with_reducible rfl | (simp only [hib0, hib, hlb, and_self, if_true, Int.toNat_natCast]; first | done | with_reducible rfl)
          try simp only [Act.put, List.setIfInBounds_toArray, List.set_cons_zero, List.set_cons_succ]
          refine wpAnyL_take (i := 29) (v := ?_) (by rw [List.getElem?_toArray]; rfl) (by decide +kernel) (by decide +kernel) (by decide +kernel) (by decide +kernel) (by decide +kernel) (fun _ _ _ h => h) hS2 (Or.inl ⟨by rfl, ?_⟩) ?_
          rotate_left
          · intro wz hSz; have z0 : wz.cell? ⟨g, i, none⟩ = some (.slice x n cx) := hSz; go_simp; first | done | with_reducible rfl | (simp only [hib0, hib, hlb, and_self, if_true, Int.toNat_natCast]; first | done | with_reducible rfl)
          try simp only [Act.put, List.setIfInBounds_toArray, List.set_cons_zero, List.set_cons_succ]
          refine wpAnyL_take (i := 31) (v := ?_) (by rw [List.getElem?_toArray]; rfl) (by decide +kernel) (by decide +kernel) (by decide +kernel) (by decide +kernel) (by decide +kernel) (fun _ _ _ h => h) hS2 (Or.inl ⟨by rfl, ?_⟩) ?_
          rotate_left
          · intro wz hSz; have z0 : wz.cell? ⟨g, i, none⟩ = some (.slice x n cx) := hSz; go_simp; first | done | with_reducible rfl | (simp only [hib0, hib, hlb, and_self, if_true, Int.toNat_natCast]; first | done | with_reducible rfl)
          try simp only [Act.put, List.setIfInBounds_toArray, List.set_cons_zero, List.set_cons_succ]
          refine wpAnyL_take (i := 32) (v := ?_) (by rw [List.getElem?_toArray]; rfl) (by decide +kernel) (by decide +kernel) (by decide +kernel) (by decide +kernel) (by decide +kernel) (fun _ _ _ h => h) hS2 (Or.inl ⟨by rfl, ?_⟩) ?_
          rotate_left
          · intro wz hSz; have z0 : wz.cell? ⟨g, i, none⟩ = some (.slice x n cx) := hSz; go_simp; first | done | with_reducible rfl | (simp only [hib0, hib, hlb, and_self, if_true, Int.toNat_natCast]; first | done | with_reducible rfl)
          try simp only [Act.put, List.setIfInBounds_toArray, List.set_cons_zero, List.set_cons_succ]
          refine wpAnyL_take (i := 33) (v := ?_) (by rw [List.getElem?_toArray]; rfl) (by decide +kernel) (by decide +kernel) (by decide +kernel) (by decide +kernel) (by decide +kernel) (fun _ _ _ h => h) hS2 (Or.inl ⟨by rfl, ?_⟩) ?_
          rotate_left
          · intro wz hSz; have z0 : wz.cell? ⟨g, i, none⟩ = some (.slice x n cx) := hSz; go_simp; first | done | with_reducible rfl | (simp only [hib0, hib, hlb, and_self, if_true, Int.toNat_natCast]; first | done | with_reducible rfl)
          try simp only [Act.put, List.setIfInBounds_toArray, List.set_cons_zero, List.set_cons_succ]
          refine wpAnyL_take (i := 34) (v := ?_) (by rw [List.getElem?_toArray]; rfl) (by decide +kernel) (by decide +kernel) (by decide +kernel) (by decide +kernel) (by decide +kernel) (fun _ _ _ h => h) hS2 (Or.inl ⟨by rfl, ?_⟩) ?_
          rotate_left
          · intro wz hSz; have z0 : wz.cell? ⟨g, i, none⟩ = some (.slice x n cx) := hSz; go_simp; first | done | with_reducible rfl | (simp only [hib0, hib, hlb, and_self, if_true, Int.toNat_natCast]; first | done | with_reducible rfl)
          try simp only [Act.put, List.setIfInBounds_toArray, List.set_cons_zero, List.set_cons_succ]
          refine wpAnyL_one (i := 30) (by kernel_rfl) (by rw [List.getElem?_toArray]; rfl) (fun K hK => ?_)
          have HK : Hid _ := hK
          clear hK
          go_simp
          refine (HLo.out w2 hB2.out).mono ?_
          rintro e w3 ⟨v3, rfl, hw3, hb3⟩
          have hS3 : w3.cell? ⟨g, i, none⟩ = some (.slice x n cx) := ((bcell hb3).1 g i (cell_lt hS2)).trans hS2
          have hB3 : Hid (Below wr.heap.size wr w3 ∧ WLs w2.heap.size v3 (l - 1) (lsL f l) w3) := ⟨bel_up' hB2.out hb3, hw3⟩
          clear hw3 hb3
          refine HK.out _ _ (fun _ => hS3) ?_
          clear HK K
          try simp only [Act.put, List.setIfInBounds_toArray, List.set_cons_zero, List.set_cons_succ]
          refine wpAnyL_one (i := 35) (by kernel_rfl) (by rw [List.getElem?_toArray]; rfl) (fun K hK => ?_)
          have HK : Hid _ := hK
          clear hK
          go_simp
          refine (HHo.out w3 w2.heap.size v3 hB3.out.1 hB3.out.2).mono ?_
          rintro e w4 ⟨rfl, d4, hd4⟩
          have hS4 : w4.cell? ⟨g, i, none⟩ = some (.slice x n cx) := by rw [hd4]; exact hS3
          have hB4 : Hid (Below wr.heap.size wr w4) := by rw [hd4]; exact below_drewN2 hB3.out.1 d4
          clear hd4
          refine HK.out _ _ (fun _ => hS4) ?_
          clear HK K
          try simp only [Act.put, List.setIfInBounds_toArray, List.set_cons_zero, List.set_cons_succ]
          cases r with
          | true =>
            refine wpAnyL_take (i := 36) (v := ?_) (by rw [List.getElem?_toArray]; rfl) (by decide +kernel) (by decide +kernel) (by decide +kernel) (by decide +kernel) (by decide +kernel) (fun _ _ _ h => h) hS4 (Or.inl ⟨by rfl, ?_⟩) ?_
            rotate_left
            · intro wz hSz; have z0 : wz.cell? ⟨g, i, none⟩ = some (.slice x n cx) := hSz; go_simp; first | done | with_reducible rfl | (simp only [hib0, hib, hlb, and_self, if_true, Int.toNat_natCast]; first | done | with_reducible rfl)
            try simp only [Act.put, List.setIfInBounds_toArray, List.set_cons_zero, List.set_cons_succ]
            refine wpAnyL_take (i := 37) (v := ?_) (by rw [List.getElem?_toArray]; rfl) (by decide +kernel) (by decide +kernel) (by decide +kernel) (by decide +kernel) (by decide +kernel) (fun _ _ _ h => h) hS4 (Or.inl ⟨by rfl, ?_⟩) ?_
            rotate_left
            · intro wz hSz; have z0 : wz.cell? ⟨g, i, none⟩ = some (.slice x n cx) := hSz; go_simp; first | done | with_reducible rfl | (simp only [hib0, hib, hlb, and_self, if_true, Int.toNat_natCast]; first | done | with_reducible rfl)
            try simp only [Act.put, List.setIfInBounds_toArray, List.set_cons_zero, List.set_cons_succ]
            refine wpAnyL_done (by kernel_rfl) (NoPanic.normal ?_)
            have HE : Hid (GmP n a l f (.slice x n cx) true w4 ∧ Below w.heap.size w w4) := ⟨Or.inl ⟨rfl, c, by rw [← HL.out.2.1]; exact List.mem_of_getElem? HT.out.1, HT.out.2.1.1 rfl, OwnI.ki' HT.out.2.2 hB4.out⟩, bel_up' (bel_up' H1.out.2 HG.out.2) hB4.out⟩
            have hcl : w4.cell? ⟨g, i, none⟩ = some (.slice x n cx) := hS4
            go_wp2
            go_ret2
            first | exact ⟨_, _, rfl, HE.out⟩ | exact ⟨_, Or.inl ⟨rfl, HE.out⟩⟩ | exact ⟨_, Or.inr ⟨rfl, HE.out⟩⟩
          | false =>
            refine wpAnyL_take (i := 36) (v := ?_) (by rw [List.getElem?_toArray]; rfl) (by decide +kernel) (by decide +kernel) (by decide +kernel) (by decide +kernel) (by decide +kernel) (fun _ _ _ h => h) hS4 (Or.inl ⟨by rfl, ?_⟩) ?_
            rotate_left
            · intro wz hSz; have z0 : wz.cell? ⟨g, i, none⟩ = some (.slice x n cx) := hSz; go_simp; first | done | with_reducible rfl | (simp only [hib0, hib, hlb, and_self, if_true, Int.toNat_natCast]; first | done | with_reducible rfl)
            try simp only [Act.put, List.setIfInBounds_toArray, List.set_cons_zero, List.set_cons_succ]
            refine wpAnyL_take (i := 37) (v := ?_) (by rw [List.getElem?_toArray]; rfl) (by decide +kernel) (by decide +kernel) (by decide +kernel) (by decide +kernel) (by decide +kernel) (fun _ _ _ h => h) hS4 (Or.inl ⟨by rfl, ?_⟩) ?_
            rotate_left
            · intro wz hSz; have z0 : wz.cell? ⟨g, i, none⟩ = some (.slice x n cx) := hSz; go_simp; first | done | with_reducible rfl | (simp only [hib0, hib, hlb, and_self, if_true, Int.toNat_natCast]; first | done | with_reducible rfl)
            try simp only [Act.put, List.setIfInBounds_toArray, List.set_cons_zero, List.set_cons_succ]
            refine wpAnyL_done (by kernel_rfl) (NoPanic.normal ?_)
            have HN : Hid ((∀ (j : Nat), j < i + 1 → ∀ c, L[j]? = some c → ¬ relW n l f c) ∧ Below w1.heap.size w1 w4) := by
              refine ⟨fun j hj c' hc' => ?_, bel_up' HG.out.2 hB4.out⟩
              by_cases e : j = i
              · subst e
                have h1 := HT.out.1
                rw [hc'] at h1
                cases h1
                exact fun hr => by have := HT.out.2.1.2 hr; cases this
              · exact HG.out.1 j (by omega) c' hc'
            go_wp2
            go_roundw
            case rel => exact ⟨i + 1, by omega, by go_num, HN.out⟩
            case measure => simp [intOf]; omega
        | false =>
          replace hr : r = t := hr
          subst hr
          clear HLo1 HLo2 HHo1 HHo2 tF h1 h2
          go_wp2
          refine wp_region_noPanic ?_
          refine wp_region_L (S := fun wz => wz.cell? ⟨g, i, none⟩ = some (.slice x n cx)) [] (by kernel_rfl) ?_
          have hS0 : wr.drew.cell? ⟨g, i, none⟩ = some (.slice x n cx) := hcell
          refine wpAnyL_take (i := 0) (v := ?_) (by rw [List.getElem?_toArray]; rfl) (by decide +kernel) (by decide +kernel) (by decide +kernel) (by decide +kernel) (by decide +kernel) (fun _ _ _ h => h) hS0 (Or.inl ⟨by rfl, ?_⟩) ?_
          rotate_left
          · intro wz hSz; have z0 : wz.cell? ⟨g, i, none⟩ = some (.slice x n cx) := hSz; go_simp; first | done | with_reducible rfl | (simp only [hib0, hib, hlb, and_self, if_true, Int.toNat_natCast]; first | done | with_reducible rfl)
          try simp only [Act.put, List.setIfInBounds_toArray, List.set_cons_zero, List.set_cons_succ]
          refine wpAnyL_take (i := 1) (v := ?_) (by rw [List.getElem?_toArray]; rfl) (by decide +kernel) (by decide +kernel) (by decide +kernel) (by decide +kernel) (by decide +kernel) (fun _ _ _ h => h) hS0 (Or.inl ⟨by rfl, ?_⟩) ?_
          rotate_left
          · intro wz hSz; have z0 : wz.cell? ⟨g, i, none⟩ = some (.slice x n cx) := hSz; go_simp; first | done | with_reducible rfl | (simp only [hib0, hib, hlb, and_self, if_true, Int.toNat_natCast]; first | done | with_reducible rfl)
          try simp only [Act.put, List.setIfInBounds_toArray, List.set_cons_zero, List.set_cons_succ]
          refine wpAnyL_take (i := 2) (v := ?_) (by rw [List.getElem?_toArray]; rfl) (by decide +kernel) (by decide +kernel) (by decide +kernel) (by decide +kernel) (by decide +kernel) (fun _ _ _ h => h) hS0 (Or.inl ⟨by rfl, ?_⟩) ?_
          rotate_left
          · intro wz hSz; have z0 : wz.cell? ⟨g, i, none⟩ = some (.slice x n cx) := hSz; go_simp; first | done | with_reducible rfl | (simp only [hib0, hib, hlb, and_self, if_true, Int.toNat_natCast]; first | done | with_reducible rfl)
          try simp only [Act.put, List.setIfInBounds_toArray, List.set_cons_zero, List.set_cons_succ]
          refine wpAnyL_take (i := 3) (v := ?_) (by rw [List.getElem?_toArray]; rfl) (by decide +kernel) (by decide +kernel) (by decide +kernel) (by decide +kernel) (by decide +kernel) (fun _ _ _ h => h) hS0 (Or.inl ⟨by rfl, ?_⟩) ?_
          rotate_left
          · intro wz hSz; have z0 : wz.cell? ⟨g, i, none⟩ = some (.slice x n cx) := hSz; go_simp; first | done | with_reducible rfl | (simp only [hib0, hib, hlb, and_self, if_true, Int.toNat_natCast]; first | done | with_reducible rfl)
          try simp only [Act.put, List.setIfInBounds_toArray, List.set_cons_zero, List.set_cons_succ]
          refine wpAnyL_take (i := 4) (v := ?_) (by rw [List.getElem?_toArray]; rfl) (by decide +kernel) (by decide +kernel) (by decide +kernel) (by decide +kernel) (by decide +kernel) (fun _ _ _ h => h) hS0 (Or.inl ⟨by rfl, ?_⟩) ?_
          rotate_left
          · intro wz hSz; have z0 : wz.cell? ⟨g, i, none⟩ = some (.slice x n cx) := hSz; go_simp; first | done | with_reducible rfl | (simp only [hib0, hib, hlb, and_self, if_true, Int.toNat_natCast]; first | done | with_reducible rfl)
          try simp only [Act.put, List.setIfInBounds_toArray, List.set_cons_zero, List.set_cons_succ]
          refine wpAnyL_one (i := 5) (by kernel_rfl) (by rw [List.getElem?_toArray]; rfl) (fun K hK => ?_)
          have HK : Hid _ := hK
          clear hK
          go_simp
          refine (HSm.out wr.drew ⟨1, rfl⟩).mono ?_
          rintro e w2 ⟨rfl, d2, hd2⟩
          have hS2 : w2.cell? ⟨g, i, none⟩ = some (.slice x n cx) := by rw [hd2]; exact hcell
          have hB2 : Hid (Below wr.heap.size wr w2) := by rw [hd2]; exact below_drewN2 (below_drewN2 (Below.refl _ _) 1) d2
          clear hd2
          refine HK.out _ _ (fun _ => hS2) ?_
          clear HK K
          try simp only [Act.put, List.setIfInBounds_toArray, List.set_cons_zero, List.set_cons_succ]
          cases r with
          | true =>
            refine wpAnyL_take (i := 6) (v := ?_) (by rw [List.getElem?_toArray]; rfl) (by decide +kernel) (by decide +kernel) (by decide +kernel) (by decide +kernel) (by decide +kernel) (fun _ _ _ h => h) hS2 (Or.inl ⟨by rfl, ?_⟩) ?_
            rotate_left
            · intro wz hSz; have z0 : wz.cell? ⟨g, i, none⟩ = some (.slice x n cx) := hSz; go_simp; first | done | with_reducible rfl | (simp only [hib0, hib, hlb, and_self, if_true, Int.toNat_natCast]; first | done | with_reducible rfl)
            try simp only [Act.put, List.setIfInBounds_toArray, List.set_cons_zero, List.set_cons_succ]
            refine wpAnyL_take (i := 7) (v := undef) (by rw [List.getElem?_toArray]; rfl) (by decide +kernel) (by decide +kernel) (by decide +kernel) (by decide +kernel) (by decide +kernel) (fun _ _ _ h => h) hS2 (Or.inr ⟨by rfl, rfl⟩) ?_
            try simp only [Act.put, List.setIfInBounds_toArray, List.set_cons_zero, List.set_cons_succ]
            refine wpAnyL_take (i := 8) (v := undef) (by rw [List.getElem?_toArray]; rfl) (by decide +kernel) (by decide +kernel) (by decide +kernel) (by decide +kernel) (by decide +kernel) (fun _ _ _ h => h) hS2 (Or.inr ⟨by rfl, rfl⟩) ?_
            try simp only [Act.put, List.setIfInBounds_toArray, List.set_cons_zero, List.set_cons_succ]
            refine wpAnyL_take (i := 9) (v := undef) (by rw [List.getElem?_toArray]; rfl) (by decide +kernel) (by decide +kernel) (by decide +kernel) (by decide +kernel) (by decide +kernel) (fun _ _ _ h => h) hS2 (Or.inr ⟨by rfl, rfl⟩) ?_
            try simp only [Act.put, List.setIfInBounds_toArray, List.set_cons_zero, List.set_cons_succ]
            refine wpAnyL_take (i := 10) (v := undef) (by rw [List.getElem?_toArray]; rfl) (by decide +kernel) (by decide +kernel) (by decide +kernel) (by decide +kernel) (by decide +kernel) (fun _ _ _ h => h) hS2 (Or.inr ⟨by rfl, rfl⟩) ?_
            try simp only [Act.put, List.setIfInBounds_toArray, List.set_cons_zero, List.set_cons_succ]
            refine wpAnyL_take (i := 11) (v := undef) (by rw [List.getElem?_toArray]; rfl) (by decide +kernel) (by decide +kernel) (by decide +kernel) (by decide +kernel) (by decide +kernel) (fun _ _ _ h => h) hS2 (Or.inr ⟨by rfl, rfl⟩) ?_
            try simp only [Act.put, List.setIfInBounds_toArray, List.set_cons_zero, List.set_cons_succ]
            refine wpAnyL_take (i := 12) (v := undef) (by rw [List.getElem?_toArray]; rfl) (by decide +kernel) (by decide +kernel) (by decide +kernel) (by decide +kernel) (by decide +kernel) (fun _ _ _ h => h) hS2 (Or.inr ⟨by rfl, rfl⟩) ?_
            try simp only [Act.put, List.setIfInBounds_toArray, List.set_cons_zero, List.set_cons_succ]
            refine wpAnyL_take (i := 13) (v := undef) (by rw [List.getElem?_toArray]; rfl) (by decide +kernel) (by decide +kernel) (by decide +kernel) (by decide +kernel) (by decide +kernel) (fun _ _ _ h => h) hS2 (Or.inr ⟨by rfl, rfl⟩) ?_
            try simp only [Act.put, List.setIfInBounds_toArray, List.set_cons_zero, List.set_cons_succ]
            refine wpAnyL_take (i := 14) (v := undef) (by rw [List.getElem?_toArray]; rfl) (by decide +kernel) (by decide +kernel) (by decide +kernel) (by decide +kernel) (by decide +kernel) (fun _ _ _ h => h) hS2 (Or.inr ⟨by rfl, rfl⟩) ?_
            try simp only [Act.put, List.setIfInBounds_toArray, List.set_cons_zero, List.set_cons_succ]
            refine wpAnyL_take (i := 15) (v := undef) (by rw [List.getElem?_toArray]; rfl) (by decide +kernel) (by decide +kernel) (by decide +kernel) (by decide +kernel) (by decide +kernel) (fun _ _ _ h => h) hS2 (Or.inr ⟨by rfl, rfl⟩) ?_
            try simp only [Act.put, List.setIfInBounds_toArray, List.set_cons_zero, List.set_cons_succ]
            refine wpAnyL_take (i := 16) (v := undef) (by rw [List.getElem?_toArray]; rfl) (by decide +kernel) (by decide +kernel) (by decide +kernel) (by decide +kernel) (by decide +kernel) (fun _ _ _ h => h) hS2 (Or.inr ⟨by rfl, rfl⟩) ?_
            try simp only [Act.put, List.setIfInBounds_toArray, List.set_cons_zero, List.set_cons_succ]
            refine wpAnyL_take (i := 17) (v := undef) (by rw [List.getElem?_toArray]; rfl) (by decide +kernel) (by decide +kernel) (by decide +kernel) (by decide +kernel) (by decide +kernel) (fun _ _ _ h => h) hS2 (Or.inr ⟨by rfl, rfl⟩) ?_
            try simp only [Act.put, List.setIfInBounds_toArray, List.set_cons_zero, List.set_cons_succ]
            refine wpAnyL_take (i := 18) (v := undef) (by rw [List.getElem?_toArray]; rfl) (by decide +kernel) (by decide +kernel) (by decide +kernel) (by decide +kernel) (by decide +kernel) (fun _ _ _ h => h) hS2 (Or.inr ⟨by rfl, rfl⟩) ?_
            try simp only [Act.put, List.setIfInBounds_toArray, List.set_cons_zero, List.set_cons_succ]
            refine wpAnyL_take (i := 19) (v := undef) (by rw [List.getElem?_toArray]; rfl) (by decide +kernel) (by decide +kernel) (by decide +kernel) (by decide +kernel) (by decide +kernel) (fun _ _ _ h => h) hS2 (Or.inr ⟨by rfl, rfl⟩) ?_
            try simp only [Act.put, List.setIfInBounds_toArray, List.set_cons_zero, List.set_cons_succ]
            refine wpAnyL_take (i := 20) (v := undef) (by rw [List.getElem?_toArray]; rfl) (by decide +kernel) (by decide +kernel) (by decide +kernel) (by decide +kernel) (by decide +kernel) (fun _ _ _ h => h) hS2 (Or.inr ⟨by rfl, rfl⟩) ?_
            try simp only [Act.put, List.setIfInBounds_toArray, List.set_cons_zero, List.set_cons_succ]
            refine wpAnyL_take (i := 21) (v := ?_) (by rw [List.getElem?_toArray]; rfl) (by decide +kernel) (by decide +kernel) (by decide +kernel) (by decide +kernel) (by decide +kernel) (fun _ _ _ h => h) hS2 (Or.inl ⟨by rfl, ?_⟩) ?_
            rotate_left
            · intro wz hSz; have z0 : wz.cell? ⟨g, i, none⟩ = some (.slice x n cx) := hSz; go_simp; first | done | with_reducible rfl | (simp only [hib0, hib, hlb, and_self, if_true, Int.toNat_natCast]; first | done | with_reducible rfl)
            try simp only [Act.put, List.setIfInBounds_toArray, List.set_cons_zero, List.set_cons_succ]
            refine wpAnyL_take (i := 22) (v := ?_) (by rw [List.getElem?_toArray]; rfl) (by decide +kernel) (by decide +kernel) (by decide +kernel) (by decide +kernel) (by decide +kernel) (fun _ _ _ h => h) hS2 (Or.inl ⟨by rfl, ?_⟩) ?_
            rotate_left
            · intro wz hSz; have z0 : wz.cell? ⟨g, i, none⟩ = some (.slice x n cx) := hSz; go_simp; first | done | with_reducible rfl | (simp only [hib0, hib, hlb, and_self, if_true, Int.toNat_natCast]; first | done | with_reducible rfl)
            try simp only [Act.put, List.setIfInBounds_toArray, List.set_cons_zero, List.set_cons_succ]
            refine wpAnyL_take (i := 23) (v := undef) (by rw [List.getElem?_toArray]; rfl) (by decide +kernel) (by decide +kernel) (by decide +kernel) (by decide +kernel) (by decide +kernel) (fun _ _ _ h => h) hS2 (Or.inr ⟨by rfl, rfl⟩) ?_
            try simp only [Act.put, List.setIfInBounds_toArray, List.set_cons_zero, List.set_cons_succ]
            refine wpAnyL_take (i := 24) (v := undef) (by rw [List.getElem?_toArray]; rfl) (by decide +kernel) (by decide +kernel) (by decide +kernel) (by decide +kernel) (by decide +kernel) (fun _ _ _ h => h) hS2 (Or.inr ⟨by rfl, rfl⟩) ?_
            try simp only [Act.put, List.setIfInBounds_toArray, List.set_cons_zero, List.set_cons_succ]
            refine wpAnyL_take (i := 25) (v := undef) (by rw [List.getElem?_toArray]; rfl) (by decide +kernel) (by decide +kernel) (by decide +kernel) (by decide +kernel) (by decide +kernel) (fun _ _ _ h => h) hS2 (Or.inr ⟨by rfl, rfl⟩) ?_
            try simp only [Act.put, List.setIfInBounds_toArray, List.set_cons_zero, List.set_cons_succ]
            refine wpAnyL_take (i := 26) (v := undef) (by rw [List.getElem?_toArray]; rfl) (by decide +kernel) (by decide +kernel) (by decide +kernel) (by decide +kernel) (by decide +kernel) (fun _ _ _ h => h) hS2 (Or.inr ⟨by rfl, rfl⟩) ?_
            try simp only [Act.put, List.setIfInBounds_toArray, List.set_cons_zero, List.set_cons_succ]
            refine wpAnyL_take (i := 27) (v := undef) (by rw [List.getElem?_toArray]; rfl) (by decide +kernel) (by decide +kernel) (by decide +kernel) (by decide +kernel) (by decide +kernel) (fun _ _ _ h => h) hS2 (Or.inr ⟨by rfl, rfl⟩) ?_
            try simp only [Act.put, List.setIfInBounds_toArray, List.set_cons_zero, List.set_cons_succ]
            refine wpAnyL_take (i := 28) (v := undef) (by rw [List.getElem?_toArray]; rfl) (by decide +kernel) (by decide +kernel) (by decide +kernel) (by decide +kernel) (by decide +kernel) (fun _ _ _ h => h) hS2 (Or.inr ⟨by rfl, rfl⟩) ?_
            try simp only [Act.put, List.setIfInBounds_toArray, List.set_cons_zero, List.set_cons_succ]
            refine wpAnyL_take (i := 29) (v := undef) (by rw [List.getElem?_toArray]; rfl) (by decide +kernel) (by decide +kernel) (by decide +kernel) (by decide +kernel) (by decide +kernel) (fun _ _ _ h => h) hS2 (Or.inr ⟨by rfl, rfl⟩) ?_
            try simp only [Act.put, List.setIfInBounds_toArray, List.set_cons_zero, List.set_cons_succ]
            refine wpAnyL_take (i := 30) (v := undef) (by rw [List.getElem?_toArray]; rfl) (by decide +kernel) (by decide +kernel) (by decide +kernel) (by decide +kernel) (by decide +kernel) (fun _ _ _ h => h) hS2 (Or.inr ⟨by rfl, rfl⟩) ?_
            try simp only [Act.put, List.setIfInBounds_toArray, List.set_cons_zero, List.set_cons_succ]
            refine wpAnyL_take (i := 31) (v := undef) (by rw [List.getElem?_toArray]; rfl) (by decide +kernel) (by decide +kernel) (by decide +kernel) (by decide +kernel) (by decide +kernel) (fun _ _ _ h => h) hS2 (Or.inr ⟨by rfl, rfl⟩) ?_
            try simp only [Act.put, List.setIfInBounds_toArray, List.set_cons_zero, List.set_cons_succ]
            refine wpAnyL_take (i := 32) (v := undef) (by rw [List.getElem?_toArray]; rfl) (by decide +kernel) (by decide +kernel) (by decide +kernel) (by decide +kernel) (by decide +kernel) (fun _ _ _ h => h) hS2 (Or.inr ⟨by rfl, rfl⟩) ?_
            try simp only [Act.put, List.setIfInBounds_toArray, List.set_cons_zero, List.set_cons_succ]
            refine wpAnyL_take (i := 33) (v := undef) (by rw [List.getElem?_toArray]; rfl) (by decide +kernel) (by decide +kernel) (by decide +kernel) (by decide +kernel) (by decide +kernel) (fun _ _ _ h => h) hS2 (Or.inr ⟨by rfl, rfl⟩) ?_
            try simp only [Act.put, List.setIfInBounds_toArray, List.set_cons_zero, List.set_cons_succ]
            refine wpAnyL_take (i := 34) (v := undef) (by rw [List.getElem?_toArray]; rfl) (by decide +kernel) (by decide +kernel) (by decide +kernel) (by decide +kernel) (by decide +kernel) (fun _ _ _ h => h) hS2 (Or.inr ⟨by rfl, rfl⟩) ?_
            try simp only [Act.put, List.setIfInBounds_toArray, List.set_cons_zero, List.set_cons_succ]
            refine wpAnyL_take (i := 35) (v := undef) (by rw [List.getElem?_toArray]; rfl) (by decide +kernel) (by decide +kernel) (by decide +kernel) (by decide +kernel) (by decide +kernel) (fun _ _ _ h => h) hS2 (Or.inr ⟨by rfl, rfl⟩) ?_
            try simp only [Act.put, List.setIfInBounds_toArray, List.set_cons_zero, List.set_cons_succ]
            refine wpAnyL_take (i := 36) (v := undef) (by rw [List.getElem?_toArray]; rfl) (by decide +kernel) (by decide +kernel) (by decide +kernel) (by decide +kernel) (by decide +kernel) (fun _ _ _ h => h) hS2 (Or.inr ⟨by rfl, rfl⟩) ?_
            try simp only [Act.put, List.setIfInBounds_toArray, List.set_cons_zero, List.set_cons_succ]
            refine wpAnyL_take (i := 37) (v := ?_) (by rw [List.getElem?_toArray]; rfl) (by decide +kernel) (by decide +kernel) (by decide +kernel) (by decide +kernel) (by decide +kernel) (fun _ _ _ h => h) hS2 (Or.inl ⟨by rfl, ?_⟩) ?_
            rotate_left
            · intro wz hSz; have z0 : wz.cell? ⟨g, i, none⟩ = some (.slice x n cx) := hSz; go_simp; first | done | with_reducible rfl | (simp only [hib0, hib, hlb, and_self, if_true, Int.toNat_natCast]; first | done | with_reducible rfl)
            try simp only [Act.put, List.setIfInBounds_toArray, List.set_cons_zero, List.set_cons_succ]
            refine wpAnyL_done (by kernel_rfl) (NoPanic.normal ?_)
            have HE : Hid (GmP n a l f (.slice x n cx) true w2 ∧ Below w.heap.size w w2) := ⟨Or.inl ⟨rfl, c, by rw [← HL.out.2.1]; exact List.mem_of_getElem? HT.out.1, HT.out.2.1.1 rfl, OwnI.ki' HT.out.2.2 hB2.out⟩, bel_up' (bel_up' H1.out.2 HG.out.2) hB2.out⟩
            have hcl : w2.cell? ⟨g, i, none⟩ = some (.slice x n cx) := hS2
            go_wp2
            go_ret2
            first | exact ⟨_, _, rfl, HE.out⟩ | exact ⟨_, Or.inl ⟨rfl, HE.out⟩⟩ | exact ⟨_, Or.inr ⟨rfl, HE.out⟩⟩
          | false =>
            refine wpAnyL_take (i := 6) (v := ?_) (by rw [List.getElem?_toArray]; rfl) (by decide +kernel) (by decide +kernel) (by decide +kernel) (by decide +kernel) (by decide +kernel) (fun _ _ _ h => h) hS2 (Or.inl ⟨by rfl, ?_⟩) ?_
            rotate_left
            · intro wz hSz; have z0 : wz.cell? ⟨g, i, none⟩ = some (.slice x n cx) := hSz; go_simp; first | done | with_reducible rfl | (simp only [hib0, hib, hlb, and_self, if_true, Int.toNat_natCast]; first | done | with_reducible rfl)
            try simp only [Act.put, List.setIfInBounds_toArray, List.set_cons_zero, List.set_cons_succ]
            refine wpAnyL_take (i := 7) (v := ?_) (by rw [List.getElem?_toArray]; rfl) (by decide +kernel) (by decide +kernel) (by decide +kernel) (by decide +kernel) (by decide +kernel) (fun _ _ _ h => h) hS2 (Or.inl ⟨by rfl, ?_⟩) ?_
            rotate_left
            · intro wz hSz; have z0 : wz.cell? ⟨g, i, none⟩ = some (.slice x n cx) := hSz; go_simp; first | done | with_reducible rfl | (simp only [hib0, hib, hlb, and_self, if_true, Int.toNat_natCast]; first | done | with_reducible rfl)
            try simp only [Act.put, List.setIfInBounds_toArray, List.set_cons_zero, List.set_cons_succ]
            refine wpAnyL_take (i := 8) (v := ?_) (by rw [List.getElem?_toArray]; rfl) (by decide +kernel) (by decide +kernel) (by decide +kernel) (by decide +kernel) (by decide +kernel) (fun _ _ _ h => h) hS2 (Or.inl ⟨by rfl, ?_⟩) ?_
            rotate_left
            · intro wz hSz; have z0 : wz.cell? ⟨g, i, none⟩ = some (.slice x n cx) := hSz; go_simp; first | done | with_reducible rfl | (simp only [hib0, hib, hlb, and_self, if_true, Int.toNat_natCast]; first | done | with_reducible rfl)
            try simp only [Act.put, List.setIfInBounds_toArray, List.set_cons_zero, List.set_cons_succ]
            refine wpAnyL_take (i := 9) (v := ?_) (by rw [List.getElem?_toArray]; rfl) (by decide +kernel) (by decide +kernel) (by decide +kernel) (by decide +kernel) (by decide +kernel) (fun _ _ _ h => h) hS2 (Or.inl ⟨by rfl, ?_⟩) ?_
            rotate_left
            · intro wz hSz; have z0 : wz.cell? ⟨g, i, none⟩ = some (.slice x n cx) := hSz; go_simp; first | done | with_reducible rfl | (simp only [hib0, hib, hlb, and_self, if_true, Int.toNat_natCast]; first | done | with_reducible rfl)
            try simp only [Act.put, List.setIfInBounds_toArray, List.set_cons_zero, List.set_cons_succ]
            refine wpAnyL_take (i := 10) (v := ?_) (by rw [List.getElem?_toArray]; rfl) (by decide +kernel) (by decide +kernel) (by decide +kernel) (by decide +kernel) (by decide +kernel) (fun _ _ _ h => h) hS2 (Or.inl ⟨by rfl, ?_⟩) ?_
            rotate_left
            · intro wz hSz; have z0 : wz.cell? ⟨g, i, none⟩ = some (.slice x n cx) := hSz; go_simp; first | done | with_reducible rfl | (simp only [hib0, hib, hlb, and_self, if_true, Int.toNat_natCast]; first | done | with_reducible rfl)
            try simp only [Act.put, List.setIfInBounds_toArray, List.set_cons_zero, List.set_cons_succ]
            refine wpAnyL_take (i := 11) (v := ?_) (by rw [List.getElem?_toArray]; rfl) (by decide +kernel) (by decide +kernel) (by decide +kernel) (by decide +kernel) (by decide +kernel) (fun _ _ _ h => h) hS2 (Or.inl ⟨by rfl, ?_⟩) ?_
            rotate_left
            · intro wz hSz; have q1 := HBq.out.1; have z0 : wz.cell? ⟨g, i, none⟩ = some (.slice x n cx) := hSz; go_simp; first | done | with_reducible rfl | (simp only [hib0, hib, hlb, and_self, if_true, Int.toNat_natCast]; first | done | with_reducible rfl)
            try simp only [Act.put, List.setIfInBounds_toArray, List.set_cons_zero, List.set_cons_succ]
            refine wpAnyL_take (i := 12) (v := ?_) (by rw [List.getElem?_toArray]; rfl) (by decide +kernel) (by decide +kernel) (by decide +kernel) (by decide +kernel) (by decide +kernel) (fun _ _ _ h => h) hS2 (Or.inl ⟨by rfl, ?_⟩) ?_
            rotate_left
            · intro wz hSz; have z0 : wz.cell? ⟨g, i, none⟩ = some (.slice x n cx) := hSz; go_simp; first | done | with_reducible rfl | (simp only [hib0, hib, hlb, and_self, if_true, Int.toNat_natCast]; first | done | with_reducible rfl)
            try simp only [Act.put, List.setIfInBounds_toArray, List.set_cons_zero, List.set_cons_succ]
            refine wpAnyL_take (i := 13) (v := undef) (by rw [List.getElem?_toArray]; rfl) (by decide +kernel) (by decide +kernel) (by decide +kernel) (by decide +kernel) (by decide +kernel) (fun _ _ _ h => h) hS2 (Or.inr ⟨by rfl, rfl⟩) ?_
            try simp only [Act.put, List.setIfInBounds_toArray, List.set_cons_zero, List.set_cons_succ]
            refine wpAnyL_take (i := 14) (v := undef) (by rw [List.getElem?_toArray]; rfl) (by decide +kernel) (by decide +kernel) (by decide +kernel) (by decide +kernel) (by decide +kernel) (fun _ _ _ h => h) hS2 (Or.inr ⟨by rfl, rfl⟩) ?_
            try simp only [Act.put, List.setIfInBounds_toArray, List.set_cons_zero, List.set_cons_succ]
            refine wpAnyL_take (i := 15) (v := undef) (by rw [List.getElem?_toArray]; rfl) (by decide +kernel) (by decide +kernel) (by decide +kernel) (by decide +kernel) (by decide +kernel) (fun _ _ _ h => h) hS2 (Or.inr ⟨by rfl, rfl⟩) ?_
            try simp only [Act.put, List.setIfInBounds_toArray, List.set_cons_zero, List.set_cons_succ]
            refine wpAnyL_take (i := 16) (v := undef) (by rw [List.getElem?_toArray]; rfl) (by decide +kernel) (by decide +kernel) (by decide +kernel) (by decide +kernel) (by decide +kernel) (fun _ _ _ h => h) hS2 (Or.inr ⟨by rfl, rfl⟩) ?_
            try simp only [Act.put, List.setIfInBounds_toArray, List.set_cons_zero, List.set_cons_succ]
            refine wpAnyL_take (i := 17) (v := undef) (by rw [List.getElem?_toArray]; rfl) (by decide +kernel) (by decide +kernel) (by decide +kernel) (by decide +kernel) (by decide +kernel) (fun _ _ _ h => h) hS2 (Or.inr ⟨by rfl, rfl⟩) ?_
            try simp only [Act.put, List.setIfInBounds_toArray, List.set_cons_zero, List.set_cons_succ]
            refine wpAnyL_take (i := 18) (v := undef) (by rw [List.getElem?_toArray]; rfl) (by decide +kernel) (by decide +kernel) (by decide +kernel) (by decide +kernel) (by decide +kernel) (fun _ _ _ h => h) hS2 (Or.inr ⟨by rfl, rfl⟩) ?_
            try simp only [Act.put, List.setIfInBounds_toArray, List.set_cons_zero, List.set_cons_succ]
            refine wpAnyL_take (i := 19) (v := undef) (by rw [List.getElem?_toArray]; rfl) (by decide +kernel) (by decide +kernel) (by decide +kernel) (by decide +kernel) (by decide +kernel) (fun _ _ _ h => h) hS2 (Or.inr ⟨by rfl, rfl⟩) ?_
            try simp only [Act.put, List.setIfInBounds_toArray, List.set_cons_zero, List.set_cons_succ]
            refine wpAnyL_take (i := 20) (v := ?_) (by rw [List.getElem?_toArray]; rfl) (by decide +kernel) (by decide +kernel) (by decide +kernel) (by decide +kernel) (by decide +kernel) (fun _ _ _ h => h) hS2 (Or.inl ⟨by rfl, ?_⟩) ?_
            rotate_left
            · intro wz hSz; have z0 : wz.cell? ⟨g, i, none⟩ = some (.slice x n cx) := hSz; go_simp; first | done | with_reducible rfl | (simp only [hib0, hib, hlb, and_self, if_true, Int.toNat_natCast]; first | done | with_reducible rfl)
            try simp only [Act.put, List.setIfInBounds_toArray, List.set_cons_zero, List.set_cons_succ]
            refine wpAnyL_take (i := 21) (v := ?_) (by rw [List.getElem?_toArray]; rfl) (by decide +kernel) (by decide +kernel) (by decide +kernel) (by decide +kernel) (by decide +kernel) (fun _ _ _ h => h) hS2 (Or.inl ⟨by rfl, ?_⟩) ?_
            rotate_left
            · intro wz hSz; have z0 : wz.cell? ⟨g, i, none⟩ = some (.slice x n cx) := hSz; go_simp; first | done | with_reducible rfl | (simp only [hib0, hib, hlb, and_self, if_true, Int.toNat_natCast]; first | done | with_reducible rfl)
            try simp only [Act.put, List.setIfInBounds_toArray, List.set_cons_zero, List.set_cons_succ]
            refine wpAnyL_take (i := 22) (v := ?_) (by rw [List.getElem?_toArray]; rfl) (by decide +kernel) (by decide +kernel) (by decide +kernel) (by decide +kernel) (by decide +kernel) (fun _ _ _ h => h) hS2 (Or.inl ⟨by rfl, ?_⟩) ?_
            rotate_left
            · intro wz hSz; have z0 : wz.cell? ⟨g, i, none⟩ = some (.slice x n cx) := hSz; go_simp; first | done | with_reducible rfl | (simp only [hib0, hib, hlb, and_self, if_true, Int.toNat_natCast]; first | done | with_reducible rfl)
            try simp only [Act.put, List.setIfInBounds_toArray, List.set_cons_zero, List.set_cons_succ]
            refine wpAnyL_take (i := 23) (v := ?_) (by rw [List.getElem?_toArray]; rfl) (by decide +kernel) (by decide +kernel) (by decide +kernel) (by decide +kernel) (by decide +kernel) (fun _ _ _ h => h) hS2 (Or.inl ⟨by rfl, ?_⟩) ?_
            rotate_left
            · intro wz hSz; have z0 : wz.cell? ⟨g, i, none⟩ = some (.slice x n cx) := hSz; go_simp; first | done | with_reducible rfl | (simp only [hib0, hib, hlb, and_self, if_true, Int.toNat_natCast]; first | done | with_reducible rfl)
            try simp only [Act.put, List.setIfInBounds_toArray, List.set_cons_zero, List.set_cons_succ]
            refine wpAnyL_take (i := 24) (v := ?_) (by rw [List.getElem?_toArray]; rfl) (by decide +kernel) (by decide +kernel) (by decide +kernel) (by decide +kernel) (by decide +kernel) (fun _ _ _ h => h) hS2 (Or.inl ⟨by rfl, ?_⟩) ?_
            rotate_left
            · intro wz hSz; have z0 : wz.cell? ⟨g, i, none⟩ = some (.slice x n cx) := hSz; go_simp; first | done | with_reducible rfl | (simp only [hib0, hib, hlb, and_self, if_true, Int.toNat_natCast]; first | done | with_reducible rfl)
            try simp only [Act.put, List.setIfInBounds_toArray, List.set_cons_zero, List.set_cons_succ]
            refine wpAnyL_take (i := 25) (v := ?_) (by rw [List.getElem?_toArray]; rfl) (by decide +kernel) (by decide +kernel) (by decide +kernel) (by decide +kernel) (by decide +kernel) (fun _ _ _ h => h) hS2 (Or.inl ⟨by rfl, ?_⟩) ?_
            rotate_left
            · intro wz hSz; have z0 : wz.cell? ⟨g, i, none⟩ = some (.slice x n cx) := hSz; go_simp; first | done | with_reducible rfl | (simp only [hib0, hib, hlb, and_self, if_true, Int.toNat_natCast]; first | done | with_reducible rfl)
            try simp only [Act.put, List.setIfInBounds_toArray, List.set_cons_zero, List.set_cons_succ]
            refine wpAnyL_take (i := 26) (v := ?_) (by rw [List.getElem?_toArray]; rfl) (by decide +kernel) (by decide +kernel) (by decide +kernel) (by decide +kernel) (by decide +kernel) (fun _ _ _ h => h) hS2 (Or.inl ⟨by rfl, ?_⟩) ?_
            rotate_left
            · intro wz hSz; have z0 : wz.cell? ⟨g, i, none⟩ = some (.slice x n cx) := hSz; go_simp; first | done | with_reducible rfl | (simp only [hib0, hib, hlb, and_self, if_true, Int.toNat_natCast]; first | done | with_reducible rfl)
            try simp only [Act.put, List.setIfInBounds_toArray, List.set_cons_zero, List.set_cons_succ]
            refine wpAnyL_take (i := 27) (v := ?_) (by rw [List.getElem?_toArray]; rfl) (by decide +kernel) (by decide +kernel) (by decide +kernel) (by decide +kernel) (by decide +kernel) (fun _ _ _ h => h) hS2 (Or.inl ⟨by rfl, ?_⟩) ?_
            rotate_left
            · intro wz hSz; have q2 := HBq.out.2; have z0 : wz.cell? ⟨g, i, none⟩ = some (.slice x n cx) := hSz; go_simp; first | done | with_reducible rfl | (simp only [hib0, hib, hlb, and_self, if_true, Int.toNat_natCast]; first | done | with_reducible rfl)
            try simp only [Act.put, List.setIfInBounds_toArray, List.set_cons_zero, List.set_cons_succ]
            refine wpAnyL_take (i := 28) (v := ?_) (by rw [List.getElem?_toArray]; rfl) (by decide +kernel) (by decide +kernel) (by decide +kernel) (by decide +kernel) (by decide +kernel) (fun _ _ _ h => h) hS2 (Or.inl ⟨by rfl, ?_⟩) ?_
            rotate_left
            · intro wz hSz; have z0 : wz.cell? ⟨g, i, none⟩ = some (.slice x n cx) := hSz; go_simp; first | done | with_reducible rfl | (simp only [hib0, hib, hlb, and_self, if_true, Int.toNat_natCast]; first | done | with_reducible rfl)
            try simp only [Act.put, List.setIfInBounds_toArray, List.set_cons_zero, List.set_cons_succ]
            refine wpAnyL_take (i := 29) (v := undef) (by rw [List.getElem?_toArray]; rfl) (by decide +kernel) (by decide +kernel) (by decide +kernel) (by decide +kernel) (by decide +kernel) (fun _ _ _ h => h) hS2 (Or.inr ⟨by rfl, rfl⟩) ?_
            try simp only [Act.put, List.setIfInBounds_toArray, List.set_cons_zero, List.set_cons_succ]
            refine wpAnyL_take (i := 30) (v := undef) (by rw [List.getElem?_toArray]; rfl) (by decide +kernel) (by decide +kernel) (by decide +kernel) (by decide +kernel) (by decide +kernel) (fun _ _ _ h => h) hS2 (Or.inr ⟨by rfl, rfl⟩) ?_
            try simp only [Act.put, List.setIfInBounds_toArray, List.set_cons_zero, List.set_cons_succ]
            refine wpAnyL_take (i := 31) (v := undef) (by rw [List.getElem?_toArray]; rfl) (by decide +kernel) (by decide +kernel) (by decide +kernel) (by decide +kernel) (by decide +kernel) (fun _ _ _ h => h) hS2 (Or.inr ⟨by rfl, rfl⟩) ?_
            try simp only [Act.put, List.setIfInBounds_toArray, List.set_cons_zero, List.set_cons_succ]
            refine wpAnyL_take (i := 32) (v := undef) (by rw [List.getElem?_toArray]; rfl) (by decide +kernel) (by decide +kernel) (by decide +kernel) (by decide +kernel) (by decide +kernel) (fun _ _ _ h => h) hS2 (Or.inr ⟨by rfl, rfl⟩) ?_
            try simp only [Act.put, List.setIfInBounds_toArray, List.set_cons_zero, List.set_cons_succ]
            refine wpAnyL_take (i := 33) (v := undef) (by rw [List.getElem?_toArray]; rfl) (by decide +kernel) (by decide +kernel) (by decide +kernel) (by decide +kernel) (by decide +kernel) (fun _ _ _ h => h) hS2 (Or.inr ⟨by rfl, rfl⟩) ?_
            try simp only [Act.put, List.setIfInBounds_toArray, List.set_cons_zero, List.set_cons_succ]
            refine wpAnyL_take (i := 34) (v := undef) (by rw [List.getElem?_toArray]; rfl) (by decide +kernel) (by decide +kernel) (by decide +kernel) (by decide +kernel) (by decide +kernel) (fun _ _ _ h => h) hS2 (Or.inr ⟨by rfl, rfl⟩) ?_
            try simp only [Act.put, List.setIfInBounds_toArray, List.set_cons_zero, List.set_cons_succ]
            refine wpAnyL_take (i := 35) (v := undef) (by rw [List.getElem?_toArray]; rfl) (by decide +kernel) (by decide +kernel) (by decide +kernel) (by decide +kernel) (by decide +kernel) (fun _ _ _ h => h) hS2 (Or.inr ⟨by rfl, rfl⟩) ?_
            try simp only [Act.put, List.setIfInBounds_toArray, List.set_cons_zero, List.set_cons_succ]
            refine wpAnyL_take (i := 36) (v := ?_) (by rw [List.getElem?_toArray]; rfl) (by decide +kernel) (by decide +kernel) (by decide +kernel) (by decide +kernel) (by decide +kernel) (fun _ _ _ h => h) hS2 (Or.inl ⟨by rfl, ?_⟩) ?_
            rotate_left
            · intro wz hSz; have z0 : wz.cell? ⟨g, i, none⟩ = some (.slice x n cx) := hSz; go_simp; first | done | with_reducible rfl | (simp only [hib0, hib, hlb, and_self, if_true, Int.toNat_natCast]; first | done | with_reducible rfl)
            try simp only [Act.put, List.setIfInBounds_toArray, List.set_cons_zero, List.set_cons_succ]
            refine wpAnyL_take (i := 37) (v := ?_) (by rw [List.getElem?_toArray]; rfl) (by decide +kernel) (by decide +kernel) (by decide +kernel) (by decide +kernel) (by decide +kernel) (fun _ _ _ h => h) hS2 (Or.inl ⟨by rfl, ?_⟩) ?_
            rotate_left
            · intro wz hSz; have z0 : wz.cell? ⟨g, i, none⟩ = some (.slice x n cx) := hSz; go_simp; first | done | with_reducible rfl | (simp only [hib0, hib, hlb, and_self, if_true, Int.toNat_natCast]; first | done | with_reducible rfl)
            try simp only [Act.put, List.setIfInBounds_toArray, List.set_cons_zero, List.set_cons_succ]
            refine wpAnyL_done (by kernel_rfl) (NoPanic.normal ?_)
            have HN : Hid ((∀ (j : Nat), j < i + 1 → ∀ c, L[j]? = some c → ¬ relW n l f c) ∧ Below w1.heap.size w1 w2) := by
              refine ⟨fun j hj c' hc' => ?_, bel_up' HG.out.2 hB2.out⟩
              by_cases e : j = i
              · subst e
                have h1 := HT.out.1
                rw [hc'] at h1
                cases h1
                exact fun hr => by have := HT.out.2.1.2 hr; cases this
              · exact HG.out.1 j (by omega) c' hc'
            go_wp2
            go_roundw
            case rel => exact ⟨i + 1, by omega, by go_num, HN.out⟩
            case measure => simp [intOf]; omega
    · have hib : ¬ (i : Int) < (M : Int) := by omega
      have HE : Hid (GmP n a l f (.slice none 0 0) false wr ∧ Below w.heap.size w wr) := by
        refine ⟨Or.inr ⟨rfl, KI.nil _, fun c hc => ?_⟩, bel_up' H1.out.2 HG.out.2⟩
        rw [← HL.out.2.1] at hc
        obtain ⟨j, hj, e⟩ := List.getElem_of_mem hc
        exact HG.out.1 j (by have := HL.out.1; omega) c (by rw [List.getElem?_eq_getElem hj, e])
      go_wp2
      go_ret2
      first | exact ⟨_, _, rfl, HE.out⟩ | exact ⟨_, Or.inl ⟨rfl, HE.out⟩⟩ | exact ⟨_, Or.inr ⟨rfl, HE.out⟩⟩
end Go.Proofs.Ytillljojdnofgaa
