/- Texts of ours, one behind the other: V1 V2 V3 W5. -/
import Derived.Test.YtpccbiinfdppnadZU9
import Derived.Test.YtpccbiinfdppnadZB5
import Derived.Test.YtpccbiinfdppnadZN3
import Derived.Lib.QuietBelow
/- The reference's polynomials: without noughts at the end (Trim); which may be (PolyMay). -/
namespace Go.Proofs.Ytpccbiinfdppnad
open Go.RowKit

set_option maxHeartbeats 2000000 in
set_option maxRecDepth 100000 in
theorem rtrim_any {ao : Option Addr} {n cap : Nat} {c : Nat → Nat} {w : World} (h : Sl ao n c w) (hn : n ≤ cap) (_hcap : cap ≤ 9223372036854775807) (hnil : ao = none → cap = 0) (hl : LtB ao w.heap.size) (hn6 : n ≤ 1000000) :
    Calls Try.prog 61 #[.slice ao n cap] w fun e w' => ∃ v, e = .returned v ∧ OwnP w.heap.size v (dgn c n) c w' ∧ Below w.heap.size w w' := by
  have HS : Hid (Sl ao n c w ∧ (ao = none → cap = 0) ∧ LtB ao w.heap.size) := ⟨h, hnil, hl⟩
  clear h hnil hl
  have hd := dgn_le c n
  go_enter Try.func61, Try.ntmps61
  go_wp2
  go_loopw [3] (fun i wr => ∃ m : Nat, m ≤ n ∧ i = .int .i64 m ∧ Hid (dgn c n = dgn c m) ∧ ∃ d, wr = w.drewN d) (fun i _ => (intOf i).toNat)
  case atStart => exact ⟨n, Nat.le_refl _, rfl, rfl, 0, rfl⟩
  case round =>
    obtain ⟨m, hm, rfl, HD, d, rfl⟩ := hrel
    have HC : Hid (Calls Try.prog 45 #[.slice ao (dgn c n) cap] (w.drewN d) fun e w' => ∃ v, e = .returned v ∧ OwnP w.heap.size v (dgn c n) c w' ∧ Below w.heap.size (w.drewN d) w') :=
      copy_any (w := w.drewN d) (HS.out.1.less hd) (by omega) HS.out.2.1 HS.out.2.2
    cases m with
    | zero =>
      have HE : Hid (dgn c n = 0) := HD.out
      have HC0 : Hid (Calls Try.prog 45 #[.slice ao 0 cap] (w.drewN d) fun e w' => ∃ v, e = .returned v ∧ OwnP w.heap.size v (dgn c n) c w' ∧ Below w.heap.size (w.drewN d) w') := by
        have h := HC.out
        rw [HE.out] at h ⊢; exact h
      cases ao with
      | none =>
        go_wp2_with (go_at_call 45; refine HC0.out.mono ?_; rintro e w' ⟨v, rfl, hown, hb⟩)
        go_ret
        exact ⟨v, rfl, hown, below_drewN2 (Below.refl _ _) d |>.trans hb⟩
      | some x =>
        go_wp2_with (go_at_call 45; refine HC0.out.mono ?_; rintro e w' ⟨v, rfl, hown, hb⟩)
        go_ret
        exact ⟨v, rfl, hown, below_drewN2 (Below.refl _ _) d |>.trans hb⟩
    | succ m =>
      obtain ⟨b, off, rfl, hc⟩ := HS.out.1 m (by omega)
      by_cases h0 : c m = 0
      · have HE : Hid (dgn c n = dgn c m) := by show _ = _; rw [HD.out, dgn, if_pos h0]
        have hz : (((c m : Nat) : Int) == 0) = true := by rw [h0]; rfl
        clear h0
        go_wp2
        go_roundw
        case rel => exact ⟨m, by omega, by go_num, HE.out, _, rfl⟩
        case measure => simp [intOf]
      · have HE : Hid (dgn c n = m + 1) := by show _ = _; rw [HD.out, dgn, if_neg h0]
        have hz : (((c m : Nat) : Int) == 0) = false := by rw [beq_eq_false_iff_ne]; omega
        have HC1 : Hid (Calls Try.prog 45 #[.slice (some ⟨b, off, none⟩) (m + 1) cap] (w.drewN d) fun e w' => ∃ v, e = .returned v ∧ OwnP w.heap.size v (dgn c n) c w' ∧ Below w.heap.size (w.drewN d) w') := by
          have h := HC.out
          rw [HE.out] at h ⊢; exact h
        clear h0
        go_wp2_with (go_at_call 45; refine HC1.out.mono ?_; rintro e w' ⟨v, rfl, hown, hb⟩)
        go_ret
        exact ⟨v, rfl, hown, below_drewN2 (Below.refl _ _) d |>.trans hb⟩
end Go.Proofs.Ytpccbiinfdppnad

/- The reference's polynomials: which may be (PolyMay). -/
namespace Go.Proofs.Ytpccbiinfdppnad
open Go.RowKit

set_option maxHeartbeats 1000000 in
set_option maxRecDepth 100000 in
theorem polyMay_none (q : Int) (h : ∀ D ∈ fieldsL, (D.q : Int) ≠ q) (ao : Option Addr) (n cap : Nat) (w : World) :
    Calls Try.prog 8 #[.int .i64 q, .slice ao n cap] w fun e w' => e = .returned (.int .i64 1) ∧ Below w.heap.size w w' := by
  have HB : Hid (∀ D ∈ fieldsL, (D.q : Int) ≠ q) := h
  clear h
  go_enter Try.func8, Try.ntmps8
  go_wp2_with fail
  refine (rfield_none q w HB.out).mono ?_
  rintro e w1 ⟨rfl, hb1⟩
  have HW : Hid (Below w.heap.size w w1) := hb1
  clear hb1
  unfold rf0
  go_wp2
  go_ret
  exact ⟨rfl, by first | exact HW.out | exact HW.out.alloc HW.out.size _⟩

set_option maxHeartbeats 2000000 in
set_option maxRecDepth 100000 in
theorem polyMay_any {D : FD} (hD : D ∈ fieldsL) {ao : Option Addr} {n cap : Nat} {z : Nat → Int} {w : World} (h : SlZ ao n z w) (hl : LtB ao w.heap.size) (hn : n ≤ 1000000) :
    Calls Try.prog 8 #[.int .i64 D.q, .slice ao n cap] w fun e w' => e = .returned (.int .i64 (D.chk n z)) ∧ Below w.heap.size w w' := by
  have HS : Hid (SlZ ao n z w ∧ LtB ao w.heap.size ∧ D ∈ fieldsL) := ⟨h, hl, hD⟩
  clear h hl hD
  go_enter Try.func8, Try.ntmps8
  go_wp2_with fail
  refine (rfield_any HS.out.2.2 w).mono ?_
  rintro e w1 ⟨vm, rfl, hown, _, hb1⟩
  have hm6 := (fld HS.out.2.2).m6
  obtain ⟨gm, cm, fm, hvm, hgm⟩ := hown.row (D.m + 1) modL_len' (by omega)
  subst hvm
  have HA : Hid (Below w.heap.size w w1) := hb1
  have hs1 := hb1.size
  clear hb1 hown hgm
  unfold rf
  obtain ⟨vm, hvm⟩ : ∃ vm, vm = Value.slice (some ⟨gm, 0, none⟩) (D.m + 1) cm := ⟨_, rfl⟩
  have HB0 : Hid (Box w1.heap.size D D.gen (.slice (some ⟨gm, 0, none⟩) (D.m + 1) cm) (w1.alloc (.cells #[.int .i64 D.q, .int .i64 D.p, .int .i64 D.m, .int .i64 D.gen, .slice (some ⟨gm, 0, none⟩) (D.m + 1) cm] 28))) := box_new D D.gen _ w1
  clear hvm
  by_cases h128 : 128 < n
  · have HV : Hid (D.chk n z = 4) := by show D.chk n z = 4; rw [FD.chk, if_pos h128]
    go_wp2
    go_ret
    exact ⟨ret_int (by rw [HV.out]), by first | exact HA.out | exact HA.out.alloc HA.out.size _⟩
  · go_wp2
    go_loopw [7] (fun i wr => ∃ r : Nat, r ≤ n ∧ i = .int .i64 r ∧ Hid (D.allHas z r = true) ∧ Box w1.heap.size D D.gen (.slice (some ⟨gm, 0, none⟩) (D.m + 1) cm) wr ∧ Below w.heap.size w wr ∧ w1.heap.size < wr.heap.size) (fun i _ => n - (intOf i).toNat)
    case atStart => exact ⟨0, by omega, rfl, rfl, HB0.out, HA.out.alloc HA.out.size _, by simp⟩
    case round =>
      obtain ⟨r, hr, rfl, HH, hbox, hbel, hlt1⟩ := hrel
      obtain ⟨c0, c1, c2, c3, c4⟩ := hbox
      have HG : Hid (Box w1.heap.size D D.gen (.slice (some ⟨gm, 0, none⟩) (D.m + 1) cm) wr ∧ Below w.heap.size w wr) := ⟨⟨c0, c1, c2, c3, c4⟩, hbel⟩
      clear hbel
      by_cases hlt : r < n
      · obtain ⟨b, off, rfl, hc⟩ := (HS.out.1.below HG.out.2 HS.out.2.1) r hlt
        obtain ⟨x, hx⟩ : ∃ x, x = z r := ⟨_, rfl⟩
        rw [← hx] at hc
        have z1 : (0 : Int) ≤ (r : Int) := by omega
        have z2 : (r : Int) < (n : Int) := by omega
        have HX : Hid (x = z r) := hx
        clear hx
        obtain ⟨hb0, hhb⟩ : ∃ hb0, hb0 = D.has x := ⟨_, rfl⟩
        have HC : Hid (∀ w3 : World, Calls Try.prog 29 #[.agg #[.int .i64 D.q, .int .i64 D.p, .int .i64 D.m, .int .i64 D.gen, .slice (some ⟨gm, 0, none⟩) (D.m + 1) cm], .int .i64 x] w3 fun e w' => e = .returned (.bool hb0) ∧ Below w3.heap.size w3 w') := by
          intro w3; rw [hhb]; exact rhas_any D D.gen _ x w3
        have HHB : Hid (hb0 = D.has x) := hhb
        clear hhb
        have HK : Hid (∀ w3 : World, Below wr.heap.size wr w3 → w3.cell? ⟨w1.heap.size, 0, none⟩ = some (.int .i64 (D.q : Nat)) ∧ w3.cell? ⟨w1.heap.size, 1, none⟩ = some (.int .i64 (D.p : Nat)) ∧ w3.cell? ⟨w1.heap.size, 2, none⟩ = some (.int .i64 (D.m : Nat)) ∧ w3.cell? ⟨w1.heap.size, 3, none⟩ = some (.int .i64 (D.gen : Nat)) ∧ w3.cell? ⟨w1.heap.size, 4, none⟩ = some (.slice (some ⟨gm, 0, none⟩) (D.m + 1) cm) ∧ w3.cell? ⟨b, off + r, none⟩ = some (.int .i64 x)) := by
          intro w3 h3
          have hB := HG.out.1.below (B := wr.heap.size) h3 hlt1
          refine ⟨hB.c0, hB.c1, hB.c2, hB.c3, hB.c4, ?_⟩
          rw [(bcell h3).1 b (off + r) (Nat.lt_of_lt_of_le (HS.out.2.1 _ rfl) HG.out.2.size)]
          exact hc
        have hbc : Below wr.heap.size wr wr := Below.refl _ _
        go_wp2_with fail
        go_region_held3 (fun w' => w'.cell? ⟨w1.heap.size, 0, none⟩ = some (.int .i64 (D.q : Nat)) ∧ w'.cell? ⟨w1.heap.size, 1, none⟩ = some (.int .i64 (D.p : Nat)) ∧ w'.cell? ⟨w1.heap.size, 2, none⟩ = some (.int .i64 (D.m : Nat)) ∧ w'.cell? ⟨w1.heap.size, 3, none⟩ = some (.int .i64 (D.gen : Nat)) ∧ w'.cell? ⟨w1.heap.size, 4, none⟩ = some (.slice (some ⟨gm, 0, none⟩) (D.m + 1) cm) ∧ w'.cell? ⟨b, off + r, none⟩ = some (.int .i64 x))
          (first | go_keep | exact HK.out _ (by first | exact hbc | exact hbc.drew))
          (first | (go_at_call 29; refine (HC.out _).mono ?_; rintro e w' ⟨rfl, hb'⟩; replace hbc := bel_up' (by first | exact hbc | exact hbc.drew) hb'; clear hb'))
        have HR : Hid (Box w1.heap.size D D.gen (.slice (some ⟨gm, 0, none⟩) (D.m + 1) cm) w' ∧ Below w.heap.size w w' ∧ w1.heap.size < w'.heap.size) := ⟨HG.out.1.below hbc hlt1, bel_up' HG.out.2 hbc, by have := hbc.size; omega⟩
        clear c0 c1 c2 c3 c4 HC hc hbc HK
        cases hb0 with
        | true =>
          have HH2 : Hid (D.allHas z (r + 1) = true) := by show D.allHas z (r + 1) = true; rw [FD.allHas, HH.out, ← HX.out, ← HHB.out]; rfl
          go_wp2
          go_roundw
          case rel => exact ⟨r + 1, by omega, by go_num, HH2.out, HR.out⟩
          case measure => simp [intOf]; omega
        | false =>
          have HV : Hid (D.chk n z = 2) := by
            show D.chk n z = 2
            rw [FD.chk, if_neg h128, if_neg]
            intro e
            have h := allHas_iff.1 e r hlt
            rw [← HX.out, ← HHB.out] at h
            cases h
          go_wp2
          go_ret
          exact ⟨ret_int (by rw [HV.out]), HR.out.2.1⟩
      · have HV : Hid (D.chk n z = 0) := by
          show D.chk n z = 0
          have e : r = n := by omega
          rw [FD.chk, if_neg h128, if_pos (e ▸ HH.out)]
        go_wp2
        go_ret
        exact ⟨ret_int (by rw [HV.out]), HG.out.2⟩
end Go.Proofs.Ytpccbiinfdppnad

/- The reference's polynomials: sums (PAdd). -/
namespace Go.Proofs.Ytpccbiinfdppnad
open Go.RowKit

/-- The n coefficients c as a list of numbers. -/
def NL (n : Nat) (c : Nat → Nat) : List Int := (List.range n).map fun k => ((c k : Nat) : Int)
theorem NL_len (n : Nat) (c : Nat → Nat) : (NL n c).length = n := by simp [NL]
theorem NL_succ (n : Nat) (c : Nat → Nat) : NL (n + 1) c = NL n c ++ [((c n : Nat) : Int)] := by unfold NL; rw [List.range_succ, List.map_append]; rfl
theorem NL_get (n : Nat) (c : Nat → Nat) (j : Nat) (hj : j < n) : (NL n c).getD j 0 = ((c j : Nat) : Int) := by
  unfold NL
  rw [List.getD_eq_getElem?_getD, List.getElem?_map, List.getElem?_range hj]; rfl
theorem NL_congr {n : Nat} {c d : Nat → Nat} (h : ∀ k, k < n → c k = d k) : NL n c = NL n d := by
  unfold NL
  exact List.map_congr_left fun k hk => by rw [h k (List.mem_range.1 hk)]
theorem OwnI.ownP {base n : Nat} {v : Value} {c : Nat → Nat} {w : World} (h : OwnI base v (NL n c) w) : OwnP base v n c w := by
  rcases h.2 with ⟨h1, h2⟩ | ⟨g, cap, cur, hv, hg, hh, hle, hcm, hsz, htake⟩
  · rw [NL_len] at h2
    subst h2
    exact ⟨none, 0, h1, Nat.le_refl _, by omega, fun x hx => (by cases hx), fun x hx => (by cases hx), fun _ => rfl, fun h0 => absurd h0 (by omega)⟩
  · rw [NL_len] at hv hle
    refine ⟨_, cap, hv, hle, by unfold maxLen at hcm; omega, fun x hx => (by cases hx; exact hg), fun x hx => (by cases hx; exact lt_of_block hh), fun e => (by cases e), fun h0 => ⟨g, rfl, ?_⟩⟩
    obtain ⟨g', cap', f, hv', hg', hl', hle', hcm', hrow, hf⟩ := h.row n (NL_len n c) h0
    rw [hv'] at hv
    simp only [Value.slice.injEq, Option.some.injEq, Addr.mk.injEq, and_true, true_and] at hv
    obtain ⟨rfl, rfl⟩ := hv
    exact ⟨_, f, hrow, hle', fun k hk => by rw [hf k hk, NL_get n c k hk]⟩

set_option maxHeartbeats 4000000 in
set_option maxRecDepth 100000 in
theorem rpadd_any {D : FD} (hD : D ∈ fieldsL) (gen gm cm : Nat) {ao bo : Option Addr} {n m ca cb : Nat} {a b : Nat → Nat} {w : World} (hn : n ≤ 1000) (hm : m ≤ 1000) (ha : El D a) (hb : El D b) (hbn : Bd n a) (hbm : Bd m b) (hA : Sl ao n a w) (hB : Sl bo m b w) (hla : LtB ao w.heap.size) (hlb : LtB bo w.heap.size) :
    Calls Try.prog 63 #[rf D.q D.p D.m gen (.slice (some ⟨gm, 0, none⟩) (D.m + 1) cm), .slice ao n ca, .slice bo m cb] w fun e w' => ∃ v, e = .returned v ∧ OwnP w.heap.size v (dgn (padd D a b) (max n m)) (padd D a b) w' ∧ Below w.heap.size w w' := by
  have HF : Hid (D ∈ fieldsL ∧ Sl ao n a w ∧ Sl bo m b w ∧ El D a ∧ El D b ∧ Bd n a ∧ Bd m b ∧ LtB ao w.heap.size ∧ LtB bo w.heap.size) := ⟨hD, hA, hB, ha, hb, hbn, hbm, hla, hlb⟩
  clear hD hA hB ha hb hbn hbm hla hlb
  have HB0 : Hid (Box w.heap.size D gen (.slice (some ⟨gm, 0, none⟩) (D.m + 1) cm) (w.alloc (.cells #[.int .i64 D.q, .int .i64 D.p, .int .i64 D.m, .int .i64 gen, .slice (some ⟨gm, 0, none⟩) (D.m + 1) cm] 28))) := box_new D gen _ w
  unfold rf
  obtain ⟨N, hN⟩ : ∃ N, N = max n m := ⟨_, rfl⟩
  rw [← hN]
  have hN2 : N ≤ 1000 := by omega
  have hN3 : n ≤ N := by omega
  have hN4 : m ≤ N := by omega
  have HN : Hid (N = max n m) := hN
  clear hN
  go_enter Try.func63, Try.ntmps63
  go_wp2
  go_loopw [7, 8] (fun vl i wr => ∃ r : Nat, r ≤ N ∧ i = .int .i64 r ∧ OwnI (w.heap.size + 1) vl (NL r (padd D a b)) wr ∧ Box w.heap.size D gen (.slice (some ⟨gm, 0, none⟩) (D.m + 1) cm) wr ∧ Below w.heap.size w wr ∧ w.heap.size < wr.heap.size) (fun _ i _ => N - (intOf i).toNat)
  case atStart => exact ⟨0, by omega, rfl, OwnI.nil _ _, HB0.out, (Below.refl _ _).alloc (Nat.le_refl _) _, by simp⟩
  case round =>
    obtain ⟨r, hr, rfl, hown, hbox, hbel, hlt1⟩ := hrel
    obtain ⟨c0, c1, c2, c3, c4⟩ := hbox
    have HG : Hid (OwnI (w.heap.size + 1) u7 (NL r (padd D a b)) wr ∧ Box w.heap.size D gen (.slice (some ⟨gm, 0, none⟩) (D.m + 1) cm) wr ∧ Below w.heap.size w wr) := ⟨hown, ⟨c0, c1, c2, c3, c4⟩, hbel⟩
    clear hown hbel
    have HC : Hid (∀ w3 : World, Calls Try.prog 36 #[.agg #[.int .i64 D.q, .int .i64 D.p, .int .i64 D.m, .int .i64 gen, .slice (some ⟨gm, 0, none⟩) (D.m + 1) cm], .int .i64 (a r : Nat), .int .i64 (b r : Nat)] w3 fun e w' => e = .returned (.int .i64 (padd D a b r : Nat)) ∧ Below w3.heap.size w3 w') :=
      fun w3 => radd_nat HF.out.1 gen _ (a r) (b r) (HF.out.2.2.2.1 r) (HF.out.2.2.2.2.1 r) w3
    by_cases h1 : r < n
    · obtain ⟨ba, offa, rfl, hca⟩ := (HF.out.2.1.below HG.out.2.2 HF.out.2.2.2.2.2.2.2.1) r h1
      by_cases h2 : r < m
      · obtain ⟨bb, offb, rfl, hcb⟩ := (HF.out.2.2.1.below HG.out.2.2 HF.out.2.2.2.2.2.2.2.2) r h2
        go_wp2_with (first
          | (go_at_call 36; refine (HC.out _).mono ?_; rintro e w2 ⟨rfl, hb2⟩; have hs2 := hb2.size; have HG2 : Hid (OwnI (w.heap.size + 1) u7 (NL r (padd D a b)) w2 ∧ Box w.heap.size D gen (.slice (some ⟨gm, 0, none⟩) (D.m + 1) cm) w2 ∧ Below w.heap.size w w2) := ⟨HG.out.1.below hb2 (fun k hk => (HG.out.1.lt k hk).2), HG.out.2.1.below (B := wr.heap.size) hb2 hlt1, bel_up' HG.out.2.2 hb2⟩; clear hb2)
          | (at_builtin; refine append_int rfl _ _ rfl (w.heap.size + 1) _ (NL r (padd D a b)) rfl (HG2.out.1.alloc _) ⟨_, 0, none⟩ 1 (padd D a b r : Nat) rfl (by simp) (by rw [NL_len]; omega) (by simp; omega) ?_; intro v3 w3 hown3 hgrow3))
        have HE : Hid (OwnI (w.heap.size + 1) v3 (NL (r + 1) (padd D a b)) w3 ∧ Box w.heap.size D gen (.slice (some ⟨gm, 0, none⟩) (D.m + 1) cm) w3 ∧ Below w.heap.size w w3 ∧ w.heap.size < w3.heap.size) := by
          have hb3 : Below (w.heap.size + 1) w2 w3 := ((Below.refl _ _).alloc (by omega) _).grown hgrow3 (by simp; omega) (fun k hk => (HG2.out.1.lt k hk).1)
          refine ⟨by rw [NL_succ]; exact hown3, HG2.out.2.1.below (B := w.heap.size + 1) hb3 (by omega), HG2.out.2.2.trans (hb3.mono (by omega)), by have := hb3.size; omega⟩
        clear hown3 hgrow3
        go_roundw
        case rel => exact ⟨r + 1, by omega, by go_num, HE.out⟩
        case measure => simp [intOf]; omega
      · have hb0 : b r = 0 := HF.out.2.2.2.2.2.2.1 r (by omega)
        rw [hb0] at HC
        go_wp2_with (first
          | (go_at_call 36; refine (HC.out _).mono ?_; rintro e w2 ⟨rfl, hb2⟩; have hs2 := hb2.size; have HG2 : Hid (OwnI (w.heap.size + 1) u7 (NL r (padd D a b)) w2 ∧ Box w.heap.size D gen (.slice (some ⟨gm, 0, none⟩) (D.m + 1) cm) w2 ∧ Below w.heap.size w w2) := ⟨HG.out.1.below hb2 (fun k hk => (HG.out.1.lt k hk).2), HG.out.2.1.below (B := wr.heap.size) hb2 hlt1, bel_up' HG.out.2.2 hb2⟩; clear hb2)
          | (at_builtin; refine append_int rfl _ _ rfl (w.heap.size + 1) _ (NL r (padd D a b)) rfl (HG2.out.1.alloc _) ⟨_, 0, none⟩ 1 (padd D a b r : Nat) rfl (by simp) (by rw [NL_len]; omega) (by simp; omega) ?_; intro v3 w3 hown3 hgrow3))
        have HE : Hid (OwnI (w.heap.size + 1) v3 (NL (r + 1) (padd D a b)) w3 ∧ Box w.heap.size D gen (.slice (some ⟨gm, 0, none⟩) (D.m + 1) cm) w3 ∧ Below w.heap.size w w3 ∧ w.heap.size < w3.heap.size) := by
          have hb3 : Below (w.heap.size + 1) w2 w3 := ((Below.refl _ _).alloc (by omega) _).grown hgrow3 (by simp; omega) (fun k hk => (HG2.out.1.lt k hk).1)
          refine ⟨by rw [NL_succ]; exact hown3, HG2.out.2.1.below (B := w.heap.size + 1) hb3 (by omega), HG2.out.2.2.trans (hb3.mono (by omega)), by have := hb3.size; omega⟩
        clear hown3 hgrow3
        go_roundw
        case rel => exact ⟨r + 1, by omega, by go_num, HE.out⟩
        case measure => simp [intOf]; omega
    · have ha0 : a r = 0 := HF.out.2.2.2.2.2.1 r (by omega)
      by_cases h2 : r < m
      · obtain ⟨bb, offb, rfl, hcb⟩ := (HF.out.2.2.1.below HG.out.2.2 HF.out.2.2.2.2.2.2.2.2) r h2
        rw [ha0] at HC
        go_wp2_with (first
          | (go_at_call 36; refine (HC.out _).mono ?_; rintro e w2 ⟨rfl, hb2⟩; have hs2 := hb2.size; have HG2 : Hid (OwnI (w.heap.size + 1) u7 (NL r (padd D a b)) w2 ∧ Box w.heap.size D gen (.slice (some ⟨gm, 0, none⟩) (D.m + 1) cm) w2 ∧ Below w.heap.size w w2) := ⟨HG.out.1.below hb2 (fun k hk => (HG.out.1.lt k hk).2), HG.out.2.1.below (B := wr.heap.size) hb2 hlt1, bel_up' HG.out.2.2 hb2⟩; clear hb2)
          | (at_builtin; refine append_int rfl _ _ rfl (w.heap.size + 1) _ (NL r (padd D a b)) rfl (HG2.out.1.alloc _) ⟨_, 0, none⟩ 1 (padd D a b r : Nat) rfl (by simp) (by rw [NL_len]; omega) (by simp; omega) ?_; intro v3 w3 hown3 hgrow3))
        have HE : Hid (OwnI (w.heap.size + 1) v3 (NL (r + 1) (padd D a b)) w3 ∧ Box w.heap.size D gen (.slice (some ⟨gm, 0, none⟩) (D.m + 1) cm) w3 ∧ Below w.heap.size w w3 ∧ w.heap.size < w3.heap.size) := by
          have hb3 : Below (w.heap.size + 1) w2 w3 := ((Below.refl _ _).alloc (by omega) _).grown hgrow3 (by simp; omega) (fun k hk => (HG2.out.1.lt k hk).1)
          refine ⟨by rw [NL_succ]; exact hown3, HG2.out.2.1.below (B := w.heap.size + 1) hb3 (by omega), HG2.out.2.2.trans (hb3.mono (by omega)), by have := hb3.size; omega⟩
        clear hown3 hgrow3
        go_roundw
        case rel => exact ⟨r + 1, by omega, by go_num, HE.out⟩
        case measure => simp [intOf]; omega
      · have HO : Hid (OwnP (w.heap.size + 1) u7 N (padd D a b) wr) := by
          have h := HG.out.1.ownP
          rw [show r = N from by have := HN.out; omega] at h; exact h
        obtain ⟨lo, lc, hlv, h3, h4, _, h6, h7, h8⟩ := HO.out.open
        subst hlv
        have HT : Hid (Calls Try.prog 61 #[.slice lo N lc] wr fun e w' => ∃ v, e = .returned v ∧ OwnP wr.heap.size v (dgn (padd D a b) N) (padd D a b) w' ∧ Below wr.heap.size wr w') := rtrim_any h8 h3 h4 h7 h6 (by omega)
        clear h3 h4 h6 h7 h8
        go_wp2_with fail
        refine HT.out.mono ?_
        rintro e w2 ⟨v, rfl, hown, hb2⟩
        have HR : Hid (OwnP w.heap.size v (dgn (padd D a b) N) (padd D a b) w2 ∧ Below w.heap.size w w2) := ⟨hown.mono (by omega), bel_up' HG.out.2.2 hb2⟩
        clear hown hb2
        go_wp2
        go_ret
        exact ⟨v, rfl, HR.out.1, HR.out.2⟩
end Go.Proofs.Ytpccbiinfdppnad

/- The same where the calls lay blocks: the worlds in which nothing that was there has turned. No Go text here. -/
namespace Go.Proofs.Ytpccbiinfdppnad
open Go Go.Sort Go.RowKit

theorem quiet_tail_of {P : Program} {C : World → Prop} {id : Nat} {Q : Exit → Act → World → Prop} {a : Act} {w : World} {l : List Oper} (n : Nat) (hm : P.follows .mixedOrders = true) (hB : Region.lexTailB .any l.toArray n = true) (hC : C { w with drawn := w.drawn + 1 })
    (h : wpQuiet P l.toArray C (fun a' => ∀ w', C w' → wpList P l.toArray Q (l.drop n) a' w') (l.take n) a) : (Code.region id l.toArray true).wp P Q a w := by
  simp only [Region.lexTailB, Bool.and_eq_true, decide_eq_true_eq] at hB
  obtain ⟨⟨⟨⟨hsel, hn⟩, hs⟩, hc⟩, hlex⟩ := hB
  have hn' : n < l.length := by simpa using hn
  have htl : (l.take n).length = n := by simp; omega
  have hdl : (l.drop n).length = l.toArray.size - n := by simp
  have inv0 : HeadInv .any l.toArray n (Array.replicate l.toArray.size false) :=
    ⟨by simp, fun j oj _ hl => (by rw [getD_replicate_false] at hl; cases hl), fun t _ ht => getD_in (by simpa using ht) (getD_replicate_false _ _)⟩
  have H := head_lex (g := l.toArray.size - n) hsel hs hc hn (l.take n) 0 _ a (fun j hj => by
    have hj' : j < n := by rw [htl] at hj; exact hj
    simp [hj']) (by simpa using htl) inv0 (by rw [htl]; exact hlex) h
  refine wp_region_any hm ?_
  have R := head_any (Q := Q) (g := l.toArray.size - n) (fun s a' w' hw' hL => by
    have := wpAny_of_seq (md := .any) (Q' := Q) (l.drop n) n s a' w' (fun j => by simp [List.getElem?_drop]) (by rw [hdl]; exact hL.1) (hL.2 w' hw')
    rwa [hdl] at this) _ _ _ _ hC H
  rw [htl, show n + (l.toArray.size - n) = l.toArray.size by omega] at R
  exact R
theorem below_tail {P : Program} {id : Nat} {Q : Exit → Act → World → Prop} {a : Act} {w : World} {l : List Oper} (n : Nat) (hm : P.follows .mixedOrders = true) (hB : Region.lexTailB .any l.toArray n = true)
    (h : wpQuiet P l.toArray (fun w' => ∃ p : Regrown, w' = grow (redrawn w p.d) p.os) (fun a' => ∀ w', (∃ p : Regrown, w' = grow (redrawn w p.d) p.os) → wpList P l.toArray Q (l.drop n) a' w') (l.take n) a) : (Code.region id l.toArray true).wp P Q a w :=
  quiet_tail_of (C := fun w' => ∃ p : Regrown, w' = grow (redrawn w p.d) p.os) n hm hB ⟨⟨w.drawn + 1, #[]⟩, by rw [grow_empty]; rfl⟩ h
theorem free_regrown {w : World} {a : Addr} (ha : a.block < w.heap.size) (h : w.frozen? a = false) (d : Nat) (os : Array Obj) : (grow (redrawn w d) os).frozen? a = false := by
  rw [World.frozen?_of_block (w := w) ((below_regrown w d os).block _ ha)]; exact h
end Go.Proofs.Ytpccbiinfdppnad
