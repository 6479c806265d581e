/- Texts of ours, one behind the other: U15 U16. -/
import Derived.Test.YtmnkablobhdbjaaZU14
/- The program's polynomials: with 1 at the end (monic); the calls that are listed: Gcd. -/
namespace Go.Proofs.Ytmnkablobhdbjaa
open Go.RowKit

/-- A polynomial's slice without noughts at the end: where it lies, its coefficients. -/
structure PA (D : FD) (ao : Option Addr) (n cap : Nat) (c : Nat → Nat) (w : World) : Prop where
  sl : Sl ao n c w
  lt : LtB ao w.heap.size
  nil : ao = none → cap = 0
  el : El D c
  trd : Trd n c
theorem PA.below {D : FD} {ao : Option Addr} {n cap : Nat} {c : Nat → Nat} {w w' : World} (h : PA D ao n cap c w) (hb : Below w.heap.size w w') : PA D ao n cap c w' :=
  ⟨h.sl.below hb h.lt, h.lt.mono hb.size, h.nil, h.el, h.trd⟩
theorem PA.drewN {D : FD} {ao : Option Addr} {n cap : Nat} {c : Nat → Nat} {w : World} (h : PA D ao n cap c w) (k : Nat) : PA D ao n cap c (w.drewN k) := ⟨h.sl, h.lt, h.nil, h.el, h.trd⟩
theorem OwnP.pa {D : FD} {base n : Nat} {v : Value} {c : Nat → Nat} {w : World} (h : OwnP base v n c w) (he : El D c) (ht : Trd n c) : ∃ ao cap, v = .slice ao n cap ∧ PA D ao n cap c w := by
  obtain ⟨ao, cap, hv, _, _, _, hl, hz, hs⟩ := h.open
  exact ⟨ao, cap, hv, hs, hl, hz, he, ht⟩

set_option maxHeartbeats 4000000 in
set_option maxRecDepth 100000 in
theorem monic_any {F T : Nat} {D : FD} (hD : D ∈ fieldsL) {g : Nat → Value} {w : World} (h : FAt F T D g w) {ao : Option Addr} {n cap : Nat} {c : Nat → Nat} (hn : n ≤ 999) (ha : PA D ao n cap c w) :
    Calls Try.prog 85 #[.pointer (some ⟨F, 0, none⟩), .slice ao n cap] w fun e w' => ∃ v, e = .returned v ∧ OwnP w.heap.size v n (D.mon c n) w' ∧ Below w.heap.size w w' := by
  have HF : Hid (FAt F T D g w ∧ D ∈ fieldsL ∧ PA D ao n cap c w) := ⟨h, hD, ha⟩
  clear h hD ha
  by_cases h0 : n = 0
  · have hz : ((n : Int) == 0) = true := by rw [h0]; rfl
    have HZ : Hid (n = 0) := h0
    clear h0
    go_enter Try.func85, Try.ntmps85
    go_wp2
    go_ret
    exact ⟨_, rfl, ⟨none, 0, by rw [HZ.out]; rfl, by have := HZ.out; omega, by omega, fun x hx => (by cases hx), fun x hx => (by cases hx), fun _ => rfl, fun h1 => absurd h1 (by have := HZ.out; omega)⟩, Below.refl _ _⟩
  · obtain ⟨l, rfl⟩ : ∃ l, n = l + 1 := ⟨n - 1, by omega⟩
    clear h0
    obtain ⟨b, off, rfl, hc⟩ := HF.out.2.2.sl l (by omega)
    obtain ⟨x, hx⟩ : ∃ x, x = c l := ⟨_, rfl⟩
    have HI : Hid (Calls Try.prog 27 #[.pointer (some ⟨F, 0, none⟩), .int .i64 (x : Nat)] w fun e w' => e = .returned (.int .i64 (D.iv x : Nat)) ∧ ∃ k, w' = w.drewN k) := by
      show Calls _ _ _ _ _
      rw [hx]; exact inv_nat' HF.out.2.1 HF.out.1 (HF.out.2.2.el l) (HF.out.2.2.trd.2 (by omega))
    rw [← hx] at hc
    have HX : Hid (x = c l) := hx
    clear hx
    go_enter Try.func85, Try.ntmps85
    go_wp2_with (go_at_call 27; refine HI.out.mono ?_; rintro e w' ⟨rfl, d, rfl⟩)
    have HP : Calls Try.prog 83 #[.pointer (some ⟨F, 0, none⟩), .slice (some ⟨b, off, none⟩) (l + 1) cap, .slice (some ⟨w.heap.size, 0, none⟩) 1 1] ((w.drewN d).alloc (.cells #[.int .i64 (D.iv x : Nat)] 3)) fun e w' =>
        ∃ v, e = .returned v ∧ OwnP w.heap.size v (l + 1) (D.mon c (l + 1)) w' ∧ Below w.heap.size w w' := by
      have hbl : Below w.heap.size w ((w.drewN d).alloc (.cells #[.int .i64 (D.iv x : Nat)] 3)) := (below_drewN2 (Below.refl _ _) d).alloc (Nat.le_refl _) _
      have hF := fld HF.out.2.1
      have hp1 := HF.out.2.2.below hbl
      have hone : Sl (some ⟨w.heap.size, 0, none⟩) 1 (fun k => if k = 0 then D.iv x else 0) ((w.drewN d).alloc (.cells #[.int .i64 (D.iv x : Nat)] 3)) := fun j hj => ⟨w.heap.size, 0, rfl, by
        have h : ((w.drewN d).alloc (.cells #[.int .i64 (D.iv x : Nat)] 3)).heap[w.heap.size]? = some (.cells #[.int .i64 (D.iv x : Nat)] 3 (0, 0)) := two_new (w := w.drewN d) _
        rw [cell_of_row _ _ _ _ _ (0, 0) h, show j = 0 from by omega]; rfl⟩
      have h := product_any HF.out.2.1 (HF.out.1.below hbl HF.out.1.ltF HF.out.1.ltT) (ca := cap) (cb := 1) (show l + 1 ≤ 1000 by omega) (show 1 ≤ 1000 by omega) HF.out.2.2.el (fun k => by show (if k = 0 then D.iv x else 0) < D.q; split; exact iv_lt HF.out.2.1 _; exact zero_lt' hF)
        (fun k hk => by show (if k = 0 then D.iv x else 0) = 0; rw [if_neg (by omega)]) hp1.sl hone hp1.lt (fun y hy => by cases hy; simp)
      have hm : pmul D (l + 1) c (fun k => if k = 0 then D.iv x else 0) = D.mon c (l + 1) := by
        rw [pmul_const hF HF.out.2.2.el HF.out.2.2.trd.1 (iv_lt HF.out.2.1 _), HX.out]; rfl
      rw [hm, (mon_trd HF.out.2.1 HF.out.2.2.el HF.out.2.2.trd).dgn (show l + 1 ≤ l + 1 + 1 by omega)] at h
      refine h.mono ?_
      rintro e w' ⟨rfl, hrow, hb'⟩
      exact ⟨_, rfl, OwnP.of_row hrow (by omega) (by omega) (by omega) (by simp), bel_up hbl hb'⟩
    refine HP.mono ?_
    rintro e w2 ⟨v, rfl, hown, hb2⟩
    have HR : Hid (OwnP w.heap.size v (l + 1) (D.mon c (l + 1)) w2 ∧ Below w.heap.size w w2) := ⟨hown, hb2⟩
    clear hown hb2 HP
    go_wp2
    go_ret
    exact ⟨v, rfl, HR.out.1, HR.out.2⟩

set_option maxHeartbeats 2000000 in
set_option maxRecDepth 100000 in
theorem gcd_none (q : Int) (h : ∀ D ∈ fieldsL, (D.q : Int) ≠ q) (ao bo : Option Addr) (n m ca cb : Nat) (w : World) :
    Calls Try.prog 55 #[.int .i64 q, .slice ao n ca, .slice bo m cb] w fun e w' => e = .returned (.tuple #[.slice none 0 0, .int .i64 1]) ∧ Below w.heap.size w w' := by
  have HB : Hid (∀ D ∈ fieldsL, (D.q : Int) ≠ q) := h
  clear h
  go_enter Try.func55, Try.ntmps55
  go_wp2_with fail
  refine (over_none q HB.out _ 2 2 _ _ (by omega) (cell_of_row _ _ _ _ _ (0, 0) (two_new _))).mono ?_
  rintro e w' ⟨rfl, rfl⟩
  go_wp2
  go_ret2
  exact ⟨rfl, (Below.refl _ _).alloc (Nat.le_refl _) _⟩

/-- A slice's length. -/
def slLen : Value → Nat
  | .slice _ n _ => n
  | _ => 0

/-- The common divisor of two lists that may be. -/
def FD.gcdL (D : FD) (n : Nat) (z : Nat → Int) (m : Nat) (y : Nat → Int) : (Nat → Nat) × Nat := D.gcd m (zc n z) (dgn (zc n z) n) (zc m y) (dgn (zc m y) m)

set_option maxHeartbeats 4000000 in
set_option maxRecDepth 100000 in
theorem gcd_any {D : FD} (hD : D ∈ fieldsL) {ao bo : Option Addr} {n m ca cb : Nat} {z y : Nat → Int} {w : World} (ha : Arg ao n ca z w) (hb : Arg bo m cb y w) :
    Calls Try.prog 55 #[.int .i64 D.q, .slice ao n ca, .slice bo m cb] w fun e w' => Below w.heap.size w w' ∧
      ((D.chk2 n z m y = 0 ∧ ∃ v, e = .returned (.tuple #[v, .int .i64 0]) ∧ OwnP w.heap.size v (D.gcdL n z m y).2 (D.mon (D.gcdL n z m y).1 (D.gcdL n z m y).2) w') ∨ (D.chk2 n z m y ≠ 0 ∧ e = .returned (.tuple #[.slice none 0 0, .int .i64 (D.chk2 n z m y)]))) := by
  have HA : Hid (Arg ao n ca z w ∧ Arg bo m cb y w ∧ D ∈ fieldsL) := ⟨ha, hb, hD⟩
  clear ha hb hD
  obtain ⟨G, hG⟩ : ∃ G, G = D.gcdL n z m y := ⟨_, rfl⟩
  rw [← hG]
  have HGG : Hid (G = D.gcdL n z m y) := hG
  clear hG
  go_enter Try.func55, Try.ntmps55
  go_wp2_with fail
  refine (over2_any HA.out.2.2 HA.out.1 HA.out.2.1).mono ?_
  rintro e w1 ⟨hb1, hr⟩
  rcases hr with ⟨h0, F, T, f, rfl, hat, hF, hT⟩ | ⟨h0, rfl⟩
  · have HW : Hid (D.chk2 n z m y = 0 ∧ FAt F T D f w1 ∧ Below w.heap.size w w1 ∧ Arg ao n ca z w1 ∧ Arg bo m cb y w1) := ⟨h0, hat, hb1, HA.out.1.below hb1, HA.out.2.1.below hb1⟩
    clear h0 hat hF hT hb1
    have c0 := chk2_zero HW.out.1
    have hn128 := (chk_zero c0.1).1
    have hm128 := (chk_zero c0.2).1
    have HN : Hid (D.chk n z = 0 ∧ D.chk m y = 0) := c0
    clear c0
    go_wp2_with fail
    refine (trims_ok HN.out.1 HW.out.2.2.2.1).mono ?_
    rintro e w' ⟨rfl, k1, rfl⟩
    go_wp2_with fail
    refine (trims_ok HN.out.2 (w := w1.drewN k1) ⟨HW.out.2.2.2.2.sl, HW.out.2.2.2.2.lt, HW.out.2.2.2.2.few, HW.out.2.2.2.2.nil, HW.out.2.2.2.2.le, HW.out.2.2.2.2.cap⟩).mono ?_
    rintro e w' ⟨rfl, k2, rfl⟩
    go_wp2
    go_loopw [1, 2] (fun va vb wr => ∃ (k n1 m1 c1 c2 : Nat) (a1 b1 : Option Addr) (p r : Nat → Nat), va = .slice a1 n1 c1 ∧ vb = .slice b1 m1 c2 ∧ n1 ≤ 128 ∧ m1 ≤ 128 ∧ Hid (m1 ≤ k ∧ D.gcd k p n1 r m1 = G) ∧ PA D a1 n1 c1 p wr ∧ PA D b1 m1 c2 r wr ∧ Below w1.heap.size w1 wr) (fun _ vb _ => slLen vb)
    case atStart =>
      have hF := fld HA.out.2.2
      have d1 := dgn_le (zc n z) n
      have d2 := dgn_le (zc m y) m
      refine ⟨m, dgn (zc n z) n, dgn (zc m y) m, ca, cb, ao, bo, zc n z, zc m y, rfl, rfl, by omega, by omega, ⟨d2, HGG.out.symm⟩, ?_, ?_, below_drewN2 (Below.refl _ _) _⟩
      · exact ⟨(zc_sl HN.out.1 HW.out.2.2.2.1.sl).less d1, HW.out.2.2.2.1.lt, HW.out.2.2.2.1.nil, zc_el hF HN.out.1, trd_dgn (zc_bd _ _)⟩
      · exact ⟨(zc_sl HN.out.2 HW.out.2.2.2.2.sl).less d2, HW.out.2.2.2.2.lt, HW.out.2.2.2.2.nil, zc_el hF HN.out.2, trd_dgn (zc_bd _ _)⟩
    case round =>
      obtain ⟨k, n1, m1, c1, c2, a1, b1, p, r, rfl, rfl, hn1, hm1, HK, hpa, hpb, hbel⟩ := hrel
      have HG : Hid (PA D a1 n1 c1 p wr ∧ PA D b1 m1 c2 r wr ∧ Below w1.heap.size w1 wr) := ⟨hpa, hpb, hbel⟩
      clear hpa hpb hbel
      by_cases hm0 : m1 = 0
      · have hz : ¬ (0 : Int) < (m1 : Int) := by omega
        have HE : Hid (G = (p, n1)) := by
          have h := HK.out.2
          rw [hm0, gcd_nil] at h; exact h.symm
        have HM : Hid (Calls Try.prog 85 #[.pointer (some ⟨F, 0, none⟩), .slice a1 n1 c1] wr fun e w' => ∃ v, e = .returned v ∧ OwnP wr.heap.size v n1 (D.mon p n1) w' ∧ Below wr.heap.size wr w') :=
          monic_any HA.out.2.2 (HW.out.2.1.below HG.out.2.2 HW.out.2.1.ltF HW.out.2.1.ltT) (by omega) HG.out.1
        clear hm0
        go_wp2_with fail
        refine HM.out.mono ?_
        rintro e w2 ⟨v, rfl, hown, hb2⟩
        have hs1 := HW.out.2.2.1.size
        have hs2 := HG.out.2.2.size
        have HR : Hid (OwnP w.heap.size v n1 (D.mon p n1) w2 ∧ Below w.heap.size w w2) := ⟨hown.mono (by omega), bel_up (bel_up HW.out.2.2.1 HG.out.2.2) hb2⟩
        clear hown hb2
        go_wp2
        go_ret2
        exact ⟨HR.out.2, Or.inl ⟨HW.out.1, v, rfl, by rw [HE.out]; exact HR.out.1⟩⟩
      · obtain ⟨l, rfl⟩ : ∃ l, m1 = l + 1 := ⟨m1 - 1, by omega⟩
        obtain ⟨k', rfl⟩ : ∃ k', k = k' + 1 := ⟨k - 1, by have := HK.out.1; omega⟩
        have HV : Hid (Calls Try.prog 84 #[.pointer (some ⟨F, 0, none⟩), .slice a1 n1 c1, .slice b1 (l + 1) c2] wr fun e w' =>
            ∃ vq vr, e = .returned (.tuple #[vq, vr]) ∧ OwnP wr.heap.size vr (dgn (D.rem p n1 r (l + 1)) n1) (D.rem p n1 r (l + 1)) w' ∧ Below wr.heap.size wr w') := by
          refine (divide_any HA.out.2.2 (HW.out.2.1.below HG.out.2.2 HW.out.2.1.ltF HW.out.2.1.ltT) (by omega) (by omega) HG.out.1.el HG.out.2.1.el HG.out.1.trd.1 HG.out.2.1.trd.1 (HG.out.2.1.trd.2 (by omega)) HG.out.1.sl HG.out.2.1.sl HG.out.1.lt HG.out.2.1.lt HG.out.1.nil).mono ?_
          rintro e w' ⟨vq, vr, rfl, _, hor, hb'⟩
          exact ⟨vq, vr, rfl, hor, hb'⟩
        have HL : Hid (dgn (D.rem p n1 r (l + 1)) n1 ≤ l ∧ Trd (dgn (D.rem p n1 r (l + 1)) n1) (D.rem p n1 r (l + 1)) ∧ El D (D.rem p n1 r (l + 1)) ∧ D.gcd k' r (l + 1) (D.rem p n1 r (l + 1)) (dgn (D.rem p n1 r (l + 1)) n1) = G) :=
          ⟨rem_len HA.out.2.2 HG.out.1.el HG.out.2.1.el HG.out.1.trd.1 HG.out.2.1.trd (by omega), rem_trd HA.out.2.2 HG.out.1.el HG.out.2.1.el HG.out.1.trd.1 HG.out.2.1.trd (by omega), rem_el HA.out.2.2 HG.out.1.el, by rw [← gcd_step D p n1 r (l + 1) k' (by omega)]; exact HK.out.2⟩
        have hk' : l + 1 ≤ k' + 1 := HK.out.1
        clear hm0 HK
        go_wp2_with fail
        refine HV.out.mono ?_
        rintro e w2 ⟨vq, vr, rfl, hor, hb2⟩
        obtain ⟨r1, rc1, rfl, hpa⟩ := hor.pa HL.out.2.2.1 HL.out.2.1
        have HR : Hid (PA D r1 (dgn (D.rem p n1 r (l + 1)) n1) rc1 (D.rem p n1 r (l + 1)) w2 ∧ PA D b1 (l + 1) c2 r w2 ∧ Below w1.heap.size w1 w2) := ⟨hpa, HG.out.2.1.below hb2, bel_up HG.out.2.2 hb2⟩
        clear hor hpa hb2 HV
        go_wp2
        go_roundw
        case rel => exact ⟨k', l + 1, _, c2, rc1, b1, r1, r, D.rem p n1 r (l + 1), rfl, rfl, by omega, by have := HL.out.1; omega, ⟨by have := HL.out.1; omega, HL.out.2.2.2⟩, HR.out.2.1, HR.out.1, HR.out.2.2⟩
        case measure =>
          show dgn (D.rem p n1 r (l + 1)) n1 < l + 1
          have := HL.out.1
          omega
  · have HW : Hid (D.chk2 n z m y ≠ 0 ∧ Below w.heap.size w w1) := ⟨h0, hb1⟩
    obtain ⟨e, he⟩ : ∃ e, e = D.chk2 n z m y := ⟨_, rfl⟩
    rw [← he] at h0 ⊢
    have hz : (e != 0) = true := by rw [bne_iff_ne]; exact h0
    have HE : Hid (e = D.chk2 n z m y) := he
    clear h0 hb1 he
    go_wp2
    go_ret2
    exact ⟨HW.out.2, Or.inr ⟨HW.out.1, by rw [← HE.out]; rfl⟩⟩
end Go.Proofs.Ytmnkablobhdbjaa

/- How many there are to try (tooMany, Tries). -/
namespace Go.Proofs.Ytmnkablobhdbjaa
open Go.RowKit

theorem pow_big {q i p : Nat} (hq : 1 ≤ q) (h : 4096 < q ^ i) (hp : i ≤ p) : 4096 < q ^ p := Nat.lt_of_lt_of_le h (Nat.pow_le_pow_right hq hp)

set_option maxHeartbeats 1000000 in
theorem tooMany_any (q p : Nat) (w : World) (hq : 1 ≤ q) (hq2 : q ≤ 64) (hp : p ≤ 1000) :
    Calls Try.prog 106 #[.int .i64 q, .int .i64 p] w fun e w' => e = .returned (.bool (decide (4096 < q ^ p))) ∧ w' = w := by
  go_enter Try.func106, Try.ntmps106
  go_wp2
  go_loop [5, 7] (fun x i => ∃ j y : Nat, j ≤ p ∧ y ≤ 4096 ∧ i = .int .i64 j ∧ x = .int .i64 y ∧ Hid (y = q ^ j)) (fun _ i => p - (intOf i).toNat)
  case atStart => exact ⟨0, 1, by omega, by omega, rfl, rfl, rfl⟩
  case round =>
    obtain ⟨j, y, hj, hy, rfl, rfl, HY⟩ := hrel
    by_cases hlt : j < p
    · have h1 : y * q ≤ 4096 * 64 := Nat.mul_le_mul hy hq2
      have h2 : (y : Int) * (q : Int) ≤ 262144 := by rw [← Int.natCast_mul]; omega
      have h3 : 0 ≤ (y : Int) * (q : Int) := by rw [← Int.natCast_mul]; omega
      have HP : Hid (y * q = q ^ (j + 1)) := by show _ = _; rw [HY.out, Nat.pow_succ]
      by_cases hbig : 4096 < y * q
      · have hb : (4096 : Int) < (y : Int) * (q : Int) := by rw [← Int.natCast_mul]; omega
        have HV : Hid (decide (4096 < q ^ p) = true) := decide_eq_true (pow_big hq (by rw [← HP.out]; exact hbig) hlt)
        go_wp2
        go_ret
        exact ⟨ret_bool HV.out.symm, rfl⟩
      · have hb : ¬ (4096 : Int) < (y : Int) * (q : Int) := by rw [← Int.natCast_mul]; omega
        go_wp2
        go_round
        case rel => exact ⟨j + 1, y * q, by omega, by omega, by go_num, by go_num, HP.out⟩
        case measure => simp [intOf]; omega
    · have HV : Hid (decide (4096 < q ^ p) = false) := decide_eq_false (by rw [show p = j from by omega, ← HY.out]; omega)
      go_wp2
      go_ret
      exact ⟨ret_bool HV.out.symm, rfl⟩

set_option maxHeartbeats 1000000 in
theorem tries_any (q d : Nat) (w : World) (hq : 1 ≤ q) (hq2 : q ≤ 64) (hd : d ≤ 1000) :
    Calls Try.prog 89 #[.int .i64 q, .int .i64 d] w fun e w' => e = .returned (.bool (decide (q ^ (d / 2) ≤ 4096))) ∧ w' = w := by
  obtain ⟨p, hp⟩ : ∃ p, p = d / 2 := ⟨_, rfl⟩
  rw [← hp]
  have HPD : Hid (p = d / 2) := hp
  have hp2 : p ≤ 500 := by omega
  clear hp
  go_enter Try.func89, Try.ntmps89
  go_wp2
  go_loop [5, 6] (fun x i => ∃ j y : Nat, j ≤ p ∧ y ≤ 4096 ∧ i = .int .i64 j ∧ x = .int .i64 y ∧ Hid (y = q ^ j)) (fun _ i => p - (intOf i).toNat)
  case atStart => exact ⟨0, 1, by omega, by omega, rfl, rfl, rfl⟩
  case round =>
    obtain ⟨j, y, hj, hy, rfl, rfl, HY⟩ := hrel
    by_cases hlt : j < p
    · have h1 : y * q ≤ 4096 * 64 := Nat.mul_le_mul hy hq2
      have h2 : (y : Int) * (q : Int) ≤ 262144 := by rw [← Int.natCast_mul]; omega
      have h3 : 0 ≤ (y : Int) * (q : Int) := by rw [← Int.natCast_mul]; omega
      have hlt2 : (j : Int) < (d : Int) / 2 := by have := HPD.out; omega
      have HP : Hid (y * q = q ^ (j + 1)) := by show _ = _; rw [HY.out, Nat.pow_succ]
      by_cases hbig : 4096 < y * q
      · have hb : (4096 : Int) < (y : Int) * (q : Int) := by rw [← Int.natCast_mul]; omega
        have HV : Hid (decide (q ^ p ≤ 4096) = false) := decide_eq_false (by have := pow_big hq (by rw [← HP.out]; exact hbig) hlt; omega)
        go_wp2
        go_ret
        exact ⟨ret_bool HV.out.symm, rfl⟩
      · have hb : ¬ (4096 : Int) < (y : Int) * (q : Int) := by rw [← Int.natCast_mul]; omega
        go_wp2
        go_round
        case rel => exact ⟨j + 1, y * q, by omega, by omega, by go_num, by go_num, HP.out⟩
        case measure => simp [intOf]; omega
    · have HV : Hid (decide (q ^ p ≤ 4096) = true) := decide_eq_true (by rw [show p = j from by omega, ← HY.out]; omega)
      have hlt2 : ¬ (j : Int) < (d : Int) / 2 := by have := HPD.out; omega
      go_wp2
      go_ret
      exact ⟨ret_bool HV.out.symm, rfl⟩
end Go.Proofs.Ytmnkablobhdbjaa
