/- Texts of ours, one behind the other: U11 U12 U13 U14 U15 U16 U17 V1 V2 V3 W5. -/
import Derived.Test.YtpccbiinfdppnadZU3
import Derived.Test.YtpccbiinfdppnadZR10
import Derived.Test.YtpccbiinfdppnadZN2
import Derived.Lib.QuietBelow
/- The program's polynomials: the calls that are listed: Mul, Div, At. -/
namespace Go.Proofs.Ytpccbiinfdppnad
open Go.RowKit

set_option maxHeartbeats 2000000 in
set_option maxRecDepth 100000 in
theorem pmul_none (q : Int) (h : ∀ D ∈ fieldsL, (D.q : Int) ≠ q) (ao bo : Option Addr) (n m ca cb : Nat) (w : World) :
    Calls Try.prog 59 #[.int .i64 q, .slice ao n ca, .slice bo m cb] w fun e w' => e = .returned (.tuple #[.slice none 0 0, .int .i64 1]) ∧ Below w.heap.size w w' := by
  have HB : Hid (∀ D ∈ fieldsL, (D.q : Int) ≠ q) := h
  clear h
  go_enter Try.func59, Try.ntmps59
  go_wp2_with fail
  refine (over_none q HB.out _ 2 2 _ _ (by omega) (cell_of_row _ _ _ _ _ (0, 0) (two_new _))).mono ?_
  rintro e w' ⟨rfl, rfl⟩
  go_wp2
  go_ret2
  exact ⟨rfl, (Below.refl _ _).alloc (Nat.le_refl _) _⟩

/-- Both lists, once they may be: over the field D, without noughts at the end. -/
theorem trims_ok {D : FD} {ao : Option Addr} {n cap : Nat} {z : Nat → Int} {w : World} (h : D.chk n z = 0) (ha : Arg ao n cap z w) :
    Calls Try.prog 88 #[.slice ao n cap] w fun e w' => e = .returned (.slice ao (dgn (zc n z) n) cap) ∧ ∃ k, w' = w.drewN k :=
  trim_any (zc_sl h ha.sl) ha.le ha.cap

set_option maxHeartbeats 4000000 in
set_option maxRecDepth 100000 in
theorem pmul_any {D : FD} (hD : D ∈ fieldsL) {ao bo : Option Addr} {n m ca cb : Nat} {z y : Nat → Int} {w : World} (ha : Arg ao n ca z w) (hb : Arg bo m cb y w) :
    Calls Try.prog 59 #[.int .i64 D.q, .slice ao n ca, .slice bo m cb] w fun e w' => Below w.heap.size w w' ∧
      ((D.chk2 n z m y = 0 ∧ dgn (zc n z) n + dgn (zc m y) m ≤ 129 ∧ ∃ v, e = .returned (.tuple #[v, .int .i64 0]) ∧ OwnP w.heap.size v (dgn (pmul D n (zc n z) (zc m y)) (dgn (zc n z) n + dgn (zc m y) m)) (pmul D n (zc n z) (zc m y)) w') ∨
       (D.chk2 n z m y = 0 ∧ 129 < dgn (zc n z) n + dgn (zc m y) m ∧ e = .returned (.tuple #[.slice none 0 0, .int .i64 4])) ∨ (D.chk2 n z m y ≠ 0 ∧ e = .returned (.tuple #[.slice none 0 0, .int .i64 (D.chk2 n z m y)]))) := by
  have HA : Hid (Arg ao n ca z w ∧ Arg bo m cb y w ∧ D ∈ fieldsL) := ⟨ha, hb, hD⟩
  clear ha hb hD
  obtain ⟨n', hn'⟩ : ∃ n', n' = dgn (zc n z) n := ⟨_, rfl⟩
  obtain ⟨m', hm'⟩ : ∃ m', m' = dgn (zc m y) m := ⟨_, rfl⟩
  have hn1 : n' ≤ n := by rw [hn']; exact dgn_le _ _
  have hm1 : m' ≤ m := by rw [hm']; exact dgn_le _ _
  rw [← hn', ← hm']
  have HN0 : Hid (n' = dgn (zc n z) n ∧ m' = dgn (zc m y) m) := ⟨hn', hm'⟩
  clear hn' hm'
  go_enter Try.func59, Try.ntmps59
  go_wp2_with fail
  refine (over2_any HA.out.2.2 HA.out.1 HA.out.2.1).mono ?_
  rintro e w1 ⟨hb1, hr⟩
  rcases hr with ⟨h0, F, T, f, rfl, hat, hF, hT⟩ | ⟨h0, rfl⟩
  · have HW : Hid (D.chk2 n z m y = 0 ∧ FAt F T D f w1 ∧ Below w.heap.size w w1 ∧ Arg ao n ca z w1 ∧ Arg bo m cb y w1) := ⟨h0, hat, hb1, HA.out.1.below hb1, HA.out.2.1.below hb1⟩
    clear h0 hat hF hT hb1
    have c0 := chk2_zero HW.out.1
    have hn128 := (chk_zero c0.1).1
    have hm128 := (chk_zero c0.2).1
    have HN : Hid (n' = dgn (zc n z) n ∧ m' = dgn (zc m y) m ∧ D.chk n z = 0 ∧ D.chk m y = 0) := ⟨HN0.out.1, HN0.out.2, c0⟩
    clear c0
    go_wp2_with fail
    refine (trims_ok HN.out.2.2.1 HW.out.2.2.2.1).mono ?_
    rintro e w' ⟨rfl, k1, rfl⟩
    rw [← HN.out.1]
    go_wp2_with fail
    refine (trims_ok HN.out.2.2.2 (w := w1.drewN k1) ⟨HW.out.2.2.2.2.sl, HW.out.2.2.2.2.lt, HW.out.2.2.2.2.few, HW.out.2.2.2.2.nil, HW.out.2.2.2.2.le, HW.out.2.2.2.2.cap⟩).mono ?_
    rintro e w' ⟨rfl, k2, rfl⟩
    rw [← HN.out.2.1]
    by_cases hbig : 129 < n' + m'
    · go_wp2
      go_ret2
      exact ⟨below_drewN2 HW.out.2.2.1 _, Or.inr (Or.inl ⟨HW.out.1, hbig, rfl⟩)⟩
    · have hF := fld HA.out.2.2
      have HP : Hid (∀ d, Calls Try.prog 89 #[.pointer (some ⟨F, 0, none⟩), .slice ao n' ca, .slice bo m' cb] (w1.drewN d) fun e w' =>
          e = .returned (.slice (some ⟨w1.heap.size, 0, none⟩) (dgn (pmul D n (zc n z) (zc m y)) (n' + m')) (n' + m')) ∧ Row w1.heap.size (n' + m') (pmul D n (zc n z) (zc m y)) w' ∧ Below w1.heap.size (w1.drewN d) w') := by
        intro d
        have b1 : Bd n' (zc n z) := by rw [HN.out.1]; exact dgn_bd (zc_bd _ _)
        have b2 : Bd m' (zc m y) := by rw [HN.out.2.1]; exact dgn_bd (zc_bd _ _)
        have h := product_any HA.out.2.2 (HW.out.2.1.drewN d) (ca := ca) (cb := cb) (show n' ≤ 1000 by omega) (show m' ≤ 1000 by omega) (zc_el hF HN.out.2.2.1) (zc_el hF HN.out.2.2.2) b2 ((zc_sl HN.out.2.2.1 HW.out.2.2.2.1.sl).less hn1) ((zc_sl HN.out.2.2.2 HW.out.2.2.2.2.sl).less hm1) HW.out.2.2.2.1.lt HW.out.2.2.2.2.lt
        rw [← pmul_to hF (zc m y) b1 hn1] at h
        exact h
      clear hF
      go_wp2_with fail
      refine (HP.out _).mono ?_
      rintro e w2 ⟨rfl, hrow, hb2⟩
      have hs := HW.out.2.2.1.size
      have HR : Hid (Row w1.heap.size (n' + m') (pmul D n (zc n z) (zc m y)) w2 ∧ Below w.heap.size w w2) := ⟨hrow, bel_up (below_drewN2 HW.out.2.2.1 _) hb2⟩
      clear hrow hb2
      go_wp2
      go_ret2
      exact ⟨HR.out.2, Or.inl ⟨HW.out.1, by omega, _, rfl, OwnP.of_row HR.out.1 (dgn_le _ _) (dgn_le _ _) (by omega) hs⟩⟩
  · have HW : Hid (D.chk2 n z m y ≠ 0 ∧ Below w.heap.size w w1) := ⟨h0, hb1⟩
    obtain ⟨e, he⟩ : ∃ e, e = D.chk2 n z m y := ⟨_, rfl⟩
    rw [← he] at h0 ⊢
    have hz : (e != 0) = true := by rw [bne_iff_ne]; exact h0
    have HE : Hid (e = D.chk2 n z m y) := he
    clear h0 hb1 he
    go_wp2
    go_ret2
    exact ⟨HW.out.2, Or.inr (Or.inr ⟨HW.out.1, by rw [← HE.out]; rfl⟩)⟩
end Go.Proofs.Ytpccbiinfdppnad

/- The program's polynomials: the calls that are listed: Div, At. -/
namespace Go.Proofs.Ytpccbiinfdppnad
open Go.RowKit

/-- The quotient and the rest of two polynomials of n and m coefficients. -/
def FD.quo (D : FD) (a : Nat → Nat) (n : Nat) (b : Nat → Nat) (m : Nat) : Nat → Nat := divQ D b (dgn b m - 1) (D.iv (b (dgn b m - 1))) (n - (dgn b m - 1)) a
def FD.rst (D : FD) (a : Nat → Nat) (n : Nat) (b : Nat → Nat) (m : Nat) : Nat → Nat := divR D b (dgn b m - 1) (D.iv (b (dgn b m - 1))) (n - (dgn b m - 1)) a

end Go.Proofs.Ytpccbiinfdppnad

/- The program's polynomials: the calls that are listed: At, Roots. -/
namespace Go.Proofs.Ytpccbiinfdppnad
open Go.RowKit

theorem arg_one (x : Int) (w : World) : Arg (some ⟨w.heap.size, 0, none⟩) 1 1 (fun _ => x) (w.alloc (.cells #[.int .i64 x] 3)) := by
  refine ⟨fun j hj => ⟨w.heap.size, 0, rfl, ?_⟩, fun a ha => by cases ha; simp, by omega, fun e => (by cases e), Nat.le_refl _, by omega⟩
  rw [cell_of_row _ _ _ _ _ (0, 0) (two_new _), show j = 0 from by omega]; rfl

theorem over_at {D : FD} (hD : D ∈ fieldsL) {ao : Option Addr} {n ca : Nat} {z : Nat → Int} (x : Int) {w : World} (ha : Arg ao n ca z w) :
    Calls Try.prog 87 #[.int .i64 D.q, .slice (some ⟨w.heap.size + 1, 0, none⟩) 2 2] ((w.alloc (.cells #[.int .i64 x] 3)).alloc (.cells #[.slice ao n ca, .slice (some ⟨w.heap.size, 0, none⟩) 1 1] 22)) fun e w' => Below w.heap.size w w' ∧
      ((D.chk2 n z 1 (fun _ => x) = 0 ∧ ∃ F T f, e = .returned (.tuple #[.pointer (some ⟨F, 0, none⟩), .int .i64 0]) ∧ FAt F T D f w') ∨ (D.chk2 n z 1 (fun _ => x) ≠ 0 ∧ e = .returned (.tuple #[.pointer none, .int .i64 (D.chk2 n z 1 (fun _ => x))]))) := by
  have hbl : Below w.heap.size w (w.alloc (.cells #[.int .i64 x] 3)) := (Below.refl _ _).alloc (Nat.le_refl _) _
  have HO := over2_any hD (ha.below hbl) (arg_one x w)
  have hsz : (w.alloc (.cells #[.int .i64 x] 3)).heap.size = w.heap.size + 1 := by simp
  rw [hsz] at HO
  refine HO.mono ?_
  rintro e w1 ⟨hb1, hr⟩
  rw [← hsz] at hb1
  refine ⟨bel_up hbl hb1, ?_⟩
  rcases hr with ⟨h0, F, T, f, rfl, hat, _, _⟩ | h
  · exact Or.inl ⟨h0, F, T, f, rfl, hat⟩
  · exact Or.inr h

end Go.Proofs.Ytpccbiinfdppnad

/- The program's polynomials: the calls that are listed: Roots. -/
namespace Go.Proofs.Ytpccbiinfdppnad
open Go.RowKit

theorem many_one {ao : Option Addr} {n ca : Nat} {z : Nat → Int} {w : World} (ha : Arg ao n ca z w) :
    Many w.heap.size 1 (fun _ => ao) (fun _ => n) (fun _ => ca) (fun _ => z) (w.alloc (.cells #[.slice ao n ca] 22)) := by
  have hbl : Below w.heap.size w (w.alloc (.cells #[.slice ao n ca] 22)) := (Below.refl _ _).alloc (Nat.le_refl _) _
  have a1 := ha.below hbl
  refine ⟨fun j hj => ?_, fun j hj => a1.sl, fun j hj => a1.lt, fun j hj => a1.few, by simp⟩
  rw [cell_of_row _ _ _ _ _ (0, 0) (two_new _), show j = 0 from by omega]; rfl
theorem over1_any {D : FD} (hD : D ∈ fieldsL) {ao : Option Addr} {n ca : Nat} {z : Nat → Int} {w : World} (ha : Arg ao n ca z w) :
    Calls Try.prog 87 #[.int .i64 D.q, .slice (some ⟨w.heap.size, 0, none⟩) 1 1] (w.alloc (.cells #[.slice ao n ca] 22)) fun e w' => Below w.heap.size w w' ∧
      ((D.chk n z = 0 ∧ ∃ F T f, e = .returned (.tuple #[.pointer (some ⟨F, 0, none⟩), .int .i64 0]) ∧ FAt F T D f w') ∨ (D.chk n z ≠ 0 ∧ e = .returned (.tuple #[.pointer none, .int .i64 (D.chk n z)]))) := by
  have h := over_any hD (cap := 1) (many_one ha) (by omega)
  rw [show D.chks (fun _ => n) (fun _ => z) 1 = D.chk n z from by show (if (0 : Int) = 0 then D.chk n z else 0) = _; rw [if_pos rfl]] at h
  refine h.mono ?_
  rintro e w' ⟨hb', hr⟩
  have hbl : Below w.heap.size w (w.alloc (.cells #[.slice ao n ca] 22)) := (Below.refl _ _).alloc (Nat.le_refl _) _
  refine ⟨bel_up hbl hb', ?_⟩
  rcases hr with ⟨h0, F, T, f, rfl, hat, _, _⟩ | h
  · exact Or.inl ⟨h0, F, T, f, rfl, hat⟩
  · exact Or.inr h

/-- The elements below k at which a polynomial is 0, rising. -/
def FD.rootsL (D : FD) (c : Nat → Nat) (n k : Nat) : List Int := ((List.range k).filter fun x => D.val c n x n == 0).map Int.ofNat
theorem rootsL_yes {D : FD} {c : Nat → Nat} {n k : Nat} (h : D.val c n k n = 0) : D.rootsL c n (k + 1) = D.rootsL c n k ++ [(k : Int)] := by
  unfold FD.rootsL; rw [List.range_succ, List.filter_append, List.map_append]; simp [h]
theorem rootsL_no {D : FD} {c : Nat → Nat} {n k : Nat} (h : ¬ D.val c n k n = 0) : D.rootsL c n (k + 1) = D.rootsL c n k := by
  unfold FD.rootsL; rw [List.range_succ, List.filter_append, List.map_append]; simp [h]
theorem rootsL_len (D : FD) (c : Nat → Nat) (n k : Nat) : (D.rootsL c n k).length ≤ k := by
  unfold FD.rootsL
  rw [List.length_map]
  exact Nat.le_trans (List.length_filter_le _ _) (by simp)

end Go.Proofs.Ytpccbiinfdppnad

/- The program's polynomials: with 1 at the end (monic); the calls that are listed: Gcd. -/
namespace Go.Proofs.Ytpccbiinfdppnad
open Go.RowKit

/-- A polynomial's slice without noughts at the end: where it lies, its coefficients. -/
structure PA (D : FD) (ao : Option Addr) (n cap : Nat) (c : Nat → Nat) (w : World) : Prop where
  sl : Sl ao n c w
  lt : LtB ao w.heap.size
  nil : ao = none → cap = 0
  el : El D c
  trd : Trd n c
theorem PA.below {D : FD} {ao : Option Addr} {n cap : Nat} {c : Nat → Nat} {w w' : World} (h : PA D ao n cap c w) (hb : Below w.heap.size w w') : PA D ao n cap c w' :=
  ⟨h.sl.below hb h.lt, h.lt.mono hb.size, h.nil, h.el, h.trd⟩
theorem PA.drewN {D : FD} {ao : Option Addr} {n cap : Nat} {c : Nat → Nat} {w : World} (h : PA D ao n cap c w) (k : Nat) : PA D ao n cap c (w.drewN k) := ⟨h.sl, h.lt, h.nil, h.el, h.trd⟩
theorem OwnP.pa {D : FD} {base n : Nat} {v : Value} {c : Nat → Nat} {w : World} (h : OwnP base v n c w) (he : El D c) (ht : Trd n c) : ∃ ao cap, v = .slice ao n cap ∧ PA D ao n cap c w := by
  obtain ⟨ao, cap, hv, _, _, _, hl, hz, hs⟩ := h.open
  exact ⟨ao, cap, hv, hs, hl, hz, he, ht⟩

/-- A slice's length. -/
def slLen : Value → Nat
  | .slice _ n _ => n
  | _ => 0

/-- The common divisor of two lists that may be. -/
def FD.gcdL (D : FD) (n : Nat) (z : Nat → Int) (m : Nat) (y : Nat → Int) : (Nat → Nat) × Nat := D.gcd m (zc n z) (dgn (zc n z) n) (zc m y) (dgn (zc m y) m)

end Go.Proofs.Ytpccbiinfdppnad

/- How many there are to try (tooMany, Tries). -/
namespace Go.Proofs.Ytpccbiinfdppnad
open Go.RowKit

theorem pow_big {q i p : Nat} (hq : 1 ≤ q) (h : 4096 < q ^ i) (hp : i ≤ p) : 4096 < q ^ p := Nat.lt_of_lt_of_le h (Nat.pow_le_pow_right hq hp)

end Go.Proofs.Ytpccbiinfdppnad

/- Does an element stand twice in a list (hasTwice)? -/
namespace Go.Proofs.Ytpccbiinfdppnad
open Go.RowKit

/-- Some number stands twice among the first n. -/
def Twice (c : Nat → Nat) (n : Nat) : Prop := ∃ i j, i < j ∧ j < n ∧ c i = c j

end Go.Proofs.Ytpccbiinfdppnad

/- The reference's polynomials: without noughts at the end (Trim); which may be (PolyMay). -/
namespace Go.Proofs.Ytpccbiinfdppnad
open Go.RowKit

set_option maxHeartbeats 2000000 in
set_option maxRecDepth 100000 in
theorem rtrim_any {ao : Option Addr} {n cap : Nat} {c : Nat → Nat} {w : World} (h : Sl ao n c w) (hn : n ≤ cap) (_hcap : cap ≤ 9223372036854775807) (hnil : ao = none → cap = 0) (hl : LtB ao w.heap.size) (hn6 : n ≤ 1000000) :
    Calls Try.prog 61 #[.slice ao n cap] w fun e w' => ∃ v, e = .returned v ∧ OwnP w.heap.size v (dgn c n) c w' ∧ Below w.heap.size w w' := by
  have HS : Hid (Sl ao n c w ∧ (ao = none → cap = 0) ∧ LtB ao w.heap.size) := ⟨h, hnil, hl⟩
  clear h hnil hl
  have hd := dgn_le c n
  go_enter Try.func61, Try.ntmps61
  go_wp2
  go_loopw [3] (fun i wr => ∃ m : Nat, m ≤ n ∧ i = .int .i64 m ∧ Hid (dgn c n = dgn c m) ∧ ∃ d, wr = w.drewN d) (fun i _ => (intOf i).toNat)
  case atStart => exact ⟨n, Nat.le_refl _, rfl, rfl, 0, rfl⟩
  case round =>
    obtain ⟨m, hm, rfl, HD, d, rfl⟩ := hrel
    have HC : Hid (Calls Try.prog 45 #[.slice ao (dgn c n) cap] (w.drewN d) fun e w' => ∃ v, e = .returned v ∧ OwnP w.heap.size v (dgn c n) c w' ∧ Below w.heap.size (w.drewN d) w') :=
      copy_any (w := w.drewN d) (HS.out.1.less hd) (by omega) HS.out.2.1 HS.out.2.2
    cases m with
    | zero =>
      have HE : Hid (dgn c n = 0) := HD.out
      have HC0 : Hid (Calls Try.prog 45 #[.slice ao 0 cap] (w.drewN d) fun e w' => ∃ v, e = .returned v ∧ OwnP w.heap.size v (dgn c n) c w' ∧ Below w.heap.size (w.drewN d) w') := by
        have h := HC.out
        rw [HE.out] at h ⊢; exact h
      cases ao with
      | none =>
        go_wp2_with (go_at_call 45; refine HC0.out.mono ?_; rintro e w' ⟨v, rfl, hown, hb⟩)
        go_ret
        exact ⟨v, rfl, hown, below_drewN2 (Below.refl _ _) d |>.trans hb⟩
      | some x =>
        go_wp2_with (go_at_call 45; refine HC0.out.mono ?_; rintro e w' ⟨v, rfl, hown, hb⟩)
        go_ret
        exact ⟨v, rfl, hown, below_drewN2 (Below.refl _ _) d |>.trans hb⟩
    | succ m =>
      obtain ⟨b, off, rfl, hc⟩ := HS.out.1 m (by omega)
      by_cases h0 : c m = 0
      · have HE : Hid (dgn c n = dgn c m) := by show _ = _; rw [HD.out, dgn, if_pos h0]
        have hz : (((c m : Nat) : Int) == 0) = true := by rw [h0]; rfl
        clear h0
        go_wp2
        go_roundw
        case rel => exact ⟨m, by omega, by go_num, HE.out, _, rfl⟩
        case measure => simp [intOf]
      · have HE : Hid (dgn c n = m + 1) := by show _ = _; rw [HD.out, dgn, if_neg h0]
        have hz : (((c m : Nat) : Int) == 0) = false := by rw [beq_eq_false_iff_ne]; omega
        have HC1 : Hid (Calls Try.prog 45 #[.slice (some ⟨b, off, none⟩) (m + 1) cap] (w.drewN d) fun e w' => ∃ v, e = .returned v ∧ OwnP w.heap.size v (dgn c n) c w' ∧ Below w.heap.size (w.drewN d) w') := by
          have h := HC.out
          rw [HE.out] at h ⊢; exact h
        clear h0
        go_wp2_with (go_at_call 45; refine HC1.out.mono ?_; rintro e w' ⟨v, rfl, hown, hb⟩)
        go_ret
        exact ⟨v, rfl, hown, below_drewN2 (Below.refl _ _) d |>.trans hb⟩
end Go.Proofs.Ytpccbiinfdppnad

/- The reference's polynomials: which may be (PolyMay). -/
namespace Go.Proofs.Ytpccbiinfdppnad
open Go.RowKit

set_option maxHeartbeats 1000000 in
set_option maxRecDepth 100000 in
theorem polyMay_none (q : Int) (h : ∀ D ∈ fieldsL, (D.q : Int) ≠ q) (ao : Option Addr) (n cap : Nat) (w : World) :
    Calls Try.prog 8 #[.int .i64 q, .slice ao n cap] w fun e w' => e = .returned (.int .i64 1) ∧ Below w.heap.size w w' := by
  have HB : Hid (∀ D ∈ fieldsL, (D.q : Int) ≠ q) := h
  clear h
  go_enter Try.func8, Try.ntmps8
  go_wp2_with fail
  refine (rfield_none q w HB.out).mono ?_
  rintro e w1 ⟨rfl, hb1⟩
  have HW : Hid (Below w.heap.size w w1) := hb1
  clear hb1
  unfold rf0
  go_wp2
  go_ret
  exact ⟨rfl, by first | exact HW.out | exact HW.out.alloc HW.out.size _⟩

set_option maxHeartbeats 2000000 in
set_option maxRecDepth 100000 in
theorem polyMay_any {D : FD} (hD : D ∈ fieldsL) {ao : Option Addr} {n cap : Nat} {z : Nat → Int} {w : World} (h : SlZ ao n z w) (hl : LtB ao w.heap.size) (hn : n ≤ 1000000) :
    Calls Try.prog 8 #[.int .i64 D.q, .slice ao n cap] w fun e w' => e = .returned (.int .i64 (D.chk n z)) ∧ Below w.heap.size w w' := by
  have HS : Hid (SlZ ao n z w ∧ LtB ao w.heap.size ∧ D ∈ fieldsL) := ⟨h, hl, hD⟩
  clear h hl hD
  go_enter Try.func8, Try.ntmps8
  go_wp2_with fail
  refine (rfield_any HS.out.2.2 w).mono ?_
  rintro e w1 ⟨vm, rfl, hown, _, hb1⟩
  have hm6 := (fld HS.out.2.2).m6
  obtain ⟨gm, cm, fm, hvm, hgm⟩ := hown.row (D.m + 1) modL_len' (by omega)
  subst hvm
  have HA : Hid (Below w.heap.size w w1) := hb1
  have hs1 := hb1.size
  clear hb1 hown hgm
  unfold rf
  obtain ⟨vm, hvm⟩ : ∃ vm, vm = Value.slice (some ⟨gm, 0, none⟩) (D.m + 1) cm := ⟨_, rfl⟩
  have HB0 : Hid (Box w1.heap.size D D.gen (.slice (some ⟨gm, 0, none⟩) (D.m + 1) cm) (w1.alloc (.cells #[.int .i64 D.q, .int .i64 D.p, .int .i64 D.m, .int .i64 D.gen, .slice (some ⟨gm, 0, none⟩) (D.m + 1) cm] 28))) := box_new D D.gen _ w1
  clear hvm
  by_cases h128 : 128 < n
  · have HV : Hid (D.chk n z = 4) := by show D.chk n z = 4; rw [FD.chk, if_pos h128]
    go_wp2
    go_ret
    exact ⟨ret_int (by rw [HV.out]), by first | exact HA.out | exact HA.out.alloc HA.out.size _⟩
  · go_wp2
    go_loopw [7] (fun i wr => ∃ r : Nat, r ≤ n ∧ i = .int .i64 r ∧ Hid (D.allHas z r = true) ∧ Box w1.heap.size D D.gen (.slice (some ⟨gm, 0, none⟩) (D.m + 1) cm) wr ∧ Below w.heap.size w wr ∧ w1.heap.size < wr.heap.size) (fun i _ => n - (intOf i).toNat)
    case atStart => exact ⟨0, by omega, rfl, rfl, HB0.out, HA.out.alloc HA.out.size _, by simp⟩
    case round =>
      obtain ⟨r, hr, rfl, HH, hbox, hbel, hlt1⟩ := hrel
      obtain ⟨c0, c1, c2, c3, c4⟩ := hbox
      have HG : Hid (Box w1.heap.size D D.gen (.slice (some ⟨gm, 0, none⟩) (D.m + 1) cm) wr ∧ Below w.heap.size w wr) := ⟨⟨c0, c1, c2, c3, c4⟩, hbel⟩
      clear hbel
      by_cases hlt : r < n
      · obtain ⟨b, off, rfl, hc⟩ := (HS.out.1.below HG.out.2 HS.out.2.1) r hlt
        obtain ⟨x, hx⟩ : ∃ x, x = z r := ⟨_, rfl⟩
        rw [← hx] at hc
        have z1 : (0 : Int) ≤ (r : Int) := by omega
        have z2 : (r : Int) < (n : Int) := by omega
        have HX : Hid (x = z r) := hx
        clear hx
        obtain ⟨hb0, hhb⟩ : ∃ hb0, hb0 = D.has x := ⟨_, rfl⟩
        have HC : Hid (∀ w3 : World, Calls Try.prog 29 #[.agg #[.int .i64 D.q, .int .i64 D.p, .int .i64 D.m, .int .i64 D.gen, .slice (some ⟨gm, 0, none⟩) (D.m + 1) cm], .int .i64 x] w3 fun e w' => e = .returned (.bool hb0) ∧ Below w3.heap.size w3 w') := by
          intro w3; rw [hhb]; exact rhas_any D D.gen _ x w3
        have HHB : Hid (hb0 = D.has x) := hhb
        clear hhb
        have HK : Hid (∀ w3 : World, Below wr.heap.size wr w3 → w3.cell? ⟨w1.heap.size, 0, none⟩ = some (.int .i64 (D.q : Nat)) ∧ w3.cell? ⟨w1.heap.size, 1, none⟩ = some (.int .i64 (D.p : Nat)) ∧ w3.cell? ⟨w1.heap.size, 2, none⟩ = some (.int .i64 (D.m : Nat)) ∧ w3.cell? ⟨w1.heap.size, 3, none⟩ = some (.int .i64 (D.gen : Nat)) ∧ w3.cell? ⟨w1.heap.size, 4, none⟩ = some (.slice (some ⟨gm, 0, none⟩) (D.m + 1) cm) ∧ w3.cell? ⟨b, off + r, none⟩ = some (.int .i64 x)) := by
          intro w3 h3
          have hB := HG.out.1.below (B := wr.heap.size) h3 hlt1
          refine ⟨hB.c0, hB.c1, hB.c2, hB.c3, hB.c4, ?_⟩
          rw [(bcell h3).1 b (off + r) (Nat.lt_of_lt_of_le (HS.out.2.1 _ rfl) HG.out.2.size)]
          exact hc
        have hbc : Below wr.heap.size wr wr := Below.refl _ _
        go_wp2_with fail
        go_region_held3 (fun w' => w'.cell? ⟨w1.heap.size, 0, none⟩ = some (.int .i64 (D.q : Nat)) ∧ w'.cell? ⟨w1.heap.size, 1, none⟩ = some (.int .i64 (D.p : Nat)) ∧ w'.cell? ⟨w1.heap.size, 2, none⟩ = some (.int .i64 (D.m : Nat)) ∧ w'.cell? ⟨w1.heap.size, 3, none⟩ = some (.int .i64 (D.gen : Nat)) ∧ w'.cell? ⟨w1.heap.size, 4, none⟩ = some (.slice (some ⟨gm, 0, none⟩) (D.m + 1) cm) ∧ w'.cell? ⟨b, off + r, none⟩ = some (.int .i64 x))
          (first | go_keep | exact HK.out _ (by first | exact hbc | exact hbc.drew))
          (first | (go_at_call 29; refine (HC.out _).mono ?_; rintro e w' ⟨rfl, hb'⟩; replace hbc := bel_up' (by first | exact hbc | exact hbc.drew) hb'; clear hb'))
        have HR : Hid (Box w1.heap.size D D.gen (.slice (some ⟨gm, 0, none⟩) (D.m + 1) cm) w' ∧ Below w.heap.size w w' ∧ w1.heap.size < w'.heap.size) := ⟨HG.out.1.below hbc hlt1, bel_up' HG.out.2 hbc, by have := hbc.size; omega⟩
        clear c0 c1 c2 c3 c4 HC hc hbc HK
        cases hb0 with
        | true =>
          have HH2 : Hid (D.allHas z (r + 1) = true) := by show D.allHas z (r + 1) = true; rw [FD.allHas, HH.out, ← HX.out, ← HHB.out]; rfl
          go_wp2
          go_roundw
          case rel => exact ⟨r + 1, by omega, by go_num, HH2.out, HR.out⟩
          case measure => simp [intOf]; omega
        | false =>
          have HV : Hid (D.chk n z = 2) := by
            show D.chk n z = 2
            rw [FD.chk, if_neg h128, if_neg]
            intro e
            have h := allHas_iff.1 e r hlt
            rw [← HX.out, ← HHB.out] at h
            cases h
          go_wp2
          go_ret
          exact ⟨ret_int (by rw [HV.out]), HR.out.2.1⟩
      · have HV : Hid (D.chk n z = 0) := by
          show D.chk n z = 0
          have e : r = n := by omega
          rw [FD.chk, if_neg h128, if_pos (e ▸ HH.out)]
        go_wp2
        go_ret
        exact ⟨ret_int (by rw [HV.out]), HG.out.2⟩
end Go.Proofs.Ytpccbiinfdppnad

/- The reference's polynomials: sums (PAdd). -/
namespace Go.Proofs.Ytpccbiinfdppnad
open Go.RowKit

/-- The n coefficients c as a list of numbers. -/
def NL (n : Nat) (c : Nat → Nat) : List Int := (List.range n).map fun k => ((c k : Nat) : Int)
theorem NL_len (n : Nat) (c : Nat → Nat) : (NL n c).length = n := by simp [NL]
theorem NL_succ (n : Nat) (c : Nat → Nat) : NL (n + 1) c = NL n c ++ [((c n : Nat) : Int)] := by unfold NL; rw [List.range_succ, List.map_append]; rfl
theorem NL_get (n : Nat) (c : Nat → Nat) (j : Nat) (hj : j < n) : (NL n c).getD j 0 = ((c j : Nat) : Int) := by
  unfold NL
  rw [List.getD_eq_getElem?_getD, List.getElem?_map, List.getElem?_range hj]; rfl
theorem NL_congr {n : Nat} {c d : Nat → Nat} (h : ∀ k, k < n → c k = d k) : NL n c = NL n d := by
  unfold NL
  exact List.map_congr_left fun k hk => by rw [h k (List.mem_range.1 hk)]
theorem OwnI.ownP {base n : Nat} {v : Value} {c : Nat → Nat} {w : World} (h : OwnI base v (NL n c) w) : OwnP base v n c w := by
  rcases h.2 with ⟨h1, h2⟩ | ⟨g, cap, cur, hv, hg, hh, hle, hcm, hsz, htake⟩
  · rw [NL_len] at h2
    subst h2
    exact ⟨none, 0, h1, Nat.le_refl _, by omega, fun x hx => (by cases hx), fun x hx => (by cases hx), fun _ => rfl, fun h0 => absurd h0 (by omega)⟩
  · rw [NL_len] at hv hle
    refine ⟨_, cap, hv, hle, by unfold maxLen at hcm; omega, fun x hx => (by cases hx; exact hg), fun x hx => (by cases hx; exact lt_of_block hh), fun e => (by cases e), fun h0 => ⟨g, rfl, ?_⟩⟩
    obtain ⟨g', cap', f, hv', hg', hl', hle', hcm', hrow, hf⟩ := h.row n (NL_len n c) h0
    rw [hv'] at hv
    simp only [Value.slice.injEq, Option.some.injEq, Addr.mk.injEq, and_true, true_and] at hv
    obtain ⟨rfl, rfl⟩ := hv
    exact ⟨_, f, hrow, hle', fun k hk => by rw [hf k hk, NL_get n c k hk]⟩

set_option maxHeartbeats 4000000 in
set_option maxRecDepth 100000 in
theorem rpadd_any {D : FD} (hD : D ∈ fieldsL) (gen gm cm : Nat) {ao bo : Option Addr} {n m ca cb : Nat} {a b : Nat → Nat} {w : World} (hn : n ≤ 1000) (hm : m ≤ 1000) (ha : El D a) (hb : El D b) (hbn : Bd n a) (hbm : Bd m b) (hA : Sl ao n a w) (hB : Sl bo m b w) (hla : LtB ao w.heap.size) (hlb : LtB bo w.heap.size) :
    Calls Try.prog 63 #[rf D.q D.p D.m gen (.slice (some ⟨gm, 0, none⟩) (D.m + 1) cm), .slice ao n ca, .slice bo m cb] w fun e w' => ∃ v, e = .returned v ∧ OwnP w.heap.size v (dgn (padd D a b) (max n m)) (padd D a b) w' ∧ Below w.heap.size w w' := by
  have HF : Hid (D ∈ fieldsL ∧ Sl ao n a w ∧ Sl bo m b w ∧ El D a ∧ El D b ∧ Bd n a ∧ Bd m b ∧ LtB ao w.heap.size ∧ LtB bo w.heap.size) := ⟨hD, hA, hB, ha, hb, hbn, hbm, hla, hlb⟩
  clear hD hA hB ha hb hbn hbm hla hlb
  have HB0 : Hid (Box w.heap.size D gen (.slice (some ⟨gm, 0, none⟩) (D.m + 1) cm) (w.alloc (.cells #[.int .i64 D.q, .int .i64 D.p, .int .i64 D.m, .int .i64 gen, .slice (some ⟨gm, 0, none⟩) (D.m + 1) cm] 28))) := box_new D gen _ w
  unfold rf
  obtain ⟨N, hN⟩ : ∃ N, N = max n m := ⟨_, rfl⟩
  rw [← hN]
  have hN2 : N ≤ 1000 := by omega
  have hN3 : n ≤ N := by omega
  have hN4 : m ≤ N := by omega
  have HN : Hid (N = max n m) := hN
  clear hN
  go_enter Try.func63, Try.ntmps63
  go_wp2
  go_loopw [7, 8] (fun vl i wr => ∃ r : Nat, r ≤ N ∧ i = .int .i64 r ∧ OwnI (w.heap.size + 1) vl (NL r (padd D a b)) wr ∧ Box w.heap.size D gen (.slice (some ⟨gm, 0, none⟩) (D.m + 1) cm) wr ∧ Below w.heap.size w wr ∧ w.heap.size < wr.heap.size) (fun _ i _ => N - (intOf i).toNat)
  case atStart => exact ⟨0, by omega, rfl, OwnI.nil _ _, HB0.out, (Below.refl _ _).alloc (Nat.le_refl _) _, by simp⟩
  case round =>
    obtain ⟨r, hr, rfl, hown, hbox, hbel, hlt1⟩ := hrel
    obtain ⟨c0, c1, c2, c3, c4⟩ := hbox
    have HG : Hid (OwnI (w.heap.size + 1) u7 (NL r (padd D a b)) wr ∧ Box w.heap.size D gen (.slice (some ⟨gm, 0, none⟩) (D.m + 1) cm) wr ∧ Below w.heap.size w wr) := ⟨hown, ⟨c0, c1, c2, c3, c4⟩, hbel⟩
    clear hown hbel
    have HC : Hid (∀ w3 : World, Calls Try.prog 36 #[.agg #[.int .i64 D.q, .int .i64 D.p, .int .i64 D.m, .int .i64 gen, .slice (some ⟨gm, 0, none⟩) (D.m + 1) cm], .int .i64 (a r : Nat), .int .i64 (b r : Nat)] w3 fun e w' => e = .returned (.int .i64 (padd D a b r : Nat)) ∧ Below w3.heap.size w3 w') :=
      fun w3 => radd_nat HF.out.1 gen _ (a r) (b r) (HF.out.2.2.2.1 r) (HF.out.2.2.2.2.1 r) w3
    by_cases h1 : r < n
    · obtain ⟨ba, offa, rfl, hca⟩ := (HF.out.2.1.below HG.out.2.2 HF.out.2.2.2.2.2.2.2.1) r h1
      by_cases h2 : r < m
      · obtain ⟨bb, offb, rfl, hcb⟩ := (HF.out.2.2.1.below HG.out.2.2 HF.out.2.2.2.2.2.2.2.2) r h2
        go_wp2_with (first
          | (go_at_call 36; refine (HC.out _).mono ?_; rintro e w2 ⟨rfl, hb2⟩; have hs2 := hb2.size; have HG2 : Hid (OwnI (w.heap.size + 1) u7 (NL r (padd D a b)) w2 ∧ Box w.heap.size D gen (.slice (some ⟨gm, 0, none⟩) (D.m + 1) cm) w2 ∧ Below w.heap.size w w2) := ⟨HG.out.1.below hb2 (fun k hk => (HG.out.1.lt k hk).2), HG.out.2.1.below (B := wr.heap.size) hb2 hlt1, bel_up' HG.out.2.2 hb2⟩; clear hb2)
          | (at_builtin; refine append_int rfl _ _ rfl (w.heap.size + 1) _ (NL r (padd D a b)) rfl (HG2.out.1.alloc _) ⟨_, 0, none⟩ 1 (padd D a b r : Nat) rfl (by simp) (by rw [NL_len]; omega) (by simp; omega) ?_; intro v3 w3 hown3 hgrow3))
        have HE : Hid (OwnI (w.heap.size + 1) v3 (NL (r + 1) (padd D a b)) w3 ∧ Box w.heap.size D gen (.slice (some ⟨gm, 0, none⟩) (D.m + 1) cm) w3 ∧ Below w.heap.size w w3 ∧ w.heap.size < w3.heap.size) := by
          have hb3 : Below (w.heap.size + 1) w2 w3 := ((Below.refl _ _).alloc (by omega) _).grown hgrow3 (by simp; omega) (fun k hk => (HG2.out.1.lt k hk).1)
          refine ⟨by rw [NL_succ]; exact hown3, HG2.out.2.1.below (B := w.heap.size + 1) hb3 (by omega), HG2.out.2.2.trans (hb3.mono (by omega)), by have := hb3.size; omega⟩
        clear hown3 hgrow3
        go_roundw
        case rel => exact ⟨r + 1, by omega, by go_num, HE.out⟩
        case measure => simp [intOf]; omega
      · have hb0 : b r = 0 := HF.out.2.2.2.2.2.2.1 r (by omega)
        rw [hb0] at HC
        go_wp2_with (first
          | (go_at_call 36; refine (HC.out _).mono ?_; rintro e w2 ⟨rfl, hb2⟩; have hs2 := hb2.size; have HG2 : Hid (OwnI (w.heap.size + 1) u7 (NL r (padd D a b)) w2 ∧ Box w.heap.size D gen (.slice (some ⟨gm, 0, none⟩) (D.m + 1) cm) w2 ∧ Below w.heap.size w w2) := ⟨HG.out.1.below hb2 (fun k hk => (HG.out.1.lt k hk).2), HG.out.2.1.below (B := wr.heap.size) hb2 hlt1, bel_up' HG.out.2.2 hb2⟩; clear hb2)
          | (at_builtin; refine append_int rfl _ _ rfl (w.heap.size + 1) _ (NL r (padd D a b)) rfl (HG2.out.1.alloc _) ⟨_, 0, none⟩ 1 (padd D a b r : Nat) rfl (by simp) (by rw [NL_len]; omega) (by simp; omega) ?_; intro v3 w3 hown3 hgrow3))
        have HE : Hid (OwnI (w.heap.size + 1) v3 (NL (r + 1) (padd D a b)) w3 ∧ Box w.heap.size D gen (.slice (some ⟨gm, 0, none⟩) (D.m + 1) cm) w3 ∧ Below w.heap.size w w3 ∧ w.heap.size < w3.heap.size) := by
          have hb3 : Below (w.heap.size + 1) w2 w3 := ((Below.refl _ _).alloc (by omega) _).grown hgrow3 (by simp; omega) (fun k hk => (HG2.out.1.lt k hk).1)
          refine ⟨by rw [NL_succ]; exact hown3, HG2.out.2.1.below (B := w.heap.size + 1) hb3 (by omega), HG2.out.2.2.trans (hb3.mono (by omega)), by have := hb3.size; omega⟩
        clear hown3 hgrow3
        go_roundw
        case rel => exact ⟨r + 1, by omega, by go_num, HE.out⟩
        case measure => simp [intOf]; omega
    · have ha0 : a r = 0 := HF.out.2.2.2.2.2.1 r (by omega)
      by_cases h2 : r < m
      · obtain ⟨bb, offb, rfl, hcb⟩ := (HF.out.2.2.1.below HG.out.2.2 HF.out.2.2.2.2.2.2.2.2) r h2
        rw [ha0] at HC
        go_wp2_with (first
          | (go_at_call 36; refine (HC.out _).mono ?_; rintro e w2 ⟨rfl, hb2⟩; have hs2 := hb2.size; have HG2 : Hid (OwnI (w.heap.size + 1) u7 (NL r (padd D a b)) w2 ∧ Box w.heap.size D gen (.slice (some ⟨gm, 0, none⟩) (D.m + 1) cm) w2 ∧ Below w.heap.size w w2) := ⟨HG.out.1.below hb2 (fun k hk => (HG.out.1.lt k hk).2), HG.out.2.1.below (B := wr.heap.size) hb2 hlt1, bel_up' HG.out.2.2 hb2⟩; clear hb2)
          | (at_builtin; refine append_int rfl _ _ rfl (w.heap.size + 1) _ (NL r (padd D a b)) rfl (HG2.out.1.alloc _) ⟨_, 0, none⟩ 1 (padd D a b r : Nat) rfl (by simp) (by rw [NL_len]; omega) (by simp; omega) ?_; intro v3 w3 hown3 hgrow3))
        have HE : Hid (OwnI (w.heap.size + 1) v3 (NL (r + 1) (padd D a b)) w3 ∧ Box w.heap.size D gen (.slice (some ⟨gm, 0, none⟩) (D.m + 1) cm) w3 ∧ Below w.heap.size w w3 ∧ w.heap.size < w3.heap.size) := by
          have hb3 : Below (w.heap.size + 1) w2 w3 := ((Below.refl _ _).alloc (by omega) _).grown hgrow3 (by simp; omega) (fun k hk => (HG2.out.1.lt k hk).1)
          refine ⟨by rw [NL_succ]; exact hown3, HG2.out.2.1.below (B := w.heap.size + 1) hb3 (by omega), HG2.out.2.2.trans (hb3.mono (by omega)), by have := hb3.size; omega⟩
        clear hown3 hgrow3
        go_roundw
        case rel => exact ⟨r + 1, by omega, by go_num, HE.out⟩
        case measure => simp [intOf]; omega
      · have HO : Hid (OwnP (w.heap.size + 1) u7 N (padd D a b) wr) := by
          have h := HG.out.1.ownP
          rw [show r = N from by have := HN.out; omega] at h; exact h
        obtain ⟨lo, lc, hlv, h3, h4, _, h6, h7, h8⟩ := HO.out.open
        subst hlv
        have HT : Hid (Calls Try.prog 61 #[.slice lo N lc] wr fun e w' => ∃ v, e = .returned v ∧ OwnP wr.heap.size v (dgn (padd D a b) N) (padd D a b) w' ∧ Below wr.heap.size wr w') := rtrim_any h8 h3 h4 h7 h6 (by omega)
        clear h3 h4 h6 h7 h8
        go_wp2_with fail
        refine HT.out.mono ?_
        rintro e w2 ⟨v, rfl, hown, hb2⟩
        have HR : Hid (OwnP w.heap.size v (dgn (padd D a b) N) (padd D a b) w2 ∧ Below w.heap.size w w2) := ⟨hown.mono (by omega), bel_up' HG.out.2.2 hb2⟩
        clear hown hb2
        go_wp2
        go_ret
        exact ⟨v, rfl, HR.out.1, HR.out.2⟩
end Go.Proofs.Ytpccbiinfdppnad

/- The same where the calls lay blocks: the worlds in which nothing that was there has turned. No Go text here. -/
namespace Go.Proofs.Ytpccbiinfdppnad
open Go Go.Sort Go.RowKit

theorem quiet_tail_of {P : Program} {C : World → Prop} {id : Nat} {Q : Exit → Act → World → Prop} {a : Act} {w : World} {l : List Oper} (n : Nat) (hm : P.follows .mixedOrders = true) (hB : Region.lexTailB .any l.toArray n = true) (hC : C { w with drawn := w.drawn + 1 })
    (h : wpQuiet P l.toArray C (fun a' => ∀ w', C w' → wpList P l.toArray Q (l.drop n) a' w') (l.take n) a) : (Code.region id l.toArray true).wp P Q a w := by
  simp only [Region.lexTailB, Bool.and_eq_true, decide_eq_true_eq] at hB
  obtain ⟨⟨⟨⟨hsel, hn⟩, hs⟩, hc⟩, hlex⟩ := hB
  have hn' : n < l.length := by simpa using hn
  have htl : (l.take n).length = n := by simp; omega
  have hdl : (l.drop n).length = l.toArray.size - n := by simp
  have inv0 : HeadInv .any l.toArray n (Array.replicate l.toArray.size false) :=
    ⟨by simp, fun j oj _ hl => (by rw [getD_replicate_false] at hl; cases hl), fun t _ ht => getD_in (by simpa using ht) (getD_replicate_false _ _)⟩
  have H := head_lex (g := l.toArray.size - n) hsel hs hc hn (l.take n) 0 _ a (fun j hj => by
    have hj' : j < n := by rw [htl] at hj; exact hj
    simp [hj']) (by simpa using htl) inv0 (by rw [htl]; exact hlex) h
  refine wp_region_any hm ?_
  have R := head_any (Q := Q) (g := l.toArray.size - n) (fun s a' w' hw' hL => by
    have := wpAny_of_seq (md := .any) (Q' := Q) (l.drop n) n s a' w' (fun j => by simp [List.getElem?_drop]) (by rw [hdl]; exact hL.1) (hL.2 w' hw')
    rwa [hdl] at this) _ _ _ _ hC H
  rw [htl, show n + (l.toArray.size - n) = l.toArray.size by omega] at R
  exact R
theorem below_tail {P : Program} {id : Nat} {Q : Exit → Act → World → Prop} {a : Act} {w : World} {l : List Oper} (n : Nat) (hm : P.follows .mixedOrders = true) (hB : Region.lexTailB .any l.toArray n = true)
    (h : wpQuiet P l.toArray (fun w' => ∃ p : Regrown, w' = grow (redrawn w p.d) p.os) (fun a' => ∀ w', (∃ p : Regrown, w' = grow (redrawn w p.d) p.os) → wpList P l.toArray Q (l.drop n) a' w') (l.take n) a) : (Code.region id l.toArray true).wp P Q a w :=
  quiet_tail_of (C := fun w' => ∃ p : Regrown, w' = grow (redrawn w p.d) p.os) n hm hB ⟨⟨w.drawn + 1, #[]⟩, by rw [grow_empty]; rfl⟩ h
theorem free_regrown {w : World} {a : Addr} (ha : a.block < w.heap.size) (h : w.frozen? a = false) (d : Nat) (os : Array Obj) : (grow (redrawn w d) os).frozen? a = false := by
  rw [World.frozen?_of_block (w := w) ((below_regrown w d os).block _ ha)]; exact h
end Go.Proofs.Ytpccbiinfdppnad
