/- Texts of ours, one behind the other: U9 U10. -/
import Derived.Test.YtcgmllamiaflcaaZU3
/- The program's polynomials: which may be (Check), and over which field (over). -/
namespace Go.Proofs.Ytcgmllamiaflcaa
open Go.RowKit

/-- The first n numbers of the slice that begins at ao are z. -/
def SlZ (ao : Option Addr) (n : Nat) (z : Nat → Int) (w : World) : Prop := ∀ j, j < n → ∃ b off, ao = some ⟨b, off, none⟩ ∧ w.cell? ⟨b, off + j, none⟩ = some (.int .i64 (z j))
theorem SlZ.below {ao : Option Addr} {n B : Nat} {z : Nat → Int} {w w' : World} (h : SlZ ao n z w) (hb : Below B w w') (hB : LtB ao B) : SlZ ao n z w' := fun j hj => by
  obtain ⟨b, off, rfl, hc⟩ := h j hj
  exact ⟨b, off, rfl, ((bcell hb).1 b (off + j) (hB _ rfl)).trans hc⟩
theorem Sl.z {ao : Option Addr} {n : Nat} {c : Nat → Nat} {w : World} (h : Sl ao n c w) : SlZ ao n (fun j => (c j : Nat)) w := h
/-- How many of the first numbers are elements, one after the other. -/
def FD.allHas (D : FD) (z : Nat → Int) : Nat → Bool
  | 0 => true
  | n + 1 => D.allHas z n && D.has (z n)
theorem allHas_iff {D : FD} {z : Nat → Int} : ∀ {n : Nat}, D.allHas z n = true ↔ ∀ j, j < n → D.has (z j) = true
  | 0 => ⟨fun _ j hj => by omega, fun _ => rfl⟩
  | n + 1 => by
    rw [FD.allHas, Bool.and_eq_true, allHas_iff]
    constructor
    · rintro ⟨h1, h2⟩ j hj
      by_cases e : j = n
      · rw [e]; exact h2
      · exact h1 j (by omega)
    · intro h
      exact ⟨fun j hj => h j (by omega), h n (by omega)⟩
/-- What Check says of n numbers. -/
def FD.chk (D : FD) (n : Nat) (z : Nat → Int) : Int := if 128 < n then 4 else if D.allHas z n = true then 0 else 2

set_option maxHeartbeats 2000000 in
set_option maxRecDepth 100000 in
theorem check_any {D : FD} (hD : D ∈ fieldsL) {ao : Option Addr} {n cap : Nat} {z : Nat → Int} {w : World} (h : SlZ ao n z w) (hl : LtB ao w.heap.size) (hn : n ≤ 1000000) :
    Calls Try.prog 30 #[.int .i64 D.q, .slice ao n cap] w fun e w' => e = .returned (.int .i64 (D.chk n z)) ∧ Below w.heap.size w w' := by
  have HS : Hid (SlZ ao n z w ∧ LtB ao w.heap.size ∧ D ∈ fieldsL) := ⟨h, hl, hD⟩
  clear h hl hD
  go_enter Try.func30, Try.ntmps30
  go_wp2_with fail
  refine (new_any HS.out.2.2 w).mono ?_
  rintro e w1 ⟨F, T, g, rfl, hat, hF, hT, hb1⟩
  have HA : Hid (FAt F T D g w1 ∧ SlZ ao n z w1 ∧ Below w.heap.size w w1) := ⟨hat, HS.out.1.below hb1 HS.out.2.1, hb1⟩
  clear hat hF hT hb1
  by_cases h128 : 128 < n
  · have HV : Hid (D.chk n z = 4) := by show D.chk n z = 4; rw [FD.chk, if_pos h128]
    go_wp2
    go_ret
    exact ⟨ret_int (by rw [HV.out]), HA.out.2.2⟩
  · go_wp2
    go_loopw [22] (fun i wr => ∃ r : Nat, r ≤ n ∧ i = .int .i64 r ∧ Hid (D.allHas z r = true) ∧ wr = w1) (fun i _ => n - (intOf i).toNat)
    case atStart => exact ⟨0, by omega, rfl, rfl, rfl⟩
    case round =>
      obtain ⟨r, hr, rfl, HH, rfl⟩ := hrel
      by_cases hlt : r < n
      · obtain ⟨b, off, rfl, hc⟩ := HA.out.2.1 r hlt
        by_cases hh : D.has (z r) = true
        · have HH2 : Hid (D.allHas z (r + 1) = true) := by show D.allHas z (r + 1) = true; rw [FD.allHas, HH.out, hh]; rfl
          go_wp2_with (go_at_call 37; refine (has_any HA.out.1 _).mono ?_; rintro e w' ⟨rfl, hw⟩; have hw := hw.symm; subst hw)
          go_roundw
          case rel => exact ⟨r + 1, by omega, by go_num, HH2.out, by first | rfl | trivial⟩
          case measure => simp [intOf]; omega
        · have hh' : D.has (z r) = false := by simpa using hh
          have HV : Hid (D.chk n z = 2) := by
            show D.chk n z = 2
            rw [FD.chk, if_neg h128, if_neg]
            intro e
            exact hh (allHas_iff.1 e r hlt)
          clear hh
          go_wp2_with (go_at_call 37; refine (has_any HA.out.1 _).mono ?_; rintro e w' ⟨rfl, hw⟩; have hw := hw.symm; subst hw)
          go_ret
          exact ⟨ret_int (by rw [HV.out]), HA.out.2.2⟩
      · have HV : Hid (D.chk n z = 0) := by
          show D.chk n z = 0
          have e : r = n := by omega
          rw [FD.chk, if_neg h128, if_pos (e ▸ HH.out)]
        go_wp2
        go_ret
        exact ⟨ret_int (by rw [HV.out]), HA.out.2.2⟩
/-- What Check says of the first of k lists of which it says anything. -/
def FD.chks (D : FD) (N : Nat → Nat) (Z : Nat → Nat → Int) : Nat → Int
  | 0 => 0
  | k + 1 => if D.chks N Z k = 0 then D.chk (N k) (Z k) else D.chks N Z k
/-- Lists that are handed in, all of them in one slice. -/
structure Many (g k : Nat) (A : Nat → Option Addr) (N C : Nat → Nat) (Z : Nat → Nat → Int) (w : World) : Prop where
  cell : ∀ j, j < k → w.cell? ⟨g, j, none⟩ = some (.slice (A j) (N j) (C j))
  sl : ∀ j, j < k → SlZ (A j) (N j) (Z j) w
  lt : ∀ j, j < k → LtB (A j) w.heap.size
  few : ∀ j, j < k → N j ≤ 1000000
  ltg : g < w.heap.size
theorem Many.below {g k : Nat} {A : Nat → Option Addr} {N C : Nat → Nat} {Z : Nat → Nat → Int} {w w' : World} (h : Many g k A N C Z w) (hb : Below w.heap.size w w') : Many g k A N C Z w' :=
  ⟨fun j hj => ((bcell hb).1 g j h.ltg).trans (h.cell j hj), fun j hj => (h.sl j hj).below hb (h.lt j hj), fun j hj => (h.lt j hj).mono hb.size, h.few, Nat.lt_of_lt_of_le h.ltg hb.size⟩
theorem chks_keep {D : FD} {N : Nat → Nat} {Z : Nat → Nat → Int} {e : Int} (he : e ≠ 0) {r : Nat} (h : D.chks N Z r = e) : ∀ d, D.chks N Z (r + d) = e
  | 0 => h
  | d + 1 => by rw [← Nat.add_assoc, FD.chks, chks_keep he h d, if_neg he]

set_option maxHeartbeats 2000000 in
set_option maxRecDepth 100000 in
theorem over_any {D : FD} (hD : D ∈ fieldsL) {g k cap : Nat} {A : Nat → Option Addr} {N C : Nat → Nat} {Z : Nat → Nat → Int} {w : World} (h : Many g k A N C Z w) (hk : k ≤ 1000) :
    Calls Try.prog 77 #[.int .i64 D.q, .slice (some ⟨g, 0, none⟩) k cap] w fun e w' => Below w.heap.size w w' ∧
      ((D.chks N Z k = 0 ∧ ∃ F T f, e = .returned (.tuple #[.pointer (some ⟨F, 0, none⟩), .int .i64 0]) ∧ FAt F T D f w' ∧ w.heap.size ≤ F ∧ w.heap.size ≤ T) ∨ (D.chks N Z k ≠ 0 ∧ e = .returned (.tuple #[.pointer none, .int .i64 (D.chks N Z k)]))) := by
  have HM : Hid (Many g k A N C Z w ∧ D ∈ fieldsL) := ⟨h, hD⟩
  clear h hD
  go_enter Try.func77, Try.ntmps77
  go_wp2
  go_loopw [11] (fun i wr => ∃ r : Nat, r ≤ k ∧ i = .int .i64 r ∧ Hid (D.chks N Z r = 0) ∧ Many g k A N C Z wr ∧ Below w.heap.size w wr) (fun i _ => k - (intOf i).toNat)
  case atStart => exact ⟨0, by omega, rfl, rfl, HM.out.1, Below.refl _ _⟩
  case round =>
    obtain ⟨r, hr, rfl, HH, hmany, hbel⟩ := hrel
    have HG : Hid (Many g k A N C Z wr ∧ Below w.heap.size w wr) := ⟨hmany, hbel⟩
    clear hmany hbel
    by_cases hlt : r < k
    · have hc := HG.out.1.cell r hlt
      have hib : (r : Int) < (k : Int) := by omega
      obtain ⟨e, he⟩ : ∃ e, e = D.chk (N r) (Z r) := ⟨_, rfl⟩
      have HC : Hid (Calls Try.prog 30 #[.int .i64 D.q, .slice (A r) (N r) (C r)] wr fun x w' => x = .returned (.int .i64 e) ∧ Below wr.heap.size wr w') := by
        show Calls _ _ _ _ _
        rw [he]; exact check_any HM.out.2 (HG.out.1.sl r hlt) (HG.out.1.lt r hlt) (HG.out.1.few r hlt)
      have HE : Hid (D.chks N Z (r + 1) = e) := by show D.chks N Z (r + 1) = e; rw [FD.chks, if_pos HH.out, he]
      clear he
      by_cases h0 : e = 0
      · have hz : (e != 0) = false := by rw [h0]; rfl
        have HE2 : Hid (D.chks N Z (r + 1) = 0) := by show _ = _; rw [HE.out, h0]
        clear h0
        go_wp2_with (go_at_call 30; refine HC.out.mono ?_; rintro x w' ⟨rfl, hb'⟩)
        go_roundw
        case rel => exact ⟨r + 1, by omega, by go_num, HE2.out, HG.out.1.below hb', bel_up HG.out.2 hb'⟩
        case measure => simp [intOf]; omega
      · have hz : (e != 0) = true := by rw [bne_iff_ne]; exact h0
        have HE2 : Hid (D.chks N Z k = e ∧ e ≠ 0) := by
          have h := chks_keep h0 HE.out (k - (r + 1))
          rw [show r + 1 + (k - (r + 1)) = k from by omega] at h
          exact ⟨h, h0⟩
        clear h0
        go_wp2_with (go_at_call 30; refine HC.out.mono ?_; rintro x w' ⟨rfl, hb'⟩)
        go_ret2
        exact ⟨bel_up HG.out.2 hb', Or.inr ⟨by rw [HE2.out.1]; exact HE2.out.2, by rw [HE2.out.1]; rfl⟩⟩
    · have HE : Hid (D.chks N Z k = 0) := by show _ = _; rw [← show r = k from by omega]; exact HH.out
      go_wp2_with fail
      refine (new_any HM.out.2 wr).mono ?_
      rintro x w1 ⟨F, T, f, rfl, hat, hF, hT, hb1⟩
      have HA : Hid (FAt F T D f w1 ∧ wr.heap.size ≤ F ∧ wr.heap.size ≤ T ∧ Below wr.heap.size wr w1) := ⟨hat, hF, hT, hb1⟩
      clear hat hF hT hb1
      go_wp2
      go_ret2
      have hs := HG.out.2.size
      exact ⟨bel_up HG.out.2 HA.out.2.2.2, Or.inl ⟨HE.out, F, T, f, rfl, HA.out.1, by have := HA.out.2.1; omega, by have := HA.out.2.2.1; omega⟩⟩
end Go.Proofs.Ytcgmllamiaflcaa

/- The program's polynomials: the calls that are listed: Add. -/
namespace Go.Proofs.Ytcgmllamiaflcaa
open Go.RowKit

/-- A list that is handed in: where it lies, how long it is, its numbers. -/
structure Arg (ao : Option Addr) (n cap : Nat) (z : Nat → Int) (w : World) : Prop where
  sl : SlZ ao n z w
  lt : LtB ao w.heap.size
  few : n ≤ 1000000
  nil : ao = none → cap = 0
  le : n ≤ cap
  cap : cap ≤ 9223372036854775807
theorem Arg.below {ao : Option Addr} {n cap : Nat} {z : Nat → Int} {w w' : World} (h : Arg ao n cap z w) (hb : Below w.heap.size w w') : Arg ao n cap z w' :=
  ⟨h.sl.below hb h.lt, h.lt.mono hb.size, h.few, h.nil, h.le, h.cap⟩

def two {α : Type} (x y : α) : Nat → α := fun j => if j = 0 then x else y
theorem many_two {ao bo : Option Addr} {n m ca cb : Nat} {z y : Nat → Int} {w : World} (ha : Arg ao n ca z w) (hb : Arg bo m cb y w) :
    Many w.heap.size 2 (two ao bo) (two n m) (two ca cb) (two z y) (w.alloc (.cells #[.slice ao n ca, .slice bo m cb] 22)) := by
  have hbl : Below w.heap.size w (w.alloc (.cells #[.slice ao n ca, .slice bo m cb] 22)) := (Below.refl _ _).alloc (Nat.le_refl _) _
  have a1 := ha.below hbl
  have b1 := hb.below hbl
  refine ⟨fun j hj => ?_, fun j hj => ?_, fun j hj => ?_, fun j hj => ?_, by simp⟩
  · rw [cell_of_row _ _ _ _ _ (0, 0) (two_new _)]
    rcases j with _ | _ | j
    · rfl
    · rfl
    · omega
  · rcases j with _ | _ | j
    · exact a1.sl
    · exact b1.sl
    · omega
  · rcases j with _ | _ | j
    · exact a1.lt
    · exact b1.lt
    · omega
  · rcases j with _ | _ | j
    · exact a1.few
    · exact b1.few
    · omega
/-- What is said of two lists. -/
def FD.chk2 (D : FD) (n : Nat) (z : Nat → Int) (m : Nat) (y : Nat → Int) : Int := if D.chk n z = 0 then D.chk m y else D.chk n z
theorem chks_two (D : FD) (n m : Nat) (z y : Nat → Int) : D.chks (two n m) (two z y) 2 = D.chk2 n z m y := by
  show (if (if (0 : Int) = 0 then D.chk n z else 0) = 0 then D.chk m y else (if (0 : Int) = 0 then D.chk n z else 0)) = _
  rw [if_pos rfl]; rfl
theorem over2_any {D : FD} (hD : D ∈ fieldsL) {ao bo : Option Addr} {n m ca cb : Nat} {z y : Nat → Int} {w : World} (ha : Arg ao n ca z w) (hb : Arg bo m cb y w) :
    Calls Try.prog 77 #[.int .i64 D.q, .slice (some ⟨w.heap.size, 0, none⟩) 2 2] (w.alloc (.cells #[.slice ao n ca, .slice bo m cb] 22)) fun e w' => Below w.heap.size w w' ∧
      ((D.chk2 n z m y = 0 ∧ ∃ F T f, e = .returned (.tuple #[.pointer (some ⟨F, 0, none⟩), .int .i64 0]) ∧ FAt F T D f w' ∧ w.heap.size ≤ F ∧ w.heap.size ≤ T) ∨ (D.chk2 n z m y ≠ 0 ∧ e = .returned (.tuple #[.pointer none, .int .i64 (D.chk2 n z m y)]))) := by
  have h := over_any hD (cap := 2) (many_two ha hb) (by omega)
  rw [chks_two] at h
  refine h.mono ?_
  rintro e w' ⟨hb', hr⟩
  have hbl : Below w.heap.size w (w.alloc (.cells #[.slice ao n ca, .slice bo m cb] 22)) := (Below.refl _ _).alloc (Nat.le_refl _) _
  refine ⟨bel_up hbl hb', ?_⟩
  rcases hr with ⟨h0, F, T, f, rfl, hat, h1, h2⟩ | h
  · simp at h1 h2
    exact Or.inl ⟨h0, F, T, f, rfl, hat, by omega, by omega⟩
  · exact Or.inr h

/-- The coefficients of n numbers that are elements. -/
def zc (n : Nat) (z : Nat → Int) : Nat → Nat := fun j => if j < n then (z j).toNat else 0
theorem zc_bd (n : Nat) (z : Nat → Int) : Bd n (zc n z) := fun k hk => by unfold zc; rw [if_neg (by omega)]
theorem chk_zero {D : FD} {n : Nat} {z : Nat → Int} (h : D.chk n z = 0) : n ≤ 128 ∧ ∀ j, j < n → D.has (z j) = true := by
  unfold FD.chk at h
  by_cases h1 : 128 < n
  · rw [if_pos h1] at h; cases h
  · rw [if_neg h1] at h
    by_cases h2 : D.allHas z n = true
    · exact ⟨by omega, allHas_iff.1 h2⟩
    · rw [if_neg h2] at h; cases h
theorem zc_el {D : FD} (F : Fld D) {n : Nat} {z : Nat → Int} (h : D.chk n z = 0) : El D (zc n z) := fun j => by
  unfold zc
  by_cases e : j < n
  · obtain ⟨x, hx, hxq⟩ := has_nat ((chk_zero h).2 j e)
    rw [if_pos e, hx, Int.toNat_natCast]; exact hxq
  · rw [if_neg e]; exact zero_lt' F
theorem zc_sl {D : FD} {ao : Option Addr} {n : Nat} {z : Nat → Int} {w : World} (h : D.chk n z = 0) (hS : SlZ ao n z w) : Sl ao n (zc n z) w := fun j hj => by
  obtain ⟨b, off, e, hc⟩ := hS j hj
  obtain ⟨x, hx, hxq⟩ := has_nat ((chk_zero h).2 j hj)
  refine ⟨b, off, e, ?_⟩
  rw [hc]
  unfold zc
  rw [if_pos hj, hx, Int.toNat_natCast]
theorem chk2_zero {D : FD} {n m : Nat} {z y : Nat → Int} (h : D.chk2 n z m y = 0) : D.chk n z = 0 ∧ D.chk m y = 0 := by
  unfold FD.chk2 at h
  by_cases e : D.chk n z = 0
  · rw [if_pos e] at h; exact ⟨e, h⟩
  · rw [if_neg e] at h; exact absurd h e

set_option maxHeartbeats 2000000 in
set_option maxRecDepth 100000 in
theorem padd_any {D : FD} (hD : D ∈ fieldsL) {ao bo : Option Addr} {n m ca cb : Nat} {z y : Nat → Int} {w : World} (ha : Arg ao n ca z w) (hb : Arg bo m cb y w) :
    Calls Try.prog 50 #[.int .i64 D.q, .slice ao n ca, .slice bo m cb] w fun e w' => Below w.heap.size w w' ∧
      ((D.chk2 n z m y = 0 ∧ ∃ v, e = .returned (.tuple #[v, .int .i64 0]) ∧ OwnP w.heap.size v (dgn (padd D (zc n z) (zc m y)) (max n m)) (padd D (zc n z) (zc m y)) w') ∨ (D.chk2 n z m y ≠ 0 ∧ e = .returned (.tuple #[.slice none 0 0, .int .i64 (D.chk2 n z m y)]))) := by
  have HA : Hid (Arg ao n ca z w ∧ Arg bo m cb y w ∧ D ∈ fieldsL) := ⟨ha, hb, hD⟩
  clear ha hb hD
  go_enter Try.func50, Try.ntmps50
  go_wp2_with fail
  refine (over2_any HA.out.2.2 HA.out.1 HA.out.2.1).mono ?_
  rintro e w1 ⟨hb1, hr⟩
  rcases hr with ⟨h0, F, T, f, rfl, hat, hF, hT⟩ | ⟨h0, rfl⟩
  · have HW : Hid (D.chk2 n z m y = 0 ∧ FAt F T D f w1 ∧ Below w.heap.size w w1) := ⟨h0, hat, hb1⟩
    clear h0 hat hF hT hb1
    go_wp2_with fail
    have c0 := chk2_zero HW.out.1
    have a1 := HA.out.1.below HW.out.2.2
    have b1 := HA.out.2.1.below HW.out.2.2
    have hF := fld HA.out.2.2
    refine (psum_any HA.out.2.2 HW.out.2.1 (by have := (chk_zero c0.1).1; omega) (by have := (chk_zero c0.2).1; omega) (zc_el hF c0.1) (zc_el hF c0.2) (zc_bd _ _) (zc_bd _ _) (zc_sl c0.1 a1.sl) (zc_sl c0.2 b1.sl) a1.lt b1.lt).mono ?_
    rintro e w2 ⟨v, rfl, hown, hb2⟩
    have hs := HW.out.2.2.size
    have HR : Hid (OwnP w.heap.size v (dgn (padd D (zc n z) (zc m y)) (max n m)) (padd D (zc n z) (zc m y)) w2 ∧ Below w.heap.size w w2) := ⟨hown.mono hs, bel_up HW.out.2.2 hb2⟩
    clear hown hb2 a1 b1 hF c0
    go_wp2
    go_ret2
    exact ⟨HR.out.2, Or.inl ⟨HW.out.1, v, rfl, HR.out.1⟩⟩
  · have HW : Hid (D.chk2 n z m y ≠ 0 ∧ Below w.heap.size w w1) := ⟨h0, hb1⟩
    obtain ⟨e, he⟩ : ∃ e, e = D.chk2 n z m y := ⟨_, rfl⟩
    rw [← he] at h0 ⊢
    have hz : (e != 0) = true := by rw [bne_iff_ne]; exact h0
    have HE : Hid (e = D.chk2 n z m y) := he
    clear h0 hb1 he
    go_wp2
    go_ret2
    exact ⟨HW.out.2, Or.inr ⟨HW.out.1, by rw [← HE.out]; rfl⟩⟩
end Go.Proofs.Ytcgmllamiaflcaa
