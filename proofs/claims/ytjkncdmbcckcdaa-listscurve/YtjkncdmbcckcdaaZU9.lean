/- The program's polynomials: which may be (Check), and over which field (over). -/
import Derived.Test.YtjkncdmbcckcdaaZU6
namespace Go.Proofs.Ytjkncdmbcckcdaa
open Go.RowKit

/-- The first n numbers of the slice that begins at ao are z. -/
def SlZ (ao : Option Addr) (n : Nat) (z : Nat → Int) (w : World) : Prop := ∀ j, j < n → ∃ b off, ao = some ⟨b, off, none⟩ ∧ w.cell? ⟨b, off + j, none⟩ = some (.int .i64 (z j))
theorem SlZ.below {ao : Option Addr} {n B : Nat} {z : Nat → Int} {w w' : World} (h : SlZ ao n z w) (hb : Below B w w') (hB : LtB ao B) : SlZ ao n z w' := fun j hj => by
  obtain ⟨b, off, rfl, hc⟩ := h j hj
  exact ⟨b, off, rfl, ((bcell hb).1 b (off + j) (hB _ rfl)).trans hc⟩
/-- How many of the first numbers are elements, one after the other. -/
def FD.allHas (D : FD) (z : Nat → Int) : Nat → Bool
  | 0 => true
  | n + 1 => D.allHas z n && D.has (z n)
theorem allHas_iff {D : FD} {z : Nat → Int} : ∀ {n : Nat}, D.allHas z n = true ↔ ∀ j, j < n → D.has (z j) = true
  | 0 => ⟨fun _ j hj => by omega, fun _ => rfl⟩
  | n + 1 => by
    rw [FD.allHas, Bool.and_eq_true, allHas_iff]
    constructor
    · rintro ⟨h1, h2⟩ j hj
      by_cases e : j = n
      · rw [e]; exact h2
      · exact h1 j (by omega)
    · intro h
      exact ⟨fun j hj => h j (by omega), h n (by omega)⟩
/-- What Check says of n numbers. -/
def FD.chk (D : FD) (n : Nat) (z : Nat → Int) : Int := if 128 < n then 4 else if D.allHas z n = true then 0 else 2

set_option maxHeartbeats 2000000 in
set_option maxRecDepth 100000 in
theorem check_any {D : FD} (hD : D ∈ fieldsL) {ao : Option Addr} {n cap : Nat} {z : Nat → Int} {w : World} (h : SlZ ao n z w) (hl : LtB ao w.heap.size) (hn : n ≤ 1000000) :
    Calls Try.prog 63 #[.int .i64 D.q, .slice ao n cap] w fun e w' => e = .returned (.int .i64 (D.chk n z)) ∧ Below w.heap.size w w' := by
  have HS : Hid (SlZ ao n z w ∧ LtB ao w.heap.size ∧ D ∈ fieldsL) := ⟨h, hl, hD⟩
  clear h hl hD
  go_enter Try.func63, Try.ntmps63
  go_wp2_with fail
  refine (new_any HS.out.2.2 w).mono ?_
  rintro e w1 ⟨F, T, g, rfl, hat, hF, hT, hb1⟩
  have HA : Hid (FAt F T D g w1 ∧ SlZ ao n z w1 ∧ Below w.heap.size w w1) := ⟨hat, HS.out.1.below hb1 HS.out.2.1, hb1⟩
  clear hat hF hT hb1
  by_cases h128 : 128 < n
  · have HV : Hid (D.chk n z = 4) := by show D.chk n z = 4; rw [FD.chk, if_pos h128]
    go_wp2
    go_ret
    exact ⟨ret_int (by rw [HV.out]), HA.out.2.2⟩
  · go_wp2
    go_loopw [22] (fun i wr => ∃ r : Nat, r ≤ n ∧ i = .int .i64 r ∧ Hid (D.allHas z r = true) ∧ wr = w1) (fun i _ => n - (intOf i).toNat)
    case atStart => exact ⟨0, by omega, rfl, rfl, rfl⟩
    case round =>
      obtain ⟨r, hr, rfl, HH, rfl⟩ := hrel
      by_cases hlt : r < n
      · obtain ⟨b, off, rfl, hc⟩ := HA.out.2.1 r hlt
        by_cases hh : D.has (z r) = true
        · have HH2 : Hid (D.allHas z (r + 1) = true) := by show D.allHas z (r + 1) = true; rw [FD.allHas, HH.out, hh]; rfl
          go_wp2_with (go_at_call 102; refine (has_any HA.out.1 _).mono ?_; rintro e w' ⟨rfl, hw⟩; have hw := hw.symm; subst hw)
          go_roundw
          case rel => exact ⟨r + 1, by omega, by go_num, HH2.out, by first | rfl | trivial⟩
          case measure => simp [intOf]; omega
        · have hh' : D.has (z r) = false := by simpa using hh
          have HV : Hid (D.chk n z = 2) := by
            show D.chk n z = 2
            rw [FD.chk, if_neg h128, if_neg]
            intro e
            exact hh (allHas_iff.1 e r hlt)
          clear hh
          go_wp2_with (go_at_call 102; refine (has_any HA.out.1 _).mono ?_; rintro e w' ⟨rfl, hw⟩; have hw := hw.symm; subst hw)
          go_ret
          exact ⟨ret_int (by rw [HV.out]), HA.out.2.2⟩
      · have HV : Hid (D.chk n z = 0) := by
          show D.chk n z = 0
          have e : r = n := by omega
          rw [FD.chk, if_neg h128, if_pos (e ▸ HH.out)]
        go_wp2
        go_ret
        exact ⟨ret_int (by rw [HV.out]), HA.out.2.2⟩
set_option maxHeartbeats 1000000 in
theorem check_none (q : Int) (h : ∀ D ∈ fieldsL, (D.q : Int) ≠ q) (v : Value) (w : World) :
    Calls Try.prog 63 #[.int .i64 q, v] w fun e w' => e = .returned (.int .i64 1) ∧ w' = w := by
  have HB : Hid (∀ D ∈ fieldsL, (D.q : Int) ≠ q) := h
  clear h
  go_enter Try.func63, Try.ntmps63
  go_wp2_with fail
  refine (new_none q w HB.out).mono ?_
  rintro e w' ⟨rfl, hw⟩
  have hw := hw.symm
  subst hw
  go_wp2
  go_ret
  exact ⟨rfl, rfl⟩

/-- What Check says of the first of k lists of which it says anything. -/
def FD.chks (D : FD) (N : Nat → Nat) (Z : Nat → Nat → Int) : Nat → Int
  | 0 => 0
  | k + 1 => if D.chks N Z k = 0 then D.chk (N k) (Z k) else D.chks N Z k
/-- Lists that are handed in, all of them in one slice. -/
structure Many (g k : Nat) (A : Nat → Option Addr) (N C : Nat → Nat) (Z : Nat → Nat → Int) (w : World) : Prop where
  cell : ∀ j, j < k → w.cell? ⟨g, j, none⟩ = some (.slice (A j) (N j) (C j))
  sl : ∀ j, j < k → SlZ (A j) (N j) (Z j) w
  lt : ∀ j, j < k → LtB (A j) w.heap.size
  few : ∀ j, j < k → N j ≤ 1000000
  ltg : g < w.heap.size
theorem Many.below {g k : Nat} {A : Nat → Option Addr} {N C : Nat → Nat} {Z : Nat → Nat → Int} {w w' : World} (h : Many g k A N C Z w) (hb : Below w.heap.size w w') : Many g k A N C Z w' :=
  ⟨fun j hj => ((bcell hb).1 g j h.ltg).trans (h.cell j hj), fun j hj => (h.sl j hj).below hb (h.lt j hj), fun j hj => (h.lt j hj).mono hb.size, h.few, Nat.lt_of_lt_of_le h.ltg hb.size⟩
theorem chks_keep {D : FD} {N : Nat → Nat} {Z : Nat → Nat → Int} {e : Int} (he : e ≠ 0) {r : Nat} (h : D.chks N Z r = e) : ∀ d, D.chks N Z (r + d) = e
  | 0 => h
  | d + 1 => by rw [← Nat.add_assoc, FD.chks, chks_keep he h d, if_neg he]

set_option maxHeartbeats 2000000 in
set_option maxRecDepth 100000 in
theorem over_any {D : FD} (hD : D ∈ fieldsL) {g k cap : Nat} {A : Nat → Option Addr} {N C : Nat → Nat} {Z : Nat → Nat → Int} {w : World} (h : Many g k A N C Z w) (hk : k ≤ 1000) :
    Calls Try.prog 103 #[.int .i64 D.q, .slice (some ⟨g, 0, none⟩) k cap] w fun e w' => Below w.heap.size w w' ∧
      ((D.chks N Z k = 0 ∧ ∃ F T f, e = .returned (.tuple #[.pointer (some ⟨F, 0, none⟩), .int .i64 0]) ∧ FAt F T D f w' ∧ w.heap.size ≤ F ∧ w.heap.size ≤ T) ∨ (D.chks N Z k ≠ 0 ∧ e = .returned (.tuple #[.pointer none, .int .i64 (D.chks N Z k)]))) := by
  have HM : Hid (Many g k A N C Z w ∧ D ∈ fieldsL) := ⟨h, hD⟩
  clear h hD
  go_enter Try.func103, Try.ntmps103
  go_wp2
  go_loopw [11] (fun i wr => ∃ r : Nat, r ≤ k ∧ i = .int .i64 r ∧ Hid (D.chks N Z r = 0) ∧ Many g k A N C Z wr ∧ Below w.heap.size w wr) (fun i _ => k - (intOf i).toNat)
  case atStart => exact ⟨0, by omega, rfl, rfl, HM.out.1, Below.refl _ _⟩
  case round =>
    obtain ⟨r, hr, rfl, HH, hmany, hbel⟩ := hrel
    have HG : Hid (Many g k A N C Z wr ∧ Below w.heap.size w wr) := ⟨hmany, hbel⟩
    clear hmany hbel
    by_cases hlt : r < k
    · have hc := HG.out.1.cell r hlt
      have hib : (r : Int) < (k : Int) := by omega
      obtain ⟨e, he⟩ : ∃ e, e = D.chk (N r) (Z r) := ⟨_, rfl⟩
      have HC : Hid (Calls Try.prog 63 #[.int .i64 D.q, .slice (A r) (N r) (C r)] wr fun x w' => x = .returned (.int .i64 e) ∧ Below wr.heap.size wr w') := by
        show Calls _ _ _ _ _
        rw [he]; exact check_any HM.out.2 (HG.out.1.sl r hlt) (HG.out.1.lt r hlt) (HG.out.1.few r hlt)
      have HE : Hid (D.chks N Z (r + 1) = e) := by show D.chks N Z (r + 1) = e; rw [FD.chks, if_pos HH.out, he]
      clear he
      by_cases h0 : e = 0
      · have hz : (e != 0) = false := by rw [h0]; rfl
        have HE2 : Hid (D.chks N Z (r + 1) = 0) := by show _ = _; rw [HE.out, h0]
        clear h0
        go_wp2_with (go_at_call 63; refine HC.out.mono ?_; rintro x w' ⟨rfl, hb'⟩)
        go_roundw
        case rel => exact ⟨r + 1, by omega, by go_num, HE2.out, HG.out.1.below hb', bel_up HG.out.2 hb'⟩
        case measure => simp [intOf]; omega
      · have hz : (e != 0) = true := by rw [bne_iff_ne]; exact h0
        have HE2 : Hid (D.chks N Z k = e ∧ e ≠ 0) := by
          have h := chks_keep h0 HE.out (k - (r + 1))
          rw [show r + 1 + (k - (r + 1)) = k from by omega] at h
          exact ⟨h, h0⟩
        clear h0
        go_wp2_with (go_at_call 63; refine HC.out.mono ?_; rintro x w' ⟨rfl, hb'⟩)
        go_ret2
        exact ⟨bel_up HG.out.2 hb', Or.inr ⟨by rw [HE2.out.1]; exact HE2.out.2, by rw [HE2.out.1]; rfl⟩⟩
    · have HE : Hid (D.chks N Z k = 0) := by show _ = _; rw [← show r = k from by omega]; exact HH.out
      go_wp2_with fail
      refine (new_any HM.out.2 wr).mono ?_
      rintro x w1 ⟨F, T, f, rfl, hat, hF, hT, hb1⟩
      have HA : Hid (FAt F T D f w1 ∧ wr.heap.size ≤ F ∧ wr.heap.size ≤ T ∧ Below wr.heap.size wr w1) := ⟨hat, hF, hT, hb1⟩
      clear hat hF hT hb1
      go_wp2
      go_ret2
      have hs := HG.out.2.size
      exact ⟨bel_up HG.out.2 HA.out.2.2.2, Or.inl ⟨HE.out, F, T, f, rfl, HA.out.1, by have := HA.out.2.1; omega, by have := HA.out.2.2.1; omega⟩⟩
end Go.Proofs.Ytjkncdmbcckcdaa
