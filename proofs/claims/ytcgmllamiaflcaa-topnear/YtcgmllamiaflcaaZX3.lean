/- Texts of ours, one behind the other: X3 X4 X5. -/
import Derived.Test.YtcgmllamiaflcaaZT2
import Derived.Shelf.Abstract
/- The library's search with a function value: where the first number is of which it holds; which row may stand in a matrix (checkRow). -/
namespace Go.Proofs.Ytcgmllamiaflcaa
open Go.RowKit

set_option maxHeartbeats 2000000 in
set_option maxRecDepth 100000 in
theorem indexInts_any {gf : Nat} {lb : Array Value} (eg : ∀ args w, (callFunc gf args).run Try.prog w = .ok (.enter gf args) w) {ao : Option Addr} {n cap : Nat} {z : Nat → Int} {p : Nat → Bool} {w : World}
    (hs : SlZ ao n z w) (hn : n ≤ 1000000) (hp : ∀ j, j < n → Calls Try.prog gf (#[.int .i64 (z j)] ++ lb) w fun e w' => e = .returned (.bool (p j)) ∧ w' = w) :
    Calls Try.prog 89 #[.slice ao n cap, .func (.func gf) #[] lb] w fun e w' => w' = w ∧ ((∃ i : Nat, i < n ∧ p i = true ∧ (∀ j, j < i → p j = false) ∧ e = .returned (.int .i64 i)) ∨ ((∀ j, j < n → p j = false) ∧ e = .returned (.int .i64 (-1)))) := by
  have HS : Hid (SlZ ao n z w ∧ ∀ j, j < n → Calls Try.prog gf (#[.int .i64 (z j)] ++ lb) w fun e w' => e = .returned (.bool (p j)) ∧ w' = w) := ⟨hs, hp⟩
  clear hs hp
  go_enter Try.func89, Try.ntmps89
  go_wp2
  go_loopw [5, 8] (fun _ i wr => ∃ r : Nat, r ≤ n ∧ i = .int .i64 r ∧ Hid (∀ j, j < r → p j = false) ∧ wr = w) (fun _ i _ => n - (intOf i).toNat)
  case atStart => exact ⟨0, by omega, rfl, (show Hid _ from fun j hj => by omega), rfl⟩
  case round =>
    obtain ⟨r, hr, rfl, HH, rfl⟩ := hrel
    by_cases hlt : r < n
    · obtain ⟨b, off, rfl, hcz⟩ := HS.out.1 r hlt
      have hib : (r : Int) < (n : Int) := by omega
      have hcall := HS.out.2 r hlt
      by_cases hh : p r = true
      · have HV : Hid (p r = true) := hh
        rw [hh] at hcall
        clear hh
        go_wp2_with (go_at_fn gf; refine hcall.mono ?_; rintro e w' ⟨rfl, hw⟩; have hw := hw.symm; subst hw)
        go_ret
        exact ⟨rfl, Or.inl ⟨r, hlt, HV.out, HH.out, rfl⟩⟩
      · have hh' : p r = false := by simpa using hh
        have HV : Hid (∀ j, j < r + 1 → p j = false) := fun j hj => by
          by_cases e : j = r
          · rw [e]; exact hh'
          · exact HH.out j (by omega)
        rw [hh'] at hcall
        clear hh hh'
        go_wp2_with (go_at_fn gf; refine hcall.mono ?_; rintro e w' ⟨rfl, hw⟩; have hw := hw.symm; subst hw)
        go_roundw
        case rel => exact ⟨r + 1, by omega, by go_num, HV.out, by first | rfl | trivial⟩
        case measure => simp [intOf]; omega
    · have HV : Hid (∀ j, j < n → p j = false) := fun j hj => HH.out j (by omega)
      go_wp2
      go_ret
      exact ⟨rfl, Or.inr ⟨HV.out, rfl⟩⟩
end Go.Proofs.Ytcgmllamiaflcaa

/- The program's matrices: which row may stand (checkRow), which matrix may be (Check), over which field (over). -/
namespace Go.Proofs.Ytcgmllamiaflcaa
open Go.RowKit

theorem enters_hasnt : ∀ args w, (callFunc 102 args).run Try.prog w = .ok (.enter 102 args) w :=
  enters_of Try.func102 (by kernel_rfl) rfl

set_option maxHeartbeats 2000000 in
set_option maxRecDepth 100000 in
theorem containsHas_any {D : FD} {F T B : Nat} {g : Nat → Value} {ao : Option Addr} {n cap : Nat} {z : Nat → Int} {w : World} (h : FAt F T D g w) (hc : w.cell? ⟨B, 0, none⟩ = some (.pointer (some ⟨F, 0, none⟩))) (hs : SlZ ao n z w) (hn : n ≤ 1000000) :
    Calls Try.prog 69 #[.slice ao n cap, .func (.func 102) #[] #[.pointer (some ⟨B, 0, none⟩)]] w fun e w' => e = .returned (.bool (!D.allHas z n)) ∧ w' = w := by
  have HS : Hid (∀ cap, Calls Try.prog 89 #[.slice ao n cap, .func (.func 102) #[] #[.pointer (some ⟨B, 0, none⟩)]] w fun e w' => w' = w ∧ ∃ i : Int, e = .returned (.int .i64 i) ∧ decide (0 ≤ i) = !D.allHas z n) := fun cap => by
    have hp : ∀ j, j < n → Calls Try.prog 102 (#[.int .i64 (z j)] ++ #[.pointer (some ⟨B, 0, none⟩)]) w fun e w' => e = .returned (.bool (!D.has (z j))) ∧ w' = w := fun j _ => by
      have e : (#[Value.int .i64 (z j)] ++ #[Value.pointer (some ⟨B, 0, none⟩)] : Array Value) = #[.int .i64 (z j), .pointer (some ⟨B, 0, none⟩)] := rfl
      rw [e]
      exact hasnt_any h hc (z j)
    refine (indexInts_any (cap := cap) (p := fun j => !D.has (z j)) enters_hasnt hs hn hp).mono ?_
    rintro e w' ⟨rfl, ⟨i, hi, hpi, _, rfl⟩ | ⟨ha, rfl⟩⟩
    · refine ⟨rfl, _, rfl, ?_⟩
      have h1 : D.allHas z n = false := by
        rw [← Bool.not_eq_true]
        intro e
        have h2 := allHas_iff.1 e i hi
        have hpi' : (!D.has (z i)) = true := hpi
        rw [h2] at hpi'
        cases hpi'
      rw [h1]
      simp
    · refine ⟨rfl, _, rfl, ?_⟩
      have h1 : D.allHas z n = true := allHas_iff.2 fun j hj => by
        have h2 : (!D.has (z j)) = false := ha j hj
        simpa using h2
      rw [h1]
      rfl
  clear h hc hs
  obtain ⟨y, hy⟩ : ∃ y, y = !D.allHas z n := ⟨_, rfl⟩
  rw [← hy]
  have HY : Hid (y = !D.allHas z n) := hy
  clear hy
  go_enter Try.func69, Try.ntmps69
  go_wp2_with (go_at_call 89; refine (HS.out _).mono ?_; rintro e w' ⟨hw, i, rfl, hi⟩; rw [← HY.out] at hi; have hw := hw.symm; subst hw)
  go_ret
  exact ⟨by first | rfl | simp_all, rfl⟩

set_option maxHeartbeats 2000000 in
set_option maxRecDepth 100000 in
theorem checkRow_any {D : FD} {F T : Nat} {g : Nat → Value} {ao : Option Addr} {n cap n0 : Nat} {z : Nat → Int} {w : World} (h : FAt F T D g w) (hT : T < w.heap.size) (hs : SlZ ao n z w) (hn : n ≤ 1000000) (hn0 : n0 ≤ 1000000) :
    Calls Try.prog 100 #[.pointer (some ⟨F, 0, none⟩), .slice ao n cap, .int .i64 n0] w fun e w' => e = .returned (.int .i64 (D.mrow n0 n z)) ∧ Below w.heap.size w w' := by
  have HS : Hid (FAt F T D g (w.alloc (.cells #[.pointer (some ⟨F, 0, none⟩)] 37)) ∧ SlZ ao n z (w.alloc (.cells #[.pointer (some ⟨F, 0, none⟩)] 37)) ∧ Below w.heap.size w (w.alloc (.cells #[.pointer (some ⟨F, 0, none⟩)] 37))) := by
    have hb : Below w.heap.size w (w.alloc (.cells #[.pointer (some ⟨F, 0, none⟩)] 37)) := (Below.refl _ _).alloc (Nat.le_refl _) _
    exact ⟨h.below hb h.ltF hT, slz_below hs hb, hb⟩
  clear h hs hT
  by_cases h1 : n = n0
  · subst h1
    by_cases h2 : n = 0
    · have HV : Hid (D.mrow n n z = 3) := by show _ = _; unfold FD.mrow; rw [if_pos (Or.inr h2)]
      subst h2
      go_enter Try.func100, Try.ntmps100
      go_wp2
      go_ret
      exact ⟨ret_int (by rw [HV.out]), HS.out.2.2⟩
    · have h2z : ((n : Int) == 0) = false := by rw [beq_eq_false_iff_ne]; omega
      by_cases h3 : 64 < n
      · have HV : Hid (D.mrow n n z = 4) := by show _ = _; unfold FD.mrow; rw [if_neg (by omega), if_pos h3]
        have h3z : (64 : Int) < (n : Int) := by omega
        go_enter Try.func100, Try.ntmps100
        go_wp2
        go_ret
        exact ⟨ret_int (by rw [HV.out]), HS.out.2.2⟩
      · have h3z : ¬ (64 : Int) < (n : Int) := by omega
        obtain ⟨y, hy⟩ : ∃ y, y = D.allHas z n := ⟨_, rfl⟩
        have HC : Hid (∀ cap, Calls Try.prog 69 #[.slice ao n cap, .func (.func 102) #[] #[.pointer (some ⟨w.heap.size, 0, none⟩)]] (w.alloc (.cells #[.pointer (some ⟨F, 0, none⟩)] 37)) fun e w' => e = .returned (.bool (!y)) ∧ w' = w.alloc (.cells #[.pointer (some ⟨F, 0, none⟩)] 37)) := fun cap => by
          rw [hy]; exact containsHas_any HS.out.1 (by simp) HS.out.2.1 hn
        have HV : Hid (D.mrow n n z = if y = true then 0 else 2) := by show _ = _; unfold FD.mrow; rw [if_neg (by omega), if_neg h3, hy]
        clear hy
        cases y
        · go_enter Try.func100, Try.ntmps100
          go_wp2_with (go_at_call 69; refine (HC.out _).mono ?_; rintro e w' ⟨rfl, rfl⟩)
          go_ret
          exact ⟨ret_int (by rw [HV.out]; rfl), HS.out.2.2⟩
        · go_enter Try.func100, Try.ntmps100
          go_wp2_with (go_at_call 69; refine (HC.out _).mono ?_; rintro e w' ⟨rfl, rfl⟩)
          go_ret
          exact ⟨ret_int (by rw [HV.out]; rfl), HS.out.2.2⟩
  · have HV : Hid (D.mrow n0 n z = 3) := by show _ = _; unfold FD.mrow; rw [if_pos (Or.inl h1)]
    have h1z : ((n : Int) != (n0 : Int)) = true := by rw [bne_iff_ne]; omega
    go_enter Try.func100, Try.ntmps100
    go_wp2
    go_ret
    exact ⟨ret_int (by rw [HV.out]), HS.out.2.2⟩
end Go.Proofs.Ytcgmllamiaflcaa

/- The program's matrices: which may be (Check), and over which field (over). -/
namespace Go.Proofs.Ytcgmllamiaflcaa
open Go.RowKit

set_option maxHeartbeats 4000000 in
set_option maxRecDepth 100000 in
theorem mcheck_any {D : FD} (hD : D ∈ fieldsL) {ao : Option Addr} {m ca : Nat} {A : Nat → Option Addr} {N C : Nat → Nat} {Z : Nat → Nat → Int} {w : World} (hA : MatZ ao m A N C Z w) (hm : m ≤ 1000000) :
    Calls Try.prog 90 #[.int .i64 D.q, .slice ao m ca] w fun e w' => e = .returned (.int .i64 (D.mchk m N Z)) ∧ Below w.heap.size w w' := by
  have HS : Hid (D ∈ fieldsL ∧ MatZ ao m A N C Z w) := ⟨hD, hA⟩
  clear hD hA
  go_enter Try.func90, Try.ntmps90
  go_wp2_with fail
  refine (new_any HS.out.1 w).mono ?_
  rintro e w1 ⟨F, T, g, rfl, hat, hF, hT, hb1⟩
  have HA : Hid (FAt F T D g w1 ∧ Below w.heap.size w w1) := ⟨hat, hb1⟩
  clear hat hF hT hb1
  by_cases h64 : 64 < m
  · have HV : Hid (D.mchk m N Z = 4) := by show _ = _; unfold FD.mchk; rw [if_pos h64]
    have hz : (64 : Int) < (m : Int) := by omega
    go_wp2
    go_ret
    exact ⟨ret_int (by rw [HV.out]), HA.out.2⟩
  · have hz : ¬ (64 : Int) < (m : Int) := by omega
    go_wp2
    go_loopw [23] (fun i wr => ∃ r : Nat, r ≤ m ∧ i = .int .i64 r ∧ Hid (D.mchks N Z r = 0 ∧ FAt F T D g wr ∧ Below w.heap.size w wr)) (fun i _ => m - (intOf i).toNat)
    case atStart => exact ⟨0, by omega, rfl, rfl, HA.out.1, HA.out.2⟩
    case round =>
      clear HA
      obtain ⟨r, hr, rfl, HG⟩ := hrel
      rename World => wA
      by_cases hlt : r < m
      · have hib : (r : Int) < (m : Int) := by omega
        have hm0 : (0 : Int) < (m : Int) := by omega
        obtain ⟨b, off, rfl, hci⟩ := (HS.out.2.below HG.out.2.2).cell r hlt
        obtain ⟨b', off', e', hc0⟩ := (HS.out.2.below HG.out.2.2).cell 0 (by omega)
        cases e'
        rw [Nat.add_zero] at hc0
        obtain ⟨Nr, hNr⟩ : ∃ Nr, Nr = N r := ⟨_, rfl⟩
        obtain ⟨N0, hN0⟩ : ∃ N0, N0 = N 0 := ⟨_, rfl⟩
        obtain ⟨e, he⟩ : ∃ e, e = D.mrow N0 Nr (Z r) := ⟨_, rfl⟩
        have hf0 : N0 ≤ 1000000 := by rw [hN0]; exact HS.out.2.few 0 (by omega)
        have hfr : Nr ≤ 1000000 := by rw [hNr]; exact HS.out.2.few r hlt
        have HC : Hid (∀ cap, Calls Try.prog 100 #[.pointer (some ⟨F, 0, none⟩), .slice (A r) Nr cap, .int .i64 N0] wA fun x w' => x = .returned (.int .i64 e) ∧ Below wA.heap.size wA w') := fun cap => by
          rw [he]
          exact checkRow_any HG.out.2.1 HG.out.2.1.row.lt (by rw [hNr]; exact (HS.out.2.below HG.out.2.2).sl r hlt) hfr hf0
        have HE : Hid (D.mrow (N 0) (N r) (Z r) = e) := by show _ = _; rw [he, hN0, hNr]
        rw [← hNr] at hci
        rw [← hN0] at hc0
        clear he hNr hN0
        by_cases h0 : e = 0
        · have hz0 : (e != 0) = false := by rw [h0]; rfl
          have HE2 : Hid (D.mchks N Z (r + 1) = 0) := by show _ = _; rw [FD.mchks, if_pos HG.out.1, HE.out, h0]
          clear h0
          go_wp2_with (go_at_call 100; refine (HC.out _).mono ?_; rintro x w' ⟨rfl, hb'⟩)
          go_roundw
          case rel => exact ⟨r + 1, by omega, by go_num, HE2.out, HG.out.2.1.below hb' HG.out.2.1.ltF HG.out.2.1.row.lt, bel_up HG.out.2.2 hb'⟩
          case measure => simp [intOf]; omega
        · have hz0 : (e != 0) = true := by rw [bne_iff_ne]; exact h0
          have HE2 : Hid (D.mchk m N Z = e) := mchks_to h0 HG.out.1 hlt h64 HE.out
          clear h0
          go_wp2_with (go_at_call 100; refine (HC.out _).mono ?_; rintro x w' ⟨rfl, hb'⟩)
          go_ret
          exact ⟨ret_int (by rw [HE2.out]), bel_up HG.out.2.2 hb'⟩
      · have HV : Hid (D.mchk m N Z = 0) := by
          show _ = _
          unfold FD.mchk
          rw [if_neg h64, ← show r = m from by omega]
          exact HG.out.1
        go_wp2
        go_ret
        exact ⟨ret_int (by rw [HV.out]), HG.out.2.2⟩

/-- Matrices that are handed in, all of them in one slice. -/
structure ManyM (g k : Nat) (AO : Nat → Option Addr) (M CA : Nat → Nat) (A : Nat → Nat → Option Addr) (N C : Nat → Nat → Nat) (Z : Nat → Nat → Nat → Int) (w : World) : Prop where
  cell : ∀ j, j < k → w.cell? ⟨g, j, none⟩ = some (.slice (AO j) (M j) (CA j))
  mz : ∀ j, j < k → MatZ (AO j) (M j) (A j) (N j) (C j) (Z j) w
  few : ∀ j, j < k → M j ≤ 1000000
  ltg : g < w.heap.size
theorem ManyM.below {g k : Nat} {AO : Nat → Option Addr} {M CA : Nat → Nat} {A : Nat → Nat → Option Addr} {N C : Nat → Nat → Nat} {Z : Nat → Nat → Nat → Int} {w w' : World} (h : ManyM g k AO M CA A N C Z w) (hb : Below w.heap.size w w') : ManyM g k AO M CA A N C Z w' :=
  ⟨fun j hj => ((bcell hb).1 g j h.ltg).trans (h.cell j hj), fun j hj => (h.mz j hj).below hb, h.few, Nat.lt_of_lt_of_le h.ltg hb.size⟩
/-- What Check says of the first of k matrices of which it says anything. -/
def FD.mmchk (D : FD) (M : Nat → Nat) (N : Nat → Nat → Nat) (Z : Nat → Nat → Nat → Int) : Nat → Int
  | 0 => 0
  | k + 1 => if D.mmchk M N Z k = 0 then D.mchk (M k) (N k) (Z k) else D.mmchk M N Z k
theorem mmchk_keep {D : FD} {M : Nat → Nat} {N : Nat → Nat → Nat} {Z : Nat → Nat → Nat → Int} {e : Int} (he : e ≠ 0) {r : Nat} (h : D.mmchk M N Z r = e) : ∀ d, D.mmchk M N Z (r + d) = e
  | 0 => h
  | d + 1 => by rw [← Nat.add_assoc, FD.mmchk, mmchk_keep he h d, if_neg he]

set_option maxHeartbeats 2000000 in
set_option maxRecDepth 100000 in
theorem mover_any {D : FD} (hD : D ∈ fieldsL) {g k cap : Nat} {AO : Nat → Option Addr} {M CA : Nat → Nat} {A : Nat → Nat → Option Addr} {N C : Nat → Nat → Nat} {Z : Nat → Nat → Nat → Int} {w : World} (h : ManyM g k AO M CA A N C Z w) (hk : k ≤ 1000) :
    Calls Try.prog 72 #[.int .i64 D.q, .slice (some ⟨g, 0, none⟩) k cap] w fun e w' => Below w.heap.size w w' ∧
      ((D.mmchk M N Z k = 0 ∧ ∃ F T f, e = .returned (.tuple #[.pointer (some ⟨F, 0, none⟩), .int .i64 0]) ∧ FAt F T D f w' ∧ w.heap.size ≤ F ∧ w.heap.size ≤ T) ∨ (D.mmchk M N Z k ≠ 0 ∧ e = .returned (.tuple #[.pointer none, .int .i64 (D.mmchk M N Z k)]))) := by
  have HM : Hid (ManyM g k AO M CA A N C Z w ∧ D ∈ fieldsL) := ⟨h, hD⟩
  clear h hD
  go_enter Try.func72, Try.ntmps72
  go_wp2
  go_loopw [11] (fun i wr => ∃ r : Nat, r ≤ k ∧ i = .int .i64 r ∧ Hid (D.mmchk M N Z r = 0) ∧ ManyM g k AO M CA A N C Z wr ∧ Below w.heap.size w wr) (fun i _ => k - (intOf i).toNat)
  case atStart => exact ⟨0, by omega, rfl, rfl, HM.out.1, Below.refl _ _⟩
  case round =>
    obtain ⟨r, hr, rfl, HH, hmany, hbel⟩ := hrel
    have HG : Hid (ManyM g k AO M CA A N C Z wr ∧ Below w.heap.size w wr) := ⟨hmany, hbel⟩
    clear hmany hbel
    by_cases hlt : r < k
    · have hc := HG.out.1.cell r hlt
      have hib : (r : Int) < (k : Int) := by omega
      obtain ⟨e, he⟩ : ∃ e, e = D.mchk (M r) (N r) (Z r) := ⟨_, rfl⟩
      have HC : Hid (Calls Try.prog 90 #[.int .i64 D.q, .slice (AO r) (M r) (CA r)] wr fun x w' => x = .returned (.int .i64 e) ∧ Below wr.heap.size wr w') := by
        show Calls _ _ _ _ _
        rw [he]; exact mcheck_any HM.out.2 (HG.out.1.mz r hlt) (HG.out.1.few r hlt)
      have HE : Hid (D.mmchk M N Z (r + 1) = e) := by show D.mmchk M N Z (r + 1) = e; rw [FD.mmchk, if_pos HH.out, he]
      clear he
      by_cases h0 : e = 0
      · have hz : (e != 0) = false := by rw [h0]; rfl
        have HE2 : Hid (D.mmchk M N Z (r + 1) = 0) := by show _ = _; rw [HE.out, h0]
        clear h0
        go_wp2_with (go_at_call 90; refine HC.out.mono ?_; rintro x w' ⟨rfl, hb'⟩)
        go_roundw
        case rel => exact ⟨r + 1, by omega, by go_num, HE2.out, HG.out.1.below hb', bel_up HG.out.2 hb'⟩
        case measure => simp [intOf]; omega
      · have hz : (e != 0) = true := by rw [bne_iff_ne]; exact h0
        have HE2 : Hid (D.mmchk M N Z k = e ∧ e ≠ 0) := by
          have h := mmchk_keep h0 HE.out (k - (r + 1))
          rw [show r + 1 + (k - (r + 1)) = k from by omega] at h
          exact ⟨h, h0⟩
        clear h0
        go_wp2_with (go_at_call 90; refine HC.out.mono ?_; rintro x w' ⟨rfl, hb'⟩)
        go_ret2
        exact ⟨bel_up HG.out.2 hb', Or.inr ⟨by rw [HE2.out.1]; exact HE2.out.2, by rw [HE2.out.1]; rfl⟩⟩
    · have HE : Hid (D.mmchk M N Z k = 0) := by show _ = _; rw [← show r = k from by omega]; exact HH.out
      go_wp2_with fail
      refine (new_any HM.out.2 wr).mono ?_
      rintro x w1 ⟨F, T, f, rfl, hat, hF, hT, hb1⟩
      have HA : Hid (FAt F T D f w1 ∧ wr.heap.size ≤ F ∧ wr.heap.size ≤ T ∧ Below wr.heap.size wr w1) := ⟨hat, hF, hT, hb1⟩
      clear hat hF hT hb1
      go_wp2
      go_ret2
      have hs := HG.out.2.size
      exact ⟨bel_up HG.out.2 HA.out.2.2.2, Or.inl ⟨HE.out, F, T, f, rfl, HA.out.1, by have := HA.out.2.1; omega, by have := HA.out.2.2.1; omega⟩⟩
end Go.Proofs.Ytcgmllamiaflcaa
