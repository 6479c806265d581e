/- Texts of ours, one behind the other: KR4 KR5 KR6 KR7 KR8 KR9. -/
import Derived.Test.YtpgaakjldlcejaaDoorZW22
import Derived.Test.YtpgaakjldlcejaaDoorZL10
import Derived.Test.YtpgaakjldlcejaaDoorZG3
import Derived.Test.YtpgaakjldlcejaaDoorZS4
/- Golay: sets, as an iterator. -/
namespace Go.Proofs.YtpgaakjldlcejaaDoor
open Go.RowKit Go.Shelf

theorem sets_any (n t : Nat) (w : World) :
    Calls Tryd.prog 20 #[.int .i64 (n : Nat), .int .i64 (t : Nat)] w fun e w' => ∃ b c : Nat, e = .returned (.func (.func 37) #[] #[.pointer (some ⟨b, 0, none⟩), .pointer (some ⟨c, 0, none⟩)]) ∧ w'.cell? ⟨b, 0, none⟩ = some (.int .i64 (n : Nat)) ∧ w'.cell? ⟨c, 0, none⟩ = some (.int .i64 (t : Nat)) ∧ Below w.heap.size w w' := by
  go_enter Tryd.func20, Tryd.ntmps20
  go_wp2
  go_ret
  refine ⟨w.heap.size, w.heap.size + 1, rfl, ?_, ?_, ?_⟩
  · simp
  · simp
  · exact ((Below.refl _ _).alloc (Nat.le_refl _) _).alloc (by simp) _

/-- All sets of t of n places. -/
def slv (n t : Nat) : List (Array Value) := (sls n t 0 0).map fun s => #[.int .u64 (s : Nat)]
theorem slv_len (n t : Nat) : (slv n t).length = (sls n t 0 0).length := by unfold slv; rw [List.length_map]
theorem slv_at {n t r : Nat} (h : r < (slv n t).length) : (slv n t).getD r #[] = #[.int .u64 ((sls n t 0 0).getD r 0 : Nat)] := by
  rw [slv_len] at h
  unfold slv
  simp [List.getD_eq_getElem?_getD, h]

set_option maxHeartbeats 4000000 in
set_option maxRecDepth 100000 in
theorem sets_seq {b c n t : Nat} {w : World} (hcb : w.cell? ⟨b, 0, none⟩ = some (.int .i64 (n : Nat))) (hcc : w.cell? ⟨c, 0, none⟩ = some (.int .i64 (t : Nat))) (hn : n ≤ 64) (ht : t ≤ n) :
    SeqS Tryd.prog 37 #[.pointer (some ⟨b, 0, none⟩), .pointer (some ⟨c, 0, none⟩)] (slv n t) w := by
  intro l J Jx W hbW hl hlW hJ hJx hY hJ0
  have c0 := ((bcell hbW).1 b 0 (cell_lt hcb)).trans hcb
  have c1 := ((bcell hbW).1 c 0 (cell_lt hcc)).trans hcc
  have HC : Hid (Calls Tryd.prog 38 #[.int .u64 0, .int .i64 0, .int .i64 (n : Nat), .int .i64 (t : Nat), .func (.yield l) #[] #[]] W (MoP J (fun Y => ∃ r, r < (slv n t).length ∧ Jx r Y) (slv n t).length)) := by
    have := more_any (n := n) (l := l) (J := J) (Jx := fun Y => ∃ r, r < (slv n t).length ∧ Jx r Y) hn t 0 0 0 W ht (by omega) (by omega) (fun i X hi hj => by
      rw [← slv_len] at hi
      rw [Nat.zero_add] at hj ⊢
      rw [← slv_at hi]
      obtain ⟨fn, tmps, assign, body, hy, hR⟩ := hY i X hi hj
      refine ⟨fn, tmps, assign, body, hy, hR.mono ?_⟩
      rintro e Y (⟨rfl, h⟩ | ⟨rfl, h⟩)
      · exact Or.inl ⟨rfl, h⟩
      · exact Or.inr ⟨rfl, i, hi, h⟩) hJ0
    rw [Nat.zero_add, ← slv_len] at this
    exact this
  refine callsIn_wide.2 ?_
  show Calls Tryd.prog 37 #[.func (.yield l) #[] #[], .pointer (some ⟨b, 0, none⟩), .pointer (some ⟨c, 0, none⟩)] W _
  clear hY hJ hJx hJ0 hbW hcb hcc
  go_enter Tryd.func37, Tryd.ntmps37
  go_wp2_with fail
  refine HC.out.mono ?_
  rintro e Y (⟨rfl, h⟩ | ⟨rfl, h⟩)
  · have H : Hid (J (slv n t).length Y) := h
    clear h
    go_wp2
    exact bodyPost_end (results_none rfl _ _ _) rfl ⟨⟨_, rfl⟩, Or.inl H.out⟩
  · have H : Hid (∃ r, r < (slv n t).length ∧ Jx r Y) := h
    clear h
    go_wp2
    exact bodyPost_end (results_none rfl _ _ _) rfl ⟨⟨_, rfl⟩, Or.inr H.out⟩
end Go.Proofs.YtpgaakjldlcejaaDoor

/- Golay: numbers of sets of up to 64 places, of the reference (after KB2); how many may be gone through. -/
namespace Go.Proofs.YtpgaakjldlcejaaDoor
open Go.RowKit

end Go.Proofs.YtpgaakjldlcejaaDoor

/- Golay: are there few enough sets: checkSets, SetsMay. -/
namespace Go.Proofs.YtpgaakjldlcejaaDoor
open Go.RowKit

/-- Are there few enough sets of up to t places? -/
def smB (n : Nat) : Nat → Bool
  | 0 => true
  | t + 1 => smB n t && decide (chs n (t + 1) ≤ 50000)
def sme (n t : Nat) : Int := if smB n t = true then 0 else 4
theorem smB_no {n t : Nat} (h : ¬ chs n (t + 1) ≤ 50000) : ∀ d, smB n (t + 1 + d) = false
  | 0 => by show (smB n t && decide (chs n (t + 1) ≤ 50000)) = false; rw [decide_eq_false h, Bool.and_false]
  | d + 1 => by show (smB n (t + 1 + d) && _) = false; rw [smB_no h d, Bool.false_and]

set_option maxHeartbeats 4000000 in
set_option maxRecDepth 100000 in
theorem checkSets_any {n t : Nat} (hn : n ≤ 64) (ht : t ≤ n) (w : World) :
    Calls Tryd.prog 36 #[.int .i64 (n : Nat), .int .i64 (t : Nat)] w fun e w' => e = .returned (.int .i64 (sme n t)) ∧ w' = w := by
  go_enter Tryd.func36, Tryd.ntmps36
  go_wp2
  go_loopw [5, 6, 8] (fun vm _ vi wr => ∃ i m : Nat, vm = .int .i64 (m : Nat) ∧ vi = .int .i64 (i : Nat) ∧ i ≤ t ∧ m ≤ 50000 ∧ Hid (m = chs n i ∧ smB n i = true ∧ wr = w)) (fun _ _ vi _ => t - (intOf vi).toNat)
  case atStart => exact ⟨0, 1, rfl, rfl, by omega, by omega, (chs_zero n).symm, rfl, rfl⟩
  case round =>
    obtain ⟨i, m, rfl, rfl, hi, hm, HS⟩ := hrel
    have hw := HS.out.2.2.symm
    subst hw
    by_cases hlt : i < t
    · have hib : (i : Int) < (t : Int) := by omega
      obtain ⟨a, ha⟩ : ∃ a, a = n - i := ⟨_, rfl⟩
      have hai : (n : Int) - (i : Int) = (a : Int) := by omega
      have ha64 : a ≤ 64 := by omega
      obtain ⟨M, hM⟩ : ∃ M, M = m * a := ⟨_, rfl⟩
      have hMb : M ≤ 3200000 := by rw [hM]; exact Nat.mul_le_mul hm ha64
      have hmul : (m : Int) * (a : Int) = (M : Int) := by rw [hM]; simp
      obtain ⟨i1, hi1⟩ : ∃ i1, i1 = i + 1 := ⟨_, rfl⟩
      have hiw : IntKind.i64.wrap ((i : Int) + 1) = (i1 : Int) := by rw [hi1]; exact wrap_to (by omega) (by omega)
      obtain ⟨c, hc⟩ : ∃ c, c = chs n (i + 1) := ⟨_, rfl⟩
      have hdiv : M = c * i1 := by
        have := chs_step n i
        rw [hM, hi1, HS.out.1, ha, hc, Nat.mul_comm (chs n i), ← this, Nat.mul_comm]
      have hi1p : 0 < i1 := by omega
      have hi1z : ((i1 : Int) == 0) = false := by rw [beq_eq_false_iff_ne]; omega
      have hi1n : ¬ (i1 : Int) = 0 := by omega
      have hi1b : i1 ≤ 65 := by omega
      have htd : (M : Int).tdiv (i1 : Int) = (c : Int) := by
        rw [Int.tdiv_eq_ediv_of_nonneg (by omega), hdiv]
        rw [show ((c * i1 : Nat) : Int) = (c : Int) * (i1 : Int) by simp]
        exact Int.mul_ediv_cancel _ (by omega)
      have hcb : c ≤ 3200000 := by
        have : c * 1 ≤ c * i1 := Nat.mul_le_mul_left _ hi1p
        omega
      have HI : Hid (i1 = i + 1 ∧ c = chs n (i + 1)) := ⟨hi1, hc⟩
      clear hdiv hM ha hi1 hc
      by_cases hgt : 50000 < c
      · have hgi : (50000 : Int) < (c : Int) := by omega
        have HE : Hid (sme n t = 4) := by
          have := smB_no (n := n) (t := i) (by rw [← HI.out.2]; omega) (t - (i + 1))
          rw [show i + 1 + (t - (i + 1)) = t by omega] at this
          show (if smB n t = true then (0 : Int) else 4) = 4
          rw [this]; rfl
        go_wp2
        go_ret
        exact ⟨by rw [HE.out]; rfl, rfl⟩
      · have hgi : ¬ (50000 : Int) < (c : Int) := by omega
        have HE : Hid (c = chs n i1 ∧ smB n i1 = true) := by
          refine ⟨by rw [HI.out.1]; exact HI.out.2, ?_⟩
          rw [HI.out.1]
          show (smB n i && decide (chs n (i + 1) ≤ 50000)) = true
          rw [HS.out.2.1, ← HI.out.2, decide_eq_true (by omega)]; rfl
        clear HS
        go_wp2
        go_roundw
        case rel => exact ⟨i1, c, by first | rfl | go_num, by first | rfl | rw [hiw] | (rw [HI.out.1]; go_num), by have := HI.out.1; omega, by omega, HE.out.1, HE.out.2, by first | rfl | trivial⟩
        case measure => have := HI.out.1; simp [intOf]; omega
    · have hib : ¬ (i : Int) < (t : Int) := by omega
      have hie : i = t := by omega
      subst hie
      have HE : Hid (sme n i = 0) := if_pos HS.out.2.1
      go_wp2
      go_ret
      exact ⟨by rw [HE.out]; rfl, rfl⟩

end Go.Proofs.YtpgaakjldlcejaaDoor

/- Golay: checkDesign. -/
namespace Go.Proofs.YtpgaakjldlcejaaDoor
open Go.RowKit

/-- Is there one? -/
def anG (p : Nat → Bool) : Nat → Bool
  | 0 => false
  | n + 1 => anG p n || p n
theorem anG_yes {p : Nat → Bool} {j : Nat} (hp : p j = true) : ∀ n, j < n → anG p n = true
  | 0, h => absurd h (by omega)
  | n + 1, h => by
    show (anG p n || p n) = true
    by_cases e : j = n
    · rw [← e, hp, Bool.or_true]
    · rw [anG_yes hp n (by omega), Bool.true_or]
theorem anG_no {p : Nat → Bool} : ∀ n, anG p n = false → ∀ j, j < n → p j = false
  | 0, _, j, h => absurd h (by omega)
  | n + 1, h, j, hj => by
    have h2 : (anG p n || p n) = false := h
    rw [Bool.or_eq_false_iff] at h2
    by_cases e : j = n
    · rw [e]; exact h2.2
    · exact anG_no n h2.1 j (by omega)
/-- Has a row a place out of range? -/
def gbr (n : Int) (N : Nat → Nat) (Z : Nat → Nat → Int) (i : Nat) : Bool := anG (fun j => decide (Z i j < 0) || decide (n ≤ Z i j)) (N i)
def gpl (n : Int) (N : Nat → Nat) (Z : Nat → Nat → Int) (m : Nat) : Bool := anG (gbr n N Z) m
/-- What is wrong with a design. -/
def gde (n : Int) (m : Nat) (N : Nat → Nat) (Z : Nat → Nat → Int) (t : Int) : Int := if n < 1 ∨ 64 < n ∨ 4096 < m then 4 else if gpl n N Z m = true then 10 else if t < 0 ∨ n < t then 6 else sme n.toNat t.toNat

set_option maxHeartbeats 8000000 in
set_option maxRecDepth 100000 in
theorem checkDesign_any {ao : Option Addr} {m ca : Nat} {A : Nat → Option Addr} {N C : Nat → Nat} {Z : Nat → Nat → Int} (n t : Int) {w : World} (hM : MatZ ao m A N C Z w) (hm : m ≤ 6000) (hN : ∀ i, i < m → N i ≤ 6000) :
    Calls Tryd.prog 18 #[.int .i64 n, .slice ao m ca, .int .i64 t] w fun e w' => e = .returned (.int .i64 (gde n m N Z t)) ∧ w' = w := by
  have HM : Hid (MatZ ao m A N C Z w ∧ ∀ i, i < m → N i ≤ 6000) := ⟨hM, hN⟩
  clear hM hN
  by_cases hl : n < 1 ∨ 64 < n ∨ 4096 < m
  · have HE : Hid (gde n m N Z t = 4) := if_pos hl
    by_cases h1 : n < 1
    · go_enter Tryd.func18, Tryd.ntmps18
      go_wp2
      go_ret
      exact ⟨by rw [HE.out]; rfl, rfl⟩
    · by_cases h2 : 64 < n
      · have h3 : n > 64 := h2
        go_enter Tryd.func18, Tryd.ntmps18
        go_wp2
        go_ret
        exact ⟨by rw [HE.out]; rfl, rfl⟩
      · have h4 : (4096 : Int) < (m : Int) := by omega
        go_enter Tryd.func18, Tryd.ntmps18
        go_wp2
        go_ret
        exact ⟨by rw [HE.out]; rfl, rfl⟩
  · obtain ⟨nn, hnn⟩ : ∃ nn : Nat, n = (nn : Int) := ⟨n.toNat, by omega⟩
    have h1 : ¬ n < 1 := by omega
    have h2 : ¬ 64 < n := by omega
    have h4 : ¬ (4096 : Int) < (m : Int) := by omega
    have HD : Hid (gde n m N Z t = if gpl n N Z m = true then 10 else if t < 0 ∨ n < t then 6 else sme n.toNat t.toNat) := if_neg hl
    have HNN : Hid (n = (nn : Int) ∧ nn ≤ 64) := ⟨hnn, by omega⟩
    clear hl hnn
    go_enter Tryd.func18, Tryd.ntmps18
    go_wp2
    go_loopw [24] (fun vi wr => ∃ i : Nat, vi = .int .i64 (i : Nat) ∧ i ≤ m ∧ Hid (gpl n N Z i = false ∧ wr = w)) (fun vi _ => m - (intOf vi).toNat)
    case atStart => exact ⟨0, rfl, by omega, rfl, rfl⟩
    case round =>
      obtain ⟨i, rfl, hi, HS⟩ := hrel
      have hw := HS.out.2.symm
      subst hw
      by_cases hlt : i < m
      · have hib : (i : Int) < (m : Int) := by omega
        obtain ⟨b, off, e1, hcell⟩ := HM.out.1.cell i hlt
        subst e1
        have hNi := HM.out.2 i hlt
        obtain ⟨k, hk⟩ : ∃ k, k = N i := ⟨_, rfl⟩
        rw [← hk] at hcell hNi
        have HK : Hid (k = N i) := hk
        clear hk
        go_wp2
        go_loopw [30] (fun vj wq => ∃ j : Nat, vj = .int .i64 (j : Nat) ∧ j ≤ k ∧ Hid (anG (fun j => decide (Z i j < 0) || decide (n ≤ Z i j)) j = false ∧ wq = w)) (fun vj _ => k - (intOf vj).toNat)
        case atStart => exact ⟨0, rfl, by omega, rfl, rfl⟩
        case round =>
          obtain ⟨j, rfl, hj, HJ⟩ := hrel
          have hw := HJ.out.2.symm
          subst hw
          by_cases hjl : j < k
          · have hjb : (j : Int) < (k : Int) := by omega
            obtain ⟨b2, off2, e2, hc2⟩ := HM.out.1.sl i hlt j (by rw [← HK.out]; exact hjl)
            obtain ⟨z, hz⟩ : ∃ z, z = Z i j := ⟨_, rfl⟩
            rw [← hz] at hc2
            by_cases hbad : z < 0 ∨ n ≤ z
            · have HE : Hid (gde n m N Z t = 10) := by
                show gde n m N Z t = 10
                rw [HD.out, if_pos]
                refine anG_yes (j := i) ?_ m hlt
                refine anG_yes (j := j) ?_ _ (by rw [← HK.out]; exact hjl)
                rw [← hz]
                simpa using hbad
              by_cases h0 : z < 0
              · clear hz
                rw [e2] at hcell
                go_wp2
                go_ret
                exact ⟨by rw [HE.out]; rfl, rfl⟩
              · have hnz : n ≤ z := by omega
                clear hz hbad
                rw [e2] at hcell
                go_wp2
                go_ret
                exact ⟨by rw [HE.out]; rfl, rfl⟩
            · have h0 : ¬ z < 0 := by omega
              have hnz : ¬ n ≤ z := by omega
              have HN2 : Hid (anG (fun j => decide (Z i j < 0) || decide (n ≤ Z i j)) (j + 1) = false) := by
                show (anG (fun j => decide (Z i j < 0) || decide (n ≤ Z i j)) j || (decide (Z i j < 0) || decide (n ≤ Z i j))) = false
                rw [HJ.out.1, ← hz, decide_eq_false h0, decide_eq_false hnz]; rfl
              clear hz hbad HJ
              rw [e2] at hcell
              go_wp2
              go_roundw
              case rel => exact ⟨j + 1, by go_num, by omega, HN2.out, by first | rfl | trivial⟩
              case measure => simp [intOf]; omega
          · have hjb : ¬ (j : Int) < (k : Int) := by omega
            have HN2 : Hid (gpl n N Z (i + 1) = false) := by
              show (gpl n N Z i || gbr n N Z i) = false
              rw [HS.out.1, Bool.false_or]
              unfold gbr
              rw [← HK.out, show k = j by omega]
              exact HJ.out.1
            clear HJ
            go_wp2
            go_roundw
            case rel => exact ⟨i + 1, by go_num, by omega, HN2.out, by first | rfl | trivial⟩
            case measure => simp [intOf]; omega
      · have hib : ¬ (i : Int) < (m : Int) := by omega
        have hie : i = m := by omega
        subst hie
        have HE : Hid (gde n i N Z t = if t < 0 ∨ n < t then 6 else sme n.toNat t.toNat) := by
          show gde n i N Z t = _
          rw [HD.out, HS.out.1]; rfl
        clear HD HS
        by_cases ht : t < 0 ∨ n < t
        · have HF : Hid (gde n i N Z t = 6) := by show _ = _; rw [HE.out, if_pos ht]
          clear HE
          by_cases h0 : t < 0
          · clear ht
            go_wp2
            go_ret
            exact ⟨by rw [HF.out]; rfl, rfl⟩
          · have hnt : n < t := by omega
            clear ht
            go_wp2
            go_ret
            exact ⟨by rw [HF.out]; rfl, rfl⟩
        · have h0 : ¬ t < 0 := by omega
          have hnt : ¬ n < t := by omega
          obtain ⟨e, he⟩ : ∃ e, e = sme n.toNat t.toNat := ⟨_, rfl⟩
          have HF : Hid (gde n i N Z t = e) := by show _ = _; rw [HE.out, if_neg ht, he]
          have HC : Hid (Calls Tryd.prog 36 #[.int .i64 n, .int .i64 t] w fun x w' => x = .returned (.int .i64 e) ∧ w' = w) := by
            show Calls _ _ _ _ _
            obtain ⟨g1, g2⟩ := HNN.out
            obtain ⟨tt, htt⟩ : ∃ tt : Nat, t = (tt : Int) := ⟨t.toNat, by omega⟩
            rw [he, htt, g1]
            have := checkSets_any (n := nn) (t := tt) g2 (by omega) w
            rw [Int.toNat_natCast, Int.toNat_natCast]
            exact this
          clear HE he ht
          go_wp2_with fail
          refine HC.out.mono ?_
          rintro x w' ⟨rfl, hw⟩
          have hw := hw.symm
          subst hw
          go_wp2
          go_ret
          exact ⟨by rw [HF.out]; rfl, rfl⟩
end Go.Proofs.YtpgaakjldlcejaaDoor

/- Golay: the reference's Designed, DesignOf. -/
namespace Go.Proofs.YtpgaakjldlcejaaDoor
open Go.RowKit

/-- Sets one after another: in how many blocks each lies; none: not alike. -/
def dsr (c : Nat → Nat) : List Nat → Int → Option Int
  | [], x => some x
  | s :: l, x => if x < 0 ∨ (c s : Int) = x then dsr c l (c s) else none
end Go.Proofs.YtpgaakjldlcejaaDoor

/- Golay: the reference's DesignOf. -/
namespace Go.Proofs.YtpgaakjldlcejaaDoor
open Go.RowKit Go.Sort

/-- The blocks as numbers. -/
def bkf (N : Nat → Nat) (Z : Nat → Nat → Int) : Nat → Nat := fun i => sbt (Z i) (N i)
theorem bkf_lt {n : Int} {m : Nat} {N : Nat → Nat} {Z : Nat → Nat → Int} (hn : n ≤ 64) (h : gpl n N Z m = false) {i : Nat} (hi : i < m) : (∀ j, j < N i → 0 ≤ Z i j ∧ Z i j < 64) ∧ bkf N Z i < 18446744073709551616 := by
  have h1 : ∀ j, j < N i → 0 ≤ Z i j ∧ Z i j < 64 := fun j hj => by
    have := anG_no _ (anG_no _ h i hi) j hj
    rw [Bool.or_eq_false_iff, decide_eq_false_iff_not, decide_eq_false_iff_not] at this
    omega
  exact ⟨h1, sbt_lt (N i) (fun j hj => by have := h1 j hj; omega)⟩
end Go.Proofs.YtpgaakjldlcejaaDoor
