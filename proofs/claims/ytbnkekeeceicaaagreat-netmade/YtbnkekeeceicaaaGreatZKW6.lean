/- Texts of ours, one behind the other: KW6 KW7. -/
import Derived.Test.YtbnkekeeceicaaaGreatZKW3
import Derived.Test.YtbnkekeeceicaaaGreatZR5
import Derived.Deep.OwnRows
import Derived.Test.YtbnkekeeceicaaaGreatZS90
/- Nets: a stream of as many ways as there can be (fill). -/
namespace Go.Proofs.YtbnkekeeceicaaaGreat
open Go.RowKit Go.Sort Go.Maps

theorem StB.many {B ub n t k : Nat} {eo : Option Addr} {m ec : Nat} {us : Nat → Bool} {w : World} (h : StB B ub n t k eo m ec us w) (k' : Nat) : StB B ub n t k' eo m ec us (w.setCell ⟨B, 4, none⟩ (.int .i64 (k' : Nat))) := by
  refine ⟨?_, h.row.other (Below.heap_setCell _ _ _ _ (fun e => h.ne e.symm)), h.ne⟩
  rw [heap_setCell_same w B 4 _ _ _ h.blk]
  rfl
/-- What fill tells. -/
def FilP (n t most : Nat) (eo : Option Addr) (m ec : Nat) (F T : Nat → Nat) (w : World) (r : Ending) (w' : World) : Prop := ∃ B ub us k, r = .returned (.pointer (some ⟨B, 0, none⟩)) ∧ StB B ub n t k eo m ec us w' ∧ Flw m F T us t k ∧ k ≤ most ∧ (k < most → ∃ L bt, Rch m F T us L bt ∧ t ∉ L) ∧ (w.heap.size ≤ B ∧ w.heap.size ≤ ub) ∧ Below w.heap.size w w'
theorem madeB (m : Nat) (w : World) : RowF w.heap.size m 4 (fun _ => .bool false) (w.alloc (.cells (madeCells #[.bool false] m) 4)) := by
  refine ⟨_, two_new _, ?_, fun o ho => ?_⟩
  · simp [madeCells]
  · simp [madeCells, ho, Nat.mod_one]
set_option maxHeartbeats 8000000 in
set_option maxRecDepth 100000 in
theorem sfill_any {n t most : Nat} {eo : Option Addr} {m ec : Nat} {F T : Nat → Nat} {w : World} (hE : EdZ eo m (fun i => ((F i : Nat) : Int)) (fun i => ((T i : Nat) : Int)) w) (hN : Nt n m F T) (hn : 0 < n) (hn10 : n ≤ 10) (hm : m ≤ 100) (ht : t < n) (hmo : most ≤ 100) :
    Calls Tryz.prog 22 #[.agg #[.int .i64 (n : Nat), .slice eo m ec], .int .i64 (t : Nat), .int .i64 (most : Nat)] w (FilP n t most eo m ec F T w) := by
  obtain ⟨i0, hi, hz0, hz1, hz2⟩ := info_parts Tryz.infoBool
  have hrun := run_make_row (P := Tryz.prog) 54 4 i0 (.bool false) Tryz.underlying54 hi hz0 hz1 rfl .i64 .i64 m (by rw [hz2]; omega) (by omega)
  have HS : Hid (EdZ eo m (fun i => ((F i : Nat) : Int)) (fun i => ((T i : Nat) : Int)) w ∧ Nt n m F T) := ⟨hE, hN⟩
  clear hE hN hi hz0 hz1 hz2
  go_enter Tryz.func22, Tryz.ntmps22
  go_upto_region 1 with fail
  go_region
  obtain ⟨w3, hw3⟩ : ∃ w3, w3 = (((w.alloc (.cells #[.int .i64 (n : Nat), .slice eo m ec] 24)).alloc (.cells (madeCells #[.bool false] m) 4)).alloc (.cells #[.int .i64 (n : Nat), .slice eo m ec, .int .i64 (t : Nat), .slice (some ⟨w.heap.size + 1, 0, none⟩) m m, .int .i64 0] 56)).drew := ⟨_, rfl⟩
  rw [← hw3]
  obtain ⟨B0, hB0⟩ : ∃ B0, B0 = w.heap.size := ⟨_, rfl⟩
  have H3 : Hid (StB (B0 + 1 + 1) (B0 + 1) n t 0 eo m ec (fun _ => false) w3 ∧ Below w.heap.size w w3 ∧ B0 = w.heap.size) := by
    refine ⟨⟨?_, ?_, by omega⟩, ?_, hB0⟩
    · rw [hw3, hB0]
      have h := two_new (w := (w.alloc (.cells #[.int .i64 (n : Nat), .slice eo m ec] 24)).alloc (.cells (madeCells #[.bool false] m) 4)) (.cells #[.int .i64 (n : Nat), .slice eo m ec, .int .i64 (t : Nat), .slice (some ⟨w.heap.size + 1, 0, none⟩) m m, .int .i64 0] 56)
      rw [World.size_alloc, World.size_alloc] at h
      exact h
    · have h := madeB m (w.alloc (.cells #[.int .i64 (n : Nat), .slice eo m ec] 24))
      rw [World.size_alloc] at h
      rw [hw3, hB0]
      exact h.other (Below.heap_alloc _ _ _ (by simp))
    · rw [hw3]
      exact ((((Below.refl _ _).alloc (Nat.le_refl _) _).alloc (by simp) _).alloc (by simp; omega) _).drew
  rw [← hB0]
  clear hrun hw3 hB0
  go_wp2
  go_loopg [16] most (fun gk _ wr => ∃ (k : Nat) (us : Nat → Bool), gk = most - k ∧ k ≤ most ∧ Hid (StB (B0 + 1 + 1) (B0 + 1) n t k eo m ec us wr ∧ Flw m F T us t k ∧ Below w.heap.size w wr))
  case atStart => exact ⟨0, fun _ => false, by omega, by omega, H3.out.1, Flw.none m F T t, H3.out.2.1⟩
  case round =>
    obtain ⟨k, us, rfl, hk, HI⟩ := hrel
    rename World => wr
    have c4 := HI.out.1.c4
    by_cases hlt : k < most
    · have hkb : (k : Int) < (most : Int) := by omega
      have HMo : Hid (Calls Tryz.prog 42 #[.pointer (some ⟨B0 + 1 + 1, 0, none⟩)] wr fun r w' => ∃ b us', r = .returned (.bool b) ∧ StB (B0 + 1 + 1) (B0 + 1) n t k eo m ec us' w' ∧ (b = false → us' = us ∧ ∃ L bt, Rch m F T us L bt ∧ t ∉ L) ∧ (b = true → Flw m F T us' t (k + 1)) ∧ Below w.heap.size wr w') :=
        smore_any (base := w.heap.size) HI.out.1 (by have := H3.out.2.2; omega) HI.out.2.2.size (fun wx hb => HS.out.1.below (HI.out.2.2.trans hb)) HS.out.2 hn hn10 hm ht HI.out.2.1
      go_wp2_with fail
      refine HMo.out.mono ?_
      rintro e wy ⟨b, us', rfl, hst, hno, hyes, hby⟩
      cases b with
      | true =>
        have HY : Hid (StB (B0 + 1 + 1) (B0 + 1) n t k eo m ec us' wy ∧ Flw m F T us' t (k + 1) ∧ Below w.heap.size w wy) := ⟨hst, hyes rfl, HI.out.2.2.trans hby⟩
        have c4' := HY.out.1.c4
        have cf' : wy.frozen? ⟨B0 + 1 + 1, 4, none⟩ = false := frozen_of_row _ _ _ _ _ HY.out.1.blk
        have HN : Hid (StB (B0 + 1 + 1) (B0 + 1) n t (k + 1) eo m ec us' (wy.setCell ⟨B0 + 1 + 1, 4, none⟩ (.int .i64 ((k + 1 : Nat) : Int))) ∧ Below w.heap.size w (wy.setCell ⟨B0 + 1 + 1, 4, none⟩ (.int .i64 ((k + 1 : Nat) : Int)))) := ⟨HY.out.1.many (k + 1), HY.out.2.2.setCell (by have := H3.out.2.2; show w.heap.size ≤ B0 + 1 + 1; omega) _⟩
        clear hst hno hyes hby c4 HMo
        go_wp2
        go_roundg (most - (k + 1))
        case rel => exact ⟨k + 1, us', rfl, by omega, HN.out.1, HY.out.2.1, HN.out.2⟩
        case measure => omega
      | false =>
        obtain ⟨e1, e2⟩ := hno rfl
        have HY : Hid (StB (B0 + 1 + 1) (B0 + 1) n t k eo m ec us wy ∧ (∃ L bt, Rch m F T us L bt ∧ t ∉ L) ∧ Below w.heap.size w wy) := ⟨by rw [← e1]; exact hst, e2, HI.out.2.2.trans hby⟩
        clear hst hno hyes hby c4 e1 e2 HMo
        go_wp2
        go_ret
        exact ⟨_, _, us, k, rfl, HY.out.1, HI.out.2.1, hk, fun _ => HY.out.2.1, ⟨by have := H3.out.2.2; omega, by have := H3.out.2.2; omega⟩, HY.out.2.2⟩
    · have hkb : ¬ (k : Int) < (most : Int) := by omega
      go_wp2
      go_ret
      exact ⟨_, _, us, k, rfl, HI.out.1, HI.out.2.1, hk, fun h => absurd h hlt, ⟨by have := H3.out.2.2; omega, by have := H3.out.2.2; omega⟩, HI.out.2.2⟩
end Go.Proofs.YtbnkekeeceicaaaGreat

/- Nets: the reference's Cuts. -/
namespace Go.Proofs.YtbnkekeeceicaaaGreat
open Go.RowKit Go.Sort

theorem shr_tbit (v j : Nat) : ((v : Int) / 2 ^ j).tmod 2 = if v.testBit j = true then 1 else 0 := by
  have e : (v : Int) / 2 ^ j = ((v / 2 ^ j : Nat) : Int) := by rw [Int.natCast_ediv, Int.natCast_pow]; rfl
  rw [e, Nat.testBit_eq_decide_div_mod_eq, Int.tmod_eq_emod_of_nonneg (Int.natCast_nonneg _)]
  by_cases c : v / 2 ^ j % 2 = 1
  · rw [if_pos (decide_eq_true c)]; omega
  · rw [if_neg (by rw [decide_eq_true_eq]; exact c)]; omega
theorem shr_yes {v j : Nat} (h : v.testBit j = true) : ((v : Int) / 2 ^ j).tmod 2 = 1 := by rw [shr_tbit, if_pos h]
theorem shr_no {v j : Nat} (h : v.testBit j = false) : ((v : Int) / 2 ^ j).tmod 2 = 0 := by rw [shr_tbit, h]; rfl
theorem and_i64n {a b : Nat} (ha : a < 1073741824) (hb : b < 1073741824) : bits BinOp.and IntKind.i64 (a : Int) (b : Int) = ((a &&& b : Nat) : Int) := by
  have h1 : (BitVec.ofInt 64 (a : Int)).toNat = a := by
    rw [BitVec.ofInt_natCast, BitVec.toNat_ofNat]; exact Nat.mod_eq_of_lt (by omega)
  have h2 : (BitVec.ofInt 64 (b : Int)).toNat = b := by
    rw [BitVec.ofInt_natCast, BitVec.toNat_ofNat]; exact Nat.mod_eq_of_lt (by omega)
  have h3 : a &&& b ≤ a := Nat.and_le_left
  show IntKind.i64.wrap ((BitVec.ofInt 64 (a : Int) &&& BitVec.ofInt 64 (b : Int)).toNat : Int) = _
  rw [BitVec.toNat_and, h1, h2]
  exact wrap_to (by omega) (by omega)
/-- Of the nodes those in a set, as numbers. -/
def bls (n a : Nat) : List Int := ((List.range n).filter fun v => a.testBit v).map fun v => ((v : Nat) : Int)
theorem bls_next (n a : Nat) : bls (n + 1) a = if a.testBit n = true then bls n a ++ [((n : Nat) : Int)] else bls n a := by
  unfold bls
  rw [List.range_succ, List.filter_append, List.map_append]
  by_cases c : a.testBit n = true
  · rw [if_pos c]; simp [c]
  · rw [if_neg c]; simp [c]
theorem bls_len (n a : Nat) : (bls n a).length ≤ n := by
  unfold bls
  rw [List.length_map]
  have := List.length_filter_le (fun v => a.testBit v) (List.range n)
  rwa [List.length_range] at this

set_option maxHeartbeats 16000000 in
set_option maxRecDepth 100000 in
theorem rcuts_any {n t : Nat} {eo : Option Addr} {m ec : Nat} {F T : Nat → Nat} {w : World} (hE : EdZ eo m (fun i => ((F i : Nat) : Int)) (fun i => ((T i : Nat) : Int)) w) (hN : Nt n m F T) (hn : 0 < n) (hn10 : n ≤ 10) (hm : m ≤ 100) (ht : t < n) :
    Calls Tryz.prog 7 #[.agg #[.int .i64 (n : Nat), .slice eo m ec], .int .i64 (t : Nat)] w fun r w' => ∃ v, r = .returned (.tuple #[.int .i64 ((cuB m F T t (2 ^ (n - 1))).1 : Nat), v]) ∧ OwnI w.heap.size v (bls n (cuB m F T t (2 ^ (n - 1))).2) w' ∧ Below w.heap.size w w' := by
  obtain ⟨wa, hwa⟩ : ∃ wa, wa = w.alloc (.cells #[.int .i64 (n : Nat), .slice eo m ec] 24) := ⟨_, rfl⟩
  obtain ⟨B, hB⟩ : ∃ B, B = w.heap.size := ⟨_, rfl⟩
  obtain ⟨Q, hQ⟩ : ∃ Q, Q = 2 ^ (n - 1) := ⟨_, rfl⟩
  obtain ⟨P, hP⟩ : ∃ P, P = 2 ^ n := ⟨_, rfl⟩
  have hPQ : P = 2 * Q := by
    obtain ⟨d, rfl⟩ : ∃ d, n = d + 1 := ⟨n - 1, by omega⟩
    rw [hP, hQ, Nat.add_sub_cancel, Nat.pow_succ]; omega
  have hPb : P ≤ 1024 := by rw [hP]; exact Nat.le_trans (Nat.pow_le_pow_right (by omega) hn10) (by decide)
  have hPi : (2 : Int) ^ n = (P : Int) := by rw [hP]; simp
  have hPw : IntKind.i64.wrap (P : Int) = (P : Int) := wrap_to rfl (by omega)
  have HA : Hid (NB B (n : Nat) (.slice eo m ec) wa ∧ Below w.heap.size w wa ∧ B = w.heap.size) := by
    refine ⟨by rw [hwa, hB]; exact NB.new _ _ _, by rw [hwa]; exact (Below.refl _ _).alloc (Nat.le_refl _) _, hB⟩
  have HS : Hid (EdZ eo m (fun i => ((F i : Nat) : Int)) (fun i => ((T i : Nat) : Int)) wa ∧ Nt n m F T) := ⟨hE.below HA.out.2.1, hN⟩
  rw [← hQ]
  clear hE hN hQ hP
  have hc := HA.out.1
  rw [hwa] at hc
  obtain ⟨c0, c1⟩ := hc
  rw [hB] at c0 c1
  go_enter Tryz.func7, Tryz.ntmps7
  go_wp2
  rw [← hwa, ← hB]
  clear c0 c1 hwa hB
  obtain ⟨c0, c1⟩ := HA.out.1
  go_loopw [6, 7, 8] (fun v6 v7 v8 wr => ∃ r : Nat, r ≤ Q ∧ v8 = .int .i64 ((2 * r + 1 : Nat) : Int) ∧ v6 = .int .i64 ((cuB m F T t r).1 : Nat) ∧ v7 = .int .i64 ((cuB m F T t r).2 : Nat) ∧ wr = wa) (fun _ _ v8 _ => P - (RowKit.intOf v8).toNat)
  case atStart => exact ⟨0, by omega, rfl, by rfl, rfl, rfl⟩
  case round =>
    obtain ⟨r, hr, rfl, rfl, rfl, hwr⟩ := hrel
    rename World => wr
    have hwr := hwr.symm
    subst hwr
    obtain ⟨s, hs⟩ : ∃ s, s = 2 * r + 1 := ⟨_, rfl⟩
    obtain ⟨p1, hp1⟩ : ∃ p1, p1 = (cuB m F T t r).1 := ⟨_, rfl⟩
    obtain ⟨p2, hp2⟩ : ∃ p2, p2 = (cuB m F T t r).2 := ⟨_, rfl⟩
    have hle := cuB_le m F T t r
    rw [← hs, ← hp1, ← hp2]
    rw [← hp1, ← hp2] at hle
    by_cases hlt : r < Q
    · have hsb : (s : Int) < (P : Int) := by omega
      have hs10 : s < 1024 := by omega
      have HC : Hid (cuB m F T t (r + 1) = if s.testBit t = true then (p1, p2) else if cpS m F T s.testBit < p1 then (cpS m F T s.testBit, s) else if cpS m F T s.testBit = p1 then (p1, p2 &&& s) else (p1, p2)) := by rw [hs, hp1, hp2]; rfl
      have hs2 : ((s : Int) + 2) = ((2 * (r + 1) + 1 : Nat) : Int) := by omega
      have hs2w : IntKind.i64.wrap ((2 * (r + 1) + 1 : Nat) : Int) = ((2 * (r + 1) + 1 : Nat) : Int) := wrap_to rfl (by omega)
      have HMe : Hid (s = 2 * r + 1 ∧ P = 2 * Q ∧ r < Q) := ⟨hs, hPQ, hlt⟩
      clear hs hp1 hp2 hr
      by_cases hst : s.testBit t = true
      · have hb1 := shr_yes hst
        have HD : Hid (cuB m F T t (r + 1) = (p1, p2)) := by have h := HC.out; rw [if_pos hst] at h; exact h
        go_wp2
        go_roundw
        case rel => exact ⟨r + 1, by have := HMe.out; omega, by go_num, by rw [HD.out], by rw [HD.out], by trivial⟩
        case measure => simp [RowKit.intOf]; have := HMe.out; omega
      · have hb1 := shr_no (Bool.eq_false_iff.2 hst)
        have HD : Hid (cuB m F T t (r + 1) = if cpS m F T s.testBit < p1 then (cpS m F T s.testBit, s) else if cpS m F T s.testBit = p1 then (p1, p2 &&& s) else (p1, p2)) := by have h := HC.out; rw [if_neg hst] at h; exact h
        clear HC
        go_wp2
        go_loopw [9, 10] (fun v9 v10 wx => ∃ i : Nat, i ≤ m ∧ v10 = .int .i64 (i : Nat) ∧ v9 = .int .i64 (ct (fun j => s.testBit (F j) && !s.testBit (T j)) i : Nat) ∧ wx = wa) (fun _ v10 _ => m - (RowKit.intOf v10).toNat)
        case atStart => exact ⟨0, by omega, rfl, rfl, by trivial⟩
        case round =>
          obtain ⟨i, hi, rfl, rfl, hwx⟩ := hrel
          rename World => wx
          have hwx := hwx.symm
          subst hwx
          obtain ⟨x, hx⟩ : ∃ x, x = ct (fun j => s.testBit (F j) && !s.testBit (T j)) i := ⟨_, rfl⟩
          have hxi : x ≤ i := by rw [hx]; exact nf_top _ i
          rw [← hx]
          by_cases hil : i < m
          · have hib : (i : Int) < (m : Int) := by omega
            have hib0 : (0 : Int) ≤ (i : Int) := by omega
            obtain ⟨b, off, e1, e2, e3⟩ := HS.out.1 i hil
            subst e1
            have hfb := HS.out.2.up i hil
            have htb := HS.out.2.lt i hil
            have HX : Hid (ct (fun j => s.testBit (F j) && !s.testBit (T j)) (i + 1) = x + if (s.testBit (F i) && !s.testBit (T i)) = true then 1 else 0) := by rw [hx]; rfl
            obtain ⟨f, hf⟩ : ∃ f, f = F i := ⟨_, rfl⟩
            obtain ⟨u, hu⟩ : ∃ u, u = T i := ⟨_, rfl⟩
            replace e2 : wa.cell? ⟨b, off + i * 2, none⟩ = some (.int .i64 (f : Nat)) := by rw [hf]; exact e2
            replace e3 : wa.cell? ⟨b, off + i * 2 + 1, none⟩ = some (.int .i64 (u : Nat)) := by rw [hu]; exact e3
            rw [← hf, ← hu] at HX hfb
            rw [← hu] at htb
            clear hf hu hx
            by_cases k1 : s.testBit f = true
            · have q1 := shr_yes k1
              by_cases k2 : s.testBit u = true
              · have q2 := shr_yes k2
                have HY : Hid (ct (fun j => s.testBit (F j) && !s.testBit (T j)) (i + 1) = x) := by have h := HX.out; rw [k1, k2] at h; exact h
                go_wp2
                go_roundw
                case rel => exact ⟨i + 1, by omega, by go_num, by rw [HY.out], by trivial⟩
                case measure => simp [RowKit.intOf]; omega
              · have q2 := shr_no (Bool.eq_false_iff.2 k2)
                have HY : Hid (ct (fun j => s.testBit (F j) && !s.testBit (T j)) (i + 1) = x + 1) := by have h := HX.out; rw [k1, Bool.eq_false_iff.2 k2] at h; exact h
                go_wp2
                go_roundw
                case rel => exact ⟨i + 1, by omega, by go_num, by rw [HY.out]; go_num, by trivial⟩
                case measure => simp [RowKit.intOf]; omega
            · have q1 := shr_no (Bool.eq_false_iff.2 k1)
              have HY : Hid (ct (fun j => s.testBit (F j) && !s.testBit (T j)) (i + 1) = x) := by have h := HX.out; rw [Bool.eq_false_iff.2 k1, Bool.false_and] at h; exact h
              go_wp2
              go_roundw
              case rel => exact ⟨i + 1, by omega, by go_num, by rw [HY.out], by trivial⟩
              case measure => simp [RowKit.intOf]; omega
          · have hib : ¬ (i : Int) < (m : Int) := by omega
            have HE : Hid (cuB m F T t (r + 1) = if x < p1 then (x, s) else if x = p1 then (p1, p2 &&& s) else (p1, p2)) := by
              have e : cpS m F T s.testBit = x := by rw [hx]; unfold cpS; rw [show m = i by omega]
              have h := HD.out
              rw [e] at h
              exact h
            clear HD hx
            by_cases k1 : x < p1
            · have k1i : (x : Int) < (p1 : Int) := by omega
              have HF : Hid (cuB m F T t (r + 1) = (x, s)) := by have h := HE.out; rw [if_pos k1] at h; exact h
              go_wp2
              go_roundw
              case rel => exact ⟨r + 1, by have := HMe.out; omega, by go_num, by rw [HF.out], by rw [HF.out], by trivial⟩
              case measure => simp [RowKit.intOf]; have := HMe.out; omega
            · have k1i : ¬ (x : Int) < (p1 : Int) := by omega
              by_cases k2 : x = p1
              · have k2b : ((x : Int) == (p1 : Int)) = true := by rw [k2]; simp
                have HF : Hid (cuB m F T t (r + 1) = (p1, p2 &&& s)) := by have h := HE.out; rw [if_neg k1, if_pos k2] at h; exact h
                have hand := and_i64n (a := p2) (b := s) (by omega) (by omega)
                clear k2
                go_wp2
                go_roundw
                case rel => exact ⟨r + 1, by have := HMe.out; omega, by go_num, by rw [HF.out], by rw [HF.out], by trivial⟩
                case measure => simp [RowKit.intOf]; have := HMe.out; omega
              · have k2b : ((x : Int) == (p1 : Int)) = false := beq_eq_false_iff_ne.2 (by omega)
                have HF : Hid (cuB m F T t (r + 1) = (p1, p2)) := by have h := HE.out; rw [if_neg k1, if_neg k2] at h; exact h
                go_wp2
                go_roundw
                case rel => exact ⟨r + 1, by have := HMe.out; omega, by go_num, by rw [HF.out], by rw [HF.out], by trivial⟩
                case measure => simp [RowKit.intOf]; have := HMe.out; omega
    · have hsb : ¬ (s : Int) < (P : Int) := by omega
      have HE : Hid (p1 = (cuB m F T t Q).1 ∧ p2 = (cuB m F T t Q).2) := by
        rw [show Q = r by omega]; exact ⟨hp1, hp2⟩
      have hp2b : p2 < 1048576 := by omega
      clear hs hp1 hp2 hle
      go_wp2
      go_loopw [11, 12] (fun v11 v12 wx => ∃ v : Nat, v ≤ n ∧ v12 = .int .i64 (v : Nat) ∧ Hid (OwnI wa.heap.size v11 (bls v p2) wx ∧ Below wa.heap.size wa wx)) (fun _ v12 _ => n - (RowKit.intOf v12).toNat)
      case atStart => exact ⟨0, by omega, rfl, OwnI.nil _ _, Below.refl _ _⟩
      case round =>
        obtain ⟨v, hv, rfl, HI⟩ := hrel
        rename World => wx
        have d0 := (HA.out.1.keep HI.out.2).c0
        by_cases hvn : v < n
        · have hvb : (v : Int) < (n : Int) := by omega
          have hvb0 : (0 : Int) ≤ (v : Int) := by omega
          have hlen := bls_len v p2
          have hsz := HI.out.2.size
          have HX := bls_next v p2
          by_cases k1 : p2.testBit v = true
          · have q1 := shr_yes k1
            rw [if_pos k1] at HX
            have HX2 : Hid (bls (v + 1) p2 = bls v p2 ++ [((v : Nat) : Int)]) := HX
            clear HX
            go_wp2_with (at_builtin; refine append_int rfl _ _ rfl wa.heap.size _ (bls v p2) rfl (HI.out.1.alloc _) ⟨_, 0, none⟩ 1 (v : Int) rfl (by simp) (by omega) (by simp; omega) ?_; intro v2 w3 hown3 hgrow3)
            have HN : Hid (OwnI wa.heap.size v2 (bls (v + 1) p2) w3 ∧ Below wa.heap.size wa w3) := ⟨by rw [HX2.out]; exact hown3, (HI.out.2.alloc hsz _).grown hgrow3 (by simp; omega) (fun k hk => (HI.out.1.lt k hk).1)⟩
            clear hown3 hgrow3
            go_roundw
            case rel => exact ⟨v + 1, by omega, by go_num, HN.out⟩
            case measure => simp [RowKit.intOf]; omega
          · have q1 := shr_no (Bool.eq_false_iff.2 k1)
            rw [if_neg k1] at HX
            have HX2 : Hid (bls (v + 1) p2 = bls v p2) := HX
            clear HX
            go_wp2
            go_roundw
            case rel => exact ⟨v + 1, by omega, by go_num, by rw [HX2.out]; exact HI.out⟩
            case measure => simp [RowKit.intOf]; omega
        · have hvb : ¬ (v : Int) < (n : Int) := by omega
          have hve : v = n := by omega
          have HN : Hid (OwnI wa.heap.size u11 (bls n p2) wx) := by rw [← hve]; exact HI.out.1
          clear hve
          go_wp2
          go_ret2
          exact ⟨_, by rw [HE.out.1]; rfl, by rw [← HE.out.2]; exact HN.out.mono HA.out.2.1.size, bel_up' HA.out.2.1 HI.out.2⟩
end Go.Proofs.YtbnkekeeceicaaaGreat
