/- Texts of ours, one behind the other: KW7 KW8. -/
import Derived.Test.YtbnkekeeceicaaaGreatZKW4
import Derived.Test.YtbnkekeeceicaaaGreatZS92
import Derived.Test.YtbnkekeeceicaaaGreatZO6
/- Nets: the reference's Cuts. -/
namespace Go.Proofs.YtbnkekeeceicaaaGreat
open Go.RowKit Go.Sort

theorem shr_tbit (v j : Nat) : ((v : Int) / 2 ^ j).tmod 2 = if v.testBit j = true then 1 else 0 := by
  have e : (v : Int) / 2 ^ j = ((v / 2 ^ j : Nat) : Int) := by rw [Int.natCast_ediv, Int.natCast_pow]; rfl
  rw [e, Nat.testBit_eq_decide_div_mod_eq, Int.tmod_eq_emod_of_nonneg (Int.natCast_nonneg _)]
  by_cases c : v / 2 ^ j % 2 = 1
  · rw [if_pos (decide_eq_true c)]; omega
  · rw [if_neg (by rw [decide_eq_true_eq]; exact c)]; omega
theorem shr_yes {v j : Nat} (h : v.testBit j = true) : ((v : Int) / 2 ^ j).tmod 2 = 1 := by rw [shr_tbit, if_pos h]
theorem shr_no {v j : Nat} (h : v.testBit j = false) : ((v : Int) / 2 ^ j).tmod 2 = 0 := by rw [shr_tbit, h]; rfl
theorem and_i64n {a b : Nat} (ha : a < 1073741824) (hb : b < 1073741824) : bits BinOp.and IntKind.i64 (a : Int) (b : Int) = ((a &&& b : Nat) : Int) := by
  have h1 : (BitVec.ofInt 64 (a : Int)).toNat = a := by
    rw [BitVec.ofInt_natCast, BitVec.toNat_ofNat]; exact Nat.mod_eq_of_lt (by omega)
  have h2 : (BitVec.ofInt 64 (b : Int)).toNat = b := by
    rw [BitVec.ofInt_natCast, BitVec.toNat_ofNat]; exact Nat.mod_eq_of_lt (by omega)
  have h3 : a &&& b ≤ a := Nat.and_le_left
  show IntKind.i64.wrap ((BitVec.ofInt 64 (a : Int) &&& BitVec.ofInt 64 (b : Int)).toNat : Int) = _
  rw [BitVec.toNat_and, h1, h2]
  exact wrap_to (by omega) (by omega)
/-- Of the nodes those in a set, as numbers. -/
def bls (n a : Nat) : List Int := ((List.range n).filter fun v => a.testBit v).map fun v => ((v : Nat) : Int)
theorem bls_next (n a : Nat) : bls (n + 1) a = if a.testBit n = true then bls n a ++ [((n : Nat) : Int)] else bls n a := by
  unfold bls
  rw [List.range_succ, List.filter_append, List.map_append]
  by_cases c : a.testBit n = true
  · rw [if_pos c]; simp [c]
  · rw [if_neg c]; simp [c]
theorem bls_len (n a : Nat) : (bls n a).length ≤ n := by
  unfold bls
  rw [List.length_map]
  have := List.length_filter_le (fun v => a.testBit v) (List.range n)
  rwa [List.length_range] at this

set_option maxHeartbeats 16000000 in
set_option maxRecDepth 100000 in
theorem rcuts_any {n t : Nat} {eo : Option Addr} {m ec : Nat} {F T : Nat → Nat} {w : World} (hE : EdZ eo m (fun i => ((F i : Nat) : Int)) (fun i => ((T i : Nat) : Int)) w) (hN : Nt n m F T) (hn : 0 < n) (hn10 : n ≤ 10) (hm : m ≤ 100) (ht : t < n) :
    Calls Tryz.prog 7 #[.agg #[.int .i64 (n : Nat), .slice eo m ec], .int .i64 (t : Nat)] w fun r w' => ∃ v, r = .returned (.tuple #[.int .i64 ((cuB m F T t (2 ^ (n - 1))).1 : Nat), v]) ∧ OwnI w.heap.size v (bls n (cuB m F T t (2 ^ (n - 1))).2) w' ∧ Below w.heap.size w w' := by
  obtain ⟨wa, hwa⟩ : ∃ wa, wa = w.alloc (.cells #[.int .i64 (n : Nat), .slice eo m ec] 24) := ⟨_, rfl⟩
  obtain ⟨B, hB⟩ : ∃ B, B = w.heap.size := ⟨_, rfl⟩
  obtain ⟨Q, hQ⟩ : ∃ Q, Q = 2 ^ (n - 1) := ⟨_, rfl⟩
  obtain ⟨P, hP⟩ : ∃ P, P = 2 ^ n := ⟨_, rfl⟩
  have hPQ : P = 2 * Q := by
    obtain ⟨d, rfl⟩ : ∃ d, n = d + 1 := ⟨n - 1, by omega⟩
    rw [hP, hQ, Nat.add_sub_cancel, Nat.pow_succ]; omega
  have hPb : P ≤ 1024 := by rw [hP]; exact Nat.le_trans (Nat.pow_le_pow_right (by omega) hn10) (by decide)
  have hPi : (2 : Int) ^ n = (P : Int) := by rw [hP]; simp
  have hPw : IntKind.i64.wrap (P : Int) = (P : Int) := wrap_to rfl (by omega)
  have HA : Hid (NB B (n : Nat) (.slice eo m ec) wa ∧ Below w.heap.size w wa ∧ B = w.heap.size) := by
    refine ⟨by rw [hwa, hB]; exact NB.new _ _ _, by rw [hwa]; exact (Below.refl _ _).alloc (Nat.le_refl _) _, hB⟩
  have HS : Hid (EdZ eo m (fun i => ((F i : Nat) : Int)) (fun i => ((T i : Nat) : Int)) wa ∧ Nt n m F T) := ⟨hE.below HA.out.2.1, hN⟩
  rw [← hQ]
  clear hE hN hQ hP
  have hc := HA.out.1
  rw [hwa] at hc
  obtain ⟨c0, c1⟩ := hc
  rw [hB] at c0 c1
  go_enter Tryz.func7, Tryz.ntmps7
  go_wp2
  rw [← hwa, ← hB]
  clear c0 c1 hwa hB
  obtain ⟨c0, c1⟩ := HA.out.1
  go_loopw [6, 7, 8] (fun v6 v7 v8 wr => ∃ r : Nat, r ≤ Q ∧ v8 = .int .i64 ((2 * r + 1 : Nat) : Int) ∧ v6 = .int .i64 ((cuB m F T t r).1 : Nat) ∧ v7 = .int .i64 ((cuB m F T t r).2 : Nat) ∧ wr = wa) (fun _ _ v8 _ => P - (RowKit.intOf v8).toNat)
  case atStart => exact ⟨0, by omega, rfl, by rfl, rfl, rfl⟩
  case round =>
    obtain ⟨r, hr, rfl, rfl, rfl, hwr⟩ := hrel
    rename World => wr
    have hwr := hwr.symm
    subst hwr
    obtain ⟨s, hs⟩ : ∃ s, s = 2 * r + 1 := ⟨_, rfl⟩
    obtain ⟨p1, hp1⟩ : ∃ p1, p1 = (cuB m F T t r).1 := ⟨_, rfl⟩
    obtain ⟨p2, hp2⟩ : ∃ p2, p2 = (cuB m F T t r).2 := ⟨_, rfl⟩
    have hle := cuB_le m F T t r
    rw [← hs, ← hp1, ← hp2]
    rw [← hp1, ← hp2] at hle
    by_cases hlt : r < Q
    · have hsb : (s : Int) < (P : Int) := by omega
      have hs10 : s < 1024 := by omega
      have HC : Hid (cuB m F T t (r + 1) = if s.testBit t = true then (p1, p2) else if cpS m F T s.testBit < p1 then (cpS m F T s.testBit, s) else if cpS m F T s.testBit = p1 then (p1, p2 &&& s) else (p1, p2)) := by rw [hs, hp1, hp2]; rfl
      have hs2 : ((s : Int) + 2) = ((2 * (r + 1) + 1 : Nat) : Int) := by omega
      have hs2w : IntKind.i64.wrap ((2 * (r + 1) + 1 : Nat) : Int) = ((2 * (r + 1) + 1 : Nat) : Int) := wrap_to rfl (by omega)
      have HMe : Hid (s = 2 * r + 1 ∧ P = 2 * Q ∧ r < Q) := ⟨hs, hPQ, hlt⟩
      clear hs hp1 hp2 hr
      by_cases hst : s.testBit t = true
      · have hb1 := shr_yes hst
        have HD : Hid (cuB m F T t (r + 1) = (p1, p2)) := by have h := HC.out; rw [if_pos hst] at h; exact h
        go_wp2
        go_roundw
        case rel => exact ⟨r + 1, by have := HMe.out; omega, by go_num, by rw [HD.out], by rw [HD.out], by trivial⟩
        case measure => simp [RowKit.intOf]; have := HMe.out; omega
      · have hb1 := shr_no (Bool.eq_false_iff.2 hst)
        have HD : Hid (cuB m F T t (r + 1) = if cpS m F T s.testBit < p1 then (cpS m F T s.testBit, s) else if cpS m F T s.testBit = p1 then (p1, p2 &&& s) else (p1, p2)) := by have h := HC.out; rw [if_neg hst] at h; exact h
        clear HC
        go_wp2
        go_loopw [9, 10] (fun v9 v10 wx => ∃ i : Nat, i ≤ m ∧ v10 = .int .i64 (i : Nat) ∧ v9 = .int .i64 (ct (fun j => s.testBit (F j) && !s.testBit (T j)) i : Nat) ∧ wx = wa) (fun _ v10 _ => m - (RowKit.intOf v10).toNat)
        case atStart => exact ⟨0, by omega, rfl, rfl, by trivial⟩
        case round =>
          obtain ⟨i, hi, rfl, rfl, hwx⟩ := hrel
          rename World => wx
          have hwx := hwx.symm
          subst hwx
          obtain ⟨x, hx⟩ : ∃ x, x = ct (fun j => s.testBit (F j) && !s.testBit (T j)) i := ⟨_, rfl⟩
          have hxi : x ≤ i := by rw [hx]; exact nf_top _ i
          rw [← hx]
          by_cases hil : i < m
          · have hib : (i : Int) < (m : Int) := by omega
            have hib0 : (0 : Int) ≤ (i : Int) := by omega
            obtain ⟨b, off, e1, e2, e3⟩ := HS.out.1 i hil
            subst e1
            have hfb := HS.out.2.up i hil
            have htb := HS.out.2.lt i hil
            have HX : Hid (ct (fun j => s.testBit (F j) && !s.testBit (T j)) (i + 1) = x + if (s.testBit (F i) && !s.testBit (T i)) = true then 1 else 0) := by rw [hx]; rfl
            obtain ⟨f, hf⟩ : ∃ f, f = F i := ⟨_, rfl⟩
            obtain ⟨u, hu⟩ : ∃ u, u = T i := ⟨_, rfl⟩
            replace e2 : wa.cell? ⟨b, off + i * 2, none⟩ = some (.int .i64 (f : Nat)) := by rw [hf]; exact e2
            replace e3 : wa.cell? ⟨b, off + i * 2 + 1, none⟩ = some (.int .i64 (u : Nat)) := by rw [hu]; exact e3
            rw [← hf, ← hu] at HX hfb
            rw [← hu] at htb
            clear hf hu hx
            by_cases k1 : s.testBit f = true
            · have q1 := shr_yes k1
              by_cases k2 : s.testBit u = true
              · have q2 := shr_yes k2
                have HY : Hid (ct (fun j => s.testBit (F j) && !s.testBit (T j)) (i + 1) = x) := by have h := HX.out; rw [k1, k2] at h; exact h
                go_wp2
                go_roundw
                case rel => exact ⟨i + 1, by omega, by go_num, by rw [HY.out], by trivial⟩
                case measure => simp [RowKit.intOf]; omega
              · have q2 := shr_no (Bool.eq_false_iff.2 k2)
                have HY : Hid (ct (fun j => s.testBit (F j) && !s.testBit (T j)) (i + 1) = x + 1) := by have h := HX.out; rw [k1, Bool.eq_false_iff.2 k2] at h; exact h
                go_wp2
                go_roundw
                case rel => exact ⟨i + 1, by omega, by go_num, by rw [HY.out]; go_num, by trivial⟩
                case measure => simp [RowKit.intOf]; omega
            · have q1 := shr_no (Bool.eq_false_iff.2 k1)
              have HY : Hid (ct (fun j => s.testBit (F j) && !s.testBit (T j)) (i + 1) = x) := by have h := HX.out; rw [Bool.eq_false_iff.2 k1, Bool.false_and] at h; exact h
              go_wp2
              go_roundw
              case rel => exact ⟨i + 1, by omega, by go_num, by rw [HY.out], by trivial⟩
              case measure => simp [RowKit.intOf]; omega
          · have hib : ¬ (i : Int) < (m : Int) := by omega
            have HE : Hid (cuB m F T t (r + 1) = if x < p1 then (x, s) else if x = p1 then (p1, p2 &&& s) else (p1, p2)) := by
              have e : cpS m F T s.testBit = x := by rw [hx]; unfold cpS; rw [show m = i by omega]
              have h := HD.out
              rw [e] at h
              exact h
            clear HD hx
            by_cases k1 : x < p1
            · have k1i : (x : Int) < (p1 : Int) := by omega
              have HF : Hid (cuB m F T t (r + 1) = (x, s)) := by have h := HE.out; rw [if_pos k1] at h; exact h
              go_wp2
              go_roundw
              case rel => exact ⟨r + 1, by have := HMe.out; omega, by go_num, by rw [HF.out], by rw [HF.out], by trivial⟩
              case measure => simp [RowKit.intOf]; have := HMe.out; omega
            · have k1i : ¬ (x : Int) < (p1 : Int) := by omega
              by_cases k2 : x = p1
              · have k2b : ((x : Int) == (p1 : Int)) = true := by rw [k2]; simp
                have HF : Hid (cuB m F T t (r + 1) = (p1, p2 &&& s)) := by have h := HE.out; rw [if_neg k1, if_pos k2] at h; exact h
                have hand := and_i64n (a := p2) (b := s) (by omega) (by omega)
                clear k2
                go_wp2
                go_roundw
                case rel => exact ⟨r + 1, by have := HMe.out; omega, by go_num, by rw [HF.out], by rw [HF.out], by trivial⟩
                case measure => simp [RowKit.intOf]; have := HMe.out; omega
              · have k2b : ((x : Int) == (p1 : Int)) = false := beq_eq_false_iff_ne.2 (by omega)
                have HF : Hid (cuB m F T t (r + 1) = (p1, p2)) := by have h := HE.out; rw [if_neg k1, if_neg k2] at h; exact h
                go_wp2
                go_roundw
                case rel => exact ⟨r + 1, by have := HMe.out; omega, by go_num, by rw [HF.out], by rw [HF.out], by trivial⟩
                case measure => simp [RowKit.intOf]; have := HMe.out; omega
    · have hsb : ¬ (s : Int) < (P : Int) := by omega
      have HE : Hid (p1 = (cuB m F T t Q).1 ∧ p2 = (cuB m F T t Q).2) := by
        rw [show Q = r by omega]; exact ⟨hp1, hp2⟩
      have hp2b : p2 < 1048576 := by omega
      clear hs hp1 hp2 hle
      go_wp2
      go_loopw [11, 12] (fun v11 v12 wx => ∃ v : Nat, v ≤ n ∧ v12 = .int .i64 (v : Nat) ∧ Hid (OwnI wa.heap.size v11 (bls v p2) wx ∧ Below wa.heap.size wa wx)) (fun _ v12 _ => n - (RowKit.intOf v12).toNat)
      case atStart => exact ⟨0, by omega, rfl, OwnI.nil _ _, Below.refl _ _⟩
      case round =>
        obtain ⟨v, hv, rfl, HI⟩ := hrel
        rename World => wx
        have d0 := (HA.out.1.keep HI.out.2).c0
        by_cases hvn : v < n
        · have hvb : (v : Int) < (n : Int) := by omega
          have hvb0 : (0 : Int) ≤ (v : Int) := by omega
          have hlen := bls_len v p2
          have hsz := HI.out.2.size
          have HX := bls_next v p2
          by_cases k1 : p2.testBit v = true
          · have q1 := shr_yes k1
            rw [if_pos k1] at HX
            have HX2 : Hid (bls (v + 1) p2 = bls v p2 ++ [((v : Nat) : Int)]) := HX
            clear HX
            go_wp2_with (at_builtin; refine append_int rfl _ _ rfl wa.heap.size _ (bls v p2) rfl (HI.out.1.alloc _) ⟨_, 0, none⟩ 1 (v : Int) rfl (by simp) (by omega) (by simp; omega) ?_; intro v2 w3 hown3 hgrow3)
            have HN : Hid (OwnI wa.heap.size v2 (bls (v + 1) p2) w3 ∧ Below wa.heap.size wa w3) := ⟨by rw [HX2.out]; exact hown3, (HI.out.2.alloc hsz _).grown hgrow3 (by simp; omega) (fun k hk => (HI.out.1.lt k hk).1)⟩
            clear hown3 hgrow3
            go_roundw
            case rel => exact ⟨v + 1, by omega, by go_num, HN.out⟩
            case measure => simp [RowKit.intOf]; omega
          · have q1 := shr_no (Bool.eq_false_iff.2 k1)
            rw [if_neg k1] at HX
            have HX2 : Hid (bls (v + 1) p2 = bls v p2) := HX
            clear HX
            go_wp2
            go_roundw
            case rel => exact ⟨v + 1, by omega, by go_num, by rw [HX2.out]; exact HI.out⟩
            case measure => simp [RowKit.intOf]; omega
        · have hvb : ¬ (v : Int) < (n : Int) := by omega
          have hve : v = n := by omega
          have HN : Hid (OwnI wa.heap.size u11 (bls n p2) wx) := by rw [← hve]; exact HI.out.1
          clear hve
          go_wp2
          go_ret2
          exact ⟨_, by rw [HE.out.1]; rfl, by rw [← HE.out.2]; exact HN.out.mono HA.out.2.1.size, bel_up' HA.out.2.1 HI.out.2⟩
end Go.Proofs.YtbnkekeeceicaaaGreat

/- Nets: how much comes to a node (Flow), and who can be reached then (Cut). -/
namespace Go.Proofs.YtbnkekeeceicaaaGreat
open Go.RowKit Go.Sort Go.Maps Go.Shelf

/-- A net that may be, as whole numbers. -/
theorem nt_of {n : Int} {m : Nat} {F T : Nat → Int} (h : nchkE n m F T = 0) : ∃ nn : Nat, n = (nn : Int) ∧ 2 ≤ nn ∧ nn ≤ 10 ∧ m ≤ 24 ∧ Nt nn m (fun i => (F i).toNat) (fun i => (T i).toNat) ∧ ∀ i, i < m → F i = (((F i).toNat : Nat) : Int) ∧ T i = (((T i).toNat : Nat) : Int) := by
  unfold nchkE at h
  by_cases c : n < 2 ∨ 10 < n ∨ 24 < m
  · rw [if_pos c] at h; cases h
  · rw [if_neg c] at h
    have he : edOk n F T m = true := Classical.byContradiction fun q => by rw [if_neg q] at h; cases h
    have hall : ∀ i, i < m → 0 ≤ F i ∧ F i < T i ∧ T i < n := fun i hi => Classical.byContradiction fun q => by rw [edOk_no q m hi] at he; cases he
    refine ⟨n.toNat, by omega, by omega, by omega, by omega, ⟨fun i hi => ?_, fun i hi => ?_⟩, fun i hi => ?_⟩
    · have := hall i hi; show (F i).toNat < (T i).toNat; omega
    · have := hall i hi; show (T i).toNat < n.toNat; omega
    · have := hall i hi; omega
theorem EdZ.cg {eo : Option Addr} {m : Nat} {F T F' T' : Nat → Int} {w : World} (h : EdZ eo m F T w) (e : ∀ i, i < m → F i = F' i ∧ T i = T' i) : EdZ eo m F' T' w := fun j hj => by
  obtain ⟨b, off, e1, e2, e3⟩ := h j hj
  exact ⟨b, off, e1, by rw [← (e j hj).1]; exact e2, by rw [← (e j hj).2]; exact e3⟩
/-- What Flow and Cut stand on: where as much flows as there can. -/
theorem flow_end {n m : Nat} {F T : Nat → Nat} {us : Nat → Bool} {t k : Nat} {L : List Nat} {bt : Nat → Nat} (hN : Nt n m F T) (h0 : t ≠ 0) (h : Flw m F T us t k) (hk : k ≤ m) (hR : Rch m F T us L bt) (hno : k < m → ∃ L bt, Rch m F T us L bt ∧ t ∉ L) : t ∉ L := by
  by_cases c : k < m
  · obtain ⟨L', bt', hR', ht'⟩ := hno c
    intro q
    exact ht' (inL_yes.1 (hR.sub (S := inL L') (inL_yes.2 hR'.zero) (fun e he x => inL_yes.2 (hR'.cl e he (inL_yes.1 x))) q))
  · have e : k = m := by omega
    subst e
    exact h.all hN h0 hR

theorem Flw.one {n m : Nat} {F T : Nat → Nat} {us : Nat → Bool} {t : Nat} (hN : Nt n m F T) (h : Flw m F T us t m) (h0 : t ≠ 0) : Rch m F T us [0] (fun _ => 0) := by
  have h1 := h 0
  rw [if_neg (fun q => h0 q.symm), if_pos rfl] at h1
  have h2 : edN m F us 0 ≤ m := nf_top _ m
  have h4 := nf_full m (show edN m F us 0 = m by omega)
  refine ⟨⟨[], rfl⟩, by simp, fun v hv h => absurd (List.mem_singleton.1 hv) h, fun e he q => ?_⟩
  exfalso
  have a := h4 e he
  have b := hN.up e he
  simp only [Bool.and_eq_true, decide_eq_true_eq] at a
  have q := List.mem_singleton.1 q
  unfold frF at q
  rw [if_pos a.1] at q
  omega
set_option maxHeartbeats 4000000 in
set_option maxRecDepth 100000 in
theorem nFlow_err {E : Int} (hE0 : E ≠ 0) (n tx : Int) {eo : Option Addr} {m ec : Nat} {w : World} (hC : ∀ wx, Below w.heap.size w wx → Calls Tryz.prog 21 #[.agg #[.int .i64 n, .slice eo m ec], .int .i64 tx] wx fun e w' => e = .returned (.int .i64 E) ∧ Below wx.heap.size wx w') :
    Calls Tryz.prog 8 #[.agg #[.int .i64 n, .slice eo m ec], .int .i64 tx] w fun e w' => e = .returned (.tuple #[.int .i64 0, .int .i64 E]) ∧ Below w.heap.size w w' := by
  obtain ⟨wa, hwa⟩ : ∃ wa, wa = w.alloc (.cells #[.int .i64 n, .slice eo m ec] 24) := ⟨_, rfl⟩
  have hba : Below w.heap.size w wa := by rw [hwa]; exact (Below.refl _ _).alloc (Nat.le_refl _) _
  have hc : NB w.heap.size n (.slice eo m ec) wa := by rw [hwa]; exact NB.new _ _ _
  obtain ⟨c0, c1⟩ := hc
  rw [hwa] at c0 c1
  have HC : Hid (Calls Tryz.prog 21 #[.agg #[.int .i64 n, .slice eo m ec], .int .i64 tx] wa fun e w' => e = .returned (.int .i64 E) ∧ Below wa.heap.size wa w') := hC wa hba
  rw [hwa] at HC
  have HB : Hid (Below w.heap.size w wa ∧ wa = w.alloc (.cells #[.int .i64 n, .slice eo m ec] 24)) := ⟨hba, hwa⟩
  have hz : (E != 0) = true := bne_iff_ne.2 hE0
  clear hC hba hwa
  go_enter Tryz.func8, Tryz.ntmps8
  go_wp2_with fail
  refine HC.out.mono ?_
  rintro e w1 ⟨rfl, hb1⟩
  have H1 : Hid (Below w.heap.size w w1) := by rw [← HB.out.2] at hb1; exact bel_up' HB.out.1 hb1
  clear hb1 c0 c1
  go_wp2
  go_ret2
  exact ⟨rfl, H1.out⟩
set_option maxHeartbeats 4000000 in
set_option maxRecDepth 100000 in
theorem nCut_err {E : Int} (hE0 : E ≠ 0) (n tx : Int) {eo : Option Addr} {m ec : Nat} {w : World} (hC : ∀ wx, Below w.heap.size w wx → Calls Tryz.prog 21 #[.agg #[.int .i64 n, .slice eo m ec], .int .i64 tx] wx fun e w' => e = .returned (.int .i64 E) ∧ Below wx.heap.size wx w') :
    Calls Tryz.prog 9 #[.agg #[.int .i64 n, .slice eo m ec], .int .i64 tx] w fun e w' => e = .returned (.tuple #[.slice none 0 0, .int .i64 E]) ∧ Below w.heap.size w w' := by
  obtain ⟨wa, hwa⟩ : ∃ wa, wa = w.alloc (.cells #[.int .i64 n, .slice eo m ec] 24) := ⟨_, rfl⟩
  have hba : Below w.heap.size w wa := by rw [hwa]; exact (Below.refl _ _).alloc (Nat.le_refl _) _
  have hc : NB w.heap.size n (.slice eo m ec) wa := by rw [hwa]; exact NB.new _ _ _
  obtain ⟨c0, c1⟩ := hc
  rw [hwa] at c0 c1
  have HC : Hid (Calls Tryz.prog 21 #[.agg #[.int .i64 n, .slice eo m ec], .int .i64 tx] wa fun e w' => e = .returned (.int .i64 E) ∧ Below wa.heap.size wa w') := hC wa hba
  rw [hwa] at HC
  have HB : Hid (Below w.heap.size w wa ∧ wa = w.alloc (.cells #[.int .i64 n, .slice eo m ec] 24)) := ⟨hba, hwa⟩
  have hz : (E != 0) = true := bne_iff_ne.2 hE0
  clear hC hba hwa
  go_enter Tryz.func9, Tryz.ntmps9
  go_wp2_with fail
  refine HC.out.mono ?_
  rintro e w1 ⟨rfl, hb1⟩
  have H1 : Hid (Below w.heap.size w w1) := by rw [← HB.out.2] at hb1; exact bel_up' HB.out.1 hb1
  clear hb1 c0 c1
  go_wp2
  go_ret2
  exact ⟨rfl, H1.out⟩
set_option maxHeartbeats 4000000 in
set_option maxRecDepth 100000 in
theorem nFlow_ok {n t : Nat} {eo : Option Addr} {m ec : Nat} {F T : Nat → Nat} {w : World} (hE : EdZ eo m (fun i => ((F i : Nat) : Int)) (fun i => ((T i : Nat) : Int)) w) (hN : Nt n m F T) (hn : 0 < n) (hn10 : n ≤ 10) (hm : m ≤ 100) (ht : t < n) (h0 : t ≠ 0)
    (hC : ∀ wx, Below w.heap.size w wx → Calls Tryz.prog 21 #[.agg #[.int .i64 (n : Nat), .slice eo m ec], .int .i64 (t : Nat)] wx fun e w' => e = .returned (.int .i64 0) ∧ Below wx.heap.size wx w') :
    Calls Tryz.prog 8 #[.agg #[.int .i64 (n : Nat), .slice eo m ec], .int .i64 (t : Nat)] w fun e w' => e = .returned (.tuple #[.int .i64 ((cuB m F T t (2 ^ (n - 1))).1 : Nat), .int .i64 0]) ∧ Below w.heap.size w w' := by
  obtain ⟨wa, hwa⟩ : ∃ wa, wa = w.alloc (.cells #[.int .i64 (n : Nat), .slice eo m ec] 24) := ⟨_, rfl⟩
  have hba : Below w.heap.size w wa := by rw [hwa]; exact (Below.refl _ _).alloc (Nat.le_refl _) _
  have hc : NB w.heap.size (n : Nat) (.slice eo m ec) wa := by rw [hwa]; exact NB.new _ _ _
  have HNB : Hid (NB w.heap.size (n : Nat) (.slice eo m ec) wa) := hc
  obtain ⟨c0, c1⟩ := hc
  rw [hwa] at c0 c1
  have HC : Hid (Calls Tryz.prog 21 #[.agg #[.int .i64 (n : Nat), .slice eo m ec], .int .i64 (t : Nat)] wa fun e w' => e = .returned (.int .i64 0) ∧ Below wa.heap.size wa w') := hC wa hba
  rw [hwa] at HC
  have HB : Hid (Below w.heap.size w wa ∧ wa = w.alloc (.cells #[.int .i64 (n : Nat), .slice eo m ec] 24)) := ⟨hba, hwa⟩
  have HF : Hid (∀ wx, Below w.heap.size w wx → Calls Tryz.prog 22 #[.agg #[.int .i64 (n : Nat), .slice eo m ec], .int .i64 (t : Nat), .int .i64 (m : Nat)] wx (FilP n t m eo m ec F T wx)) := fun wx hb => sfill_any (hE.below hb) hN hn hn10 hm ht hm
  have HR : Hid (∀ {B ub k us} {wx : World}, StB B ub n t k eo m ec us wx → Below w.heap.size w wx → Flw m F T us t k → k ≤ m → (k < m → ∃ L bt, Rch m F T us L bt ∧ t ∉ L) → (cuB m F T t (2 ^ (n - 1))).1 = k) := fun {B ub k us} {wx} hS hb hF hk hno => by
    have hex : ∃ L bt, Rch m F T us L bt := by
      by_cases c : k < m
      · obtain ⟨L, bt, q, _⟩ := hno c
        exact ⟨L, bt, q⟩
      · have e : k = m := by omega
        subst e
        exact ⟨_, _, hF.one hN h0⟩
    obtain ⟨L, bt, hR⟩ := hex
    rw [cuB_flow hN hn hF hR (flow_end hN h0 hF hk hR hno)]
  clear hC hba hwa hE
  go_enter Tryz.func8, Tryz.ntmps8
  go_wp2_with fail
  refine HC.out.mono ?_
  rintro e w1 ⟨rfl, hb1⟩
  rw [← HB.out.2] at hb1
  have H1 : Hid (Below w.heap.size w w1 ∧ NB w.heap.size (n : Nat) (.slice eo m ec) w1) := ⟨bel_up' HB.out.1 hb1, HNB.out.keep hb1⟩
  clear hb1 c0 c1
  obtain ⟨c0, c1⟩ := H1.out.2
  go_wp2_with fail
  refine (HF.out w1 H1.out.1).mono ?_
  rintro e w2 ⟨B, ub, us, k, rfl, hS, hFl, hk, hno, _, hb2⟩
  have H2 : Hid (Below w.heap.size w w2 ∧ (cuB m F T t (2 ^ (n - 1))).1 = k) := ⟨bel_up' H1.out.1 hb2, HR.out hS (bel_up' H1.out.1 hb2) hFl hk hno⟩
  have c4 := hS.c4
  clear hS hFl hno hb2 c0 c1
  go_wp2
  go_ret2
  exact ⟨by rw [H2.out.2]; rfl, H2.out.1⟩
/-- A map's keys, sorted. -/
theorem sortsN (m : Nat) : AnyZI.SortsIn Tryz.prog sortedA_ren Fence.wide m :=
  ⟨fun blk off cap ss W hH hblk hsz => callsIn_wide.2 (AnyM.slices_Sort_int sortA blk off cap ss W hH hblk hsz),
   fun p cap W => callsIn_wide.2 (AnyM.slices_Sort_int_none sortA p cap W)⟩
theorem keysN (mb : Option Nat) (W : World) : Calls Tryz.prog 24 #[.map mb] W fun e w' => e = .returned (.func (.func 45) #[] #[.pointer (some ⟨W.heap.size, 0, none⟩)]) ∧ w' = W.alloc (.cells #[.map mb] 63) := (callsIn_wide (n := 5)).1 (AnyZI.keys_in keysA Fence.wide 5 trivial rfl mb W)
theorem mn_perm {B nn : Nat} {L : List Nat} {c : Nat → Int} {D : DataW Value} {w : World} (hown : w.ownsMap Tryz.prog 3 (plainElem Tryz.prog 3) B nn D) (hD : MnD D L c) (hd : L.Nodup) : (L.map fun j => ((j : Nat) : Int)).Perm (intKeys D) := by
  refine CollectedI.perm (left := fun _ => false) ⟨?_, fun x => ?_⟩ hown ct_law cty_int (fun _ => rfl)
  · exact List.pairwise_map.2 (hd.imp (fun {a b} h => by omega))
  · rw [hD.has x, List.mem_map]
    exact ⟨fun ⟨k, hk, e⟩ => ⟨⟨k, hk, e.symm⟩, rfl⟩, fun ⟨⟨k, hk, e⟩, _⟩ => ⟨k, hk, e.symm⟩⟩
theorem sortedN {B n : Nat} {L : List Nat} {c : Nat → Int} {w : World} (h : MapN B L c w) (hd : L.Nodup) (hl : ∀ k ∈ L, k < n) (hn : n ≤ 64) :
    Calls Tryz.prog 23 #[.func (.func 45) #[] #[.pointer (some ⟨w.heap.size, 0, none⟩)]] (w.alloc (.cells #[.map (some B)] 63)) fun e w' => ∃ v, e = .returned v ∧ OwnI w.heap.size v (((List.range n).filter fun j => L.contains j).map fun j => ((j : Nat) : Int)) w' ∧ Below w.heap.size w w' := by
  obtain ⟨D, hown, hD⟩ := h
  have hp := mn_perm hown hD hd
  have hsz : Maps.size D = L.length := by
    obtain ⟨es, rfl⟩ := hD.im
    have := hp.length_eq
    rw [List.length_map] at this
    rw [this]
    show es.length = (es.map _).length
    rw [List.length_map]
  have hln := nd_len hd hl
  have hbl := hown.lt
  have hseq : SeqGives Fence.wide 2 Tryz.prog 45 #[.pointer (some ⟨w.heap.size, 0, none⟩)] encZ (fun ss => ss.Perm (intKeys D)) (Maps.size D) (w.alloc (.cells #[.map (some B)] 63)) :=
    AnyZI.keys_gives (ρ := keysA_ren) { keysA with } Fence.wide _ trivial rfl (by omega) w.heap.size B L.length D _ (by simp) (by simp) (by
      obtain ⟨es, clock, hb, Ft, hs, hD⟩ := hown
      exact ⟨es, clock, (Below.heap_alloc _ _ B hbl).trans hb, Ft, hs, hD⟩)
  have cS := AnyZI.sorted_in sortedA Fence.wide 5 trivial trivial trivial trivial rfl (by omega) (sortsN _) (enters_of Tryz.func44 (by kernel_rfl) rfl) 45 #[.pointer (some ⟨w.heap.size, 0, none⟩)] trivial (enters_of Tryz.func45 (by kernel_rfl) rfl) _ _ (by rw [hsz]; unfold maxLen; omega) (by rw [hsz]; omega) _ hseq
  change CallsIn _ _ Tryz.prog 23 _ _ _ at cS
  refine ((callsIn_wide (n := 5)).1 cS).mono ?_
  rintro e w' ⟨v, ss, rfl, hS, hrow, _, hb⟩
  refine ⟨v, rfl, ?_, ((Below.refl _ w).alloc (Nat.le_refl _) _).trans (hb.mono (by simp))⟩
  have e1 : ss.mergeSort (fun x y => decide (x ≤ y)) = ((List.range n).filter fun j => L.contains j).map fun j => ((j : Nat) : Int) := (mergeSort_of_perm_i (hS.trans hp.symm)).trans (sort_range hd hl)
  have e2 : ss.length = (((List.range n).filter fun j => L.contains j).map fun j => ((j : Nat) : Int)).length := by rw [← e1, List.length_mergeSort]
  have hrow := ownsRow_base_a hrow (base' := w.heap.size) (by simp)
  rw [e1, e2] at hrow
  exact hrow
theorem bls_inL {n : Nat} {L : List Nat} : bls n (bnm (inL L) n) = ((List.range n).filter fun j => L.contains j).map fun j => ((j : Nat) : Int) := by
  unfold bls
  congr 1
  refine List.filter_congr (fun v hv => ?_)
  rw [bnm_bit, decide_eq_true (List.mem_range.1 hv), Bool.true_and]
  rfl
set_option maxHeartbeats 4000000 in
set_option maxRecDepth 100000 in
theorem nCut_ok {n t : Nat} {eo : Option Addr} {m ec : Nat} {F T : Nat → Nat} {w : World} (hE : EdZ eo m (fun i => ((F i : Nat) : Int)) (fun i => ((T i : Nat) : Int)) w) (hN : Nt n m F T) (hn : 0 < n) (hn10 : n ≤ 10) (hm : m ≤ 100) (ht : t < n) (h0 : t ≠ 0)
    (hC : ∀ wx, Below w.heap.size w wx → Calls Tryz.prog 21 #[.agg #[.int .i64 (n : Nat), .slice eo m ec], .int .i64 (t : Nat)] wx fun e w' => e = .returned (.int .i64 0) ∧ Below wx.heap.size wx w') :
    Calls Tryz.prog 9 #[.agg #[.int .i64 (n : Nat), .slice eo m ec], .int .i64 (t : Nat)] w fun e w' => ∃ v, e = .returned (.tuple #[v, .int .i64 0]) ∧ OwnI w.heap.size v (bls n (cuB m F T t (2 ^ (n - 1))).2) w' ∧ Below w.heap.size w w' := by
  obtain ⟨wa, hwa⟩ : ∃ wa, wa = w.alloc (.cells #[.int .i64 (n : Nat), .slice eo m ec] 24) := ⟨_, rfl⟩
  have hba : Below w.heap.size w wa := by rw [hwa]; exact (Below.refl _ _).alloc (Nat.le_refl _) _
  have hc : NB w.heap.size (n : Nat) (.slice eo m ec) wa := by rw [hwa]; exact NB.new _ _ _
  have HNB : Hid (NB w.heap.size (n : Nat) (.slice eo m ec) wa) := hc
  obtain ⟨c0, c1⟩ := hc
  rw [hwa] at c0 c1
  have HC : Hid (Calls Tryz.prog 21 #[.agg #[.int .i64 (n : Nat), .slice eo m ec], .int .i64 (t : Nat)] wa fun e w' => e = .returned (.int .i64 0) ∧ Below wa.heap.size wa w') := hC wa hba
  rw [hwa] at HC
  have HB : Hid (Below w.heap.size w wa ∧ wa = w.alloc (.cells #[.int .i64 (n : Nat), .slice eo m ec] 24)) := ⟨hba, hwa⟩
  have HF : Hid (∀ wx, Below w.heap.size w wx → Calls Tryz.prog 22 #[.agg #[.int .i64 (n : Nat), .slice eo m ec], .int .i64 (t : Nat), .int .i64 (m : Nat)] wx (FilP n t m eo m ec F T wx)) := fun wx hb => sfill_any (hE.below hb) hN hn hn10 hm ht hm
  have HRe : Hid (∀ {B ub k us} {wx : World}, StB B ub n t k eo m ec us wx → Below w.heap.size w wx → Flw m F T us t k → k ≤ m → (k < m → ∃ L bt, Rch m F T us L bt ∧ t ∉ L) → Calls Tryz.prog 25 #[.pointer (some ⟨B, 0, none⟩)] wx fun r w' => ∃ L bt, r = .returned (.map (some wx.heap.size)) ∧ MapN wx.heap.size L (rcV bt) w' ∧ (L.Nodup ∧ (∀ k ∈ L, k < n) ∧ (cuB m F T t (2 ^ (n - 1))).2 = bnm (inL L) n) ∧ Below wx.heap.size wx w') := fun {B ub k us} {wx} hS hb hF hk hno => by
    refine (sreached_any hS (hE.below hb) hN hn hn10 hm).mono ?_
    rintro r w' ⟨L, bt, rfl, hM, hR, hb'⟩
    exact ⟨L, bt, rfl, hM, ⟨hR.nd, fun k hk => hR.lt hN hn hk, by rw [cuB_flow hN hn hF hR (flow_end hN h0 hF hk hR hno)]⟩, hb'⟩
  clear hC hba hwa hE
  go_enter Tryz.func9, Tryz.ntmps9
  go_wp2_with fail
  refine HC.out.mono ?_
  rintro e w1 ⟨rfl, hb1⟩
  rw [← HB.out.2] at hb1
  have H1 : Hid (Below w.heap.size w w1 ∧ NB w.heap.size (n : Nat) (.slice eo m ec) w1) := ⟨bel_up' HB.out.1 hb1, HNB.out.keep hb1⟩
  clear hb1 c0 c1
  obtain ⟨c0, c1⟩ := H1.out.2
  go_wp2_with fail
  refine (HF.out w1 H1.out.1).mono ?_
  rintro e w2 ⟨B, ub, us, k, rfl, hS, hFl, hk, hno, _, hb2⟩
  have hb2' : Below w.heap.size w w2 := bel_up' H1.out.1 hb2
  have H2 : Hid (Below w.heap.size w w2) := hb2'
  have HR3 : Hid (StB B ub n t k eo m ec us w2 ∧ Flw m F T us t k ∧ (k < m → ∃ L bt, Rch m F T us L bt ∧ t ∉ L)) := ⟨hS, hFl, hno⟩
  clear hS hFl hno hb2 hb2' c0 c1 HF
  go_wp2_with fail
  refine (HRe.out HR3.out.1 H2.out HR3.out.2.1 hk HR3.out.2.2).mono ?_
  rintro e w3 ⟨L, bt, rfl, hM, hL, hb3⟩
  have H3 : Hid (MapN w2.heap.size L (rcV bt) w3 ∧ (L.Nodup ∧ (∀ k ∈ L, k < n) ∧ (cuB m F T t (2 ^ (n - 1))).2 = bnm (inL L) n) ∧ Below w.heap.size w w3) := ⟨hM, hL, bel_up' H2.out hb3⟩
  clear hM hL hb3 HR3 HRe
  go_wp2_with fail
  refine (keysN _ _).mono ?_
  rintro e w4 ⟨rfl, hw4⟩
  have hS4 := sortedN H3.out.1 H3.out.2.1.1 H3.out.2.1.2.1 (by omega)
  rw [← hw4] at hS4
  have H4 : Hid (Calls Tryz.prog 23 #[.func (.func 45) #[] #[.pointer (some ⟨w3.heap.size, 0, none⟩)]] w4 fun e w' => ∃ v, e = .returned v ∧ OwnI w3.heap.size v (((List.range n).filter fun j => L.contains j).map fun j => ((j : Nat) : Int)) w' ∧ Below w3.heap.size w3 w') := hS4
  clear hS4 hw4
  go_wp2_with fail
  refine H4.out.mono ?_
  rintro e w5 ⟨v, rfl, ho, hb5⟩
  have H5 : Hid (OwnI w.heap.size v (bls n (cuB m F T t (2 ^ (n - 1))).2) w5 ∧ Below w.heap.size w w5) := by
    refine ⟨?_, bel_up' H3.out.2.2 hb5⟩
    rw [H3.out.2.1.2.2, bls_inL]
    exact ho.mono H3.out.2.2.size
  clear ho hb5
  go_wp2
  go_ret2
  exact ⟨v, rfl, H5.out⟩
end Go.Proofs.YtbnkekeeceicaaaGreat
