/- Nets: what is heard (the program's Hear; printed by make/kf5.py). -/
import Derived.Test.YthkjaiihlphgfaaZKF4
import Derived.Test.YthkjaiihlphgfaaZW12
namespace Go.Proofs.Ythkjaiihlphgfaa
open Go.RowKit Go.Sort

set_option maxHeartbeats 2000000 in
set_option maxRecDepth 100000 in
theorem nHear_none (q n x : Int) (h : ∀ D ∈ fieldsL, (D.q : Int) ≠ q) {eo ao co : Option Addr} {m ec mv ca lc cc : Nat} {F T : Nat → Int} {w : World} (hE : EdZ eo m F T w) (hm : m ≤ 1000000) :
    Calls Try.prog 18 #[.int .i64 q, .agg #[.int .i64 n, .slice eo m ec], .slice ao mv ca, .slice co lc cc, .int .i64 x] w (SnP (if skchk n x (nchkE n m F T) ≠ 0 then skchk n x (nchkE n m F T) else 1) [] w) := by
  obtain ⟨E1, hE1⟩ : ∃ E1, E1 = skchk n x (nchkE n m F T) := ⟨_, rfl⟩
  obtain ⟨wa, hwa⟩ : ∃ wa, wa = w.alloc (.cells #[.int .i64 n, .slice eo m ec] 24) := ⟨_, rfl⟩
  have hba : Below w.heap.size w wa := by rw [hwa]; exact (Below.refl _ _).alloc (Nat.le_refl _) _
  have HB : Hid ((∀ D ∈ fieldsL, (D.q : Int) ≠ q) ∧ Below w.heap.size w wa) := ⟨h, hba⟩
  have HC : Hid (Calls Try.prog 63 #[.agg #[.int .i64 n, .slice eo m ec], .int .i64 x] wa fun e w' => e = .returned (.int .i64 E1) ∧ Below wa.heap.size wa w') := by
    rw [hE1]; exact nCheckTo_any n x (hE.below hba) hm
  rw [← hE1]
  obtain ⟨E, hEe⟩ : ∃ E : Int, E = if E1 ≠ 0 then E1 else 1 := ⟨_, rfl⟩
  have HE : Hid ((E1 ≠ 0 → E = E1) ∧ (E1 = 0 → E = 1)) := ⟨fun h => by rw [hEe, if_pos h], fun h => by rw [hEe, if_neg (fun x => x h)]⟩
  rw [← hEe]
  clear h hE hba hE1 hEe
  go_enter Try.func18, Try.ntmps18
  go_wp2_with fail
  rw [← hwa]
  clear hwa
  refine HC.out.mono ?_
  rintro e w1 ⟨rfl, hb1⟩
  have H1 : Hid (Below w.heap.size w w1) := bel_up' HB.out.2 hb1
  clear hb1
  by_cases h0 : E1 = 0
  · have z0 : (E1 != 0) = false := by rw [h0]; rfl
    have HV : Hid (E = 1) := HE.out.2 h0
    clear h0
    go_wp2_with fail
    refine (new_none q w1 HB.out.1).mono ?_
    rintro e w' ⟨rfl, hw⟩
    have hw := hw.symm
    subst hw
    go_wp2
    go_ret2
    exact ⟨H1.out, none, 0, 0, by rw [HV.out]; rfl, Or.inl ⟨by rw [HV.out]; decide, rfl⟩⟩
  · have z0 : (E1 != 0) = true := bne_iff_ne.2 h0
    have HV : Hid (E = E1 ∧ E1 ≠ 0) := ⟨HE.out.1 h0, h0⟩
    clear h0
    go_wp2
    go_ret2
    exact ⟨H1.out, none, 0, 0, by rw [HV.out.1]; rfl, Or.inl ⟨by rw [HV.out.1]; exact HV.out.2, rfl⟩⟩
theorem own_apart {base base' : Nat} {u v : Value} {l : List Int} {l' : List Value} {w : World} (h : OwnI base u l w) (h' : OwnV base' v l' w) : v.ownBlock = none ∨ v.ownBlock ≠ u.ownBlock := by
  rcases h.apart h' with e | e
  · cases hv : v.ownBlock with
    | none => exact Or.inl rfl
    | some k => right; rw [e]; intro x; cases x
  · exact Or.inr (fun x => e x.symm)
theorem mchk_le {D : FD} {mv : Nat} {N : Nat → Nat} {Z : Nat → Nat → Int} {E0 : Int} (h : E0 = 0) (h2 : E0 = D.mchk mv N Z) : mv ≤ 64 := by
  rw [h] at h2
  unfold FD.mchk at h2
  by_cases e : 64 < mv
  · rw [if_pos e] at h2; cases h2
  · omega
/-- What the program's Solve and Rank tell of a matrix and a list, wherever they lie. -/
def SvQ (D : FD) (m : Nat) (N : Nat → Nat) (Z : Nat → Nat → Int) (y : Nat → Int) (okb : Bool) (L : Nat) (s : Nat → Int) (k : Nat) : Prop := ∀ (ao : Option Addr) (A : Nat → Option Addr) (C : Nat → Nat) (ca : Nat) (bo : Option Addr) (cb : Nat) (w : World), MatZ ao m A N C Z w → SlZ bo m y w →
    (Calls Try.prog 99 #[.int .i64 D.q, .slice ao m ca, .slice bo m cb] w fun e w' => (∃ xo xc, e = .returned (.tuple #[.slice xo L xc, .bool okb, .int .i64 0]) ∧ KI (.slice xo L xc) (zl L s) w') ∧ Below w.heap.size w w') ∧
    (Calls Try.prog 98 #[.int .i64 D.q, .slice ao m ca] w fun e w' => e = .returned (.tuple #[.int .i64 (k : Nat), .int .i64 0]) ∧ Below w.heap.size w w')
theorem SvA.q {D : FD} {m : Nat} {N : Nat → Nat} {Z : Nat → Nat → Int} {y : Nat → Int} {okb : Bool} {L : Nat} {s : Nat → Int} {k : Nat} (h : SvA D m N Z y okb L s k) : SvQ D m N Z y okb L s k := fun ao A C ca bo cb w hA hy => ⟨(h ao A C ca bo cb w hA hy).2.1, (h ao A C ca bo cb w hA hy).2.2.1⟩
/-- What is said of what is to be heard. -/
def FD.hrchk (D : FD) (E1 : Int) (mv : Nat) (N : Nat → Nat) (Z : Nat → Nat → Int) (m lc : Nat) (y : Nat → Int) : Int := if E1 ≠ 0 then E1 else if D.mchk mv N Z ≠ 0 then D.mchk mv N Z else if mv ≠ m ∨ lc ≠ m then 6 else if D.allHas y lc = true then 0 else 2

set_option maxHeartbeats 16000000 in
set_option maxRecDepth 100000 in
theorem nHear_any {D : FD} (hD : D ∈ fieldsL) (n x : Int) {eo ao co : Option Addr} {m ec mv ca lc cc : Nat} {F T : Nat → Int} {A : Nat → Option Addr} {N C : Nat → Nat} {Z : Nat → Nat → Int} {y : Nat → Int} {w : World} (hE : EdZ eo m F T w) (hA : MatZ ao mv A N C Z w) (hY : SlZ co lc y w) (hm : m ≤ 6000) (hmv : mv ≤ 6000) (hlc : lc ≤ 6000) {okb : Bool} {L k : Nat} {s : Nat → Int}
    (hS : D.hrchk (skchk n x (nchkE n m F T)) mv N Z m lc y = 0 → 0 < (tlN T x m).length → SvQ D (tlN T x m).length (fun i => N ((tlN T x m).getD i 0)) (fun i => Z ((tlN T x m).getD i 0)) (fun i => y ((tlN T x m).getD i 0)) okb L s k) :
    Calls Try.prog 18 #[.int .i64 D.q, .agg #[.int .i64 n, .slice eo m ec], .slice ao mv ca, .slice co lc cc, .int .i64 x] w (SnP (if D.hrchk (skchk n x (nchkE n m F T)) mv N Z m lc y ≠ 0 then D.hrchk (skchk n x (nchkE n m F T)) mv N Z m lc y else if (decide (0 < (tlN T x m).length) && (okb && !decide (k < N ((tlN T x m).getD 0 0)))) = true then 0 else 9) (zl L s) w) := by
  obtain ⟨E1, hE1⟩ : ∃ E1, E1 = skchk n x (nchkE n m F T) := ⟨_, rfl⟩
  obtain ⟨E0, hE0⟩ : ∃ E0, E0 = D.mchk mv N Z := ⟨_, rfl⟩
  obtain ⟨ok, hok⟩ : ∃ ok, ok = (decide (0 < (tlN T x m).length) && (okb && !decide (k < N ((tlN T x m).getD 0 0)))) := ⟨_, rfl⟩
  obtain ⟨E, hEe⟩ : ∃ E, E = if D.hrchk (skchk n x (nchkE n m F T)) mv N Z m lc y ≠ 0 then D.hrchk (skchk n x (nchkE n m F T)) mv N Z m lc y else if ok = true then 0 else 9 := ⟨_, rfl⟩
  obtain ⟨wa, hwa⟩ : ∃ wa, wa = w.alloc (.cells #[.int .i64 n, .slice eo m ec] 24) := ⟨_, rfl⟩
  obtain ⟨B, hB⟩ : ∃ B, B = w.heap.size := ⟨_, rfl⟩
  have hba : Below w.heap.size w wa := by rw [hwa]; exact (Below.refl _ _).alloc (Nat.le_refl _) _
  have HA : Hid (D ∈ fieldsL ∧ NB B n (.slice eo m ec) wa ∧ EdZ eo m F T wa ∧ MatZ ao mv A N C Z wa ∧ SlZ co lc y wa ∧ Below w.heap.size w wa) := ⟨hD, by rw [hB, hwa]; exact NB.new _ _ _, hE.below hba, hA.below hba, slz_below hY hba, hba⟩
  have HE : Hid (E0 = D.mchk mv N Z ∧ (E1 ≠ 0 → E = E1) ∧ (E1 = 0 → E0 ≠ 0 → E = E0) ∧ (E1 = 0 → E0 = 0 → (mv ≠ m ∨ lc ≠ m) → E = 6) ∧ (E1 = 0 → E0 = 0 → mv = m → lc = m → D.allHas y lc = false → E = 2) ∧ (E1 = 0 → E0 = 0 → mv = m → lc = m → D.allHas y lc = true → E = (if ok = true then 0 else 9) ∧ (0 < (tlN T x m).length → SvQ D (tlN T x m).length (fun i => N ((tlN T x m).getD i 0)) (fun i => Z ((tlN T x m).getD i 0)) (fun i => y ((tlN T x m).getD i 0)) okb L s k))) := by
    have hr : ∀ v, D.hrchk (skchk n x (nchkE n m F T)) mv N Z m lc y = v → v ≠ 0 → E = v := fun v h1 h2 => by rw [hEe, if_pos (by rw [h1]; exact h2), h1]
    have un : D.hrchk (skchk n x (nchkE n m F T)) mv N Z m lc y = if E1 ≠ 0 then E1 else if E0 ≠ 0 then E0 else if mv ≠ m ∨ lc ≠ m then 6 else if D.allHas y lc = true then 0 else 2 := by rw [hE1, hE0]; rfl
    refine ⟨hE0, fun h => hr E1 (by rw [un, if_pos h]) h, fun h1 h2 => hr E0 (by rw [un, if_neg (fun x => x h1), if_pos h2]) h2, fun h1 h2 h3 => hr 6 (by rw [un, if_neg (fun x => x h1), if_neg (fun x => x h2), if_pos h3]) (by decide), fun h1 h2 h3 h4 h5 => hr 2 (by rw [un, if_neg (fun x => x h1), if_neg (fun x => x h2), if_neg (by omega), h5]; rfl) (by decide), fun h1 h2 h3 h4 h5 => ?_⟩
    have e0 : D.hrchk (skchk n x (nchkE n m F T)) mv N Z m lc y = 0 := by rw [un, if_neg (fun x => x h1), if_neg (fun x => x h2), if_neg (by omega), if_pos h5]
    exact ⟨by rw [hEe, if_neg (fun x => x e0)], hS e0⟩
  have HOk : Hid (ok = (decide (0 < (tlN T x m).length) && (okb && !decide (k < N ((tlN T x m).getD 0 0))))) := hok
  have HC : Hid (Calls Try.prog 63 #[.agg #[.int .i64 n, .slice eo m ec], .int .i64 x] wa fun e w' => e = .returned (.int .i64 E1) ∧ Below wa.heap.size wa w') := by
    rw [hE1]; exact nCheckTo_any n x (hE.below hba) (by omega)
  rw [← hok, ← hEe]
  clear hD hE hA hY hS hE1 hE0 hok hEe hba
  have hc := HA.out.2.1
  obtain ⟨c0, c1⟩ := hc
  rw [hwa, hB] at c0 c1
  go_enter Try.func18, Try.ntmps18
  go_wp2_with fail
  clear c0 c1
  rw [← hwa]
  refine HC.out.mono ?_
  rintro e w1 ⟨rfl, hb1⟩
  rw [← hB]
  have H1 : Hid (NB B n (.slice eo m ec) w1 ∧ Below wa.heap.size wa w1) := ⟨HA.out.2.1.keep hb1, hb1⟩
  clear hb1 hwa hB HC
  by_cases h0 : E1 = 0
  · have z0 : (E1 != 0) = false := by rw [h0]; rfl
    have Hz0 : Hid (E1 = 0) := h0
    clear h0
    go_wp2_with fail
    refine (new_any HA.out.1 w1).mono ?_
    rintro e w2 ⟨Fb, Tb, g, rfl, hat, _, _, hb2⟩
    have H2 : Hid (FAt Fb Tb D g w2 ∧ NB B n (.slice eo m ec) w2 ∧ Below wa.heap.size wa w2) := ⟨hat, H1.out.1.keep hb2, bel_up' H1.out.2 hb2⟩
    clear hat hb2 H1
    have HM : Hid (Calls Try.prog 56 #[.int .i64 D.q, .slice ao mv ca] w2 fun e w' => e = .returned (.int .i64 E0) ∧ Below w2.heap.size w2 w') := by
      rw [HE.out.1]; exact mcheck_any HA.out.1 (HA.out.2.2.2.1.below H2.out.2.2) (by omega)
    go_wp2_with fail
    refine HM.out.mono ?_
    rintro e w3 ⟨rfl, hb3⟩
    have H3 : Hid (FAt Fb Tb D g w3 ∧ NB B n (.slice eo m ec) w3 ∧ Below wa.heap.size wa w3) := ⟨H2.out.1.below hb3 H2.out.1.ltF H2.out.1.ltT, H2.out.2.1.keep hb3, bel_up' H2.out.2.2 hb3⟩
    clear hb3 HM H2
    by_cases h0 : E0 = 0
    · have z1 : (E0 != 0) = false := by rw [h0]; rfl
      have Hz1 : Hid (E0 = 0) := h0
      clear h0
      have hc := H3.out.2.1
      obtain ⟨c0, c1⟩ := hc
      by_cases hvm : mv = m
      · by_cases hcm : lc = m
        · subst hvm
          subst hcm
          have zz : ((lc : Int) != (lc : Int)) = false := by simp
          obtain ⟨ah, hah⟩ : ∃ ah, ah = D.allHas y lc := ⟨_, rfl⟩
          have HAh : Hid (ah = D.allHas y lc) := hah
          have HAl : Hid (Calls Try.prog 57 #[.pointer (some ⟨Fb, 0, none⟩), .slice co lc cc] w3 fun e w' => e = .returned (.bool ah) ∧ Below w3.heap.size w3 w') := by
            rw [hah]; exact allOf_any H3.out.1 (slz_below HA.out.2.2.2.2.1 H3.out.2.2) (by omega)
          clear hah
          go_wp2_with fail
          refine HAl.out.mono ?_
          rintro e w4 ⟨rfl, hb4⟩
          have H4 : Hid (NB B n (.slice eo lc ec) w4 ∧ Below wa.heap.size wa w4) := ⟨H3.out.2.1.keep hb4, bel_up' H3.out.2.2 hb4⟩
          clear hb4 HAl c0 c1
          have hc := H4.out.1
          obtain ⟨c0, c1⟩ := hc
          cases ah with
          | false =>
            have HV : Hid (E = 2) := HE.out.2.2.2.2.1 Hz0.out Hz1.out (by first | rfl | trivial) (by first | rfl | trivial) HAh.out.symm
            go_wp2
            go_ret2
            exact ⟨bel_up' HA.out.2.2.2.2.2 H4.out.2, none, 0, 0, by rw [HV.out]; rfl, Or.inl ⟨by rw [HV.out]; decide, rfl⟩⟩
          | true =>
            have HV : Hid (E = (if ok = true then 0 else 9) ∧ (0 < (tlN T x lc).length → SvQ D (tlN T x lc).length (fun i => N ((tlN T x lc).getD i 0)) (fun i => Z ((tlN T x lc).getD i 0)) (fun i => y ((tlN T x lc).getD i 0)) okb L s k)) := HE.out.2.2.2.2.2 Hz0.out Hz1.out (by first | rfl | trivial) (by first | rfl | trivial) HAh.out.symm
            go_wp2
            clear c0 c1
            go_loopw [16, 17, 61] (fun vr vc vi wx => ∃ i : Nat, i ≤ lc ∧ vi = .int .i64 (i : Nat) ∧ Hid (OwnV w4.heap.size vr (rowsN A N C (tlN T x i)) wx ∧ OwnI w4.heap.size vc ((tlN T x i).map y) wx ∧ Below w4.heap.size w4 wx)) (fun _ _ vi _ => lc - (intOf vi).toNat)
            case atStart => exact ⟨0, by omega, rfl, OwnV.nil _ _, OwnI.nil _ _, Below.refl _ _⟩
            case round =>
              obtain ⟨i, hi, rfl, HI⟩ := hrel
              rename World => wr
              have hszr := HI.out.2.2.size
              have hbr : Below wa.heap.size wa wr := bel_up' H4.out.2 HI.out.2.2
              by_cases hlt : i < lc
              · have hib : (i : Int) < (lc : Int) := by omega
                have hib0 : (0 : Int) ≤ (i : Int) := by omega
                obtain ⟨b, off, rfl, e0, e1⟩ := (HA.out.2.2.1.below hbr) i hlt
                obtain ⟨fx, hfx⟩ : ∃ fx, fx = F i := ⟨_, rfl⟩
                obtain ⟨t, ht⟩ : ∃ t, t = T i := ⟨_, rfl⟩
                rw [← hfx] at e0
                rw [← ht] at e1
                obtain ⟨wE, hwE⟩ : ∃ wE, wE = wr.alloc (.cells #[.int .i64 fx, .int .i64 t] 89) := ⟨_, rfl⟩
                have hbE : Below wr.heap.size wr wE := by rw [hwE]; exact (Below.refl _ _).alloc (Nat.le_refl _) _
                have HX : Hid (OwnV w4.heap.size u16 (rowsN A N C (tlN T x i)) wE ∧ OwnI w4.heap.size u17 ((tlN T x i).map y) wE ∧ Below w4.heap.size w4 wE) := ⟨HI.out.1.below hbE (Nat.le_refl _), HI.out.2.1.below hbE (fun k hk => (HI.out.2.1.lt k hk).2), bel_up' HI.out.2.2 hbE⟩
                clear hbE hbr hfx
                by_cases hyx : t = x
                · have hz : (t == x) = true := by rw [hyx]; simp
                  obtain ⟨bv, ov, rfl, hcv⟩ := (HA.out.2.2.2.1.below H4.out.2).cell i hlt
                  obtain ⟨bc, oc, rfl, hcc⟩ := (slz_below HA.out.2.2.2.2.1 H4.out.2) i hlt
                  obtain ⟨Ai, hAi⟩ : ∃ Ai, Ai = A i := ⟨_, rfl⟩
                  obtain ⟨Ni, hNi⟩ : ∃ Ni, Ni = N i := ⟨_, rfl⟩
                  obtain ⟨Ci, hCi⟩ : ∃ Ci, Ci = C i := ⟨_, rfl⟩
                  obtain ⟨z, hzz⟩ : ∃ z, z = y i := ⟨_, rfl⟩
                  rw [← hAi, ← hNi, ← hCi] at hcv
                  rw [← hzz] at hcc
                  obtain ⟨lr, hlr⟩ : ∃ lr, lr = rowsN A N C (tlN T x i) := ⟨_, rfl⟩
                  obtain ⟨lz, hlz⟩ : ∃ lz, lz = (tlN T x i).map y := ⟨_, rfl⟩
                  have HV2 : Hid (rowsN A N C (tlN T x (i + 1)) = lr ++ [.slice Ai Ni Ci] ∧ (tlN T x (i + 1)).map y = lz ++ [z]) := by
                    refine ⟨?_, ?_⟩
                    · show rowsN A N C (if T i = x then tlN T x i ++ [i] else tlN T x i) = _
                      rw [if_pos (by rw [← ht]; exact hyx), hAi, hNi, hCi, hlr]
                      unfold rowsN
                      rw [List.map_append]; rfl
                    · show (if T i = x then tlN T x i ++ [i] else tlN T x i).map y = _
                      rw [if_pos (by rw [← ht]; exact hyx), hzz, hlz, List.map_append]; rfl
                  have hl1 : lr.length ≤ 1000 ∧ lz.length ≤ 1000 := by
                    rw [hlr, hlz]; unfold rowsN; rw [List.length_map, List.length_map]; have := tlN_len T x i; have := (mchk_le Hz1.out HE.out.1); omega
                  have hl64 := hl1
                  have HK5 : Hid (∀ wx, Below w4.heap.size w4 wx → (fun wx : World => wx.cell? ⟨bv, ov + i, none⟩ = some (.slice Ai Ni Ci) ∧ wx.cell? ⟨bc, oc + i, none⟩ = some (.int .i64 z)) wx) := fun wx hx => ⟨((bcell hx).1 bv (ov + i) (cell_lt hcv)).trans hcv, ((bcell hx).1 bc (oc + i) (cell_lt hcc)).trans hcc⟩
                  have HX2 : Hid (OwnV w4.heap.size u16 lr wE.drew ∧ OwnI w4.heap.size u17 lz wE.drew ∧ Below w4.heap.size w4 wE.drew) := by
                    rw [hlr, hlz]
                    exact ⟨HX.out.1.below (Below.refl wE.heap.size wE).drew (Nat.le_refl _), HX.out.2.1.below (Below.refl wE.heap.size wE).drew (fun k hk => (HX.out.2.1.lt k hk).2), HX.out.2.2.drew⟩
                  clear hyx ht hAi hNi hCi hzz hcv hcc HX hlr hlz
                  go_wp2
                  rw [← hwE]
                  clear hwE e0 e1
                  have hS0 := HK5.out _ HX2.out.2.2
                  refine wp_region_noPanic ?_
                  refine wp_region_X (S := fun wx : World => wx.cell? ⟨bv, ov + i, none⟩ = some (.slice Ai Ni Ci) ∧ wx.cell? ⟨bc, oc + i, none⟩ = some (.int .i64 z)) 15 (by kernel_rfl) ?_
                  obtain ⟨wd, hwd⟩ : ∃ wd, wd = wE.drew := ⟨_, rfl⟩
                  rw [← hwd] at HX2 hS0 ⊢
                  clear hwd
                  refine wpAnyX_take (i := 0) (v := ?_) (by rw [List.getElem?_toArray]; rfl) (by kernel_rfl) (by kernel_rfl) (by kernel_rfl) (by kernel_rfl) (fun _ _ _ h => h) hS0 (Or.inl ⟨by rfl, ?_⟩) ?_
                  rotate_left
                  · intro wz hSz; obtain ⟨z0, z1⟩ := hSz; go_simp; first | done | with_reducible rfl
                  try simp only [Act.put, List.setIfInBounds_toArray, List.set_cons_zero, List.set_cons_succ]
                  refine wpAnyX_take (i := 1) (v := ?_) (by rw [List.getElem?_toArray]; rfl) (by kernel_rfl) (by kernel_rfl) (by kernel_rfl) (by kernel_rfl) (fun _ _ _ h => h) hS0 (Or.inl ⟨by rfl, ?_⟩) ?_
                  rotate_left
                  · intro wz hSz; obtain ⟨z0, z1⟩ := hSz; go_simp; first | done | with_reducible rfl
                  try simp only [Act.put, List.setIfInBounds_toArray, List.set_cons_zero, List.set_cons_succ]
                  refine wpAnyX_take (i := 2) (v := ?_) (by rw [List.getElem?_toArray]; rfl) (by kernel_rfl) (by kernel_rfl) (by kernel_rfl) (by kernel_rfl) (fun _ _ _ h => h) hS0 (Or.inl ⟨by rfl, ?_⟩) ?_
                  rotate_left
                  · intro wz hSz; obtain ⟨z0, z1⟩ := hSz; go_simp; first | done | with_reducible rfl
                  try simp only [Act.put, List.setIfInBounds_toArray, List.set_cons_zero, List.set_cons_succ]
                  refine wpAnyX_take (i := 3) (v := ?_) (by rw [List.getElem?_toArray]; rfl) (by kernel_rfl) (by kernel_rfl) (by kernel_rfl) (by kernel_rfl) (fun _ _ _ h => h) hS0 (Or.inl ⟨by rfl, ?_⟩) ?_
                  rotate_left
                  · intro wz hSz; obtain ⟨z0, z1⟩ := hSz; go_simp; first | done | with_reducible rfl
                  try simp only [Act.put, List.setIfInBounds_toArray, List.set_cons_zero, List.set_cons_succ]
                  refine wpAnyX_take (i := 4) (v := ?_) (by rw [List.getElem?_toArray]; rfl) (by kernel_rfl) (by kernel_rfl) (by kernel_rfl) (by kernel_rfl) (fun _ _ _ h => h) hS0 (Or.inl ⟨by rfl, ?_⟩) ?_
                  rotate_left
                  · intro wz hSz; obtain ⟨z0, z1⟩ := hSz; go_simp; first | done | with_reducible rfl
                  try simp only [Act.put, List.setIfInBounds_toArray, List.set_cons_zero, List.set_cons_succ]
                  refine wpAnyX_take (i := 7) (v := ?_) (by rw [List.getElem?_toArray]; rfl) (by kernel_rfl) (by kernel_rfl) (by kernel_rfl) (by kernel_rfl) (fun _ _ _ h => h) hS0 (Or.inl ⟨by rfl, ?_⟩) ?_
                  rotate_left
                  · intro wz hSz; obtain ⟨z0, z1⟩ := hSz; go_simp; first | done | with_reducible rfl
                  try simp only [Act.put, List.setIfInBounds_toArray, List.set_cons_zero, List.set_cons_succ]
                  refine wpAnyX_take (i := 8) (v := ?_) (by rw [List.getElem?_toArray]; rfl) (by kernel_rfl) (by kernel_rfl) (by kernel_rfl) (by kernel_rfl) (fun _ _ _ h => h) hS0 (Or.inl ⟨by rfl, ?_⟩) ?_
                  rotate_left
                  · intro wz hSz; obtain ⟨z0, z1⟩ := hSz; go_simp; first | done | with_reducible rfl
                  try simp only [Act.put, List.setIfInBounds_toArray, List.set_cons_zero, List.set_cons_succ]
                  refine wpAnyX_take (i := 9) (v := ?_) (by rw [List.getElem?_toArray]; rfl) (by kernel_rfl) (by kernel_rfl) (by kernel_rfl) (by kernel_rfl) (fun _ _ _ h => h) hS0 (Or.inl ⟨by rfl, ?_⟩) ?_
                  rotate_left
                  · intro wz hSz; obtain ⟨z0, z1⟩ := hSz; go_simp; first | done | with_reducible rfl
                  try simp only [Act.put, List.setIfInBounds_toArray, List.set_cons_zero, List.set_cons_succ]
                  refine wpAnyX_take (i := 10) (v := ?_) (by rw [List.getElem?_toArray]; rfl) (by kernel_rfl) (by kernel_rfl) (by kernel_rfl) (by kernel_rfl) (fun _ _ _ h => h) hS0 (Or.inl ⟨by rfl, ?_⟩) ?_
                  rotate_left
                  · intro wz hSz; obtain ⟨z0, z1⟩ := hSz; go_simp; first | done | with_reducible rfl
                  try simp only [Act.put, List.setIfInBounds_toArray, List.set_cons_zero, List.set_cons_succ]
                  refine wpAnyX_take (i := 11) (v := ?_) (by rw [List.getElem?_toArray]; rfl) (by kernel_rfl) (by kernel_rfl) (by kernel_rfl) (by kernel_rfl) (fun _ _ _ h => h) hS0 (Or.inl ⟨by rfl, ?_⟩) ?_
                  rotate_left
                  · intro wz hSz; obtain ⟨z0, z1⟩ := hSz; go_simp; first | done | with_reducible rfl
                  try simp only [Act.put, List.setIfInBounds_toArray, List.set_cons_zero, List.set_cons_succ]
                  refine wpAnyX_two (i := 5) (k := 12) (by kernel_rfl) (by rw [List.getElem?_toArray]; rfl) (by rw [List.getElem?_toArray]; rfl) (fun KK hK => ?_) (fun KK hK => ?_)
                  · have HK : Hid _ := hK
                    clear hK
                    go_simp
                    obtain ⟨w1x, hw1x⟩ : ∃ wx : World, wx = wd.alloc (.cells #[.slice Ai Ni Ci] 26) := ⟨_, rfl⟩
                    have hbw1x : Below wd.heap.size wd w1x := by rw [hw1x]; exact (Below.refl _ _).alloc (Nat.le_refl _) _
                    obtain ⟨g1, hg1⟩ : ∃ g : Nat, g = wd.heap.size := ⟨_, rfl⟩
                    have HY1 : Hid (OwnV w4.heap.size (u16) (lr) w1x ∧ OwnI w4.heap.size (u17) (lz) w1x ∧ Below w4.heap.size w4 w1x ∧ (w1x.cell? ⟨g1, 0, none⟩ = some (.slice Ai Ni Ci) ∧ (∀ q, (u17).ownBlock = some q → q ≠ g1))) := ⟨HX2.out.1.below hbw1x (Nat.le_refl _), HX2.out.2.1.below hbw1x (fun q hq => (HX2.out.2.1.lt q hq).2), bel_up' HX2.out.2.2 hbw1x, ⟨by rw [hw1x, hg1, cell_of_row _ _ _ _ _ (0, 0) (two_new _)]; rfl, fun q hq => by have := (HX2.out.2.1.lt q hq).2; omega⟩⟩
                    rw [← hw1x, ← hg1]
                    clear hw1x hbw1x hg1
                    refine HK.out _ _ (fun _ => HK5.out _ HY1.out.2.2.1) ?_
                    clear HK KK
                    try simp only [Act.put, List.setIfInBounds_toArray, List.set_cons_zero, List.set_cons_succ]
                    refine wpAnyX_two (i := 6) (k := 12) (by kernel_rfl) (by rw [List.getElem?_toArray]; rfl) (by rw [List.getElem?_toArray]; rfl) (fun KK hK => ?_) (fun KK hK => ?_)
                    · have HK : Hid _ := hK
                      clear hK
                      refine step_append_sls (by rfl) _ _ (by rfl) w4.heap.size (u16) (lr) (by rfl) HY1.out.1 (some ⟨g1, 0, none⟩) 1 1 (fun _ => .slice Ai Ni Ci) (by rfl) (fun j hj => ⟨g1, 0, rfl, by rw [show j = 0 by omega]; exact HY1.out.2.2.2.1⟩) (fun _ _ => rfl) (fun e => by cases e) (by omega) (Below.size HY1.out.2.2.1) w4 HY1.out.2.2.1 (Nat.le_refl _) ?_
                      intro v2 w2x hown2 hg2 hb2
                      have HY2 : Hid (OwnV w4.heap.size v2 (lr ++ [.slice Ai Ni Ci]) w2x ∧ OwnI w4.heap.size (u17) (lz) w2x ∧ Below w4.heap.size w4 w2x) := ⟨hown2, HY1.out.2.1.kept hg2 (HY1.out.2.1.apart HY1.out.1), hb2⟩
                      clear hown2 hg2 hb2
                      refine HK.out _ _ (fun _ => HK5.out _ HY2.out.2.2) ?_
                      clear HK KK
                      try simp only [Act.put, List.setIfInBounds_toArray, List.set_cons_zero, List.set_cons_succ]
                      refine wpAnyX_one (i := 12) (by kernel_rfl) (by rw [List.getElem?_toArray]; rfl) (fun KK hK => ?_)
                      have HK : Hid _ := hK
                      clear hK
                      go_simp
                      obtain ⟨w3x, hw3x⟩ : ∃ wx : World, wx = w2x.alloc (.cells #[.int .i64 z] 3) := ⟨_, rfl⟩
                      have hbw3x : Below w2x.heap.size w2x w3x := by rw [hw3x]; exact (Below.refl _ _).alloc (Nat.le_refl _) _
                      obtain ⟨g3, hg3⟩ : ∃ g : Nat, g = w2x.heap.size := ⟨_, rfl⟩
                      have HY3 : Hid (OwnV w4.heap.size (v2) (lr ++ [.slice Ai Ni Ci]) w3x ∧ OwnI w4.heap.size (u17) (lz) w3x ∧ Below w4.heap.size w4 w3x ∧ (w3x.cell? ⟨g3, 0, none⟩ = some (.int .i64 z) ∧ (∀ q, (v2).ownBlock = some q → q ≠ g3))) := ⟨HY2.out.1.below hbw3x (Nat.le_refl _), HY2.out.2.1.below hbw3x (fun q hq => (HY2.out.2.1.lt q hq).2), bel_up' HY2.out.2.2 hbw3x, ⟨by rw [hw3x, hg3, cell_of_row _ _ _ _ _ (0, 0) (two_new _)]; rfl, fun q hq => by have := (World.ownsRow.lt HY2.out.1 q hq).2; omega⟩⟩
                      rw [← hw3x, ← hg3]
                      clear hw3x hbw3x hg3
                      refine HK.out _ _ (fun _ => HK5.out _ HY3.out.2.2.1) ?_
                      clear HK KK
                      try simp only [Act.put, List.setIfInBounds_toArray, List.set_cons_zero, List.set_cons_succ]
                      refine wpAnyX_one (i := 13) (by kernel_rfl) (by rw [List.getElem?_toArray]; rfl) (fun KK hK => ?_)
                      have HK : Hid _ := hK
                      clear hK
                      refine step_append_int (by rfl) _ _ (by rfl) w4.heap.size (u17) (lz) (by rfl) HY3.out.2.1 ⟨g3, 0, none⟩ 1 z (by rfl) HY3.out.2.2.2.1 (by omega) (Below.size HY3.out.2.2.1) ?_
                      intro v4 w4x hown4 hg4
                      have HY4 : Hid (OwnV w4.heap.size (v2) (lr ++ [.slice Ai Ni Ci]) w4x ∧ OwnI w4.heap.size v4 (lz ++ [z]) w4x ∧ Below w4.heap.size w4 w4x) := ⟨World.ownsRow.kept HY3.out.1 hg4 (own_apart HY3.out.2.1 HY3.out.1), hown4, Below.grown HY3.out.2.2.1 hg4 (Below.size HY3.out.2.2.1) (fun q hq => (HY3.out.2.1.lt q hq).1)⟩
                      clear hown4 hg4
                      refine HK.out _ _ (fun _ => HK5.out _ HY4.out.2.2) ?_
                      clear HK KK
                      try simp only [Act.put, List.setIfInBounds_toArray, List.set_cons_zero, List.set_cons_succ]
                      refine wpAnyX_one (i := 14) (by kernel_rfl) (by rw [List.getElem?_toArray]; rfl) (fun KK hK => ?_)
                      have HK : Hid _ := hK
                      clear hK
                      go_simp
                      refine HK.out _ _ (fun _ => HK5.out _ HY4.out.2.2) ?_
                      clear HK KK
                      try simp only [Act.put, List.setIfInBounds_toArray, List.set_cons_zero, List.set_cons_succ]
                      refine wpAnyX_one (i := 15) (by kernel_rfl) (by rw [List.getElem?_toArray]; rfl) (fun KK hK => ?_)
                      have HK : Hid _ := hK
                      clear hK
                      go_simp
                      refine HK.out _ _ (fun h => absurd rfl h) ?_
                      clear HK KK
                      try simp only [Act.put, List.setIfInBounds_toArray, List.set_cons_zero, List.set_cons_succ]
                      refine wpAnyX_done (by kernel_rfl) (NoPanic.normal ?_)
                      go_wp2
                      go_roundw
                      case rel => exact ⟨i + 1, by omega, by go_num, by rw [HV2.out.1]; exact HY4.out.1, by rw [HV2.out.2]; exact HY4.out.2.1, HY4.out.2.2⟩
                      case measure => simp [intOf]; omega
                    · have HK : Hid _ := hK
                      clear hK
                      go_simp
                      obtain ⟨w2x, hw2x⟩ : ∃ wx : World, wx = w1x.alloc (.cells #[.int .i64 z] 3) := ⟨_, rfl⟩
                      have hbw2x : Below w1x.heap.size w1x w2x := by rw [hw2x]; exact (Below.refl _ _).alloc (Nat.le_refl _) _
                      obtain ⟨g2, hg2⟩ : ∃ g : Nat, g = w1x.heap.size := ⟨_, rfl⟩
                      have HY2 : Hid (OwnV w4.heap.size (u16) (lr) w2x ∧ OwnI w4.heap.size (u17) (lz) w2x ∧ Below w4.heap.size w4 w2x ∧ (w2x.cell? ⟨g1, 0, none⟩ = some (.slice Ai Ni Ci) ∧ (∀ q, (u17).ownBlock = some q → q ≠ g1)) ∧ (w2x.cell? ⟨g2, 0, none⟩ = some (.int .i64 z) ∧ (∀ q, (u16).ownBlock = some q → q ≠ g2))) := ⟨HY1.out.1.below hbw2x (Nat.le_refl _), HY1.out.2.1.below hbw2x (fun q hq => (HY1.out.2.1.lt q hq).2), bel_up' HY1.out.2.2.1 hbw2x, ⟨((bcell hbw2x).1 g1 0 (cell_lt HY1.out.2.2.2.1)).trans HY1.out.2.2.2.1, HY1.out.2.2.2.2⟩, ⟨by rw [hw2x, hg2, cell_of_row _ _ _ _ _ (0, 0) (two_new _)]; rfl, fun q hq => by have := (World.ownsRow.lt HY1.out.1 q hq).2; omega⟩⟩
                      rw [← hw2x, ← hg2]
                      clear hw2x hbw2x hg2
                      refine HK.out _ _ (fun _ => HK5.out _ HY2.out.2.2.1) ?_
                      clear HK KK
                      try simp only [Act.put, List.setIfInBounds_toArray, List.set_cons_zero, List.set_cons_succ]
                      refine wpAnyX_one (i := 6) (by kernel_rfl) (by rw [List.getElem?_toArray]; rfl) (fun KK hK => ?_)
                      have HK : Hid _ := hK
                      clear hK
                      refine step_append_sls (by rfl) _ _ (by rfl) w4.heap.size (u16) (lr) (by rfl) HY2.out.1 (some ⟨g1, 0, none⟩) 1 1 (fun _ => .slice Ai Ni Ci) (by rfl) (fun j hj => ⟨g1, 0, rfl, by rw [show j = 0 by omega]; exact HY2.out.2.2.2.1.1⟩) (fun _ _ => rfl) (fun e => by cases e) (by omega) (Below.size HY2.out.2.2.1) w4 HY2.out.2.2.1 (Nat.le_refl _) ?_
                      intro v3 w3x hown3 hg3 hb3
                      have HY3 : Hid (OwnV w4.heap.size v3 (lr ++ [.slice Ai Ni Ci]) w3x ∧ OwnI w4.heap.size (u17) (lz) w3x ∧ Below w4.heap.size w4 w3x ∧ (w3x.cell? ⟨g2, 0, none⟩ = some (.int .i64 z) ∧ True)) := ⟨hown3, HY2.out.2.1.kept hg3 (HY2.out.2.1.apart HY2.out.1), hb3, ⟨(World.cell?_of_block (a := ⟨g2, 0, none⟩) (hg3.block g2 (cell_lt HY2.out.2.2.2.2.1) (fun e => HY2.out.2.2.2.2.2 g2 e.symm rfl))).trans HY2.out.2.2.2.2.1, trivial⟩⟩
                      clear hown3 hg3 hb3
                      refine HK.out _ _ (fun _ => HK5.out _ HY3.out.2.2.1) ?_
                      clear HK KK
                      try simp only [Act.put, List.setIfInBounds_toArray, List.set_cons_zero, List.set_cons_succ]
                      refine wpAnyX_one (i := 13) (by kernel_rfl) (by rw [List.getElem?_toArray]; rfl) (fun KK hK => ?_)
                      have HK : Hid _ := hK
                      clear hK
                      refine step_append_int (by rfl) _ _ (by rfl) w4.heap.size (u17) (lz) (by rfl) HY3.out.2.1 ⟨g2, 0, none⟩ 1 z (by rfl) HY3.out.2.2.2.1 (by omega) (Below.size HY3.out.2.2.1) ?_
                      intro v4 w4x hown4 hg4
                      have HY4 : Hid (OwnV w4.heap.size (v3) (lr ++ [.slice Ai Ni Ci]) w4x ∧ OwnI w4.heap.size v4 (lz ++ [z]) w4x ∧ Below w4.heap.size w4 w4x) := ⟨World.ownsRow.kept HY3.out.1 hg4 (own_apart HY3.out.2.1 HY3.out.1), hown4, Below.grown HY3.out.2.2.1 hg4 (Below.size HY3.out.2.2.1) (fun q hq => (HY3.out.2.1.lt q hq).1)⟩
                      clear hown4 hg4
                      refine HK.out _ _ (fun _ => HK5.out _ HY4.out.2.2) ?_
                      clear HK KK
                      try simp only [Act.put, List.setIfInBounds_toArray, List.set_cons_zero, List.set_cons_succ]
                      refine wpAnyX_one (i := 14) (by kernel_rfl) (by rw [List.getElem?_toArray]; rfl) (fun KK hK => ?_)
                      have HK : Hid _ := hK
                      clear hK
                      go_simp
                      refine HK.out _ _ (fun _ => HK5.out _ HY4.out.2.2) ?_
                      clear HK KK
                      try simp only [Act.put, List.setIfInBounds_toArray, List.set_cons_zero, List.set_cons_succ]
                      refine wpAnyX_one (i := 15) (by kernel_rfl) (by rw [List.getElem?_toArray]; rfl) (fun KK hK => ?_)
                      have HK : Hid _ := hK
                      clear hK
                      go_simp
                      refine HK.out _ _ (fun h => absurd rfl h) ?_
                      clear HK KK
                      try simp only [Act.put, List.setIfInBounds_toArray, List.set_cons_zero, List.set_cons_succ]
                      refine wpAnyX_done (by kernel_rfl) (NoPanic.normal ?_)
                      go_wp2
                      go_roundw
                      case rel => exact ⟨i + 1, by omega, by go_num, by rw [HV2.out.1]; exact HY4.out.1, by rw [HV2.out.2]; exact HY4.out.2.1, HY4.out.2.2⟩
                      case measure => simp [intOf]; omega
                  · have HK : Hid _ := hK
                    clear hK
                    go_simp
                    obtain ⟨w1x, hw1x⟩ : ∃ wx : World, wx = wd.alloc (.cells #[.int .i64 z] 3) := ⟨_, rfl⟩
                    have hbw1x : Below wd.heap.size wd w1x := by rw [hw1x]; exact (Below.refl _ _).alloc (Nat.le_refl _) _
                    obtain ⟨g1, hg1⟩ : ∃ g : Nat, g = wd.heap.size := ⟨_, rfl⟩
                    have HY1 : Hid (OwnV w4.heap.size (u16) (lr) w1x ∧ OwnI w4.heap.size (u17) (lz) w1x ∧ Below w4.heap.size w4 w1x ∧ (w1x.cell? ⟨g1, 0, none⟩ = some (.int .i64 z) ∧ (∀ q, (u16).ownBlock = some q → q ≠ g1))) := ⟨HX2.out.1.below hbw1x (Nat.le_refl _), HX2.out.2.1.below hbw1x (fun q hq => (HX2.out.2.1.lt q hq).2), bel_up' HX2.out.2.2 hbw1x, ⟨by rw [hw1x, hg1, cell_of_row _ _ _ _ _ (0, 0) (two_new _)]; rfl, fun q hq => by have := (World.ownsRow.lt HX2.out.1 q hq).2; omega⟩⟩
                    rw [← hw1x, ← hg1]
                    clear hw1x hbw1x hg1
                    refine HK.out _ _ (fun _ => HK5.out _ HY1.out.2.2.1) ?_
                    clear HK KK
                    try simp only [Act.put, List.setIfInBounds_toArray, List.set_cons_zero, List.set_cons_succ]
                    refine wpAnyX_one (i := 5) (by kernel_rfl) (by rw [List.getElem?_toArray]; rfl) (fun KK hK => ?_)
                    have HK : Hid _ := hK
                    clear hK
                    go_simp
                    obtain ⟨w2x, hw2x⟩ : ∃ wx : World, wx = w1x.alloc (.cells #[.slice Ai Ni Ci] 26) := ⟨_, rfl⟩
                    have hbw2x : Below w1x.heap.size w1x w2x := by rw [hw2x]; exact (Below.refl _ _).alloc (Nat.le_refl _) _
                    obtain ⟨g2, hg2⟩ : ∃ g : Nat, g = w1x.heap.size := ⟨_, rfl⟩
                    have HY2 : Hid (OwnV w4.heap.size (u16) (lr) w2x ∧ OwnI w4.heap.size (u17) (lz) w2x ∧ Below w4.heap.size w4 w2x ∧ (w2x.cell? ⟨g1, 0, none⟩ = some (.int .i64 z) ∧ (∀ q, (u16).ownBlock = some q → q ≠ g1)) ∧ (w2x.cell? ⟨g2, 0, none⟩ = some (.slice Ai Ni Ci) ∧ (∀ q, (u17).ownBlock = some q → q ≠ g2))) := ⟨HY1.out.1.below hbw2x (Nat.le_refl _), HY1.out.2.1.below hbw2x (fun q hq => (HY1.out.2.1.lt q hq).2), bel_up' HY1.out.2.2.1 hbw2x, ⟨((bcell hbw2x).1 g1 0 (cell_lt HY1.out.2.2.2.1)).trans HY1.out.2.2.2.1, HY1.out.2.2.2.2⟩, ⟨by rw [hw2x, hg2, cell_of_row _ _ _ _ _ (0, 0) (two_new _)]; rfl, fun q hq => by have := (HY1.out.2.1.lt q hq).2; omega⟩⟩
                    rw [← hw2x, ← hg2]
                    clear hw2x hbw2x hg2
                    refine HK.out _ _ (fun _ => HK5.out _ HY2.out.2.2.1) ?_
                    clear HK KK
                    try simp only [Act.put, List.setIfInBounds_toArray, List.set_cons_zero, List.set_cons_succ]
                    refine wpAnyX_one (i := 6) (by kernel_rfl) (by rw [List.getElem?_toArray]; rfl) (fun KK hK => ?_)
                    have HK : Hid _ := hK
                    clear hK
                    refine step_append_sls (by rfl) _ _ (by rfl) w4.heap.size (u16) (lr) (by rfl) HY2.out.1 (some ⟨g2, 0, none⟩) 1 1 (fun _ => .slice Ai Ni Ci) (by rfl) (fun j hj => ⟨g2, 0, rfl, by rw [show j = 0 by omega]; exact HY2.out.2.2.2.2.1⟩) (fun _ _ => rfl) (fun e => by cases e) (by omega) (Below.size HY2.out.2.2.1) w4 HY2.out.2.2.1 (Nat.le_refl _) ?_
                    intro v3 w3x hown3 hg3 hb3
                    have HY3 : Hid (OwnV w4.heap.size v3 (lr ++ [.slice Ai Ni Ci]) w3x ∧ OwnI w4.heap.size (u17) (lz) w3x ∧ Below w4.heap.size w4 w3x ∧ (w3x.cell? ⟨g1, 0, none⟩ = some (.int .i64 z) ∧ True)) := ⟨hown3, HY2.out.2.1.kept hg3 (HY2.out.2.1.apart HY2.out.1), hb3, ⟨(World.cell?_of_block (a := ⟨g1, 0, none⟩) (hg3.block g1 (cell_lt HY2.out.2.2.2.1.1) (fun e => HY2.out.2.2.2.1.2 g1 e.symm rfl))).trans HY2.out.2.2.2.1.1, trivial⟩⟩
                    clear hown3 hg3 hb3
                    refine HK.out _ _ (fun _ => HK5.out _ HY3.out.2.2.1) ?_
                    clear HK KK
                    try simp only [Act.put, List.setIfInBounds_toArray, List.set_cons_zero, List.set_cons_succ]
                    refine wpAnyX_one (i := 13) (by kernel_rfl) (by rw [List.getElem?_toArray]; rfl) (fun KK hK => ?_)
                    have HK : Hid _ := hK
                    clear hK
                    refine step_append_int (by rfl) _ _ (by rfl) w4.heap.size (u17) (lz) (by rfl) HY3.out.2.1 ⟨g1, 0, none⟩ 1 z (by rfl) HY3.out.2.2.2.1 (by omega) (Below.size HY3.out.2.2.1) ?_
                    intro v4 w4x hown4 hg4
                    have HY4 : Hid (OwnV w4.heap.size (v3) (lr ++ [.slice Ai Ni Ci]) w4x ∧ OwnI w4.heap.size v4 (lz ++ [z]) w4x ∧ Below w4.heap.size w4 w4x) := ⟨World.ownsRow.kept HY3.out.1 hg4 (own_apart HY3.out.2.1 HY3.out.1), hown4, Below.grown HY3.out.2.2.1 hg4 (Below.size HY3.out.2.2.1) (fun q hq => (HY3.out.2.1.lt q hq).1)⟩
                    clear hown4 hg4
                    refine HK.out _ _ (fun _ => HK5.out _ HY4.out.2.2) ?_
                    clear HK KK
                    try simp only [Act.put, List.setIfInBounds_toArray, List.set_cons_zero, List.set_cons_succ]
                    refine wpAnyX_one (i := 14) (by kernel_rfl) (by rw [List.getElem?_toArray]; rfl) (fun KK hK => ?_)
                    have HK : Hid _ := hK
                    clear hK
                    go_simp
                    refine HK.out _ _ (fun _ => HK5.out _ HY4.out.2.2) ?_
                    clear HK KK
                    try simp only [Act.put, List.setIfInBounds_toArray, List.set_cons_zero, List.set_cons_succ]
                    refine wpAnyX_one (i := 15) (by kernel_rfl) (by rw [List.getElem?_toArray]; rfl) (fun KK hK => ?_)
                    have HK : Hid _ := hK
                    clear hK
                    go_simp
                    refine HK.out _ _ (fun h => absurd rfl h) ?_
                    clear HK KK
                    try simp only [Act.put, List.setIfInBounds_toArray, List.set_cons_zero, List.set_cons_succ]
                    refine wpAnyX_done (by kernel_rfl) (NoPanic.normal ?_)
                    go_wp2
                    go_roundw
                    case rel => exact ⟨i + 1, by omega, by go_num, by rw [HV2.out.1]; exact HY4.out.1, by rw [HV2.out.2]; exact HY4.out.2.1, HY4.out.2.2⟩
                    case measure => simp [intOf]; omega
                · have hz : (t == x) = false := beq_eq_false_iff_ne.2 hyx
                  have HV2 : Hid (tlN T x (i + 1) = tlN T x i) := if_neg (by rw [← ht]; exact hyx)
                  clear hyx ht
                  go_wp2
                  rw [← hwE]
                  clear hwE
                  go_roundw
                  case rel => exact ⟨i + 1, by omega, by go_num, by rw [HV2.out]; exact HX.out.1, by rw [HV2.out]; exact HX.out.2.1, HX.out.2.2⟩
                  case measure => simp [intOf]; omega
              · have hib : ¬ (i : Int) < (lc : Int) := by omega
                have hie : lc = i := by omega
                subst hie
                have hov := HI.out.1
                have hob := HI.out.2.1
                obtain ⟨l, hl⟩ : ∃ l, l = tlN T x lc := ⟨_, rfl⟩
                obtain ⟨Kn, hKn⟩ : ∃ Kn, Kn = l.length := ⟨_, rfl⟩
                obtain ⟨N0, hN0⟩ : ∃ N0, N0 = N (l.getD 0 0) := ⟨_, rfl⟩
                rw [← hl] at hov hob
                obtain ⟨vo, vc, hvv, hmz⟩ := sel_mat hov (HA.out.2.2.2.1.below hbr) (by rw [hl]; exact tlN_lt lc)
                subst hvv
                rw [map_zlN l y] at hob
                obtain ⟨uo, uc, hvb, hAb⟩ := hob.argL
                subst hvb
                rw [← hKn] at hmz hAb ⊢
                have hKl : Kn ≤ 64 := by
                  have h1 : Kn ≤ lc := by rw [hKn, hl]; exact tlN_len T x lc
                  have := mchk_le Hz1.out HE.out.1; omega
                have HOnly : Hid (Calls Try.prog 64 #[.int .i64 D.q, .slice vo Kn vc, .slice uo Kn uc] wr (HrP ok (zl L s) wr)) := by
                  by_cases hK0 : Kn = 0
                  · have e : ok = false := by rw [HOk.out, ← hl, ← hKn, hK0]; rfl
                    rw [e]
                    subst hK0
                    refine (nonly_zero HA.out.1).mono ?_
                    rintro x w' ⟨hb, vo, vn, vc, rfl, h⟩
                    refine ⟨hb, vo, vn, vc, rfl, ?_⟩
                    rcases h with h | h
                    · exact Or.inl h
                    · exact absurd h.1 (by decide)
                  · have hkp : 0 < Kn := by omega
                    have hsv := HV.out.2
                    rw [← hl, ← hKn] at hsv
                    have hsv := hsv hkp
                    have e : ok = (okb && !decide (k < N0)) := by rw [HOk.out, ← hl, ← hKn, ← hN0, decide_eq_true hkp]; rfl
                    rw [e]
                    obtain ⟨b0, o0, rfl, hcr⟩ := hmz.cell 0 hkp
                    refine nonly_pos D.q (x0 := A (l.getD 0 0)) (cc := C (l.getD 0 0)) hkp hKl (by rw [hN0]; exact hcr) (hsv _ _ _ vc uo uc wr hmz hAb.sl).2 (fun wx hx => (hsv _ _ _ vc uo uc wx (hmz.below hx) (slz_below hAb.sl hx)).1)
                have HEx : Hid (E = (if ok = true then 0 else 9) ∧ Below w.heap.size w wr) := ⟨HV.out.1, bel_up' HA.out.2.2.2.2.2 hbr⟩
                clear hov hob hmz hAb hl hKn hN0 hbr
                go_wp2_with fail
                refine HOnly.out.mono ?_
                rintro e w9 ⟨hb9, xo, xn, xc, rfl, hres⟩
                rw [← HEx.out.1]
                have HR : Hid (Below w.heap.size w w9 ∧ ((ok = false ∧ xn = 0) ∨ (ok = true ∧ SliceI (.slice xo xn xc) (zl L s) w9))) := ⟨bel_up' HEx.out.2 hb9, hres⟩
                clear hb9 hres
                go_wp2
                go_ret2
                refine ⟨HR.out.1, xo, xn, xc, rfl, ?_⟩
                rcases HR.out.2 with ⟨h1, h2⟩ | ⟨h1, h2⟩
                · exact Or.inl ⟨by rw [HEx.out.1, h1]; decide, h2⟩
                · exact Or.inr ⟨by rw [HEx.out.1, h1]; rfl, h2⟩
        · have zc' : ((lc : Int) != (m : Int)) = true := by rw [bne_iff_ne]; omega
          have zv' : ((mv : Int) != (m : Int)) = false := by rw [hvm]; simp
          have HV : Hid (E = 6) := HE.out.2.2.2.1 Hz0.out Hz1.out (Or.inr hcm)
          subst hvm
          clear hcm
          go_wp2
          go_ret2
          exact ⟨bel_up' HA.out.2.2.2.2.2 H3.out.2.2, none, 0, 0, by rw [HV.out]; rfl, Or.inl ⟨by rw [HV.out]; decide, rfl⟩⟩
      · have zv' : ((mv : Int) != (m : Int)) = true := by rw [bne_iff_ne]; omega
        have HV : Hid (E = 6) := HE.out.2.2.2.1 Hz0.out Hz1.out (Or.inl hvm)
        clear hvm
        go_wp2
        go_ret2
        exact ⟨bel_up' HA.out.2.2.2.2.2 H3.out.2.2, none, 0, 0, by rw [HV.out]; rfl, Or.inl ⟨by rw [HV.out]; decide, rfl⟩⟩
    · have z1 : (E0 != 0) = true := bne_iff_ne.2 h0
      have HV : Hid (E = E0 ∧ E0 ≠ 0) := ⟨HE.out.2.2.1 Hz0.out h0, h0⟩
      clear h0
      go_wp2
      go_ret2
      exact ⟨bel_up' HA.out.2.2.2.2.2 H3.out.2.2, none, 0, 0, by rw [HV.out.1]; rfl, Or.inl ⟨by rw [HV.out.1]; exact HV.out.2, rfl⟩⟩
  · have z0 : (E1 != 0) = true := bne_iff_ne.2 h0
    have HV : Hid (E = E1 ∧ E1 ≠ 0) := ⟨HE.out.2.1 h0, h0⟩
    clear h0
    go_wp2
    go_ret2
    exact ⟨bel_up' HA.out.2.2.2.2.2 H1.out.2, none, 0, 0, by rw [HV.out.1]; rfl, Or.inl ⟨by rw [HV.out.1]; exact HV.out.2, rfl⟩⟩
end Go.Proofs.Ythkjaiihlphgfaa
