/- Texts of ours, one behind the other: T5 T6. -/
import Derived.Test.YtbpeahhhkcljeaaZW9
/- The reference's matrices: which may be (MatrixMay). -/
namespace Go.Proofs.Ytbpeahhhkcljeaa
open Go.RowKit Go.Sort

/-- A matrix that is handed in: m lists of whatever length. -/
structure MatZ (ao : Option Addr) (m : Nat) (A : Nat → Option Addr) (N C : Nat → Nat) (Z : Nat → Nat → Int) (w : World) : Prop where
  cell : ∀ i, i < m → ∃ b off, ao = some ⟨b, off, none⟩ ∧ w.cell? ⟨b, off + i, none⟩ = some (.slice (A i) (N i) (C i))
  sl : ∀ i, i < m → SlZ (A i) (N i) (Z i) w
  le : ∀ i, i < m → N i ≤ C i
  cap : ∀ i, i < m → C i ≤ 9223372036854775807
  nil : ∀ i, i < m → A i = none → C i = 0
  few : ∀ i, i < m → N i ≤ 1000000
theorem MatZ.below {ao : Option Addr} {m : Nat} {A : Nat → Option Addr} {N C : Nat → Nat} {Z : Nat → Nat → Int} {w w' : World} (h : MatZ ao m A N C Z w) (hb : Below w.heap.size w w') : MatZ ao m A N C Z w' :=
  ⟨fun i hi => by
    obtain ⟨b, off, e, hc⟩ := h.cell i hi
    exact ⟨b, off, e, ((bcell hb).1 b (off + i) (cell_lt hc)).trans hc⟩, fun i hi => slz_below (h.sl i hi) hb, h.le, h.cap, h.nil, h.few⟩
/-- What is said of a row of n numbers, where the first row has n0. -/
def FD.mrow (D : FD) (n0 n : Nat) (z : Nat → Int) : Int := if n ≠ n0 ∨ n = 0 then 3 else if 64 < n then 4 else if D.allHas z n = true then 0 else 2
def FD.mchks (D : FD) (N : Nat → Nat) (Z : Nat → Nat → Int) : Nat → Int
  | 0 => 0
  | k + 1 => if D.mchks N Z k = 0 then D.mrow (N 0) (N k) (Z k) else D.mchks N Z k
/-- What is said of a matrix. -/
def FD.mchk (D : FD) (m : Nat) (N : Nat → Nat) (Z : Nat → Nat → Int) : Int := if 64 < m then 4 else D.mchks N Z m
theorem mchks_keep {D : FD} {N : Nat → Nat} {Z : Nat → Nat → Int} {e : Int} (he : e ≠ 0) {r : Nat} (h : D.mchks N Z r = e) : ∀ d, D.mchks N Z (r + d) = e
  | 0 => h
  | d + 1 => by rw [← Nat.add_assoc, FD.mchks, mchks_keep he h d, if_neg he]
theorem mchks_to {D : FD} {N : Nat → Nat} {Z : Nat → Nat → Int} {e : Int} (he : e ≠ 0) {r m : Nat} (h0 : D.mchks N Z r = 0) (hr : r < m) (hm : ¬ 64 < m) (h : D.mrow (N 0) (N r) (Z r) = e) : D.mchk m N Z = e := by
  unfold FD.mchk
  rw [if_neg hm]
  have h1 : D.mchks N Z (r + 1) = e := by rw [FD.mchks, if_pos h0, h]
  have := mchks_keep he h1 (m - (r + 1))
  rwa [show r + 1 + (m - (r + 1)) = m from by omega] at this
theorem mrow_zero {D : FD} {n0 n : Nat} {z : Nat → Int} (h : D.mrow n0 n z = 0) : n = n0 ∧ 1 ≤ n ∧ n ≤ 64 ∧ D.allHas z n = true := by
  unfold FD.mrow at h
  by_cases h1 : n ≠ n0 ∨ n = 0
  · rw [if_pos h1] at h; cases h
  · rw [if_neg h1] at h
    by_cases h2 : 64 < n
    · rw [if_pos h2] at h; cases h
    · rw [if_neg h2] at h
      by_cases h3 : D.allHas z n = true
      · exact ⟨by omega, by omega, by omega, h3⟩
      · rw [if_neg h3] at h; cases h
theorem mchks_zero {D : FD} {N : Nat → Nat} {Z : Nat → Nat → Int} : ∀ {k : Nat}, D.mchks N Z k = 0 → ∀ i, i < k → D.mrow (N 0) (N i) (Z i) = 0
  | 0, _, i, hi => by omega
  | k + 1, h, i, hi => by
    rw [FD.mchks] at h
    by_cases h0 : D.mchks N Z k = 0
    · rw [if_pos h0] at h
      by_cases e : i = k
      · rw [e]; exact h
      · exact mchks_zero h0 i (by omega)
    · rw [if_neg h0] at h; exact absurd h h0
/-- The numbers of a matrix that may be. -/
def mzc (N : Nat → Nat) (Z : Nat → Nat → Int) : Nat → Nat → Nat := fun i => zc (N i) (Z i)
theorem mchk_rows {D : FD} (F : Fld D) {ao : Option Addr} {m : Nat} {A : Nat → Option Addr} {N C : Nat → Nat} {Z : Nat → Nat → Int} {w : World} (h : D.mchk m N Z = 0) (hA : MatZ ao m A N C Z w) (hm : 0 < m) :
    m ≤ 64 ∧ ∃ n, N 0 = n + 1 ∧ n < 64 ∧ (∀ i, i < m → N i = n + 1 ∧ El D (mzc N Z i) ∧ Bd (n + 1) (mzc N Z i)) ∧ MatR ao m n (mzc N Z) w := by
  unfold FD.mchk at h
  by_cases h64 : 64 < m
  · rw [if_pos h64] at h; cases h
  · rw [if_neg h64] at h
    have hrow := mchks_zero h
    have h0 := mrow_zero (hrow 0 hm)
    obtain ⟨n, hn⟩ : ∃ n, N 0 = n + 1 := ⟨N 0 - 1, by omega⟩
    have key : ∀ i, i < m → N i = n + 1 ∧ D.chk (N i) (Z i) = 0 := fun i hi => by
      have h1 := mrow_zero (hrow i hi)
      refine ⟨by omega, ?_⟩
      unfold FD.chk
      rw [if_neg (by omega), if_pos h1.2.2.2]
    refine ⟨by omega, n, hn, by omega, fun i hi => ⟨(key i hi).1, zc_el F (key i hi).2, by have := zc_bd (N i) (Z i); rw [(key i hi).1] at this; unfold mzc; rw [(key i hi).1]; exact this⟩, fun i hi => ?_⟩
    obtain ⟨b, off, e, hc⟩ := hA.cell i hi
    have hk := key i hi
    have hsl := zc_sl hk.2 (hA.sl i hi)
    refine ⟨b, off, _, e, hc, A i, C i, by rw [hk.1], ?_, ?_, hA.nil i hi, by have := hA.le i hi; omega, hA.cap i hi⟩
    · have : Sl (A i) (N i) (zc (N i) (Z i)) w := hsl
      rw [hk.1] at this
      unfold mzc; rw [hk.1]; exact this
    · intro x hx
      obtain ⟨b', off', e', hc'⟩ := hA.sl i hi 0 (by omega)
      rw [hx] at e'
      cases e'
      exact cell_lt hc'

set_option maxHeartbeats 8000000 in
set_option maxRecDepth 100000 in
theorem matrixMay_any {D : FD} (hD : D ∈ fieldsL) {ao : Option Addr} {m ca : Nat} {A : Nat → Option Addr} {N C : Nat → Nat} {Z : Nat → Nat → Int} {w : World} (hA : MatZ ao m A N C Z w) (hm : m ≤ 1000000) :
    Calls Try.prog 10 #[.int .i64 D.q, .slice ao m ca] w fun e w' => e = .returned (.int .i64 (D.mchk m N Z)) ∧ Below w.heap.size w w' := by
  have HA : Hid (D ∈ fieldsL ∧ MatZ ao m A N C Z w) := ⟨hD, hA⟩
  clear hD hA
  go_enter Try.func10, Try.ntmps10
  go_wp2_with fail
  refine (rfield_sl HA.out.1 w).mono ?_
  rintro e w1 ⟨gm, cm, rfl, hmod, hb1⟩
  have HM : Hid (ModAt D (.slice (some ⟨gm, 0, none⟩) (D.m + 1) cm) D.md w1 ∧ Below w.heap.size w w1) := ⟨hmod, hb1⟩
  clear hmod hb1
  unfold rf
  have HB0 : Hid (Box w1.heap.size D D.gen (.slice (some ⟨gm, 0, none⟩) (D.m + 1) cm) (w1.alloc (.cells #[.int .i64 D.q, .int .i64 D.p, .int .i64 D.m, .int .i64 D.gen, .slice (some ⟨gm, 0, none⟩) (D.m + 1) cm] 28)) ∧ Below w.heap.size w (w1.alloc (.cells #[.int .i64 D.q, .int .i64 D.p, .int .i64 D.m, .int .i64 D.gen, .slice (some ⟨gm, 0, none⟩) (D.m + 1) cm] 28))) := ⟨box_new D D.gen _ w1, HM.out.2.alloc HM.out.2.size _⟩
  by_cases h64 : 64 < m
  · have hz : (64 : Int) < (m : Int) := by omega
    have HV : Hid (D.mchk m N Z = 4) := by show _ = _; unfold FD.mchk; rw [if_pos h64]
    go_wp2
    go_ret
    exact ⟨ret_int (by rw [HV.out]), HB0.out.2⟩
  · have hz : ¬ (64 : Int) < (m : Int) := by omega
    go_wp2_with fail
    go_loopw [7] (fun vi wr => ∃ i : Nat, i ≤ m ∧ vi = .int .i64 i ∧ Hid (D.mchks N Z i = 0 ∧ Box w1.heap.size D D.gen (.slice (some ⟨gm, 0, none⟩) (D.m + 1) cm) wr ∧ Below w.heap.size w wr) ∧ w1.heap.size < wr.heap.size) (fun vi _ => m - (intOf vi).toNat)
    case atStart => exact ⟨0, by omega, rfl, ⟨rfl, HB0.out.1, HB0.out.2⟩, by simp⟩
    case round =>
      clear HB0
      obtain ⟨i, hi, rfl, HG, hsz⟩ := hrel
      rename World => wA
      by_cases hlt : i < m
      · have hib : (i : Int) < (m : Int) := by omega
        have hib0 : (0 : Int) ≤ (i : Int) := by omega
        have hm0 : (0 : Int) < (m : Int) := by omega
        obtain ⟨b, off, rfl, hci⟩ := (HA.out.2.below HG.out.2.2).cell i hlt
        obtain ⟨b', off', e', hc0⟩ := (HA.out.2.below HG.out.2.2).cell 0 (by omega)
        cases e'
        rw [Nat.add_zero] at hc0
        obtain ⟨Ni, hNi⟩ : ∃ Ni, Ni = N i := ⟨_, rfl⟩
        obtain ⟨N0, hN0⟩ : ∃ N0, N0 = N 0 := ⟨_, rfl⟩
        rw [← hNi] at hci
        rw [← hN0] at hc0
        have hfew : Ni ≤ 1000000 := by rw [hNi]; exact HA.out.2.few i hlt
        have HN : Hid (Ni = N i ∧ N0 = N 0) := ⟨hNi, hN0⟩
        clear hNi hN0
        by_cases hne : Ni = N0
        · by_cases hz0 : Ni = 0
          · have HV : Hid (D.mchk m N Z = 3) := mchks_to (by omega) HG.out.1 hlt h64 (by unfold FD.mrow; rw [if_pos (Or.inr (by rw [← HN.out.1]; exact hz0))])
            have hq1 : ((Ni : Int) != (N0 : Int)) = false := by rw [hne]; simp
            have hq2 : ((Ni : Int) == 0) = true := by rw [hz0]; rfl
            clear hne hz0
            go_wp2
            go_quiet (fail)
            go_wp2
            go_ret
            exact ⟨ret_int (by rw [HV.out]), below_drewN2 HG.out.2.2 _⟩
          · have hq1 : ((Ni : Int) != (N0 : Int)) = false := by rw [hne]; simp
            have hq2 : ((Ni : Int) == 0) = false := by rw [beq_eq_false_iff_ne]; omega
            have HNE : Hid (Ni = N0 ∧ ¬ Ni = 0) := ⟨hne, hz0⟩
            clear hne hz0
            by_cases h6 : 64 < Ni
            · have hq3 : (64 : Int) < (Ni : Int) := by omega
              have HV : Hid (D.mchk m N Z = 4) := mchks_to (by omega) HG.out.1 hlt h64 (by unfold FD.mrow; rw [if_neg (by rw [← HN.out.1, ← HN.out.2]; have := HNE.out; omega), if_pos (by rw [← HN.out.1]; exact h6)])
              go_wp2
              go_quiet (fail)
              go_wp2
              go_ret
              exact ⟨ret_int (by rw [HV.out]), below_drewN2 HG.out.2.2 _⟩
            · have hq3 : ¬ (64 : Int) < (Ni : Int) := by omega
              go_wp2
              go_quiet (fail)
              go_wp2_with fail
              go_loopw [8] (fun vk wi => ∃ k : Nat, k ≤ Ni ∧ vk = .int .i64 k ∧ Hid (D.allHas (Z i) k = true ∧ Below wA.heap.size wA wi)) (fun vk _ => Ni - (intOf vk).toNat)
              case atStart => exact ⟨0, by omega, rfl, rfl, below_drewN2 (Below.refl _ _) _⟩
              case round =>
                obtain ⟨k, hk, rfl, HK⟩ := hrel
                rename World => wB
                obtain ⟨b', off', e', hciB⟩ := (HA.out.2.below (bel_up HG.out.2.2 HK.out.2)).cell i hlt
                cases e'
                rw [← HN.out.1] at hciB
                by_cases hkn : k < Ni
                · have hkb : (k : Int) < (Ni : Int) := by omega
                  have hkb0 : (0 : Int) ≤ (k : Int) := by omega
                  obtain ⟨bx, ox, eA, hcx⟩ := (HA.out.2.below (bel_up HG.out.2.2 HK.out.2)).sl i hlt k (by rw [← HN.out.1]; exact hkn)
                  rw [eA] at hciB
                  obtain ⟨x, hx⟩ : ∃ x, x = Z i k := ⟨_, rfl⟩
                  rw [← hx] at hcx
                  obtain ⟨bb, hbb⟩ : ∃ bb, bb = D.has x := ⟨_, rfl⟩
                  have hbx := HG.out.2.1.below HK.out.2 hsz
                  have k0 := cell_regrown hbx.c0
                  have k1 := cell_regrown hbx.c1
                  have k2 := cell_regrown hbx.c2
                  have k3 := cell_regrown hbx.c3
                  have k4 := cell_regrown hbx.c4
                  have k5 := cell_regrown hciB
                  have k6 := cell_regrown hcx
                  have HC : Hid (∀ d os, Calls Try.prog 45 #[.agg #[.int .i64 D.q, .int .i64 D.p, .int .i64 D.m, .int .i64 D.gen, .slice (some ⟨gm, 0, none⟩) (D.m + 1) cm], .int .i64 x] (grow (redrawn wB d) os) fun e w'' => e = .returned (.bool bb) ∧ ∃ p : Regrown, w'' = grow (redrawn wB p.d) p.os) := fun d os => by
                    rw [hbb]
                    exact Calls.regrown_of (rhas_any D D.gen _ x (grow (redrawn wB d) os))
                  have HX : Hid (x = Z i k ∧ bb = D.has x) := ⟨hx, hbb⟩
                  clear hx hbb hbx hcx
                  go_wp2
                  refine wp_region_quiet_below (by kernel_rfl) (by kernel_rfl) ?_
                  repeat (go_big_quiet_step (first | (go_at_call 45; exact HC.out _ _)))
                  refine wpQuiet_nil ?_
                  intro _ hw'
                  obtain ⟨⟨dq, osq⟩, hw''⟩ := hw'
                  subst hw''
                  have HBQ : Hid (Below wA.heap.size wA (grow (redrawn wB dq) osq)) := bel_up HK.out.2 (below_regrown wB dq osq)
                  clear k0 k1 k2 k3 k4 k5 k6 HC
                  cases bb with
                  | true =>
                    have HK2 : Hid (D.allHas (Z i) (k + 1) = true) := by show _ = _; rw [FD.allHas, HK.out.1, ← HX.out.1, ← HX.out.2]; rfl
                    go_wp2
                    go_roundw
                    case rel => exact ⟨k + 1, by omega, by go_num, HK2.out, HBQ.out⟩
                    case measure => simp [intOf]; omega
                  | false =>
                    have HV : Hid (D.mchk m N Z = 2) := mchks_to (by omega) HG.out.1 hlt h64 (by
                      unfold FD.mrow
                      rw [if_neg (by rw [← HN.out.1, ← HN.out.2]; have := HNE.out; omega), if_neg (by rw [← HN.out.1]; exact h6), if_neg]
                      intro h
                      have h2 := allHas_iff.1 h k (by rw [← HN.out.1]; exact hkn)
                      rw [← HX.out.1, ← HX.out.2] at h2
                      cases h2)
                    go_wp2
                    go_ret
                    exact ⟨ret_int (by rw [HV.out]), bel_up HG.out.2.2 HBQ.out⟩
                · have hkb : ¬ (k : Int) < (Ni : Int) := by omega
                  have hke : k = Ni := by omega
                  have HS : Hid (D.mchks N Z (i + 1) = 0) := by
                    show _ = _
                    rw [FD.mchks, if_pos HG.out.1]
                    unfold FD.mrow
                    rw [if_neg (by rw [← HN.out.1, ← HN.out.2]; have := HNE.out; omega), if_neg (by rw [← HN.out.1]; exact h6), if_pos]
                    have h := HK.out.1
                    rw [hke, HN.out.1] at h; exact h
                  have hsB := HK.out.2.size
                  clear hke
                  go_wp2
                  go_roundw
                  case rel => exact ⟨i + 1, by omega, by go_num, ⟨HS.out, HG.out.2.1.below HK.out.2 hsz, bel_up HG.out.2.2 HK.out.2⟩, by omega⟩
                  case measure => simp [intOf]; omega
        · have hq1 : ((Ni : Int) != (N0 : Int)) = true := by rw [bne_iff_ne]; omega
          have HV : Hid (D.mchk m N Z = 3) := mchks_to (by omega) HG.out.1 hlt h64 (by unfold FD.mrow; rw [if_pos (Or.inl (by rw [← HN.out.1, ← HN.out.2]; exact hne))])
          clear hne
          go_wp2
          go_quiet (fail)
          go_wp2
          go_ret
          exact ⟨ret_int (by rw [HV.out]), below_drewN2 HG.out.2.2 _⟩
      · have hib : ¬ (i : Int) < (m : Int) := by omega
        have HV : Hid (D.mchk m N Z = 0) := by
          show _ = _
          unfold FD.mchk
          rw [if_neg h64, ← show i = m from by omega]
          exact HG.out.1
        go_wp2
        go_ret
        exact ⟨ret_int (by rw [HV.out]), HG.out.2.2⟩
end Go.Proofs.Ytbpeahhhkcljeaa

/- The reference's matrices: Reduce's regions that draw their order, each by itself. -/
namespace Go.Proofs.Ytbpeahhhkcljeaa
open Go.RowKit Go.Sort

/-- The region of a number in a piece of code. -/
def regionIn (n : Nat) : Code → Option Code
  | .region i o b => if i = n then some (.region i o b) else none
  | .seq a b => match regionIn n a with
    | some c => some c
    | none => regionIn n b
  | .block _ c => regionIn n c
  | .scope c => regionIn n c
  | .loop c => regionIn n c
  | .cond _ a b => match regionIn n a with
    | some c => some c
    | none => regionIn n b
  | _ => none

set_option maxHeartbeats 8000000 in
set_option maxRecDepth 100000 in
theorem red23 {D : FD} {gen gm cm n s a y gR rc t gs cs g9 c9 G : Nat} {wE : World} {Q : Exit → Act → World → Prop} {d : Nat → Nat} {x0 x1 x3 x4 x5 x7 x8 x10 x12 x13 x15 x16 x17 x18 x19 x20 x21 x22 x23 x24 x25 x26 x27 x28 x29 x30 x31 x32 x33 x34 x35 x36 x37 x38 x39 x40 x41 x42 x43 x44 x45 x46 x47 x48 x49 x50 x51 x52 x53 x54 x55 x56 x57 x58 x59 x60 x61 x62 x63 x64 x65 x66 x67 x68 x69 x70 x71 x72 x73 x74 x75 x76 x77 x78 x79 x80 x81 x82 x83 x84 x85 x86 x87 x88 x89 x90 x91 x92 x93 x94 x95 x96 x97 x98 x99 x100 x101 x102 x103 x104 x105 x106 x107 x108 x109 x110 x111 x112 x113 x114 x115 x116 x117 x118 x119 x120 x121 x122 x123 x124 x125 x126 x127 x128 x129 x130 x131 x132 x133 x134 x135 x136 x137 x138 x139 x140 x141 x142 x143 x144 x145 x146 x147 x148 : Value} {cd : Code} (hcd : cd = ((Try.f57.body.bind (regionIn 23)).getD .skip))
    (hsb : (s : Int) < (t : Int)) (hsb0 : (0 : Int) ≤ (s : Int)) (hab : (a : Int) < (n : Int) + 1) (hab0 : (0 : Int) ≤ (a : Int))
    (k0 : wE.cell? ⟨G, 0, none⟩ = some (.int .i64 D.q)) (k1 : wE.cell? ⟨G, 1, none⟩ = some (.int .i64 D.p)) (k2 : wE.cell? ⟨G, 2, none⟩ = some (.int .i64 D.m)) (k3 : wE.cell? ⟨G, 3, none⟩ = some (.int .i64 gen)) (k4 : wE.cell? ⟨G, 4, none⟩ = some (.slice (some ⟨gm, 0, none⟩) (D.m + 1) cm))
    (hcR : wE.cell? ⟨gR, s, none⟩ = some (.slice (some ⟨gs, 0, none⟩) (n + 1) cs)) (hcy : wE.cell? ⟨gs, a, none⟩ = some (.int .i64 (y : Nat)))
    (hLE : ∀ w1, Below wE.heap.size wE w1 → Calls Try.prog 95 #[.agg #[.int .i64 D.q, .int .i64 D.p, .int .i64 D.m, .int .i64 gen, .slice (some ⟨gm, 0, none⟩) (D.m + 1) cm], .slice (some ⟨gs, 0, none⟩) (n + 1) cs, .slice (some ⟨g9, 0, none⟩) (n + 1) c9, .int .i64 y] w1 fun e w' => ∃ v, e = .returned v ∧ Elm v (n, d) w' ∧ Below wE.heap.size wE w' ∧ w'.cell? ⟨gR, s, none⟩ = some (.slice (some ⟨gs, 0, none⟩) (n + 1) cs) ∧ w'.frozen? ⟨gR, s, none⟩ = false)
    (hQ : ∀ (y92 y93 y94 y95 y96 y97 y98 y99 y100 y101 y102 y103 y104 y105 y106 y107 y108 : Value) (g2 cc2 : Nat) (w2 : World), Elm (.slice (some ⟨g2, 0, none⟩) (n + 1) cc2) (n, d) w2 → Below wE.heap.size wE w2 → Q .normal ⟨#[x0, x1, .pointer (some ⟨G, 0, none⟩), x3, x4, x5, .slice (some ⟨gR, 0, none⟩) t rc, x7, x8, .slice (some ⟨g9, 0, none⟩) (n + 1) c9, x10, .int .i64 a, x12, x13, .int .i64 s, x15, x16, x17, x18, x19, x20, x21, x22, x23, x24, x25, x26, x27, x28, x29, x30, x31, x32, x33, x34, x35, x36, x37, x38, x39, x40, x41, x42, x43, x44, x45, x46, x47, x48, x49, x50, x51, x52, x53, x54, x55, x56, x57, x58, x59, x60, x61, x62, x63, x64, x65, x66, x67, x68, x69, x70, x71, x72, x73, x74, x75, x76, x77, x78, x79, x80, x81, x82, x83, x84, x85, x86, x87, x88, x89, x90, x91, y92, y93, y94, y95, y96, y97, y98, y99, y100, y101, y102, y103, y104, y105, y106, y107, y108, x109, x110, x111, x112, x113, x114, x115, x116, x117, x118, x119, x120, x121, x122, x123, x124, x125, x126, x127, x128, x129, x130, x131, x132, x133, x134, x135, x136, x137, x138, x139, x140, x141, x142, x143, x144, x145, x146, x147, x148], []⟩ (w2.setCell ⟨gR, s, none⟩ (.slice (some ⟨g2, 0, none⟩) (n + 1) cc2))) :
    cd.wp Try.prog Q ⟨#[x0, x1, .pointer (some ⟨G, 0, none⟩), x3, x4, x5, .slice (some ⟨gR, 0, none⟩) t rc, x7, x8, .slice (some ⟨g9, 0, none⟩) (n + 1) c9, x10, .int .i64 a, x12, x13, .int .i64 s, x15, x16, x17, x18, x19, x20, x21, x22, x23, x24, x25, x26, x27, x28, x29, x30, x31, x32, x33, x34, x35, x36, x37, x38, x39, x40, x41, x42, x43, x44, x45, x46, x47, x48, x49, x50, x51, x52, x53, x54, x55, x56, x57, x58, x59, x60, x61, x62, x63, x64, x65, x66, x67, x68, x69, x70, x71, x72, x73, x74, x75, x76, x77, x78, x79, x80, x81, x82, x83, x84, x85, x86, x87, x88, x89, x90, x91, x92, x93, x94, x95, x96, x97, x98, x99, x100, x101, x102, x103, x104, x105, x106, x107, x108, x109, x110, x111, x112, x113, x114, x115, x116, x117, x118, x119, x120, x121, x122, x123, x124, x125, x126, x127, x128, x129, x130, x131, x132, x133, x134, x135, x136, x137, x138, x139, x140, x141, x142, x143, x144, x145, x146, x147, x148], []⟩ wE := by
  have HLE : Hid (∀ w1, Below wE.heap.size wE w1 → Calls Try.prog 95 #[.agg #[.int .i64 D.q, .int .i64 D.p, .int .i64 D.m, .int .i64 gen, .slice (some ⟨gm, 0, none⟩) (D.m + 1) cm], .slice (some ⟨gs, 0, none⟩) (n + 1) cs, .slice (some ⟨g9, 0, none⟩) (n + 1) c9, .int .i64 y] w1 fun e w' => ∃ v, e = .returned v ∧ Elm v (n, d) w' ∧ Below wE.heap.size wE w' ∧ w'.cell? ⟨gR, s, none⟩ = some (.slice (some ⟨gs, 0, none⟩) (n + 1) cs) ∧ w'.frozen? ⟨gR, s, none⟩ = false) := hLE
  have HQ : Hid _ := hQ
  clear hLE hQ
  subst hcd
  conv => arg 2; whnf
  refine wp_region_noPanic ?_
  go_region_with (first
    | (go_at_call 95; refine (HLE.out _ ?_).mono ?_; (first | exact (Below.refl _ _).drew | exact Below.refl _ _ | exact below_drewN2 (Below.refl _ _) _); rintro e w2 ⟨v2, rfl, he2, hb2, hc2, hf2⟩; obtain ⟨g2, cc2, rfl, he21, he22, he23⟩ := he2))
  all_goals
    exact NoPanic.normal (HQ.out _ _ _ _ _ _ _ _ _ _ _ _ _ _ _ _ _ g2 cc2 w2 ⟨g2, cc2, rfl, he21, he22, he23⟩ hb2)

end Go.Proofs.Ytbpeahhhkcljeaa
