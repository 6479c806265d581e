/- Texts of ours, one behind the other: H2 H3 H4 S8. -/
import Derived.Test.YthmjdcajaoilgakZO2
import Derived.Test.YthmjdcajaoilgakZN7
/- Curves: the program's, and the reference's. -/
namespace Go.Proofs.Ythmjdcajaoilgak
open Go.RowKit Go.Sort

theorem pmulN_any {D : FD} (hD : D ∈ fieldsL) {so yo : Option Addr} {L my sc cy : Nat} {c : Nat → Nat} {yz : Nat → Int} {w : World} (hs : Arg so L sc (fun j => ((c j : Nat) : Int)) w) (hy : Arg yo my cy yz w) (hE : El D c) (hT : Trd L c) (hL : L ≤ 128) (h0 : D.chk my yz = 0) :
    Calls Try.prog 49 #[.int .i64 D.q, .slice so L sc, .slice yo my cy] w fun e w' => Below w.heap.size w w' ∧
      ((¬ 129 < L + dgn (zc my yz) my ∧ ∃ po pc, e = .returned (.tuple #[.slice po (dgn (pmul D L c (zc my yz)) (L + dgn (zc my yz) my)) pc, .int .i64 0]) ∧ Arg po (dgn (pmul D L c (zc my yz)) (L + dgn (zc my yz) my)) pc (fun j => ((pmul D L c (zc my yz) j : Nat) : Int)) w') ∨
       (129 < L + dgn (zc my yz) my ∧ e = .returned (.tuple #[.slice none 0 0, .int .i64 4]))) := by
  have hc := chk_nat hE hL
  have hz := zc_nat hT.1
  have hdg := hT.dgn (Nat.le_refl L)
  refine (pmul_any hD hs hy).mono ?_
  rintro e w' ⟨hb, hr⟩
  rw [chk2_def, if_pos hc, hz, hdg] at hr
  refine ⟨hb, ?_⟩
  rcases hr with ⟨_, h1, v, rfl, ho⟩ | ⟨_, h1, rfl⟩ | ⟨h1, _⟩
  · have hle := dgn_le (pmul D L c (zc my yz)) (L + dgn (zc my yz) my)
    have hm := (chk_zero h0).1
    have hd := dgn_le (zc my yz) my
    obtain ⟨po, pc, rfl, ha⟩ := ho.arg (by omega)
    exact Or.inl ⟨by omega, po, pc, rfl, ha⟩
  · exact Or.inr ⟨h1, rfl⟩
  · exact absurd h0 h1

set_option maxHeartbeats 8000000 in
set_option maxRecDepth 100000 in
theorem curve_any {D : FD} (hD : D ∈ fieldsL) {ao yo : Option Addr} {m my ca cy : Nat} {A : Nat → Option Addr} {N C : Nat → Nat} {Z : Nat → Nat → Int} {yz : Nat → Int} {w : World} (ha : MatZ ao m A N C Z w) (hy : Arg yo my cy yz w) (h0 : D.chk my yz = 0) (hm : m ≤ 64) :
    Calls Try.prog 26 #[.int .i64 D.q, .slice ao m ca, .slice yo my cy] w fun e w' => Below w.heap.size w w' ∧
      ((cve D (zc my yz) (dgn (zc my yz) my) N Z m m ≠ 0 ∧ e = .returned (.tuple #[.slice none 0 0, .int .i64 (cve D (zc my yz) (dgn (zc my yz) my) N Z m m)])) ∨
       (cve D (zc my yz) (dgn (zc my yz) my) N Z m m = 0 ∧ ∃ v, e = .returned (.tuple #[v, .int .i64 0]) ∧ KI v (zl (cvs D (zc my yz) (dgn (zc my yz) my) N Z m m).1 fun j => (((cvs D (zc my yz) (dgn (zc my yz) my) N Z m m).2 j : Nat) : Int)) w')) := by
  obtain ⟨Y, hY⟩ : ∃ Y, Y = zc my yz := ⟨_, rfl⟩
  obtain ⟨T, hT⟩ : ∃ T, T = dgn Y my := ⟨_, rfl⟩
  rw [← hY, ← hT]
  have HH : Hid (D ∈ fieldsL ∧ MatZ ao m A N C Z w ∧ Arg yo my cy yz w ∧ D.chk my yz = 0 ∧ Y = zc my yz ∧ T = dgn Y my ∧ El D Y ∧ Bd T Y) := ⟨hD, ha, hy, h0, hY, hT, by rw [hY]; exact zc_el (fld hD) h0, by rw [hT]; exact dgn_bd (by rw [hY]; exact zc_bd _ _)⟩
  have HCk : Hid (Calls Try.prog 30 #[.int .i64 D.q, .slice yo my cy] w fun e w' => e = .returned (.int .i64 0) ∧ Below w.heap.size w w') := by
    show Calls _ _ _ _ _
    have h := check_any (cap := cy) hD hy.sl hy.lt hy.few
    rw [h0] at h; exact h
  have hmi : ¬ (64 : Int) < (m : Int) := by omega
  clear hD ha hy h0 hY hT
  go_enter Try.func26, Try.ntmps26
  go_wp2_with fail
  refine HCk.out.mono ?_
  rintro e w1 ⟨rfl, hb1⟩
  have H1 : Hid (Below w.heap.size w w1) := hb1
  clear hb1
  go_wp2_with fail
  go_loopw [9, 10] (fun vs vi wr => ∃ (r j1 : Nat) (so : Option Addr) (sc L : Nat), r + j1 = m ∧ vs = .slice so L sc ∧ ((j1 = 0 ∧ vi = .int .i64 (-1)) ∨ ∃ j : Nat, j1 = j + 1 ∧ vi = .int .i64 (j : Nat)) ∧ Hid (cve D Y T N Z m r = 0 ∧ L = (cvs D Y T N Z m r).1 ∧ Arg so L sc (fun j => (((cvs D Y T N Z m r).2 j : Nat) : Int)) wr ∧ Below w.heap.size w wr)) (fun _ vi _ => (intOf vi + 1).toNat)
  case atStart =>
    by_cases hm0 : m = 0
    · exact ⟨0, 0, none, 0, 0, by omega, rfl, Or.inl ⟨rfl, by rw [hm0]; rfl⟩, rfl, rfl, arg_nil _ _, H1.out⟩
    · exact ⟨0, m, none, 0, 0, by omega, rfl, Or.inr ⟨m - 1, by omega, by go_num⟩, rfl, rfl, arg_nil _ _, H1.out⟩
  case round =>
    obtain ⟨r, j1, so, sc, L, hrj, rfl, hvi, HG⟩ := hrel
    rename World => wA
    rcases hvi with ⟨hj0, rfl⟩ | ⟨j, hj, rfl⟩
    · have hre : m = r := by omega
      subst hre
      have HE : Hid (KI (.slice so L sc) (zl L fun j => (((cvs D Y T N Z m m).2 j : Nat) : Int)) wA) := by
        refine ⟨arg_sliceI HG.out.2.2.1 (Nat.le_refl _), fun k hk => ?_⟩
        cases so with
        | none => cases hk
        | some x => cases hk; exact HG.out.2.2.1.lt x rfl
      have HL : Hid (L = (cvs D Y T N Z m m).1) := HG.out.2.1
      go_wp2
      go_ret2
      refine ⟨HG.out.2.2.2, Or.inr ⟨HG.out.1, _, rfl, ?_⟩⟩
      rw [← HL.out]; exact HE.out
    · have hjm : j < m := by omega
      have hjr : m - 1 - r = j := by omega
      have hji : (j : Int) < (m : Int) := by omega
      have hj0 : (0 : Int) ≤ (j : Int) := by omega
      have hrm : r < m := by omega
      have hst := cvs_ok HH.out.1 HH.out.2.2.2.2.2.2.1 HH.out.2.2.2.2.2.2.2 r HG.out.1
      obtain ⟨c, hc⟩ : ∃ c, c = (cvs D Y T N Z m r).2 := ⟨_, rfl⟩
      have HS : Hid (El D c ∧ Trd L c ∧ L ≤ 128 ∧ Arg so L sc (fun j => ((c j : Nat) : Int)) wA ∧ L = (cvs D Y T N Z m r).1 ∧ c = (cvs D Y T N Z m r).2) := by
        rw [hc, HG.out.2.1]
        exact ⟨hst.1, hst.2.1, hst.2.2, by rw [← HG.out.2.1]; exact HG.out.2.2.1, rfl, rfl⟩
      have HB : Hid (Below w.heap.size w wA ∧ cve D Y T N Z m r = 0) := ⟨HG.out.2.2.2, HG.out.1⟩
      clear hst hc HG
      obtain ⟨lp, hlp⟩ : ∃ lp, lp = dgn (pmul D L c Y) (L + T) := ⟨_, rfl⟩
      have HM : Hid (Calls Try.prog 49 #[.int .i64 D.q, .slice so L sc, .slice yo my cy] wA fun e w' => Below wA.heap.size wA w' ∧ ((¬ 129 < L + T ∧ ∃ po pc, e = .returned (.tuple #[.slice po lp pc, .int .i64 0]) ∧ Arg po lp pc (fun j => ((pmul D L c Y j : Nat) : Int)) w') ∨ (129 < L + T ∧ e = .returned (.tuple #[.slice none 0 0, .int .i64 4])))) := by
        show Calls _ _ _ _ _
        have h := pmulN_any HH.out.1 HS.out.2.2.2.1 (HH.out.2.2.1.below HB.out.1) HS.out.1 HS.out.2.1 HS.out.2.2.1 HH.out.2.2.2.1
        rw [← HH.out.2.2.2.2.1, ← HH.out.2.2.2.2.2.1, ← hlp] at h
        exact h
      have HLp : Hid (lp = dgn (pmul D L c Y) (L + T)) := hlp
      clear hlp
      go_wp2_with fail
      refine HM.out.mono ?_
      rintro e w2 ⟨hb2, hr⟩
      rcases hr with ⟨h129, po, pc, rfl, hpa⟩ | ⟨h129, rfl⟩
      · have H2 : Hid (Below w.heap.size w w2 ∧ Arg po lp pc (fun j => ((pmul D L c Y j : Nat) : Int)) w2 ∧ El D (pmul D L c Y) ∧ Bd lp (pmul D L c Y) ∧ lp ≤ 128 ∧ ¬ 129 < L + T) := by
          refine ⟨bel_up' HB.out.1 hb2, hpa, el_mul (fld HH.out.1) _ _ _, ?_, ?_, h129⟩
          · rw [HLp.out]
            exact dgn_bd ((pmul_bd (fld HH.out.1) HH.out.2.2.2.2.2.2.2 _).mono (by omega))
          · rw [HLp.out, pmul_len HH.out.1 HS.out.1 HH.out.2.2.2.2.2.2.1 HS.out.2.1.1 HH.out.2.2.2.2.2.2.2]
            have b1 := dgn_le c L
            have b2 := dgn_le Y T
            have b3 := HS.out.2.2.1
            split <;> omega
        clear hb2 hpa h129
        obtain ⟨bA, oA, eA, hcA⟩ := (HH.out.2.1.below H2.out.1).cell j hjm
        subst eA
        obtain ⟨e, he⟩ : ∃ e, e = D.chk (N j) (Z j) := ⟨_, rfl⟩
        have HA : Hid (Calls Try.prog 50 #[.int .i64 D.q, .slice po lp pc, .slice (A j) (N j) (C j)] w2 fun x w' => Below w2.heap.size w2 w' ∧ ((e = 0 ∧ ∃ v, x = .returned (.tuple #[v, .int .i64 0]) ∧ OwnP w2.heap.size v (dgn (padd D (pmul D L c Y) (zc (N j) (Z j))) (max lp (N j))) (padd D (pmul D L c Y) (zc (N j) (Z j))) w') ∨ (e ≠ 0 ∧ x = .returned (.tuple #[.slice none 0 0, .int .i64 e])))) := by
          show Calls _ _ _ _ _
          rw [he]
          exact cadd_any HH.out.1 (HH.out.2.1.below H2.out.1) hjm H2.out.2.1 H2.out.2.2.1 H2.out.2.2.2.1 H2.out.2.2.2.2.1
        have HEr : Hid (cve D Y T N Z m (r + 1) = e) := by
          show cve D Y T N Z m (r + 1) = e
          rw [cve, if_neg (fun hn => hn HB.out.2), ← HS.out.2.2.2.2.1, if_neg H2.out.2.2.2.2.2, hjr, he]
        have HSt : Hid (cvs D Y T N Z m (r + 1) = (dgn (padd D (pmul D L c Y) (zc (N j) (Z j))) (max lp (N j)), padd D (pmul D L c Y) (zc (N j) (Z j)))) := by
          show cvs D Y T N Z m (r + 1) = _
          rw [cvs, ← HS.out.2.2.2.2.1, ← HS.out.2.2.2.2.2, hjr, ← HLp.out]
        clear he
        go_wp2_with fail
        refine HA.out.mono ?_
        rintro x w3 ⟨hb3, hr3⟩
        rcases hr3 with ⟨h0, v, rfl, ho⟩ | ⟨h0, rfl⟩
        · have hokr : cve D Y T N Z m (r + 1) = 0 := by rw [HEr.out, h0]
          have hst := cvs_ok HH.out.1 HH.out.2.2.2.2.2.2.1 HH.out.2.2.2.2.2.2.2 (r + 1) hokr
          rw [HSt.out] at hst
          obtain ⟨so', sc', rfl, ha'⟩ := ho.arg (by have h := hst.2.2; show dgn _ _ ≤ 1000000; omega)
          obtain ⟨L', hL'⟩ : ∃ L', L' = dgn (padd D (pmul D L c Y) (zc (N j) (Z j))) (max lp (N j)) := ⟨_, rfl⟩
          rw [← hL'] at ha' ⊢
          have HR : Hid (cve D Y T N Z m (r + 1) = 0 ∧ L' = (cvs D Y T N Z m (r + 1)).1 ∧ Arg so' L' sc' (fun j => (((cvs D Y T N Z m (r + 1)).2 j : Nat) : Int)) w3 ∧ Below w.heap.size w w3) := by
            rw [HSt.out]
            exact ⟨hokr, hL', ha', bel_up' H2.out.1 hb3⟩
          clear hokr hst ho ha' hL' hb3 h0
          go_wp2
          go_roundw
          case rel =>
            by_cases hj00 : j = 0
            · exact ⟨r + 1, 0, so', sc', L', by omega, rfl, Or.inl ⟨rfl, by rw [hj00]; rfl⟩, HR.out⟩
            · exact ⟨r + 1, j, so', sc', L', by omega, rfl, Or.inr ⟨j - 1, by omega, by go_num⟩, HR.out⟩
          case measure => first | (simp [intOf]; done) | (simp [intOf]; omega)
        · have HR : Hid (cve D Y T N Z m m = e ∧ e ≠ 0 ∧ Below w.heap.size w w3) := ⟨cve_to h0 hrm HEr.out, h0, bel_up' H2.out.1 hb3⟩
          have hz : (e != 0) = true := by rw [bne_iff_ne]; exact h0
          clear hb3 h0
          go_wp2
          go_ret2
          exact ⟨HR.out.2.2, Or.inl ⟨by rw [HR.out.1]; exact HR.out.2.1, by rw [HR.out.1]; rfl⟩⟩
      · have HR : Hid (cve D Y T N Z m m = 4 ∧ Below w.heap.size w w2) := by
          refine ⟨cve_to (by omega) hrm ?_, bel_up' HB.out.1 hb2⟩
          rw [cve, if_neg (fun hn => hn HB.out.2), ← HS.out.2.2.2.2.1, if_pos h129]
        clear hb2 h129
        go_wp2
        go_ret2
        exact ⟨HR.out.2, Or.inl ⟨by rw [HR.out.1]; omega, by rw [HR.out.1]; rfl⟩⟩
end Go.Proofs.Ythmjdcajaoilgak

/- Curves: the reference's. -/
namespace Go.Proofs.Ythmjdcajaoilgak
open Go.RowKit Go.Sort

end Go.Proofs.Ythmjdcajaoilgak

/- ListsCurve: the walk of the statement, whatever it is given. -/
namespace Go.Proofs.Ythmjdcajaoilgak
open Go.RowKit Go.Sort

set_option maxHeartbeats 2000000 in
set_option maxRecDepth 100000 in
theorem curve_err (q e : Int) (he : e ≠ 0) {ao yo : Option Addr} {m my ca cy : Nat} {w : World} (h : Calls Try.prog 30 #[.int .i64 q, .slice yo my cy] w fun x w' => x = .returned (.int .i64 e) ∧ Below w.heap.size w w') :
    Calls Try.prog 26 #[.int .i64 q, .slice ao m ca, .slice yo my cy] w fun x w' => x = .returned (.tuple #[.slice none 0 0, .int .i64 e]) ∧ Below w.heap.size w w' := by
  have HC : Hid (Calls Try.prog 30 #[.int .i64 q, .slice yo my cy] w fun x w' => x = .returned (.int .i64 e) ∧ Below w.heap.size w w') := h
  have hz : (e != 0) = true := by rw [bne_iff_ne]; exact he
  clear h he
  go_enter Try.func26, Try.ntmps26
  go_wp2_with fail
  refine HC.out.mono ?_
  rintro x w1 ⟨rfl, hb1⟩
  have H1 : Hid (Below w.heap.size w w1) := hb1
  clear hb1
  go_wp2
  go_ret2
  exact ⟨rfl, H1.out⟩
set_option maxHeartbeats 2000000 in
set_option maxRecDepth 100000 in
theorem curve_long {D : FD} (hD : D ∈ fieldsL) {ao yo : Option Addr} {m my ca cy : Nat} {yz : Nat → Int} {w : World} (hy : Arg yo my cy yz w) (h0 : D.chk my yz = 0) (hm : 64 < m) (hm2 : m ≤ 17592186044416) :
    Calls Try.prog 26 #[.int .i64 D.q, .slice ao m ca, .slice yo my cy] w fun x w' => x = .returned (.tuple #[.slice none 0 0, .int .i64 4]) ∧ Below w.heap.size w w' := by
  have HC : Hid (Calls Try.prog 30 #[.int .i64 D.q, .slice yo my cy] w fun x w' => x = .returned (.int .i64 0) ∧ Below w.heap.size w w') := by
    show Calls _ _ _ _ _
    have h := check_any (cap := cy) hD hy.sl hy.lt hy.few
    rw [h0] at h; exact h
  have hmi : (64 : Int) < (m : Int) := by omega
  clear hD hy h0
  go_enter Try.func26, Try.ntmps26
  go_wp2_with fail
  refine HC.out.mono ?_
  rintro x w1 ⟨rfl, hb1⟩
  have H1 : Hid (Below w.heap.size w w1) := hb1
  clear hb1
  go_wp2
  go_ret2
  exact ⟨rfl, H1.out⟩
end Go.Proofs.Ythmjdcajaoilgak

/- Plain mathematics: the shortest rule of a list (Berlekamp and Massey). -/
namespace Go.Proofs.Ythmjdcajaoilgak

theorem psub_is {D : FD} (F : Fld D) {u v : Nat → Nat} (hv : El D v) : psub D u v = padd D u (pscale D (D.ng 1) v) := by
  funext i
  show D.sb (u i) (v i) = D.ad (u i) (D.mul (D.ng 1) (v i))
  rw [F.mul_comm, mul_ng F (one_lt' F), mul1 F (hv i)]
  rfl
theorem pmul_sub_l {D : FD} (F : Fld D) {a a' b : Nat → Nat} (ha : El D a) (ha' : El D a') (n : Nat) : pmul D n (psub D a a') b = psub D (pmul D n a b) (pmul D n a' b) := by
  rw [psub_is F ha', pmul_add_l F ha (el_scale F _ _), pmul_scale_l F, ← psub_is F (el_mul F _ _ _)]
/-- A product's number where but the last of the other's numbers count. -/
theorem pmul_last {D : FD} (F : Fld D) {a X : Nat → Nat} (hX : El D X) {N : Nat} : ∀ n, (∀ k, 1 ≤ k → k < n + 1 → k ≤ N → X (N - k) = 0) → pmul D (n + 1) a X N = D.mul (a 0) (X N)
  | 0, _ => by
    show D.ad (pnil N) (psh 0 (pscale D (a 0) X) N) = _
    rw [psh_zero]
    exact zero_ad F (F.mul_lt _ _)
  | n + 1, h => by
    show D.ad (pmul D (n + 1) a X N) (psh (n + 1) (pscale D (a (n + 1)) X) N) = _
    rw [pmul_last F hX n (fun k h1 h2 h3 => h k h1 (by omega) h3)]
    have e : psh (n + 1) (pscale D (a (n + 1)) X) N = 0 := by
      unfold psh
      by_cases hn : n + 1 ≤ N
      · rw [if_pos hn]
        show D.mul (a (n + 1)) (X (N - (n + 1))) = 0
        rw [h (n + 1) (by omega) (by omega) hn, mul0 F]
      · rw [if_neg hn]
    rw [e, ad_zero F (F.mul_lt _ _)]
/-- The rule C of length L holds for the first N numbers of s. -/
def Gen (D : FD) (s C : Nat → Nat) (L N : Nat) : Prop := ∀ t, L ≤ t → t < N → pmul D (L + 1) C s t = 0
/-- A rule of length L. -/
structure Rul (D : FD) (C : Nat → Nat) (L : Nat) : Prop where
  el : El D C
  bd : Bd (L + 1) C
  one : C 0 = 1
theorem massey {D : FD} (F : Fld D) {s C C' : Nat → Nat} {L L' N : Nat} (_hs : El D s) (hC : Rul D C L) (hC' : Rul D C' L') (h : Gen D s C L N) (h' : Gen D s C' L' (N + 1)) (hL : L + L' ≤ N) : pmul D (L + 1) C s N = 0 := by
  have e : pmul D (L' + 1) C' (pmul D (L + 1) C s) = pmul D (L + 1) C (pmul D (L' + 1) C' s) := by
    rw [← pmul_assoc F hC.bd (L' + 1) (L' + 1 + (L + 1)) (Nat.le_refl _), ← pmul_assoc F hC'.bd (L + 1) (L' + 1 + (L + 1)) (by omega), pmul_comm F hC'.el hC.el hC'.bd hC.bd]
  have h1 := pmul_last F (a := C') (X := pmul D (L + 1) C s) (N := N) (el_mul F _ _ _) L' (fun k a b c => h (N - k) (by omega) (by omega))
  have h2 := pmul_last F (a := C) (X := pmul D (L' + 1) C' s) (N := N) (el_mul F _ _ _) L (fun k a b c => h' (N - k) (by omega) (by omega))
  rw [e, h2, h' N (by omega) (by omega), mul0 F, hC'.one, omul F (el_mul F _ _ _ N)] at h1
  exact h1.symm

/-- The state when i numbers are seen: the rule, its length; an older rule, what it missed. -/
structure BMS (D : FD) (s : Nat → Nat) (i : Nat) (C : Nat → Nat) (lc L : Nat) (O : Nat → Nat) (lo b : Nat) : Prop where
  rul : Rul D C L
  bdc : Bd lc C
  lcL : lc ≤ L + 1
  lc1 : 1 ≤ lc
  le : L ≤ i
  gen : Gen D s C L i
  min : ∀ C' L', Rul D C' L' → Gen D s C' L' i → L ≤ L'
  elo : El D O
  bdo : Bd lo O
  loL : lo ≤ i + 1 - L
  bq : b < D.q
  b0 : b ≠ 0
  old : L = 0 ∨ (1 ≤ i ∧ (∀ t, i - L ≤ t → t + 1 < i → pmul D lo O s t = 0) ∧ pmul D lo O s (i - 1) = b)
theorem bms_start {D : FD} (F : Fld D) (s : Nat → Nat) : BMS D s 0 pone 1 0 pone 1 1 := by
  have hb : Bd 1 pone := fun k hk => by unfold pone; rw [if_neg (by omega)]
  exact ⟨⟨el_one F, hb, rfl⟩, hb, by omega, by omega, by omega, fun t _ h => by omega, fun _ _ _ _ => by omega, el_one F, hb, by omega, one_lt' F, by omega, Or.inl rfl⟩
theorem gen_less {D : FD} {s C : Nat → Nat} {L N : Nat} (h : Gen D s C L (N + 1)) : Gen D s C L N := fun t h1 h2 => h t h1 (by omega)
theorem sh_prod {D : FD} (F : Fld D) {s O : Nat → Nat} {lo t : Nat} (ht : 1 ≤ t) : pmul D (lo + 1) (psh 1 O) s t = pmul D lo O s (t - 1) := by
  have h := pmul_sh_l F 1 O s lo
  rw [Nat.add_comm lo 1, h]
  unfold psh
  rw [if_pos ht]
theorem sh_bd {O : Nat → Nat} {lo : Nat} (h : Bd lo O) : Bd (lo + 1) (psh 1 O) := fun k hk => by
  unfold psh
  rw [if_pos (by omega)]; exact h _ (by omega)
/-- What the rule misses at number i. -/
theorem bms_skip {D : FD} (F : Fld D) {s C O : Nat → Nat} {i lc L lo b : Nat} (h : BMS D s i C lc L O lo b) (h0 : pmul D lc C s i = 0) : BMS D s (i + 1) C lc L (psh 1 O) (lo + 1) b := by
  have hle := h.le
  have hlo := h.loL
  refine ⟨h.rul, h.bdc, h.lcL, h.lc1, by omega, fun t h1 h2 => ?_, fun C' L' hr hg => h.min C' L' hr (gen_less hg), el_sh F 1 h.elo, sh_bd h.bdo, by omega, h.bq, h.b0, ?_⟩
  · by_cases e : t = i
    · rw [e, pmul_to F s h.bdc h.lcL]; exact h0
    · exact h.gen t h1 (by omega)
  · rcases h.old with h1 | ⟨h1, h2, h3⟩
    · exact Or.inl h1
    · refine Or.inr ⟨by omega, fun t a b => ?_, ?_⟩
      · rw [sh_prod F (by omega)]
        exact h2 (t - 1) (by omega) (by omega)
      · rw [sh_prod F (by omega)]
        exact h3
theorem bms_step {D : FD} (hD : D ∈ fieldsL) {s C O : Nat → Nat} {i lc L lo b x lb : Nat} (hs : El D s) (h : BMS D s i C lc L O lo b) (hx : x = pmul D lc C s i) (h0 : x ≠ 0) (hlb : lb = max lc (lo + 1)) :
    (2 * L ≤ i → BMS D s (i + 1) (psub D C (pscale D (D.mul x (D.iv b)) (psh 1 O))) lb (i + 1 - L) C lc x) ∧ (¬ 2 * L ≤ i → BMS D s (i + 1) (psub D C (pscale D (D.mul x (D.iv b)) (psh 1 O))) lb L (psh 1 O) (lo + 1) b) := by
  have F := fld hD
  have hle := h.le
  have hlo := h.loL
  have hlc := h.lcL
  have hlc1 := h.lc1
  obtain ⟨C', hC'⟩ : ∃ C', C' = psub D C (pscale D (D.mul x (D.iv b)) (psh 1 O)) := ⟨_, rfl⟩
  have hxq : x < D.q := by rw [hx]; exact el_mul F _ _ _ _
  have hel : El D C' := by rw [hC']; exact el_sub F h.rul.el (el_scale F _ _)
  have hb' : Bd lb C' := fun k hk => by
    rw [hC']
    show D.sb (C k) (D.mul _ (psh 1 O k)) = 0
    rw [h.bdc k (by omega), sh_bd h.bdo k (by omega), mul0 F, sb_self F (zero_lt' F)]
  have hone : C' 0 = 1 := by
    rw [hC']
    show D.sb (C 0) (D.mul _ (psh 1 O 0)) = 1
    have e : psh 1 O 0 = 0 := by unfold psh; rw [if_neg (by omega)]
    rw [e, mul0 F, h.rul.one, sb_zero F (one_lt' F)]
  have hmiss : pmul D (L + 1) C s i = x := by rw [hx, pmul_to F s h.bdc hlc]
  -- what the new rule misses
  have hdis : ∀ N t, lb ≤ N → pmul D N C' s t = D.sb (pmul D N C s t) (D.mul (D.mul x (D.iv b)) (pmul D N (psh 1 O) s t)) := fun N t _ => by
    rw [hC', pmul_sub_l F h.rul.el (el_scale F _ _), pmul_scale_l F]; rfl
  have hgen : ∀ NL, L ≤ NL → i + 1 - L ≤ NL → lb ≤ NL + 1 → (L = 0 → i < NL) → Gen D s C' NL (i + 1) := fun NL h1 h2 h3 h4 t ht1 ht2 => by
    rw [hdis (NL + 1) t h3, pmul_to F s h.rul.bd (by omega), pmul_to F s (sh_bd h.bdo) (by omega)]
    rcases h.old with ho | ⟨ho1, ho2, ho3⟩
    · have := h4 ho; omega
    · by_cases e : t = i
      · rw [e, hmiss, sh_prod F (by omega), ho3, F.mul_assoc, F.mul_comm (D.iv b), iv_is hD h.bq h.b0, mul1 F hxq, sb_self F hxq]
      · rw [h.gen t (by omega) (by omega), sh_prod F (by omega), ho2 (t - 1) (by omega) (by omega), mul0 F, sb_zero F (zero_lt' F)]
  have hmin : ∀ C2 L2, Rul D C2 L2 → Gen D s C2 L2 (i + 1) → L ≤ L2 ∧ i + 1 - L ≤ L2 := fun C2 L2 hr hg => by
    refine ⟨h.min C2 L2 hr (gen_less hg), ?_⟩
    rcases Nat.lt_or_ge i (L + L2) with e | e
    · omega
    · exfalso
      have := massey F hs h.rul hr h.gen hg e
      rw [hmiss] at this
      exact h0 this
  rw [← hC']
  constructor
  · intro h2
    refine ⟨⟨hel, fun k hk => hb' k (by omega), hone⟩, hb', by omega, by omega, by omega, hgen _ (by omega) (Nat.le_refl _) (by omega) (fun e => by omega), fun C2 L2 hr hg => (hmin C2 L2 hr hg).2, h.rul.el, h.bdc, by omega, hxq, h0, Or.inr ⟨by omega, fun t a b => ?_, ?_⟩⟩
    · rw [← pmul_to F s h.bdc hlc]
      exact h.gen t (by omega) (by omega)
    · rw [show i + 1 - 1 = i from by omega]; exact hx.symm
  · intro h2
    refine ⟨⟨hel, fun k hk => hb' k (by omega), hone⟩, hb', by omega, by omega, by omega, hgen _ (Nat.le_refl _) (by omega) (by omega) (fun e => by omega), fun C2 L2 hr hg => (hmin C2 L2 hr hg).1, el_sh F 1 h.elo, sh_bd h.bdo, by omega, h.bq, h.b0, ?_⟩
    rcases h.old with ho | ⟨ho1, ho2, ho3⟩
    · omega
    · refine Or.inr ⟨by omega, fun t a b => ?_, ?_⟩
      · rw [sh_prod F (by omega)]
        exact ho2 (t - 1) (by omega) (by omega)
      · rw [sh_prod F (by omega)]
        exact ho3
end Go.Proofs.Ythmjdcajaoilgak
