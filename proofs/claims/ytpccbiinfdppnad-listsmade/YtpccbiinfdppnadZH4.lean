/- Texts of ours, one behind the other: H4 K4 S8 Y1. -/
import Derived.Test.YtpccbiinfdppnadZH1
import Derived.Test.YtpccbiinfdppnadZL10
import Derived.Test.YtpccbiinfdppnadZX15
import Derived.Test.YtpccbiinfdppnadZO2
import Derived.Test.YtpccbiinfdppnadZU22
/- ListsCurve: the walk of the statement, whatever it is given. -/
namespace Go.Proofs.Ytpccbiinfdppnad
open Go.RowKit Go.Sort

set_option maxHeartbeats 2000000 in
set_option maxRecDepth 100000 in
theorem curve_err (q e : Int) (he : e ≠ 0) {ao yo : Option Addr} {m my ca cy : Nat} {w : World} (h : Calls Try.prog 30 #[.int .i64 q, .slice yo my cy] w fun x w' => x = .returned (.int .i64 e) ∧ Below w.heap.size w w') :
    Calls Try.prog 26 #[.int .i64 q, .slice ao m ca, .slice yo my cy] w fun x w' => x = .returned (.tuple #[.slice none 0 0, .int .i64 e]) ∧ Below w.heap.size w w' := by
  have HC : Hid (Calls Try.prog 30 #[.int .i64 q, .slice yo my cy] w fun x w' => x = .returned (.int .i64 e) ∧ Below w.heap.size w w') := h
  have hz : (e != 0) = true := by rw [bne_iff_ne]; exact he
  clear h he
  go_enter Try.func26, Try.ntmps26
  go_wp2_with fail
  refine HC.out.mono ?_
  rintro x w1 ⟨rfl, hb1⟩
  have H1 : Hid (Below w.heap.size w w1) := hb1
  clear hb1
  go_wp2
  go_ret2
  exact ⟨rfl, H1.out⟩
set_option maxHeartbeats 2000000 in
set_option maxRecDepth 100000 in
theorem curve_long {D : FD} (hD : D ∈ fieldsL) {ao yo : Option Addr} {m my ca cy : Nat} {yz : Nat → Int} {w : World} (hy : Arg yo my cy yz w) (h0 : D.chk my yz = 0) (hm : 64 < m) (hm2 : m ≤ 17592186044416) :
    Calls Try.prog 26 #[.int .i64 D.q, .slice ao m ca, .slice yo my cy] w fun x w' => x = .returned (.tuple #[.slice none 0 0, .int .i64 4]) ∧ Below w.heap.size w w' := by
  have HC : Hid (Calls Try.prog 30 #[.int .i64 D.q, .slice yo my cy] w fun x w' => x = .returned (.int .i64 0) ∧ Below w.heap.size w w') := by
    show Calls _ _ _ _ _
    have h := check_any (cap := cy) hD hy.sl hy.lt hy.few
    rw [h0] at h; exact h
  have hmi : (64 : Int) < (m : Int) := by omega
  clear hD hy h0
  go_enter Try.func26, Try.ntmps26
  go_wp2_with fail
  refine HC.out.mono ?_
  rintro x w1 ⟨rfl, hb1⟩
  have H1 : Hid (Below w.heap.size w w1) := hb1
  clear hb1
  go_wp2
  go_ret2
  exact ⟨rfl, H1.out⟩
set_option maxHeartbeats 2000000 in
set_option maxRecDepth 100000 in
theorem rcurve_err (q e : Int) (he : e ≠ 0) {ao yo : Option Addr} {m my ca cy : Nat} {w : World} (h : Calls Try.prog 8 #[.int .i64 q, .slice yo my cy] w fun x w' => x = .returned (.int .i64 e) ∧ Below w.heap.size w w') :
    Calls Try.prog 27 #[.int .i64 q, .slice ao m ca, .slice yo my cy] w fun x w' => x = .returned (.tuple #[.slice none 0 0, .int .i64 e]) ∧ Below w.heap.size w w' := by
  have HC : Hid (Calls Try.prog 8 #[.int .i64 q, .slice yo my cy] w fun x w' => x = .returned (.int .i64 e) ∧ Below w.heap.size w w') := h
  have hz : (e != 0) = true := by rw [bne_iff_ne]; exact he
  clear h he
  go_enter Try.func27, Try.ntmps27
  go_wp2_with fail
  refine HC.out.mono ?_
  rintro x w1 ⟨rfl, hb1⟩
  have H1 : Hid (Below w.heap.size w w1) := hb1
  clear hb1
  go_wp2
  go_ret2
  exact ⟨rfl, H1.out⟩
set_option maxHeartbeats 2000000 in
set_option maxRecDepth 100000 in
theorem rcurve_long {D : FD} (hD : D ∈ fieldsL) {ao yo : Option Addr} {m my ca cy : Nat} {yz : Nat → Int} {w : World} (hy : Arg yo my cy yz w) (h0 : D.chk my yz = 0) (hm : 64 < m) (hm2 : m ≤ 17592186044416) :
    Calls Try.prog 27 #[.int .i64 D.q, .slice ao m ca, .slice yo my cy] w fun x w' => x = .returned (.tuple #[.slice none 0 0, .int .i64 4]) ∧ Below w.heap.size w w' := by
  have HC : Hid (Calls Try.prog 8 #[.int .i64 D.q, .slice yo my cy] w fun x w' => x = .returned (.int .i64 0) ∧ Below w.heap.size w w') := by
    show Calls _ _ _ _ _
    have h := polyMay_any (cap := cy) hD hy.sl hy.lt hy.few
    rw [h0] at h; exact h
  have hmi : (64 : Int) < (m : Int) := by omega
  clear hD hy h0
  go_enter Try.func27, Try.ntmps27
  go_wp2_with fail
  refine HC.out.mono ?_
  rintro x w1 ⟨rfl, hb1⟩
  have H1 : Hid (Below w.heap.size w w1) := hb1
  clear hb1
  go_wp2
  go_ret2
  exact ⟨rfl, H1.out⟩

set_option maxHeartbeats 2000000 in
set_option maxRecDepth 100000 in
theorem lcurve_both (q er : Int) {ao yo : Option Addr} {m my ca cy : Nat} {l : List Int} {w : World} (hmy : my ≤ 200) (hHa : Calls Try.prog 25 #[.slice ao m ca] w fun r w' => r = .returned (.bool false) ∧ w' = w)
    (hP : ∀ w1, Below w.heap.size w w1 → Calls Try.prog 26 #[.int .i64 q, .slice ao m ca, .slice yo my cy] w1 fun x w' => Below w1.heap.size w1 w' ∧ ∃ v, x = .returned (.tuple #[v, .int .i64 er]) ∧ ((er ≠ 0 ∧ v = .slice none 0 0) ∨ (er = 0 ∧ KI v l w')))
    (hR : ∀ w1, Below w.heap.size w w1 → Calls Try.prog 27 #[.int .i64 q, .slice ao m ca, .slice yo my cy] w1 fun x w' => Below w1.heap.size w1 w' ∧ ∃ v, x = .returned (.tuple #[v, .int .i64 er]) ∧ ((er ≠ 0 ∧ v = .slice none 0 0) ∨ (er = 0 ∧ KI v l w'))) :
    Calls Try.prog 7 #[.int .i64 q, .slice ao m ca, .slice yo my cy] w fun r w' => r = .returned (.bool true) ∧ Below w.heap.size w w' := by
  have HHa : Hid (Calls Try.prog 25 #[.slice ao m ca] w fun r w' => r = .returned (.bool false) ∧ w' = w) := hHa
  have HP : Hid (∀ w1, Below w.heap.size w w1 → Calls Try.prog 26 #[.int .i64 q, .slice ao m ca, .slice yo my cy] w1 fun x w' => Below w1.heap.size w1 w' ∧ ∃ v, x = .returned (.tuple #[v, .int .i64 er]) ∧ ((er ≠ 0 ∧ v = .slice none 0 0) ∨ (er = 0 ∧ KI v l w'))) := hP
  have HR : Hid (∀ w1, Below w.heap.size w w1 → Calls Try.prog 27 #[.int .i64 q, .slice ao m ca, .slice yo my cy] w1 fun x w' => Below w1.heap.size w1 w' ∧ ∃ v, x = .returned (.tuple #[v, .int .i64 er]) ∧ ((er ≠ 0 ∧ v = .slice none 0 0) ∨ (er = 0 ∧ KI v l w'))) := hR
  have hyb : ¬ (200 : Int) < (my : Int) := by omega
  clear hHa hP hR hmy
  go_enter Try.func7, Try.ntmps7
  go_wp2_with fail
  refine HHa.out.mono ?_
  rintro r w' ⟨rfl, hw⟩
  have hw := hw.symm
  subst hw
  go_wp2_with fail
  refine (HP.out _ (Below.refl _ _)).mono ?_
  rintro x w1 ⟨hb1, v, rfl, hv⟩
  have H1 : Hid (Below w.heap.size w w1 ∧ ((er ≠ 0 ∧ v = .slice none 0 0) ∨ (er = 0 ∧ KI v l w1))) := ⟨hb1, hv⟩
  clear hb1 hv
  go_wp2_with fail
  refine (HR.out _ H1.out.1).mono ?_
  rintro x w2 ⟨hb2, u, rfl, hu⟩
  have H2 : Hid (Below w.heap.size w w2 ∧ ((er ≠ 0 ∧ ∃ ao ca, v = .slice ao 0 ca) ∨ (er = 0 ∧ ∃ l, SliceI v l w2 ∧ SliceI u l w2))) := by
    refine ⟨bel_up' H1.out.1 hb2, ?_⟩
    rcases H1.out.2 with ⟨h1, h2⟩ | ⟨h1, h2⟩
    · exact Or.inl ⟨h1, none, 0, h2⟩
    · rcases hu with ⟨h3, _⟩ | ⟨_, h4⟩
      · exact absurd h1 h3
      · exact Or.inr ⟨h1, l, (h2.below hb2).1, h4.1⟩
  clear hb2 hu
  go_wp2_with fail
  refine (list_gen H2.out.2).mono ?_
  rintro r w3 ⟨rfl, d, hw3⟩
  have H3 : Hid (Below w.heap.size w w3) := by rw [hw3]; exact bel_up' H2.out.1 ⟨rfl, rfl, rfl, Nat.le_refl _, fun _ _ => rfl⟩
  clear hw3
  go_wp2
  go_ret
  exact ⟨rfl, H3.out⟩

set_option maxHeartbeats 2000000 in
set_option maxRecDepth 100000 in
theorem lcurve_heavy (q : Int) {ao yo : Option Addr} {m my ca cy : Nat} {b1 : Bool} {w : World} (hHa : Calls Try.prog 25 #[.slice ao m ca] w fun r w' => r = .returned (.bool b1) ∧ w' = w) (hmy : my ≤ 17592186044416) (h : b1 = true ∨ 200 < my) :
    Calls Try.prog 7 #[.int .i64 q, .slice ao m ca, .slice yo my cy] w fun r w' => r = .returned (.bool true) ∧ Below w.heap.size w w' := by
  have HHa : Hid (Calls Try.prog 25 #[.slice ao m ca] w fun r w' => r = .returned (.bool b1) ∧ w' = w) := hHa
  clear hHa
  cases b1 with
  | true =>
    go_enter Try.func7, Try.ntmps7
    go_wp2_with fail
    refine HHa.out.mono ?_
    rintro r w' ⟨rfl, hw⟩
    have hw := hw.symm
    subst hw
    go_wp2
    go_ret
    exact ⟨rfl, Below.refl _ _⟩
  | false =>
    have hyb : (200 : Int) < (my : Int) := by
      rcases h with h | h
      · cases h
      · omega
    go_enter Try.func7, Try.ntmps7
    go_wp2_with fail
    refine HHa.out.mono ?_
    rintro r w' ⟨rfl, hw⟩
    have hw := hw.symm
    subst hw
    go_wp2
    go_ret
    exact ⟨rfl, Below.refl _ _⟩

theorem listsCurve_walk (q : Int) {ao yo : Option Addr} {m my ca cy : Nat} {A : Nat → Option Addr} {N C : Nat → Nat} {Z : Nat → Nat → Int} {yz : Nat → Int} {w : World} (ha : MatO ao m A N C Z w) (hy : ArgL yo my cy yz w) (hm : m ≤ 17592186044416) (hmy : my ≤ 17592186044416) (hN : ∀ i, i < m → N i ≤ 17592186044416) :
    Calls Try.prog 7 #[.int .i64 q, .slice ao m ca, .slice yo my cy] w fun r w' => r = .returned (.bool true) ∧ Below w.heap.size w w' := by
  have hHa := heavy_any (ca := ca) ha.cell hm hN
  by_cases h1 : hvs N m m ≤ 6000
  · by_cases h3 : my ≤ 200
    · rw [decide_eq_false (by omega)] at hHa
      have f1 := hvs_few m h1
      have haZ := ha.matZ (fun i hi => by have := f1.2 i hi; omega)
      have hyA := hy.arg (by omega)
      by_cases h : ∃ D ∈ fieldsL, (D.q : Int) = q
      · obtain ⟨D, hD, rfl⟩ := h
        by_cases h0 : D.chk my yz = 0
        · by_cases h64 : m ≤ 64
          · refine lcurve_both D.q (cve D (zc my yz) (dgn (zc my yz) my) N Z m m) (l := zl (cvs D (zc my yz) (dgn (zc my yz) my) N Z m m).1 fun j => (((cvs D (zc my yz) (dgn (zc my yz) my) N Z m m).2 j : Nat) : Int)) h3 hHa (fun w1 hb1 => (curve_any hD (haZ.below hb1) (hyA.below hb1) h0 h64).mono ?_) (fun w1 hb1 => (rcurve_any hD (haZ.below hb1) (hyA.below hb1) h0 h64).mono ?_)
            · rintro x w' ⟨hb, hr⟩
              rcases hr with ⟨he, rfl⟩ | ⟨he, v, rfl, hk⟩
              · exact ⟨hb, _, rfl, Or.inl ⟨he, rfl⟩⟩
              · exact ⟨hb, v, by rw [he], Or.inr ⟨he, hk⟩⟩
            · rintro x w' ⟨hb, hr⟩
              rcases hr with ⟨he, rfl⟩ | ⟨he, v, rfl, hk⟩
              · exact ⟨hb, _, rfl, Or.inl ⟨he, rfl⟩⟩
              · exact ⟨hb, v, by rw [he], Or.inr ⟨he, hk⟩⟩
          · refine lcurve_both D.q 4 (l := []) h3 hHa (fun w1 hb1 => (curve_long hD (hyA.below hb1) h0 (by omega) hm).mono ?_) (fun w1 hb1 => (rcurve_long hD (hyA.below hb1) h0 (by omega) hm).mono ?_)
            · rintro x w' ⟨rfl, hb⟩
              exact ⟨hb, _, rfl, Or.inl ⟨by omega, rfl⟩⟩
            · rintro x w' ⟨rfl, hb⟩
              exact ⟨hb, _, rfl, Or.inl ⟨by omega, rfl⟩⟩
        · refine lcurve_both D.q (D.chk my yz) (l := []) h3 hHa (fun w1 hb1 => (curve_err D.q _ h0 (check_any hD (hyA.below hb1).sl (hyA.below hb1).lt (hyA.below hb1).few)).mono ?_) (fun w1 hb1 => (rcurve_err D.q _ h0 (polyMay_any hD (hyA.below hb1).sl (hyA.below hb1).lt (hyA.below hb1).few)).mono ?_)
          · rintro x w' ⟨rfl, hb⟩
            exact ⟨hb, _, rfl, Or.inl ⟨h0, rfl⟩⟩
          · rintro x w' ⟨rfl, hb⟩
            exact ⟨hb, _, rfl, Or.inl ⟨h0, rfl⟩⟩
      · have hn : ∀ D ∈ fieldsL, (D.q : Int) ≠ q := fun D hD e => h ⟨D, hD, e⟩
        refine lcurve_both q 1 (l := []) h3 hHa (fun w1 hb1 => (curve_err q 1 (by omega) ((check_none q hn _ w1).mono fun e w' h => ⟨h.1, bel_of_eq h.2⟩)).mono ?_) (fun w1 hb1 => (rcurve_err q 1 (by omega) (polyMay_none q hn _ _ _ w1)).mono ?_)
        · rintro x w' ⟨rfl, hb⟩
          exact ⟨hb, _, rfl, Or.inl ⟨by omega, rfl⟩⟩
        · rintro x w' ⟨rfl, hb⟩
          exact ⟨hb, _, rfl, Or.inl ⟨by omega, rfl⟩⟩
    · exact lcurve_heavy q hHa hmy (Or.inr (by omega))
  · exact lcurve_heavy q hHa hmy (Or.inl (decide_eq_true (by omega)))
end Go.Proofs.Ytpccbiinfdppnad

/- Matrices out of raw numbers (MatrixOf). -/
namespace Go.Proofs.Ytpccbiinfdppnad
open Go.RowKit Go.Sort

def slA (v : Value) : Option Addr := match v with | .slice a _ _ => a | _ => none
def slC (v : Value) : Nat := match v with | .slice _ _ c => c | _ => 0
/-- i lists of c numbers below q, in a list of the call's own. -/
structure MkS (base q c i : Nat) (v : Value) (vs : Nat → Value) (Z : Nat → Nat → Int) (w : World) : Prop where
  own : OwnV base v (vl i vs) w
  row : ∀ j, j < i → OwnI base (vs j) (zl c (Z j)) w
  blw : ∀ j, j < i → Blw q c (Z j)
theorem MkS.below {base q c i : Nat} {v : Value} {vs : Nat → Value} {Z : Nat → Nat → Int} {w w' : World} (h : MkS base q c i v vs Z w) (hb : Below w.heap.size w w') : MkS base q c i v vs Z w' :=
  ⟨h.own.below hb (Nat.le_refl _), fun j hj => (h.row j hj).below hb (fun k hk => ((h.row j hj).lt k hk).2), h.blw⟩
theorem MkS.push {base q c i : Nat} {v v' u : Value} {vs : Nat → Value} {Z : Nat → Nat → Int} {y : Nat → Int} {w w' : World} (h : MkS base q c i v vs Z w) (hu : OwnI base u (zl c y) w) (hy : Blw q c y) (ho : OwnV base v' (vl i vs ++ [u]) w') (hg : w.grownBy w' v.ownBlock) :
    MkS base q c (i + 1) v' (fun j => if j = i then u else vs j) (fun j => if j = i then y else Z j) w' := by
  refine ⟨?_, fun j hj => ?_, fun j hj => ?_⟩
  · have e : vl (i + 1) (fun j => if j = i then u else vs j) = vl i vs ++ [u] := by
      unfold vl
      rw [List.range_succ, List.map_append]
      congr 1
      · exact List.map_congr_left (fun j hj => by rw [if_neg (by have := List.mem_range.1 hj; omega)])
      · simp
    rw [e]; exact ho
  · by_cases e : j = i
    · simp only [if_pos e]; exact hu.kept hg (hu.apart h.own)
    · simp only [if_neg e]; exact (h.row j (by omega)).kept hg ((h.row j (by omega)).apart h.own)
  · by_cases e : j = i
    · simp only [if_pos e]; exact hy
    · simp only [if_neg e]; exact h.blw j (by omega)
theorem MkS.matZ {base q c i : Nat} {v : Value} {vs : Nat → Value} {Z : Nat → Nat → Int} {w : World} (h : MkS base q c i v vs Z w) (hc : c ≤ 1000000) : ∃ mo mc, v = .slice mo i mc ∧ MatZ mo i (fun j => slA (vs j)) (fun _ => c) (fun j => slC (vs j)) Z w := by
  obtain ⟨mo, mc, hv, _, _, _, hcell⟩ := h.own.open
  rw [vl_len] at hv
  have key : ∀ j, j < i → ∃ so sc, vs j = .slice so c sc ∧ ArgL so c sc (Z j) w := fun j hj => (h.row j hj).argL
  refine ⟨mo, mc, hv, ⟨fun j hj => ?_, fun j hj => ?_, fun j hj => ?_, fun j hj => ?_, fun j hj => ?_, fun j _ => hc⟩⟩
  · obtain ⟨g, e, hc, _⟩ := hcell j (vs j) (vl_get i vs j hj)
    obtain ⟨so, sc, e2, _⟩ := key j hj
    refine ⟨g, 0, e, ?_⟩
    rw [Nat.zero_add, hc, e2]; rfl
  · obtain ⟨so, sc, e2, ha⟩ := key j hj
    simp only [e2, slA]; exact ha.sl
  · obtain ⟨so, sc, e2, ha⟩ := key j hj
    simp only [e2, slC]; exact ha.le
  · obtain ⟨so, sc, e2, ha⟩ := key j hj
    simp only [e2, slC]; exact ha.cap
  · obtain ⟨so, sc, e2, ha⟩ := key j hj
    simp only [e2, slA, slC]; exact ha.nil

end Go.Proofs.Ytpccbiinfdppnad

/- Plain mathematics: the shortest rule of a list (Berlekamp and Massey). -/
namespace Go.Proofs.Ytpccbiinfdppnad

theorem psub_is {D : FD} (F : Fld D) {u v : Nat → Nat} (hv : El D v) : psub D u v = padd D u (pscale D (D.ng 1) v) := by
  funext i
  show D.sb (u i) (v i) = D.ad (u i) (D.mul (D.ng 1) (v i))
  rw [F.mul_comm, mul_ng F (one_lt' F), mul1 F (hv i)]
  rfl
theorem pmul_sub_l {D : FD} (F : Fld D) {a a' b : Nat → Nat} (ha : El D a) (ha' : El D a') (n : Nat) : pmul D n (psub D a a') b = psub D (pmul D n a b) (pmul D n a' b) := by
  rw [psub_is F ha', pmul_add_l F ha (el_scale F _ _), pmul_scale_l F, ← psub_is F (el_mul F _ _ _)]
/-- A product's number where but the last of the other's numbers count. -/
theorem pmul_last {D : FD} (F : Fld D) {a X : Nat → Nat} (hX : El D X) {N : Nat} : ∀ n, (∀ k, 1 ≤ k → k < n + 1 → k ≤ N → X (N - k) = 0) → pmul D (n + 1) a X N = D.mul (a 0) (X N)
  | 0, _ => by
    show D.ad (pnil N) (psh 0 (pscale D (a 0) X) N) = _
    rw [psh_zero]
    exact zero_ad F (F.mul_lt _ _)
  | n + 1, h => by
    show D.ad (pmul D (n + 1) a X N) (psh (n + 1) (pscale D (a (n + 1)) X) N) = _
    rw [pmul_last F hX n (fun k h1 h2 h3 => h k h1 (by omega) h3)]
    have e : psh (n + 1) (pscale D (a (n + 1)) X) N = 0 := by
      unfold psh
      by_cases hn : n + 1 ≤ N
      · rw [if_pos hn]
        show D.mul (a (n + 1)) (X (N - (n + 1))) = 0
        rw [h (n + 1) (by omega) (by omega) hn, mul0 F]
      · rw [if_neg hn]
    rw [e, ad_zero F (F.mul_lt _ _)]
/-- The rule C of length L holds for the first N numbers of s. -/
def Gen (D : FD) (s C : Nat → Nat) (L N : Nat) : Prop := ∀ t, L ≤ t → t < N → pmul D (L + 1) C s t = 0
/-- A rule of length L. -/
structure Rul (D : FD) (C : Nat → Nat) (L : Nat) : Prop where
  el : El D C
  bd : Bd (L + 1) C
  one : C 0 = 1
theorem massey {D : FD} (F : Fld D) {s C C' : Nat → Nat} {L L' N : Nat} (_hs : El D s) (hC : Rul D C L) (hC' : Rul D C' L') (h : Gen D s C L N) (h' : Gen D s C' L' (N + 1)) (hL : L + L' ≤ N) : pmul D (L + 1) C s N = 0 := by
  have e : pmul D (L' + 1) C' (pmul D (L + 1) C s) = pmul D (L + 1) C (pmul D (L' + 1) C' s) := by
    rw [← pmul_assoc F hC.bd (L' + 1) (L' + 1 + (L + 1)) (Nat.le_refl _), ← pmul_assoc F hC'.bd (L + 1) (L' + 1 + (L + 1)) (by omega), pmul_comm F hC'.el hC.el hC'.bd hC.bd]
  have h1 := pmul_last F (a := C') (X := pmul D (L + 1) C s) (N := N) (el_mul F _ _ _) L' (fun k a b c => h (N - k) (by omega) (by omega))
  have h2 := pmul_last F (a := C) (X := pmul D (L' + 1) C' s) (N := N) (el_mul F _ _ _) L (fun k a b c => h' (N - k) (by omega) (by omega))
  rw [e, h2, h' N (by omega) (by omega), mul0 F, hC'.one, omul F (el_mul F _ _ _ N)] at h1
  exact h1.symm

/-- The state when i numbers are seen: the rule, its length; an older rule, what it missed. -/
structure BMS (D : FD) (s : Nat → Nat) (i : Nat) (C : Nat → Nat) (lc L : Nat) (O : Nat → Nat) (lo b : Nat) : Prop where
  rul : Rul D C L
  bdc : Bd lc C
  lcL : lc ≤ L + 1
  lc1 : 1 ≤ lc
  le : L ≤ i
  gen : Gen D s C L i
  min : ∀ C' L', Rul D C' L' → Gen D s C' L' i → L ≤ L'
  elo : El D O
  bdo : Bd lo O
  loL : lo ≤ i + 1 - L
  bq : b < D.q
  b0 : b ≠ 0
  old : L = 0 ∨ (1 ≤ i ∧ (∀ t, i - L ≤ t → t + 1 < i → pmul D lo O s t = 0) ∧ pmul D lo O s (i - 1) = b)
theorem bms_start {D : FD} (F : Fld D) (s : Nat → Nat) : BMS D s 0 pone 1 0 pone 1 1 := by
  have hb : Bd 1 pone := fun k hk => by unfold pone; rw [if_neg (by omega)]
  exact ⟨⟨el_one F, hb, rfl⟩, hb, by omega, by omega, by omega, fun t _ h => by omega, fun _ _ _ _ => by omega, el_one F, hb, by omega, one_lt' F, by omega, Or.inl rfl⟩
theorem gen_less {D : FD} {s C : Nat → Nat} {L N : Nat} (h : Gen D s C L (N + 1)) : Gen D s C L N := fun t h1 h2 => h t h1 (by omega)
theorem sh_prod {D : FD} (F : Fld D) {s O : Nat → Nat} {lo t : Nat} (ht : 1 ≤ t) : pmul D (lo + 1) (psh 1 O) s t = pmul D lo O s (t - 1) := by
  have h := pmul_sh_l F 1 O s lo
  rw [Nat.add_comm lo 1, h]
  unfold psh
  rw [if_pos ht]
theorem sh_bd {O : Nat → Nat} {lo : Nat} (h : Bd lo O) : Bd (lo + 1) (psh 1 O) := fun k hk => by
  unfold psh
  rw [if_pos (by omega)]; exact h _ (by omega)
/-- What the rule misses at number i. -/
theorem bms_skip {D : FD} (F : Fld D) {s C O : Nat → Nat} {i lc L lo b : Nat} (h : BMS D s i C lc L O lo b) (h0 : pmul D lc C s i = 0) : BMS D s (i + 1) C lc L (psh 1 O) (lo + 1) b := by
  have hle := h.le
  have hlo := h.loL
  refine ⟨h.rul, h.bdc, h.lcL, h.lc1, by omega, fun t h1 h2 => ?_, fun C' L' hr hg => h.min C' L' hr (gen_less hg), el_sh F 1 h.elo, sh_bd h.bdo, by omega, h.bq, h.b0, ?_⟩
  · by_cases e : t = i
    · rw [e, pmul_to F s h.bdc h.lcL]; exact h0
    · exact h.gen t h1 (by omega)
  · rcases h.old with h1 | ⟨h1, h2, h3⟩
    · exact Or.inl h1
    · refine Or.inr ⟨by omega, fun t a b => ?_, ?_⟩
      · rw [sh_prod F (by omega)]
        exact h2 (t - 1) (by omega) (by omega)
      · rw [sh_prod F (by omega)]
        exact h3
theorem bms_step {D : FD} (hD : D ∈ fieldsL) {s C O : Nat → Nat} {i lc L lo b x lb : Nat} (hs : El D s) (h : BMS D s i C lc L O lo b) (hx : x = pmul D lc C s i) (h0 : x ≠ 0) (hlb : lb = max lc (lo + 1)) :
    (2 * L ≤ i → BMS D s (i + 1) (psub D C (pscale D (D.mul x (D.iv b)) (psh 1 O))) lb (i + 1 - L) C lc x) ∧ (¬ 2 * L ≤ i → BMS D s (i + 1) (psub D C (pscale D (D.mul x (D.iv b)) (psh 1 O))) lb L (psh 1 O) (lo + 1) b) := by
  have F := fld hD
  have hle := h.le
  have hlo := h.loL
  have hlc := h.lcL
  have hlc1 := h.lc1
  obtain ⟨C', hC'⟩ : ∃ C', C' = psub D C (pscale D (D.mul x (D.iv b)) (psh 1 O)) := ⟨_, rfl⟩
  have hxq : x < D.q := by rw [hx]; exact el_mul F _ _ _ _
  have hel : El D C' := by rw [hC']; exact el_sub F h.rul.el (el_scale F _ _)
  have hb' : Bd lb C' := fun k hk => by
    rw [hC']
    show D.sb (C k) (D.mul _ (psh 1 O k)) = 0
    rw [h.bdc k (by omega), sh_bd h.bdo k (by omega), mul0 F, sb_self F (zero_lt' F)]
  have hone : C' 0 = 1 := by
    rw [hC']
    show D.sb (C 0) (D.mul _ (psh 1 O 0)) = 1
    have e : psh 1 O 0 = 0 := by unfold psh; rw [if_neg (by omega)]
    rw [e, mul0 F, h.rul.one, sb_zero F (one_lt' F)]
  have hmiss : pmul D (L + 1) C s i = x := by rw [hx, pmul_to F s h.bdc hlc]
  -- what the new rule misses
  have hdis : ∀ N t, lb ≤ N → pmul D N C' s t = D.sb (pmul D N C s t) (D.mul (D.mul x (D.iv b)) (pmul D N (psh 1 O) s t)) := fun N t _ => by
    rw [hC', pmul_sub_l F h.rul.el (el_scale F _ _), pmul_scale_l F]; rfl
  have hgen : ∀ NL, L ≤ NL → i + 1 - L ≤ NL → lb ≤ NL + 1 → (L = 0 → i < NL) → Gen D s C' NL (i + 1) := fun NL h1 h2 h3 h4 t ht1 ht2 => by
    rw [hdis (NL + 1) t h3, pmul_to F s h.rul.bd (by omega), pmul_to F s (sh_bd h.bdo) (by omega)]
    rcases h.old with ho | ⟨ho1, ho2, ho3⟩
    · have := h4 ho; omega
    · by_cases e : t = i
      · rw [e, hmiss, sh_prod F (by omega), ho3, F.mul_assoc, F.mul_comm (D.iv b), iv_is hD h.bq h.b0, mul1 F hxq, sb_self F hxq]
      · rw [h.gen t (by omega) (by omega), sh_prod F (by omega), ho2 (t - 1) (by omega) (by omega), mul0 F, sb_zero F (zero_lt' F)]
  have hmin : ∀ C2 L2, Rul D C2 L2 → Gen D s C2 L2 (i + 1) → L ≤ L2 ∧ i + 1 - L ≤ L2 := fun C2 L2 hr hg => by
    refine ⟨h.min C2 L2 hr (gen_less hg), ?_⟩
    rcases Nat.lt_or_ge i (L + L2) with e | e
    · omega
    · exfalso
      have := massey F hs h.rul hr h.gen hg e
      rw [hmiss] at this
      exact h0 this
  rw [← hC']
  constructor
  · intro h2
    refine ⟨⟨hel, fun k hk => hb' k (by omega), hone⟩, hb', by omega, by omega, by omega, hgen _ (by omega) (Nat.le_refl _) (by omega) (fun e => by omega), fun C2 L2 hr hg => (hmin C2 L2 hr hg).2, h.rul.el, h.bdc, by omega, hxq, h0, Or.inr ⟨by omega, fun t a b => ?_, ?_⟩⟩
    · rw [← pmul_to F s h.bdc hlc]
      exact h.gen t (by omega) (by omega)
    · rw [show i + 1 - 1 = i from by omega]; exact hx.symm
  · intro h2
    refine ⟨⟨hel, fun k hk => hb' k (by omega), hone⟩, hb', by omega, by omega, by omega, hgen _ (Nat.le_refl _) (by omega) (by omega) (fun e => by omega), fun C2 L2 hr hg => (hmin C2 L2 hr hg).1, el_sh F 1 h.elo, sh_bd h.bdo, by omega, h.bq, h.b0, ?_⟩
    rcases h.old with ho | ⟨ho1, ho2, ho3⟩
    · omega
    · refine Or.inr ⟨by omega, fun t a b => ?_, ?_⟩
      · rw [sh_prod F (by omega)]
        exact ho2 (t - 1) (by omega) (by omega)
      · rw [sh_prod F (by omega)]
        exact ho3
end Go.Proofs.Ytpccbiinfdppnad

/- The program's rules (reed): trim, missed, less. -/
namespace Go.Proofs.Ytpccbiinfdppnad
open Go.RowKit Go.Sort

set_option maxHeartbeats 2000000 in
set_option maxRecDepth 100000 in
theorem etrim_any {ao : Option Addr} {n cap : Nat} {c : Nat → Nat} {w : World} (h : Sl ao n c w) (hn : n ≤ cap) (hcap : cap ≤ 9223372036854775807) (hn6 : n ≤ 1000000) :
    Calls Try.prog 71 #[.slice ao n cap] w fun e w' => e = .returned (.slice ao (dgn c n) cap) ∧ w' = w := by
  have HS : Hid (Sl ao n c w) := h
  clear h
  go_enter Try.func71, Try.ntmps71
  go_wp2
  go_loopw [0] (fun va wr => ∃ m : Nat, m ≤ n ∧ va = .slice ao m cap ∧ Hid (dgn c n = dgn c m) ∧ wr = w) (fun va _ => match va with | .slice _ m _ => m | _ => 0)
  case atStart => exact ⟨n, Nat.le_refl _, rfl, (show Hid _ from rfl), rfl⟩
  case round =>
    obtain ⟨m, hm, rfl, HD, hw⟩ := hrel
    have hw := hw.symm
    subst hw
    cases m with
    | zero =>
      have HE : Hid (dgn c n = 0) := HD.out
      go_wp2
      go_ret
      exact ⟨by rw [HE.out]; rfl, rfl⟩
    | succ m =>
      obtain ⟨b, off, rfl, hc⟩ := HS.out m (by omega)
      have hm1 : (0 : Int) < ((m + 1 : Nat) : Int) := by omega
      have hm2 : (m : Int) < ((m + 1 : Nat) : Int) := by omega
      have hm3 : (m : Int) ≤ (cap : Int) := by omega
      obtain ⟨x, hx⟩ : ∃ x, x = c m := ⟨_, rfl⟩
      rw [← hx] at hc
      by_cases h0 : x = 0
      · have HE : Hid (dgn c n = dgn c m) := by show _ = _; rw [HD.out, dgn, if_pos (by rw [← hx]; exact h0)]
        have hz : (((x : Nat) : Int) == 0) = true := by rw [h0]; rfl
        clear h0 hx
        go_wp2
        go_roundw
        case rel => exact ⟨m, by omega, by go_num, HE.out, by first | rfl | trivial⟩
        case measure => first | (simp; done) | omega
      · have HE : Hid (dgn c n = m + 1) := by show _ = _; rw [HD.out, dgn, if_neg (by rw [← hx]; exact h0)]
        have hz : (((x : Nat) : Int) == 0) = false := by rw [beq_eq_false_iff_ne]; omega
        clear h0 hx
        go_wp2
        go_ret
        exact ⟨by rw [HE.out]; rfl, rfl⟩

set_option maxHeartbeats 2000000 in
set_option maxRecDepth 100000 in
theorem missed_any {F T : Nat} {D : FD} (hD : D ∈ fieldsL) {g : Nat → Value} {w : World} (hat : FAt F T D g w) {ro so : Option Addr} {lc rc i sc : Nat} {C s : Nat → Nat} (hC : El D C) (hs : El D s) (hR : Sl ro lc C w) (hS : Sl so (i + 1) s w) (hl : lc ≤ i + 1) (hi : i ≤ 1000) :
    Calls Try.prog 67 #[.pointer (some ⟨F, 0, none⟩), .slice ro lc rc, .slice so (i + 1) sc] w fun e w' => e = .returned (.int .i64 (pmul D lc C s i : Nat)) ∧ ∃ k, w' = w.drewN k := by
  have HF : Hid (D ∈ fieldsL ∧ FAt F T D g w ∧ El D C ∧ El D s ∧ Sl ro lc C w ∧ Sl so (i + 1) s w) := ⟨hD, hat, hC, hs, hR, hS⟩
  obtain ⟨n, hn⟩ : ∃ n, n = i + 1 := ⟨_, rfl⟩
  rw [← hn]
  have HN : Hid (n = i + 1) := hn
  have hln : lc ≤ n := by omega
  have hn2 : n ≤ 1001 := by omega
  clear hD hat hC hs hR hS hn hl
  go_enter Try.func67, Try.ntmps67
  go_wp2
  go_loopw [7, 12] (fun vs vi wr => ∃ (r x : Nat), r ≤ lc ∧ vs = .int .i64 (x : Nat) ∧ vi = .int .i64 r ∧ Hid (x = pmul D r C s i) ∧ ∃ k, wr = w.drewN k) (fun _ vi _ => lc - (intOf vi).toNat)
  case atStart => exact ⟨0, 0, by omega, rfl, rfl, (show Hid _ from rfl), 0, rfl⟩
  case round =>
    obtain ⟨r, x, hr, rfl, rfl, HX, k, rfl⟩ := hrel
    by_cases hlt : r < lc
    · have hib : (r : Int) < (lc : Int) := by omega
      obtain ⟨bC, oC, rfl, hcC⟩ := HF.out.2.2.2.2.1 r hlt
      obtain ⟨ir, hir⟩ : ∃ ir, ir = i - r := ⟨_, rfl⟩
      obtain ⟨bS, oS, rfl, hcS⟩ := HF.out.2.2.2.2.2 ir (by omega)
      have hsum : n = ir + r + 1 := by have := HN.out; omega
      have hw1 : IntKind.i64.wrap ((n : Int) - 1) = ((ir + r : Nat) : Int) := wrap_to (by omega) (by omega)
      have hw2 : IntKind.i64.wrap (((ir + r : Nat) : Int) - (r : Int)) = (ir : Int) := wrap_to (by omega) (by omega)
      have hw3 : (n : Int) - 1 - (r : Int) = (ir : Int) := by omega
      have hib2 : (ir : Int) < (n : Int) := by omega
      have hib3 : (0 : Int) ≤ (ir : Int) := by omega
      obtain ⟨cx, hcx⟩ : ∃ cx, cx = C r := ⟨_, rfl⟩
      obtain ⟨sx, hsx⟩ : ∃ sx, sx = s ir := ⟨_, rfl⟩
      rw [← hcx] at hcC
      rw [← hsx] at hcS
      obtain ⟨y, hy⟩ : ∃ y, y = D.mul cx sx := ⟨_, rfl⟩
      obtain ⟨u, hu⟩ : ∃ u, u = D.ad x y := ⟨_, rfl⟩
      have F' := fld HF.out.1
      have HC1 : Hid (∀ d, Calls Try.prog 69 #[.pointer (some ⟨F, 0, none⟩), .int .i64 (cx : Nat), .int .i64 (sx : Nat)] (w.drewN d) fun e w' => e = .returned (.int .i64 (y : Nat)) ∧ ∃ k, w' = w.drewN k) := fun d => by
        rw [hy]
        refine (mul_nat HF.out.1 (HF.out.2.1.drewN d) (by rw [hcx]; exact HF.out.2.2.1 r) (by rw [hsx]; exact HF.out.2.2.2.1 ir)).mono ?_
        rintro e w' ⟨rfl, k, rfl⟩
        exact ⟨rfl, d + k, by rw [World.drewN_drewN]⟩
      have HC2 : Hid (∀ d, Calls Try.prog 94 #[.pointer (some ⟨F, 0, none⟩), .int .i64 (x : Nat), .int .i64 (y : Nat)] (w.drewN d) fun e w' => e = .returned (.int .i64 (u : Nat)) ∧ ∃ k, w' = w.drewN k) := fun d => by
        rw [hu]
        refine (add_nat HF.out.1 (HF.out.2.1.drewN d) (by rw [HX.out]; exact el_mul F' _ _ _ _) (by rw [hy]; exact F'.mul_lt _ _)).mono ?_
        rintro e w' ⟨rfl, k, rfl⟩
        exact ⟨rfl, d + k, by rw [World.drewN_drewN]⟩
      have HV : Hid (u = pmul D (r + 1) C s i) := by
        show u = D.ad (pmul D r C s i) (psh r (pscale D (C r) s) i)
        have hri : r ≤ i := by have := HN.out; omega
        rw [hu, hy, HX.out, hcx, hsx, hir]
        unfold psh
        rw [if_pos hri]; rfl
      clear hcx hsx hy hu F' hir hsum
      go_wp2_with fail
      refine (HC1.out _).mono ?_
      rintro e w1 ⟨rfl, k1, rfl⟩
      go_wp2_with fail
      refine (HC2.out _).mono ?_
      rintro e w2 ⟨rfl, k2, rfl⟩
      go_wp2
      go_roundw
      case rel => exact ⟨r + 1, u, by omega, rfl, by go_num, HV.out, _, rfl⟩
      case measure => simp [intOf]; omega
    · have hib : ¬ (r : Int) < (lc : Int) := by omega
      have hre : lc = r := by omega
      subst hre
      go_wp2
      go_ret
      exact ⟨by rw [HX.out]; rfl, _, rfl⟩

set_option maxHeartbeats 4000000 in
set_option maxRecDepth 100000 in
theorem eless_any {F T : Nat} {D : FD} (hD : D ∈ fieldsL) {g : Nat → Value} {w : World} (hat : FAt F T D g w) {ao bo : Option Addr} {n m ca cb t : Nat} {a b : Nat → Nat} (hn : n ≤ 1000) (hm : m ≤ 1000) (ha : El D a) (hb : El D b) (hbn : Bd n a) (hbm : Bd m b) (hA : Sl ao n a w) (hB : Sl bo m b w) (hla : LtB ao w.heap.size) (hlb : LtB bo w.heap.size) (ht : t < D.q) :
    Calls Try.prog 68 #[.pointer (some ⟨F, 0, none⟩), .slice ao n ca, .int .i64 (t : Nat), .slice bo m cb] w fun e w' =>
      e = .returned (.slice (some ⟨w.heap.size, 0, none⟩) (max n m) (max n m)) ∧ Row w.heap.size (max n m) (psub D a (pscale D t b)) w' ∧ Below w.heap.size w w' := by
  have HF : Hid (FAt F T D g w ∧ D ∈ fieldsL ∧ Sl ao n a w ∧ Sl bo m b w ∧ El D a ∧ El D b ∧ Bd n a ∧ Bd m b ∧ LtB ao w.heap.size ∧ LtB bo w.heap.size) := ⟨hat, hD, hA, hB, ha, hb, hbn, hbm, hla, hlb⟩
  clear hat hD hA hB ha hb hbn hbm hla hlb
  obtain ⟨N, hN⟩ : ∃ N, N = max n m := ⟨_, rfl⟩
  rw [← hN]
  have hN2 : N ≤ 1000 := by omega
  have hnN : n ≤ N := by omega
  have hmN : m ≤ N := by omega
  have hmax : (if (n : Int) < (m : Int) then (m : Int) else (n : Int)) = (N : Int) := by split <;> omega
  have HN : Hid (N = max n m) := hN
  clear hN
  go_enter Try.func68, Try.ntmps68
  go_wp2_with (first
    | (at_make; refine make_int rfl _ _ rfl _ N rfl rfl (by have := HN.out; omega) (by omega) ?_; intro w1 hown1 hgrow1)
    | (show wpList _ _ _ (Oper.mk (some 20) _ _ _ _ _ :: _) _ _; (refine copy_int rfl _ _ rfl w.heap.size N N n ca ao rfl rfl pnil a (row_zeros hown1) (HF.out.2.2.1.below (below_grown hgrow1 (Nat.le_refl _) (fun k hk => by simp at hk)) HF.out.2.2.2.2.2.2.2.2.1) hnN w.heap.size w (below_grown hgrow1 (Nat.le_refl _) (fun k hk => by simp at hk)) (Nat.le_refl _) ?_); intro w2 hrow2 hb2))
  all_goals
    have HB1 : Hid (Below w.heap.size w w2 ∧ Row w.heap.size N a w2) := ⟨hb2, hrow2.congr (fun k _ => by show (if k < n then a k else pnil k) = a k; split; rfl; exact (HF.out.2.2.2.2.2.2.1 k (by omega)).symm)⟩
    clear hown1 hgrow1 hb2 hrow2
    obtain ⟨gr, hg⟩ : ∃ g, g = w.heap.size := ⟨_, rfl⟩
    have HB2 : Hid (Below w.heap.size w w2 ∧ Row gr N a w2 ∧ gr = w.heap.size) := by rw [hg]; exact ⟨HB1.out.1, HB1.out.2, rfl⟩
    rw [← hg]
    have hgD : w.heap.size ≤ gr := by omega
    clear HB1 hg
    go_loopw [23] (fun i wr => ∃ r : Nat, r ≤ m ∧ i = .int .i64 r ∧ Hid (Row gr N (fun k => if k < r then D.sb (a k) (D.mul t (b k)) else a k) wr ∧ Below w.heap.size w wr)) (fun i _ => m - (intOf i).toNat)
    case atStart => exact ⟨0, by omega, rfl, HB2.out.2.1.congr (fun k _ => by rw [if_neg (by omega)]), HB2.out.1⟩
    case round =>
      obtain ⟨r, hr, rfl, HG⟩ := hrel
      rename World => wr
      by_cases hlt : r < m
      · obtain ⟨bb, offb, rfl, hcb⟩ := (HF.out.2.2.2.1.below HG.out.2 HF.out.2.2.2.2.2.2.2.2.2) r hlt
        have hco : wr.cell? ⟨gr, r, none⟩ = some (.int .i64 (a r : Nat)) := by
          have h := HG.out.1.cell r (by omega)
          rw [if_neg (by omega)] at h; exact h
        have hfo := HG.out.1.free r
        obtain ⟨ax, hax⟩ : ∃ ax, ax = a r := ⟨_, rfl⟩
        obtain ⟨bx, hbx⟩ : ∃ bx, bx = b r := ⟨_, rfl⟩
        rw [← hax] at hco
        rw [← hbx] at hcb
        obtain ⟨y, hy⟩ : ∃ y, y = D.mul t bx := ⟨_, rfl⟩
        obtain ⟨u, hu⟩ : ∃ u, u = D.sb ax y := ⟨_, rfl⟩
        have F' := fld HF.out.2.1
        have hatr := HF.out.1.below HG.out.2 HF.out.1.ltF HF.out.1.ltT
        have HC1 : Hid (∀ d, Calls Try.prog 69 #[.pointer (some ⟨F, 0, none⟩), .int .i64 (t : Nat), .int .i64 (bx : Nat)] (wr.drewN d) fun e w' => e = .returned (.int .i64 (y : Nat)) ∧ ∃ k, w' = (wr.drewN d).drewN k) := fun d => by
          rw [hy]; exact mul_nat HF.out.2.1 (hatr.drewN d) ht (by rw [hbx]; exact HF.out.2.2.2.2.2.1 r)
        have HC2 : Hid (∀ d, Calls Try.prog 95 #[.pointer (some ⟨F, 0, none⟩), .int .i64 (ax : Nat), .int .i64 (y : Nat)] (wr.drewN d) fun e w' => e = .returned (.int .i64 (u : Nat)) ∧ ∃ k, w' = (wr.drewN d).drewN k) := fun d => by
          rw [hu]; exact sub_nat HF.out.2.1 (hatr.drewN d) (by rw [hax]; exact HF.out.2.2.2.2.1 r) (by rw [hy]; exact F'.mul_lt _ _)
        have HV : Hid (∀ k, k < N → (if k < r + 1 then D.sb (a k) (D.mul t (b k)) else a k) = if k = r then u else if k < r then D.sb (a k) (D.mul t (b k)) else a k) := fun k _ => by
          rw [hu, hy, hax, hbx]
          by_cases e : k = r
          · rw [if_pos e, if_pos (by omega), e]
          · rw [if_neg e]
            by_cases e2 : k < r
            · rw [if_pos e2, if_pos (by omega)]
            · rw [if_neg e2, if_neg (by omega)]
        have hib : (r : Int) < (N : Int) := by omega
        have hib2 : (r : Int) < (m : Int) := by omega
        clear hax hbx hy hu F' hatr
        go_wp2
        refine quiet_tail 13 (by kernel_rfl) (by kernel_rfl) ?_
        simp only [List.take_succ_cons, List.take_zero, List.drop_succ_cons, List.drop_zero]
        repeat (go_big_quiet_step (first | (go_at_call 69; exact Calls.quiet_of (HC1.out _)) | (go_at_call 95; exact Calls.quiet_of (HC2.out _)) | fail))
        refine wpQuiet_nil ?_
        intro _ hw'
        obtain ⟨nq, hw''⟩ := hw'
        subst hw''
        go_wp2
        go_roundw
        case rel => exact ⟨r + 1, by omega, by go_num, (HG.out.1.drewN nq).store r u HV.out, (below_drewN2 HG.out.2 nq).setCell hgD _⟩
        case measure => simp [intOf]; omega
      · have hib2 : ¬ (r : Int) < (m : Int) := by omega
        have HE : Hid (Row gr N (psub D a (pscale D t b)) wr) := HG.out.1.congr (fun k _ => by
          show (if k < r then D.sb (a k) (D.mul t (b k)) else a k) = D.sb (a k) (D.mul t (b k))
          split
          · rfl
          · rw [HF.out.2.2.2.2.2.2.2.1 k (by omega), mul0 (fld HF.out.2.1), sb_zero (fld HF.out.2.1) (HF.out.2.2.2.2.1 k)])
        go_wp2
        go_ret
        refine ⟨by rw [← HB2.out.2.2]; rfl, ?_, HG.out.2⟩
        rw [← HB2.out.2.2]; exact HE.out
end Go.Proofs.Ytpccbiinfdppnad
