/- Texts of ours, one behind the other: Y3 S9. -/
import Derived.Test.YtnjbnamcedfjaaaZY2
import Derived.Test.YtnjbnamcedfjaaaZX19
import Derived.Test.YtnjbnamcedfjaaaZS8
import Derived.Test.YtnjbnamcedfjaaaZX1
/- The program's Massey; lists that are far too long. -/
namespace Go.Proofs.Ytnjbnamcedfjaaa
open Go.RowKit Go.Sort

set_option maxHeartbeats 2000000 in
set_option maxRecDepth 100000 in
theorem check_far {D : FD} (hD : D ∈ fieldsL) {ao : Option Addr} {n cap : Nat} {w : World} (h1 : 128 < n) (h2 : n ≤ 17592186044416) :
    Calls Try.prog 64 #[.int .i64 D.q, .slice ao n cap] w fun e w' => e = .returned (.int .i64 4) ∧ Below w.heap.size w w' := by
  have HD : Hid (D ∈ fieldsL) := hD
  have hb : (128 : Int) < (n : Int) := by omega
  clear hD
  go_enter Try.func64, Try.ntmps64
  go_wp2_with fail
  refine (new_any HD.out w).mono ?_
  rintro e w1 ⟨F, T, g, rfl, hat, hF, hT, hb1⟩
  have HA : Hid (Below w.heap.size w w1) := hb1
  clear hat hF hT hb1
  go_wp2
  go_ret
  exact ⟨rfl, HA.out⟩
set_option maxHeartbeats 2000000 in
set_option maxRecDepth 100000 in
theorem polyMay_far {D : FD} (hD : D ∈ fieldsL) {ao : Option Addr} {n cap : Nat} {w : World} (h1 : 128 < n) (h2 : n ≤ 17592186044416) :
    Calls Try.prog 21 #[.int .i64 D.q, .slice ao n cap] w fun e w' => e = .returned (.int .i64 4) ∧ Below w.heap.size w w' := by
  have HD : Hid (D ∈ fieldsL) := hD
  have hb : (128 : Int) < (n : Int) := by omega
  clear hD
  go_enter Try.func21, Try.ntmps21
  go_wp2_with fail
  refine (rfield_any HD.out w).mono ?_
  rintro e w1 ⟨vm, rfl, hown, _, hb1⟩
  have hm6 := (fld HD.out).m6
  obtain ⟨gm, cm, fm, hvm, hgm⟩ := hown.row (D.m + 1) modL_len' (by omega)
  subst hvm
  clear hown hgm
  have HA : Hid (Below w.heap.size w w1) := hb1
  clear hb1
  unfold rf
  go_wp2
  go_ret
  exact ⟨rfl, by first | exact HA.out | exact HA.out.alloc HA.out.size _⟩
set_option maxHeartbeats 2000000 in
set_option maxRecDepth 100000 in
theorem massey_err (q e : Int) (he : e ≠ 0) {yo : Option Addr} {my cy : Nat} {w : World} (h : Calls Try.prog 64 #[.int .i64 q, .slice yo my cy] w fun x w' => x = .returned (.int .i64 e) ∧ Below w.heap.size w w') :
    Calls Try.prog 27 #[.int .i64 q, .slice yo my cy] w fun x w' => x = .returned (.tuple #[.slice none 0 0, .int .i64 0, .int .i64 e]) ∧ Below w.heap.size w w' := by
  have HC : Hid (Calls Try.prog 64 #[.int .i64 q, .slice yo my cy] w fun x w' => x = .returned (.int .i64 e) ∧ Below w.heap.size w w') := h
  have hz : (e != 0) = true := by rw [bne_iff_ne]; exact he
  clear h he
  go_enter Try.func27, Try.ntmps27
  go_wp2_with fail
  refine HC.out.mono ?_
  rintro x w1 ⟨rfl, hb1⟩
  have H1 : Hid (Below w.heap.size w w1) := hb1
  clear hb1
  go_wp2
  go_ret3
  exact ⟨rfl, H1.out⟩
set_option maxHeartbeats 2000000 in
set_option maxRecDepth 100000 in
theorem massey_any {D : FD} (hD : D ∈ fieldsL) {so : Option Addr} {n sc : Nat} {z : Nat → Int} {w : World} (hs : Arg so n sc z w) (h0 : D.chk n z = 0) :
    Calls Try.prog 27 #[.int .i64 D.q, .slice so n sc] w fun e w' => Below w.heap.size w w' ∧ ∃ ro rc C lc L O lo b, e = .returned (.tuple #[.slice ro (dgn C lc) rc, .int .i64 (L : Nat), .int .i64 0]) ∧ BMS D (zc n z) n C lc L O lo b ∧ Arg ro lc rc (fun j => ((C j : Nat) : Int)) w' := by
  obtain ⟨s, hs0⟩ : ∃ s, s = zc n z := ⟨_, rfl⟩
  rw [← hs0]
  have HH : Hid (D ∈ fieldsL ∧ Arg so n sc z w ∧ El D s ∧ Sl so n s w) := ⟨hD, hs, by rw [hs0]; exact zc_el (fld hD) h0, by rw [hs0]; exact zc_sl h0 hs.sl⟩
  have HCk : Hid (Calls Try.prog 64 #[.int .i64 D.q, .slice so n sc] w fun e w' => e = .returned (.int .i64 0) ∧ Below w.heap.size w w') := by
    show Calls _ _ _ _ _
    have h := check_any (cap := sc) hD hs.sl hs.lt hs.few
    rw [h0] at h; exact h
  have hn := (chk_zero h0).1
  have hle := hs.le
  have hcap := hs.cap
  clear hD hs h0 hs0
  go_enter Try.func27, Try.ntmps27
  go_wp2_with fail
  refine HCk.out.mono ?_
  rintro e w1 ⟨rfl, hb1⟩
  have H1 : Hid (Below w.heap.size w w1) := hb1
  clear hb1
  go_wp2_with fail
  refine (new_any HH.out.1 w1).mono ?_
  rintro e w2 ⟨F, T, g, rfl, hat, hF, hT, hb2⟩
  have H2 : Hid (Below w.heap.size w w2 ∧ FAt F T D g w2) := ⟨bel_up' H1.out hb2, hat⟩
  clear hat hF hT hb2
  go_wp2_with fail
  refine (shortest_any HH.out.1 H2.out.2 HH.out.2.2.1 (HH.out.2.2.2.below H2.out.1 HH.out.2.1.lt) hn hle hcap (HH.out.2.1.lt.mono H2.out.1.size)).mono ?_
  rintro e w3 ⟨hb3, ro, rc, C, lc, L, O, lo, b, rfl, hB, hA⟩
  have H3 : Hid (Below w.heap.size w w3 ∧ BMS D s n C lc L O lo b ∧ Arg ro lc rc (fun j => ((C j : Nat) : Int)) w3) := ⟨bel_up' H2.out.1 hb3, hB, hA⟩
  clear hb3 hB hA
  go_wp2
  go_ret3
  exact ⟨H3.out.1, ro, rc, C, lc, L, O, lo, b, rfl, H3.out.2.1, H3.out.2.2⟩
end Go.Proofs.Ytnjbnamcedfjaaa

/- Equations that can be met, and the rules of shorter length. -/
namespace Go.Proofs.Ytnjbnamcedfjaaa
open Go.RowKit Go.Sort

/-- The sum of the products, place by place. -/
def dt (D : FD) (u v : Nat → Nat) : Nat → Nat
  | 0 => 0
  | n + 1 => D.ad (dt D u v n) (D.mul (u n) (v n))
theorem dt_lt {D : FD} (F : Fld D) (u v : Nat → Nat) : ∀ n, dt D u v n < D.q
  | 0 => zero_lt' F
  | n + 1 => ad_lt F (dt_lt F u v n) (F.mul_lt _ _)
theorem dt_nil {D : FD} (F : Fld D) (v : Nat → Nat) : ∀ n, dt D pnil v n = 0
  | 0 => rfl
  | n + 1 => by
    show D.ad (dt D pnil v n) (D.mul 0 (v n)) = 0
    rw [dt_nil F v n, zmul F, ad_zero F (zero_lt' F)]
theorem dt_add {D : FD} (F : Fld D) {u u' : Nat → Nat} (v : Nat → Nat) (hu : El D u) (hu' : El D u') : ∀ n, dt D (padd D u u') v n = D.ad (dt D u v n) (dt D u' v n)
  | 0 => (ad_zero F (zero_lt' F)).symm
  | n + 1 => by
    show D.ad (dt D (padd D u u') v n) (D.mul (D.ad (u n) (u' n)) (v n)) = _
    rw [dt_add F v hu hu' n, ad_mul F (hu n) (hu' n), ad4 F (dt_lt F _ _ _) (dt_lt F _ _ _) (F.mul_lt _ _) (F.mul_lt _ _)]
    rfl
theorem dt_scale {D : FD} (F : Fld D) (s : Nat) (u v : Nat → Nat) : ∀ n, dt D (pscale D s u) v n = D.mul s (dt D u v n)
  | 0 => (mul0 F s).symm
  | n + 1 => by
    show D.ad (dt D (pscale D s u) v n) (D.mul (D.mul s (u n)) (v n)) = D.mul s (D.ad (dt D u v n) (D.mul (u n) (v n)))
    rw [dt_scale F s u v n, F.mul_assoc, mul_ad F (dt_lt F _ _ _) (F.mul_lt _ _)]
theorem dt_same {D : FD} {u v v' : Nat → Nat} : ∀ n, (∀ j, j < n → v j = v' j) → dt D u v n = dt D u v' n
  | 0, _ => rfl
  | n + 1, h => by
    show D.ad (dt D u v n) (D.mul (u n) (v n)) = D.ad (dt D u v' n) (D.mul (u n) (v' n))
    rw [dt_same n (fun j hj => h j (by omega)), h n (by omega)]
theorem dt_put {D : FD} (F : Fld D) {u v : Nat → Nat} {a c : Nat} (hv : v a = 0) : ∀ n, a < n → dt D u (fun j => if j = a then c else v j) n = D.ad (dt D u v n) (D.mul (u a) c)
  | 0, h => absurd h (by omega)
  | n + 1, h => by
    show D.ad (dt D u (fun j => if j = a then c else v j) n) (D.mul (u n) (if n = a then c else v n)) = D.ad (D.ad (dt D u v n) (D.mul (u n) (v n))) (D.mul (u a) c)
    by_cases e : n = a
    · subst e
      rw [if_pos rfl, hv, mul0 F, ad_zero F (dt_lt F _ _ _), dt_same n (v' := v) (fun j hj => if_neg (by omega))]
    · rw [if_neg e, dt_put F hv n (by omega), ad_assoc F (dt_lt F _ _ _) (F.mul_lt _ _) (F.mul_lt _ _), ad_assoc F (dt_lt F _ _ _) (F.mul_lt _ _) (F.mul_lt _ _), ad_comm F (D.mul (u a) c)]
theorem slx_none {R : Nat → Nat → Nat} {p : Nat → Nat} {n j : Nat} : ∀ r, (∀ i, i < r → p i ≠ j) → slx R p n r j = 0
  | 0, _ => rfl
  | r + 1, h => by
    show (if j = p r then R r n else slx R p n r j) = 0
    rw [if_neg (fun e => h r (by omega) e.symm), slx_none r (fun i hi => h i (by omega))]
theorem slx_el {D : FD} (F : Fld D) {R : Nat → Nat → Nat} {p : Nat → Nat} {n : Nat} : ∀ r, (∀ i, i < r → El D (R i)) → El D (slx R p n r)
  | 0, _ => fun _ => zero_lt' F
  | r + 1, h => fun j => by
    show (if j = p r then R r n else slx R p n r j) < D.q
    split
    · exact h r (by omega) n
    · exact slx_el F r (fun i hi => h i (by omega)) j
theorem dt_slx {D : FD} (F : Fld D) {n k : Nat} {R : Nat → Nat → Nat} {p : Nat → Nat} (h : RRE D (n + 1) k R p) (hp : ∀ i, i < k → p i ≠ n) (i : Nat) (hi : i < k) : ∀ r, r ≤ k → dt D (R i) (slx R p n r) n = if i < r then R i n else 0
  | 0, _ => by
    rw [if_neg (by omega)]
    have e : ∀ n, dt D (R i) (slx R p n 0) n = 0 := fun n => by
      have : ∀ m, dt D (R i) (slx R p n 0) m = 0 := fun m => by
        induction m with
        | zero => rfl
        | succ m ih =>
          show D.ad (dt D (R i) (slx R p n 0) m) (D.mul (R i m) 0) = 0
          rw [ih, mul0 F, ad_zero F (zero_lt' F)]
      exact this n
    exact e n
  | r + 1, hr => by
    have hpr : p r < n := by have := h.lt r (by omega); have := hp r (by omega); omega
    have e := dt_put F (u := R i) (v := slx R p n r) (a := p r) (c := R r n) (slx_none r (fun j hj => by have := h.mono j r hj (by omega); omega)) n hpr
    have e2 : slx R p n (r + 1) = fun j => if j = p r then R r n else slx R p n r j := rfl
    rw [e2, e, dt_slx F h hp i hi r (by omega)]
    by_cases e3 : i = r
    · subst e3
      rw [if_neg (by omega), if_pos (by omega), h.one i hi, omul F (h.el i hi n), zero_ad F (h.el i hi n)]
    · rw [h.zero i r hi (by omega) e3, zmul F]
      by_cases e4 : i < r
      · rw [if_pos e4, if_pos (by omega), ad_zero F (h.el i hi n)]
      · rw [if_neg e4, if_neg (by omega), ad_zero F (zero_lt' F)]
/-- What the reduced equations say is a solution. -/
theorem slx_solves {D : FD} (F : Fld D) {m n k : Nat} {R M : Nat → Nat → Nat} {p b : Nat → Nat} (h : RRE D (n + 1) k R p) (hp : ∀ i, i < k → p i ≠ n) (hel : ∀ i, i < m → El D (M i)) (hb : ∀ i, i < m → b i < D.q) (hs : ∀ v, Spn D (RowsOf k R) v ↔ Spn D (RowsOf m (aug n M b)) v) (i : Nat) (hi : i < m) : dt D (M i) (slx R p n k) n = b i := by
  have h1 : Spn D (RowsOf k R) (aug n M b i) := (hs _).2 (spn_mem F (aug_el (hel i hi) (hb i hi)) ⟨i, hi, rfl⟩)
  have h2 : El D (aug n M b i) ∧ dt D (aug n M b i) (slx R p n k) n = aug n M b i n := by
    refine spn_ind (Q := fun v => El D v ∧ dt D v (slx R p n k) n = v n) ⟨el_nil F, dt_nil F _ _⟩ ?_ ?_ ?_ h1
    · rintro u v ⟨a1, a2⟩ ⟨b1, b2⟩
      refine ⟨el_add F a1 b1, ?_⟩
      rw [dt_add F _ a1 b1, a2, b2]; rfl
    · rintro s v ⟨a1, a2⟩
      refine ⟨el_scale F _ _, ?_⟩
      rw [dt_scale F, a2]; rfl
    · rintro v ⟨j, hj, rfl⟩
      refine ⟨h.el j hj, ?_⟩
      rw [dt_slx F h hp j hj k (Nat.le_refl _), if_pos hj]
  have h3 := h2.2
  have e1 : ∀ r, r ≤ n → dt D (aug n M b i) (slx R p n k) r = dt D (M i) (slx R p n k) r := fun r => by
    induction r with
    | zero => intro _; rfl
    | succ r ih =>
      intro hr
      show D.ad (dt D (aug n M b i) (slx R p n k) r) (D.mul (aug n M b i r) _) = D.ad (dt D (M i) (slx R p n k) r) (D.mul (M i r) _)
      rw [ih (by omega)]
      have : aug n M b i r = M i r := if_neg (by omega)
      rw [this]
  rw [e1 n (Nat.le_refl _)] at h3
  rw [h3]
  exact if_pos rfl
/-- A rule from its numbers behind the first one. -/
def rulx (n : Nat) (x : Nat → Nat) : Nat → Nat := fun j => if j = 0 then 1 else if j ≤ n then x (j - 1) else 0
theorem rulx_rul {D : FD} (F : Fld D) (n : Nat) {x : Nat → Nat} (hx : El D x) : Rul D (rulx n x) n := by
  refine ⟨fun j => ?_, fun j hj => ?_, rfl⟩
  · unfold rulx
    split
    · exact one_lt' F
    · split
      · exact hx _
      · exact zero_lt' F
  · unfold rulx
    rw [if_neg (by omega), if_neg (by omega)]
theorem rulx_mul {D : FD} (F : Fld D) {n t : Nat} {x s : Nat → Nat} (hs : El D s) (ht : n ≤ t) : ∀ r, r ≤ n → pmul D (r + 1) (rulx n x) s t = D.ad (s t) (dt D (fun j => s (t - 1 - j)) x r)
  | 0, _ => by
    show D.ad 0 (psh 0 (pscale D 1 s) t) = D.ad (s t) 0
    unfold psh pscale
    rw [if_pos (by omega), Nat.sub_zero, omul F (hs t), zero_ad F (hs t), ad_zero F (hs t)]
  | r + 1, hr => by
    show D.ad (pmul D (r + 1) (rulx n x) s t) (psh (r + 1) (pscale D (rulx n x (r + 1)) s) t) = D.ad (s t) (D.ad (dt D (fun j => s (t - 1 - j)) x r) (D.mul (s (t - 1 - r)) (x r)))
    rw [rulx_mul F hs ht r (by omega), ad_assoc F (hs t) (dt_lt F _ _ _) (by unfold psh pscale; split; exact F.mul_lt _ _; exact zero_lt' F)]
    congr 1
    congr 1
    unfold psh pscale rulx
    rw [if_pos (by omega), if_neg (by omega), if_pos (by omega), F.mul_comm, Nat.add_sub_cancel, show t - (r + 1) = t - 1 - r from by omega]
/-- The equations of the rules of length n have no solution, if each rule is longer. -/
theorem short_no {D : FD} (F : Fld D) {N n L k : Nat} {s : Nat → Nat} {R : Nat → Nat → Nat} {p : Nat → Nat} (hs : El D s) (hmin : ∀ C' L', Rul D C' L' → Gen D s C' L' N → L ≤ L') (hn : n < L) (h : RRE D (n + 1) k R p)
    (hsp : ∀ v, Spn D (RowsOf k R) v ↔ Spn D (RowsOf (N - n) (aug n (fun i => cutN n fun j => s (n + i - 1 - j)) fun i => D.ng (s (n + i)))) v) : ¬ ∀ i, i < k → p i ≠ n := fun hp => by
  have hx : El D (slx R p n k) := slx_el F k h.el
  have h1 := hmin _ n (rulx_rul F n hx) (fun t h1 h2 => by
    rw [rulx_mul F hs h1 n (Nat.le_refl _)]
    have h3 := slx_solves F h hp (fun i _ => fun j => by unfold cutN; split; exact hs _; exact zero_lt' F) (fun i _ => ng_lt F (hs _)) hsp (t - n) (by omega)
    have h4 : ∀ r, r ≤ n → dt D (fun j => s (t - 1 - j)) (slx R p n k) r = dt D (cutN n fun j => s (n + (t - n) - 1 - j)) (slx R p n k) r := fun r => by
      induction r with
      | zero => intro _; rfl
      | succ r ih =>
        intro hr
        show D.ad (dt D (fun j => s (t - 1 - j)) (slx R p n k) r) (D.mul (s (t - 1 - r)) _) = D.ad (dt D (cutN n fun j => s (n + (t - n) - 1 - j)) (slx R p n k) r) (D.mul (cutN n (fun j => s (n + (t - n) - 1 - j)) r) _)
        rw [ih (by omega)]
        have e5 : cutN n (fun j => s (n + (t - n) - 1 - j)) r = s (t - 1 - r) := by
          unfold cutN
          rw [if_pos (by omega)]
          show s (n + (t - n) - 1 - r) = _
          rw [show n + (t - n) - 1 - r = t - 1 - r from by omega]
        rw [e5]
    rw [h4 n (Nat.le_refl _), h3, show n + (t - n) = t from by omega]
    exact ad_ng F (hs t))
  omega
/-- A rule of length 0 holds for noughts alone. -/
theorem short_zero {D : FD} (F : Fld D) {N L : Nat} {s : Nat → Nat} (hmin : ∀ C' L', Rul D C' L' → Gen D s C' L' N → L ≤ L') (hL : 0 < L) : ∃ i, i < N ∧ s i ≠ 0 := by
  by_cases h : ∃ i, i < N ∧ s i ≠ 0
  · exact h
  · have h1 := hmin pone 0 ⟨el_one F, fun k hk => by unfold pone; rw [if_neg (by omega)], rfl⟩ (fun t _ h2 => by
      have e : s t = 0 := by
        by_cases e : s t = 0
        · exact e
        · exact absurd ⟨t, h2, e⟩ h
      show D.ad 0 (psh 0 (pscale D 1 s) t) = 0
      unfold psh pscale
      rw [if_pos (by omega), Nat.sub_zero, e, mul0 F, ad_zero F (zero_lt' F)])
    omega
end Go.Proofs.Ytnjbnamcedfjaaa
