/- Texts of ours, one behind the other: Y3 S9 S10. -/
import Derived.Test.YtcgmllamiaflcaaZY2
import Derived.Test.YtcgmllamiaflcaaZW9
import Derived.Test.YtcgmllamiaflcaaZS8
/- The program's Massey; lists that are far too long. -/
namespace Go.Proofs.Ytcgmllamiaflcaa
open Go.RowKit Go.Sort

set_option maxHeartbeats 2000000 in
set_option maxRecDepth 100000 in
theorem massey_any {D : FD} (hD : D ∈ fieldsL) {so : Option Addr} {n sc : Nat} {z : Nat → Int} {w : World} (hs : Arg so n sc z w) (h0 : D.chk n z = 0) :
    Calls Try.prog 21 #[.int .i64 D.q, .slice so n sc] w fun e w' => Below w.heap.size w w' ∧ ∃ ro rc C lc L O lo b, e = .returned (.tuple #[.slice ro (dgn C lc) rc, .int .i64 (L : Nat), .int .i64 0]) ∧ BMS D (zc n z) n C lc L O lo b ∧ Arg ro lc rc (fun j => ((C j : Nat) : Int)) w' := by
  obtain ⟨s, hs0⟩ : ∃ s, s = zc n z := ⟨_, rfl⟩
  rw [← hs0]
  have HH : Hid (D ∈ fieldsL ∧ Arg so n sc z w ∧ El D s ∧ Sl so n s w) := ⟨hD, hs, by rw [hs0]; exact zc_el (fld hD) h0, by rw [hs0]; exact zc_sl h0 hs.sl⟩
  have HCk : Hid (Calls Try.prog 30 #[.int .i64 D.q, .slice so n sc] w fun e w' => e = .returned (.int .i64 0) ∧ Below w.heap.size w w') := by
    show Calls _ _ _ _ _
    have h := check_any (cap := sc) hD hs.sl hs.lt hs.few
    rw [h0] at h; exact h
  have hn := (chk_zero h0).1
  have hle := hs.le
  have hcap := hs.cap
  clear hD hs h0 hs0
  go_enter Try.func21, Try.ntmps21
  go_wp2_with fail
  refine HCk.out.mono ?_
  rintro e w1 ⟨rfl, hb1⟩
  have H1 : Hid (Below w.heap.size w w1) := hb1
  clear hb1
  go_wp2_with fail
  refine (new_any HH.out.1 w1).mono ?_
  rintro e w2 ⟨F, T, g, rfl, hat, hF, hT, hb2⟩
  have H2 : Hid (Below w.heap.size w w2 ∧ FAt F T D g w2) := ⟨bel_up' H1.out hb2, hat⟩
  clear hat hF hT hb2
  go_wp2_with fail
  refine (shortest_any HH.out.1 H2.out.2 HH.out.2.2.1 (HH.out.2.2.2.below H2.out.1 HH.out.2.1.lt) hn hle hcap (HH.out.2.1.lt.mono H2.out.1.size)).mono ?_
  rintro e w3 ⟨hb3, ro, rc, C, lc, L, O, lo, b, rfl, hB, hA⟩
  have H3 : Hid (Below w.heap.size w w3 ∧ BMS D s n C lc L O lo b ∧ Arg ro lc rc (fun j => ((C j : Nat) : Int)) w3) := ⟨bel_up' H2.out.1 hb3, hB, hA⟩
  clear hb3 hB hA
  go_wp2
  go_ret3
  exact ⟨H3.out.1, ro, rc, C, lc, L, O, lo, b, rfl, H3.out.2.1, H3.out.2.2⟩
end Go.Proofs.Ytcgmllamiaflcaa

/- Equations that can be met, and the rules of shorter length. -/
namespace Go.Proofs.Ytcgmllamiaflcaa
open Go.RowKit Go.Sort

/-- The sum of the products, place by place. -/
def dt (D : FD) (u v : Nat → Nat) : Nat → Nat
  | 0 => 0
  | n + 1 => D.ad (dt D u v n) (D.mul (u n) (v n))
theorem dt_lt {D : FD} (F : Fld D) (u v : Nat → Nat) : ∀ n, dt D u v n < D.q
  | 0 => zero_lt' F
  | n + 1 => ad_lt F (dt_lt F u v n) (F.mul_lt _ _)
theorem dt_same {D : FD} {u v v' : Nat → Nat} : ∀ n, (∀ j, j < n → v j = v' j) → dt D u v n = dt D u v' n
  | 0, _ => rfl
  | n + 1, h => by
    show D.ad (dt D u v n) (D.mul (u n) (v n)) = D.ad (dt D u v' n) (D.mul (u n) (v' n))
    rw [dt_same n (fun j hj => h j (by omega)), h n (by omega)]
/-- A rule from its numbers behind the first one. -/
def rulx (n : Nat) (x : Nat → Nat) : Nat → Nat := fun j => if j = 0 then 1 else if j ≤ n then x (j - 1) else 0
theorem rulx_rul {D : FD} (F : Fld D) (n : Nat) {x : Nat → Nat} (hx : El D x) : Rul D (rulx n x) n := by
  refine ⟨fun j => ?_, fun j hj => ?_, rfl⟩
  · unfold rulx
    split
    · exact one_lt' F
    · split
      · exact hx _
      · exact zero_lt' F
  · unfold rulx
    rw [if_neg (by omega), if_neg (by omega)]
theorem rulx_mul {D : FD} (F : Fld D) {n t : Nat} {x s : Nat → Nat} (hs : El D s) (ht : n ≤ t) : ∀ r, r ≤ n → pmul D (r + 1) (rulx n x) s t = D.ad (s t) (dt D (fun j => s (t - 1 - j)) x r)
  | 0, _ => by
    show D.ad 0 (psh 0 (pscale D 1 s) t) = D.ad (s t) 0
    unfold psh pscale
    rw [if_pos (by omega), Nat.sub_zero, omul F (hs t), zero_ad F (hs t), ad_zero F (hs t)]
  | r + 1, hr => by
    show D.ad (pmul D (r + 1) (rulx n x) s t) (psh (r + 1) (pscale D (rulx n x (r + 1)) s) t) = D.ad (s t) (D.ad (dt D (fun j => s (t - 1 - j)) x r) (D.mul (s (t - 1 - r)) (x r)))
    rw [rulx_mul F hs ht r (by omega), ad_assoc F (hs t) (dt_lt F _ _ _) (by unfold psh pscale; split; exact F.mul_lt _ _; exact zero_lt' F)]
    congr 1
    congr 1
    unfold psh pscale rulx
    rw [if_pos (by omega), if_neg (by omega), if_pos (by omega), F.mul_comm, Nat.add_sub_cancel, show t - (r + 1) = t - 1 - r from by omega]
end Go.Proofs.Ytcgmllamiaflcaa

/- Lists that a rule makes: the shortest rule of enough of them makes the rest. -/
namespace Go.Proofs.Ytcgmllamiaflcaa
open Go.RowKit Go.Sort

theorem ng_ad {D : FD} (F : Fld D) {a b : Nat} (ha : a < D.q) (hb : b < D.q) : D.ng (D.ad a b) = D.ad (D.ng a) (D.ng b) := by
  have h1 : D.ad (D.ad a b) (D.ad (D.ng a) (D.ng b)) = 0 := by
    rw [ad4 F ha hb (ng_lt F ha) (ng_lt F hb), ad_ng F ha, ad_ng F hb, ad_zero F (zero_lt' F)]
  exact (ad_cancel F (ad_lt F ha hb) (ad_lt F (ng_lt F ha) (ng_lt F hb)) (ng_lt F (ad_lt F ha hb)) (h1.trans (ad_ng F (ad_lt F ha hb)).symm)).symm
theorem sb_ad2 {D : FD} (F : Fld D) {a b c : Nat} (ha : a < D.q) (hb : b < D.q) (hc : c < D.q) : D.sb a (D.ad b c) = D.sb (D.sb a b) c := by
  unfold FD.sb
  rw [ng_ad F hb hc, ad_assoc F ha (ng_lt F hb) (ng_lt F hc)]
theorem dt_ng {D : FD} (F : Fld D) (u : Nat → Nat) {x : Nat → Nat} (hx : El D x) : ∀ n, dt D u (fun j => D.ng (x j)) n = D.ng (dt D u x n)
  | 0 => (ng_zero F).symm
  | n + 1 => by
    show D.ad (dt D u (fun j => D.ng (x j)) n) (D.mul (u n) (D.ng (x n))) = D.ng (D.ad (dt D u x n) (D.mul (u n) (x n)))
    rw [dt_ng F u hx n, mul_ng F (hx n), ng_ad F (dt_lt F _ _ _) (F.mul_lt _ _)]
theorem dt_comm {D : FD} (F : Fld D) (u v : Nat → Nat) : ∀ n, dt D u v n = dt D v u n
  | 0 => rfl
  | n + 1 => by
    show D.ad (dt D u v n) (D.mul (u n) (v n)) = D.ad (dt D v u n) (D.mul (v n) (u n))
    rw [dt_comm F u v n, F.mul_comm]
/-- Each number from the place n on is that sum of those ahead. -/
def Made (D : FD) (c : Nat → Nat) (n : Nat) (s : Nat → Nat) (N : Nat) : Prop := ∀ t, n ≤ t → t < N → s t = dt D c (fun k => s (t - 1 - k)) n
theorem made_gen {D : FD} (F : Fld D) {c s : Nat → Nat} {n N : Nat} (hc : El D c) (hs : El D s) (h : Made D c n s N) : Gen D s (rulx n fun k => D.ng (c k)) n N := fun t h1 h2 => by
  rw [rulx_mul F hs h1 n (Nat.le_refl _), dt_ng F _ hc, dt_comm F, ← h t h1 h2]
  exact ad_ng F (hs t)
theorem pmul_low {D : FD} {C s s' : Nat → Nat} {t : Nat} (h : ∀ j, j ≤ t → s j = s' j) : ∀ n, pmul D n C s t = pmul D n C s' t
  | 0 => rfl
  | n + 1 => by
    show D.ad (pmul D n C s t) (psh n (pscale D (C n) s) t) = D.ad (pmul D n C s' t) (psh n (pscale D (C n) s') t)
    rw [pmul_low h n]
    unfold psh pscale
    split
    · rw [h (t - n) (by omega)]
    · rfl
theorem gen_low {D : FD} {C s s' : Nat → Nat} {L N : Nat} (h : ∀ j, j < N → s j = s' j) (hg : Gen D s C L N) : Gen D s' C L N := fun t h1 h2 => by
  rw [← pmul_low (s := s) (fun j hj => h j (by omega))]; exact hg t h1 h2
theorem gen_more {D : FD} (F : Fld D) {s C C' : Nat → Nat} {L L' N : Nat} (hs : El D s) (hC : Rul D C L) (hC' : Rul D C' L') (h : Gen D s C L N) (hL : L + L' ≤ N) : ∀ k, Gen D s C' L' (N + k) → Gen D s C L (N + k)
  | 0, _ => h
  | k + 1, h' => fun t h1 h2 => by
    have ih := gen_more F hs hC hC' h hL k (gen_less h')
    by_cases e : t = N + k
    · rw [e]; exact massey F hs hC hC' ih h' (by omega)
    · exact ih t h1 (by omega)
/-- The shortest rule of 2 n numbers and more, made by a rule of length n, is no longer than n, and makes those behind, too. -/
theorem bms_made {D : FD} (hD : D ∈ fieldsL) {c y C O : Nat → Nat} {n N lc L lo b k : Nat} (hc : El D c) (hy : El D y) (h : BMS D (fun j => if j < N then y j else 0) N C lc L O lo b) (hm : Made D c n y (N + k)) (hN : 2 * n ≤ N) : L ≤ n ∧ Gen D y C L (N + k) := by
  have F := fld hD
  have hr : Rul D (rulx n fun k => D.ng (c k)) n := rulx_rul F n (fun j => ng_lt F (hc j))
  have hg := made_gen F hc hy hm
  have hlow : ∀ j, j < N → y j = (fun j => if j < N then y j else 0) j := fun j hj => (if_pos hj).symm
  have hL := h.min _ n hr (gen_low hlow (fun t h1 h2 => hg t h1 (by omega)))
  exact ⟨hL, gen_more F hy h.rul hr (gen_low (fun j hj => (hlow j hj).symm) h.gen) (by omega) k hg⟩
end Go.Proofs.Ytcgmllamiaflcaa
