/- Gray's lists: the reference's SizesMay, the program's Gray. -/
import Derived.Test.YthkjaiihlphgfabZKH1
import Derived.Test.YthkjaiihlphgfabZS32
namespace Go.Proofs.Ythkjaiihlphgfab
open Go.RowKit Go.Sort

theorem prd_split : ∀ (t c : Nat) (b : Nat → Nat), prd (t + c) b = prd t b * prd c (drp t b)
  | 0, c, b => by rw [Nat.zero_add, drp_zero]; show prd c b = 1 * prd c b; omega
  | t + 1, c, b => by
    rw [show t + 1 + c = (t + c) + 1 by omega]
    show b 0 * prd (t + c) (shf b) = b 0 * prd t (shf b) * prd c (drp (t + 1) b)
    rw [prd_split t c (shf b), drp_shf, Nat.mul_assoc]
theorem setO_bel {B b o : Nat} {u w : World} (h : Below B u w) (hb : B ≤ b) (v : Value) : Below B u (w.setCell ⟨b, o, none⟩ v) := h.setCell hb _

/-- What Gray tells. -/
def GrP (E : Int) (L : List Int) (w : World) (x : Ending) (w' : World) : Prop := Below w.heap.size w w' ∧ ∃ vo vn vc, x = .returned (.tuple #[.slice vo vn vc, .int .i64 E]) ∧ ((E ≠ 0 ∧ vn = 0) ∨ (E = 0 ∧ SliceI (.slice vo vn vc) L w'))
theorem rowz_sl {g n c : Nat} {z : Nat → Int} {w : World} (h : RowZ g n z w) (h0 : 0 < n) (hn : n ≤ 1000000) : SliceI (.slice (some ⟨g, 0, none⟩) n c) (zl n z) w := by
  refine Or.inr ⟨fun e => ?_, by rw [zl_len]; exact hn, g, 0, c, by rw [zl_len], fun j hj => ?_⟩
  · have := congrArg List.length e
    rw [zl_len] at this
    exact absurd this (by show n ≠ 0; omega)
  · rw [zl_len] at hj
    rw [zl_getD n z j hj, Nat.zero_add]; exact h.cell j hj

set_option maxHeartbeats 8000000 in
set_option maxRecDepth 100000 in
theorem gray_any (k : Int) {ao : Option Addr} {n ca : Nat} {z : Nat → Int} {w : World} (hS : SlZ ao n z w) (hn : n ≤ 1000000) :
    Calls Try.prog 16 #[.slice ao n ca, .int .i64 k] w (GrP (if gchk n z ≠ 0 then gchk n z else if k < 0 ∨ (prd n (szB z) : Nat) ≤ k then 10 else 0) (zl n fun t => ((gry n (szB z) k.toNat t : Nat) : Int)) w) := by
  obtain ⟨E0, hE0⟩ : ∃ E0, E0 = gchk n z := ⟨_, rfl⟩
  obtain ⟨p, hp⟩ : ∃ p, p = prd n (szB z) := ⟨_, rfl⟩
  obtain ⟨E, hE⟩ : ∃ E : Int, E = if E0 ≠ 0 then E0 else if k < 0 ∨ (p : Nat) ≤ k then 10 else 0 := ⟨_, rfl⟩
  rw [← hE0, ← hp, ← hE]
  have HC : Hid (Calls Try.prog 28 #[.slice ao n ca] w fun e w' => e = .returned (.int .i64 E0) ∧ w' = w) := by rw [hE0]; exact dcheck_any hS hn
  by_cases h0 : E0 = 0
  · have z0 : (E0 != 0) = false := by rw [h0]; rfl
    have hg := gchk_ok (hE0.symm.trans h0)
    have hP : Calls Try.prog 29 #[.slice ao n ca] w fun e w' => e = .returned (.int .i64 (p : Nat)) ∧ w' = w := by rw [hp]; exact dprod_any hS hg.2.1 hg.2.2.1
    have HP : Hid (Calls Try.prog 29 #[.slice ao n ca] w fun e w' => e = .returned (.int .i64 (p : Nat)) ∧ w' = w) := hP
    have HE : Hid ((k < 0 ∨ (p : Nat) ≤ k → E = 10) ∧ (¬ (k < 0 ∨ (p : Nat) ≤ k) → E = 0)) := ⟨fun h => by rw [hE, if_neg (fun x => x h0), if_pos h], fun h => by rw [hE, if_neg (fun x => x h0), if_neg h]⟩
    have HF : Hid (SlZ ao n z w ∧ szOk z n = true ∧ p = prd n (szB z)) := ⟨hS, hg.2.2.1, hp⟩
    have hn1 : 1 ≤ n := hg.1
    have hn10 : n ≤ 10 := hg.2.1
    have hpb : p ≤ 1024 := by rw [hp]; exact hg.2.2.2
    clear h0 hE0 hp hE hS hg hP
    go_enter Try.func16, Try.ntmps16
    go_wp2_with fail
    refine HC.out.mono ?_
    rintro e w' ⟨rfl, hw⟩
    have hw := hw.symm
    subst hw
    go_wp2_with fail
    refine HP.out.mono ?_
    rintro e w' ⟨rfl, hw⟩
    have hw := hw.symm
    subst hw
    by_cases hk : k < 0
    · have HV : Hid (E = 10) := HE.out.1 (Or.inl hk)
      go_wp2
      go_ret2
      exact ⟨Below.refl _ _, none, 0, 0, by rw [HV.out]; rfl, Or.inl ⟨by rw [HV.out]; decide, rfl⟩⟩
    by_cases hk2 : (p : Int) ≤ k
    · have HV : Hid (E = 10) := HE.out.1 (Or.inr hk2)
      go_wp2
      go_ret2
      exact ⟨Below.refl _ _, none, 0, 0, by rw [HV.out]; rfl, Or.inl ⟨by rw [HV.out]; decide, rfl⟩⟩
    obtain ⟨K0, rfl⟩ : ∃ K0 : Nat, k = (K0 : Int) := ⟨k.toNat, by omega⟩
    have HV : Hid (E = 0) := HE.out.2 (by omega)
    have HK0 : Hid (K0 < p) := by show K0 < p; omega
    go_wp2_with (at_make; refine make_int rfl _ _ rfl _ n rfl rfl (by omega) (by omega) ?_; intro w1 hown1 hgrow1)
    have hrz0 := RowZ.of (row_zeros hown1)
    obtain ⟨g, hg⟩ : ∃ g, g = w.heap.size := ⟨_, rfl⟩
    rw [← hg] at hrz0
    try rw [← hg]
    have HI0 : Hid (RowZ g n (fun k => ((pnil k : Nat) : Int)) w1 ∧ Below w.heap.size w w1 ∧ g = w.heap.size) := ⟨hrz0, below_grown hgrow1 (Nat.le_refl _) (fun k hk => by cases hk), hg⟩
    clear hown1 hgrow1 hrz0 hg
    go_loopw [1, 7, 30] (fun vk vm vi wr => ∃ (t kk m : Nat) (o : Nat → Int), t ≤ n ∧ vk = .int .i64 (kk : Nat) ∧ vm = .int .i64 (m : Nat) ∧ vi = .int .i64 (t : Nat) ∧ Hid (kk = gst n (szB z) K0 t ∧ m = prd (n - t) (drp t (szB z)) ∧ RowZ g n o wr ∧ (∀ j, j < t → o j = ((gry n (szB z) K0 j : Nat) : Int)) ∧ Below w.heap.size w wr)) (fun _ _ vi _ => n - (intOf vi).toNat)
    case atStart => exact ⟨0, K0, p, _, by omega, rfl, rfl, rfl, rfl, by rw [drp_zero, Nat.sub_zero]; exact HF.out.2.2, HI0.out.1, fun j hj => absurd hj (by omega), HI0.out.2.1⟩
    case round =>
      obtain ⟨t, kk, m, o, ht, rfl, rfl, rfl, HG⟩ := hrel
      rename World => wr
      by_cases hlt : t < n
      · have hib : (t : Int) < (n : Int) := by omega
        have hib0 : (0 : Int) ≤ (t : Int) := by omega
        have hpos : ∀ j, j < n → 1 ≤ szB z j := fun j hj => by have := szB_at HF.out.2.1 j hj; omega
        obtain ⟨x, hx⟩ : ∃ x, x = szB z t := ⟨_, rfl⟩
        obtain ⟨m2, hm2⟩ : ∃ m2, m2 = prd (n - (t + 1)) (drp (t + 1) (szB z)) := ⟨_, rfl⟩
        have hm2p : 1 ≤ m2 := by rw [hm2]; exact prd_pos _ _ fun j hj => hpos (t + 1 + j) (by omega)
        have hmx : m = x * m2 := by rw [HG.out.2.1, prd_drp n (szB z) t hlt, hx, hm2]
        have hx2 := szB_at HF.out.2.1 t hlt
        rw [← hx] at hx2
        have hkm : kk < m := by
          rw [HG.out.1, HG.out.2.1]
          exact gst_lt hpos (by rw [← HF.out.2.2]; exact HK0.out) t (by omega)
        have hmp : m ≤ p := by
          rw [HG.out.2.1, HF.out.2.2]
          have h1 := prd_split t (n - t) (szB z)
          rw [show t + (n - t) = n by omega] at h1
          rw [h1]
          exact Nat.le_mul_of_pos_left _ (prd_pos t (szB z) fun j hj => hpos j (by omega))
        obtain ⟨q, hq⟩ : ∃ q, q = kk / m2 := ⟨_, rfl⟩
        obtain ⟨r, hr⟩ : ∃ r, r = kk % m2 := ⟨_, rfl⟩
        have hrm : r < m2 := by rw [hr]; exact Nat.mod_lt _ (by omega)
        have hqk : q ≤ kk := by rw [hq]; exact Nat.div_le_self _ _
        have hm2m : m2 ≤ m := by rw [hmx]; exact Nat.le_mul_of_pos_left _ (by omega)
        have d1 : (m : Int).tdiv (x : Int) = (m2 : Int) := by
          rw [Int.tdiv_eq_ediv_of_nonneg (by omega), hmx, Int.natCast_mul]
          exact Int.mul_ediv_cancel_left _ (by omega)
        have d2 : (kk : Int).tdiv (m2 : Int) = (q : Int) := by rw [Int.tdiv_eq_ediv_of_nonneg (by omega), hq]; rfl
        have d3 : (kk : Int).tmod (m2 : Int) = (r : Int) := by rw [Int.tmod_eq_emod_of_nonneg (by omega), hr]; rfl
        obtain ⟨k2, hk2'⟩ : ∃ k2, k2 = bhd q r m2 := ⟨_, rfl⟩
        have HB : Hid (∀ wx : World, Calls Try.prog 30 #[.int .i64 (q : Nat), .int .i64 (r : Nat), .int .i64 (m2 : Nat)] wx fun e w' => e = .returned (.int .i64 (k2 : Nat)) ∧ w' = wx) := fun wx => by rw [hk2']; exact behind_any hrm (by omega) wx
        have hk2b : k2 < m2 := by rw [hk2']; exact bhd_lt hrm
        have HV2 : Hid (k2 = gst n (szB z) K0 (t + 1) ∧ m2 = prd (n - (t + 1)) (drp (t + 1) (szB z)) ∧ q = gry n (szB z) K0 t) := by
          refine ⟨?_, hm2, ?_⟩
          · show k2 = bhd (gst n (szB z) K0 t / prd (n - (t + 1)) (drp (t + 1) (szB z))) (gst n (szB z) K0 t % prd (n - (t + 1)) (drp (t + 1) (szB z))) (prd (n - (t + 1)) (drp (t + 1) (szB z)))
            rw [← hm2, ← HG.out.1, hk2', hq, hr]
          · rw [gry_gst n (szB z) K0 t hlt, ← hm2, ← HG.out.1, hq]
        obtain ⟨ba, oa, hao, hca⟩ := (slz_below HF.out.1 HG.out.2.2.2.2) t hlt
        have hxz : z t = (x : Int) := by have := szOk_at n HF.out.2.1 t hlt; rw [hx]; unfold szB; omega
        rw [hxz] at hca
        subst hao
        have hx0 : ¬ (x : Int) = 0 := by omega
        have hm0 : ¬ (m2 : Int) = 0 := by omega
        have hc0 := HG.out.2.2.1.cell t hlt
        have hf0 := HG.out.2.2.1.free t
        obtain ⟨o0, ho0⟩ : ∃ o0, o0 = o t := ⟨_, rfl⟩
        rw [← ho0] at hc0
        obtain ⟨ws, hws⟩ : ∃ ws, ws = wr.setCell ⟨g, t, none⟩ (.int .i64 (q : Nat)) := ⟨_, rfl⟩
        have HS2 : Hid (RowZ g n (fun j => if j = t then (q : Int) else o j) ws ∧ Below w.heap.size w ws ∧ ws.cell? ⟨g, t, none⟩ = some (.int .i64 (q : Nat))) := by
          have h1 : RowZ g n (fun j => if j = t then (q : Int) else o j) ws := by rw [hws]; exact HG.out.2.2.1.store t (q : Int) fun j _ => rfl
          have h2 := h1.cell t hlt
          rw [if_pos rfl] at h2
          exact ⟨h1, by rw [hws]; exact setO_bel HG.out.2.2.2.2 (by have := HI0.out.2.2; omega) _, h2⟩
        have hc1 := HS2.out.2.2
        clear hx hm2 hmx hq hr hk2' hxz ho0 hpos hx2
        have HS3 : Hid (∀ d, RowZ g n (fun j => if j = t then (q : Int) else o j) (ws.drewN d) ∧ Below w.heap.size w (ws.drewN d)) := fun d => ⟨HS2.out.1.below (below_drewN2 (Below.refl ws.heap.size ws) d) HS2.out.1.lt', below_drewN2 HS2.out.2.1 d⟩
        have HS4 : Hid (∀ j, j < t + 1 → (fun j => if j = t then (q : Int) else o j) j = ((gry n (szB z) K0 j : Nat) : Int)) := fun j hj => by
          show (if j = t then (q : Int) else o j) = _
          by_cases e : j = t
          · rw [if_pos e, e, HV2.out.2.2]
          · rw [if_neg e]; exact HG.out.2.2.2.1 j (by omega)
        go_wp2
        rw [← hws]
        clear hws hc0 hf0 hca
        go_big_quiet ((go_at_call 30; exact Calls.quiet_of_same (HB.out _)))
        go_wp2
        go_roundw
        case rel => exact ⟨t + 1, k2, m2, _, by omega, by first | rfl | go_num, by first | rfl | go_num, by go_num, HV2.out.1, HV2.out.2.1, (HS3.out _).1, HS4.out, (HS3.out _).2⟩
        case measure => simp [intOf]; omega
      · have hib : ¬ (t : Int) < (n : Int) := by omega
        have hte : t = n := by omega
        have HL : Hid (RowZ g n (fun j => ((gry n (szB z) K0 j : Nat) : Int)) wr ∧ Below w.heap.size w wr) := ⟨HG.out.2.2.1.congr fun j hj => HG.out.2.2.2.1 j (by omega), HG.out.2.2.2.2⟩
        clear hte
        go_wp2
        go_ret2
        exact ⟨HL.out.2, some ⟨g, 0, none⟩, n, n, by rw [HV.out]; rfl, Or.inr ⟨HV.out, rowz_sl HL.out.1 (by omega) (by omega)⟩⟩
  · have z0 : (E0 != 0) = true := bne_iff_ne.2 h0
    have HV : Hid (E = E0 ∧ E0 ≠ 0) := ⟨by rw [hE, if_pos h0], h0⟩
    clear h0 hE0 hp hE hS
    go_enter Try.func16, Try.ntmps16
    go_wp2_with fail
    refine HC.out.mono ?_
    rintro e w' ⟨rfl, hw⟩
    have hw := hw.symm
    subst hw
    go_wp2
    go_ret2
    exact ⟨Below.refl _ _, none, 0, 0, by rw [HV.out.1]; rfl, Or.inl ⟨by rw [HV.out.1]; exact HV.out.2, rfl⟩⟩
end Go.Proofs.Ythkjaiihlphgfab
