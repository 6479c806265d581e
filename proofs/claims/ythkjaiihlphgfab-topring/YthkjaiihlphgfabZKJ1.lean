/- Rings and Gray's lists: what the statement TopRing asks. -/
import Derived.Test.YthkjaiihlphgfabZS36
import Derived.Test.YthkjaiihlphgfabZKH3
import Derived.Test.YthkjaiihlphgfabZL10
import Derived.Test.YthkjaiihlphgfabZL1
namespace Go.Proofs.Ythkjaiihlphgfab
open Go.RowKit Go.Sort

theorem kj_slz {ao : Option Addr} {k ca : Nat} {z : Nat → Int} {w : World} (h : SliceI (.slice ao k ca) (zl k z) w) : SlZ ao k z w := fun j hj => by
  rcases h with ⟨e, _⟩ | ⟨_, _, b, off, cap, ev, hc⟩
  · have := congrArg List.length e
    rw [zl_len] at this
    have : k = 0 := this
    omega
  · rw [zl_len] at ev
    cases ev
    refine ⟨b, off, rfl, ?_⟩
    rw [hc j (by rw [zl_len]; exact hj), zl_getD _ _ _ hj]
theorem kj_len {ao : Option Addr} {vn ca k : Nat} {z : Nat → Int} {w : World} (h : SliceI (.slice ao vn ca) (zl k z) w) : vn = k := by
  rcases h with ⟨e, _, _, ev⟩ | ⟨_, _, b, off, cap, ev, hc⟩
  · have := congrArg List.length e
    rw [zl_len] at this
    have : k = 0 := this
    cases ev
    omega
  · rw [zl_len] at ev
    cases ev; rfl
theorem kj_own {base : Nat} {v : Value} {l : List Int} {w : World} (h : OwnI base v l w) : ∃ ao cap, v = .slice ao l.length cap := by
  rcases h.2 with ⟨h1, h2⟩ | ⟨g, cap, cur, hv, _⟩
  · have h2 : l.length = 0 := h2
    exact ⟨none, 0, by rw [h1, h2]⟩
  · exact ⟨some ⟨g, 0, none⟩, cap, hv⟩
theorem prd_four : ∀ (c : Nat) (b : Nat → Nat), (∀ j, j < c → b j ≤ 4) → prd c b ≤ 4 ^ c
  | 0, _, _ => Nat.le_refl _
  | c + 1, b, h => by
    rw [prd_last, Nat.pow_succ]
    exact Nat.mul_le_mul (prd_four c b fun j hj => h j (by omega)) (h c (by omega))
theorem prd_congr : ∀ (c : Nat) (a b : Nat → Nat), (∀ j, j < c → a j = b j) → prd c a = prd c b
  | 0, _, _, _ => rfl
  | c + 1, a, b, h => by rw [prd_last, prd_last, prd_congr c a b (fun j hj => h j (by omega)), h c (by omega)]
theorem szOk_all {z : Nat → Int} : ∀ n, (∀ j, j < n → 2 ≤ z j ∧ z j ≤ 10) → szOk z n = true
  | 0, _ => rfl
  | n + 1, h => szOk_yes (szOk_all n fun j hj => h j (by omega)) (h n (by omega))
theorem plOk_all {z y : Nat → Int} : ∀ n, (∀ j, j < n → 0 ≤ y j ∧ y j < z j) → plOk z y n = true
  | 0, _ => rfl
  | n + 1, h => plOk_yes (plOk_all n fun j hj => h j (by omega)) (h n (by omega))
theorem gry_lt {c : Nat} {b : Nat → Nat} {k : Nat} (hb : ∀ j, j < c → 1 ≤ b j) (hk : k < prd c b) (t : Nat) (ht : t < c) : gry c b k t < b t := by
  rw [gry_gst c b k t ht]
  have h1 := gst_lt hb hk t (Nat.le_of_lt ht)
  rw [prd_drp c b t ht, Nat.mul_comm] at h1
  exact Nat.div_lt_of_lt_mul h1
theorem plc_gry : ∀ (c : Nat) (b : Nat → Nat) (k : Nat), (∀ j, j < c → 1 ≤ b j) → k < prd c b → plc c b (gry c b k) = k
  | 0, _, k, _, hk => by
    have hk : k < 1 := hk
    show 0 = k
    omega
  | c + 1, b, k, hb, hk => by
    obtain ⟨P, hP⟩ : ∃ P, P = prd c (shf b) := ⟨_, rfl⟩
    have hb1 : ∀ j, j < c → 1 ≤ shf b j := fun j hj => hb (j + 1) (by omega)
    have hPp : 0 < P := by rw [hP]; exact prd_pos c (shf b) hb1
    have e : shf (gry (c + 1) b k) = gry c (shf b) (bhd (k / P) (k % P) P) := by rw [hP]; rfl
    show k / prd c (shf b) * prd c (shf b) + bhd (k / prd c (shf b)) (plc c (shf b) (shf (gry (c + 1) b k))) (prd c (shf b)) = k
    rw [e, ← hP, plc_gry c (shf b) _ hb1 (by rw [← hP]; exact bhd_lt (Nat.mod_lt _ hPp)), bhd_bhd (Nat.mod_lt _ hPp), Nat.mul_comm]
    exact Nat.div_add_mod k P
theorem wrdv_lt {q : Nat} {L : List Nat} (hL : ∀ x ∈ L, x < q) (h0 : 0 < L.length) (i : Nat) : ∀ j, wrdv q L i j < q ^ j
  | 0 => Nat.lt_succ_self 0
  | j + 1 => by
    have h := wrdv_lt hL h0 i j
    have hm : (i + j) % L.length < L.length := Nat.mod_lt _ h0
    have hx : L.getD ((i + j) % L.length) 0 < q := by
      rw [List.getD_eq_getElem?_getD, List.getElem?_eq_getElem hm]
      exact hL _ (List.getElem_mem hm)
    show wrdv q L i j * q + L.getD ((i + j) % L.length) 0 < q ^ (j + 1)
    rw [Nat.pow_succ]
    have h2 : (wrdv q L i j + 1) * q ≤ q ^ j * q := Nat.mul_le_mul_right q h
    rw [Nat.add_mul, Nat.one_mul] at h2
    omega
theorem onc_step {q n : Nat} {L : List Nat} {r i m : Nat} (h : onc q n L (r + 1) i m = true) : wrdv q L i n < L.length ∧ m.testBit (wrdv q L i n) = false ∧ onc q n L r (i + 1) (m ||| 2 ^ wrdv q L i n) = true := by
  have h : (Nat.blt (wrdv q L i n) L.length && (!(m.testBit (wrdv q L i n)) && onc q n L r (i + 1) (m ||| 2 ^ wrdv q L i n))) = true := h
  rw [Bool.and_eq_true, Bool.and_eq_true, Bool.not_eq_true'] at h
  exact ⟨by have := h.1; rw [Nat.blt_eq] at this; exact this, h.2.1, h.2.2⟩
theorem onc_at : ∀ q n : Fin 6, 2 ≤ q.1 → 1 ≤ n.1 → n.1 ≤ 4 → (q.1, n.1) ∈ ([(2, 1), (2, 2), (2, 3), (2, 4), (3, 1), (3, 2), (3, 3), (3, 4), (4, 1), (4, 2), (4, 3), (4, 4), (5, 1), (5, 2), (5, 3), (5, 4)] : List (Nat × Nat)) := by decide +kernel
theorem onc_ok {q n : Nat} (hq : 2 ≤ q) (hq2 : q ≤ 5) (hn : 1 ≤ n) (hn2 : n ≤ 4) : onc q n (rgl q n) (rgl q n).length 0 0 = true :=
  List.all_eq_true.1 onc_all (q, n) (onc_at ⟨q, by omega⟩ ⟨n, by omega⟩ hq hn hn2)
theorem pow_625 {q n : Nat} (hq : q ≤ 5) (hn : n ≤ 4) : q ^ n ≤ 625 := by
  by_cases h0 : q = 0
  · subst h0
    cases n with
    | zero => decide
    | succ n => rw [Nat.pow_succ, Nat.mul_zero]; omega
  · exact Nat.le_trans (Nat.pow_le_pow_left hq n) (Nat.le_trans (Nat.pow_le_pow_right (by omega) hn) (by decide))

set_option maxHeartbeats 2000000 in
set_option maxRecDepth 100000 in
theorem tpow_any {q n : Nat} (hq : q ≤ 5) (hn : n ≤ 4) (w : World) :
    Calls Try.prog 14 #[.int .i64 (q : Nat), .int .i64 (n : Nat)] w fun e w' => e = .returned (.int .i64 ((q ^ n : Nat) : Int)) ∧ w' = w := by
  obtain ⟨A, hA⟩ : ∃ A, A = q ^ n := ⟨_, rfl⟩
  rw [← hA]
  have HF : Hid (A = q ^ n) := hA
  clear hA
  go_enter Try.func14, Try.ntmps14
  go_wp2
  go_loopw [5, 6] (fun va vi wr => ∃ (i a : Nat), i ≤ n ∧ va = .int .i64 (a : Nat) ∧ vi = .int .i64 (i : Nat) ∧ a ≤ 625 ∧ Hid (a = q ^ i ∧ wr = w)) (fun _ vi _ => n - (intOf vi).toNat)
  case atStart => exact ⟨0, 1, by omega, rfl, rfl, by omega, rfl, rfl⟩
  case round =>
    obtain ⟨i, a, hi, rfl, rfl, ha, HG⟩ := hrel
    rename World => wr
    by_cases hlt : i < n
    · have hib : (i : Int) < (n : Int) := by omega
      obtain ⟨a2, ha2⟩ : ∃ a2, a2 = a * q := ⟨_, rfl⟩
      have hp2 : a2 = q ^ (i + 1) := by rw [ha2, Nat.pow_succ, HG.out.1]
      have hb2 : a2 ≤ 625 := by rw [hp2]; exact pow_625 hq (by omega)
      have hw2 : IntKind.i64.wrap ((a : Int) * (q : Int)) = (a2 : Int) := wrap_to (by rw [ha2]; simp) (by omega)
      have HV : Hid (a2 = q ^ (i + 1) ∧ wr = w) := ⟨hp2, HG.out.2⟩
      clear ha2 hp2
      go_wp2
      go_roundw
      case rel => exact ⟨i + 1, a2, by omega, by first | rfl | go_num, by go_num, hb2, HV.out⟩
      case measure => simp [intOf]; omega
    · have hib : ¬ (i : Int) < (n : Int) := by omega
      have hie : i = n := by omega
      have HV : Hid (a = A ∧ wr = w) := ⟨by rw [HF.out, HG.out.1, hie], HG.out.2⟩
      clear hie
      go_wp2
      go_ret
      exact ⟨by rw [HV.out.1]; rfl, HV.out.2⟩
end Go.Proofs.Ythkjaiihlphgfab
