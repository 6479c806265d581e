/- Signs that check: what Sign and Right tell of words. -/
import Derived.Test.YtonjkpakbmbafaaZKK22
namespace Go.Proofs.Ytonjkpakbmbafaa
open Go.RowKit Go.Maps

/-- A sign's byte. -/
def sgb (v : Nat) : Nat := if v < 10 then 48 + v else 88
theorem sgb_inj {u v : Nat} (hu : u ≤ 10) (hv : v ≤ 10) (h : sgb u = sgb v) : u = v := by
  unfold sgb at h
  split at h <;> split at h <;> omega
theorem sgS_size {v : Nat} (hv : v ≤ 10) : (sgS v).size = 1 := by
  unfold sgS
  rw [ByteArray.size_extract, show sgA.size = 11 from rfl]; omega
theorem sgA_at : ∀ v, v < 11 → byt sgA v = sgb v := by decide +kernel
theorem sgS_at {v : Nat} (hv : v ≤ 10) : byt (sgS v) 0 = sgb v := by
  unfold sgS
  rw [byt_sub _ _ _ _ (by rw [show sgA.size = 11 from rfl]; omega) (by omega), Nat.add_zero]
  exact sgA_at v (by omega)
theorem sgx_le (k : Nat) : sgx k ≤ 10 := by unfold sgx; split <;> omega

theorem dsu_cg {f g : Nat → Nat} {n : Nat} (h : ∀ i, i < n → f i = g i) : dsu f n = dsu g n := dsu_congr n h
theorem vfo_congr {d e : Nat → Nat} {m : Nat} (h : ∀ j, j < m → d j = e j) : ∀ i, i ≤ m → vfo d m i = vfo e m i
  | 0, _ => rfl
  | i + 1, hi => by
    show dih (vfo d m i) _ = dih (vfo e m i) _
    rw [vfo_congr h i (by omega), h (m - 1 - i) (by omega)]
theorem sgn_congr {k m : Nat} {d e : Nat → Nat} (h : ∀ j, j < m → d j = e j) : sgn k m d = sgn k m e := by
  unfold sgn sgL sgB sgT sgV sgD
  rw [dsu_cg (f := fun i => lwt (m - i) (d i)) (g := fun i => lwt (m - i) (e i)) (fun i hi => by rw [h i hi]), dsu_cg (f := fun i => (i + 1) * d i) (g := fun i => (i + 1) * e i) (fun i hi => by rw [h i hi]),
    dsu_cg (f := fun i => (1 + i % 2 * 2) * d i) (g := fun i => (1 + i % 2 * 2) * e i) (fun i hi => by rw [h i hi]), vfo_congr h m (Nat.le_refl _), dfo_congr m h]
theorem dgs_all {s : ByteArray} {d : Nat → Nat} : ∀ n, (∀ j, j < n → byt s j = 48 + d j ∧ d j < 10) → dgs s n = true
  | 0, _ => rfl
  | n + 1, h => dgs_yes (dgs_all n (fun j hj => h j (by omega))) (by have := h n (by omega); omega)
/-- A text of digits. -/
structure Txt (s : ByteArray) (n : Nat) (d : Nat → Nat) : Prop where
  size : s.size = n
  at' : ∀ j, j < n → byt s j = 48 + d j
  lt : ∀ j, j < n → d j < 10
theorem Txt.ok {s : ByteArray} {n : Nat} {d : Nat → Nat} (h : Txt s n d) {k : Nat} (h1 : 1 ≤ k) (h5 : k ≤ 5) (hm : sgm k n) : sgM (k : Nat) s = 0 ∧ sgQ (k : Nat) s = sgS (sgn k n d) := by
  have hn : ¬ ((k : Int) < 1 ∨ 5 < (k : Int)) := by omega
  have hE : sgE k s = 0 := by
    unfold sgE
    rw [h.size, if_neg, if_pos (dgs_all n (fun j hj => ⟨h.at' j hj, h.lt j hj⟩))]
    unfold sgl sgh
    have h3 := hm.2.2.1
    have h4 := hm.2.2.2
    have h6 := hm.1
    have h7 := hm.2.1
    by_cases e2 : k = 2
    · have := h3 e2; rw [if_pos e2, if_pos e2]; omega
    · rw [if_neg e2, if_neg e2]
      by_cases e3 : k = 3
      · have := h4 e3; rw [if_pos e3, if_pos e3]; omega
      · rw [if_neg e3, if_neg e3]; omega
  refine ⟨?_, ?_⟩
  · unfold sgM; rw [if_neg hn, Int.toNat_natCast]; exact hE
  · unfold sgQ sgR
    rw [if_neg hn, Int.toNat_natCast, if_pos hE, h.size]
    congr 1
    exact sgn_congr fun j hj => by unfold tdg; rw [h.at' j hj]; omega
/-- A word with its sign. -/
structure Wrd2 (k : Nat) (X : ByteArray) (n : Nat) (D : Nat → Nat) : Prop where
  size : X.size = n + 1
  at' : ∀ j, j < n → byt X j = 48 + D j
  lt : ∀ j, j < n → D j < 10
  last : byt X n = sgb (D n)
  le : D n ≤ sgx k
theorem Wrd2.front {k : Nat} {X : ByteArray} {n : Nat} {D : Nat → Nat} (h : Wrd2 k X n D) : Txt (tlF X) n D := by
  have hs := h.size
  have e : X.size - 1 = n := by omega
  unfold tlF
  rw [e]
  exact ⟨by rw [ByteArray.size_extract]; omega, fun j hj => by rw [byt_sub _ _ _ _ (by omega) (by omega), Nat.zero_add]; exact h.at' j hj, h.lt⟩
theorem xtn_self {d : Nat → Nat} {n : Nat} {j : Nat} : xtn d n (d n) j = d j := by
  unfold xtn
  by_cases e : j = n
  · rw [if_pos e, e]
  · rw [if_neg e]
theorem Wrd2.right {k : Nat} {X : ByteArray} {n : Nat} {D : Nat → Nat} (h : Wrd2 k X n D) (h1 : 1 ≤ k) (h5 : k ≤ 5) (hm : sgm k n) : rgE (k : Nat) X = 0 ∧ rgB (k : Nat) X = ckk k (n + 1) D := by
  have hn : ¬ ((k : Int) < 1 ∨ 5 < (k : Int)) := by omega
  have hok := h.front.ok h1 h5 hm
  have hE : rgE (k : Nat) X = 0 := by
    unfold rgE
    rw [if_neg hn, if_neg (by have := h.size; have := hm.1; omega)]; exact hok.1
  refine ⟨hE, ?_⟩
  unfold rgB
  rw [if_pos hE, hok.2, toL_iff]
  have hs := h.size
  have hxk := sgx_le k
  have hle := h.le
  have hsn : sgn k n D ≤ sgx k := sgn_le h.lt
  have hck := ckk_iff (v := D n) hm h.le h.lt
  rw [show xtn D n (D n) = D from funext fun j => xtn_self] at hck
  have hL : (tlL X).size = 1 ∧ byt (tlL X) 0 = sgb (D n) := by
    unfold tlL
    rw [show X.size - 1 = n by omega]
    exact ⟨by rw [ByteArray.size_extract]; omega, by rw [byt_sub _ _ _ _ (Nat.le_refl _) (by omega), Nat.add_zero]; exact h.last⟩
  rw [Bool.eq_iff_iff, decide_eq_true_iff, hck]
  constructor
  · intro he
    have : byt (tlL X) 0 = byt (sgS (sgn k n D)) 0 := by rw [he]
    rw [hL.2, sgS_at (by omega)] at this
    exact sgb_inj (by omega) (by omega) this
  · intro he
    refine byt_ext (by rw [hL.1, sgS_size (by omega)]) fun i hi => ?_
    have hi0 : i = 0 := by rw [hL.1] at hi; omega
    rw [hi0, hL.2, sgS_at (by omega), ← he]
end Go.Proofs.Ytonjkpakbmbafaa
