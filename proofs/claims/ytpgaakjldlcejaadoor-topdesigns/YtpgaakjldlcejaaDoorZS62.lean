/- Texts of ours, one behind the other: S62 KQ1 KQ2 KQ3. -/
import Derived.Test.YtpgaakjldlcejaaDoorZG3
import Derived.Test.YtpgaakjldlcejaaDoorZKL7
import Derived.Test.YtpgaakjldlcejaaDoorZI7
import Derived.Test.YtpgaakjldlcejaaDoorZK7
import Derived.Test.YtpgaakjldlcejaaDoorZKR4
/- Golay's two codes: their reduced rows; each is its own dual; how far their words lie apart, also without a place. -/
namespace Go.Proofs.YtpgaakjldlcejaaDoor

/-- Lists of lists, as rows. -/
def lrs (L : List (List Nat)) : Nat → Nat → Nat := fun i => lsf (L.getD i [])
theorem lrs_bd {L : List (List Nat)} {n : Nat} (h : (L.all fun l => l.length == n) = true) (i : Nat) : Bd n (lrs L i) := fun j hj => by
  unfold lrs
  by_cases e : i < L.length
  · have hm : L.getD i [] ∈ L := by simp [List.getD_eq_getElem?_getD, e]
    have := eq_of_beq (List.all_eq_true.1 h _ hm)
    exact lsf_bd _ j (by omega)
  · have : L.getD i [] = [] := by rw [List.getD_eq_getElem?_getD, List.getElem?_eq_none (by omega)]; rfl
    rw [this]
    exact lsf_bd [] j (Nat.zero_le _)
theorem enw_bdn {D : FD} (F : Fld D) {n : Nat} {R : Nat → Nat → Nat} {z : Nat → Nat} : ∀ k, (∀ i, i < k → Bd n (R i)) → Bd n (enw D R z k)
  | 0, _ => fun _ _ => rfl
  | k + 1, h => fun j hj => by
    show D.ad (enw D R z k j) (D.mul (z k) (R k j)) = 0
    rw [enw_bdn F k (fun i hi => h i (by omega)) j hj, h k (by omega) j hj, mul0 F, ad_zero F (zero_lt' F)]
/-- What is asked of rows, of what they are made of, and of how. -/
def golB (D : FD) (n K : Nat) (M R C : Nat → Nat → Nat) : Bool :=
  ((List.range K).all fun i => (List.range n).all fun j => (M i j == enw D R (fun t => M i t) K j) && (R i j == enw D M (C i) K j) && decide (R i j < D.q) && decide (M i j < D.q)) &&
  ((List.range K).all fun i => (List.range K).all fun j => (R i j == if i = j then 1 else 0) && (dot D (R i) (R j) n == 0))
theorem gol_rre {D : FD} (F : Fld D) {n K : Nat} {M R C : Nat → Nat → Nat} (h : golB D n K M R C = true) (hn : K ≤ n) (hM : ∀ i, i < K → Bd n (M i)) (hR : ∀ i, i < K → Bd n (R i)) :
    RRE D n K R (fun i => i) ∧ Red D n K M K R ∧ ∀ i j, i < K → j < K → dot D (R i) (R j) n = 0 := by
  unfold golB at h
  rw [Bool.and_eq_true] at h
  have a : ∀ i, i < K → ∀ j, j < n → M i j = enw D R (fun t => M i t) K j ∧ R i j = enw D M (C i) K j ∧ R i j < D.q ∧ M i j < D.q := fun i hi j hj => by
    have := List.all_eq_true.1 (List.all_eq_true.1 h.1 i (List.mem_range.2 hi)) j (List.mem_range.2 hj)
    simp only [Bool.and_eq_true, beq_iff_eq, decide_eq_true_eq] at this
    exact ⟨this.1.1.1, this.1.1.2, this.1.2, this.2⟩
  have b : ∀ i, i < K → ∀ j, j < K → R i j = (if i = j then 1 else 0) ∧ dot D (R i) (R j) n = 0 := fun i hi j hj => by
    have := List.all_eq_true.1 (List.all_eq_true.1 h.2 i (List.mem_range.2 hi)) j (List.mem_range.2 hj)
    simp only [Bool.and_eq_true, beq_iff_eq] at this
    exact this
  have eR : ∀ i, i < K → El D (R i) := fun i hi j => by
    by_cases c : j < n
    · exact (a i hi j c).2.2.1
    · rw [hR i hi j (by omega)]; exact zero_lt' F
  have eM : ∀ i, i < K → El D (M i) := fun i hi j => by
    by_cases c : j < n
    · exact (a i hi j c).2.2.2
    · rw [hM i hi j (by omega)]; exact zero_lt' F
  have r : RRE D n K R (fun i => i) := ⟨eR, hR, fun i hi => by omega, fun i j hij _ => hij, fun i hi => by have := (b i hi i hi).1; rw [if_pos rfl] at this; exact this, fun i j hi hj hne => by have := (b i hi j hj).1; rw [if_neg hne] at this; exact this, fun i c hi hc => by have := (b i hi c (by omega)).1; rw [if_neg (by omega)] at this; exact this⟩
  refine ⟨r, ⟨_, r, fun v => ⟨fun hv => spn_le F (fun u hu => ?_) hv, fun hv => spn_le F (fun u hu => ?_) hv⟩⟩, fun i j hi hj => (b i hi j hj).2⟩
  · obtain ⟨i, hi, rfl⟩ := hu
    have e : R i = enw D M (C i) K := funext fun j => by
      by_cases c : j < n
      · exact (a i hi j c).2.1
      · rw [hR i hi j (by omega), enw_bdn F K hM j (by omega)]
    rw [e]; exact enw_spn F eM K (Nat.le_refl _)
  · obtain ⟨i, hi, rfl⟩ := hu
    have e : M i = enw D R (fun t => M i t) K := funext fun j => by
      by_cases c : j < n
      · exact (a i hi j c).1
      · rw [hM i hi j (by omega), enw_bdn F K hR j (by omega)]
    rw [e]; exact enw_spn F eR K (Nat.le_refl _)
/-! how far words lie apart -/
/-- A word and a row so often, in a field of a prime. -/
def lad (q s : Nat) : List Nat → List Nat → List Nat
  | a :: l, b :: m => ((a + s * b) % q) :: lad q s l m
  | _, _ => []
theorem lad_at (q s : Nat) : ∀ (l m : List Nat) (j : Nat), l.length = m.length → j < l.length → lsf (lad q s l m) j = (lsf l j + s * lsf m j) % q ∧ (lad q s l m).length = l.length
  | [], _, j, _, h => absurd h (by simp)
  | a :: l, [], j, h, _ => by simp at h
  | a :: l, b :: m, j, h, hj => by
    have hl : l.length = m.length := by simpa using h
    have hlen : (lad q s l m).length = l.length := by
      cases l with
      | nil => cases m <;> rfl
      | cons x t => exact (lad_at q s (x :: t) m 0 hl (by simp)).2
    refine ⟨?_, by show (lad q s l m).length + 1 = l.length + 1; rw [hlen]⟩
    cases j with
    | zero => rfl
    | succ j => exact (lad_at q s l m j hl (by simpa using hj)).1
def lwt : List Nat → Nat
  | [] => 0
  | a :: l => (if a = 0 then 0 else 1) + lwt l
theorem ct_shift (f : Nat → Bool) : ∀ n, ct f (n + 1) = (if f 0 = true then 1 else 0) + ct (fun i => f (i + 1)) n
  | 0 => Nat.add_comm 0 _
  | n + 1 => by
    show ct f (n + 1) + (if f (n + 1) = true then 1 else 0) = _ + (ct (fun i => f (i + 1)) n + if f (n + 1) = true then 1 else 0)
    rw [ct_shift f n]; omega
theorem lwt_is : ∀ l : List Nat, wtn (lsf l) l.length = lwt l
  | [] => rfl
  | a :: l => by
    have h := ct_shift (fun i => !decide (((lsf (a :: l) i : Nat) : Int) = 0)) l.length
    show ct (fun i => !decide (((lsf (a :: l) i : Nat) : Int) = 0)) (l.length + 1) = _
    rw [h]
    have h2 : ct (fun i => !decide (((lsf (a :: l) (i + 1) : Nat) : Int) = 0)) l.length = lwt l := lwt_is l
    rw [h2]
    show (if (!decide (((a : Nat) : Int) = 0)) = true then 1 else 0) + lwt l = (if a = 0 then 0 else 1) + lwt l
    by_cases e : a = 0
    · subst e; rfl
    · rw [if_neg e, if_pos (by rw [decide_eq_false (by omega)]; rfl)]
def lac (q : Nat) (m : Nat → Nat) : List (List Nat) → Nat → List Nat → List Nat
  | [], _, l => l
  | r :: rs, k, l => lac q m rs (k + 1) (lad q (m k) l r)
theorem lac_is {D : FD} {L : List (List Nat)} {n : Nat} {m : Nat → Nat} (hn : 0 < n) (hL : (L.all fun l => l.length == n) = true) (ha : ∀ a b, a < D.q → b < D.q → D.ad a b = (a + b) % D.q) (hu : ∀ a b, a < D.q → b < D.q → D.mul a b = a * b % D.q) (F : Fld D) (hm : El D m) (hR : ∀ i, El D (lrs L i)) : ∀ t k l, k + t = L.length → l.length = n → (∀ j, lsf l j = enw D (lrs L) m k j) → (lac D.q m (L.drop k) k l).length = n ∧ ∀ j, lsf (lac D.q m (L.drop k) k l) j = enw D (lrs L) m L.length j
  | 0, k, l, hk, hl, h => by
    have : k = L.length := by omega
    subst this
    rw [List.drop_length]
    exact ⟨hl, h⟩
  | t + 1, k, l, hk, hl, h => by
    have hk2 : k < L.length := by omega
    rw [List.drop_eq_getElem_cons hk2]
    have hg : L.getD k [] = L[k] := by simp [List.getD_eq_getElem?_getD, hk2]
    have hlen : L[k].length = n := eq_of_beq (List.all_eq_true.1 hL _ (List.getElem_mem hk2))
    refine lac_is hn hL ha hu F hm hR t (k + 1) _ (by omega) ?_ (fun j => ?_)
    · rw [(lad_at D.q (m k) l L[k] 0 (by omega) (by omega)).2, hl]
    · show lsf (lad D.q (m k) l L[k]) j = D.ad (enw D (lrs L) m k j) (D.mul (m k) (lrs L k j))
      have e1 : lrs L k = lsf L[k] := by unfold lrs; rw [hg]
      have e2 := hR k j
      rw [← h j, hu _ _ (hm k) e2, ha _ _ (by rw [h j]; exact enw_el F k j) (Nat.mod_lt _ (zero_lt' F)), e1]
      by_cases c : j < n
      · rw [(lad_at D.q (m k) l L[k] j (by omega) (by omega)).1, Nat.add_mod_mod]
      · have b1 : lsf (lad D.q (m k) l L[k]) j = 0 := by
          have := (lad_at D.q (m k) l L[k] 0 (by omega) (by omega)).2
          exact lsf_bd _ j (by omega)
        rw [b1, lsf_bd l j (by omega), lsf_bd L[k] j (by omega)]
        simp
def F2L : List (List Nat) := [[1, 0, 0, 0, 0, 0, 0, 0, 0, 0, 0, 0, 1, 0, 1, 0, 1, 1, 1, 0, 0, 0, 1, 1], [0, 1, 0, 0, 0, 0, 0, 0, 0, 0, 0, 0, 1, 1, 1, 1, 1, 0, 0, 1, 0, 0, 1, 0], [0, 0, 1, 0, 0, 0, 0, 0, 0, 0, 0, 0, 1, 1, 0, 1, 0, 0, 1, 0, 1, 0, 1, 1], [0, 0, 0, 1, 0, 0, 0, 0, 0, 0, 0, 0, 1, 1, 0, 0, 0, 1, 1, 1, 0, 1, 1, 0], [0, 0, 0, 0, 1, 0, 0, 0, 0, 0, 0, 0, 1, 1, 0, 0, 1, 1, 0, 1, 1, 0, 0, 1], [0, 0, 0, 0, 0, 1, 0, 0, 0, 0, 0, 0, 0, 1, 1, 0, 0, 1, 1, 0, 1, 1, 0, 1], [0, 0, 0, 0, 0, 0, 1, 0, 0, 0, 0, 0, 0, 0, 1, 1, 0, 0, 1, 1, 0, 1, 1, 1], [0, 0, 0, 0, 0, 0, 0, 1, 0, 0, 0, 0, 1, 0, 1, 1, 0, 1, 1, 1, 1, 0, 0, 0], [0, 0, 0, 0, 0, 0, 0, 0, 1, 0, 0, 0, 0, 1, 0, 1, 1, 0, 1, 1, 1, 1, 0, 0], [0, 0, 0, 0, 0, 0, 0, 0, 0, 1, 0, 0, 0, 0, 1, 0, 1, 1, 0, 1, 1, 1, 1, 0], [0, 0, 0, 0, 0, 0, 0, 0, 0, 0, 1, 0, 1, 0, 1, 1, 1, 0, 0, 0, 1, 1, 0, 1], [0, 0, 0, 0, 0, 0, 0, 0, 0, 0, 0, 1, 0, 1, 0, 1, 1, 1, 0, 0, 0, 1, 1, 1]]
def F2C : List (List Nat) := [[1, 0, 1, 0, 0, 1, 0, 0, 1, 1, 1, 1], [0, 1, 0, 1, 0, 0, 1, 0, 0, 1, 1, 1], [0, 0, 1, 0, 1, 0, 0, 1, 0, 0, 1, 1], [0, 0, 0, 1, 0, 1, 0, 0, 1, 0, 0, 1], [0, 0, 0, 0, 1, 0, 1, 0, 0, 1, 0, 0], [0, 0, 0, 0, 0, 1, 0, 1, 0, 0, 1, 0], [0, 0, 0, 0, 0, 0, 1, 0, 1, 0, 0, 1], [0, 0, 0, 0, 0, 0, 0, 1, 0, 1, 0, 0], [0, 0, 0, 0, 0, 0, 0, 0, 1, 0, 1, 0], [0, 0, 0, 0, 0, 0, 0, 0, 0, 1, 0, 1], [0, 0, 0, 0, 0, 0, 0, 0, 0, 0, 1, 0], [0, 0, 0, 0, 0, 0, 0, 0, 0, 0, 0, 1]]
def F3L : List (List Nat) := [[1, 0, 0, 0, 0, 0, 2, 0, 1, 2, 1, 2], [0, 1, 0, 0, 0, 0, 1, 2, 2, 2, 1, 0], [0, 0, 1, 0, 0, 0, 1, 1, 1, 0, 1, 1], [0, 0, 0, 1, 0, 0, 1, 1, 0, 2, 2, 2], [0, 0, 0, 0, 1, 0, 2, 1, 2, 2, 0, 1], [0, 0, 0, 0, 0, 1, 0, 2, 1, 2, 2, 1]]
def F3C : List (List Nat) := [[2, 0, 2, 1, 1, 1], [0, 2, 0, 2, 1, 1], [0, 0, 2, 0, 2, 1], [0, 0, 0, 2, 0, 2], [0, 0, 0, 0, 2, 0], [0, 0, 0, 0, 0, 2]]
/-! the two codes -/
def F2M : Nat → Nat → Nat := fun i => xtd F2 23 (psh i F2g)
def F3M : Nat → Nat → Nat := fun i => xtd F3 11 (psh i F3g)
theorem psh_bd6 {g : Nat → Nat} {m n i : Nat} (hg : Bd m g) (h : i + m ≤ n) : Bd n (psh i g) := fun j hj => by
  unfold psh
  rw [if_pos (by omega)]; exact hg _ (by omega)
theorem F2_gol : RRE F2 24 12 (lrs F2L) (fun i => i) ∧ Red F2 24 12 F2M 12 (lrs F2L) ∧ ∀ i j, i < 12 → j < 12 → dot F2 (lrs F2L i) (lrs F2L j) 24 = 0 :=
  gol_rre (fld F2_in) (C := lrs F2C) (by decide +kernel) (by omega) (fun i hi => xtd_bd (psh_bd6 F2g_bd (by omega))) (fun i _ => lrs_bd (by decide +kernel) i)
theorem F3_gol : RRE F3 12 6 (lrs F3L) (fun i => i) ∧ Red F3 12 6 F3M 6 (lrs F3L) ∧ ∀ i j, i < 6 → j < 6 → dot F3 (lrs F3L i) (lrs F3L j) 12 = 0 :=
  gol_rre (fld F3_in) (C := lrs F3C) (by decide +kernel) (by omega) (fun i hi => xtd_bd (psh_bd6 F3g_bd (by omega))) (fun i _ => lrs_bd (by decide +kernel) i)
theorem F2_ad6 {a b : Nat} (ha : a < F2.q) (hb : b < F2.q) : F2.ad a b = (a + b) % F2.q := by
  have h : (List.range 2).all (fun a => (List.range 2).all fun b => F2.ad a b == (a + b) % 2) = true := by decide +kernel
  exact eq_of_beq (List.all_eq_true.1 (List.all_eq_true.1 h a (List.mem_range.2 ha)) b (List.mem_range.2 hb))
theorem F2_mu6 {a b : Nat} (ha : a < F2.q) (hb : b < F2.q) : F2.mul a b = a * b % F2.q := by
  have h : (List.range 2).all (fun a => (List.range 2).all fun b => F2.mul a b == a * b % 2) = true := by decide +kernel
  exact eq_of_beq (List.all_eq_true.1 (List.all_eq_true.1 h a (List.mem_range.2 ha)) b (List.mem_range.2 hb))
theorem F3_ad6 {a b : Nat} (ha : a < F3.q) (hb : b < F3.q) : F3.ad a b = (a + b) % F3.q := by
  have h : (List.range 3).all (fun a => (List.range 3).all fun b => F3.ad a b == (a + b) % 3) = true := by decide +kernel
  exact eq_of_beq (List.all_eq_true.1 (List.all_eq_true.1 h a (List.mem_range.2 ha)) b (List.mem_range.2 hb))
theorem F3_mu6 {a b : Nat} (ha : a < F3.q) (hb : b < F3.q) : F3.mul a b = a * b % F3.q := by
  have h : (List.range 3).all (fun a => (List.range 3).all fun b => F3.mul a b == a * b % 3) = true := by decide +kernel
  exact eq_of_beq (List.all_eq_true.1 (List.all_eq_true.1 h a (List.mem_range.2 ha)) b (List.mem_range.2 hb))
theorem lrs_el {D : FD} (F : Fld D) {L : List (List Nat)} (h : (L.all fun l => l.all fun x => decide (x < D.q)) = true) (i : Nat) : El D (lrs L i) := by
  unfold lrs
  refine lsf_el ?_
  rw [decide_eq_true (zero_lt' F), Bool.true_and]
  by_cases e : i < L.length
  · have hm : L.getD i [] ∈ L := by simp [List.getD_eq_getElem?_getD, e]
    exact List.all_eq_true.1 h _ hm
  · have : L.getD i [] = [] := by rw [List.getD_eq_getElem?_getD, List.getElem?_eq_none (by omega)]; rfl
    rw [this]; rfl
/-! without a place -/
end Go.Proofs.YtpgaakjldlcejaaDoor

/- Golay: together, ball. -/
namespace Go.Proofs.YtpgaakjldlcejaaDoor
open Go.RowKit Go.Sort

end Go.Proofs.YtpgaakjldlcejaaDoor

/- Golay: Perfect, of a code whose words lie far enough apart and fill all. -/
namespace Go.Proofs.YtpgaakjldlcejaaDoor
open Go.RowKit Go.Sort

end Go.Proofs.YtpgaakjldlcejaaDoor

/- TopGolay: what the calls tell of Golay's two codes. -/
namespace Go.Proofs.YtpgaakjldlcejaaDoor
open Go.RowKit Go.Sort

theorem Cod.congr {D : FD} {n m : Nat} {ao : Option Addr} {M M' : Nat → Nat → Nat} {w : World} (h : Cod D n ao m M w) (e : ∀ i, i < m → M i = M' i) : Cod D n ao m M' w := by
  obtain ⟨A, N, C, Z, h1, h2⟩ := h
  exact ⟨A, N, C, Z, h1, fun i hi => (h2 i hi).trans (e i hi)⟩
/-- A code whose reduced rows are known. -/
theorem cod_red {D : FD} (hD : D ∈ fieldsL) {B n K k : Nat} {M R R0 : Nat → Nat → Nat} {ro : Option Addr} {rc : Nat} {w : World} (h0 : Red D n K M K R0) (hred : Red D n K M k R) (hmv : MV B (.slice ro k rc) k n R w) (hn1 : 1 ≤ n) (hn : n ≤ 64) : k = K ∧ Cod D n ro k R0 w ∧ RL (.slice ro k rc) k n R0 w := by
  obtain ⟨e1, e2⟩ := Red.uniq (fld hD) hred h0 (fun _ => Iff.rfl)
  have hle := Red.le hred
  exact ⟨e1, (hmv.cod hn1 hn (by omega) hred.rows.1 hred.rows.2).congr e2, hmv.rl.congr (fun i hi => e2 i hi)⟩

set_option maxHeartbeats 4000000 in
set_option maxRecDepth 100000 in
theorem binM_any (w : World) :
    Calls Tryd.prog 6 #[] w fun x w' => ∃ k R ro rc, x = .returned (.agg #[.int .i64 2, .int .i64 24, .slice ro k rc]) ∧ (∃ B0, w.heap.size < B0 ∧ MV B0 (.slice ro k rc) k 24 R w') ∧ Red F2 24 12 (fun i => xtd F2 23 (psh i F2g)) k R ∧ Below w.heap.size w w' := by
  obtain ⟨w0, hw0⟩ : ∃ w0, w0 = (w.alloc (.cells #[.int .i64 0, .int .i64 0, .slice none 0 0] 28)).alloc (.cells #[.int .i64 1, .int .i64 0, .int .i64 1, .int .i64 0, .int .i64 1, .int .i64 1, .int .i64 1, .int .i64 0, .int .i64 0, .int .i64 0, .int .i64 1, .int .i64 1] 3) := ⟨_, rfl⟩
  have HW : Hid (Below w.heap.size w w0 ∧ RB w.heap.size w0 ∧ Arg (some ⟨w.heap.size + 1, 0, none⟩) 12 12 (fun j => ((F2g j : Nat) : Int)) w0) := by
    obtain ⟨g1, g2, g3⟩ := box_at 0 0 (.slice none 0 0) w
    have g4 := RB.new (.int .i64 0) (.int .i64 0) (.slice none 0 0) w
    obtain ⟨w1, hw1⟩ : ∃ w1, w1 = w.alloc (.cells #[.int .i64 0, .int .i64 0, .slice none 0 0] 28) := ⟨_, rfl⟩
    rw [← hw1] at g1 g2 g3 g4 hw0
    have h1 : Below w1.heap.size w1 w0 := by rw [hw0]; exact (Below.refl _ _).alloc (Nat.le_refl _) _
    refine ⟨bel_up' g1 h1, g4.keep h1, ?_⟩
    rw [← g3, hw0]
    exact arg_lsf [1, 0, 1, 0, 1, 1, 1, 0, 0, 0, 1, 1] w1
  have HE : Hid (∀ wx, Below w0.heap.size w0 wx → Calls Tryd.prog 17 #[.int .i64 2, .int .i64 23, .slice (some ⟨w.heap.size + 1, 0, none⟩) 12 12] wx fun x w' => ∃ k R ro rc, x = .returned (.agg #[.int .i64 2, .int .i64 24, .slice ro k rc]) ∧ MV wx.heap.size (.slice ro k rc) k 24 R w' ∧ Red F2 24 12 (fun i => xtd F2 23 (psh i F2g)) k R ∧ Below wx.heap.size wx w') := fun wx hx => by
    exact gext_any (n := 23) F2_in (HW.out.2.2.below hx) (by omega) F2g_el F2g_bd (by decide) (by omega) (by omega) (K := 12) (by omega) F2q_el F2q_bd (by decide) F2_mul
  go_enter Tryd.func6, Tryd.ntmps6
  go_wp2_with fail
  rw [← hw0]
  clear hw0
  refine (HE.out _ (Below.refl _ _)).mono ?_
  rintro x w2 ⟨k, R, ro, rc, rfl, hmv, hred, hb2⟩
  have H2 : Hid (MV w0.heap.size (.slice ro k rc) k 24 R w2 ∧ Red F2 24 12 (fun i => xtd F2 23 (psh i F2g)) k R ∧ Below w.heap.size w w2 ∧ RB w.heap.size w2 ∧ w.heap.size < w0.heap.size) := ⟨hmv, hred, bel_up' HW.out.1 hb2, HW.out.2.1.keep hb2, by obtain ⟨⟨x0, c0⟩, _⟩ := HW.out.2.1; exact cell_lt c0⟩
  clear hmv hred hb2
  obtain ⟨⟨x0, c0⟩, ⟨x1, c1⟩, ⟨x2, c2⟩, f0, f1, f2⟩ := H2.out.2.2.2.1
  go_wp2
  obtain ⟨w3, hw3⟩ : ∃ w3, w3 = laid w2 w.heap.size 2 24 (.slice ro k rc) := ⟨_, rfl⟩
  have H3 : Hid (CB w.heap.size 2 24 (.slice ro k rc) w3 ∧ MV w0.heap.size (.slice ro k rc) k 24 R w3 ∧ Below w.heap.size w w3) := by
    rw [hw3]; exact ⟨laid_cb H2.out.2.2.2.1 _ _ _, laid_mv H2.out.1 H2.out.2.2.2.2 _ _ _, laid_below H2.out.2.2.1 (Nat.le_refl _) _ _ _⟩
  unfold laid at hw3
  rw [← hw3]
  clear hw3 c0 c1 c2 f0 f1 f2
  obtain ⟨c0, c1, c2⟩ := H3.out.1
  refine bodyPost_ret (v := .agg #[.int .i64 2, .int .i64 24, .slice ro k rc]) (by simp [results, Tryd.results6, go_sem, c0, c1, c2]) rfl ?_
  exact ⟨_, R, _, _, rfl, ⟨_, H2.out.2.2.2.2, H3.out.2.1⟩, H2.out.2.1, H3.out.2.2⟩
theorem bin_cod (w : World) :
    Calls Tryd.prog 6 #[] w fun x w' => ∃ ro rc, x = .returned (.agg #[.int .i64 2, .int .i64 24, .slice ro 12 rc]) ∧ (Cod F2 24 ro 12 (lrs F2L) w' ∧ RL (.slice ro 12 rc) 12 24 (lrs F2L) w') ∧ Below w.heap.size w w' := by
  refine (binM_any w).mono ?_
  rintro x w' ⟨k, R, ro, rc, rfl, ⟨B0, _, hmv⟩, hred, hb⟩
  obtain ⟨e, h1, h2⟩ := cod_red F2_in F2_gol.2.1 hred hmv (by omega) (by omega)
  subst e
  exact ⟨ro, rc, rfl, ⟨h1, h2⟩, hb⟩

set_option maxHeartbeats 4000000 in
set_option maxRecDepth 100000 in
theorem ternM_any (w : World) :
    Calls Tryd.prog 7 #[] w fun x w' => ∃ k R ro rc, x = .returned (.agg #[.int .i64 3, .int .i64 12, .slice ro k rc]) ∧ (∃ B0, w.heap.size < B0 ∧ MV B0 (.slice ro k rc) k 12 R w') ∧ Red F3 12 6 (fun i => xtd F3 11 (psh i F3g)) k R ∧ Below w.heap.size w w' := by
  obtain ⟨w0, hw0⟩ : ∃ w0, w0 = (w.alloc (.cells #[.int .i64 0, .int .i64 0, .slice none 0 0] 28)).alloc (.cells #[.int .i64 2, .int .i64 0, .int .i64 1, .int .i64 2, .int .i64 1, .int .i64 1] 3) := ⟨_, rfl⟩
  have HW : Hid (Below w.heap.size w w0 ∧ RB w.heap.size w0 ∧ Arg (some ⟨w.heap.size + 1, 0, none⟩) 6 6 (fun j => ((F3g j : Nat) : Int)) w0) := by
    obtain ⟨g1, g2, g3⟩ := box_at 0 0 (.slice none 0 0) w
    have g4 := RB.new (.int .i64 0) (.int .i64 0) (.slice none 0 0) w
    obtain ⟨w1, hw1⟩ : ∃ w1, w1 = w.alloc (.cells #[.int .i64 0, .int .i64 0, .slice none 0 0] 28) := ⟨_, rfl⟩
    rw [← hw1] at g1 g2 g3 g4 hw0
    have h1 : Below w1.heap.size w1 w0 := by rw [hw0]; exact (Below.refl _ _).alloc (Nat.le_refl _) _
    refine ⟨bel_up' g1 h1, g4.keep h1, ?_⟩
    rw [← g3, hw0]
    exact arg_lsf [2, 0, 1, 2, 1, 1] w1
  have HE : Hid (∀ wx, Below w0.heap.size w0 wx → Calls Tryd.prog 17 #[.int .i64 3, .int .i64 11, .slice (some ⟨w.heap.size + 1, 0, none⟩) 6 6] wx fun x w' => ∃ k R ro rc, x = .returned (.agg #[.int .i64 3, .int .i64 12, .slice ro k rc]) ∧ MV wx.heap.size (.slice ro k rc) k 12 R w' ∧ Red F3 12 6 (fun i => xtd F3 11 (psh i F3g)) k R ∧ Below wx.heap.size wx w') := fun wx hx => by
    exact gext_any (n := 11) F3_in (HW.out.2.2.below hx) (by omega) F3g_el F3g_bd (by decide) (by omega) (by omega) (K := 6) (by omega) F3q_el F3q_bd (by decide) F3_mul
  go_enter Tryd.func7, Tryd.ntmps7
  go_wp2_with fail
  rw [← hw0]
  clear hw0
  refine (HE.out _ (Below.refl _ _)).mono ?_
  rintro x w2 ⟨k, R, ro, rc, rfl, hmv, hred, hb2⟩
  have H2 : Hid (MV w0.heap.size (.slice ro k rc) k 12 R w2 ∧ Red F3 12 6 (fun i => xtd F3 11 (psh i F3g)) k R ∧ Below w.heap.size w w2 ∧ RB w.heap.size w2 ∧ w.heap.size < w0.heap.size) := ⟨hmv, hred, bel_up' HW.out.1 hb2, HW.out.2.1.keep hb2, by obtain ⟨⟨x0, c0⟩, _⟩ := HW.out.2.1; exact cell_lt c0⟩
  clear hmv hred hb2
  obtain ⟨⟨x0, c0⟩, ⟨x1, c1⟩, ⟨x2, c2⟩, f0, f1, f2⟩ := H2.out.2.2.2.1
  go_wp2
  obtain ⟨w3, hw3⟩ : ∃ w3, w3 = laid w2 w.heap.size 3 12 (.slice ro k rc) := ⟨_, rfl⟩
  have H3 : Hid (CB w.heap.size 3 12 (.slice ro k rc) w3 ∧ MV w0.heap.size (.slice ro k rc) k 12 R w3 ∧ Below w.heap.size w w3) := by
    rw [hw3]; exact ⟨laid_cb H2.out.2.2.2.1 _ _ _, laid_mv H2.out.1 H2.out.2.2.2.2 _ _ _, laid_below H2.out.2.2.1 (Nat.le_refl _) _ _ _⟩
  unfold laid at hw3
  rw [← hw3]
  clear hw3 c0 c1 c2 f0 f1 f2
  obtain ⟨c0, c1, c2⟩ := H3.out.1
  refine bodyPost_ret (v := .agg #[.int .i64 3, .int .i64 12, .slice ro k rc]) (by simp [results, Tryd.results7, go_sem, c0, c1, c2]) rfl ?_
  exact ⟨_, R, _, _, rfl, ⟨_, H2.out.2.2.2.2, H3.out.2.1⟩, H2.out.2.1, H3.out.2.2⟩
theorem tern_cod (w : World) :
    Calls Tryd.prog 7 #[] w fun x w' => ∃ ro rc, x = .returned (.agg #[.int .i64 3, .int .i64 12, .slice ro 6 rc]) ∧ (Cod F3 12 ro 6 (lrs F3L) w' ∧ RL (.slice ro 6 rc) 6 12 (lrs F3L) w') ∧ Below w.heap.size w w' := by
  refine (ternM_any w).mono ?_
  rintro x w' ⟨k, R, ro, rc, rfl, ⟨B0, _, hmv⟩, hred, hb⟩
  obtain ⟨e, h1, h2⟩ := cod_red F3_in F3_gol.2.1 hred hmv (by omega) (by omega)
  subst e
  exact ⟨ro, rc, rfl, ⟨h1, h2⟩, hb⟩

end Go.Proofs.YtpgaakjldlcejaaDoor
