/- Texts of ours, one behind the other: KT9 S71. -/
import Derived.Test.YtppggchhkckobaaGreatZKT7
import Derived.Test.YtppggchhkckobaaGreatZA1
import Derived.BigQuiet
import Derived.Test.YtppggchhkckobaaGreatZS70
import Derived.Test.YtppggchhkckobaaGreatZS14
/- Cyclic: the tops' sizeOf. -/
namespace Go.Proofs.YtppggchhkckobaaGreat
open Go.RowKit Go.Sort

/-- Fields and lengths. -/
def stb : List (Nat × Nat) := [(2, 3), (2, 5), (2, 7), (2, 9), (2, 15), (2, 21), (3, 4), (3, 8), (3, 13), (4, 3), (4, 5), (4, 15), (5, 4), (5, 6), (7, 6), (8, 7), (8, 9), (9, 8)]
theorem stb_chk : (stb.all fun p => fieldsL.any fun E => E.q == p.1 && decide (1 ≤ p.2) && decide (p.2 ≤ 64) && decide (p.2 % E.p ≠ 0) && (List.range 7).any fun i => decide (E.q ^ (i + 1) ≤ 64) && decide ((E.q ^ (i + 1) - 1) % p.2 = 0)) = true := by decide +kernel
theorem stb_of {q n : Nat} (h : (q, n) ∈ stb) : ∃ E, E.q = q ∧ Szo E n := by
  have k := List.all_eq_true.1 stb_chk (q, n) h
  obtain ⟨E, hE, k⟩ := List.any_eq_true.1 k
  simp only [Bool.and_eq_true, beq_iff_eq, decide_eq_true_eq] at k
  obtain ⟨⟨⟨⟨k1, k2⟩, k3⟩, k4⟩, k5⟩ := k
  refine ⟨E, k1, hE, k2, k3, k4, fun hn => ?_⟩
  obtain ⟨i, _, k⟩ := List.any_eq_true.1 k5
  simp only [Bool.and_eq_true, decide_eq_true_eq] at k
  exact hn i k.1 k.2

/-- Blocks, laid one behind the other. -/
def alcL (w : World) : List Obj → World
  | [] => w
  | o :: l => alcL (w.alloc o) l
theorem alcL_bel : ∀ (l : List Obj) (w : World), Below w.heap.size w (alcL w l)
  | [], w => Below.refl _ _
  | o :: l, w => by
    have h1 : Below w.heap.size w (w.alloc o) := (Below.refl _ _).alloc (Nat.le_refl _) _
    exact bel_up' h1 (alcL_bel l (w.alloc o))
theorem alcL_at : ∀ (l : List Obj) (w : World) (i : Nat), i < l.length → (alcL w l).heap[w.heap.size + i]? = l[i]?
  | [], _, i, h => absurd h (by simp)
  | o :: l, w, 0, _ => by
    show (alcL (w.alloc o) l).heap[w.heap.size]? = some o
    rw [(alcL_bel l (w.alloc o)).block _ (by simp)]
    exact heap_alloc_new w o
  | o :: l, w, i + 1, h => by
    have := alcL_at l (w.alloc o) i (by simpa using h)
    rw [show (w.alloc o).heap.size + i = w.heap.size + (i + 1) by simp; omega] at this
    exact this
def stO (s : Nat) : List Obj := [.cells #[.int .i64 2, .int .i64 3] 3, .cells #[.int .i64 2, .int .i64 5] 3, .cells #[.int .i64 2, .int .i64 7] 3, .cells #[.int .i64 2, .int .i64 9] 3, .cells #[.int .i64 2, .int .i64 15] 3, .cells #[.int .i64 2, .int .i64 21] 3, .cells #[.int .i64 3, .int .i64 4] 3, .cells #[.int .i64 3, .int .i64 8] 3, .cells #[.int .i64 3, .int .i64 13] 3, .cells #[.int .i64 4, .int .i64 3] 3, .cells #[.int .i64 4, .int .i64 5] 3, .cells #[.int .i64 4, .int .i64 15] 3, .cells #[.int .i64 5, .int .i64 4] 3, .cells #[.int .i64 5, .int .i64 6] 3, .cells #[.int .i64 7, .int .i64 6] 3, .cells #[.int .i64 8, .int .i64 7] 3, .cells #[.int .i64 8, .int .i64 9] 3, .cells #[.int .i64 9, .int .i64 8] 3, .cells #[.slice (some ⟨s, 0, none⟩) 2 2, .slice (some ⟨s + 1, 0, none⟩) 2 2, .slice (some ⟨s + 1 + 1, 0, none⟩) 2 2, .slice (some ⟨s + 1 + 1 + 1, 0, none⟩) 2 2, .slice (some ⟨s + 1 + 1 + 1 + 1, 0, none⟩) 2 2, .slice (some ⟨s + 1 + 1 + 1 + 1 + 1, 0, none⟩) 2 2, .slice (some ⟨s + 1 + 1 + 1 + 1 + 1 + 1, 0, none⟩) 2 2, .slice (some ⟨s + 1 + 1 + 1 + 1 + 1 + 1 + 1, 0, none⟩) 2 2, .slice (some ⟨s + 1 + 1 + 1 + 1 + 1 + 1 + 1 + 1, 0, none⟩) 2 2, .slice (some ⟨s + 1 + 1 + 1 + 1 + 1 + 1 + 1 + 1 + 1, 0, none⟩) 2 2, .slice (some ⟨s + 1 + 1 + 1 + 1 + 1 + 1 + 1 + 1 + 1 + 1, 0, none⟩) 2 2, .slice (some ⟨s + 1 + 1 + 1 + 1 + 1 + 1 + 1 + 1 + 1 + 1 + 1, 0, none⟩) 2 2, .slice (some ⟨s + 1 + 1 + 1 + 1 + 1 + 1 + 1 + 1 + 1 + 1 + 1 + 1, 0, none⟩) 2 2, .slice (some ⟨s + 1 + 1 + 1 + 1 + 1 + 1 + 1 + 1 + 1 + 1 + 1 + 1 + 1, 0, none⟩) 2 2, .slice (some ⟨s + 1 + 1 + 1 + 1 + 1 + 1 + 1 + 1 + 1 + 1 + 1 + 1 + 1 + 1, 0, none⟩) 2 2, .slice (some ⟨s + 1 + 1 + 1 + 1 + 1 + 1 + 1 + 1 + 1 + 1 + 1 + 1 + 1 + 1 + 1, 0, none⟩) 2 2, .slice (some ⟨s + 1 + 1 + 1 + 1 + 1 + 1 + 1 + 1 + 1 + 1 + 1 + 1 + 1 + 1 + 1 + 1, 0, none⟩) 2 2, .slice (some ⟨s + 1 + 1 + 1 + 1 + 1 + 1 + 1 + 1 + 1 + 1 + 1 + 1 + 1 + 1 + 1 + 1 + 1, 0, none⟩) 2 2] 22]
theorem stO_at {i : Nat} (hi : i < 18) (s : Nat) : (stO s)[i]? = some (.cells #[.int .i64 ((stb.getD i (0, 0)).1 : Nat), .int .i64 ((stb.getD i (0, 0)).2 : Nat)] 3) ∧ (∃ cs, (stO s)[18]? = some (.cells cs 22) ∧ cs[i]? = some (.slice (some ⟨s + i, 0, none⟩) 2 2)) := by
  have : i = 0 ∨ i = 1 ∨ i = 2 ∨ i = 3 ∨ i = 4 ∨ i = 5 ∨ i = 6 ∨ i = 7 ∨ i = 8 ∨ i = 9 ∨ i = 10 ∨ i = 11 ∨ i = 12 ∨ i = 13 ∨ i = 14 ∨ i = 15 ∨ i = 16 ∨ i = 17 := by omega
  rcases this with rfl | rfl | rfl | rfl | rfl | rfl | rfl | rfl | rfl | rfl | rfl | rfl | rfl | rfl | rfl | rfl | rfl | rfl
  all_goals exact ⟨rfl, _, rfl, rfl⟩
theorem stb_mem {i : Nat} (hi : i < 18) : ((stb.getD i (0, 0)).1, (stb.getD i (0, 0)).2) ∈ stb := by
  rw [List.getD_eq_getElem?_getD, List.getElem?_eq_getElem (show i < stb.length from hi)]
  exact List.getElem_mem _

set_option maxHeartbeats 8000000 in
set_option maxRecDepth 100000 in
theorem sizeOf_top {c : Int} (h1 : -9223372036854775808 ≤ c) (h2 : c ≤ 9223372036854775807) (w : World) :
    Calls Tryz.prog 25 #[.int .i64 c] w fun e w' => ∃ q n : Nat, e = .returned (.tuple #[.int .i64 (q : Nat), .int .i64 (n : Nat)]) ∧ (q, n) ∈ stb ∧ Below w.heap.size w w' := by
  obtain ⟨i, hi, hpe⟩ : ∃ i : Nat, i < 18 ∧ ∀ wx : World, Calls Tryz.prog 23 #[.int .i64 c, .int .i64 18] wx fun e w' => e = .returned (.int .i64 (i : Nat)) ∧ w' = wx := by
    have a1 := pick_lo c 18 (by omega)
    have a2 := pick_hi c 18 (by omega)
    refine ⟨(pick c 18).toNat, by omega, fun wx => ?_⟩
    rw [Int.toNat_of_nonneg a1]
    exact pick_any c 18 wx h1 h2 (by omega) (by omega)
  have HP : Hid (∀ wx : World, Calls Tryz.prog 23 #[.int .i64 c, .int .i64 18] wx fun e w' => e = .returned (.int .i64 (i : Nat)) ∧ w' = wx) := hpe
  clear hpe h1 h2
  go_enter Tryz.func25, Tryz.ntmps25
  go_wp2_with fail
  change Calls Tryz.prog 23 #[.int .i64 c, .int .i64 18] (alcL w (stO w.heap.size)) _
  obtain ⟨W, hW⟩ : ∃ W, W = alcL w (stO w.heap.size) := ⟨_, rfl⟩
  obtain ⟨B, hB⟩ : ∃ B, B = w.heap.size + 1 + 1 + 1 + 1 + 1 + 1 + 1 + 1 + 1 + 1 + 1 + 1 + 1 + 1 + 1 + 1 + 1 + 1 := ⟨_, rfl⟩
  obtain ⟨g, hg⟩ : ∃ g, g = w.heap.size + i := ⟨_, rfl⟩
  obtain ⟨q, hq⟩ : ∃ q, q = (stb.getD i (0, 0)).1 := ⟨_, rfl⟩
  obtain ⟨n, hn⟩ : ∃ n, n = (stb.getD i (0, 0)).2 := ⟨_, rfl⟩
  obtain ⟨h3, cs, h4, h5⟩ := stO_at hi w.heap.size
  have hlen : (stO w.heap.size).length = 19 := rfl
  have a1 := alcL_at (stO w.heap.size) w i (by rw [hlen]; omega)
  have a2 := alcL_at (stO w.heap.size) w 18 (by rw [hlen]; omega)
  rw [h3, ← hW, ← hg, ← hq, ← hn] at a1
  rw [h4, ← hW] at a2
  have hB2 : B = w.heap.size + 18 := hB
  rw [← hB2] at a2
  have k1 : W.cell? ⟨B, i, none⟩ = some (.slice (some ⟨g, 0, none⟩) 2 2) := by rw [cell_of_row _ _ _ _ _ (0, 0) a2, hg]; exact h5
  have k2 : W.cell? ⟨g, 0, none⟩ = some (.int .i64 (q : Nat)) := by rw [cell_of_row _ _ _ _ _ (0, 0) a1]; rfl
  have k3 : W.cell? ⟨g, 1, none⟩ = some (.int .i64 (n : Nat)) := by rw [cell_of_row _ _ _ _ _ (0, 0) a1]; rfl
  have HR : Hid ((q, n) ∈ stb ∧ Below w.heap.size w W) := ⟨by rw [hq, hn]; exact stb_mem hi, by rw [hW]; exact alcL_bel _ _⟩
  have hib : (i : Int) < 18 := by omega
  have hib0 : (0 : Int) ≤ (i : Int) := by omega
  rw [← hW, ← hB]
  clear hW hB hB2 hg hq hn h3 h4 h5 hlen a1 a2
  refine (HP.out W).mono ?_
  rintro e w' ⟨rfl, hw⟩
  have hw := hw.symm
  subst hw
  go_wp2
  go_quiet (fail)
  go_wp2
  go_ret2
  exact ⟨q, n, rfl, HR.out.1, ⟨HR.out.2.os, HR.out.2.tape, HR.out.2.output, HR.out.2.size, HR.out.2.block⟩⟩
end Go.Proofs.YtppggchhkckobaaGreat

/- Multiples of a polynomial: so many as there are places; a dual there is (plain mathematics). -/
namespace Go.Proofs.YtppggchhkckobaaGreat
open Go.RowKit Go.Sort

theorem bd_psh {m i : Nat} {g : Nat → Nat} (h : Bd m g) : Bd (i + m) (psh i g) := fun j hj => by
  show (if i ≤ j then g (j - i) else 0) = 0
  rw [if_pos (by omega), h _ (by omega)]
theorem bd_up {m n : Nat} {g : Nat → Nat} (h : Bd m g) (e : m ≤ n) : Bd n g := fun j hj => h j (by omega)
theorem spn_bdT {D : FD} (F : Fld D) {P : (Nat → Nat) → Prop} {n : Nat} (hP : ∀ v, P v → Bd n v) {v : Nat → Nat} (h : Spn D P v) : Bd n v := by
  refine spn_ind (Q := Bd n) (fun k _ => rfl) (fun a b ha hb k hk => ?_) (fun s a ha k hk => ?_) hP h
  · show D.ad (a k) (b k) = 0
    rw [ha k hk, hb k hk, ad_zero F (zero_lt' F)]
  · show D.mul s (a k) = 0
    rw [ha k hk, mul0 F]
theorem psh_free {D : FD} (F : Fld D) {g : Nat → Nat} {m : Nat} (hm : 1 ≤ m) (bg : Bd m g) (tg : g (m - 1) ≠ 0) (j : Nat) : ¬ Spn D (RowsOf j fun i => psh i g) (psh j g) := fun hs => by
  have hb : Bd (j + m - 1) (psh j g) := spn_bdT F (fun v hv => by
    obtain ⟨i, hi, rfl⟩ := hv
    exact bd_up (bd_psh bg) (by omega)) hs
  have h1 := hb (j + m - 1) (Nat.le_refl _)
  have h2 : psh j g (j + m - 1) = g (m - 1) := by
    show (if j ≤ j + m - 1 then g (j + m - 1 - j) else 0) = g (m - 1)
    rw [if_pos (by omega), show j + m - 1 - j = m - 1 by omega]
  exact tg (h2.symm.trans h1)
/-- As many rows as shifts. -/
theorem psh_red {D : FD} (hD : D ∈ fieldsL) {g : Nat → Nat} {m n K k : Nat} {R : Nat → Nat → Nat} (hm : 1 ≤ m) (eg : El D g) (bg : Bd m g) (tg : g (m - 1) ≠ 0) (hK : K + m = n + 1) (hr : Red D n K (fun i => psh i g) k R) : k = K := by
  obtain ⟨R', p, hR, hs⟩ := rre_full hD (n := n) (M := fun i => psh i g) K (fun i _ => el_sh (fld hD) i eg) (fun i hi => bd_up (bd_psh bg) (by omega)) (fun j _ => psh_free (fld hD) hm bg tg j)
  exact (Red.uniq (fld hD) hr ⟨p, hR, hs⟩ (fun _ => Iff.rfl)).1
theorem Red.dul {D : FD} (hD : D ∈ fieldsL) {n m k : Nat} {M R : Nat → Nat → Nat} (h : Red D n m M k R) : ∃ k2 R2, Dul D n k R k2 R2 := by
  obtain ⟨p, hr, _⟩ := h
  obtain ⟨R2, p2, h2, hs⟩ := rre_full hD (n := n) (M := nul D R p k n) (nct k p n) (fun i _ => nul_el (fld hD) hr.el _ _) (fun i hi => nul_bd hr.lt hi) (fun j hj => nul_ind (fld hD) hj)
  exact ⟨_, R2, k, R, p, p2, hr, fun _ => Iff.rfl, h2, hs, rfl⟩
theorem Red.self {D : FD} {n m k : Nat} {M R : Nat → Nat → Nat} (h : Red D n m M k R) : Red D n k R k R := by
  obtain ⟨p, hr, _⟩ := h
  exact ⟨p, hr, fun _ => Iff.rfl⟩
theorem twd_el {D : FD} (F : Fld D) {n : Nat} {v : Nat → Nat} (h : El D v) : El D (twd n v) := fun j => by
  show (if j = 0 then v (n - 1) else if j < n then v (j - 1) else 0) < D.q
  split
  · exact h _
  · split
    · exact h _
    · exact zero_lt' F
/-- Has, of a list that lies anywhere. -/
theorem Cod.hasA {D : FD} (hD : D ∈ fieldsL) {n m c : Nat} (ca : Nat) {ao yo : Option Addr} {M : Nat → Nat → Nat} {v : Nat → Nat} {w : World} (h : Cod D n ao m M w) (hW : Arg yo n c (fun i => ((v i : Nat) : Int)) w) (hv : El D v) (hs : Spn D (RowsOf m M) v) {k : Nat} {R : Nat → Nat → Nat} (hdu : Dul D n m M k R) :
    Calls Tryz.prog 27 #[.agg #[.int .i64 D.q, .int .i64 (n : Nat), .slice ao m ca], .slice yo n c] w fun x w' => x = .returned (.tuple #[.bool true, .int .i64 0]) ∧ Below w.heap.size w w' := by
  have hr := h.rows (fld hD)
  have hc := h.chk hD ca
  obtain ⟨_, hbd, hd0⟩ := (hdu.back (fld hD) hr.2.2 v).1 hs
  obtain ⟨A, N, C, Z, h1, h2⟩ := h
  have hdu2 : Dul D n m (mzc N Z) k R := hdu.of_spn (fun u => rows_congr (fun i hi => (h2 i hi).symm) u)
  have hk : D.nchk n (fun i => ((v i : Nat) : Int)) (n : Nat) = 0 := blw_nchk (fun j _ => ⟨by omega, by have := hv j; omega⟩)
  have hz : zc n (fun i => ((v i : Nat) : Int)) = v := by
    funext j
    unfold zc
    by_cases e : j < n
    · rw [if_pos e, Int.toNat_natCast]
    · rw [if_neg e, hbd j (by omega)]
  refine (cHas_ok D.q (n : Nat) (k := k) (v := fun i => dot D (R i) v n) (by have := hdu.le; omega) (fun wx hx => ?_)).mono ?_
  · have := cSyn_ok hD (h1.below hx) (hW.below hx) hdu2 hk (fun wy hy => hc wy (bel_up' hx hy))
    rw [hz] at this
    exact this
  · rintro x w' ⟨rfl, hb⟩
    refine ⟨?_, hb⟩
    have h0 : ct (fun i => !decide (((dot D (R i) v n : Nat) : Int) = 0)) k = 0 := ct_none k (fun i hi => by
      have e := hd0 i hi
      simp [e])
    rw [h0]
    rfl
end Go.Proofs.YtppggchhkckobaaGreat
