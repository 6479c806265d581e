/- Texts of ours, one behind the other: KT9 S71 KT11 KT12. -/
import Derived.Test.YtppggchhkckobaaGreatZKT7
import Derived.Test.YtppggchhkckobaaGreatZA1
import Derived.BigQuiet
import Derived.Test.YtppggchhkckobaaGreatZS69
import Derived.Test.YtppggchhkckobaaGreatZK6
/- Cyclic: the tops' sizeOf. -/
namespace Go.Proofs.YtppggchhkckobaaGreat
open Go.RowKit Go.Sort

/-- Fields and lengths. -/
def stb : List (Nat × Nat) := [(2, 3), (2, 5), (2, 7), (2, 9), (2, 15), (2, 21), (3, 4), (3, 8), (3, 13), (4, 3), (4, 5), (4, 15), (5, 4), (5, 6), (7, 6), (8, 7), (8, 9), (9, 8)]
theorem stb_chk : (stb.all fun p => fieldsL.any fun E => E.q == p.1 && decide (1 ≤ p.2) && decide (p.2 ≤ 64) && decide (p.2 % E.p ≠ 0) && (List.range 7).any fun i => decide (E.q ^ (i + 1) ≤ 64) && decide ((E.q ^ (i + 1) - 1) % p.2 = 0)) = true := by decide +kernel
theorem stb_of {q n : Nat} (h : (q, n) ∈ stb) : ∃ E, E.q = q ∧ Szo E n := by
  have k := List.all_eq_true.1 stb_chk (q, n) h
  obtain ⟨E, hE, k⟩ := List.any_eq_true.1 k
  simp only [Bool.and_eq_true, beq_iff_eq, decide_eq_true_eq] at k
  obtain ⟨⟨⟨⟨k1, k2⟩, k3⟩, k4⟩, k5⟩ := k
  refine ⟨E, k1, hE, k2, k3, k4, fun hn => ?_⟩
  obtain ⟨i, _, k⟩ := List.any_eq_true.1 k5
  simp only [Bool.and_eq_true, decide_eq_true_eq] at k
  exact hn i k.1 k.2

/-- Blocks, laid one behind the other. -/
def alcL (w : World) : List Obj → World
  | [] => w
  | o :: l => alcL (w.alloc o) l
theorem alcL_bel : ∀ (l : List Obj) (w : World), Below w.heap.size w (alcL w l)
  | [], w => Below.refl _ _
  | o :: l, w => by
    have h1 : Below w.heap.size w (w.alloc o) := (Below.refl _ _).alloc (Nat.le_refl _) _
    exact bel_up' h1 (alcL_bel l (w.alloc o))
theorem alcL_at : ∀ (l : List Obj) (w : World) (i : Nat), i < l.length → (alcL w l).heap[w.heap.size + i]? = l[i]?
  | [], _, i, h => absurd h (by simp)
  | o :: l, w, 0, _ => by
    show (alcL (w.alloc o) l).heap[w.heap.size]? = some o
    rw [(alcL_bel l (w.alloc o)).block _ (by simp)]
    exact heap_alloc_new w o
  | o :: l, w, i + 1, h => by
    have := alcL_at l (w.alloc o) i (by simpa using h)
    rw [show (w.alloc o).heap.size + i = w.heap.size + (i + 1) by simp; omega] at this
    exact this
def stO (s : Nat) : List Obj := [.cells #[.int .i64 2, .int .i64 3] 3, .cells #[.int .i64 2, .int .i64 5] 3, .cells #[.int .i64 2, .int .i64 7] 3, .cells #[.int .i64 2, .int .i64 9] 3, .cells #[.int .i64 2, .int .i64 15] 3, .cells #[.int .i64 2, .int .i64 21] 3, .cells #[.int .i64 3, .int .i64 4] 3, .cells #[.int .i64 3, .int .i64 8] 3, .cells #[.int .i64 3, .int .i64 13] 3, .cells #[.int .i64 4, .int .i64 3] 3, .cells #[.int .i64 4, .int .i64 5] 3, .cells #[.int .i64 4, .int .i64 15] 3, .cells #[.int .i64 5, .int .i64 4] 3, .cells #[.int .i64 5, .int .i64 6] 3, .cells #[.int .i64 7, .int .i64 6] 3, .cells #[.int .i64 8, .int .i64 7] 3, .cells #[.int .i64 8, .int .i64 9] 3, .cells #[.int .i64 9, .int .i64 8] 3, .cells #[.slice (some ⟨s, 0, none⟩) 2 2, .slice (some ⟨s + 1, 0, none⟩) 2 2, .slice (some ⟨s + 1 + 1, 0, none⟩) 2 2, .slice (some ⟨s + 1 + 1 + 1, 0, none⟩) 2 2, .slice (some ⟨s + 1 + 1 + 1 + 1, 0, none⟩) 2 2, .slice (some ⟨s + 1 + 1 + 1 + 1 + 1, 0, none⟩) 2 2, .slice (some ⟨s + 1 + 1 + 1 + 1 + 1 + 1, 0, none⟩) 2 2, .slice (some ⟨s + 1 + 1 + 1 + 1 + 1 + 1 + 1, 0, none⟩) 2 2, .slice (some ⟨s + 1 + 1 + 1 + 1 + 1 + 1 + 1 + 1, 0, none⟩) 2 2, .slice (some ⟨s + 1 + 1 + 1 + 1 + 1 + 1 + 1 + 1 + 1, 0, none⟩) 2 2, .slice (some ⟨s + 1 + 1 + 1 + 1 + 1 + 1 + 1 + 1 + 1 + 1, 0, none⟩) 2 2, .slice (some ⟨s + 1 + 1 + 1 + 1 + 1 + 1 + 1 + 1 + 1 + 1 + 1, 0, none⟩) 2 2, .slice (some ⟨s + 1 + 1 + 1 + 1 + 1 + 1 + 1 + 1 + 1 + 1 + 1 + 1, 0, none⟩) 2 2, .slice (some ⟨s + 1 + 1 + 1 + 1 + 1 + 1 + 1 + 1 + 1 + 1 + 1 + 1 + 1, 0, none⟩) 2 2, .slice (some ⟨s + 1 + 1 + 1 + 1 + 1 + 1 + 1 + 1 + 1 + 1 + 1 + 1 + 1 + 1, 0, none⟩) 2 2, .slice (some ⟨s + 1 + 1 + 1 + 1 + 1 + 1 + 1 + 1 + 1 + 1 + 1 + 1 + 1 + 1 + 1, 0, none⟩) 2 2, .slice (some ⟨s + 1 + 1 + 1 + 1 + 1 + 1 + 1 + 1 + 1 + 1 + 1 + 1 + 1 + 1 + 1 + 1, 0, none⟩) 2 2, .slice (some ⟨s + 1 + 1 + 1 + 1 + 1 + 1 + 1 + 1 + 1 + 1 + 1 + 1 + 1 + 1 + 1 + 1 + 1, 0, none⟩) 2 2] 22]
theorem stO_at {i : Nat} (hi : i < 18) (s : Nat) : (stO s)[i]? = some (.cells #[.int .i64 ((stb.getD i (0, 0)).1 : Nat), .int .i64 ((stb.getD i (0, 0)).2 : Nat)] 3) ∧ (∃ cs, (stO s)[18]? = some (.cells cs 22) ∧ cs[i]? = some (.slice (some ⟨s + i, 0, none⟩) 2 2)) := by
  have : i = 0 ∨ i = 1 ∨ i = 2 ∨ i = 3 ∨ i = 4 ∨ i = 5 ∨ i = 6 ∨ i = 7 ∨ i = 8 ∨ i = 9 ∨ i = 10 ∨ i = 11 ∨ i = 12 ∨ i = 13 ∨ i = 14 ∨ i = 15 ∨ i = 16 ∨ i = 17 := by omega
  rcases this with rfl | rfl | rfl | rfl | rfl | rfl | rfl | rfl | rfl | rfl | rfl | rfl | rfl | rfl | rfl | rfl | rfl | rfl
  all_goals exact ⟨rfl, _, rfl, rfl⟩
theorem stb_mem {i : Nat} (hi : i < 18) : ((stb.getD i (0, 0)).1, (stb.getD i (0, 0)).2) ∈ stb := by
  rw [List.getD_eq_getElem?_getD, List.getElem?_eq_getElem (show i < stb.length from hi)]
  exact List.getElem_mem _

set_option maxHeartbeats 8000000 in
set_option maxRecDepth 100000 in
theorem sizeOf_top {c : Int} (h1 : -9223372036854775808 ≤ c) (h2 : c ≤ 9223372036854775807) (w : World) :
    Calls Tryz.prog 25 #[.int .i64 c] w fun e w' => ∃ q n : Nat, e = .returned (.tuple #[.int .i64 (q : Nat), .int .i64 (n : Nat)]) ∧ (q, n) ∈ stb ∧ Below w.heap.size w w' := by
  obtain ⟨i, hi, hpe⟩ : ∃ i : Nat, i < 18 ∧ ∀ wx : World, Calls Tryz.prog 23 #[.int .i64 c, .int .i64 18] wx fun e w' => e = .returned (.int .i64 (i : Nat)) ∧ w' = wx := by
    have a1 := pick_lo c 18 (by omega)
    have a2 := pick_hi c 18 (by omega)
    refine ⟨(pick c 18).toNat, by omega, fun wx => ?_⟩
    rw [Int.toNat_of_nonneg a1]
    exact pick_any c 18 wx h1 h2 (by omega) (by omega)
  have HP : Hid (∀ wx : World, Calls Tryz.prog 23 #[.int .i64 c, .int .i64 18] wx fun e w' => e = .returned (.int .i64 (i : Nat)) ∧ w' = wx) := hpe
  clear hpe h1 h2
  go_enter Tryz.func25, Tryz.ntmps25
  go_wp2_with fail
  change Calls Tryz.prog 23 #[.int .i64 c, .int .i64 18] (alcL w (stO w.heap.size)) _
  obtain ⟨W, hW⟩ : ∃ W, W = alcL w (stO w.heap.size) := ⟨_, rfl⟩
  obtain ⟨B, hB⟩ : ∃ B, B = w.heap.size + 1 + 1 + 1 + 1 + 1 + 1 + 1 + 1 + 1 + 1 + 1 + 1 + 1 + 1 + 1 + 1 + 1 + 1 := ⟨_, rfl⟩
  obtain ⟨g, hg⟩ : ∃ g, g = w.heap.size + i := ⟨_, rfl⟩
  obtain ⟨q, hq⟩ : ∃ q, q = (stb.getD i (0, 0)).1 := ⟨_, rfl⟩
  obtain ⟨n, hn⟩ : ∃ n, n = (stb.getD i (0, 0)).2 := ⟨_, rfl⟩
  obtain ⟨h3, cs, h4, h5⟩ := stO_at hi w.heap.size
  have hlen : (stO w.heap.size).length = 19 := rfl
  have a1 := alcL_at (stO w.heap.size) w i (by rw [hlen]; omega)
  have a2 := alcL_at (stO w.heap.size) w 18 (by rw [hlen]; omega)
  rw [h3, ← hW, ← hg, ← hq, ← hn] at a1
  rw [h4, ← hW] at a2
  have hB2 : B = w.heap.size + 18 := hB
  rw [← hB2] at a2
  have k1 : W.cell? ⟨B, i, none⟩ = some (.slice (some ⟨g, 0, none⟩) 2 2) := by rw [cell_of_row _ _ _ _ _ (0, 0) a2, hg]; exact h5
  have k2 : W.cell? ⟨g, 0, none⟩ = some (.int .i64 (q : Nat)) := by rw [cell_of_row _ _ _ _ _ (0, 0) a1]; rfl
  have k3 : W.cell? ⟨g, 1, none⟩ = some (.int .i64 (n : Nat)) := by rw [cell_of_row _ _ _ _ _ (0, 0) a1]; rfl
  have HR : Hid ((q, n) ∈ stb ∧ Below w.heap.size w W) := ⟨by rw [hq, hn]; exact stb_mem hi, by rw [hW]; exact alcL_bel _ _⟩
  have hib : (i : Int) < 18 := by omega
  have hib0 : (0 : Int) ≤ (i : Int) := by omega
  rw [← hW, ← hB]
  clear hW hB hB2 hg hq hn h3 h4 h5 hlen a1 a2
  refine (HP.out W).mono ?_
  rintro e w' ⟨rfl, hw⟩
  have hw := hw.symm
  subst hw
  go_wp2
  go_quiet (fail)
  go_wp2
  go_ret2
  exact ⟨q, n, rfl, HR.out.1, ⟨HR.out.2.os, HR.out.2.tape, HR.out.2.output, HR.out.2.size, HR.out.2.block⟩⟩
end Go.Proofs.YtppggchhkckobaaGreat

/- Multiples of a polynomial: so many as there are places; a dual there is (plain mathematics). -/
namespace Go.Proofs.YtppggchhkckobaaGreat
open Go.RowKit Go.Sort

theorem spn_bdT {D : FD} (F : Fld D) {P : (Nat → Nat) → Prop} {n : Nat} (hP : ∀ v, P v → Bd n v) {v : Nat → Nat} (h : Spn D P v) : Bd n v := by
  refine spn_ind (Q := Bd n) (fun k _ => rfl) (fun a b ha hb k hk => ?_) (fun s a ha k hk => ?_) hP h
  · show D.ad (a k) (b k) = 0
    rw [ha k hk, hb k hk, ad_zero F (zero_lt' F)]
  · show D.mul s (a k) = 0
    rw [ha k hk, mul0 F]
theorem Red.self {D : FD} {n m k : Nat} {M R : Nat → Nat → Nat} (h : Red D n m M k R) : Red D n k R k R := by
  obtain ⟨p, hr, _⟩ := h
  exact ⟨p, hr, fun _ => Iff.rfl⟩
end Go.Proofs.YtppggchhkckobaaGreat

/- Cyclic: the greatest common divisor, numbers in a row. -/
namespace Go.Proofs.YtppggchhkckobaaGreat
open Go.RowKit Go.Sort

theorem bel_drN {B k : Nat} {w w' : World} (h : Below B w w') : Below B w (w'.drewN k) := ⟨h.os, h.tape, h.output, h.size, h.block⟩
set_option maxHeartbeats 2000000 in
set_option maxRecDepth 100000 in
theorem cdiv_any {a b : Nat} (ha : a ≤ 1000) (hb : b ≤ 1000) (w : World) :
    Calls Tryz.prog 49 #[.int .i64 (a : Nat), .int .i64 (b : Nat)] w fun e w' => e = .returned (.int .i64 (Nat.gcd a b : Nat)) ∧ Below w.heap.size w w' := by
  obtain ⟨G, hG⟩ : ∃ G, G = Nat.gcd a b := ⟨_, rfl⟩
  rw [← hG]
  go_enter Tryz.func49, Tryz.ntmps49
  go_wp2
  go_loopw [0, 1] (fun va vb wr => ∃ a' b' : Nat, va = .int .i64 (a' : Nat) ∧ vb = .int .i64 (b' : Nat) ∧ a' ≤ 1000 ∧ b' ≤ 1000 ∧ Hid (Nat.gcd a' b' = G ∧ Below w.heap.size w wr)) (fun _ vb _ => (intOf vb).toNat)
  case atStart => exact ⟨a, b, rfl, rfl, ha, hb, hG.symm, Below.refl _ _⟩
  case round =>
    obtain ⟨a', b', rfl, rfl, h1, h2, HG⟩ := hrel
    rename World => wr
    clear hG ha hb
    by_cases hlt : 0 < b'
    · have hib : (b' : Int) > 0 := by omega
      have hib2 : (0 : Int) < (b' : Int) := by omega
      have hn0 : ¬ (b' : Int) = 0 := by omega
      have hn0b : ((b' : Int) == 0) = false := by rw [beq_eq_false_iff_ne]; omega
      obtain ⟨r, hr⟩ : ∃ r, r = a' % b' := ⟨_, rfl⟩
      have hrl : r < b' := by rw [hr]; exact Nat.mod_lt _ hlt
      have hrm : (a' : Int).tmod (b' : Int) = (r : Int) := by rw [Int.tmod_eq_emod_of_nonneg (by omega), hr]; omega
      have hre : (a' : Int) % (b' : Int) = (r : Int) := by rw [hr]; omega
      have hrw : IntKind.i64.wrap (r : Int) = (r : Int) := wrap_to rfl (by omega)
      have HN : Hid (Nat.gcd b' r = G) := by
        show _ = _
        rw [← HG.out.1, hr, Nat.gcd_comm a' b', Nat.gcd_comm b' (a' % b')]
        exact (Nat.gcd_rec b' a').symm
      clear hr
      go_wp2
      go_quiet (fail)
      go_wp2
      go_roundw
      case rel => exact ⟨b', r, rfl, rfl, by omega, by omega, HN.out, bel_drN HG.out.2⟩
      case measure => simp [intOf]; omega
    · have hib : ¬ (b' : Int) > 0 := by omega
      have hib2 : ¬ (0 : Int) < (b' : Int) := by omega
      have HN : Hid (a' = G) := by
        show _ = _
        rw [← HG.out.1, show b' = 0 by omega, Nat.gcd_zero_right]
      go_wp2
      go_ret
      obtain rfl := HN.out
      exact ⟨rfl, HG.out.2⟩

/-- How many stand in a row from the first, of so many. -/
def rrun (p : Nat → Bool) : Nat → Nat
  | 0 => 0
  | N + 1 => if rrun p N = N ∧ p N = true then N + 1 else rrun p N
theorem rrun_le (p : Nat → Bool) : ∀ N, rrun p N ≤ N
  | 0 => Nat.le_refl _
  | N + 1 => by
    have := rrun_le p N
    unfold rrun
    split <;> omega
theorem rrun_all {p : Nat → Bool} : ∀ N, (∀ i, i < N → p i = true) → rrun p N = N
  | 0, _ => rfl
  | N + 1, h => by
    unfold rrun
    rw [if_pos ⟨rrun_all N (fun i hi => h i (by omega)), h N (by omega)⟩]
theorem rrun_is {p : Nat → Bool} {r : Nat} (ha : ∀ i, i < r → p i = true) : ∀ N, r ≤ N → (r = N ∨ p r = false) → rrun p N = r := by
  intro N
  induction N with
  | zero => intro h _; have : r = 0 := by omega
            rw [this]; rfl
  | succ N ih =>
    intro h hr
    rcases hr with e | e
    · rw [e]; exact rrun_all _ (fun i hi => ha i (by omega))
    · by_cases c : r = N + 1
      · rw [c]; exact rrun_all _ (fun i hi => ha i (by omega))
      · have hN := ih (by omega) (Or.inr e)
        unfold rrun
        rw [hN, if_neg]
        rintro ⟨h1, h2⟩
        rw [h1, h2] at e; cases e
theorem rrun_in {p : Nat → Bool} : ∀ N i, i < rrun p N → p i = true
  | 0, i, h => by simp [rrun] at h
  | N + 1, i, h => by
    unfold rrun at h
    split at h
    · rename_i c
      by_cases e : i = N
      · rw [e]; exact c.2
      · exact rrun_in N i (by omega)
    · exact rrun_in N i h
/-- The greatest of so many. -/
def mxn (f : Nat → Nat) : Nat → Nat
  | 0 => 0
  | k + 1 => max (mxn f k) (f k)
theorem mxn_le {f : Nat → Nat} {B : Nat} : ∀ k, (∀ i, i < k → f i ≤ B) → mxn f k ≤ B
  | 0, _ => Nat.zero_le _
  | k + 1, h => by
    have h1 := mxn_le k (fun i hi => h i (by omega))
    have h2 := h k (by omega)
    show max _ _ ≤ B
    omega
theorem mxn_ge {f : Nat → Nat} : ∀ k i, i < k → f i ≤ mxn f k
  | 0, i, h => absurd h (by omega)
  | k + 1, i, h => by
    show f i ≤ max (mxn f k) (f k)
    by_cases e : i = k
    · rw [e]; omega
    · have := mxn_ge (f := f) k i (by omega); omega
theorem mxn_at {f : Nat → Nat} : ∀ k, 0 < mxn f k → ∃ i, i < k ∧ f i = mxn f k
  | 0, h => absurd h (by simp [mxn])
  | k + 1, h => by
    by_cases e : mxn f k ≤ f k
    · exact ⟨k, by omega, by show f k = max _ _; omega⟩
    · obtain ⟨i, hi, h2⟩ := mxn_at (f := f) k (by omega)
      exact ⟨i, by omega, by show f i = max _ _; omega⟩
/-- In a row by a step, of n. -/
def iar (n step : Nat) (p : Nat → Bool) : Nat := mxn (fun f => rrun (fun i => p ((f + i * step) % n)) n) n
theorem iar_le (n step : Nat) (p : Nat → Bool) : iar n step p ≤ n := mxn_le n (fun _ _ => rrun_le _ _)
end Go.Proofs.YtppggchhkckobaaGreat

/- Cyclic: inARow. -/
namespace Go.Proofs.YtppggchhkckobaaGreat
open Go.RowKit Go.Sort Go.Maps

set_option maxHeartbeats 4000000 in
set_option maxRecDepth 100000 in
theorem iar_any {gf : Nat} {lb : Array Value} (eg : ∀ args w, (callFunc gf args).run Tryz.prog w = .ok (.enter gf args) w) {n step : Nat} {p : Nat → Bool} (hn1 : 1 ≤ n) (hn : n ≤ 64) (hs : step ≤ 64) {w : World}
    (hcall : ∀ x : Nat, x < n → Calls Tryz.prog gf (#[.int .i64 (x : Nat)] ++ lb) w fun e w' => e = .returned (.bool (p x)) ∧ w' = w) :
    Calls Tryz.prog 50 #[.int .i64 (n : Nat), .int .i64 (step : Nat), .func (.func gf) #[] lb] w fun e w' => e = .returned (.int .i64 (iar n step p : Nat)) ∧ w' = w := by
  have HC : Hid (∀ x : Nat, x < n → Calls Tryz.prog gf (#[.int .i64 (x : Nat)] ++ lb) w fun e w' => e = .returned (.bool (p x)) ∧ w' = w) := hcall
  obtain ⟨F, hF⟩ : ∃ F : Nat → Nat, F = fun f => rrun (fun i => p ((f + i * step) % n)) n := ⟨_, rfl⟩
  have HF : Hid (F = fun f => rrun (fun i => p ((f + i * step) % n)) n) := hF
  have hiar : iar n step p = mxn F n := by rw [hF]; rfl
  rw [hiar]
  clear hiar hF hcall
  have HFn : Hid (∀ f, F f ≤ n) := fun f => by rw [HF.out]; exact rrun_le _ _
  go_enter Tryz.func50, Tryz.ntmps50
  go_wp2
  go_loopw [7, 11] (fun vm vf wr => ∃ f : Nat, f ≤ n ∧ vf = .int .i64 (f : Nat) ∧ vm = .int .i64 (mxn F f : Nat) ∧ Hid (wr = w)) (fun _ vf _ => n - (intOf vf).toNat)
  case atStart => exact ⟨0, by omega, rfl, rfl, rfl⟩
  case round =>
    obtain ⟨f, hf, rfl, rfl, HW⟩ := hrel
    rename World => wr
    obtain ⟨m0, hm0⟩ : ∃ m0, m0 = mxn F f := ⟨_, rfl⟩
    have hm0n : m0 ≤ 64 := by rw [hm0]; have := mxn_le (f := F) (B := n) f (fun i _ => HFn.out i); omega
    by_cases hlt : f < n
    · have hib : (f : Int) < (n : Int) := by omega
      rw [← hm0]
      have HM : Hid (m0 = mxn F f) := hm0
      clear hm0
      go_wp2
      go_loopw [9] (fun vr wx => ∃ r : Nat, r ≤ n ∧ vr = .int .i64 (r : Nat) ∧ Hid ((∀ i, i < r → p ((f + i * step) % n) = true) ∧ wx = w)) (fun vr _ => n - (intOf vr).toNat)
      case atStart => exact ⟨0, by omega, rfl, fun i hi => absurd hi (by omega), HW.out⟩
      case round =>
        obtain ⟨r, hr, rfl, HI⟩ := hrel
        rename World => wx
        by_cases hrn : r < n
        · have hrb : (r : Int) < (n : Int) := by omega
          obtain ⟨t, ht⟩ : ∃ t, t = r * step := ⟨_, rfl⟩
          have hti : (r : Int) * (step : Int) = (t : Int) := by rw [ht]; simp
          have htb : t ≤ 4096 := by rw [ht]; exact Nat.le_trans (Nat.mul_le_mul (show r ≤ 64 by omega) hs) (by decide)
          have htw : IntKind.i64.wrap (t : Int) = (t : Int) := wrap_to rfl (by omega)
          obtain ⟨u, hu⟩ : ∃ u, u = f + t := ⟨_, rfl⟩
          have hui : (f : Int) + (t : Int) = (u : Int) := by omega
          have huw : IntKind.i64.wrap (u : Int) = (u : Int) := wrap_to rfl (by omega)
          obtain ⟨x, hx⟩ : ∃ x, x = u % n := ⟨_, rfl⟩
          have hxn : x < n := by rw [hx]; exact Nat.mod_lt _ (by omega)
          have hrm : (u : Int).tmod (n : Int) = (x : Int) := by rw [Int.tmod_eq_emod_of_nonneg (by omega), hx]; omega
          have hre : (u : Int) % (n : Int) = (x : Int) := by rw [hx]; omega
          have hn0 : ¬ (n : Int) = 0 := by omega
          have hn0b : ((n : Int) == 0) = false := by rw [beq_eq_false_iff_ne]; omega
          have HX : Hid (x = (f + r * step) % n) := by show _ = _; rw [hx, hu, ht]
          have HWx : Hid (wx = w) := HI.out.2
          have hww := HI.out.2
          subst hww
          clear ht hu hx
          cases hp : p x with
          | true =>
            have HP : Hid (p ((f + r * step) % n) = true) := by rw [← HX.out]; exact hp
            have HCx : Hid (Calls Tryz.prog gf (#[.int .i64 (x : Nat)] ++ lb) wx fun e w' => e = .returned (.bool true) ∧ w' = wx) := by
              have h := HC.out x hxn
              rw [hp] at h
              exact h
            clear hp
            go_wp2_with fail
            refine HCx.out.mono ?_
            rintro e w1 ⟨rfl, hw1⟩
            have hw1 := hw1.symm
            subst hw1
            go_wp2
            go_roundw
            case rel => exact ⟨r + 1, by omega, by go_num, fun i hi => (by
              by_cases c : i = r
              · rw [c]; exact HP.out
              · exact HI.out.1 i (by omega)), by first | rfl | trivial⟩
            case measure => simp [intOf]; omega
          | false =>
            have HP : Hid (F f = r) := by
              show _ = _
              rw [HF.out]
              exact rrun_is (fun i hi => HI.out.1 i hi) n hr (Or.inr (by show p ((f + r * step) % n) = false; rw [← HX.out]; exact hp))
            have HMx : Hid (max (m0 : Int) (r : Int) = ((mxn F (f + 1) : Nat) : Int)) := by
              show _ = ((max (mxn F f) (F f) : Nat) : Int)
              rw [← HM.out, HP.out]; omega
            clear HM HP
            have HCx : Hid (Calls Tryz.prog gf (#[.int .i64 (x : Nat)] ++ lb) wx fun e w' => e = .returned (.bool false) ∧ w' = wx) := by
              have h := HC.out x hxn
              rw [hp] at h
              exact h
            clear hp
            go_wp2_with fail
            refine HCx.out.mono ?_
            rintro e w1 ⟨rfl, hw1⟩
            have hw1 := hw1.symm
            subst hw1
            go_wp2
            go_roundw
            case rel => exact ⟨f + 1, by omega, by go_num, by rw [HMx.out], by first | trivial | rfl | exact HI.out.2⟩
            case measure => simp [intOf]; omega
        · have hrb : ¬ (r : Int) < (n : Int) := by omega
          have HP : Hid (F f = r) := by
            show _ = _
            rw [HF.out]
            exact rrun_is (fun i hi => HI.out.1 i hi) n hr (Or.inl (by omega))
          have HMx : Hid (max (m0 : Int) (r : Int) = ((mxn F (f + 1) : Nat) : Int)) := by
            show _ = ((max (mxn F f) (F f) : Nat) : Int)
            rw [← HM.out, HP.out]; omega
          clear HM HP
          go_wp2
          go_roundw
          case rel => exact ⟨f + 1, by omega, by go_num, by rw [HMx.out], by first | trivial | rfl | exact HI.out.2⟩
          case measure => simp [intOf]; omega
    · have hib : ¬ (f : Int) < (n : Int) := by omega
      have hfn : f = n := by omega
      subst hfn
      rw [← hm0]
      have HM : Hid (m0 = mxn F f) := hm0
      clear hm0
      go_wp2
      go_ret
      have e := HM.out
      subst e
      exact ⟨rfl, HW.out⟩
end Go.Proofs.YtppggchhkckobaaGreat
