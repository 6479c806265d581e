/- Texts of ours, one behind the other: S63 KS1. -/
import Derived.Test.YtbfkacnpbelmlaaZA1
import Derived.Test.YtbfkacnpbelmlaaZO5
import Derived.Test.YtbfkacnpbelmlaaZV7
/- Polar: what its functions come to: the transform (half by half, and bit by bit), the chances, the best places. -/
namespace Go.Proofs.Ytbfkacnpbelmlaa

/-- Half by half. -/
def ptr : Nat → (Nat → Nat) → Nat → Nat
  | 0, w => w
  | m + 1, w => fun i => if i < 2 ^ m then (ptr m w i + ptr m (fun j => w (j + 2 ^ m)) i) % 2 else ptr m (fun j => w (j + 2 ^ m)) (i - 2 ^ m)
theorem ptr_congr : ∀ m {w w' : Nat → Nat}, (∀ j, j < 2 ^ m → w j = w' j) → ∀ i, i < 2 ^ m → ptr m w i = ptr m w' i
  | 0, w, w', h, i, hi => h i hi
  | m + 1, w, w', h, i, hi => by
    rw [Nat.pow_succ] at h hi
    have e1 := ptr_congr m (w := w) (w' := w') (fun j hj => h j (by omega))
    have e2 := ptr_congr m (w := fun j => w (j + 2 ^ m)) (w' := fun j => w' (j + 2 ^ m)) (fun j hj => h (j + 2 ^ m) (by omega))
    show (if i < 2 ^ m then (ptr m w i + ptr m (fun j => w (j + 2 ^ m)) i) % 2 else ptr m (fun j => w (j + 2 ^ m)) (i - 2 ^ m)) = if i < 2 ^ m then (ptr m w' i + ptr m (fun j => w' (j + 2 ^ m)) i) % 2 else ptr m (fun j => w' (j + 2 ^ m)) (i - 2 ^ m)
    by_cases c : i < 2 ^ m
    · rw [if_pos c, if_pos c, e1 i c, e2 i c]
    · rw [if_neg c, if_neg c, e2 (i - 2 ^ m) (by omega)]
theorem ptr_lt : ∀ m {w : Nat → Nat}, (∀ j, j < 2 ^ m → w j < 2) → ∀ i, i < 2 ^ m → ptr m w i < 2
  | 0, w, h, i, hi => h i hi
  | m + 1, w, h, i, hi => by
    rw [Nat.pow_succ] at h hi
    show (if i < 2 ^ m then (ptr m w i + ptr m (fun j => w (j + 2 ^ m)) i) % 2 else ptr m (fun j => w (j + 2 ^ m)) (i - 2 ^ m)) < 2
    by_cases c : i < 2 ^ m
    · rw [if_pos c]; omega
    · rw [if_neg c]; exact ptr_lt m (fun j hj => h (j + 2 ^ m) (by omega)) _ (by omega)
/-- The chances. -/
def lss : Nat → List Nat
  | 0 => [1]
  | m + 1 => (lss m).flatMap fun v => [2 * v * 2 ^ 2 ^ m - v * v, v * v]
/-- The next one that is taken: the least chance, of alike ones the greatest place. -/
def nxb (l : List Nat) (t : List Nat) : Nat → Option Nat → Option Nat
  | 0, a => a
  | j + 1, a => nxb l t j (if t.contains j then a else match a with
    | none => some j
    | some x => if l.getD j 0 < l.getD x 0 then some j else some x)
/-- The places as they are taken. -/
def srt (m : Nat) : Nat → List Nat
  | 0 => []
  | k + 1 => srt m k ++ [(nxb (lss m) (srt m k) (2 ^ m) none).getD 0]
theorem lss_chk : ((List.range 6).all fun m => (lss m).length == 2 ^ m && (lss m).all fun v => Nat.ble v 4294967296) = true := by decide +kernel
theorem lss_len {m : Nat} (hm : m ≤ 5) : (lss m).length = 2 ^ m := by
  have h := List.all_eq_true.1 lss_chk m (List.mem_range.2 (by omega))
  rw [Bool.and_eq_true] at h
  exact eq_of_beq h.1
/-- The best places, rising. -/
def bsl (m k : Nat) : List Nat := (List.range (2 ^ m)).filter fun j => (srt m k).contains j
end Go.Proofs.Ytbfkacnpbelmlaa

/- Polar: sums of parts, what is sent of two halves. -/
namespace Go.Proofs.Ytbfkacnpbelmlaa
open Go.RowKit Go.Sort

/-- A bit, or lost. -/
def Btl (v : Int) : Prop := v = -1 ∨ v = 0 ∨ v = 1
/-- The sum of two bits; lost, if one is. -/
def psu (a b : Int) : Int := if a = -1 ∨ b = -1 then -1 else (a + b) % 2
theorem psu_bt {a b : Int} (ha : Btl a) (hb : Btl b) : Btl (psu a b) := by
  unfold psu Btl
  rcases ha with rfl | rfl | rfl <;> rcases hb with rfl | rfl | rfl <;> decide

set_option maxHeartbeats 2000000 in
theorem plsum_any {a b : Int} (ha : Btl a) (hb : Btl b) (w : World) :
    Calls Try.prog 72 #[.int .i64 a, .int .i64 b] w fun e w' => e = .returned (.int .i64 (psu a b)) ∧ w' = w := by
  rcases ha with rfl | rfl | rfl <;> rcases hb with rfl | rfl | rfl
  all_goals
    go_enter Try.func72, Try.ntmps72
    go_wp2
    go_ret
    exact ⟨rfl, rfl⟩

set_option maxHeartbeats 8000000 in
set_option maxRecDepth 100000 in
theorem plsums_any {ao bo : Option Addr} {n ca cb : Nat} {x y : Nat → Int} {w : World} (hX : SlZ ao n x w) (hY : SlZ bo n y w) (hlx : LtB ao w.heap.size) (hly : LtB bo w.heap.size) (hn : n ≤ 64) (hx : ∀ i, i < n → Btl (x i)) (hy : ∀ i, i < n → Btl (y i)) :
    Calls Try.prog 51 #[.slice ao n ca, .slice bo n cb] w fun e w' => ∃ g, e = .returned (.slice (some ⟨g, 0, none⟩) n n) ∧ OwnI w.heap.size (.slice (some ⟨g, 0, none⟩) n n) (zl n fun i => psu (x i) (y i)) w' ∧ Below w.heap.size w w' := by
  have HX : Hid ((SlZ ao n x w ∧ LtB ao w.heap.size) ∧ (SlZ bo n y w ∧ LtB bo w.heap.size) ∧ (∀ i, i < n → Btl (x i)) ∧ ∀ i, i < n → Btl (y i)) := ⟨⟨hX, hlx⟩, ⟨hY, hly⟩, hx, hy⟩
  clear hX hY hlx hly hx hy
  go_enter Try.func51, Try.ntmps51
  go_wp2_with (at_make; refine make_int rfl _ _ rfl _ n rfl rfl rfl (by omega) ?_; intro w1 hown1 hgrow1)
  have hrz0 := rowE_zeros hown1
  obtain ⟨g, hg⟩ : ∃ g, g = w.heap.size := ⟨_, rfl⟩
  rw [← hg] at hrz0
  try rw [← hg]
  have HI0 : Hid (RowE g n (fun _ => 0) w1 ∧ Below w.heap.size w w1 ∧ g = w.heap.size) := ⟨hrz0, below_grown hgrow1 (Nat.le_refl _) (fun k hk => by cases hk), hg⟩
  clear hown1 hgrow1 hrz0 hg
  go_loopw [12] (fun vi wr => ∃ (t : Nat) (o : Nat → Int), t ≤ n ∧ vi = .int .i64 (t : Nat) ∧ Hid (RowE g n o wr ∧ (∀ j, j < t → o j = psu (x j) (y j)) ∧ Below w.heap.size w wr)) (fun vi _ => n - (intOf vi).toNat)
  case atStart => exact ⟨0, _, by omega, rfl, HI0.out.1, fun j hj => absurd hj (by omega), HI0.out.2.1⟩
  case round =>
    obtain ⟨t, o, ht, rfl, HG⟩ := hrel
    rename World => wr
    by_cases hlt : t < n
    · have hib : (t : Int) < (n : Int) := by omega
      have hib0 : (0 : Int) ≤ (t : Int) := by omega
      obtain ⟨a, ha⟩ : ∃ a, a = x t := ⟨_, rfl⟩
      obtain ⟨b, hb⟩ : ∃ b, b = y t := ⟨_, rfl⟩
      obtain ⟨b1, o1, e1, q1⟩ := HX.out.1.1 t hlt
      obtain ⟨b2, o2, e2, q2⟩ := HX.out.2.1.1 t hlt
      have l1 := HX.out.1.2 _ e1
      have l2 := HX.out.2.1.2 _ e2
      have c1 : wr.cell? ⟨b1, o1 + t, none⟩ = some (.int .i64 a) := by rw [ha]; exact (HG.out.2.2.cell (p := ⟨b1, o1 + t, none⟩) l1).trans q1
      have c2 : wr.cell? ⟨b2, o2 + t, none⟩ = some (.int .i64 b) := by rw [hb]; exact (HG.out.2.2.cell (p := ⟨b2, o2 + t, none⟩) l2).trans q2
      have hc0 := RowF.cell HG.out.1 t hlt
      have hf0 := RowF.free HG.out.1 t
      obtain ⟨o0, ho0⟩ : ∃ o0, o0 = o t := ⟨_, rfl⟩
      rw [← ho0] at hc0
      obtain ⟨u, hu⟩ : ∃ u, u = psu a b := ⟨_, rfl⟩
      have HC : Hid (∀ j, Calls Try.prog 72 #[.int .i64 a, .int .i64 b] (wr.drewN j) fun e w' => e = .returned (.int .i64 u) ∧ w' = wr.drewN j) := fun j => by
        rw [hu]; exact plsum_any (by rw [ha]; exact HX.out.2.2.1 t hlt) (by rw [hb]; exact HX.out.2.2.2 t hlt) _
      have HS2 : Hid (∀ j, RowE g n (fun j => if j = t then u else o j) ((wr.drewN j).setCell ⟨g, t, none⟩ (.int .i64 u)) ∧ (∀ j, j < t + 1 → (fun j => if j = t then u else o j) j = psu (x j) (y j)) ∧ Below w.heap.size w ((wr.drewN j).setCell ⟨g, t, none⟩ (.int .i64 u))) := fun j => by
        refine ⟨RowE.store (HG.out.1.drewN j) t u, fun i hi => ?_, (below_drewN2 HG.out.2.2 j).setCell (by have := HI0.out.2.2; show w.heap.size ≤ g; omega) _⟩
        show (if i = t then u else o i) = _
        by_cases e : i = t
        · rw [if_pos e, hu, ha, hb, e]
        · rw [if_neg e]; exact HG.out.2.1 i (by omega)
      subst e1
      subst e2
      clear ho0 ha hb hu q1 q2 l1 l2
      go_wp2
      refine quiet_tail 12 (by kernel_rfl) (by kernel_rfl) ?_
      simp only [List.take_succ_cons, List.take_zero, List.drop_succ_cons, List.drop_zero]
      repeat (go_big_quiet_step ((go_at_call 72; exact Calls.quiet_of_same (HC.out _))))
      refine wpQuiet_nil ?_
      intro _ hw'
      obtain ⟨nq, hw''⟩ := hw'
      subst hw''
      have HS3 := HS2.out nq
      have HS4 : Hid _ := HS3
      clear HS3 HS2 c1 c2
      go_wp2
      go_roundw
      case rel => exact ⟨t + 1, _, by omega, by go_num, HS4.out⟩
      case measure => simp [intOf]; omega
    · have hib : ¬ (t : Int) < (n : Int) := by omega
      have HZ : Hid (OwnI w.heap.size (.slice (some ⟨g, 0, none⟩) n n) (zl n fun i => psu (x i) (y i)) wr ∧ Below w.heap.size w wr) := by
        refine ⟨?_, HG.out.2.2⟩
        have h := HG.out.1.own (base := w.heap.size) (by have := HI0.out.2.2; omega) (by omega)
        rw [zl_congr (y := fun i => psu (x i) (y i)) (fun j hj => HG.out.2.1 j (by omega))] at h
        exact h
      go_wp2
      go_ret
      exact ⟨g, rfl, HZ.out⟩
end Go.Proofs.Ytbfkacnpbelmlaa
