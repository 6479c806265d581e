/- Signs that check: sums, the group of ten, Damm's square (mathematics, no Go). -/
import Derived.Test.YtonjkpakbmbafaaZA1
namespace Go.Proofs.Ytonjkpakbmbafaa

/-- A sum. -/
def dsu (f : Nat → Nat) : Nat → Nat
  | 0 => 0
  | n + 1 => dsu f n + f n
theorem dsu_congr {f g : Nat → Nat} : ∀ n, (∀ i, i < n → f i = g i) → dsu f n = dsu g n
  | 0, _ => rfl
  | n + 1, h => by
    show dsu f n + f n = dsu g n + g n
    rw [dsu_congr n (fun i hi => h i (by omega)), h n (by omega)]
theorem dsu_front (f : Nat → Nat) : ∀ n, dsu f (n + 1) = f 0 + dsu (fun i => f (i + 1)) n
  | 0 => by show 0 + f 0 = f 0 + 0; omega
  | n + 1 => by
    show dsu f (n + 1) + f (n + 1) = f 0 + (dsu (fun i => f (i + 1)) n + f (n + 1))
    rw [dsu_front f n]; omega
theorem dsu_rev (f : Nat → Nat) : ∀ n, dsu (fun i => f (n - 1 - i)) n = dsu f n
  | 0 => rfl
  | n + 1 => by
    rw [dsu_front]
    show f (n + 1 - 1 - 0) + dsu (fun i => f (n + 1 - 1 - (i + 1))) n = dsu f n + f n
    rw [dsu_congr (f := fun i => f (n + 1 - 1 - (i + 1))) (g := fun i => f (n - 1 - i)) n (fun i hi => by rw [show n + 1 - 1 - (i + 1) = n - 1 - i by omega]), dsu_rev f n]
    rw [show n + 1 - 1 - 0 = n by omega]; omega
theorem dsu_le {f : Nat → Nat} {B : Nat} : ∀ n, (∀ i, i < n → f i ≤ B) → dsu f n ≤ n * B
  | 0, _ => by show 0 ≤ _; omega
  | n + 1, h => by
    show dsu f n + f n ≤ _
    have h1 := dsu_le n (fun i hi => h i (by omega))
    have h2 := h n (by omega)
    have h3 : (n + 1) * B = n * B + B := Nat.succ_mul n B
    omega
/-- One place parted off. -/
theorem dsu_part {f g : Nat → Nat} {a : Nat} : ∀ n, a < n → (∀ i, i < n → i ≠ a → f i = g i) → dsu f n + g a = dsu g n + f a
  | 0, h, _ => absurd h (by omega)
  | n + 1, h, hh => by
    show dsu f n + f n + g a = dsu g n + g n + f a
    by_cases e : a = n
    · subst e
      rw [dsu_congr (f := f) (g := g) a (fun i hi => hh i (by omega) (by omega))]; omega
    · have := dsu_part n (by omega : a < n) (fun i hi hia => hh i (by omega) hia)
      rw [hh n (by omega) (by omega)]; omega

/-- Luhn's part of a digit. -/
def lwt (e x : Nat) : Nat := if e % 2 = 1 then 2 * x / 10 + 2 * x % 10 else x / 10 + x % 10
theorem lwt_le {e x : Nat} (h : x ≤ 10) : lwt e x ≤ 20 := by unfold lwt; split <;> omega
theorem lwt_inj {e x y : Nat} (hx : x ≤ 9) (hy : y ≤ 9) (h : lwt e x = lwt e y) : x = y := by
  unfold lwt at h
  split at h
  · have h1 : ∀ x, x < 10 → ∀ y, y < 10 → 2 * x / 10 + 2 * x % 10 = 2 * y / 10 + 2 * y % 10 → x = y := by decide +kernel
    exact h1 x (by omega) y (by omega) h
  · omega
theorem lwt_nine {e x : Nat} (hx : x ≤ 9) : lwt e x ≤ 9 := by
  unfold lwt
  split
  · have h1 : ∀ x, x < 10 → 2 * x / 10 + 2 * x % 10 ≤ 9 := by decide +kernel
    exact h1 x (by omega)
  · omega

/-- The group of ten. -/
def dih (a b : Nat) : Nat := if a < 5 then (if b < 5 then (a + b) % 5 else (a + b) % 5 + 5) else if b < 5 then (a - b) % 5 + 5 else (a + 5 - b) % 5
theorem dih_lt {a b : Nat} : dih a b < 10 := by
  unfold dih
  split <;> split <;> omega
theorem dih_assoc : ∀ a, a < 10 → ∀ b, b < 10 → ∀ c, c < 10 → dih (dih a b) c = dih a (dih b c) := by decide +kernel
/-- With what the group makes 0. -/
def dnv (a : Nat) : Nat := if a < 5 then (5 - a) % 5 else a
theorem dnv_lt : ∀ a, a < 10 → dnv a < 10 := by decide +kernel
theorem dnv_iff : ∀ a, a < 10 → ∀ b, b < 10 → (dih a b = 0 ↔ b = dnv a) := by decide +kernel
theorem dnv_iff2 : ∀ a, a < 10 → ∀ b, b < 10 → (dih b a = 0 ↔ b = dnv a) := by decide +kernel
theorem dih_left : ∀ a, a < 10 → ∀ b, b < 10 → ∀ c, c < 10 → dih a b = dih a c → b = c := by decide +kernel
theorem dih_right : ∀ a, a < 10 → ∀ b, b < 10 → ∀ c, c < 10 → dih b a = dih c a → b = c := by decide +kernel
/-- Verhoeff's turn. -/
def vtn (x : Nat) : Nat := [1, 5, 7, 6, 2, 8, 3, 0, 9, 4].getD x 0
theorem vtn_lt : ∀ x, x < 10 → vtn x < 10 := by decide +kernel
theorem vtn_inj : ∀ x, x < 10 → ∀ y, y < 10 → vtn x = vtn y → x = y := by decide +kernel
def vtk : Nat → Nat → Nat
  | 0, x => x
  | k + 1, x => vtn (vtk k x)
theorem vtk_lt {x : Nat} (hx : x < 10) : ∀ k, vtk k x < 10
  | 0 => hx
  | k + 1 => vtn_lt _ (vtk_lt hx k)
theorem vtk_inj {x y : Nat} (hx : x < 10) (hy : y < 10) : ∀ k, vtk k x = vtk k y → x = y
  | 0, h => h
  | k + 1, h => vtk_inj hx hy k (vtn_inj _ (vtk_lt hx k) _ (vtk_lt hy k) h)
/-- Two neighbours that change places show. -/
theorem vtn_anti : ∀ x, x < 10 → ∀ y, y < 10 → dih x (vtn y) = dih y (vtn x) → x = y := by decide +kernel
theorem vtk_eight : ∀ x, x < 10 → vtk 8 x = x := by decide +kernel
theorem vtk_add (x j : Nat) : ∀ k, vtk (j + k) x = vtk k (vtk j x)
  | 0 => rfl
  | k + 1 => by
    show vtn (vtk (j + k) x) = vtn (vtk k (vtk j x))
    rw [vtk_add x j k]
theorem vtk_more {x : Nat} (hx : x < 10) : ∀ q r, vtk (r + 8 * q) x = vtk r x
  | 0, r => rfl
  | q + 1, r => by
    rw [show r + 8 * (q + 1) = 8 + (r + 8 * q) by omega, vtk_add, vtk_eight x hx]
    exact vtk_more hx q r
theorem vtk_mod {x : Nat} (hx : x < 10) (k : Nat) : vtk (k % 8) x = vtk k x := by
  have := vtk_more hx (k / 8) (k % 8)
  rw [show k % 8 + 8 * (k / 8) = k by omega] at this
  exact this.symm

/-- Damm's square. -/
def dqT : List Nat := [0,3,1,7,5,9,8,6,4,2, 7,0,9,2,1,5,4,8,6,3, 4,2,0,6,8,7,1,3,5,9, 1,7,5,0,9,8,3,4,2,6, 6,1,2,3,0,4,5,9,7,8, 3,6,7,4,2,0,9,5,8,1, 5,8,6,9,7,2,0,1,3,4, 8,9,4,5,3,6,2,0,1,7, 9,4,3,8,6,1,7,2,0,5, 2,5,8,1,4,3,6,7,9,0]
def dsq (c x : Nat) : Nat := dqT.getD (c * 10 + x) 0
theorem dsq_lt : ∀ c, c < 10 → ∀ x, x < 10 → dsq c x < 10 := by decide +kernel
theorem dsq_zero : ∀ c, c < 10 → ∀ x, x < 10 → (dsq c x = 0 ↔ x = c) := by decide +kernel
theorem dsq_left : ∀ c, c < 10 → ∀ x, x < 10 → ∀ y, y < 10 → dsq c x = dsq c y → x = y := by decide +kernel
theorem dsq_right : ∀ x, x < 10 → ∀ c, c < 10 → ∀ e, e < 10 → dsq c x = dsq e x → c = e := by decide +kernel
theorem dsq_anti : ∀ c, c < 10 → ∀ x, x < 10 → ∀ y, y < 10 → dsq (dsq c x) y = dsq (dsq c y) x → x = y := by decide +kernel

/-- The program's way, Verhoeff. -/
def vfo (d : Nat → Nat) (m : Nat) : Nat → Nat
  | 0 => 0
  | i + 1 => dih (vfo d m i) (vtk ((i + 1) % 8) (d (m - 1 - i)))
theorem vfo_lt (d : Nat → Nat) (m : Nat) : ∀ i, vfo d m i < 10
  | 0 => by show 0 < 10; omega
  | i + 1 => dih_lt
/-- The reference's way. -/
def rvf (d : Nat → Nat) (n : Nat) : Nat → Nat
  | 0 => 0
  | i + 1 => dih (rvf d n i) (vtk (i % 8) (d (n - 1 - i)))
theorem rvf_lt (d : Nat → Nat) (m : Nat) : ∀ i, rvf d m i < 10
  | 0 => by show 0 < 10; omega
  | i + 1 => dih_lt
/-- Damm, both ways. -/
def dfo (d : Nat → Nat) : Nat → Nat
  | 0 => 0
  | i + 1 => dsq (dfo d i) (d i)
theorem dfo_lt {d : Nat → Nat} : ∀ n, (∀ i, i < n → d i < 10) → dfo d n < 10
  | 0, _ => by show 0 < 10; omega
  | n + 1, h => dsq_lt _ (dfo_lt n (fun i hi => h i (by omega))) _ (h n (by omega))

/-- The sign of a text of m digits. -/
def toT (s : Nat) : Nat := (10 - s % 10) % 10
def sgL (m : Nat) (d : Nat → Nat) : Nat := toT (dsu (fun i => lwt (m - i) (d i)) m)
def sgB (m : Nat) (d : Nat → Nat) : Nat := dsu (fun i => (i + 1) * d i) m % 11
def sgT (m : Nat) (d : Nat → Nat) : Nat := toT (dsu (fun i => (1 + i % 2 * 2) * d i) m)
def sgV (m : Nat) (d : Nat → Nat) : Nat := dnv (vfo d m m)
def sgD (m : Nat) (d : Nat → Nat) : Nat := dfo d m
def sgn (k m : Nat) (d : Nat → Nat) : Nat := if k = 1 then sgL m d else if k = 2 then sgB m d else if k = 3 then sgT m d else if k = 4 then sgV m d else sgD m d
/-- Does a whole text come out right? -/
def ckL (n : Nat) (d : Nat → Nat) : Bool := dsu (fun i => lwt i (d (n - 1 - i))) n % 10 == 0
def ckB (n : Nat) (d : Nat → Nat) : Bool := dsu (fun i => (n - i) * d i) n % 11 == 0
def ckT (n : Nat) (d : Nat → Nat) : Bool := dsu (fun i => d i * (1 + i % 2 * 2)) n % 10 == 0
def ckV (n : Nat) (d : Nat → Nat) : Bool := rvf d n n == 0
def ckD (n : Nat) (d : Nat → Nat) : Bool := dfo d n == 0
def ckk (k n : Nat) (d : Nat → Nat) : Bool := if k = 1 then ckL n d else if k = 2 then ckB n d else if k = 3 then ckT n d else if k = 4 then ckV n d else ckD n d
/-- A text with one more. -/
def xtn (d : Nat → Nat) (m v : Nat) : Nat → Nat := fun i => if i = m then v else d i
theorem xtn_lt {d : Nat → Nat} {m v i : Nat} (h : i < m) : xtn d m v i = d i := if_neg (by omega)
theorem xtn_at {d : Nat → Nat} {m v : Nat} : xtn d m v m = v := if_pos rfl

theorem toT_iff {s v : Nat} (hv : v ≤ 9) : (s + v) % 10 = 0 ↔ v = toT s := by unfold toT; omega
theorem toT_le (s : Nat) : toT s ≤ 9 := by unfold toT; omega

theorem ckL_iff {m v : Nat} {d : Nat → Nat} (hv : v ≤ 9) : ckL (m + 1) (xtn d m v) = true ↔ v = sgL m d := by
  unfold ckL sgL
  rw [beq_iff_eq]
  have h1 : dsu (fun i => lwt i (xtn d m v (m + 1 - 1 - i))) (m + 1) = dsu (fun i => lwt (m - i) (xtn d m v i)) (m + 1) := by
    rw [← dsu_rev (fun i => lwt (m - i) (xtn d m v i)) (m + 1)]
    refine dsu_congr _ fun i hi => ?_
    show lwt i _ = lwt (m - (m + 1 - 1 - i)) _
    rw [show m - (m + 1 - 1 - i) = i by omega]
  rw [h1]
  show (dsu (fun i => lwt (m - i) (xtn d m v i)) m + lwt (m - m) (xtn d m v m)) % 10 = 0 ↔ _
  rw [xtn_at, dsu_congr (f := fun i => lwt (m - i) (xtn d m v i)) (g := fun i => lwt (m - i) (d i)) m (fun i hi => by rw [xtn_lt hi])]
  rw [show lwt (m - m) v = v by unfold lwt; rw [Nat.sub_self, if_neg (by omega)]; omega]
  exact toT_iff hv
theorem book_sum {m : Nat} {d : Nat → Nat} : ∀ k, k ≤ m → dsu (fun i => (m + 1 - i) * d i) k + dsu (fun i => (i + 1) * d i) k = (m + 2) * dsu d k
  | 0, _ => by show 0 + 0 = (m + 2) * 0; omega
  | k + 1, hk => by
    have h := book_sum (m := m) (d := d) k (by omega)
    show dsu _ k + (m + 1 - k) * d k + (dsu _ k + (k + 1) * d k) = (m + 2) * (dsu d k + d k)
    have h2 : (m + 1 - k) * d k + (k + 1) * d k = (m + 2) * d k := by rw [← Nat.add_mul, show m + 1 - k + (k + 1) = m + 2 by omega]
    rw [Nat.mul_add]; omega
theorem ckB_iff {v : Nat} {d : Nat → Nat} (hv : v ≤ 10) : ckB 10 (xtn d 9 v) = true ↔ v = sgB 9 d := by
  unfold ckB sgB
  rw [beq_iff_eq]
  show (dsu (fun i => (9 + 1 - i) * xtn d 9 v i) 9 + (9 + 1 - 9) * xtn d 9 v 9) % 11 = 0 ↔ _
  rw [xtn_at, dsu_congr (f := fun i => (9 + 1 - i) * xtn d 9 v i) (g := fun i => (9 + 1 - i) * d i) 9 (fun i hi => by rw [xtn_lt hi])]
  have h := book_sum (m := 9) (d := d) 9 (Nat.le_refl _)
  generalize dsu (fun i => (9 + 1 - i) * d i) 9 = A at *
  generalize dsu (fun i => (i + 1) * d i) 9 = B at *
  generalize dsu d 9 = C at *
  omega
theorem ckT_iff {v : Nat} {d : Nat → Nat} (hv : v ≤ 9) : ckT 13 (xtn d 12 v) = true ↔ v = sgT 12 d := by
  unfold ckT sgT
  rw [beq_iff_eq]
  show (dsu (fun i => xtn d 12 v i * (1 + i % 2 * 2)) 12 + xtn d 12 v 12 * (1 + 12 % 2 * 2)) % 10 = 0 ↔ _
  rw [xtn_at, dsu_congr (f := fun i => xtn d 12 v i * (1 + i % 2 * 2)) (g := fun i => (1 + i % 2 * 2) * d i) 12 (fun i hi => by rw [xtn_lt hi, Nat.mul_comm])]
  rw [show v * (1 + 12 % 2 * 2) = v by omega]
  exact toT_iff hv
theorem rvf_vfo {m v : Nat} {d : Nat → Nat} (hv : v < 10) (hd : ∀ i, i < m → d i < 10) : ∀ i, i ≤ m → rvf (xtn d m v) (m + 1) (i + 1) = dih v (vfo d m i)
  | 0, _ => by
    show dih 0 (vtk (0 % 8) (xtn d m v (m + 1 - 1 - 0))) = dih v 0
    rw [show m + 1 - 1 - 0 = m by omega, xtn_at]
    show dih 0 v = dih v 0
    have h : ∀ v, v < 10 → dih 0 v = dih v 0 := by decide +kernel
    exact h v hv
  | i + 1, hi => by
    show dih (rvf (xtn d m v) (m + 1) (i + 1)) (vtk ((i + 1) % 8) (xtn d m v (m + 1 - 1 - (i + 1)))) = dih v (dih (vfo d m i) (vtk ((i + 1) % 8) (d (m - 1 - i))))
    rw [rvf_vfo hv hd i (by omega), show m + 1 - 1 - (i + 1) = m - 1 - i by omega, xtn_lt (by omega)]
    exact dih_assoc _ hv _ (vfo_lt d m i) _ (vtk_lt (hd _ (by omega)) _)
theorem ckV_iff {m v : Nat} {d : Nat → Nat} (hv : v ≤ 9) (hd : ∀ i, i < m → d i < 10) : ckV (m + 1) (xtn d m v) = true ↔ v = sgV m d := by
  unfold ckV sgV
  rw [beq_iff_eq, rvf_vfo (by omega) hd m (Nat.le_refl _)]
  exact dnv_iff2 _ (vfo_lt d m m) _ (by omega)
theorem dfo_congr {d e : Nat → Nat} : ∀ n, (∀ i, i < n → d i = e i) → dfo d n = dfo e n
  | 0, _ => rfl
  | n + 1, h => by
    show dsq (dfo d n) (d n) = dsq (dfo e n) (e n)
    rw [dfo_congr n (fun i hi => h i (by omega)), h n (by omega)]
theorem ckD_iff {m v : Nat} {d : Nat → Nat} (hv : v ≤ 9) (hd : ∀ i, i < m → d i < 10) : ckD (m + 1) (xtn d m v) = true ↔ v = sgD m d := by
  unfold ckD sgD
  rw [beq_iff_eq]
  show dsq (dfo (xtn d m v) m) (xtn d m v m) = 0 ↔ _
  rw [xtn_at, dfo_congr (e := d) m (fun i hi => xtn_lt hi)]
  exact dsq_zero _ (dfo_lt m hd) _ (by omega)

/-- How many digits a text may have. -/
def sgm (k m : Nat) : Prop := 1 ≤ m ∧ m ≤ 64 ∧ (k = 2 → m = 9) ∧ (k = 3 → m = 12)
/-- The greatest sign. -/
def sgx (k : Nat) : Nat := if k = 2 then 10 else 9
theorem ckk_iff {k m v : Nat} {d : Nat → Nat} (hm : sgm k m) (hv : v ≤ sgx k) (hd : ∀ i, i < m → d i < 10) : ckk k (m + 1) (xtn d m v) = true ↔ v = sgn k m d := by
  unfold ckk sgn
  unfold sgx at hv
  by_cases e1 : k = 1
  · rw [if_pos e1, if_pos e1]; exact ckL_iff (by rw [if_neg (by omega)] at hv; exact hv)
  rw [if_neg e1, if_neg e1]
  by_cases e2 : k = 2
  · rw [if_pos e2, if_pos e2]
    rw [if_pos e2] at hv
    have := hm.2.2.1 e2
    subst this
    exact ckB_iff hv
  rw [if_neg e2, if_neg e2]
  rw [if_neg e2] at hv
  by_cases e3 : k = 3
  · rw [if_pos e3, if_pos e3]
    have := hm.2.2.2 e3
    subst this
    exact ckT_iff hv
  rw [if_neg e3, if_neg e3]
  by_cases e4 : k = 4
  · rw [if_pos e4, if_pos e4]; exact ckV_iff hv hd
  rw [if_neg e4, if_neg e4]
  exact ckD_iff hv hd
theorem sgn_le {k m : Nat} {d : Nat → Nat} (hd : ∀ i, i < m → d i < 10) : sgn k m d ≤ sgx k := by
  unfold sgn sgx
  by_cases e1 : k = 1
  · rw [if_pos e1, if_neg (by omega)]; exact toT_le _
  rw [if_neg e1]
  by_cases e2 : k = 2
  · rw [if_pos e2, if_pos e2]
    have : sgB m d < 11 := Nat.mod_lt _ (by omega)
    omega
  rw [if_neg e2, if_neg e2]
  by_cases e3 : k = 3
  · rw [if_pos e3]; exact toT_le _
  rw [if_neg e3]
  by_cases e4 : k = 4
  · rw [if_pos e4]
    have := dnv_lt _ (vfo_lt d m m)
    show dnv (vfo d m m) ≤ 9
    omega
  rw [if_neg e4]
  have := dfo_lt m hd
  show dfo d m ≤ 9
  omega
end Go.Proofs.Ytonjkpakbmbafaa
