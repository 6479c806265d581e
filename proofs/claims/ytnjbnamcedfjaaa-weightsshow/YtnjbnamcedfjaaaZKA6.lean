/- Weights: what Shows asks of its closures (outside, found, Shows$1, Shows$1$1, Shows$2, checkDistance). -/
import Derived.Test.YtnjbnamcedfjaaaZKA5
namespace Go.Proofs.Ytnjbnamcedfjaaa
open Go.RowKit Go.Sort

def kv (q n k x : Nat) : Int := kc (kwc ((q : Int) - 1) x) n k
theorem kv_abs {q : Nat} (hq : 2 ≤ q) (n k x : Nat) : (kv q n k x).natAbs ≤ q ^ n := by
  refine kc_abs (by omega) (fun i => ?_) n k
  unfold kwc
  by_cases h : i < x
  · rw [if_pos h]; show 1 ≤ q - 1; omega
  · rw [if_neg h]; omega
theorem krawv_any (q n k x : Nat) (hq : 2 ≤ q) (hq2 : q ≤ 64) (hp : q ^ n ≤ 1073741824) (hk : k ≤ n) (hx : x ≤ n) (w : World) :
    Calls Try.prog 35 #[.int .i64 (q : Nat), .int .i64 (n : Nat), .int .i64 (k : Nat), .int .i64 (x : Nat)] w fun e w' => e = .returned (.int .i64 (kv q n k x)) ∧ w' = w := by
  have h := kraw_any q n k x hq hq2 hp hk hx w
  rw [krw_is q n k x hx] at h
  exact h
/-- The sum that both sides make. -/
def dsm (q n : Nat) (f : Nat → Int) (x : Nat) : Int := vsm f (fun k => kv q n k x) (n + 1)
theorem dsm_term {q n : Nat} {f : Nat → Int} (hq : 2 ≤ q) (hp : q ^ n ≤ 1073741824) {N : Nat} (hf : ∀ j, j < N → 0 ≤ f j ∧ f j ≤ 1048576) (x : Nat) : ∀ j, j < N → (f j * kv q n j x).natAbs ≤ 72057594037927936 := fun j hj => by
  have h1 := hf j hj
  have h2 : (f j).natAbs ≤ 1048576 := by omega
  have h3 : (kv q n j x).natAbs ≤ 1073741824 := Nat.le_trans (kv_abs hq n j x) hp
  rw [Int.natAbs_mul]
  exact Nat.le_trans (Nat.mul_le_mul h2 h3) (by omega)
theorem dsm_abs {q n : Nat} {f : Nat → Int} (hq : 2 ≤ q) (hp : q ^ n ≤ 1073741824) (hn : n ≤ 30) (hf : ∀ j, j < n + 1 → 0 ≤ f j ∧ f j ≤ 1048576) (x : Nat) : ∀ r, r ≤ n + 1 → (vsm f (fun k => kv q n k x) r).natAbs ≤ 2305843009213693952 := fun r hr => by
  have h := vsm_abs (K := fun k => kv q n k x) (dsm_term hq hp hf x) r hr
  have h2 : r * 72057594037927936 ≤ 31 * 72057594037927936 := Nat.mul_le_mul_right _ (by omega)
  omega

theorem enters_s11 : ∀ args w, (callFunc 51 args).run Try.prog w = .ok (.enter 51 args) w :=
  enters_of Try.func51 (by kernel_rfl) rfl
theorem enters_s1 : ∀ args w, (callFunc 49 args).run Try.prog w = .ok (.enter 49 args) w :=
  enters_of Try.func49 (by kernel_rfl) rfl
theorem enters_s2 : ∀ args w, (callFunc 53 args).run Try.prog w = .ok (.enter 53 args) w :=
  enters_of Try.func53 (by kernel_rfl) rfl
theorem enters_o1 : ∀ args w, (callFunc 84 args).run Try.prog w = .ok (.enter 84 args) w :=
  enters_of Try.func84 (by kernel_rfl) rfl

set_option maxHeartbeats 2000000 in
theorem s11_any (q n k x : Nat) (hq : 2 ≤ q) (hq2 : q ≤ 64) (hp : q ^ n ≤ 1073741824) (hk : k ≤ n) (hx : x ≤ n) {Bq Bn Bx : Nat} {w : World} (hcq : w.cell? ⟨Bq, 0, none⟩ = some (.int .i64 (q : Nat))) (hcn : w.cell? ⟨Bn, 0, none⟩ = some (.int .i64 (n : Nat))) (hcx : w.cell? ⟨Bx, 0, none⟩ = some (.int .i64 (x : Nat))) :
    Calls Try.prog 51 #[.int .i64 (k : Nat), .pointer (some ⟨Bq, 0, none⟩), .pointer (some ⟨Bn, 0, none⟩), .pointer (some ⟨Bx, 0, none⟩)] w fun e w' => e = .returned (.int .i64 (kv q n k x)) ∧ w' = w := by
  have HC : Hid (Calls Try.prog 35 #[.int .i64 (q : Nat), .int .i64 (n : Nat), .int .i64 (k : Nat), .int .i64 (x : Nat)] w fun e w' => e = .returned (.int .i64 (kv q n k x)) ∧ w' = w) := krawv_any q n k x hq hq2 hp hk hx w
  clear hp
  go_enter Try.func51, Try.ntmps51
  go_wp2_with (go_at_call 35; refine HC.out.mono ?_; rintro e w' ⟨rfl, hw⟩; have hw := hw.symm; subst hw)
  go_ret
  exact ⟨rfl, rfl⟩

/-- The boxes of Shows that its closures read. -/
structure ShB (Bf Bq Bn q n : Nat) (ao : Option Addr) (cap : Nat) (f : Nat → Int) (w : World) : Prop where
  cf : w.cell? ⟨Bf, 0, none⟩ = some (.slice ao (n + 1) cap)
  cq : w.cell? ⟨Bq, 0, none⟩ = some (.int .i64 (q : Nat))
  cn : w.cell? ⟨Bn, 0, none⟩ = some (.int .i64 (n : Nat))
  sl : SlZ ao (n + 1) f w
  lf : Bf < w.heap.size
  lq : Bq < w.heap.size
  ln : Bn < w.heap.size
  la : LtB ao w.heap.size
theorem ShB.below {Bf Bq Bn q n : Nat} {ao : Option Addr} {cap : Nat} {f : Nat → Int} {w w' : World} (h : ShB Bf Bq Bn q n ao cap f w) (hb : Below w.heap.size w w') : ShB Bf Bq Bn q n ao cap f w' :=
  ⟨((bcell hb).1 Bf 0 h.lf).trans h.cf, ((bcell hb).1 Bq 0 h.lq).trans h.cq, ((bcell hb).1 Bn 0 h.ln).trans h.cn, h.sl.below hb h.la, Nat.lt_of_lt_of_le h.lf hb.size, Nat.lt_of_lt_of_le h.lq hb.size, Nat.lt_of_lt_of_le h.ln hb.size, h.la.mono hb.size⟩

set_option maxHeartbeats 2000000 in
set_option maxRecDepth 100000 in
theorem s1_any {q n : Nat} {f : Nat → Int} (hq : 2 ≤ q) (hq2 : q ≤ 64) (hp : q ^ n ≤ 1073741824) (hn : n ≤ 30) (hf : ∀ j, j < n + 1 → 0 ≤ f j ∧ f j ≤ 1048576) (x : Nat) (hx : x ≤ n) {Bf Bq Bn : Nat} {ao : Option Addr} {cap : Nat} {w : World} (hB : ShB Bf Bq Bn q n ao cap f w) :
    Calls Try.prog 49 #[.int .i64 (x : Nat), .pointer (some ⟨Bf, 0, none⟩), .pointer (some ⟨Bq, 0, none⟩), .pointer (some ⟨Bn, 0, none⟩)] w fun e w' => e = .returned (.int .i64 (dsm q n f x)) ∧ Below w.heap.size w w' := by
  have hal : Below w.heap.size w (w.alloc (.cells #[.int .i64 (x : Nat)] 3)) := (Below.refl _ _).alloc (Nat.le_refl _) _
  have hB2 := hB.below hal
  have hcx : (w.alloc (.cells #[.int .i64 (x : Nat)] 3)).cell? ⟨w.heap.size, 0, none⟩ = some (.int .i64 (x : Nat)) := by simp
  have HC : Hid (Calls Try.prog 50 #[.slice ao (n + 1 : Nat) cap, .func (.func 51) #[] #[.pointer (some ⟨Bq, 0, none⟩), .pointer (some ⟨Bn, 0, none⟩), .pointer (some ⟨w.heap.size, 0, none⟩)]] (w.alloc (.cells #[.int .i64 (x : Nat)] 3)) fun e w' => e = .returned (.int .i64 (dsm q n f x)) ∧ w' = w.alloc (.cells #[.int .i64 (x : Nat)] 3)) := by
    refine wtimes_any (K := fun k => kv q n k x) enters_s11 hB2.sl (by omega) (fun j hj => Nat.le_trans (dsm_term hq hp hf x j hj) (by omega)) (dsm_abs hq hp hn hf x) (fun j hj => ?_)
    have e : (#[Value.int .i64 (j : Nat)] ++ #[Value.pointer (some ⟨Bq, 0, none⟩), .pointer (some ⟨Bn, 0, none⟩), .pointer (some ⟨w.heap.size, 0, none⟩)] : Array Value) = #[.int .i64 (j : Nat), .pointer (some ⟨Bq, 0, none⟩), .pointer (some ⟨Bn, 0, none⟩), .pointer (some ⟨w.heap.size, 0, none⟩)] := rfl
    rw [e]
    exact s11_any q n j x hq hq2 hp (by omega) hx hB2.cq hB2.cn hcx
  have hcf := hB2.cf
  have HL : Hid (Below w.heap.size w (w.alloc (.cells #[.int .i64 (x : Nat)] 3))) := hal
  clear hp hf hB hB2 hal hcx
  go_enter Try.func49, Try.ntmps49
  go_wp2_with (go_at_call 50; refine HC.out.mono ?_; rintro e w' ⟨rfl, rfl⟩)
  go_ret
  exact ⟨rfl, HL.out⟩

set_option maxHeartbeats 2000000 in
set_option maxRecDepth 100000 in
theorem s2_any {q n : Nat} {f : Nat → Int} (hq : 2 ≤ q) (hq2 : q ≤ 64) (hp : q ^ n ≤ 1073741824) (hn : n ≤ 30) (hf : ∀ j, j < n + 1 → 0 ≤ f j ∧ f j ≤ 1048576) (x : Nat) (hx : x ≤ n) {Ba Bf Bq Bn : Nat} {ao : Option Addr} {cap : Nat} {w : World} (hB : ShB Bf Bq Bn q n ao cap f w)
    (ha : w.cell? ⟨Ba, 0, none⟩ = some (.func (.func 49) #[] #[.pointer (some ⟨Bf, 0, none⟩), .pointer (some ⟨Bq, 0, none⟩), .pointer (some ⟨Bn, 0, none⟩)])) :
    Calls Try.prog 53 #[.int .i64 (x : Nat), .pointer (some ⟨Ba, 0, none⟩)] w fun e w' => e = .returned (.bool (decide (0 < dsm q n f x))) ∧ Below w.heap.size w w' := by
  have eg := enters_s1
  obtain ⟨v, hv⟩ : ∃ v, v = dsm q n f x := ⟨_, rfl⟩
  have hcall : Calls Try.prog 49 (#[.int .i64 (x : Nat)] ++ #[.pointer (some ⟨Bf, 0, none⟩), .pointer (some ⟨Bq, 0, none⟩), .pointer (some ⟨Bn, 0, none⟩)]) w fun e w' => e = .returned (.int .i64 v) ∧ Below w.heap.size w w' := by
    rw [hv]; exact s1_any hq hq2 hp hn hf x hx hB
  rw [← hv]
  clear hp hf hB hv
  go_enter Try.func53, Try.ntmps53
  by_cases h0 : 0 < v
  · have h0b : v > 0 := h0
    go_wp2_with (go_at_fn 49; refine hcall.mono ?_; rintro e w' ⟨rfl, hw⟩)
    go_ret
    exact ⟨by simp [h0], hw⟩
  · have h0b : ¬ v > 0 := h0
    go_wp2_with (go_at_fn 49; refine hcall.mono ?_; rintro e w' ⟨rfl, hw⟩)
    go_ret
    exact ⟨by simp, hw⟩

/-- Is there one of them, from one to another? -/
def foundB (p : Nat → Bool) (d : Nat) : Nat → Bool
  | 0 => false
  | r + 1 => foundB p d r || p (d + r)
theorem foundB_no {p : Nat → Bool} {d : Nat} : ∀ r, foundB p d r = false ↔ ∀ j, j < r → p (d + j) = false
  | 0 => ⟨fun _ j hj => absurd hj (by omega), fun _ => rfl⟩
  | r + 1 => by
    show (foundB p d r || p (d + r)) = false ↔ _
    rw [Bool.or_eq_false_iff, foundB_no r]
    constructor
    · intro h j hj
      by_cases e : j = r
      · rw [e]; exact h.2
      · exact h.1 j (by omega)
    · exact fun h => ⟨fun j hj => h j (by omega), h r (by omega)⟩
theorem foundB_yes {p : Nat → Bool} {d i : Nat} (h : p (d + i) = true) : ∀ r, i < r → foundB p d r = true
  | 0, hi => absurd hi (by omega)
  | r + 1, hi => by
    show (foundB p d r || p (d + r)) = true
    by_cases e : i = r
    · rw [← e, h, Bool.or_true]
    · rw [foundB_yes h r (by omega), Bool.true_or]

set_option maxHeartbeats 2000000 in
set_option maxRecDepth 100000 in
theorem found_any {gf : Nat} {lb : Array Value} (eg : ∀ args w, (callFunc gf args).run Try.prog w = .ok (.enter gf args) w) {d n : Nat} (hd : d ≤ n) (hn : n ≤ 1000) {p : Nat → Bool} {w : World}
    (hp : ∀ (j : Nat) (wx : World), d ≤ j → j ≤ n → Below w.heap.size w wx → Calls Try.prog gf (#[.int .i64 (j : Nat)] ++ lb) wx fun e w' => e = .returned (.bool (p j)) ∧ Below wx.heap.size wx w') :
    Calls Try.prog 52 #[.int .i64 (d : Nat), .int .i64 (n : Nat), .func (.func gf) #[] lb] w fun e w' => e = .returned (.bool (foundB p d (n + 1 - d))) ∧ Below w.heap.size w w' := by
  have HS : Hid (∀ (j : Nat) (wx : World), d ≤ j → j ≤ n → Below w.heap.size w wx → Calls Try.prog gf (#[.int .i64 (j : Nat)] ++ lb) wx fun e w' => e = .returned (.bool (p j)) ∧ Below wx.heap.size wx w') := hp
  clear hp
  go_enter Try.func52, Try.ntmps52
  go_wp2
  go_loopw [7] (fun vi wr => ∃ r : Nat, d + r ≤ n + 1 ∧ vi = .int .i64 (d + r : Nat) ∧ Hid (foundB p d r = false ∧ Below w.heap.size w wr)) (fun vi _ => n + 1 - (intOf vi).toNat)
  case atStart => exact ⟨0, by omega, rfl, rfl, Below.refl _ _⟩
  case round =>
    obtain ⟨r, hr, rfl, HV⟩ := hrel
    by_cases hle : d + r ≤ n
    · have hib : ((d + r : Nat) : Int) ≤ (n : Int) := by omega
      obtain ⟨b, hb⟩ : ∃ b, b = p (d + r) := ⟨_, rfl⟩
      have hcall := HS.out (d + r) _ (by omega) hle HV.out.2
      rw [← hb] at hcall
      cases b
      · have HR : Hid (foundB p d (r + 1) = false) := by
          show (foundB p d r || p (d + r)) = false
          rw [HV.out.1, ← hb]; rfl
        clear hb
        go_wp2_with (go_at_fn gf; refine hcall.mono ?_; rintro e w' ⟨rfl, hw⟩)
        go_roundw
        case rel => exact ⟨r + 1, by omega, by go_num, HR.out, bel_up' HV.out.2 hw⟩
        case measure => simp [intOf]; omega
      · have HR : Hid (foundB p d (n + 1 - d) = true) := foundB_yes hb.symm _ (by omega)
        clear hb
        go_wp2_with (go_at_fn gf; refine hcall.mono ?_; rintro e w' ⟨rfl, hw⟩)
        go_ret
        exact ⟨by rw [HR.out]; rfl, bel_up' HV.out.2 hw⟩
    · have hre : r = n + 1 - d := by omega
      have hib : ¬ ((d + r : Nat) : Int) ≤ (n : Int) := by omega
      have HR : Hid (foundB p d (n + 1 - d) = false) := by show _ = _; rw [← hre]; exact HV.out.1
      go_wp2
      go_ret
      exact ⟨by rw [HR.out]; rfl, HV.out.2⟩
end Go.Proofs.Ytnjbnamcedfjaaa
