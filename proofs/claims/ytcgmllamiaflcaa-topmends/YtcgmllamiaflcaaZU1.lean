/- Texts of ours, one behind the other: U1 U2. -/
import Derived.Test.YtcgmllamiaflcaaZN2
import Derived.Test.YtcgmllamiaflcaaZR5
/- The program's polynomials: lists of numbers, and what trim leaves. -/
namespace Go.Proofs.Ytcgmllamiaflcaa
open Go.RowKit

/-- The first n numbers of the slice that begins at ao are the coefficients c. -/
def Sl (ao : Option Addr) (n : Nat) (c : Nat → Nat) (w : World) : Prop := ∀ j, j < n → ∃ b off, ao = some ⟨b, off, none⟩ ∧ w.cell? ⟨b, off + j, none⟩ = some (.int .i64 (c j : Nat))
/-- A slice's memory lies below a block number. -/
def LtB (ao : Option Addr) (B : Nat) : Prop := ∀ x, ao = some x → x.block < B
/-- A slice's memory lies behind a block number. -/
def GeB (ao : Option Addr) (B : Nat) : Prop := ∀ x, ao = some x → B ≤ x.block

theorem Sl.drewN {ao : Option Addr} {n : Nat} {c : Nat → Nat} {w : World} (h : Sl ao n c w) (k : Nat) : Sl ao n c (w.drewN k) := h
theorem Sl.less {ao : Option Addr} {n m : Nat} {c : Nat → Nat} {w : World} (h : Sl ao n c w) (hm : m ≤ n) : Sl ao m c w := fun j hj => h j (by omega)
theorem Sl.congr {ao : Option Addr} {n : Nat} {c d : Nat → Nat} {w : World} (h : Sl ao n c w) (e : ∀ j, j < n → c j = d j) : Sl ao n d w := fun j hj => by rw [← e j hj]; exact h j hj
theorem Sl.below {ao : Option Addr} {n B : Nat} {c : Nat → Nat} {w w' : World} (h : Sl ao n c w) (hb : Below B w w') (hB : LtB ao B) : Sl ao n c w' := fun j hj => by
  obtain ⟨b, off, rfl, hc⟩ := h j hj
  exact ⟨b, off, rfl, ((bcell hb).1 b (off + j) (hB _ rfl)).trans hc⟩
theorem LtB.mono {ao : Option Addr} {B C : Nat} (h : LtB ao B) (hBC : B ≤ C) : LtB ao C := fun x hx => Nat.lt_of_lt_of_le (h x hx) hBC
theorem GeB.mono {ao : Option Addr} {B C : Nat} (h : GeB ao C) (hBC : B ≤ C) : GeB ao B := fun x hx => Nat.le_trans hBC (h x hx)

set_option maxHeartbeats 1000000 in
theorem trim_any {ao : Option Addr} {n cap : Nat} {c : Nat → Nat} {w : World} (h : Sl ao n c w) (hn : n ≤ cap) (hcap : cap ≤ 9223372036854775807) :
    Calls Try.prog 78 #[.slice ao n cap] w fun e w' => e = .returned (.slice ao (dgn c n) cap) ∧ ∃ k, w' = w.drewN k := by
  have HS : Hid (Sl ao n c w) := h
  clear h
  go_enter Try.func78, Try.ntmps78
  go_wp2
  go_loopw [3] (fun i wr => ∃ m : Nat, m ≤ n ∧ i = .int .i64 m ∧ Hid (dgn c n = dgn c m) ∧ ∃ d, wr = w.drewN d) (fun i _ => (intOf i).toNat)
  case atStart => exact ⟨n, Nat.le_refl _, rfl, rfl, 0, rfl⟩
  case round =>
    obtain ⟨m, hm, rfl, HD, d, rfl⟩ := hrel
    cases m with
    | zero =>
      have HE : Hid (dgn c n = 0) := HD.out
      cases ao with
      | none =>
        go_wp2
        go_ret
        exact ⟨by rw [HE.out]; rfl, _, rfl⟩
      | some x =>
        go_wp2
        go_ret
        exact ⟨by rw [HE.out]; rfl, _, rfl⟩
    | succ m =>
      obtain ⟨b, off, rfl, hc⟩ := HS.out m (by omega)
      by_cases h0 : c m = 0
      · have HE : Hid (dgn c n = dgn c m) := by show _ = _; rw [HD.out, dgn, if_pos h0]
        have hz : (((c m : Nat) : Int) == 0) = true := by rw [h0]; rfl
        clear h0
        go_wp2
        go_roundw
        case rel => exact ⟨m, by omega, by go_num, HE.out, _, rfl⟩
        case measure => simp [intOf]
      · have HE : Hid (dgn c n = m + 1) := by show _ = _; rw [HD.out, dgn, if_neg h0]
        have hz : (((c m : Nat) : Int) == 0) = false := by rw [beq_eq_false_iff_ne]; omega
        clear h0
        go_wp2
        go_ret
        exact ⟨by rw [HE.out]; rfl, _, rfl⟩
end Go.Proofs.Ytcgmllamiaflcaa

/- The program's polynomials: values, products. -/
namespace Go.Proofs.Ytcgmllamiaflcaa
open Go.RowKit

set_option maxHeartbeats 2000000 in
theorem value_any {F T : Nat} {D : FD} (hD : D ∈ fieldsL) {g : Nat → Value} {w : World} (h : FAt F T D g w) {ao : Option Addr} {n cap x : Nat} {c : Nat → Nat} (hx : x < D.q) (hn : n ≤ 1000) (hc : El D c) (hN : Sl ao n c w) :
    Calls Try.prog 98 #[.pointer (some ⟨F, 0, none⟩), .slice ao n cap, .int .i64 x] w fun e w' => e = .returned (.int .i64 (D.val c n x n : Nat)) ∧ ∃ n, w' = w.drewN n := by
  have HF : Hid (FAt F T D g w ∧ D ∈ fieldsL ∧ Sl ao n c w ∧ El D c) := ⟨h, hD, hN, hc⟩
  clear h hD hN hc
  go_enter Try.func98, Try.ntmps98
  go_wp2
  go_loopw [7, 8] (fun s i wr => ∃ r : Nat, r ≤ n ∧ i = .int .i64 ((r : Int) - 1) ∧ s = .int .i64 (D.val c n x (n - r) : Nat) ∧ ∃ d, wr = w.drewN d) (fun _ i _ => (intOf i + 1).toNat)
  case atStart => exact ⟨n, by omega, rfl, by rw [Nat.sub_self]; rfl, 0, rfl⟩
  case round =>
    obtain ⟨r, hr, hi, rfl, hwr⟩ := hrel
    have HG : Hid (FAt F T D g wr ∧ Sl ao n c wr ∧ ∃ d, wr = w.drewN d) := by
      obtain ⟨d, rfl⟩ := hwr
      exact ⟨HF.out.1.drewN d, HF.out.2.2.1, d, rfl⟩
    clear hwr
    cases r with
    | succ s =>
      have hi' : u8 = .int .i64 (s : Int) := by rw [hi]; go_num
      clear hi
      subst hi'
      obtain ⟨y, hy⟩ : ∃ y, y = D.val c n x (n - (s + 1)) := ⟨_, rfl⟩
      have hyq : y < D.q := by rw [hy]; exact val_lt HF.out.2.1 c n x HF.out.2.2.2 _
      have HY : Hid (D.val c n x (n - s) = sumD D.p D.q (D.mul y x) (c s)) := by
        show _ = _
        rw [hy, show n - s = (n - (s + 1)) + 1 from by omega, FD.val, show n - 1 - (n - (s + 1)) = s from by omega]
      rw [← hy]
      clear hy
      obtain ⟨b, off, rfl, hcl⟩ := HG.out.2.1 s (by omega)
      have HC1 : Hid (∀ k, Calls Try.prog 20 #[.pointer (some ⟨F, 0, none⟩), .int .i64 y, .int .i64 x] (wr.drewN k) fun e w' => e = .returned (.int .i64 (D.mul y x : Nat)) ∧ ∃ m, w' = (wr.drewN k).drewN m) := fun k => mul_nat HF.out.2.1 (HG.out.1.drewN k) hyq hx
      have HC2 : Hid (∀ k, Calls Try.prog 19 #[.pointer (some ⟨F, 0, none⟩), .int .i64 (D.mul y x : Nat), .int .i64 (c s : Nat)] (wr.drewN k) fun e w' => e = .returned (.int .i64 (sumD D.p D.q (D.mul y x) (c s) : Nat)) ∧ ∃ m, w' = (wr.drewN k).drewN m) := fun k => add_nat HF.out.2.1 (HG.out.1.drewN k) ((fld HF.out.2.1).mul_lt _ _) (HF.out.2.2.2 s)
      go_wp2
      go_quiet (first | (go_at_call 20; exact Calls.quiet_of (HC1.out _)) | (go_at_call 19; exact Calls.quiet_of (HC2.out _)))
      go_wp2
      go_roundw
      case rel =>
        obtain ⟨d, hd⟩ := HG.out.2.2
        exact ⟨s, by omega, by go_num, by rw [HY.out], _, by rw [hd, World.drewN_drewN]⟩
      case measure => simp [intOf]
    | zero =>
      have hi' : u8 = .int .i64 (-1) := by rw [hi]; rfl
      clear hi
      subst hi'
      go_wp2
      go_ret
      exact ⟨rfl, HG.out.2.2⟩

/-- A row's first cells are the coefficients c. -/
def Row (g N : Nat) (c : Nat → Nat) (w : World) : Prop := ∃ cap f, RowF g cap 3 f w ∧ N ≤ cap ∧ ∀ k, k < N → f k = .int .i64 (c k : Nat)
theorem Row.cell {g N : Nat} {c : Nat → Nat} {w : World} (h : Row g N c w) (k : Nat) (hk : k < N) : w.cell? ⟨g, k, none⟩ = some (.int .i64 (c k : Nat)) := by
  obtain ⟨cap, f, hf, hN, he⟩ := h
  rw [hf.cell k (by omega), he k hk]
theorem Row.free {g N : Nat} {c : Nat → Nat} {w : World} (h : Row g N c w) (k : Nat) : w.frozen? ⟨g, k, none⟩ = false := by
  obtain ⟨cap, f, hf, hN, he⟩ := h
  exact hf.free k
theorem Row.lt {g N : Nat} {c : Nat → Nat} {w : World} (h : Row g N c w) : g < w.heap.size := by
  obtain ⟨cap, f, hf, hN, he⟩ := h
  exact hf.lt
theorem Row.drewN {g N : Nat} {c : Nat → Nat} {w : World} (h : Row g N c w) (k : Nat) : Row g N c (w.drewN k) := by
  obtain ⟨cap, f, hf, hN, he⟩ := h
  exact ⟨cap, f, hf.drewN k, hN, he⟩
theorem Row.store {g N : Nat} {c d : Nat → Nat} {w : World} (h : Row g N c w) (k v : Nat) (hd : ∀ j, j < N → d j = if j = k then v else c j) : Row g N d (w.setCell ⟨g, k, none⟩ (.int .i64 (v : Nat))) := by
  obtain ⟨cap, f, hf, hN, he⟩ := h
  refine ⟨cap, _, hf.store k _, hN, fun j hj => ?_⟩
  unfold upd
  rw [hd j hj]
  split
  · rfl
  · exact he j hj
theorem Row.congr {g N : Nat} {c d : Nat → Nat} {w : World} (h : Row g N c w) (e : ∀ k, k < N → c k = d k) : Row g N d w := by
  obtain ⟨cap, f, hf, hN, he⟩ := h
  exact ⟨cap, f, hf, hN, fun k hk => by rw [he k hk, e k hk]⟩
theorem Row.less {g N M : Nat} {c : Nat → Nat} {w : World} (h : Row g N c w) (hM : M ≤ N) : Row g M c w := by
  obtain ⟨cap, f, hf, hN, he⟩ := h
  exact ⟨cap, f, hf, by omega, fun k hk => he k (by omega)⟩
theorem Row.below {g N B : Nat} {c : Nat → Nat} {w w' : World} (h : Row g N c w) (hb : Below B w w') (hB : g < B) : Row g N c w' := by
  obtain ⟨cap, f, hf, hN, he⟩ := h
  exact ⟨cap, f, hf.below hb hB, hN, he⟩
theorem Row.other {g N : Nat} {c : Nat → Nat} {w w' : World} (h : Row g N c w) (e : w'.heap[g]? = w.heap[g]?) : Row g N c w' := by
  obtain ⟨cap, f, hf, hN, he⟩ := h
  exact ⟨cap, f, hf.other e, hN, he⟩
theorem Row.sl {g N : Nat} {c : Nat → Nat} {w : World} (h : Row g N c w) {n : Nat} (hn : n ≤ N) : Sl (some ⟨g, 0, none⟩) n c w := fun j hj => ⟨g, 0, rfl, by rw [Nat.zero_add]; exact h.cell j (by omega)⟩
theorem row_zeros {base n : Nat} {w : World} (h : OwnI base (.slice (some ⟨base, 0, none⟩) n n) (List.replicate n 0) w) : Row base n pnil w := by
  rcases h.2 with ⟨h1, _⟩ | ⟨g, cap, cur, hv, hg, hh, hle, hcm, hsz, htake⟩
  · cases h1
  · simp only [List.length_replicate, Value.slice.injEq, Option.some.injEq, Addr.mk.injEq, and_true, true_and] at hv
    obtain ⟨rfl, rfl⟩ := hv
    by_cases h0 : n = 0
    · exact ⟨n, fun _ => .int .i64 0, ⟨cur, hh, by omega, fun o ho => by omega⟩, Nat.le_refl _, fun k hk => by omega⟩
    · obtain ⟨gl, cl, fl, hvl, hgl, hgl', hll, hcl, hrl, hfl⟩ := h.row n (by simp) (by omega)
      simp only [Value.slice.injEq, Option.some.injEq, Addr.mk.injEq, and_true, true_and] at hvl
      obtain ⟨rfl, rfl⟩ := hvl
      exact ⟨n, fl, hrl, Nat.le_refl _, fun k hk => by rw [hfl k hk, list_getD_replicate]; rfl⟩

/-- The slice v, made behind block number base, holds the n coefficients c. -/
def OwnP (base : Nat) (v : Value) (n : Nat) (c : Nat → Nat) (w : World) : Prop :=
  ∃ ao cap, v = .slice ao n cap ∧ n ≤ cap ∧ cap ≤ 9223372036854775807 ∧ GeB ao base ∧ LtB ao w.heap.size ∧ (ao = none → cap = 0) ∧ (0 < n → ∃ g, ao = some ⟨g, 0, none⟩ ∧ Row g n c w)
theorem OwnP.of_row {base g n N cap : Nat} {c : Nat → Nat} {w : World} (h : Row g N c w) (hn : n ≤ N) (hN : n ≤ cap) (hcap : cap ≤ 9223372036854775807) (hb : base ≤ g) : OwnP base (.slice (some ⟨g, 0, none⟩) n cap) n c w :=
  ⟨_, cap, rfl, hN, hcap, fun x hx => by cases hx; exact hb, fun x hx => by cases hx; exact h.lt, fun e => (by cases e), fun _ => ⟨g, rfl, h.less hn⟩⟩
theorem OwnP.below {base B n : Nat} {v : Value} {c : Nat → Nat} {w w' : World} (h : OwnP base v n c w) (hb : Below B w w') (hB : w.heap.size ≤ B) : OwnP base v n c w' := by
  obtain ⟨ao, cap, hv, h1, h2, hg, hl, hz, hr⟩ := h
  refine ⟨ao, cap, hv, h1, h2, hg, hl.mono hb.size, hz, fun h0 => ?_⟩
  obtain ⟨g, e, hrow⟩ := hr h0
  exact ⟨g, e, hrow.below hb (Nat.lt_of_lt_of_le (hl _ e) hB)⟩
theorem OwnP.mono {base base' n : Nat} {v : Value} {c : Nat → Nat} {w : World} (h : OwnP base v n c w) (hb : base' ≤ base) : OwnP base' v n c w := by
  obtain ⟨ao, cap, hv, h1, h2, hg, hl, hz, hr⟩ := h
  exact ⟨ao, cap, hv, h1, h2, hg.mono hb, hl, hz, hr⟩
theorem OwnP.congr {base n : Nat} {v : Value} {c d : Nat → Nat} {w : World} (h : OwnP base v n c w) (e : ∀ k, k < n → c k = d k) : OwnP base v n d w := by
  obtain ⟨ao, cap, hv, h1, h2, hg, hl, hz, hr⟩ := h
  refine ⟨ao, cap, hv, h1, h2, hg, hl, hz, fun h0 => ?_⟩
  obtain ⟨g, e', hrow⟩ := hr h0
  exact ⟨g, e', hrow.congr e⟩
theorem OwnP.drewN {base n : Nat} {v : Value} {c : Nat → Nat} {w : World} (h : OwnP base v n c w) (k : Nat) : OwnP base v n c (w.drewN k) := by
  obtain ⟨ao, cap, hv, h1, h2, hg, hl, hz, hr⟩ := h
  refine ⟨ao, cap, hv, h1, h2, hg, hl, hz, fun h0 => ?_⟩
  obtain ⟨g, e', hrow⟩ := hr h0
  exact ⟨g, e', hrow.drewN k⟩
/-- Opened: where it lies. -/
theorem OwnP.open {base n : Nat} {v : Value} {c : Nat → Nat} {w : World} (h : OwnP base v n c w) : ∃ ao cap, v = .slice ao n cap ∧ n ≤ cap ∧ cap ≤ 9223372036854775807 ∧ GeB ao base ∧ LtB ao w.heap.size ∧ (ao = none → cap = 0) ∧ Sl ao n c w := by
  obtain ⟨ao, cap, hv, h1, h2, hg, hl, hz, hr⟩ := h
  refine ⟨ao, cap, hv, h1, h2, hg, hl, hz, fun j hj => ?_⟩
  obtain ⟨g, e, hrow⟩ := hr (by omega)
  exact ⟨g, 0, e, by rw [Nat.zero_add]; exact hrow.cell j hj⟩

/-- The product while it is made: r rows, and j places of the next one. -/
def pin (D : FD) (a b : Nat → Nat) (r j : Nat) : Nat → Nat := fun k => if r ≤ k ∧ k < r + j then pmul D (r + 1) a b k else pmul D r a b k
theorem pin_zero (D : FD) (a b : Nat → Nat) (r : Nat) : pin D a b r 0 = pmul D r a b := by funext k; unfold pin; rw [if_neg (by omega)]
theorem pin_all {D : FD} (F : Fld D) {a b : Nat → Nat} {m : Nat} (hb : Bd m b) (r : Nat) : pin D a b r m = pmul D (r + 1) a b := by
  funext k
  unfold pin
  by_cases h : r ≤ k ∧ k < r + m
  · rw [if_pos h]
  · rw [if_neg h]
    show _ = D.ad (pmul D r a b k) (psh r (pscale D (a r) b) k)
    unfold psh pscale
    by_cases h2 : r ≤ k
    · rw [if_pos h2, hb (k - r) (by omega), mul0 F, ad_zero F (el_mul F a b r k)]
    · rw [if_neg h2, ad_zero F (el_mul F a b r k)]
theorem pin_at (D : FD) (a b : Nat → Nat) (r j : Nat) : pin D a b r j (r + j) = pmul D r a b (r + j) := by unfold pin; rw [if_neg (by omega)]
theorem pin_new (D : FD) (a b : Nat → Nat) (r j : Nat) : D.ad (pmul D r a b (r + j)) (D.mul (a r) (b j)) = pmul D (r + 1) a b (r + j) := by
  show _ = D.ad (pmul D r a b (r + j)) (psh r (pscale D (a r) b) (r + j))
  unfold psh pscale
  rw [if_pos (by omega), Nat.add_sub_cancel_left]
theorem pin_step (D : FD) (a b : Nat → Nat) (r j k : Nat) : pin D a b r (j + 1) k = if k = r + j then pmul D (r + 1) a b (r + j) else pin D a b r j k := by
  unfold pin
  by_cases h : k = r + j
  · rw [if_pos h, if_pos (by omega), h]
  · rw [if_neg h]
    by_cases h2 : r ≤ k ∧ k < r + j
    · rw [if_pos h2, if_pos (by omega)]
    · rw [if_neg h2, if_neg (by omega)]

end Go.Proofs.Ytcgmllamiaflcaa
