/- Checks and words out of raw numbers (ChecksOf, WordOf; printed by make/ke21.py). -/
import Derived.Test.YtjkncdmbcckcdabZKE17
import Derived.Test.YtjkncdmbcckcdabZK4
namespace Go.Proofs.Ytjkncdmbcckcdab
open Go.RowKit Go.Sort

theorem crow_congr {n : Int} {z y : Nat → Int} : ∀ m, (∀ j, j < m → z j = y j) → crow n z m = crow n y m
  | 0, _ => rfl
  | m + 1, h => by
    show (if crow n z m ≠ 0 then crow n z m else if z m < 0 ∨ n ≤ z m then 10 else if 0 < m ∧ z m ≤ z (m - 1) then 3 else 0) = if crow n y m ≠ 0 then crow n y m else if y m < 0 ∨ n ≤ y m then 10 else if 0 < m ∧ y m ≤ y (m - 1) then 3 else 0
    rw [crow_congr m (fun j hj => h j (by omega)), h m (by omega)]
    by_cases e : 0 < m
    · rw [h (m - 1) (by omega)]
    · have e1 : ¬ (0 < m ∧ y m ≤ z (m - 1)) := fun x => e x.1
      have e2 : ¬ (0 < m ∧ y m ≤ y (m - 1)) := fun x => e x.1
      rw [if_neg e1, if_neg e2]
/-- A rising list of places below k, all of them below K. -/
structure RsL (K k m : Nat) (z : Nat → Int) : Prop where
  few : m ≤ k
  at' : ∀ j, j < m → 0 ≤ z j ∧ z j < (k : Int)
  ok : crow (K : Int) z m = 0
theorem RsL.skip {K k m : Nat} {z : Nat → Int} (h : RsL K k m z) : RsL K (k + 1) m z := ⟨by have := h.few; omega, fun j hj => by have := h.at' j hj; omega, h.ok⟩
theorem RsL.put {K k m : Nat} {z : Nat → Int} (h : RsL K k m z) (hk : k < K) : RsL K (k + 1) (m + 1) (fun j => if j = m then (k : Int) else z j) := by
  refine ⟨by have := h.few; omega, fun j hj => ?_, ?_⟩
  · show 0 ≤ (if j = m then (k : Int) else z j) ∧ (if j = m then (k : Int) else z j) < ((k + 1 : Nat) : Int)
    by_cases e : j = m
    · rw [if_pos e]; omega
    · rw [if_neg e]; have := h.at' j (by omega); omega
  · have e0 : crow (K : Int) (fun j => if j = m then (k : Int) else z j) m = 0 := by
      rw [crow_congr (y := z) m (fun j hj => if_neg (by omega))]; exact h.ok
    show (if crow (K : Int) (fun j => if j = m then (k : Int) else z j) m ≠ 0 then _ else if (if m = m then (k : Int) else z m) < 0 ∨ (K : Int) ≤ (if m = m then (k : Int) else z m) then 10 else if 0 < m ∧ (if m = m then (k : Int) else z m) ≤ (if m - 1 = m then (k : Int) else z (m - 1)) then 3 else 0) = 0
    rw [if_neg (fun x => x e0), if_pos rfl, if_neg (by omega), if_neg ?_]
    rintro ⟨h1, h2⟩
    rw [if_neg (by omega)] at h2
    have := h.at' (m - 1) (by omega)
    omega
/-- i rising lists of places below K, in a list of the call's own. -/
structure MkV (base K i : Nat) (v : Value) (vs : Nat → Value) (N : Nat → Nat) (Z : Nat → Nat → Int) (w : World) : Prop where
  own : OwnV base v (vl i vs) w
  row : ∀ j, j < i → OwnI base (vs j) (zl (N j) (Z j)) w
  ris : ∀ j, j < i → RsL K K (N j) (Z j)
theorem MkV.below {base K i : Nat} {v : Value} {vs : Nat → Value} {N : Nat → Nat} {Z : Nat → Nat → Int} {w w' : World} (h : MkV base K i v vs N Z w) (hb : Below w.heap.size w w') : MkV base K i v vs N Z w' :=
  ⟨h.own.below hb (Nat.le_refl _), fun j hj => (h.row j hj).below hb (fun k hk => ((h.row j hj).lt k hk).2), h.ris⟩
theorem MkV.push {base K i c : Nat} {v v' u : Value} {vs : Nat → Value} {N : Nat → Nat} {Z : Nat → Nat → Int} {y : Nat → Int} {w w' : World} (h : MkV base K i v vs N Z w) (hu : OwnI base u (zl c y) w) (hy : RsL K K c y) (ho : OwnV base v' (vl i vs ++ [u]) w') (hg : w.grownBy w' v.ownBlock) :
    MkV base K (i + 1) v' (fun j => if j = i then u else vs j) (fun j => if j = i then c else N j) (fun j => if j = i then y else Z j) w' := by
  refine ⟨?_, fun j hj => ?_, fun j hj => ?_⟩
  · have e : vl (i + 1) (fun j => if j = i then u else vs j) = vl i vs ++ [u] := by
      unfold vl
      rw [List.range_succ, List.map_append]
      congr 1
      · exact List.map_congr_left (fun j hj => by rw [if_neg (by have := List.mem_range.1 hj; omega)])
      · simp
    rw [e]; exact ho
  · by_cases e : j = i
    · simp only [if_pos e]; exact hu.kept hg (hu.apart h.own)
    · simp only [if_neg e]; exact (h.row j (by omega)).kept hg ((h.row j (by omega)).apart h.own)
  · by_cases e : j = i
    · simp only [if_pos e]; exact hy
    · simp only [if_neg e]; exact h.ris j (by omega)
theorem MkV.matZ {base K i : Nat} {v : Value} {vs : Nat → Value} {N : Nat → Nat} {Z : Nat → Nat → Int} {w : World} (h : MkV base K i v vs N Z w) (hK : K ≤ 1000000) : ∃ mo mc, v = .slice mo i mc ∧ MatZ mo i (fun j => slA (vs j)) N (fun j => slC (vs j)) Z w := by
  obtain ⟨mo, mc, hv, _, _, _, hcell⟩ := h.own.open
  rw [vl_len] at hv
  have key : ∀ j, j < i → ∃ so sc, vs j = .slice so (N j) sc ∧ ArgL so (N j) sc (Z j) w := fun j hj => (h.row j hj).argL
  refine ⟨mo, mc, hv, ⟨fun j hj => ?_, fun j hj => ?_, fun j hj => ?_, fun j hj => ?_, fun j hj => ?_, fun j hj => by have := (h.ris j hj).few; omega⟩⟩
  · obtain ⟨g, e, hc, _⟩ := hcell j (vs j) (vl_get i vs j hj)
    obtain ⟨so, sc, e2, _⟩ := key j hj
    refine ⟨g, 0, e, ?_⟩
    rw [Nat.zero_add, hc, e2]; rfl
  · obtain ⟨so, sc, e2, ha⟩ := key j hj
    simp only [e2, slA]; exact ha.sl
  · obtain ⟨so, sc, e2, ha⟩ := key j hj
    simp only [e2, slC]; exact ha.le
  · obtain ⟨so, sc, e2, ha⟩ := key j hj
    simp only [e2, slC]; exact ha.cap
  · obtain ⟨so, sc, e2, ha⟩ := key j hj
    simp only [e2, slA, slC]; exact ha.nil

set_option maxHeartbeats 8000000 in
set_option maxRecDepth 100000 in
theorem checksOf_any {ao : Option Addr} {n ca : Nat} {z : Nat → Int} {w : World} (h : Arg ao n ca z w) (hn : n ≤ 1000) (K r : Nat) (hK : K ≤ 100) (hr : r ≤ 100) :
    Calls Try.prog 5 #[.slice ao n ca, .int .i64 K, .int .i64 r] w fun e w' => ∃ v vs N Z, e = .returned v ∧ MkV w.heap.size K r v vs N Z w' ∧ Below w.heap.size w w' := by
  have HA : Hid (Arg ao n ca z w) := h
  have HPi : Hid (∀ x, I64 x → ∃ M : Nat, ∀ w : World, Calls Try.prog 4 #[.int .i64 x, .int .i64 3] w fun e w' => e = .returned (.int .i64 (M : Nat)) ∧ w' = w) := fun x hx => by
    have h1 := pick_lo x 3 (by omega)
    exact ⟨(pick x 3).toNat, fun w => by rw [Int.toNat_of_nonneg h1]; exact pick_any x 3 w hx.1 hx.2 (by omega) (by omega)⟩
  clear h
  go_enter Try.func5, Try.ntmps5
  go_wp2
  go_loopw [7, 8] (fun v vi wr => ∃ (i : Nat) (vs : Nat → Value) (N : Nat → Nat) (Z : Nat → Nat → Int), i ≤ r ∧ vi = .int .i64 i ∧ Hid (MkV w.heap.size K i v vs N Z wr ∧ Below w.heap.size w wr)) (fun _ vi _ => r - (intOf vi).toNat)
  case atStart => exact ⟨0, fun _ => undef, fun _ => 0, fun _ _ => 0, by omega, rfl, ⟨OwnV.nil _ _, fun j hj => absurd hj (by omega), fun j hj => absurd hj (by omega)⟩, Below.refl _ _⟩
  case round =>
    obtain ⟨i, vs, N, Z, hi, rfl, HG⟩ := hrel
    rename World => wA
    by_cases hlt : i < r
    · have hib : (i : Int) < (r : Int) := by omega
      obtain ⟨ic, hic⟩ : ∃ ic, ic = i * K := ⟨_, rfl⟩
      have hic2 : ic ≤ 10000 := by
        rw [hic]
        have := Nat.mul_le_mul (show i ≤ 100 by omega) hK
        omega
      have hw1 : IntKind.i64.wrap ((i : Int) * (K : Int)) = (ic : Int) := wrap_to (by rw [hic]; simp) (by omega)
      have hsA := HG.out.2.size
      clear hic
      go_wp2
      go_loopw [9, 10] (fun vl vk wx => ∃ (k m : Nat) (y : Nat → Int), k ≤ K ∧ vk = .int .i64 k ∧ Hid (OwnI wA.heap.size vl (zl m y) wx ∧ RsL K k m y ∧ Below wA.heap.size wA wx)) (fun _ vk _ => K - (intOf vk).toNat)
      case atStart => exact ⟨0, 0, fun _ => 0, by omega, rfl, OwnI.nil _ _, ⟨Nat.le_refl _, fun j hj => absurd hj (by omega), rfl⟩, Below.refl _ _⟩
      case round =>
        obtain ⟨k, m, y, hk, rfl, HJ⟩ := hrel
        rename World => wB
        by_cases hlk : k < K
        · have hkb : (k : Int) < (K : Int) := by omega
          obtain ⟨ix, hix⟩ : ∃ ix, ix = ic + k := ⟨_, rfl⟩
          have hw2 : IntKind.i64.wrap ((ic : Int) + (k : Int)) = (ix : Int) := wrap_to (by omega) (by omega)
          have hw2' : (ic : Int) + (k : Int) = (ix : Int) := by omega
          have HR : Hid (Calls Try.prog 12 #[.slice ao n ca, .int .i64 (ix : Nat)] wB fun e w' => (∃ x, e = .returned (.int .i64 x) ∧ I64 x) ∧ ∃ k, w' = wB.drewN k) := raw_any (HA.out.below (bel_up' HG.out.2 HJ.out.2.2)) hn ix (by omega)
          have HR' : Hid (Calls Try.prog 12 #[.slice ao n ca, .int .i64 ((ic : Int) + (k : Int))] wB fun e w' => (∃ x, e = .returned (.int .i64 x) ∧ I64 x) ∧ ∃ k, w' = wB.drewN k) := by rw [hw2']; exact HR.out
          clear hix hw2'
          go_wp2_with fail
          refine (by first | exact HR.out | exact HR'.out : Calls _ _ _ _ _).mono ?_
          rintro e w1 ⟨⟨x, rfl, hx⟩, k1, hw1'⟩
          have HG1 : Hid (OwnI wA.heap.size u9 (zl m y) w1 ∧ Below wA.heap.size wA w1) := by rw [hw1']; exact ⟨HJ.out.1.drewN _, below_drewN2 HJ.out.2.2 _⟩
          have hsz1 := HG1.out.2.size
          clear hw1'
          obtain ⟨M, hM⟩ := HPi.out x hx
          have HP : Hid (∀ w : World, Calls Try.prog 4 #[.int .i64 x, .int .i64 3] w fun e w' => e = .returned (.int .i64 (M : Nat)) ∧ w' = w) := hM
          clear hM hx HR HR'
          by_cases hM0 : M = 0
          · have hz : ((M : Int) == 0) = true := by rw [hM0]; rfl
            have hmk := HJ.out.2.1.few
            have hml : (zl m y).length ≤ 1000 := by rw [zl_len]; omega
            clear hM0
            go_wp2_with (first
              | (go_at_call 4; refine (HP.out _).mono ?_; rintro e w' ⟨rfl, hw⟩; have hw := hw.symm; subst hw)
              | (at_builtin; refine append_int rfl _ _ rfl wA.heap.size _ (zl m y) rfl (HG1.out.1.alloc _) ⟨_, 0, none⟩ 1 (k : Int) rfl (by simp) (by omega) (by simp; omega) ?_; intro v2 w3 hown3 hgrow3))
            have HX : Hid (OwnI wA.heap.size v2 (zl (m + 1) (fun j => if j = m then (k : Int) else y j)) w3 ∧ RsL K (k + 1) (m + 1) (fun j => if j = m then (k : Int) else y j) ∧ Below wA.heap.size wA w3) := by
              refine ⟨?_, HJ.out.2.1.put hlk, (HG1.out.2.alloc hsz1 _).grown hgrow3 (by simp; omega) (fun k hk => (HG1.out.1.lt k hk).1)⟩
              rw [zl_succ, zl_congr (y := y) (fun j hj => by show (if j = m then (k : Int) else y j) = y j; rw [if_neg (by omega)])]
              show OwnI wA.heap.size v2 (zl m y ++ [if m = m then (k : Int) else y m]) w3
              rw [if_pos rfl]; exact hown3
            clear hown3 hgrow3
            go_roundw
            case rel => exact ⟨k + 1, m + 1, _, by omega, by go_num, HX.out⟩
            case measure => simp [intOf]; omega
          · have hz : ((M : Int) == 0) = false := by rw [beq_eq_false_iff_ne]; omega
            clear hM0
            go_wp2_with (go_at_call 4; refine (HP.out _).mono ?_; rintro e w' ⟨rfl, hw⟩; have hw := hw.symm; subst hw)
            go_roundw
            case rel => exact ⟨k + 1, m, y, by omega, by go_num, HG1.out.1, HJ.out.2.1.skip, HG1.out.2⟩
            case measure => simp [intOf]; omega
        · have hkb : ¬ (k : Int) < (K : Int) := by omega
          have hke : K = k := by omega
          subst hke
          obtain ⟨bo, cb, hv9, hA9⟩ := HJ.out.1.argL
          subst hv9
          have hsB := HJ.out.2.2.size
          have H2 : Hid (MkV w.heap.size K i u7 vs N Z wB ∧ OwnI w.heap.size (.slice bo m cb) (zl m y) wB ∧ RsL K K m y ∧ Below w.heap.size w wB) := ⟨HG.out.1.below HJ.out.2.2, HJ.out.1.mono hsA, HJ.out.2.1, bel_up' HG.out.2 HJ.out.2.2⟩
          have hll : (vl i vs).length ≤ 1000000 := by rw [vl_len]; omega
          clear hA9
          go_wp2_with (at_builtin; refine append_sl rfl _ _ rfl w.heap.size u7 (vl i vs) rfl (H2.out.1.own.below ((Below.refl _ _).alloc (Nat.le_refl _) _) (Nat.le_refl _)) ⟨wB.heap.size, 0, none⟩ 1 (.slice bo m cb) rfl rfl (by rw [cell_of_row _ _ _ _ _ (0, 0) (two_new _)]; rfl) hll (by simp; omega) ?_; intro v' w6 hown6 hg6)
          have hal : Below wB.heap.size wB (wB.alloc (.cells #[.slice bo m cb] 22)) := (Below.refl _ _).alloc (Nat.le_refl _) _
          have HR : Hid (MkV w.heap.size K (i + 1) v' (fun j => if j = i then .slice bo m cb else vs j) (fun j => if j = i then m else N j) (fun j => if j = i then y else Z j) w6 ∧ Below w.heap.size w w6) := by
            have ho := H2.out.1.below hal
            exact ⟨ho.push (H2.out.2.1.below hal (fun k hk => (H2.out.2.1.lt k hk).2)) H2.out.2.2.1 hown6 hg6, (bel_up' H2.out.2.2.2 hal).grown hg6 (by simp; omega) (fun k hk => ho.own.open_ge k hk)⟩
          clear hown6 hg6 hal
          go_roundw
          case rel => exact ⟨i + 1, _, _, _, by omega, by go_num, HR.out⟩
          case measure => simp [intOf]; omega
    · have hib : ¬ (i : Int) < (r : Int) := by omega
      have hie : r = i := by omega
      subst hie
      go_wp2
      go_ret
      exact ⟨_, rfl, ⟨vs, N, Z, HG.out.1⟩, HG.out.2⟩

/-- Bits, and what is lost, where something may be. -/
def WdB (lost : Bool) (n : Nat) (y : Nat → Int) : Prop := ∀ j, j < n → (y j = 0 ∨ y j = 1) ∨ (lost = true ∧ y j = -1)
theorem WdB.put {lost : Bool} {r : Nat} {y : Nat → Int} {v : Int} (h : WdB lost r y) (hv : (v = 0 ∨ v = 1) ∨ (lost = true ∧ v = -1)) : WdB lost (r + 1) (fun j => if j = r then v else y j) := fun j hj => by
  show ((if j = r then v else y j) = 0 ∨ (if j = r then v else y j) = 1) ∨ (lost = true ∧ (if j = r then v else y j) = -1)
  by_cases e : j = r
  · rw [if_pos e]; exact hv
  · rw [if_neg e]; exact h j (by omega)

set_option maxHeartbeats 8000000 in
set_option maxRecDepth 100000 in
theorem wordOf_any {ao : Option Addr} {n ca : Nat} {z : Nat → Int} {w : World} (h : Arg ao n ca z w) (hn : n ≤ 1000) (f k : Nat) (lost : Bool) (hf : f ≤ 1000) (hk : k ≤ 1000) :
    Calls Try.prog 8 #[.slice ao n ca, .int .i64 f, .int .i64 k, .bool lost] w fun e w' => ∃ v y, e = .returned v ∧ OwnI w.heap.size v (zl k y) w' ∧ WdB lost k y ∧ Below w.heap.size w w' := by
  have HA : Hid (Arg ao n ca z w) := h
  have HPi : Hid (∀ (x : Int) (q : Nat), I64 x → 1 ≤ q → q ≤ 100 → ∃ M : Nat, M < q ∧ ∀ w : World, Calls Try.prog 4 #[.int .i64 x, .int .i64 (q : Nat)] w fun e w' => e = .returned (.int .i64 (M : Nat)) ∧ w' = w) := fun x q hx h1 h2 => by
    have h3 := pick_lo x (q : Int) (by omega)
    have h4 := pick_hi x (q : Int) (by omega)
    exact ⟨(pick x (q : Int)).toNat, by omega, fun w => by rw [Int.toNat_of_nonneg h3]; exact pick_any x q w hx.1 hx.2 (by omega) (by omega)⟩
  clear h
  go_enter Try.func8, Try.ntmps8
  go_wp2
  go_loopw [9, 10] (fun vl vi wr => ∃ (r : Nat) (y : Nat → Int), r ≤ k ∧ vi = .int .i64 r ∧ Hid (OwnI w.heap.size vl (zl r y) wr ∧ WdB lost r y ∧ Below w.heap.size w wr)) (fun _ vi _ => k - (intOf vi).toNat)
  case atStart => exact ⟨0, fun _ => 0, by omega, rfl, OwnI.nil _ _, fun j hj => absurd hj (by omega), Below.refl _ _⟩
  case round =>
    obtain ⟨r, y, hr, rfl, HG⟩ := hrel
    rename World => wr
    have hsz := HG.out.2.2.size
    by_cases hlt : r < k
    · have hib : (r : Int) < (k : Int) := by omega
      have HRa : Hid (∀ wx, Below w.heap.size w wx → Calls Try.prog 12 #[.slice ao n ca, .int .i64 ((f : Int) + (r : Int))] wx fun e w' => (∃ x, e = .returned (.int .i64 x) ∧ I64 x) ∧ ∃ k, w' = wx.drewN k) := fun wx hb => by
        have h := raw_any (HA.out.below hb) hn (f + r) (by omega)
        rw [Int.natCast_add] at h; exact h
      go_wp2_with fail
      refine (HRa.out wr HG.out.2.2).mono ?_
      rintro e w1 ⟨⟨x, rfl, hx⟩, k1, hw1⟩
      have HG1 : Hid (OwnI w.heap.size u9 (zl r y) w1 ∧ Below w.heap.size w w1) := by rw [hw1]; exact ⟨HG.out.1.drewN _, below_drewN2 HG.out.2.2 _⟩
      have hsz1 := HG1.out.2.size
      clear hw1
      obtain ⟨p, hp4, hP⟩ := HPi.out x 4 hx (by omega) (by omega)
      have HP : Hid (∀ w : World, Calls Try.prog 4 #[.int .i64 x, .int .i64 4] w fun e w' => e = .returned (.int .i64 (p : Nat)) ∧ w' = w) := hP
      clear hP hx
      go_wp2_with fail
      refine (HP.out w1).mono ?_
      rintro e w' ⟨rfl, hw⟩
      have hw := hw.symm
      subst hw
      clear HP
      by_cases hp : p ≤ 1
      · have hpb : ¬ (1 : Int) < (p : Int) := by omega
        have hpc : ¬ (p : Int) > 1 := by omega
        go_wp2_with (at_builtin; refine append_int rfl _ _ rfl w.heap.size _ (zl r y) rfl (HG1.out.1.alloc _) ⟨_, 0, none⟩ 1 (p : Int) rfl (by simp) (by rw [zl_len]; omega) (by simp; omega) ?_; intro v2 w3 hown3 hgrow3)
        have HX : Hid (OwnI w.heap.size v2 (zl (r + 1) (fun j => if j = r then (p : Int) else y j)) w3 ∧ WdB lost (r + 1) (fun j => if j = r then (p : Int) else y j) ∧ Below w.heap.size w w3) := by
          refine ⟨?_, HG.out.2.1.put (Or.inl (by omega)), (HG1.out.2.alloc hsz1 _).grown hgrow3 (by simp; omega) (fun k hk => (HG1.out.1.lt k hk).1)⟩
          rw [zl_succ, zl_congr (y := y) (fun j hj => by show (if j = r then (p : Int) else y j) = y j; rw [if_neg (by omega)])]
          show OwnI w.heap.size v2 (zl r y ++ [if r = r then (p : Int) else y r]) w3
          rw [if_pos rfl]; exact hown3
        clear hown3 hgrow3
        go_roundw
        case rel => exact ⟨r + 1, _, by omega, by go_num, HX.out⟩
        case measure => simp [intOf]; omega
      · have hpb : (1 : Int) < (p : Int) := by omega
        have hpc : (p : Int) > 1 := by omega
        obtain ⟨p2, hp2⟩ : ∃ p2 : Nat, p = p2 + 2 := ⟨p - 2, by omega⟩
        have hsub : (p : Int) - 2 = (p2 : Int) := by omega
        have hp21 : p2 ≤ 1 := by omega
        have hsw : IntKind.i64.wrap ((p : Int) - 2) = (p2 : Int) := wrap_to (by omega) (by omega)
        clear hp2 hp hp4
        cases lost with
        | false =>
          go_wp2_with (at_builtin; refine append_int rfl _ _ rfl w.heap.size _ (zl r y) rfl (HG1.out.1.alloc _) ⟨_, 0, none⟩ 1 (p2 : Int) rfl (by simp) (by rw [zl_len]; omega) (by simp; omega) ?_; intro v2 w3 hown3 hgrow3)
          have HX : Hid (OwnI w.heap.size v2 (zl (r + 1) (fun j => if j = r then (p2 : Int) else y j)) w3 ∧ WdB false (r + 1) (fun j => if j = r then (p2 : Int) else y j) ∧ Below w.heap.size w w3) := by
            refine ⟨?_, HG.out.2.1.put (Or.inl (by omega)), (HG1.out.2.alloc hsz1 _).grown hgrow3 (by simp; omega) (fun k hk => (HG1.out.1.lt k hk).1)⟩
            rw [zl_succ, zl_congr (y := y) (fun j hj => by show (if j = r then (p2 : Int) else y j) = y j; rw [if_neg (by omega)])]
            show OwnI w.heap.size v2 (zl r y ++ [if r = r then (p2 : Int) else y r]) w3
            rw [if_pos rfl]; exact hown3
          clear hown3 hgrow3
          go_roundw
          case rel => exact ⟨r + 1, _, by omega, by go_num, HX.out⟩
          case measure => simp [intOf]; omega
        | true =>
          go_wp2_with fail
          refine (HRa.out w1 HG1.out.2).mono ?_
          rintro e w2 ⟨⟨x2, rfl, hx2⟩, k2, hw2⟩
          have HG2 : Hid (OwnI w.heap.size u9 (zl r y) w2 ∧ Below w.heap.size w w2) := by rw [hw2]; exact ⟨HG1.out.1.drewN _, below_drewN2 HG1.out.2 _⟩
          have hsz2 := HG2.out.2.size
          clear hw2
          obtain ⟨x3, hx3⟩ : ∃ x3, IntKind.i64.wrap (x2.tdiv 4) = x3 := ⟨_, rfl⟩
          have hI3 : I64 x3 := by rw [← hx3]; exact i64_wrap _
          obtain ⟨M, hM2, hP⟩ := HPi.out x3 2 hI3 (by omega) (by omega)
          have HP : Hid (∀ w : World, Calls Try.prog 4 #[.int .i64 x3, .int .i64 2] w fun e w' => e = .returned (.int .i64 (M : Nat)) ∧ w' = w) := hP
          clear hP hI3 hx2
          go_wp2_with fail
          refine (HP.out w2).mono ?_
          rintro e w' ⟨rfl, hw⟩
          have hw := hw.symm
          subst hw
          clear HP
          by_cases hM0 : M = 0
          · have hz : ((M : Int) == 0) = true := by rw [hM0]; rfl
            clear hM0
            go_wp2_with (at_builtin; refine append_int rfl _ _ rfl w.heap.size _ (zl r y) rfl (HG2.out.1.alloc _) ⟨_, 0, none⟩ 1 (-1 : Int) rfl (by simp) (by rw [zl_len]; omega) (by simp; omega) ?_; intro v2 w3 hown3 hgrow3)
            have HX : Hid (OwnI w.heap.size v2 (zl (r + 1) (fun j => if j = r then (-1 : Int) else y j)) w3 ∧ WdB true (r + 1) (fun j => if j = r then (-1 : Int) else y j) ∧ Below w.heap.size w w3) := by
              refine ⟨?_, HG.out.2.1.put (Or.inr ⟨rfl, rfl⟩), (HG2.out.2.alloc hsz2 _).grown hgrow3 (by simp; omega) (fun k hk => (HG2.out.1.lt k hk).1)⟩
              rw [zl_succ, zl_congr (y := y) (fun j hj => by show (if j = r then (-1 : Int) else y j) = y j; rw [if_neg (by omega)])]
              show OwnI w.heap.size v2 (zl r y ++ [if r = r then (-1 : Int) else y r]) w3
              rw [if_pos rfl]; exact hown3
            clear hown3 hgrow3
            go_roundw
            case rel => exact ⟨r + 1, _, by omega, by go_num, HX.out⟩
            case measure => simp [intOf]; omega
          · have hz : ((M : Int) == 0) = false := by rw [beq_eq_false_iff_ne]; omega
            clear hM0
            go_wp2_with (at_builtin; refine append_int rfl _ _ rfl w.heap.size _ (zl r y) rfl (HG2.out.1.alloc _) ⟨_, 0, none⟩ 1 (p2 : Int) rfl (by simp) (by rw [zl_len]; omega) (by simp; omega) ?_; intro v2 w3 hown3 hgrow3)
            have HX : Hid (OwnI w.heap.size v2 (zl (r + 1) (fun j => if j = r then (p2 : Int) else y j)) w3 ∧ WdB true (r + 1) (fun j => if j = r then (p2 : Int) else y j) ∧ Below w.heap.size w w3) := by
              refine ⟨?_, HG.out.2.1.put (Or.inl (by omega)), (HG2.out.2.alloc hsz2 _).grown hgrow3 (by simp; omega) (fun k hk => (HG2.out.1.lt k hk).1)⟩
              rw [zl_succ, zl_congr (y := y) (fun j hj => by show (if j = r then (p2 : Int) else y j) = y j; rw [if_neg (by omega)])]
              show OwnI w.heap.size v2 (zl r y ++ [if r = r then (p2 : Int) else y r]) w3
              rw [if_pos rfl]; exact hown3
            clear hown3 hgrow3
            go_roundw
            case rel => exact ⟨r + 1, _, by omega, by go_num, HX.out⟩
            case measure => simp [intOf]; omega
    · have hib : ¬ (r : Int) < (k : Int) := by omega
      have e : r = k := by omega
      subst e
      go_wp2
      go_ret
      exact ⟨_, rfl, y, HG.out.1, HG.out.2.1, HG.out.2.2⟩
end Go.Proofs.Ytjkncdmbcckcdab
