/- Texts of ours, one behind the other: I29 I30 I31 S13 S14 S15 S16. -/
import Derived.Test.YtbpeahhhkcljeaaZI28
import Derived.Lib.AppendZerosOnto
import Derived.Test.YtbpeahhhkcljeaaZI22
import Derived.Test.YtbpeahhhkcljeaaZI4
import Derived.Test.YtbpeahhhkcljeaaZT10
import Derived.Test.YtbpeahhhkcljeaaZI6
/- Places that a code may lose. -/
namespace Go.Proofs.Ytbpeahhhkcljeaa
open Go.RowKit Go.Sort

def pchk (e a n : Int) : Int := if e ≠ 0 then e else if a < 0 ∨ n ≤ a then 10 else if n = 1 then 4 else 0
set_option maxHeartbeats 4000000 in
set_option maxRecDepth 100000 in
theorem checkPlace_any (e q n a : Int) {ao : Option Addr} {m ca : Nat} {w : World}
    (hC : ∀ wx, Below w.heap.size w wx → Calls Try.prog 26 #[.agg #[.int .i64 q, .int .i64 n, .slice ao m ca]] wx fun x w' => x = .returned (.int .i64 e) ∧ Below wx.heap.size wx w') :
    Calls Try.prog 103 #[.agg #[.int .i64 q, .int .i64 n, .slice ao m ca], .int .i64 a] w fun x w' => x = .returned (.int .i64 (pchk e a n)) ∧ Below w.heap.size w w' := by
  have HC : Hid _ := hC
  clear hC
  obtain ⟨w0, hw0⟩ : ∃ w0, w0 = w.alloc (.cells #[.int .i64 q, .int .i64 n, .slice ao m ca] 43) := ⟨_, rfl⟩
  have HW : Hid (Below w.heap.size w w0 ∧ CB w.heap.size q n (.slice ao m ca) w0) := by
    rw [hw0]; exact ⟨(Below.refl _ _).alloc (Nat.le_refl _) _, CB.new _ _ _ _⟩
  go_enter Try.func103, Try.ntmps103
  go_wp2_with fail
  rw [← hw0]
  clear hw0
  refine (HC.out _ HW.out.1).mono ?_
  rintro x w1 ⟨rfl, hb1⟩
  have H1 : Hid (Below w.heap.size w w1 ∧ CB w.heap.size q n (.slice ao m ca) w1) := ⟨bel_up' HW.out.1 hb1, HW.out.2.keep hb1⟩
  clear hb1
  obtain ⟨p0, p1, p2⟩ := H1.out.2
  by_cases he : e = 0
  · subst he
    by_cases h1 : a < 0
    · have HV : Hid (pchk 0 a n = 10) := by show _ = _; unfold pchk; rw [if_neg (by omega), if_pos (Or.inl h1)]
      go_wp2
      go_ret
      exact ⟨ret_int (by rw [HV.out]), H1.out.1⟩
    · by_cases h2 : n ≤ a
      · have HV : Hid (pchk 0 a n = 10) := by show _ = _; unfold pchk; rw [if_neg (by omega), if_pos (Or.inr h2)]
        go_wp2
        go_ret
        exact ⟨ret_int (by rw [HV.out]), H1.out.1⟩
      · by_cases h3 : n = 1
        · have HV : Hid (pchk 0 a n = 4) := by show _ = _; unfold pchk; rw [if_neg (by omega), if_neg (by omega), if_pos h3]
          have hz : (n == 1) = true := by rw [h3]; rfl
          clear h3
          go_wp2
          go_ret
          exact ⟨ret_int (by rw [HV.out]), H1.out.1⟩
        · have HV : Hid (pchk 0 a n = 0) := by show _ = _; unfold pchk; rw [if_neg (by omega), if_neg (by omega), if_neg h3]
          have hz : (n == 1) = false := by rw [beq_eq_false_iff_ne]; exact h3
          clear h3
          go_wp2
          go_ret
          exact ⟨ret_int (by rw [HV.out]), H1.out.1⟩
  · have HV : Hid (pchk e a n = e) := by show _ = _; unfold pchk; rw [if_pos he]
    have hz : (e != 0) = true := by rw [bne_iff_ne]; exact he
    clear he
    go_wp2
    go_ret
    exact ⟨ret_int (by rw [HV.out]), H1.out.1⟩
set_option maxHeartbeats 4000000 in
set_option maxRecDepth 100000 in
theorem cPuncture_err (e : Int) (he : e ≠ 0) (q n a : Int) {ao : Option Addr} {m ca : Nat} {w : World}
    (hC : ∀ wx, Below w.heap.size w wx → Calls Try.prog 103 #[.agg #[.int .i64 q, .int .i64 n, .slice ao m ca], .int .i64 a] wx fun x w' => x = .returned (.int .i64 e) ∧ Below wx.heap.size wx w') :
    Calls Try.prog 76 #[.agg #[.int .i64 q, .int .i64 n, .slice ao m ca], .int .i64 a] w fun x w' => x = .returned (.tuple #[.agg #[.int .i64 0, .int .i64 0, .slice none 0 0], .int .i64 e]) ∧ Below w.heap.size w w' := by
  have HC : Hid _ := hC
  have hz : (e != 0) = true := by rw [bne_iff_ne]; exact he
  clear hC he
  obtain ⟨w0, hw0⟩ : ∃ w0, w0 = (w.alloc (.cells #[.int .i64 q, .int .i64 n, .slice ao m ca] 43)).alloc (.cells #[.int .i64 0, .int .i64 0, .slice none 0 0] 43) := ⟨_, rfl⟩
  have HW : Hid (Below w.heap.size w w0 ∧ RB (w.heap.size + 1) w0) := by
    obtain ⟨h1, _, h3, h4⟩ := two_boxes q n 0 0 (.slice ao m ca) (.slice none 0 0) w
    have h6 := RBt.new #[.int .i64 0, .int .i64 0, .slice none 0 0] (w.alloc (.cells #[.int .i64 q, .int .i64 n, .slice ao m ca] 43))
    rw [show (w.alloc (.cells #[.int .i64 q, .int .i64 n, .slice ao m ca] 43)).heap.size = w.heap.size + 1 by simp] at h6
    rw [hw0]; exact ⟨h1, RB.of h3 h6⟩
  go_enter Try.func76, Try.ntmps76
  go_wp2_with fail
  rw [← hw0]
  clear hw0
  refine (HC.out _ HW.out.1).mono ?_
  rintro x w1 ⟨rfl, hb1⟩
  have H1 : Hid (Below w.heap.size w w1 ∧ RB (w.heap.size + 1) w1) := ⟨bel_up' HW.out.1 hb1, HW.out.2.keep hb1⟩
  clear hb1
  obtain ⟨⟨x0, c0⟩, ⟨x1, c1⟩, ⟨x2, c2⟩, f0, f1, f2⟩ := H1.out.2
  go_wp2
  obtain ⟨w2, hw2⟩ : ∃ w2, w2 = laid w1 (w.heap.size + 1) 0 0 (.slice none 0 0) := ⟨_, rfl⟩
  have H2 : Hid (CB (w.heap.size + 1) 0 0 (.slice none 0 0) w2 ∧ Below w.heap.size w w2) := by
    rw [hw2]; exact ⟨laid_cb H1.out.2 _ _ _, laid_below H1.out.1 (by omega) _ _ _⟩
  unfold laid at hw2
  rw [← hw2]
  clear hw2 c0 c1 c2 f0 f1 f2
  obtain ⟨c0, c1, c2⟩ := H2.out.1
  refine bodyPost_ret (v := .tuple #[.agg #[.int .i64 0, .int .i64 0, .slice none 0 0], .int .i64 e]) (by simp [results, Try.results76, go_sem, c0, c1, c2]) rfl ?_
  exact ⟨rfl, H2.out.2⟩
set_option maxHeartbeats 4000000 in
set_option maxRecDepth 100000 in
theorem cShorten_err (e : Int) (he : e ≠ 0) (q n a : Int) {ao : Option Addr} {m ca : Nat} {w : World}
    (hC : ∀ wx, Below w.heap.size w wx → Calls Try.prog 103 #[.agg #[.int .i64 q, .int .i64 n, .slice ao m ca], .int .i64 a] wx fun x w' => x = .returned (.int .i64 e) ∧ Below wx.heap.size wx w') :
    Calls Try.prog 77 #[.agg #[.int .i64 q, .int .i64 n, .slice ao m ca], .int .i64 a] w fun x w' => x = .returned (.tuple #[.agg #[.int .i64 0, .int .i64 0, .slice none 0 0], .int .i64 e]) ∧ Below w.heap.size w w' := by
  have HC : Hid _ := hC
  have hz : (e != 0) = true := by rw [bne_iff_ne]; exact he
  clear hC he
  obtain ⟨w0, hw0⟩ : ∃ w0, w0 = (w.alloc (.cells #[.int .i64 q, .int .i64 n, .slice ao m ca] 43)).alloc (.cells #[.int .i64 0, .int .i64 0, .slice none 0 0] 43) := ⟨_, rfl⟩
  have HW : Hid (Below w.heap.size w w0 ∧ RB (w.heap.size + 1) w0) := by
    obtain ⟨h1, _, h3, h4⟩ := two_boxes q n 0 0 (.slice ao m ca) (.slice none 0 0) w
    have h6 := RBt.new #[.int .i64 0, .int .i64 0, .slice none 0 0] (w.alloc (.cells #[.int .i64 q, .int .i64 n, .slice ao m ca] 43))
    rw [show (w.alloc (.cells #[.int .i64 q, .int .i64 n, .slice ao m ca] 43)).heap.size = w.heap.size + 1 by simp] at h6
    rw [hw0]; exact ⟨h1, RB.of h3 h6⟩
  go_enter Try.func77, Try.ntmps77
  go_wp2_with fail
  rw [← hw0]
  clear hw0
  refine (HC.out _ HW.out.1).mono ?_
  rintro x w1 ⟨rfl, hb1⟩
  have H1 : Hid (Below w.heap.size w w1 ∧ RB (w.heap.size + 1) w1) := ⟨bel_up' HW.out.1 hb1, HW.out.2.keep hb1⟩
  clear hb1
  obtain ⟨⟨x0, c0⟩, ⟨x1, c1⟩, ⟨x2, c2⟩, f0, f1, f2⟩ := H1.out.2
  go_wp2
  obtain ⟨w2, hw2⟩ : ∃ w2, w2 = laid w1 (w.heap.size + 1) 0 0 (.slice none 0 0) := ⟨_, rfl⟩
  have H2 : Hid (CB (w.heap.size + 1) 0 0 (.slice none 0 0) w2 ∧ Below w.heap.size w w2) := by
    rw [hw2]; exact ⟨laid_cb H1.out.2 _ _ _, laid_below H1.out.1 (by omega) _ _ _⟩
  unfold laid at hw2
  rw [← hw2]
  clear hw2 c0 c1 c2 f0 f1 f2
  obtain ⟨c0, c1, c2⟩ := H2.out.1
  refine bodyPost_ret (v := .tuple #[.agg #[.int .i64 0, .int .i64 0, .slice none 0 0], .int .i64 e]) (by simp [results, Try.results77, go_sem, c0, c1, c2]) rfl ?_
  exact ⟨rfl, H2.out.2⟩
end Go.Proofs.Ytbpeahhhkcljeaa

/- Room ahead (slices.Grow of nothing). -/
namespace Go.Proofs.Ytbpeahhhkcljeaa
open Go.RowKit Go.Sort

set_option maxHeartbeats 4000000 in
set_option maxRecDepth 100000 in
theorem grow_zero (w : World) :
    Calls Try.prog 128 #[.slice none 0 0, .int .i64 0] w fun e w' => e = .returned (.slice none 0 0) ∧ w' = w := by
  go_enter Try.func128, Try.ntmps128
  go_wp2
  go_ret
  exact ⟨rfl, rfl⟩

set_option maxHeartbeats 4000000 in
set_option maxRecDepth 100000 in
theorem grow_nil {n : Nat} (h1 : 1 ≤ n) (hn : n ≤ 1000) (w : World) :
    Calls Try.prog 128 #[.slice none 0 0, .int .i64 (n : Nat)] w fun e w' => ∃ c, e = .returned (.slice (some ⟨w.heap.size, 0, none⟩) 0 c) ∧ OwnI w.heap.size (.slice (some ⟨w.heap.size, 0, none⟩) 0 c) [] w' ∧ Below w.heap.size w w' := by
  obtain ⟨i0, hi, hz0, hz1, hz2⟩ := info_parts Try.infoInt
  have hold : (Builtin.firstCells i0.size 0 (.slice none 0 0)).run Try.prog w.drew = .ok ([] : List Value).toArray w.drew := run_firstCells_none w.drew i0.size 0 0 0
  have hr := Lib.run_append_grow_zeros w 23 3 23 3 i0 (.int .i64 0) .i64 .i64 Try.underlying23 Try.underlying3 hi hz0 none 0 0 [] hold n (by omega) (by omega) (by omega) (by omega) (by rw [hz2]; omega) (growslice_fits (by omega) (by rw [hz2]; omega))
  have hGn := grownCap_ge w (0 + n) 0 3
  have hGm := grownCap_le_maxLen w (0 + n) 0 3 (by unfold maxLen; omega)
  obtain ⟨G, hG⟩ : ∃ G, G = grownCap w (0 + n) 0 3 := ⟨_, rfl⟩
  rw [← hG] at hr hGn hGm
  obtain ⟨cur, hcur⟩ : ∃ cur, cur = (([] : List Value).toArray ++ Builtin.zeroCells (Value.int .i64 0).cells n ++ Builtin.zeroCells (Value.int .i64 0).cells (G - (0 + n))) := ⟨_, rfl⟩
  rw [← hcur] at hr
  have HO : Hid (OwnI w.heap.size (.slice (some ⟨w.heap.size, 0, none⟩) 0 G) [] (w.drew.alloc (.cells cur 3)) ∧ Below w.heap.size w (w.drew.alloc (.cells cur 3))) := by
    refine ⟨World.ownsRow_made w.drew cur G (Nat.le_refl _) hGm ?_, (Below.refl _ _).drew.alloc (Nat.le_refl _) _⟩
    rw [hcur]
    simp [Builtin.zeroCells, Value.cells]
    omega
  have hG63 : G ≤ 9223372036854775807 := by unfold maxLen at hGm; omega
  rw [Nat.zero_add] at hr hGn
  clear hold hcur hG hGm hi hz0 hz1 hz2 i0
  have h2 : wrap64 ((n : Int) - 0) = (n : Int) := by unfold wrap64; omega
  have h4 : (n : Int) > 0 := by omega
  go_enter Try.func128, Try.ntmps128
  go_wp2_with (at_builtin; refine Lib.wpList_append_run _ rfl _ _ _ _ rfl _ _ rfl rfl _ _ hr ?_)
  go_ret
  exact ⟨_, rfl, HO.out⟩
end Go.Proofs.Ytbpeahhhkcljeaa

/- TwoL lists behind one another (slices.Concat). -/
namespace Go.Proofs.Ytbpeahhhkcljeaa
open Go.RowKit Go.Sort

theorem grow_any {n : Nat} (hn : n ≤ 1000) (w : World) :
    Calls Try.prog 128 #[.slice none 0 0, .int .i64 (n : Nat)] w fun e w' => ∃ v, e = .returned v ∧ OwnI w.heap.size v [] w' ∧ Below w.heap.size w w' := by
  rcases Nat.eq_zero_or_pos n with h | h
  · subst h
    refine (grow_zero w).mono ?_
    rintro e w' ⟨rfl, rfl⟩
    exact ⟨_, rfl, OwnI.nil _ _, Below.refl _ _⟩
  · refine (grow_nil h hn w).mono ?_
    rintro e w' ⟨c, rfl, h1, h2⟩
    exact ⟨_, rfl, h1, h2⟩
def cat2 (n1 n2 : Nat) (a b : Nat → Int) : Nat → List Int
  | 0 => []
  | 1 => zl n1 a
  | _ => zl n1 a ++ zl n2 b
def sum2 (n1 n2 : Nat) : Nat → Nat
  | 0 => 0
  | 1 => n1
  | _ => n1 + n2
/-- One of two lists that lie in an array of two. -/
structure TwoL (B : Nat) (n1 n2 : Nat) (a b : Nat → Int) (w : World) : Prop where
  get : ∀ r, r < 2 → ∃ x n c z, w.cell? ⟨B, r, none⟩ = some (.slice x n c) ∧ SlZ x n z w ∧ LtB x w.heap.size ∧ (x = none → c = 0) ∧ sum2 n1 n2 r + n = sum2 n1 n2 (r + 1) ∧ cat2 n1 n2 a b r ++ zl n z = cat2 n1 n2 a b (r + 1)
theorem TwoL.below {B : Nat} {n1 n2 : Nat} {a b : Nat → Int} {w w' : World} (h : TwoL B n1 n2 a b w) (hb : Below w.heap.size w w') : TwoL B n1 n2 a b w' := ⟨fun r hr => by
  obtain ⟨x, n, c, z, h1, h2, h3, h4, h5, h6⟩ := h.get r hr
  exact ⟨x, n, c, z, ((bcell hb).1 B r (cell_lt h1)).trans h1, h2.below hb h3, fun y hy => Nat.lt_of_lt_of_le (h3 y hy) hb.size, h4, h5, h6⟩⟩
theorem cat2_len (n1 n2 : Nat) (a b : Nat → Int) : ∀ r, (cat2 n1 n2 a b r).length = sum2 n1 n2 r
  | 0 => rfl
  | 1 => zl_len _ _
  | r + 2 => by show (zl n1 a ++ zl n2 b).length = n1 + n2; rw [List.length_append, zl_len, zl_len]
theorem sum2_le (n1 n2 : Nat) : ∀ r, sum2 n1 n2 r ≤ n1 + n2
  | 0 => Nat.zero_le _
  | 1 => by show n1 ≤ n1 + n2; omega
  | r + 2 => Nat.le_refl _

set_option maxHeartbeats 8000000 in
set_option maxRecDepth 100000 in
theorem concat2 {B n1 n2 c : Nat} {a b : Nat → Int} {w : World} (h : TwoL B n1 n2 a b w) (hn : n1 + n2 ≤ 1000) :
    Calls Try.prog 119 #[.slice (some ⟨B, 0, none⟩) 2 c] w fun e w' => ∃ v, e = .returned v ∧ OwnI w.heap.size v (zl n1 a ++ zl n2 b) w' ∧ Below w.heap.size w w' := by
  have HT : Hid (TwoL B n1 n2 a b w) := h
  clear h
  go_enter Try.func119, Try.ntmps119
  go_wp2
  go_loopw [3, 11] (fun vs vi wr => ∃ r s : Nat, r ≤ 2 ∧ vs = .int .i64 (s : Nat) ∧ vi = .int .i64 r ∧ s ≤ n1 + n2 ∧ Hid (s = sum2 n1 n2 r) ∧ wr = w) (fun _ vi _ => 2 - (intOf vi).toNat)
  case atStart => exact ⟨0, 0, by omega, rfl, rfl, by omega, rfl, rfl⟩
  case round =>
    obtain ⟨r, s, hr, rfl, rfl, hs, HS, hw⟩ := hrel
    have hw := hw.symm
    subst hw
    by_cases hlt : r < 2
    · have hib : (r : Int) < 2 := by omega
      obtain ⟨x, n, cx, z, hc, _, _, _, h5, _⟩ := HT.out.get r hlt
      have hsn : s + n = sum2 n1 n2 (r + 1) := by rw [HS.out]; exact h5
      have hle := sum2_le n1 n2 (r + 1)
      have hsm : s + n ≤ n1 + n2 := by omega
      have HS2 : Hid (s + n = sum2 n1 n2 (r + 1)) := hsn
      have hneg : ¬ ((s : Int) + (n : Int) < 0) := by omega
      clear h5 hsn hle
      go_wp2
      go_roundw
      case rel => exact ⟨r + 1, s + n, by omega, by go_num, by go_num, hsm, HS2.out, by first | rfl | trivial⟩
      case measure => simp [intOf]; omega
    · have hib : ¬ (r : Int) < 2 := by omega
      have hre : r = 2 := by omega
      subst hre
      have hsn : s = n1 + n2 := HS.out
      subst hsn
      obtain ⟨M, hM⟩ : ∃ M, M = n1 + n2 := ⟨_, rfl⟩
      have HG : Hid (Calls Try.prog 128 #[.slice none 0 0, .int .i64 (M : Nat)] w fun e w' => ∃ v, e = .returned v ∧ OwnI w.heap.size v [] w' ∧ Below w.heap.size w w') := grow_any (by omega) w
      rw [← hM]
      clear hM
      go_wp2_with fail
      refine HG.out.mono ?_
      rintro e w1 ⟨v1, rfl, ho1, hb1⟩
      have H1 : Hid (OwnI w.heap.size v1 (cat2 n1 n2 a b 0) w1 ∧ Below w.heap.size w w1) := ⟨ho1, hb1⟩
      clear ho1 hb1
      go_wp2
      go_loopw [6, 27] (fun vl vi wr => ∃ r : Nat, r ≤ 2 ∧ vi = .int .i64 r ∧ Hid (OwnI w.heap.size vl (cat2 n1 n2 a b r) wr ∧ Below w.heap.size w wr)) (fun _ vi _ => 2 - (intOf vi).toNat)
      case atStart => exact ⟨0, by omega, rfl, H1.out⟩
      case round =>
        clear H1
        obtain ⟨r, hr, rfl, HK⟩ := hrel
        rename World => wr
        by_cases hlt : r < 2
        · have hib : (r : Int) < 2 := by omega
          obtain ⟨x, n, cx, z, hc, hsl, hlx, hnx, h5, h6⟩ := (HT.out.below HK.out.2).get r hlt
          have HP : Hid (SlZ x n z wr ∧ (x = none → cx = 0) ∧ cat2 n1 n2 a b r ++ zl n z = cat2 n1 n2 a b (r + 1)) := ⟨hsl, hnx, h6⟩
          have hll : (cat2 n1 n2 a b r).length + n ≤ 1000 := by
            have := sum2_le n1 n2 (r + 1)
            rw [cat2_len]; omega
          have hsz := HK.out.2.size
          clear hsl hlx hnx h5 h6
          go_wp2_with (at_builtin; refine append_ints rfl _ _ rfl w.heap.size _ (cat2 n1 n2 a b r) rfl HK.out.1 x n cx z rfl HP.out.1 HP.out.2.1 (by omega) hsz ?_; intro v5 w5 hown5 hgrow5)
          have HR : Hid (OwnI w.heap.size v5 (cat2 n1 n2 a b (r + 1)) w5 ∧ Below w.heap.size w w5) := ⟨by rw [← HP.out.2.2]; exact hown5, HK.out.2.grown hgrow5 hsz (fun k hk => (HK.out.1.lt k hk).1)⟩
          clear hown5 hgrow5
          go_roundw
          case rel => exact ⟨r + 1, by omega, by go_num, HR.out⟩
          case measure => simp [intOf]; omega
        · have hib : ¬ (r : Int) < 2 := by omega
          have hre : r = 2 := by omega
          subst hre
          go_wp2
          go_ret
          exact ⟨_, rfl, HK.out⟩
end Go.Proofs.Ytbpeahhhkcljeaa

/- Plain mathematics: what makes rows 0 is what the null rows span; the dual of the dual. No Go text here. -/
namespace Go.Proofs.Ytbpeahhhkcljeaa

theorem lcR_spn {D : FD} (F : Fld D) {K : Nat} {R : Nat → Nat → Nat} (p v : Nat → Nat) (hR : ∀ i, i < K → El D (R i)) : ∀ k, k ≤ K → Spn D (RowsOf K R) (lcR D R p v k)
  | 0, _ => spn_nil D _
  | k + 1, h => spn_add F (lcR_spn F p v hR k (by omega)) (spn_scale F _ (spn_mem F (hR k (by omega)) ⟨k, by omega, rfl⟩))
/-- At its own place a sum of rows is what was asked for. -/
theorem lcR_own {D : FD} (F : Fld D) {K : Nat} {R : Nat → Nat → Nat} {p v : Nat → Nat} (hv : El D v) (ho : ∀ i j, i < K → j < K → R i (p j) = if i = j then 1 else 0) {j : Nat} (hj : j < K) : ∀ k, k ≤ K → lcR D R p v k (p j) = if j < k then v (p j) else 0
  | 0, _ => by rw [if_neg (by omega)]; rfl
  | k + 1, h => by
    show D.ad (lcR D R p v k (p j)) (D.mul (v (p k)) (R k (p j))) = _
    rw [lcR_own F hv ho hj k (by omega), ho k j (by omega) hj]
    by_cases e : k = j
    · subst e
      rw [if_neg (by omega), if_pos rfl, if_pos (by omega), mul1 F (hv _), zero_ad F (hv _)]
    · rw [if_neg e, mul0 F]
      by_cases e2 : j < k
      · rw [if_pos e2, if_pos (by omega), ad_zero F (hv _)]
      · rw [if_neg e2, if_neg (by omega), ad_zero F (zero_lt' F)]
theorem dot_only {D : FD} (F : Fld D) {a b : Nat → Nat} {t : Nat} : ∀ n, t < n → (∀ j, j < n → j ≠ t → D.mul (a j) (b j) = 0) → dot D a b n = D.mul (a t) (b t)
  | 0, h, _ => absurd h (by omega)
  | n + 1, h, hz => by
    show D.ad (dot D a b n) (D.mul (a n) (b n)) = _
    by_cases e : n = t
    · subst e
      have h0 : ∀ m, m ≤ n → dot D a b m = 0 := fun m => by
        induction m with
        | zero => intro _; rfl
        | succ m ih =>
          intro hm
          show D.ad (dot D a b m) (D.mul (a m) (b m)) = 0
          rw [ih (by omega), hz m (by omega) (by omega), ad_zero F (zero_lt' F)]
      rw [h0 n (Nat.le_refl _), zero_ad F (F.mul_lt _ _)]
    · rw [hz n (by omega) e, ad_zero F (dot_lt F _ _ _)]
      exact dot_only F n (by omega) (fun j hj => hz j (by omega))
theorem fcs_all {k : Nat} {p : Nat → Nat} {c : Nat} (hc : ∀ i, i < k → p i ≠ c) : ∀ n, c < n → ∃ i, i < nct k p n ∧ fcs k p n i = c
  | 0, h => absurd h (by omega)
  | n + 1, h => by
    by_cases e : c = n
    · subst e
      exact ⟨nct k p c, by rw [nct_yes hc]; omega, fcs_at k p c⟩
    · obtain ⟨i, hi, hf⟩ := fcs_all hc n (by omega)
      refine ⟨i, ?_, by rw [fcs_lo hi]; exact hf⟩
      by_cases h2 : ∀ i, i < k → p i ≠ n
      · rw [nct_yes h2]; omega
      · rw [nct_no h2]; exact hi

theorem dot_nrv {D : FD} (F : Fld D) {n k : Nat} {R : Nat → Nat → Nat} {p : Nat → Nat} (h : RRE D n k R p) {i c : Nat} (hi : i < k) (hc : c < n) (hf : ∀ j, j < k → p j ≠ c) : ∀ r, r ≤ k → dot D (R i) (nrv D R p c r) n = if i < r then 0 else R i c
  | 0, _ => by rw [if_neg (by omega)]; exact dot_unit F (h.el i hi c) hc
  | r + 1, hr => by
    have e : nrv D R p c (r + 1) = fun t => if t = p r then D.ng (R r c) else nrv D R p c r t := rfl
    have h0 : nrv D R p c r (p r) = 0 := by
      rw [nrv_free r (fun j hj e => by have := h.mono j r hj (by omega); omega), if_neg (hf r (by omega))]
    rw [e, dot_put F h0 n (h.lt r (by omega)), dot_nrv F h hi hc hf r (by omega)]
    by_cases e2 : i = r
    · subst e2
      rw [if_neg (by omega), if_pos (by omega), h.one i hi, omul F (ng_lt F (h.el i hi c)), ad_ng F (h.el i hi c)]
    · rw [h.zero i r hi (by omega) e2, zmul F]
      by_cases e3 : i < r
      · rw [if_pos e3, if_pos (by omega), ad_zero F (zero_lt' F)]
      · rw [if_neg e3, if_neg (by omega), ad_zero F (h.el i hi c)]
theorem nul_orth {D : FD} (F : Fld D) {n k : Nat} {R : Nat → Nat → Nat} {p : Nat → Nat} (h : RRE D n k R p) {i j : Nat} (hi : i < k) (hj : j < nct k p n) : dot D (R i) (nul D R p k n j) n = 0 := by
  have h1 := fcs_ok n j hj
  have h2 := dot_nrv F h hi h1.1 h1.2 k (Nat.le_refl _)
  rw [if_pos hi] at h2
  exact h2
theorem orth_nul {D : FD} (F : Fld D) {n k : Nat} {R : Nat → Nat → Nat} {p : Nat → Nat} (h : RRE D n k R p) {v : Nat → Nat} (hv : El D v) (hb : Bd n v) (ho : ∀ i, i < k → dot D (R i) v n = 0) : Spn D (RowsOf (nct k p n) (nul D R p k n)) v := by
  have hs := lcR_spn F (K := nct k p n) (R := nul D R p k n) (fcs k p n) v (fun i _ => nul_el F h.el n i) (nct k p n) (Nat.le_refl _)
  obtain ⟨s, hse⟩ : ∃ s, s = lcR D (nul D R p k n) (fcs k p n) v (nct k p n) := ⟨_, rfl⟩
  rw [← hse] at hs
  have hsel : El D s := hs.el F
  have hu : ∀ c, D.sb (v c) (s c) = 0 := by
    have horth : ∀ i, i < k → dot D (R i) (psub D v s) n = 0 := fun i hi => by
      have e : dot D v (R i) n = 0 := by rw [dot_comm F]; exact ho i hi
      have e2 : dot D s (R i) n = 0 := dot_spn F hs (fun x ⟨j, hj, hx⟩ => by rw [hx, dot_comm F]; exact nul_orth F h hi hj)
      have e3 : psub D v s = padd D v (pscale D (D.ng 1) s) := by
        funext c
        show D.sb (v c) (s c) = D.ad (v c) (D.mul (D.ng 1) (s c))
        rw [F.mul_comm, mul_ng F (one_lt' F), mul1 F (hsel c)]; rfl
      rw [dot_comm F, e3, dot_add F hv (el_scale F _ _), dot_scale F, e, e2, mul0 F, ad_zero F (zero_lt' F)]
    have hfree : ∀ c, c < n → (∀ j, j < k → p j ≠ c) → D.sb (v c) (s c) = 0 := fun c hc hf => by
      obtain ⟨j, hj, ej⟩ := fcs_all hf n hc
      have h1 := lcR_own F (K := nct k p n) (R := nul D R p k n) (p := fcs k p n) hv (fun a b ha hb => nul_one ha hb) hj (nct k p n) (Nat.le_refl _)
      rw [if_pos hj, ej, ← hse] at h1
      rw [h1, sb_self F (hv c)]
    intro c
    by_cases hc : c < n
    · by_cases hf : ∀ j, j < k → p j ≠ c
      · exact hfree c hc hf
      · obtain ⟨i, hi, e⟩ : ∃ i, i < k ∧ p i = c := Classical.byContradiction (fun hn => hf (fun j hj e => hn ⟨j, hj, e⟩))
        subst e
        have h1 := dot_only F (a := R i) (b := psub D v s) n (h.lt i hi) (fun j hj hne => by
          by_cases hf2 : ∀ l, l < k → p l ≠ j
          · show D.mul (R i j) (D.sb (v j) (s j)) = 0
            rw [hfree j hj hf2, mul0 F]
          · obtain ⟨l, hl, e⟩ : ∃ l, l < k ∧ p l = j := Classical.byContradiction (fun hn => hf2 (fun j hj e => hn ⟨j, hj, e⟩))
            subst e
            rw [h.zero i l hi hl (fun e => hne (by rw [e])), zmul F])
        rw [horth i hi, h.one i hi] at h1
        have h2 : D.mul 1 (D.sb (v (p i)) (s (p i))) = 0 := h1.symm
        rw [omul F (sb_lt F (hv _) (hsel _))] at h2
        exact h2
    · have h1 : s c = 0 := by
        have hsb : ∀ k', k' ≤ nct k p n → lcR D (nul D R p k n) (fcs k p n) v k' c = 0 := fun k' hk' => lcR_at F _ _ _ c k' (fun i hi => by rw [nul_bd h.lt (by omega) c (by omega), mul0 F])
        rw [hse]; exact hsb _ (Nat.le_refl _)
      rw [h1, hb c (by omega), sb_self F (zero_lt' F)]
  have e : v = s := by
    funext c
    exact sb_eq_zero F (hv c) (hsel c) (hu c)
  rw [e]; exact hs
/-- What makes rows 0 is what their dual spans. -/
theorem Dul.iff {D : FD} (F : Fld D) {n m k2 : Nat} {M R2 : Nat → Nat → Nat} (h : Dul D n m M k2 R2) (hM : ∀ i, i < m → El D (M i)) (v : Nat → Nat) : Spn D (RowsOf k2 R2) v ↔ El D v ∧ Bd n v ∧ ∀ i, i < m → dot D (M i) v n = 0 := by
  obtain ⟨k, R, p, p2, h1, h2, h3, h4, _⟩ := h
  rw [h4 v]
  constructor
  · intro hs
    refine ⟨hs.el F, ?_, fun i hi => ?_⟩
    · exact spn_ind (Q := Bd n) (fun _ _ => rfl) (fun u w hu hw c hc => by show D.ad (u c) (w c) = 0; rw [hu c hc, hw c hc, ad_zero F (zero_lt' F)]) (fun s u hu c hc => by show D.mul s (u c) = 0; rw [hu c hc, mul0 F]) (fun u ⟨j, hj, e⟩ => by rw [e]; exact nul_bd h1.lt hj) hs
    · have hMi := (h2 _).2 (spn_mem F (hM i hi) ⟨i, hi, rfl⟩)
      refine dot_spn F hMi (fun u ⟨j, hj, e⟩ => ?_)
      rw [e, dot_comm F]
      exact dot_spn F hs (fun x ⟨l, hl, ex⟩ => by rw [ex, dot_comm F]; exact nul_orth F h1 hj hl)
  · rintro ⟨he, hb, ho⟩
    refine orth_nul F h1 he hb (fun i hi => ?_)
    have hRi := (h2 _).1 (spn_mem F (h1.el i hi) ⟨i, hi, rfl⟩)
    exact dot_spn F hRi (fun u ⟨j, hj, e⟩ => by rw [e]; exact ho j hj)
end Go.Proofs.Ytbpeahhhkcljeaa

/- Plain mathematics: the dual of the dual. No Go text here. -/
namespace Go.Proofs.Ytbpeahhhkcljeaa

end Go.Proofs.Ytbpeahhhkcljeaa

/- Plain mathematics: how many rows sums and meets of codes have. No Go text here. -/
namespace Go.Proofs.Ytbpeahhhkcljeaa

end Go.Proofs.Ytbpeahhhkcljeaa

/- Plain mathematics: the rows of sum and meet together are both's. No Go text here. -/
namespace Go.Proofs.Ytbpeahhhkcljeaa

theorem RRE.take {D : FD} {n k j : Nat} {R : Nat → Nat → Nat} {p : Nat → Nat} (h : RRE D n k R p) (hj : j ≤ k) : RRE D n j R p :=
  ⟨fun i hi => h.el i (by omega), fun i hi => h.bd i (by omega), fun i hi => h.lt i (by omega), fun a b h1 h2 => h.mono a b h1 (by omega), fun i hi => h.one i (by omega), fun a b h1 h2 => h.zero a b (by omega) (by omega), fun i c hi => h.lead i c (by omega)⟩
/-- What either has, summed. -/
def Eth (U V : (Nat → Nat) → Prop) (v : Nat → Nat) : Prop := U v ∨ V v
theorem spn_eth {D : FD} (F : Fld D) {U V : (Nat → Nat) → Prop} (hU : ∀ v, U v → El D v) (hV : ∀ v, V v → El D v) {v : Nat → Nat} (h : Spn D (Eth U V) v) : ∃ a b, Spn D U a ∧ Spn D V b ∧ v = padd D a b := by
  refine spn_ind (Q := fun v => ∃ a b, Spn D U a ∧ Spn D V b ∧ v = padd D a b) ⟨pnil, pnil, spn_nil D U, spn_nil D V, (padd_nil F (el_nil F)).symm⟩ ?_ ?_ ?_ h
  · rintro u v ⟨a, b, ha, hb, rfl⟩ ⟨a', b', ha', hb', rfl⟩
    exact ⟨_, _, spn_add F ha ha', spn_add F hb hb', padd4 F (ha.el F) (hb.el F) (ha'.el F) (hb'.el F)⟩
  · rintro s v ⟨a, b, ha, hb, rfl⟩
    exact ⟨_, _, spn_scale F s ha, spn_scale F s hb, pscale_add F s (ha.el F) (hb.el F)⟩
  · rintro v (hv | hv)
    · exact ⟨v, pnil, spn_mem F (hU v hv) hv, spn_nil D V, (padd_nil F (hU v hv)).symm⟩
    · exact ⟨pnil, v, spn_nil D U, spn_mem F (hV v hv) hv, (nil_padd F (hV v hv)).symm⟩
theorem orth_back {D : FD} (F : Fld D) {n k : Nat} {R : Nat → Nat → Nat} {p : Nat → Nat} (h : RRE D n k R p) {v : Nat → Nat} (hv : El D v) (hb : Bd n v) (ho : ∀ j, j < nct k p n → dot D (nul D R p k n j) v n = 0) : Spn D (RowsOf k R) v := by
  have hs := lcR_spn F (K := k) (R := R) p v h.el k (Nat.le_refl _)
  obtain ⟨s, hse⟩ : ∃ s, s = lcR D R p v k := ⟨_, rfl⟩
  rw [← hse] at hs
  have hsel : El D s := hs.el F
  have hpiv : ∀ i, i < k → D.sb (v (p i)) (s (p i)) = 0 := fun i hi => by
    have h1 := lcR_own F (K := k) (R := R) (p := p) hv (fun a b ha hb => by
      by_cases e : a = b
      · subst e; rw [if_pos rfl, h.one a ha]
      · rw [if_neg e, h.zero a b ha hb e]) hi k (Nat.le_refl _)
    rw [if_pos hi, ← hse] at h1
    rw [h1, sb_self F (hv _)]
  have horth : ∀ j, j < nct k p n → dot D (nul D R p k n j) (psub D v s) n = 0 := fun j hj => by
    have e : dot D v (nul D R p k n j) n = 0 := by rw [dot_comm F]; exact ho j hj
    have e2 : dot D s (nul D R p k n j) n = 0 := dot_spn F hs (fun x ⟨i, hi, hx⟩ => by rw [hx]; exact nul_orth F h hi hj)
    have e3 : psub D v s = padd D v (pscale D (D.ng 1) s) := by
      funext c
      show D.sb (v c) (s c) = D.ad (v c) (D.mul (D.ng 1) (s c))
      rw [F.mul_comm, mul_ng F (one_lt' F), mul1 F (hsel c)]; rfl
    rw [dot_comm F, e3, dot_add F hv (el_scale F _ _), dot_scale F, e, e2, mul0 F, ad_zero F (zero_lt' F)]
  have hu : ∀ c, D.sb (v c) (s c) = 0 := fun c => by
    by_cases hc : c < n
    · by_cases hf : ∀ j, j < k → p j ≠ c
      · obtain ⟨j, hj, ej⟩ := fcs_all hf n hc
        subst ej
        have h1 := dot_only F (a := nul D R p k n j) (b := psub D v s) n hc (fun t ht hne => by
          by_cases hf2 : ∀ l, l < k → p l ≠ t
          · obtain ⟨l, hl, el⟩ := fcs_all hf2 n ht
            subst el
            rw [nul_one hj hl, if_neg (fun e => hne (by rw [e])), zmul F]
          · obtain ⟨l, hl, e⟩ : ∃ l, l < k ∧ p l = t := Classical.byContradiction (fun hn => hf2 (fun j hj e => hn ⟨j, hj, e⟩))
            subst e
            show D.mul _ (D.sb (v (p l)) (s (p l))) = 0
            rw [hpiv l hl, mul0 F])
        rw [horth j hj, nul_one hj hj, if_pos rfl] at h1
        have h2 : D.mul 1 (D.sb (v (fcs k p n j)) (s (fcs k p n j))) = 0 := h1.symm
        rw [omul F (sb_lt F (hv _) (hsel _))] at h2
        exact h2
      · obtain ⟨i, hi, e⟩ : ∃ i, i < k ∧ p i = c := Classical.byContradiction (fun hn => hf (fun j hj e => hn ⟨j, hj, e⟩))
        rw [← e]; exact hpiv i hi
    · have h1 : s c = 0 := by rw [hse]; exact lcR_at F _ _ _ c k (fun i hi => by rw [h.bd i hi c (by omega), mul0 F])
      rw [h1, hb c (by omega), sb_self F (zero_lt' F)]
  have e : v = s := by
    funext c
    exact sb_eq_zero F (hv c) (hsel c) (hu c)
  rw [e]; exact hs
/-- What the dual makes 0. -/
theorem Dul.back {D : FD} (F : Fld D) {n m k2 : Nat} {M R2 : Nat → Nat → Nat} (h : Dul D n m M k2 R2) (hM : ∀ i, i < m → El D (M i) ∧ Bd n (M i)) (v : Nat → Nat) : Spn D (RowsOf m M) v ↔ El D v ∧ Bd n v ∧ ∀ i, i < k2 → dot D (R2 i) v n = 0 := by
  have hR2 := h.rows
  have i2 := h.iff F (fun i hi => (hM i hi).1)
  obtain ⟨k, R, p, p2, h1, h2, h3, h4, e2⟩ := h
  constructor
  · intro hv
    refine ⟨hv.el F, ?_, fun i hi => ?_⟩
    · exact spn_ind (Q := Bd n) (fun _ _ => rfl) (fun u w hu hw c hc => by show D.ad (u c) (w c) = 0; rw [hu c hc, hw c hc, ad_zero F (zero_lt' F)]) (fun s u hu c hc => by show D.mul s (u c) = 0; rw [hu c hc, mul0 F]) (fun u ⟨j, hj, e⟩ => by rw [e]; exact (hM j hj).2) hv
    · rw [dot_comm F]
      refine dot_spn F hv (fun x ⟨j, hj, e⟩ => ?_)
      rw [e]
      exact ((i2 (R2 i)).1 (spn_mem F (hR2.1 i hi) ⟨i, hi, rfl⟩)).2.2 j hj
  · rintro ⟨he, hb, ho⟩
    refine (h2 v).1 (orth_back F h1 he hb (fun j hj => ?_))
    have hn := (h4 _).2 (spn_mem F (nul_el F h1.el n j) ⟨j, hj, rfl⟩)
    exact dot_spn F hn (fun x ⟨i, hi, e⟩ => by rw [e]; exact ho i hi)
end Go.Proofs.Ytbpeahhhkcljeaa
