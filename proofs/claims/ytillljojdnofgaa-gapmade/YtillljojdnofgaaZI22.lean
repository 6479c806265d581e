/- Texts of ours, one behind the other: I22 I23 S12 I24 I25 I26 I27 I28 I29 I30 I31 S13 S14 S15 S16 S17. -/
import Derived.Test.YtillljojdnofgaaZW11
import Derived.Test.YtillljojdnofgaaZS3
import Derived.Lib.AppendZerosOnto
/- Encoded: the reference's sum of rows. -/
namespace Go.Proofs.Ytillljojdnofgaa
open Go.RowKit Go.Sort

end Go.Proofs.Ytillljojdnofgaa

/- Encode: where there is nothing to tell. -/
namespace Go.Proofs.Ytillljojdnofgaa
open Go.RowKit Go.Sort

end Go.Proofs.Ytillljojdnofgaa

/- Plain mathematics: products of rows; what makes rows 0. No Go text here. -/
namespace Go.Proofs.Ytillljojdnofgaa

end Go.Proofs.Ytillljojdnofgaa

/- WordMay and Dot of the reference. -/
namespace Go.Proofs.Ytillljojdnofgaa
open Go.RowKit Go.Sort

end Go.Proofs.Ytillljojdnofgaa

/- Syndrome and Has. -/
namespace Go.Proofs.Ytillljojdnofgaa
open Go.RowKit Go.Sort

end Go.Proofs.Ytillljojdnofgaa

/- Has. -/
namespace Go.Proofs.Ytillljojdnofgaa
open Go.RowKit Go.Sort

end Go.Proofs.Ytillljojdnofgaa

/- CodeSays: the words of a code. -/
namespace Go.Proofs.Ytillljojdnofgaa
open Go.RowKit Go.Sort

end Go.Proofs.Ytillljojdnofgaa

/- CodeSays: the words of a code that may be. -/
namespace Go.Proofs.Ytillljojdnofgaa
open Go.RowKit Go.Sort

end Go.Proofs.Ytillljojdnofgaa

/- Places that a code may lose. -/
namespace Go.Proofs.Ytillljojdnofgaa
open Go.RowKit Go.Sort

end Go.Proofs.Ytillljojdnofgaa

/- Room ahead (slices.Grow of nothing). -/
namespace Go.Proofs.Ytillljojdnofgaa
open Go.RowKit Go.Sort

set_option maxHeartbeats 4000000 in
set_option maxRecDepth 100000 in
theorem grow_zero (w : World) :
    Calls Try.prog 94 #[.slice none 0 0, .int .i64 0] w fun e w' => e = .returned (.slice none 0 0) ∧ w' = w := by
  go_enter Try.func94, Try.ntmps94
  go_wp2
  go_ret
  exact ⟨rfl, rfl⟩

set_option maxHeartbeats 4000000 in
set_option maxRecDepth 100000 in
theorem grow_nil {n : Nat} (h1 : 1 ≤ n) (hn : n ≤ 1000) (w : World) :
    Calls Try.prog 94 #[.slice none 0 0, .int .i64 (n : Nat)] w fun e w' => ∃ c, e = .returned (.slice (some ⟨w.heap.size, 0, none⟩) 0 c) ∧ OwnI w.heap.size (.slice (some ⟨w.heap.size, 0, none⟩) 0 c) [] w' ∧ Below w.heap.size w w' := by
  obtain ⟨i0, hi, hz0, hz1, hz2⟩ := info_parts Try.infoInt
  have hold : (Builtin.firstCells i0.size 0 (.slice none 0 0)).run Try.prog w.drew = .ok ([] : List Value).toArray w.drew := run_firstCells_none w.drew i0.size 0 0 0
  have hr := Lib.run_append_grow_zeros w 22 3 22 3 i0 (.int .i64 0) .i64 .i64 Try.underlying22 Try.underlying3 hi hz0 none 0 0 [] hold n (by omega) (by omega) (by omega) (by omega) (by rw [hz2]; omega) (growslice_fits (by omega) (by rw [hz2]; omega))
  have hGn := grownCap_ge w (0 + n) 0 3
  have hGm := grownCap_le_maxLen w (0 + n) 0 3 (by unfold maxLen; omega)
  obtain ⟨G, hG⟩ : ∃ G, G = grownCap w (0 + n) 0 3 := ⟨_, rfl⟩
  rw [← hG] at hr hGn hGm
  obtain ⟨cur, hcur⟩ : ∃ cur, cur = (([] : List Value).toArray ++ Builtin.zeroCells (Value.int .i64 0).cells n ++ Builtin.zeroCells (Value.int .i64 0).cells (G - (0 + n))) := ⟨_, rfl⟩
  rw [← hcur] at hr
  have HO : Hid (OwnI w.heap.size (.slice (some ⟨w.heap.size, 0, none⟩) 0 G) [] (w.drew.alloc (.cells cur 3)) ∧ Below w.heap.size w (w.drew.alloc (.cells cur 3))) := by
    refine ⟨World.ownsRow_made w.drew cur G (Nat.le_refl _) hGm ?_, (Below.refl _ _).drew.alloc (Nat.le_refl _) _⟩
    rw [hcur]
    simp [Builtin.zeroCells, Value.cells]
    omega
  have hG63 : G ≤ 9223372036854775807 := by unfold maxLen at hGm; omega
  rw [Nat.zero_add] at hr hGn
  clear hold hcur hG hGm hi hz0 hz1 hz2 i0
  have h2 : wrap64 ((n : Int) - 0) = (n : Int) := by unfold wrap64; omega
  have h4 : (n : Int) > 0 := by omega
  go_enter Try.func94, Try.ntmps94
  go_wp2_with (at_builtin; refine Lib.wpList_append_run _ rfl _ _ _ _ rfl _ _ rfl rfl _ _ hr ?_)
  go_ret
  exact ⟨_, rfl, HO.out⟩
end Go.Proofs.Ytillljojdnofgaa

/- TwoL lists behind one another (slices.Concat). -/
namespace Go.Proofs.Ytillljojdnofgaa
open Go.RowKit Go.Sort

theorem grow_any {n : Nat} (hn : n ≤ 1000) (w : World) :
    Calls Try.prog 94 #[.slice none 0 0, .int .i64 (n : Nat)] w fun e w' => ∃ v, e = .returned v ∧ OwnI w.heap.size v [] w' ∧ Below w.heap.size w w' := by
  rcases Nat.eq_zero_or_pos n with h | h
  · subst h
    refine (grow_zero w).mono ?_
    rintro e w' ⟨rfl, rfl⟩
    exact ⟨_, rfl, OwnI.nil _ _, Below.refl _ _⟩
  · refine (grow_nil h hn w).mono ?_
    rintro e w' ⟨c, rfl, h1, h2⟩
    exact ⟨_, rfl, h1, h2⟩
def cat2 (n1 n2 : Nat) (a b : Nat → Int) : Nat → List Int
  | 0 => []
  | 1 => zl n1 a
  | _ => zl n1 a ++ zl n2 b
def sum2 (n1 n2 : Nat) : Nat → Nat
  | 0 => 0
  | 1 => n1
  | _ => n1 + n2
/-- One of two lists that lie in an array of two. -/
structure TwoL (B : Nat) (n1 n2 : Nat) (a b : Nat → Int) (w : World) : Prop where
  get : ∀ r, r < 2 → ∃ x n c z, w.cell? ⟨B, r, none⟩ = some (.slice x n c) ∧ SlZ x n z w ∧ LtB x w.heap.size ∧ (x = none → c = 0) ∧ sum2 n1 n2 r + n = sum2 n1 n2 (r + 1) ∧ cat2 n1 n2 a b r ++ zl n z = cat2 n1 n2 a b (r + 1)
theorem TwoL.below {B : Nat} {n1 n2 : Nat} {a b : Nat → Int} {w w' : World} (h : TwoL B n1 n2 a b w) (hb : Below w.heap.size w w') : TwoL B n1 n2 a b w' := ⟨fun r hr => by
  obtain ⟨x, n, c, z, h1, h2, h3, h4, h5, h6⟩ := h.get r hr
  exact ⟨x, n, c, z, ((bcell hb).1 B r (cell_lt h1)).trans h1, h2.below hb h3, fun y hy => Nat.lt_of_lt_of_le (h3 y hy) hb.size, h4, h5, h6⟩⟩
theorem cat2_len (n1 n2 : Nat) (a b : Nat → Int) : ∀ r, (cat2 n1 n2 a b r).length = sum2 n1 n2 r
  | 0 => rfl
  | 1 => zl_len _ _
  | r + 2 => by show (zl n1 a ++ zl n2 b).length = n1 + n2; rw [List.length_append, zl_len, zl_len]
theorem sum2_le (n1 n2 : Nat) : ∀ r, sum2 n1 n2 r ≤ n1 + n2
  | 0 => Nat.zero_le _
  | 1 => by show n1 ≤ n1 + n2; omega
  | r + 2 => Nat.le_refl _

set_option maxHeartbeats 8000000 in
set_option maxRecDepth 100000 in
theorem concat2 {B n1 n2 c : Nat} {a b : Nat → Int} {w : World} (h : TwoL B n1 n2 a b w) (hn : n1 + n2 ≤ 1000) :
    Calls Try.prog 81 #[.slice (some ⟨B, 0, none⟩) 2 c] w fun e w' => ∃ v, e = .returned v ∧ OwnI w.heap.size v (zl n1 a ++ zl n2 b) w' ∧ Below w.heap.size w w' := by
  have HT : Hid (TwoL B n1 n2 a b w) := h
  clear h
  go_enter Try.func81, Try.ntmps81
  go_wp2
  go_loopw [3, 11] (fun vs vi wr => ∃ r s : Nat, r ≤ 2 ∧ vs = .int .i64 (s : Nat) ∧ vi = .int .i64 r ∧ s ≤ n1 + n2 ∧ Hid (s = sum2 n1 n2 r) ∧ wr = w) (fun _ vi _ => 2 - (intOf vi).toNat)
  case atStart => exact ⟨0, 0, by omega, rfl, rfl, by omega, rfl, rfl⟩
  case round =>
    obtain ⟨r, s, hr, rfl, rfl, hs, HS, hw⟩ := hrel
    have hw := hw.symm
    subst hw
    by_cases hlt : r < 2
    · have hib : (r : Int) < 2 := by omega
      obtain ⟨x, n, cx, z, hc, _, _, _, h5, _⟩ := HT.out.get r hlt
      have hsn : s + n = sum2 n1 n2 (r + 1) := by rw [HS.out]; exact h5
      have hle := sum2_le n1 n2 (r + 1)
      have hsm : s + n ≤ n1 + n2 := by omega
      have HS2 : Hid (s + n = sum2 n1 n2 (r + 1)) := hsn
      have hneg : ¬ ((s : Int) + (n : Int) < 0) := by omega
      clear h5 hsn hle
      go_wp2
      go_roundw
      case rel => exact ⟨r + 1, s + n, by omega, by go_num, by go_num, hsm, HS2.out, by first | rfl | trivial⟩
      case measure => simp [intOf]; omega
    · have hib : ¬ (r : Int) < 2 := by omega
      have hre : r = 2 := by omega
      subst hre
      have hsn : s = n1 + n2 := HS.out
      subst hsn
      obtain ⟨M, hM⟩ : ∃ M, M = n1 + n2 := ⟨_, rfl⟩
      have HG : Hid (Calls Try.prog 94 #[.slice none 0 0, .int .i64 (M : Nat)] w fun e w' => ∃ v, e = .returned v ∧ OwnI w.heap.size v [] w' ∧ Below w.heap.size w w') := grow_any (by omega) w
      rw [← hM]
      clear hM
      go_wp2_with fail
      refine HG.out.mono ?_
      rintro e w1 ⟨v1, rfl, ho1, hb1⟩
      have H1 : Hid (OwnI w.heap.size v1 (cat2 n1 n2 a b 0) w1 ∧ Below w.heap.size w w1) := ⟨ho1, hb1⟩
      clear ho1 hb1
      go_wp2
      go_loopw [6, 27] (fun vl vi wr => ∃ r : Nat, r ≤ 2 ∧ vi = .int .i64 r ∧ Hid (OwnI w.heap.size vl (cat2 n1 n2 a b r) wr ∧ Below w.heap.size w wr)) (fun _ vi _ => 2 - (intOf vi).toNat)
      case atStart => exact ⟨0, by omega, rfl, H1.out⟩
      case round =>
        clear H1
        obtain ⟨r, hr, rfl, HK⟩ := hrel
        rename World => wr
        by_cases hlt : r < 2
        · have hib : (r : Int) < 2 := by omega
          obtain ⟨x, n, cx, z, hc, hsl, hlx, hnx, h5, h6⟩ := (HT.out.below HK.out.2).get r hlt
          have HP : Hid (SlZ x n z wr ∧ (x = none → cx = 0) ∧ cat2 n1 n2 a b r ++ zl n z = cat2 n1 n2 a b (r + 1)) := ⟨hsl, hnx, h6⟩
          have hll : (cat2 n1 n2 a b r).length + n ≤ 1000 := by
            have := sum2_le n1 n2 (r + 1)
            rw [cat2_len]; omega
          have hsz := HK.out.2.size
          clear hsl hlx hnx h5 h6
          go_wp2_with (at_builtin; refine append_ints rfl _ _ rfl w.heap.size _ (cat2 n1 n2 a b r) rfl HK.out.1 x n cx z rfl HP.out.1 HP.out.2.1 (by omega) hsz ?_; intro v5 w5 hown5 hgrow5)
          have HR : Hid (OwnI w.heap.size v5 (cat2 n1 n2 a b (r + 1)) w5 ∧ Below w.heap.size w w5) := ⟨by rw [← HP.out.2.2]; exact hown5, HK.out.2.grown hgrow5 hsz (fun k hk => (HK.out.1.lt k hk).1)⟩
          clear hown5 hgrow5
          go_roundw
          case rel => exact ⟨r + 1, by omega, by go_num, HR.out⟩
          case measure => simp [intOf]; omega
        · have hib : ¬ (r : Int) < 2 := by omega
          have hre : r = 2 := by omega
          subst hre
          go_wp2
          go_ret
          exact ⟨_, rfl, HK.out⟩
end Go.Proofs.Ytillljojdnofgaa

/- Plain mathematics: what makes rows 0 is what the null rows span; the dual of the dual. No Go text here. -/
namespace Go.Proofs.Ytillljojdnofgaa

end Go.Proofs.Ytillljojdnofgaa

/- Plain mathematics: the dual of the dual. No Go text here. -/
namespace Go.Proofs.Ytillljojdnofgaa

end Go.Proofs.Ytillljojdnofgaa

/- Plain mathematics: how many rows sums and meets of codes have. No Go text here. -/
namespace Go.Proofs.Ytillljojdnofgaa

end Go.Proofs.Ytillljojdnofgaa

/- Plain mathematics: the rows of sum and meet together are both's. No Go text here. -/
namespace Go.Proofs.Ytillljojdnofgaa

end Go.Proofs.Ytillljojdnofgaa

/- Plain mathematics: words without a place; the dual of the punctured dual. No Go text here. -/
namespace Go.Proofs.Ytillljojdnofgaa

/-- A word without place a. -/
def wo (a : Nat) (v : Nat → Nat) : Nat → Nat := fun j => if j < a then v j else v (j + 1)
/-- A word with 0 put in at place a. -/
def wi (a : Nat) (u : Nat → Nat) : Nat → Nat := fun j => if j < a then u j else if j = a then 0 else u (j - 1)
end Go.Proofs.Ytillljojdnofgaa
