/- Texts of ours, one behind the other: I30 I31 S13 S14. -/
import Derived.Test.YtabkomelnhnoiaaZI5
import Derived.Lib.AppendZerosOnto
import Derived.Test.YtabkomelnhnoiaaZW11
/- Room ahead (slices.Grow of nothing). -/
namespace Go.Proofs.Ytabkomelnhnoiaa
open Go.RowKit Go.Sort

set_option maxHeartbeats 4000000 in
set_option maxRecDepth 100000 in
theorem grow_zero (w : World) :
    Calls Try.prog 83 #[.slice none 0 0, .int .i64 0] w fun e w' => e = .returned (.slice none 0 0) ∧ w' = w := by
  go_enter Try.func83, Try.ntmps83
  go_wp2
  go_ret
  exact ⟨rfl, rfl⟩

set_option maxHeartbeats 4000000 in
set_option maxRecDepth 100000 in
theorem grow_nil {n : Nat} (h1 : 1 ≤ n) (hn : n ≤ 1000) (w : World) :
    Calls Try.prog 83 #[.slice none 0 0, .int .i64 (n : Nat)] w fun e w' => ∃ c, e = .returned (.slice (some ⟨w.heap.size, 0, none⟩) 0 c) ∧ OwnI w.heap.size (.slice (some ⟨w.heap.size, 0, none⟩) 0 c) [] w' ∧ Below w.heap.size w w' := by
  obtain ⟨i0, hi, hz0, hz1, hz2⟩ := info_parts Try.infoInt
  have hold : (Builtin.firstCells i0.size 0 (.slice none 0 0)).run Try.prog w.drew = .ok ([] : List Value).toArray w.drew := run_firstCells_none w.drew i0.size 0 0 0
  have hr := Lib.run_append_grow_zeros w 22 3 22 3 i0 (.int .i64 0) .i64 .i64 Try.underlying22 Try.underlying3 hi hz0 none 0 0 [] hold n (by omega) (by omega) (by omega) (by omega) (by rw [hz2]; omega) (growslice_fits (by omega) (by rw [hz2]; omega))
  have hGn := grownCap_ge w (0 + n) 0 3
  have hGm := grownCap_le_maxLen w (0 + n) 0 3 (by unfold maxLen; omega)
  obtain ⟨G, hG⟩ : ∃ G, G = grownCap w (0 + n) 0 3 := ⟨_, rfl⟩
  rw [← hG] at hr hGn hGm
  obtain ⟨cur, hcur⟩ : ∃ cur, cur = (([] : List Value).toArray ++ Builtin.zeroCells (Value.int .i64 0).cells n ++ Builtin.zeroCells (Value.int .i64 0).cells (G - (0 + n))) := ⟨_, rfl⟩
  rw [← hcur] at hr
  have HO : Hid (OwnI w.heap.size (.slice (some ⟨w.heap.size, 0, none⟩) 0 G) [] (w.drew.alloc (.cells cur 3)) ∧ Below w.heap.size w (w.drew.alloc (.cells cur 3))) := by
    refine ⟨World.ownsRow_made w.drew cur G (Nat.le_refl _) hGm ?_, (Below.refl _ _).drew.alloc (Nat.le_refl _) _⟩
    rw [hcur]
    simp [Builtin.zeroCells, Value.cells]
    omega
  have hG63 : G ≤ 9223372036854775807 := by unfold maxLen at hGm; omega
  rw [Nat.zero_add] at hr hGn
  clear hold hcur hG hGm hi hz0 hz1 hz2 i0
  have h2 : wrap64 ((n : Int) - 0) = (n : Int) := by unfold wrap64; omega
  have h4 : (n : Int) > 0 := by omega
  go_enter Try.func83, Try.ntmps83
  go_wp2_with (at_builtin; refine Lib.wpList_append_run _ rfl _ _ _ _ rfl _ _ rfl rfl _ _ hr ?_)
  go_ret
  exact ⟨_, rfl, HO.out⟩
end Go.Proofs.Ytabkomelnhnoiaa

/- TwoL lists behind one another (slices.Concat). -/
namespace Go.Proofs.Ytabkomelnhnoiaa
open Go.RowKit Go.Sort

theorem grow_any {n : Nat} (hn : n ≤ 1000) (w : World) :
    Calls Try.prog 83 #[.slice none 0 0, .int .i64 (n : Nat)] w fun e w' => ∃ v, e = .returned v ∧ OwnI w.heap.size v [] w' ∧ Below w.heap.size w w' := by
  rcases Nat.eq_zero_or_pos n with h | h
  · subst h
    refine (grow_zero w).mono ?_
    rintro e w' ⟨rfl, rfl⟩
    exact ⟨_, rfl, OwnI.nil _ _, Below.refl _ _⟩
  · refine (grow_nil h hn w).mono ?_
    rintro e w' ⟨c, rfl, h1, h2⟩
    exact ⟨_, rfl, h1, h2⟩
def cat2 (n1 n2 : Nat) (a b : Nat → Int) : Nat → List Int
  | 0 => []
  | 1 => zl n1 a
  | _ => zl n1 a ++ zl n2 b
def sum2 (n1 n2 : Nat) : Nat → Nat
  | 0 => 0
  | 1 => n1
  | _ => n1 + n2
/-- One of two lists that lie in an array of two. -/
structure TwoL (B : Nat) (n1 n2 : Nat) (a b : Nat → Int) (w : World) : Prop where
  get : ∀ r, r < 2 → ∃ x n c z, w.cell? ⟨B, r, none⟩ = some (.slice x n c) ∧ SlZ x n z w ∧ LtB x w.heap.size ∧ (x = none → c = 0) ∧ sum2 n1 n2 r + n = sum2 n1 n2 (r + 1) ∧ cat2 n1 n2 a b r ++ zl n z = cat2 n1 n2 a b (r + 1)
theorem TwoL.below {B : Nat} {n1 n2 : Nat} {a b : Nat → Int} {w w' : World} (h : TwoL B n1 n2 a b w) (hb : Below w.heap.size w w') : TwoL B n1 n2 a b w' := ⟨fun r hr => by
  obtain ⟨x, n, c, z, h1, h2, h3, h4, h5, h6⟩ := h.get r hr
  exact ⟨x, n, c, z, ((bcell hb).1 B r (cell_lt h1)).trans h1, h2.below hb h3, fun y hy => Nat.lt_of_lt_of_le (h3 y hy) hb.size, h4, h5, h6⟩⟩
theorem cat2_len (n1 n2 : Nat) (a b : Nat → Int) : ∀ r, (cat2 n1 n2 a b r).length = sum2 n1 n2 r
  | 0 => rfl
  | 1 => zl_len _ _
  | r + 2 => by show (zl n1 a ++ zl n2 b).length = n1 + n2; rw [List.length_append, zl_len, zl_len]
theorem sum2_le (n1 n2 : Nat) : ∀ r, sum2 n1 n2 r ≤ n1 + n2
  | 0 => Nat.zero_le _
  | 1 => by show n1 ≤ n1 + n2; omega
  | r + 2 => Nat.le_refl _

set_option maxHeartbeats 8000000 in
set_option maxRecDepth 100000 in
theorem concat2 {B n1 n2 c : Nat} {a b : Nat → Int} {w : World} (h : TwoL B n1 n2 a b w) (hn : n1 + n2 ≤ 1000) :
    Calls Try.prog 69 #[.slice (some ⟨B, 0, none⟩) 2 c] w fun e w' => ∃ v, e = .returned v ∧ OwnI w.heap.size v (zl n1 a ++ zl n2 b) w' ∧ Below w.heap.size w w' := by
  have HT : Hid (TwoL B n1 n2 a b w) := h
  clear h
  go_enter Try.func69, Try.ntmps69
  go_wp2
  go_loopw [3, 11] (fun vs vi wr => ∃ r s : Nat, r ≤ 2 ∧ vs = .int .i64 (s : Nat) ∧ vi = .int .i64 r ∧ s ≤ n1 + n2 ∧ Hid (s = sum2 n1 n2 r) ∧ wr = w) (fun _ vi _ => 2 - (intOf vi).toNat)
  case atStart => exact ⟨0, 0, by omega, rfl, rfl, by omega, rfl, rfl⟩
  case round =>
    obtain ⟨r, s, hr, rfl, rfl, hs, HS, hw⟩ := hrel
    have hw := hw.symm
    subst hw
    by_cases hlt : r < 2
    · have hib : (r : Int) < 2 := by omega
      obtain ⟨x, n, cx, z, hc, _, _, _, h5, _⟩ := HT.out.get r hlt
      have hsn : s + n = sum2 n1 n2 (r + 1) := by rw [HS.out]; exact h5
      have hle := sum2_le n1 n2 (r + 1)
      have hsm : s + n ≤ n1 + n2 := by omega
      have HS2 : Hid (s + n = sum2 n1 n2 (r + 1)) := hsn
      have hneg : ¬ ((s : Int) + (n : Int) < 0) := by omega
      clear h5 hsn hle
      go_wp2
      go_roundw
      case rel => exact ⟨r + 1, s + n, by omega, by go_num, by go_num, hsm, HS2.out, by first | rfl | trivial⟩
      case measure => simp [intOf]; omega
    · have hib : ¬ (r : Int) < 2 := by omega
      have hre : r = 2 := by omega
      subst hre
      have hsn : s = n1 + n2 := HS.out
      subst hsn
      obtain ⟨M, hM⟩ : ∃ M, M = n1 + n2 := ⟨_, rfl⟩
      have HG : Hid (Calls Try.prog 83 #[.slice none 0 0, .int .i64 (M : Nat)] w fun e w' => ∃ v, e = .returned v ∧ OwnI w.heap.size v [] w' ∧ Below w.heap.size w w') := grow_any (by omega) w
      rw [← hM]
      clear hM
      go_wp2_with fail
      refine HG.out.mono ?_
      rintro e w1 ⟨v1, rfl, ho1, hb1⟩
      have H1 : Hid (OwnI w.heap.size v1 (cat2 n1 n2 a b 0) w1 ∧ Below w.heap.size w w1) := ⟨ho1, hb1⟩
      clear ho1 hb1
      go_wp2
      go_loopw [6, 27] (fun vl vi wr => ∃ r : Nat, r ≤ 2 ∧ vi = .int .i64 r ∧ Hid (OwnI w.heap.size vl (cat2 n1 n2 a b r) wr ∧ Below w.heap.size w wr)) (fun _ vi _ => 2 - (intOf vi).toNat)
      case atStart => exact ⟨0, by omega, rfl, H1.out⟩
      case round =>
        clear H1
        obtain ⟨r, hr, rfl, HK⟩ := hrel
        rename World => wr
        by_cases hlt : r < 2
        · have hib : (r : Int) < 2 := by omega
          obtain ⟨x, n, cx, z, hc, hsl, hlx, hnx, h5, h6⟩ := (HT.out.below HK.out.2).get r hlt
          have HP : Hid (SlZ x n z wr ∧ (x = none → cx = 0) ∧ cat2 n1 n2 a b r ++ zl n z = cat2 n1 n2 a b (r + 1)) := ⟨hsl, hnx, h6⟩
          have hll : (cat2 n1 n2 a b r).length + n ≤ 1000 := by
            have := sum2_le n1 n2 (r + 1)
            rw [cat2_len]; omega
          have hsz := HK.out.2.size
          clear hsl hlx hnx h5 h6
          go_wp2_with (at_builtin; refine append_ints rfl _ _ rfl w.heap.size _ (cat2 n1 n2 a b r) rfl HK.out.1 x n cx z rfl HP.out.1 HP.out.2.1 (by omega) hsz ?_; intro v5 w5 hown5 hgrow5)
          have HR : Hid (OwnI w.heap.size v5 (cat2 n1 n2 a b (r + 1)) w5 ∧ Below w.heap.size w w5) := ⟨by rw [← HP.out.2.2]; exact hown5, HK.out.2.grown hgrow5 hsz (fun k hk => (HK.out.1.lt k hk).1)⟩
          clear hown5 hgrow5
          go_roundw
          case rel => exact ⟨r + 1, by omega, by go_num, HR.out⟩
          case measure => simp [intOf]; omega
        · have hib : ¬ (r : Int) < 2 := by omega
          have hre : r = 2 := by omega
          subst hre
          go_wp2
          go_ret
          exact ⟨_, rfl, HK.out⟩
end Go.Proofs.Ytabkomelnhnoiaa

/- Plain mathematics: what makes rows 0 is what the null rows span; the dual of the dual. No Go text here. -/
namespace Go.Proofs.Ytabkomelnhnoiaa

theorem lcR_spn {D : FD} (F : Fld D) {K : Nat} {R : Nat → Nat → Nat} (p v : Nat → Nat) (hR : ∀ i, i < K → El D (R i)) : ∀ k, k ≤ K → Spn D (RowsOf K R) (lcR D R p v k)
  | 0, _ => spn_nil D _
  | k + 1, h => spn_add F (lcR_spn F p v hR k (by omega)) (spn_scale F _ (spn_mem F (hR k (by omega)) ⟨k, by omega, rfl⟩))
/-- At its own place a sum of rows is what was asked for. -/
theorem lcR_own {D : FD} (F : Fld D) {K : Nat} {R : Nat → Nat → Nat} {p v : Nat → Nat} (hv : El D v) (ho : ∀ i j, i < K → j < K → R i (p j) = if i = j then 1 else 0) {j : Nat} (hj : j < K) : ∀ k, k ≤ K → lcR D R p v k (p j) = if j < k then v (p j) else 0
  | 0, _ => by rw [if_neg (by omega)]; rfl
  | k + 1, h => by
    show D.ad (lcR D R p v k (p j)) (D.mul (v (p k)) (R k (p j))) = _
    rw [lcR_own F hv ho hj k (by omega), ho k j (by omega) hj]
    by_cases e : k = j
    · subst e
      rw [if_neg (by omega), if_pos rfl, if_pos (by omega), mul1 F (hv _), zero_ad F (hv _)]
    · rw [if_neg e, mul0 F]
      by_cases e2 : j < k
      · rw [if_pos e2, if_pos (by omega), ad_zero F (hv _)]
      · rw [if_neg e2, if_neg (by omega), ad_zero F (zero_lt' F)]
end Go.Proofs.Ytabkomelnhnoiaa

/- Plain mathematics: the dual of the dual. No Go text here. -/
namespace Go.Proofs.Ytabkomelnhnoiaa

/-- Of two increasing sequences of one length, the one within the other, none is left out. -/
theorem mono_within {p q : Nat → Nat} : ∀ k, (∀ i j, i < j → j < k → p i < p j) → (∀ i j, i < j → j < k → q i < q j) → (∀ i, i < k → ∃ j, j < k ∧ p i = q j) → ∀ i, i < k → p i = q i := by
  intro k hp hq hs
  have up : ∀ i, i < k → ∀ j, j < k → p i = q j → i ≤ j := fun i => by
    induction i with
    | zero => intro _ j _ _; exact Nat.zero_le _
    | succ i ih =>
      intro hi j hj e
      obtain ⟨l, hl, el⟩ := hs i (by omega)
      have h1 := ih (by omega) l hl el
      have h2 := hp i (i + 1) (by omega) hi
      have h3 : l < j := by
        rcases Nat.lt_or_ge l j with h | h
        · exact h
        · rcases Nat.lt_or_eq_of_le h with h | h
          · have := hq j l h hl; omega
          · subst h; omega
      omega
  have down : ∀ d i, i + d + 1 = k → ∀ j, j < k → p i = q j → j ≤ i := fun d => by
    induction d with
    | zero => intro i hi j hj _; omega
    | succ d ih =>
      intro i hi j hj e
      obtain ⟨l, hl, el⟩ := hs (i + 1) (by omega)
      have h1 := ih (i + 1) (by omega) l hl el
      have h2 := hp i (i + 1) (by omega) (by omega)
      have h3 : j < l := by
        rcases Nat.lt_or_ge j l with h | h
        · exact h
        · rcases Nat.lt_or_eq_of_le h with h | h
          · have := hq l j h hj; omega
          · subst h; omega
      omega
  intro i hi
  obtain ⟨j, hj, e⟩ := hs i hi
  have h1 := up i hi j hj e
  have h2 := down (k - 1 - i) i (by omega) j hj e
  have : j = i := by omega
  rw [e, this]
/-- Rows within others', as many in their one form: they span the same. -/
theorem rre_within {D : FD} (F : Fld D) {n k : Nat} {R R' : Nat → Nat → Nat} {p p' : Nat → Nat} (h : RRE D n k R p) (h' : RRE D n k R' p') (hs : ∀ v, Spn D (RowsOf k R) v → Spn D (RowsOf k R') v) (v : Nat → Nat) : Spn D (RowsOf k R) v ↔ Spn D (RowsOf k R') v := by
  refine ⟨hs v, fun hv => ?_⟩
  have hp : ∀ i, i < k → p i = p' i := mono_within k h.mono h'.mono (fun i hi => by
    have hl : Lead D (RowsOf k R) (p i) := (rre_lead F h (p i)).2 ⟨i, hi, rfl⟩
    obtain ⟨u, h1, h2⟩ := hl
    obtain ⟨j, hj, e⟩ := (rre_lead F h' (p i)).1 ⟨u, hs u h1, h2⟩
    exact ⟨j, hj, e⟩)
  have hc := lcR_spn F (K := k) (R := R) p v h.el k (Nat.le_refl _)
  have hd : Spn D (RowsOf k R') (psub D v (lcR D R p v k)) := spn_sub F hv (hs _ hc)
  have hz := rre_nil F h' hd (fun j hj => by
    show D.sb (v (p' j)) (lcR D R p v k (p' j)) = 0
    rw [← hp j hj, lcR_own F (hv.el F) (fun a b ha hb => by
      by_cases e : a = b
      · subst e; rw [if_pos rfl, h.one a ha]
      · rw [if_neg e, h.zero a b ha hb e]) hj k (Nat.le_refl _), if_pos hj, sb_self F (hv.el F _)])
  rw [psub_eq_nil F (hv.el F) (hc.el F) hz]
  exact hc
end Go.Proofs.Ytabkomelnhnoiaa
