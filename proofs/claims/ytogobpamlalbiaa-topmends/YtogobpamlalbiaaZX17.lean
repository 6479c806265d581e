/- Texts of ours, one behind the other: X17 X18 S5 T10. -/
import Derived.Test.YtogobpamlalbiaaZX12
import Derived.Test.YtogobpamlalbiaaZX11
/- The program's matrices: is a number in a list (slices.Contains); the rows that make a reduced form 0 (madeNought). -/
namespace Go.Proofs.Ytogobpamlalbiaa
open Go.RowKit

set_option maxHeartbeats 2000000 in
set_option maxRecDepth 100000 in
theorem indexI_any {ao : Option Addr} {n ca : Nat} {z : Nat → Int} {w : World} (x : Int) (hs : SlZ ao n z w) (hn : n ≤ 1000000) :
    Calls Try.prog 42 #[.slice ao n ca, .int .i64 x] w fun e w' => w' = w ∧ ((∃ i : Nat, i < n ∧ z i = x ∧ e = .returned (.int .i64 i)) ∨ ((∀ j, j < n → z j ≠ x) ∧ e = .returned (.int .i64 (-1)))) := by
  have HS : Hid (SlZ ao n z w) := hs
  clear hs
  go_enter Try.func42, Try.ntmps42
  go_wp2
  go_loopw [5, 8] (fun _ i wr => ∃ r : Nat, r ≤ n ∧ i = .int .i64 r ∧ Hid (∀ j, j < r → z j ≠ x) ∧ wr = w) (fun _ i _ => n - (intOf i).toNat)
  case atStart => exact ⟨0, by omega, rfl, (show Hid _ from fun j hj => by omega), rfl⟩
  case round =>
    obtain ⟨r, hr, rfl, HH, rfl⟩ := hrel
    by_cases hlt : r < n
    · obtain ⟨b, off, rfl, hcz⟩ := HS.out r hlt
      have hib : (r : Int) < (n : Int) := by omega
      obtain ⟨y, hy⟩ : ∃ y, y = z r := ⟨_, rfl⟩
      rw [← hy] at hcz
      by_cases he : x = y
      · have hb : (x == y) = true := beq_iff_eq.2 he
        have HV : Hid (z r = x) := by rw [← hy, he]; rfl
        clear he hy
        go_wp2
        go_ret
        exact ⟨rfl, Or.inl ⟨r, hlt, HV.out, rfl⟩⟩
      · have hb : (x == y) = false := beq_eq_false_iff_ne.2 he
        have HV : Hid (∀ j, j < r + 1 → z j ≠ x) := fun j hj => by
          by_cases e : j = r
          · rw [e, ← hy]; exact fun e => he e.symm
          · exact HH.out j (by omega)
        clear he hy
        go_wp2
        go_roundw
        case rel => exact ⟨r + 1, by omega, by go_num, HV.out, by first | rfl | trivial⟩
        case measure => simp [intOf]; omega
    · have HV : Hid (∀ j, j < n → z j ≠ x) := fun j hj => HH.out j (by omega)
      go_wp2
      go_ret
      exact ⟨rfl, Or.inr ⟨HV.out, rfl⟩⟩

set_option maxHeartbeats 2000000 in
set_option maxRecDepth 100000 in
theorem contains_any {ao : Option Addr} {n ca : Nat} {z : Nat → Int} {w : World} (x : Int) (hs : SlZ ao n z w) (hn : n ≤ 1000000) :
    Calls Try.prog 25 #[.slice ao n ca, .int .i64 x] w fun e w' => e = .returned (.bool (decide (x ∈ zl n z))) ∧ w' = w := by
  have HS : Hid (SlZ ao n z w) := hs
  clear hs
  go_enter Try.func25, Try.ntmps25
  go_wp2_with fail
  refine (indexI_any x HS.out hn).mono ?_
  rintro e w' ⟨hw, ⟨i, hi, hz, rfl⟩ | ⟨hz, rfl⟩⟩
  · have hw := hw.symm
    subst hw
    have hge : (0 : Int) ≤ (i : Int) := by omega
    have HV : Hid (decide (x ∈ zl n z) = true) := by
      show _ = _
      rw [decide_eq_true_eq]; exact zl_mem.2 ⟨i, hi, hz⟩
    clear hz
    go_wp2
    go_ret
    exact ⟨by rw [HV.out]; rfl, rfl⟩
  · have hw := hw.symm
    subst hw
    have HV : Hid (decide (x ∈ zl n z) = false) := by
      show _ = _
      rw [decide_eq_false_iff_not]
      intro h
      obtain ⟨j, hj, e⟩ := zl_mem.1 h
      exact hz j hj e
    clear hz
    go_wp2
    go_ret
    exact ⟨by rw [HV.out]; rfl, rfl⟩

/-- c rows of n numbers, each made by the call itself and appended to a list of its own. -/
structure NSt (base n c : Nat) (NR : Nat → Nat → Nat) (v : Value) (h : Nat → Nat) (wr : World) : Prop where
  own : OwnV base v (vl c fun i => .slice (some ⟨h i, 0, none⟩) n n) wr
  row : ∀ i, i < c → Row (h i) n (NR i) wr
  ge : ∀ i, i < c → base ≤ h i
  inj : ∀ i, i < c → ∀ j, j < c → h i = h j → i = j
theorem NSt.below {base n c : Nat} {NR : Nat → Nat → Nat} {v : Value} {h : Nat → Nat} {w w' : World} (H : NSt base n c NR v h w) (hb : Below w.heap.size w w') : NSt base n c NR v h w' :=
  ⟨H.own.below hb (Nat.le_refl _), fun i hi => (H.row i hi).below hb (H.row i hi).lt, H.ge, H.inj⟩
theorem NSt.congr {base n c : Nat} {NR NR' : Nat → Nat → Nat} {v : Value} {h : Nat → Nat} {w : World} (H : NSt base n c NR v h w) (e : ∀ i, i < c → NR i = NR' i) : NSt base n c NR' v h w :=
  ⟨H.own, fun i hi => by rw [← e i hi]; exact H.row i hi, H.ge, H.inj⟩
theorem NSt.push {base n c g : Nat} {NR : Nat → Nat → Nat} {d : Nat → Nat} {v v' : Value} {h : Nat → Nat} {w w' : World} (H : NSt base n c NR v h w) (hr : Row g n d w) (hg : base ≤ g) (hlt : ∀ i, i < c → h i < g) (ho : OwnV base v' (vl c (fun i => .slice (some ⟨h i, 0, none⟩) n n) ++ [.slice (some ⟨g, 0, none⟩) n n]) w') (hgr : w.grownBy w' v.ownBlock) :
    NSt base n (c + 1) (fun i => if i = c then d else NR i) v' (fun i => if i = c then g else h i) w' := by
  have hkeep : ∀ {b : Nat} {e : Nat → Nat}, Row b n e w → Row b n e w' := fun {b e} hb => hb.other (hgr.block b hb.lt (fun e' => hb.apart H.own e'))
  refine ⟨?_, fun i hi => ?_, fun i hi => ?_, fun i hi j hj e => ?_⟩
  · have e : vl (c + 1) (fun i => Value.slice (some ⟨if i = c then g else h i, 0, none⟩) n n) = vl c (fun i => .slice (some ⟨h i, 0, none⟩) n n) ++ [.slice (some ⟨g, 0, none⟩) n n] := by
      unfold vl
      rw [List.range_succ, List.map_append]
      congr 1
      · exact List.map_congr_left (fun j hj => by rw [if_neg (by have := List.mem_range.1 hj; omega)])
      · simp
    rw [e]; exact ho
  · by_cases e : i = c
    · simp only [if_pos e]; exact hkeep hr
    · simp only [if_neg e]; exact hkeep (H.row i (by omega))
  · by_cases e : i = c
    · simp only [if_pos e]; exact hg
    · simp only [if_neg e]; exact H.ge i (by omega)
  · by_cases e1 : i = c
    · by_cases e2 : j = c
      · omega
      · simp only [if_pos e1, if_neg e2] at e
        have := hlt j (by omega); omega
    · by_cases e2 : j = c
      · simp only [if_neg e1, if_pos e2] at e
        have := hlt i (by omega); omega
      · simp only [if_neg e1, if_neg e2] at e
        exact H.inj i (by omega) j (by omega) e
theorem NSt.mx {base n c : Nat} {NR : Nat → Nat → Nat} {v : Value} {h : Nat → Nat} {w : World} (H : NSt base n c NR v h w) (hc : 0 < c) : ∃ G mc, v = .slice (some ⟨G, 0, none⟩) c mc ∧ Mx base G mc c n NR h w := by
  rcases H.own.2 with ⟨h1, h2⟩ | ⟨g, cap, cur, hv, hb, hh, hle, hcm, hsz, htake⟩
  · rw [vl_len] at h2; omega
  · rw [vl_len] at hv hle htake
    have hsz' : cur.size = cap := by omega
    refine ⟨g, cap, hv, ⟨⟨fun o => (cur[o]?).getD undef, ⟨cur, hh, hsz', fun o ho => ?_⟩, fun i hi => ?_⟩, H.row, hb, H.ge, H.inj, fun i hi e => ?_, by omega⟩⟩
    · show cur[o]? = some ((cur[o]?).getD undef)
      rw [Array.getElem?_eq_getElem (by omega)]; rfl
    · have h3 : (cur.toList.take (c * 1))[i]? = (vl c fun i => Value.slice (some ⟨h i, 0, none⟩) n n)[i]? := by rw [htake]
      rw [List.getElem?_take, if_pos (by omega), vl_get _ _ i hi, Array.getElem?_toList] at h3
      show (cur[i]?).getD undef = _
      rw [h3]; rfl
    · have := (H.row i hi).apart H.own
      rw [hv, e] at this
      exact this rfl
theorem NSt.nil {base n : Nat} {NR : Nat → Nat → Nat} {v : Value} {h : Nat → Nat} {w : World} (H : NSt base n 0 NR v h w) (hv : ∀ k, v.ownBlock = some k → False) : v = .slice none 0 0 := by
  rcases H.own.2 with ⟨h1, h2⟩ | ⟨g, cap, cur, hv', hb, _⟩
  · exact h1
  · exact absurd (by rw [hv']; rfl) (hv g)

end Go.Proofs.Ytogobpamlalbiaa

/- The program's matrices: what makes all rows 0 (Null); matrices as they are told. -/
namespace Go.Proofs.Ytogobpamlalbiaa
open Go.RowKit

/-- The slice v reads as k rows R of n elements. -/
def RL (v : Value) (k n : Nat) (R : Nat → Nat → Nat) (w : World) : Prop := ∃ ao ca, v = .slice ao k ca ∧ ∀ i, i < k → ∃ b off x cx, ao = some ⟨b, off, none⟩ ∧ w.cell? ⟨b, off + i, none⟩ = some (.slice x n cx) ∧ Sl x n (R i) w
theorem RL.below {v : Value} {k n : Nat} {R : Nat → Nat → Nat} {w w' : World} (h : RL v k n R w) (hb : Below w.heap.size w w') : RL v k n R w' := by
  obtain ⟨ao, ca, e, h⟩ := h
  refine ⟨ao, ca, e, fun i hi => ?_⟩
  obtain ⟨b, off, x, cx, e1, hc, hs⟩ := h i hi
  exact ⟨b, off, x, cx, e1, ((bcell hb).1 b (off + i) (cell_lt hc)).trans hc, slz_below hs hb⟩
theorem RL.congr {v : Value} {k n : Nat} {R R' : Nat → Nat → Nat} {w : World} (h : RL v k n R w) (e : ∀ i, i < k → R i = R' i) : RL v k n R' w := by
  obtain ⟨ao, ca, e1, h⟩ := h
  exact ⟨ao, ca, e1, fun i hi => by rw [← e i hi]; exact h i hi⟩
theorem Mx.rl {B G m k j n : Nat} {R : Nat → Nat → Nat} {h : Nat → Nat} {w : World} (H : Mx B G m k n R h w) (hj : j ≤ k) (mc : Nat) : RL (.slice (some ⟨G, 0, none⟩) j mc) j n R w :=
  ⟨_, _, rfl, fun i hi => ⟨G, 0, _, n, rfl, by rw [Nat.zero_add]; exact H.cell i (by omega), (H.row i (by omega)).sl (Nat.le_refl _)⟩⟩
theorem LLs.rl {base : Nat} {v : Value} {k n : Nat} {R : Nat → Nat → Nat} {w : World} (h : LLs base v (rl k n R) w) : RL v k (n + 1) R w := by
  obtain ⟨ro, rc, vs, rfl, hw⟩ := h.rws
  refine ⟨ro, rc, rfl, fun i hi => ?_⟩
  obtain ⟨g, e, hc, _⟩ := hw.cell i hi
  obtain ⟨x, cx, e2, hs, _⟩ := (hw.row i hi).rwv
  exact ⟨g, 0, x, cx, e, by rw [Nat.zero_add, ← e2]; exact hc, hs⟩
/-- The same, with all that a matrix that is handed on has. -/
def RLz (v : Value) (k n : Nat) (R : Nat → Nat → Nat) (w : World) : Prop := ∃ ao ca A C, v = .slice ao k ca ∧ MatZ ao k A (fun _ => n) C (fun i j => ((R i j : Nat) : Int)) w
theorem RLz.rl {v : Value} {k n : Nat} {R : Nat → Nat → Nat} {w : World} (h : RLz v k n R w) : RL v k n R w := by
  obtain ⟨ao, ca, A, C, e, h⟩ := h
  refine ⟨ao, ca, e, fun i hi => ?_⟩
  obtain ⟨b, off, e1, hc⟩ := h.cell i hi
  exact ⟨b, off, A i, C i, e1, hc, h.sl i hi⟩
theorem RLz.nil (n : Nat) (R : Nat → Nat → Nat) (w : World) : RLz (.slice none 0 0) 0 n R w := ⟨none, 0, fun _ => none, fun _ => 0, rfl, ⟨fun i hi => by omega, fun i hi => by omega, fun i hi => by omega, fun i hi => by omega, fun i hi => by omega, fun i hi => by omega⟩⟩
/-- The slice v has k rows R of n elements, in blocks of their own behind block number B, of numbers; or there is none. -/
def MV (B : Nat) (v : Value) (k n : Nat) (R : Nat → Nat → Nat) (w : World) : Prop := (k = 0 ∧ ∃ ao ca, v = .slice ao 0 ca) ∨ ∃ G mc m h, v = .slice (some ⟨G, 0, none⟩) k mc ∧ Mx B G m k n R h w
theorem MV.rl {B : Nat} {v : Value} {k n : Nat} {R : Nat → Nat → Nat} {w : World} (h : MV B v k n R w) : RL v k n R w := by
  rcases h with ⟨e, ao, ca, ev⟩ | ⟨G, mc, m, hh, ev, hm⟩
  · rw [e, ev]
    exact ⟨ao, ca, rfl, fun i hi => by omega⟩
  · rw [ev]; exact hm.rl (Nat.le_refl _) mc
theorem MV.below {B : Nat} {v : Value} {k n : Nat} {R : Nat → Nat → Nat} {w w' : World} (h : MV B v k n R w) (hb : Below w.heap.size w w') : MV B v k n R w' := by
  rcases h with h | ⟨G, mc, m, hh, ev, hm⟩
  · exact Or.inl h
  · exact Or.inr ⟨G, mc, m, hh, ev, hm.below hb⟩
theorem RL.nil (n : Nat) (R : Nat → Nat → Nat) (w : World) : RL (.slice none 0 0) 0 n R w := ⟨none, 0, rfl, fun i hi => by omega⟩

theorem Mx.any {B G m n n' : Nat} {R : Nat → Nat → Nat} {h : Nat → Nat} {w : World} (H : Mx B G m 0 n R h w) : Mx B G m 0 n' R h w :=
  ⟨by obtain ⟨f, hf, _⟩ := H.outer; exact ⟨f, hf, fun i hi => by omega⟩, fun i hi => by omega, H.geG, fun i hi => by omega, fun i hi => by omega, fun i hi => by omega, H.le⟩

end Go.Proofs.Ytogobpamlalbiaa

/- Plain mathematics: linear equations (Solve): the rows with what they are to be behind them. -/
namespace Go.Proofs.Ytogobpamlalbiaa

/-- The rows M of n numbers, each with one number more. -/
def aug (n : Nat) (M : Nat → Nat → Nat) (b : Nat → Nat) : Nat → Nat → Nat := fun i j => if j = n then b i else M i j
theorem aug_el {D : FD} {n : Nat} {M : Nat → Nat → Nat} {b : Nat → Nat} {i : Nat} (h : El D (M i)) (hb : b i < D.q) : El D (aug n M b i) := fun j => by
  unfold aug
  by_cases e : j = n
  · rw [if_pos e]; exact hb
  · rw [if_neg e]; exact h j
theorem aug_bd {n : Nat} {M : Nat → Nat → Nat} {b : Nat → Nat} {i : Nat} (h : Bd n (M i)) : Bd (n + 1) (aug n M b i) := fun j hj => by
  unfold aug
  rw [if_neg (by omega)]; exact h j (by omega)
/-- The solution that a reduced form tells, by its first r rows. -/
def slx (R : Nat → Nat → Nat) (p : Nat → Nat) (n : Nat) : Nat → Nat → Nat
  | 0, _ => 0
  | r + 1, j => if j = p r then R r n else slx R p n r j
/-- The first n numbers. -/
def cutN (n : Nat) (v : Nat → Nat) : Nat → Nat := fun j => if j < n then v j else 0
end Go.Proofs.Ytogobpamlalbiaa

/- The reference's matrices: linear equations (Solve). -/
namespace Go.Proofs.Ytogobpamlalbiaa
open Go.RowKit Go.Sort

end Go.Proofs.Ytogobpamlalbiaa
