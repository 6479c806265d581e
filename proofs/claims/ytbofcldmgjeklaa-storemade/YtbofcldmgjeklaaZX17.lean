/- Texts of ours, one behind the other: X17 X18 S5 T10 X19 X20 S6 O2. -/
import Derived.Test.YtbofcldmgjeklaaZX12
import Derived.Test.YtbofcldmgjeklaaZX8
import Derived.Test.YtbofcldmgjeklaaZL10
import Derived.Test.YtbofcldmgjeklaaZT4
/- The program's matrices: is a number in a list (slices.Contains); the rows that make a reduced form 0 (madeNought). -/
namespace Go.Proofs.Ytbofcldmgjeklaa
open Go.RowKit

set_option maxHeartbeats 2000000 in
set_option maxRecDepth 100000 in
theorem indexI_any {ao : Option Addr} {n ca : Nat} {z : Nat → Int} {w : World} (x : Int) (hs : SlZ ao n z w) (hn : n ≤ 1000000) :
    Calls Try.prog 111 #[.slice ao n ca, .int .i64 x] w fun e w' => w' = w ∧ ((∃ i : Nat, i < n ∧ z i = x ∧ e = .returned (.int .i64 i)) ∨ ((∀ j, j < n → z j ≠ x) ∧ e = .returned (.int .i64 (-1)))) := by
  have HS : Hid (SlZ ao n z w) := hs
  clear hs
  go_enter Try.func111, Try.ntmps111
  go_wp2
  go_loopw [5, 8] (fun _ i wr => ∃ r : Nat, r ≤ n ∧ i = .int .i64 r ∧ Hid (∀ j, j < r → z j ≠ x) ∧ wr = w) (fun _ i _ => n - (intOf i).toNat)
  case atStart => exact ⟨0, by omega, rfl, (show Hid _ from fun j hj => by omega), rfl⟩
  case round =>
    obtain ⟨r, hr, rfl, HH, rfl⟩ := hrel
    by_cases hlt : r < n
    · obtain ⟨b, off, rfl, hcz⟩ := HS.out r hlt
      have hib : (r : Int) < (n : Int) := by omega
      obtain ⟨y, hy⟩ : ∃ y, y = z r := ⟨_, rfl⟩
      rw [← hy] at hcz
      by_cases he : x = y
      · have hb : (x == y) = true := beq_iff_eq.2 he
        have HV : Hid (z r = x) := by rw [← hy, he]; rfl
        clear he hy
        go_wp2
        go_ret
        exact ⟨rfl, Or.inl ⟨r, hlt, HV.out, rfl⟩⟩
      · have hb : (x == y) = false := beq_eq_false_iff_ne.2 he
        have HV : Hid (∀ j, j < r + 1 → z j ≠ x) := fun j hj => by
          by_cases e : j = r
          · rw [e, ← hy]; exact fun e => he e.symm
          · exact HH.out j (by omega)
        clear he hy
        go_wp2
        go_roundw
        case rel => exact ⟨r + 1, by omega, by go_num, HV.out, by first | rfl | trivial⟩
        case measure => simp [intOf]; omega
    · have HV : Hid (∀ j, j < n → z j ≠ x) := fun j hj => HH.out j (by omega)
      go_wp2
      go_ret
      exact ⟨rfl, Or.inr ⟨HV.out, rfl⟩⟩

set_option maxHeartbeats 2000000 in
set_option maxRecDepth 100000 in
theorem contains_any {ao : Option Addr} {n ca : Nat} {z : Nat → Int} {w : World} (x : Int) (hs : SlZ ao n z w) (hn : n ≤ 1000000) :
    Calls Try.prog 90 #[.slice ao n ca, .int .i64 x] w fun e w' => e = .returned (.bool (decide (x ∈ zl n z))) ∧ w' = w := by
  have HS : Hid (SlZ ao n z w) := hs
  clear hs
  go_enter Try.func90, Try.ntmps90
  go_wp2_with fail
  refine (indexI_any x HS.out hn).mono ?_
  rintro e w' ⟨hw, ⟨i, hi, hz, rfl⟩ | ⟨hz, rfl⟩⟩
  · have hw := hw.symm
    subst hw
    have hge : (0 : Int) ≤ (i : Int) := by omega
    have HV : Hid (decide (x ∈ zl n z) = true) := by
      show _ = _
      rw [decide_eq_true_eq]; exact zl_mem.2 ⟨i, hi, hz⟩
    clear hz
    go_wp2
    go_ret
    exact ⟨by rw [HV.out]; rfl, rfl⟩
  · have hw := hw.symm
    subst hw
    have HV : Hid (decide (x ∈ zl n z) = false) := by
      show _ = _
      rw [decide_eq_false_iff_not]
      intro h
      obtain ⟨j, hj, e⟩ := zl_mem.1 h
      exact hz j hj e
    clear hz
    go_wp2
    go_ret
    exact ⟨by rw [HV.out]; rfl, rfl⟩

/-- c rows of n numbers, each made by the call itself and appended to a list of its own. -/
structure NSt (base n c : Nat) (NR : Nat → Nat → Nat) (v : Value) (h : Nat → Nat) (wr : World) : Prop where
  own : OwnV base v (vl c fun i => .slice (some ⟨h i, 0, none⟩) n n) wr
  row : ∀ i, i < c → Row (h i) n (NR i) wr
  ge : ∀ i, i < c → base ≤ h i
  inj : ∀ i, i < c → ∀ j, j < c → h i = h j → i = j
theorem NSt.below {base n c : Nat} {NR : Nat → Nat → Nat} {v : Value} {h : Nat → Nat} {w w' : World} (H : NSt base n c NR v h w) (hb : Below w.heap.size w w') : NSt base n c NR v h w' :=
  ⟨H.own.below hb (Nat.le_refl _), fun i hi => (H.row i hi).below hb (H.row i hi).lt, H.ge, H.inj⟩
theorem NSt.congr {base n c : Nat} {NR NR' : Nat → Nat → Nat} {v : Value} {h : Nat → Nat} {w : World} (H : NSt base n c NR v h w) (e : ∀ i, i < c → NR i = NR' i) : NSt base n c NR' v h w :=
  ⟨H.own, fun i hi => by rw [← e i hi]; exact H.row i hi, H.ge, H.inj⟩
theorem NSt.push {base n c g : Nat} {NR : Nat → Nat → Nat} {d : Nat → Nat} {v v' : Value} {h : Nat → Nat} {w w' : World} (H : NSt base n c NR v h w) (hr : Row g n d w) (hg : base ≤ g) (hlt : ∀ i, i < c → h i < g) (ho : OwnV base v' (vl c (fun i => .slice (some ⟨h i, 0, none⟩) n n) ++ [.slice (some ⟨g, 0, none⟩) n n]) w') (hgr : w.grownBy w' v.ownBlock) :
    NSt base n (c + 1) (fun i => if i = c then d else NR i) v' (fun i => if i = c then g else h i) w' := by
  have hkeep : ∀ {b : Nat} {e : Nat → Nat}, Row b n e w → Row b n e w' := fun {b e} hb => hb.other (hgr.block b hb.lt (fun e' => hb.apart H.own e'))
  refine ⟨?_, fun i hi => ?_, fun i hi => ?_, fun i hi j hj e => ?_⟩
  · have e : vl (c + 1) (fun i => Value.slice (some ⟨if i = c then g else h i, 0, none⟩) n n) = vl c (fun i => .slice (some ⟨h i, 0, none⟩) n n) ++ [.slice (some ⟨g, 0, none⟩) n n] := by
      unfold vl
      rw [List.range_succ, List.map_append]
      congr 1
      · exact List.map_congr_left (fun j hj => by rw [if_neg (by have := List.mem_range.1 hj; omega)])
      · simp
    rw [e]; exact ho
  · by_cases e : i = c
    · simp only [if_pos e]; exact hkeep hr
    · simp only [if_neg e]; exact hkeep (H.row i (by omega))
  · by_cases e : i = c
    · simp only [if_pos e]; exact hg
    · simp only [if_neg e]; exact H.ge i (by omega)
  · by_cases e1 : i = c
    · by_cases e2 : j = c
      · omega
      · simp only [if_pos e1, if_neg e2] at e
        have := hlt j (by omega); omega
    · by_cases e2 : j = c
      · simp only [if_neg e1, if_pos e2] at e
        have := hlt i (by omega); omega
      · simp only [if_neg e1, if_neg e2] at e
        exact H.inj i (by omega) j (by omega) e
theorem NSt.mx {base n c : Nat} {NR : Nat → Nat → Nat} {v : Value} {h : Nat → Nat} {w : World} (H : NSt base n c NR v h w) (hc : 0 < c) : ∃ G mc, v = .slice (some ⟨G, 0, none⟩) c mc ∧ Mx base G mc c n NR h w := by
  rcases H.own.2 with ⟨h1, h2⟩ | ⟨g, cap, cur, hv, hb, hh, hle, hcm, hsz, htake⟩
  · rw [vl_len] at h2; omega
  · rw [vl_len] at hv hle htake
    have hsz' : cur.size = cap := by omega
    refine ⟨g, cap, hv, ⟨⟨fun o => (cur[o]?).getD undef, ⟨cur, hh, hsz', fun o ho => ?_⟩, fun i hi => ?_⟩, H.row, hb, H.ge, H.inj, fun i hi e => ?_, by omega⟩⟩
    · show cur[o]? = some ((cur[o]?).getD undef)
      rw [Array.getElem?_eq_getElem (by omega)]; rfl
    · have h3 : (cur.toList.take (c * 1))[i]? = (vl c fun i => Value.slice (some ⟨h i, 0, none⟩) n n)[i]? := by rw [htake]
      rw [List.getElem?_take, if_pos (by omega), vl_get _ _ i hi, Array.getElem?_toList] at h3
      show (cur[i]?).getD undef = _
      rw [h3]; rfl
    · have := (H.row i hi).apart H.own
      rw [hv, e] at this
      exact this rfl
theorem NSt.nil {base n : Nat} {NR : Nat → Nat → Nat} {v : Value} {h : Nat → Nat} {w : World} (H : NSt base n 0 NR v h w) (hv : ∀ k, v.ownBlock = some k → False) : v = .slice none 0 0 := by
  rcases H.own.2 with ⟨h1, h2⟩ | ⟨g, cap, cur, hv', hb, _⟩
  · exact h1
  · exact absurd (by rw [hv']; rfl) (hv g)

end Go.Proofs.Ytbofcldmgjeklaa

/- The program's matrices: what makes all rows 0 (Null); matrices as they are told. -/
namespace Go.Proofs.Ytbofcldmgjeklaa
open Go.RowKit

/-- The slice v reads as k rows R of n elements. -/
def RL (v : Value) (k n : Nat) (R : Nat → Nat → Nat) (w : World) : Prop := ∃ ao ca, v = .slice ao k ca ∧ ∀ i, i < k → ∃ b off x cx, ao = some ⟨b, off, none⟩ ∧ w.cell? ⟨b, off + i, none⟩ = some (.slice x n cx) ∧ Sl x n (R i) w
theorem RL.below {v : Value} {k n : Nat} {R : Nat → Nat → Nat} {w w' : World} (h : RL v k n R w) (hb : Below w.heap.size w w') : RL v k n R w' := by
  obtain ⟨ao, ca, e, h⟩ := h
  refine ⟨ao, ca, e, fun i hi => ?_⟩
  obtain ⟨b, off, x, cx, e1, hc, hs⟩ := h i hi
  exact ⟨b, off, x, cx, e1, ((bcell hb).1 b (off + i) (cell_lt hc)).trans hc, slz_below hs hb⟩
theorem RL.congr {v : Value} {k n : Nat} {R R' : Nat → Nat → Nat} {w : World} (h : RL v k n R w) (e : ∀ i, i < k → R i = R' i) : RL v k n R' w := by
  obtain ⟨ao, ca, e1, h⟩ := h
  exact ⟨ao, ca, e1, fun i hi => by rw [← e i hi]; exact h i hi⟩
theorem Mx.rl {B G m k j n : Nat} {R : Nat → Nat → Nat} {h : Nat → Nat} {w : World} (H : Mx B G m k n R h w) (hj : j ≤ k) (mc : Nat) : RL (.slice (some ⟨G, 0, none⟩) j mc) j n R w :=
  ⟨_, _, rfl, fun i hi => ⟨G, 0, _, n, rfl, by rw [Nat.zero_add]; exact H.cell i (by omega), (H.row i (by omega)).sl (Nat.le_refl _)⟩⟩
theorem LLs.rl {base : Nat} {v : Value} {k n : Nat} {R : Nat → Nat → Nat} {w : World} (h : LLs base v (rl k n R) w) : RL v k (n + 1) R w := by
  obtain ⟨ro, rc, vs, rfl, hw⟩ := h.rws
  refine ⟨ro, rc, rfl, fun i hi => ?_⟩
  obtain ⟨g, e, hc, _⟩ := hw.cell i hi
  obtain ⟨x, cx, e2, hs, _⟩ := (hw.row i hi).rwv
  exact ⟨g, 0, x, cx, e, by rw [Nat.zero_add, ← e2]; exact hc, hs⟩
/-- The same, with all that a matrix that is handed on has. -/
def RLz (v : Value) (k n : Nat) (R : Nat → Nat → Nat) (w : World) : Prop := ∃ ao ca A C, v = .slice ao k ca ∧ MatZ ao k A (fun _ => n) C (fun i j => ((R i j : Nat) : Int)) w
theorem RLz.rl {v : Value} {k n : Nat} {R : Nat → Nat → Nat} {w : World} (h : RLz v k n R w) : RL v k n R w := by
  obtain ⟨ao, ca, A, C, e, h⟩ := h
  refine ⟨ao, ca, e, fun i hi => ?_⟩
  obtain ⟨b, off, e1, hc⟩ := h.cell i hi
  exact ⟨b, off, A i, C i, e1, hc, h.sl i hi⟩
theorem RLz.nil (n : Nat) (R : Nat → Nat → Nat) (w : World) : RLz (.slice none 0 0) 0 n R w := ⟨none, 0, fun _ => none, fun _ => 0, rfl, ⟨fun i hi => by omega, fun i hi => by omega, fun i hi => by omega, fun i hi => by omega, fun i hi => by omega, fun i hi => by omega⟩⟩
theorem Mx.rlz {B G m k j n : Nat} {R : Nat → Nat → Nat} {h : Nat → Nat} {w : World} (H : Mx B G m k n R h w) (hj : j ≤ k) (hn : n ≤ 1000000) (mc : Nat) : RLz (.slice (some ⟨G, 0, none⟩) j mc) j n R w :=
  ⟨_, _, fun i => some ⟨h i, 0, none⟩, fun _ => n, rfl, ⟨fun i hi => ⟨G, 0, rfl, by rw [Nat.zero_add]; exact H.cell i (by omega)⟩, fun i hi => (H.row i (by omega)).sl (Nat.le_refl _), fun _ _ => Nat.le_refl _, fun _ _ => by omega, fun _ _ e => (by cases e), fun _ _ => hn⟩⟩
theorem LLs.rlz {base : Nat} {v : Value} {k n : Nat} {R : Nat → Nat → Nat} {w : World} (h : LLs base v (Go.Proofs.Ytbofcldmgjeklaa.rl k n R) w) (hn : n + 1 ≤ 1000000) : RLz v k (n + 1) R w := by
  obtain ⟨ro, rc, vs, rfl, hw⟩ := h.rws
  have key : ∀ i, i < k → ∃ x cx, vs i = .slice x (n + 1) cx ∧ Sl x (n + 1) (R i) w ∧ LtB x w.heap.size ∧ (x = none → cx = 0) ∧ n + 1 ≤ cx ∧ cx ≤ 9223372036854775807 := fun i hi => (hw.row i hi).rwv
  refine ⟨ro, rc, fun i => match vs i with | .slice a _ _ => a | _ => none, fun i => match vs i with | .slice _ _ c => c | _ => 0, rfl, ⟨fun i hi => ?_, fun i hi => ?_, fun i hi => ?_, fun i hi => ?_, fun i hi => ?_, fun _ _ => hn⟩⟩
  · obtain ⟨g, e, hc, _⟩ := hw.cell i hi
    obtain ⟨x, cx, e2, _⟩ := key i hi
    exact ⟨g, 0, e, by rw [Nat.zero_add, hc, e2]⟩
  · obtain ⟨x, cx, e2, hs, _⟩ := key i hi
    simp only [e2]; exact hs
  · obtain ⟨x, cx, e2, _, _, _, h1, _⟩ := key i hi
    simp only [e2]; exact h1
  · obtain ⟨x, cx, e2, _, _, _, _, h1⟩ := key i hi
    simp only [e2]; exact h1
  · obtain ⟨x, cx, e2, _, _, h1, _⟩ := key i hi
    simp only [e2]; exact h1
/-- The slice v has k rows R of n elements, in blocks of their own behind block number B, of numbers; or there is none. -/
def MV (B : Nat) (v : Value) (k n : Nat) (R : Nat → Nat → Nat) (w : World) : Prop := (k = 0 ∧ ∃ ao ca, v = .slice ao 0 ca) ∨ ∃ G mc m h, v = .slice (some ⟨G, 0, none⟩) k mc ∧ Mx B G m k n R h w
theorem MV.rlz {B : Nat} {v : Value} {k n : Nat} {R : Nat → Nat → Nat} {w : World} (h : MV B v k n R w) (hn : n ≤ 1000000) : RLz v k n R w := by
  rcases h with ⟨e, ao, ca, ev⟩ | ⟨G, mc, m, hh, ev, hm⟩
  · rw [e, ev]
    exact ⟨ao, ca, fun _ => none, fun _ => 0, rfl, ⟨fun i hi => by omega, fun i hi => by omega, fun i hi => by omega, fun i hi => by omega, fun i hi => by omega, fun i hi => by omega⟩⟩
  · rw [ev]; exact hm.rlz (Nat.le_refl _) hn mc
theorem MV.rl {B : Nat} {v : Value} {k n : Nat} {R : Nat → Nat → Nat} {w : World} (h : MV B v k n R w) : RL v k n R w := by
  rcases h with ⟨e, ao, ca, ev⟩ | ⟨G, mc, m, hh, ev, hm⟩
  · rw [e, ev]
    exact ⟨ao, ca, rfl, fun i hi => by omega⟩
  · rw [ev]; exact hm.rl (Nat.le_refl _) mc
theorem MV.below {B : Nat} {v : Value} {k n : Nat} {R : Nat → Nat → Nat} {w w' : World} (h : MV B v k n R w) (hb : Below w.heap.size w w') : MV B v k n R w' := by
  rcases h with h | ⟨G, mc, m, hh, ev, hm⟩
  · exact Or.inl h
  · exact Or.inr ⟨G, mc, m, hh, ev, hm.below hb⟩
theorem RL.nil (n : Nat) (R : Nat → Nat → Nat) (w : World) : RL (.slice none 0 0) 0 n R w := ⟨none, 0, rfl, fun i hi => by omega⟩

theorem Mx.any {B G m n n' : Nat} {R : Nat → Nat → Nat} {h : Nat → Nat} {w : World} (H : Mx B G m 0 n R h w) : Mx B G m 0 n' R h w :=
  ⟨by obtain ⟨f, hf, _⟩ := H.outer; exact ⟨f, hf, fun i hi => by omega⟩, fun i hi => by omega, H.geG, fun i hi => by omega, fun i hi => by omega, fun i hi => by omega, H.le⟩

end Go.Proofs.Ytbofcldmgjeklaa

/- Plain mathematics: linear equations (Solve): the rows with what they are to be behind them. -/
namespace Go.Proofs.Ytbofcldmgjeklaa

/-- The rows M of n numbers, each with one number more. -/
def aug (n : Nat) (M : Nat → Nat → Nat) (b : Nat → Nat) : Nat → Nat → Nat := fun i j => if j = n then b i else M i j
theorem aug_el {D : FD} {n : Nat} {M : Nat → Nat → Nat} {b : Nat → Nat} {i : Nat} (h : El D (M i)) (hb : b i < D.q) : El D (aug n M b i) := fun j => by
  unfold aug
  by_cases e : j = n
  · rw [if_pos e]; exact hb
  · rw [if_neg e]; exact h j
theorem aug_bd {n : Nat} {M : Nat → Nat → Nat} {b : Nat → Nat} {i : Nat} (h : Bd n (M i)) : Bd (n + 1) (aug n M b i) := fun j hj => by
  unfold aug
  rw [if_neg (by omega)]; exact h j (by omega)
/-- The solution that a reduced form tells, by its first r rows. -/
def slx (R : Nat → Nat → Nat) (p : Nat → Nat) (n : Nat) : Nat → Nat → Nat
  | 0, _ => 0
  | r + 1, j => if j = p r then R r n else slx R p n r j
end Go.Proofs.Ytbofcldmgjeklaa

/- The reference's matrices: linear equations (Solve). -/
namespace Go.Proofs.Ytbofcldmgjeklaa
open Go.RowKit Go.Sort

theorem zl_aug {n : Nat} {M : Nat → Nat → Nat} {b : Nat → Nat} (i : Nat) : zl n (fun j => ((M i j : Nat) : Int)) ++ zl 1 (fun _ => ((b i : Nat) : Int)) = zl (n + 1) (fun j => ((aug n M b i j : Nat) : Int)) := by
  rw [zl_succ n (fun j => ((aug n M b i j : Nat) : Int))]
  congr 1
  · exact zl_congr (fun j hj => by unfold aug; rw [if_neg (by omega)])
  · show [((b i : Nat) : Int)] = [((aug n M b i n : Nat) : Int)]
    unfold aug
    rw [if_pos rfl]
theorem OwnI.elm {base : Nat} {v : Value} {n : Nat} {c : Nat → Nat} {w : World} (h : OwnI base v (zl (n + 1) fun j => ((c j : Nat) : Int)) w) : Elm v (n, c) w := by
  have h1 := h.ownC c (fun k hk => by rw [zl_len] at hk; rw [zl_getD _ _ k hk])
  rw [zl_len] at h1
  exact h1.elm

set_option maxHeartbeats 8000000 in
set_option maxRecDepth 100000 in
theorem rsolve_row {D : FD} (hD : D ∈ fieldsL) (gen gm cm : Nat) {ao bo : Option Addr} {m n L ca cb : Nat} {M : Nat → Nat → Nat} {b : Nat → Nat} {w : World} (hL : L = n + 1) (hm0 : 0 < m) (hm : m ≤ 1000) (hn : n ≤ 900) (hel : ∀ i, i < m → El D (M i) ∧ Bd (n + 1) (M i)) (hA : MatR ao m n M w) (hb : Sl bo m b w) (hbq : ∀ i, i < m → b i < D.q) (hM : ModAt D (.slice (some ⟨gm, 0, none⟩) (D.m + 1) cm) D.md w) :
    Calls Try.prog 55 #[.agg #[.int .i64 D.q, .int .i64 D.p, .int .i64 D.m, .int .i64 gen, .slice (some ⟨gm, 0, none⟩) (D.m + 1) cm], .slice ao m ca, .slice bo m cb] w fun e w' => Below w.heap.size w w' ∧ ∃ k R p, k ≤ m ∧ RRE D (L + 1) k R p ∧ (∀ v, Spn D (RowsOf k R) v ↔ Spn D (RowsOf m (aug L M b)) v) ∧
      (((∃ i, i < k ∧ p i = L) ∧ e = .returned (.tuple #[.slice none 0 0, .bool false])) ∨ ((∀ i, i < k → p i ≠ L) ∧ ∃ g, e = .returned (.tuple #[.slice (some ⟨g, 0, none⟩) L L, .bool true]) ∧ w.heap.size ≤ g ∧ Row g L (slx R p L k) w')) := by
  have hbl : Below w.heap.size w (w.alloc (.cells #[.int .i64 D.q, .int .i64 D.p, .int .i64 D.m, .int .i64 gen, .slice (some ⟨gm, 0, none⟩) (D.m + 1) cm] 31)) := (Below.refl _ _).alloc (Nat.le_refl _) _
  have HF : Hid (D ∈ fieldsL ∧ (∀ i, i < m → El D (M i) ∧ Bd (n + 1) (M i)) ∧ MatR ao m n M w ∧ Sl bo m b w ∧ (∀ i, i < m → b i < D.q) ∧ ModAt D (.slice (some ⟨gm, 0, none⟩) (D.m + 1) cm) D.md w) := ⟨hD, hel, hA, hb, hbq, hM⟩
  have HB0 : Hid (Box w.heap.size D gen (.slice (some ⟨gm, 0, none⟩) (D.m + 1) cm) (w.alloc (.cells #[.int .i64 D.q, .int .i64 D.p, .int .i64 D.m, .int .i64 gen, .slice (some ⟨gm, 0, none⟩) (D.m + 1) cm] 31)) ∧ Below w.heap.size w (w.alloc (.cells #[.int .i64 D.q, .int .i64 D.p, .int .i64 D.m, .int .i64 gen, .slice (some ⟨gm, 0, none⟩) (D.m + 1) cm] 31))) := ⟨box_new D gen _ w, hbl⟩
  obtain ⟨bA, oA, u0, eA, hc0, hr0⟩ := (hA.below hbl) 0 hm0
  subst eA
  obtain ⟨x0, cx0, rfl, _⟩ := hr0
  rw [show oA + 0 = oA from rfl, ← hL] at hc0
  have HN : Hid (L = n + 1) := hL
  have hL9 : L ≤ 901 := by omega
  have hm0' : (0 : Int) < (m : Int) := by omega
  clear hD hel hA hM hbl hL hb hbq
  go_enter Try.func55, Try.ntmps55
  go_wp2_with fail
  obtain ⟨w0, hw0⟩ : ∃ w0, w0 = (w.alloc (.cells #[.int .i64 D.q, .int .i64 D.p, .int .i64 D.m, .int .i64 gen, .slice (some ⟨gm, 0, none⟩) (D.m + 1) cm] 31)) := ⟨_, rfl⟩
  have hs0 : w0.heap.size = w.heap.size + 1 := by rw [hw0]; simp
  rw [← hw0] at HB0 hc0 ⊢
  clear hw0 hc0
  go_loopw [9, 10] (fun vl vi wr => ∃ i : Nat, i ≤ m ∧ vi = .int .i64 i ∧ Hid (LLs w0.heap.size vl (rl i L (aug L M b)) wr ∧ Below w0.heap.size w0 wr)) (fun _ vi _ => m - (intOf vi).toNat)
  case atStart => exact ⟨0, by omega, rfl, ⟨LLs.nil _ _, Below.refl _ _⟩⟩
  case round =>
    obtain ⟨i, hi, rfl, HG⟩ := hrel
    rename World => wA
    by_cases hlt : i < m
    · have hib : (i : Int) < (m : Int) := by omega
      have hib0 : (0 : Int) ≤ (i : Int) := by omega
      have hbA := bel_up' HB0.out.2 HG.out.2
      obtain ⟨bA', oA', uA, eA', hcA, hrA⟩ := (HF.out.2.2.1.below hbA) i hlt
      cases eA'
      obtain ⟨xA, cxA, rfl, hsA, hlA, hnA, hleA, hcapA⟩ := hrA
      rw [← HN.out] at hcA hsA
      have hbs := slz_below HF.out.2.2.2.1 hbA
      obtain ⟨bb, ob, rfl, hcb⟩ := hbs i hlt
      obtain ⟨y, hy⟩ : ∃ y, y = b i := ⟨_, rfl⟩
      replace hcb : wA.cell? ⟨bb, ob + i, none⟩ = some (.int .i64 ((b i : Nat) : Int)) := hcb
      rw [← hy] at hcb
      have HCp : Hid (∀ w1, Below wA.heap.size wA w1 → Calls Try.prog 88 #[.slice xA L cxA] w1 fun e w' => ∃ v, e = .returned v ∧ OwnI w1.heap.size v (zl L fun j => ((M i j : Nat) : Int)) w' ∧ Below w1.heap.size w1 w') := fun w1 h1 =>
        copyI_any (hsA.below h1 hlA) (by omega) hnA (hlA.mono h1.size)
      obtain ⟨lst, hov, hels⟩ := HG.out.1
      have HV : Hid (OwnV w0.heap.size u9 lst wA ∧ Elms lst (rl i L (aug L M b)) wA ∧ lst.length ≤ 1000) := ⟨hov, hels, by rw [hels.1, rl_len]; omega⟩
      have HY : Hid (y = b i) := hy
      clear hov hels hsA hlA hnA hleA hcapA hbs hy
      have hbc : Below wA.heap.size wA wA := Below.refl _ _
      have HK : Hid ((∀ wx, Below w0.heap.size w0 wx → wx.cell? ⟨bA, oA + i, none⟩ = some (.slice xA L cxA)) ∧ ∀ wx, Below w0.heap.size w0 wx → wx.cell? ⟨bb, ob + i, none⟩ = some (.int .i64 (y : Nat))) := by
        have hlA : bA < w.heap.size := by
          obtain ⟨b1, o1, u1, e1, hc1, _⟩ := HF.out.2.2.1 i hlt
          cases e1
          exact cell_lt hc1
        have hlB : bb < w.heap.size := by
          obtain ⟨b1, o1, e1, hc1⟩ := HF.out.2.2.2.1 i hlt
          cases e1
          exact cell_lt hc1
        refine ⟨fun wx hx => ?_, fun wx hx => ?_⟩
        · exact ((bcell hx).1 bA (oA + i) (by omega)).trans (((bcell HG.out.2).1 bA (oA + i) (by omega)).symm.trans hcA)
        · exact ((bcell hx).1 bb (ob + i) (by omega)).trans (((bcell HG.out.2).1 bb (ob + i) (by omega)).symm.trans hcb)
      have hz : Below w0.heap.size w0 wA := HG.out.2
      go_wp2
      refine wp_region_noPanic ?_
      go_region_held3 (fun w' => w'.cell? ⟨bA, oA + i, none⟩ = some (.slice xA L cxA) ∧ w'.cell? ⟨bb, ob + i, none⟩ = some (.int .i64 (y : Nat)))
        (first | go_keep | exact ⟨HK.out.1 _ (by first | exact hz | exact hz.drew | exact hz.alloc hz.size _ | exact hz.drew.alloc hz.size _), HK.out.2 _ (by first | exact hz | exact hz.drew | exact hz.alloc hz.size _ | exact hz.drew.alloc hz.size _)⟩)
        (first
          | (go_at_call 88; refine (HCp.out _ (by first | exact hbc | exact hbc.drew | exact hbc.alloc (Nat.le_refl _) _ | exact hbc.drew.alloc (Nat.le_refl _) _)).mono ?_; rintro e w2 ⟨v2, rfl, ho2, hb2⟩; replace hbc : Below wA.heap.size wA w2 := bel_up' (by first | exact hbc | exact hbc.drew | exact hbc.alloc (Nat.le_refl _) _ | exact hbc.drew.alloc (Nat.le_refl _) _) hb2; replace hz : Below w0.heap.size w0 w2 := HG.out.2.trans (hbc.mono HG.out.2.size))
          | (show (if Region.wanted (Oper.mk (some 36) _ _ _ _ _) _ = true then _ else _); refine step_append_ints (by rfl) _ _ (by rfl) _ v2 _ (by rfl) (by first | exact ho2 | exact ho2.alloc _) _ _ _ (fun _ => ((y : Nat) : Int)) (by rfl) (SlZ.one (by first | (simp; done) | exact ((bcell hb2).1 _ _ (by show _ < (wA.alloc _).heap.size; simp)).trans (by show (wA.alloc _).cell? _ = _; simp))) (fun e => by cases e) (by rw [zl_len]; omega) (by have := hbc.size; first | exact hb2.size | exact Nat.le_trans hb2.size (by simp) | omega | (simp; omega)) wA (by first | exact hbc | exact hbc.alloc hbc.size _) (by first | exact Nat.le_refl _ | (show wA.heap.size ≤ (wA.alloc _).heap.size; simp; done) | (simp; done)) ?_; intro v3 w3 ho3 hg3 hB3; rw [HY.out, zl_aug] at ho3; replace hbc : Below wA.heap.size wA w3 := hB3; replace hz : Below w0.heap.size w0 w3 := HG.out.2.trans (hB3.mono HG.out.2.size); obtain ⟨g3, c3, rfl, he31, he32, he33⟩ := ho3.elm)
          | (show (if Region.wanted (Oper.mk (some 38) _ _ _ _ _) _ = true then _ else _); refine step_append_sls (by rfl) _ _ (by rfl) w0.heap.size u9 lst (by rfl) (HV.out.1.below (hB3.alloc hB3.size _) (Nat.le_refl _)) _ _ _ (fun _ => .slice (some ⟨g3, 0, none⟩) (L + 1) c3) (by rfl) (SlV.one (by simp)) (fun _ _ => rfl) (fun e => by cases e) (by have := HV.out.2.2; omega) (by have h1 := hB3.size; have h2 := HG.out.2.size; simp; omega) w0 (HG.out.2.trans ((hB3.alloc hB3.size _).mono HG.out.2.size)) (Nat.le_refl _) ?_; intro v4 w4 ho4 hg4 hB4; replace hz := hB4)
          | fail)
      all_goals
        have hal : Below w3.heap.size w3 (w3.alloc (.cells #[.slice (some ⟨g3, 0, none⟩) (L + 1) c3] 22)) := (Below.refl _ _).alloc (Nat.le_refl _) _
        have hb3 := bel_up' hB3 hal
        have hoV := HV.out.1.below hb3 (Nat.le_refl _)
        have HR : Hid (LLs w0.heap.size v4 (rl (i + 1) L (aug L M b)) w4 ∧ Below w0.heap.size w0 w4) := by
          refine ⟨⟨_, ho4, ?_⟩, hB4⟩
          have h := ((HV.out.2.1.below hb3 (Nat.le_refl _)).snoc (ho3.elm.below hal (Nat.le_refl _))).grown hoV hg4
          rw [rl_succ]; exact h
        clear ho2 hb2 hbc ho3 hg3 hB3 ho4 hg4 hB4 hz hal hb3 hoV he31 he32 he33
        refine NoPanic.normal ?_
        go_wp2
        go_roundw
        case rel => exact ⟨i + 1, by omega, by go_num, HR.out⟩
        case measure => simp [intOf]; omega
    · have hib : ¬ (i : Int) < (m : Int) := by omega
      have hie : i = m := by omega
      subst hie
      have hbx := HB0.out.1.below HG.out.2 (by omega)
      have k0 := hbx.c0
      have k1 := hbx.c1
      have k2 := hbx.c2
      have k3 := hbx.c3
      have k4 := hbx.c4
      clear hbx
      obtain ⟨lo, lc, ls, rfl, hlw⟩ := HG.out.1.rws
      have HL : Hid (MatR lo i L (aug L M b) wA) := hlw.matR
      clear hlw
      have HAe : Hid (∀ j, j < i → El D (aug L M b j) ∧ Bd (L + 1) (aug L M b j)) := fun j hj => ⟨aug_el (HF.out.2.1 j hj).1 (HF.out.2.2.2.2.1 j hj), aug_bd (by rw [HN.out]; exact (HF.out.2.1 j hj).2)⟩
      go_wp2_with fail
      refine (rreduce_any HF.out.1 gen gm cm (by omega) (by omega) HAe.out HL.out (HF.out.2.2.2.2.2.below (bel_up' HB0.out.2 HG.out.2))).mono ?_
      rintro e w7 ⟨vr, vp, k, R, p, rfl, hk, hvr, hvp, hR, hS, _, hb7⟩
      obtain ⟨ro, rc, vs, rfl, hrw⟩ := hvr.rws
      obtain ⟨po, pc, rfl, hpl⟩ := hvp.argL
      have H7 : Hid (MatR ro k L R w7 ∧ ArgL po k pc (fun j => ((p j : Nat) : Int)) w7 ∧ RRE D (L + 1) k R p ∧ (∀ v, Spn D (RowsOf k R) v ↔ Spn D (RowsOf i (aug L M b)) v) ∧ Below w.heap.size w w7) := ⟨hrw.matR, hpl, hR, hS, bel_up' (bel_up' HB0.out.2 HG.out.2) hb7⟩
      clear hvr hvp hR hS hb7 hrw hpl k0 k1 k2 k3 k4
      go_wp2_with (at_make; refine make_int rfl _ _ rfl _ L rfl rfl rfl (by omega) ?_; intro w8 hown8 hgrow8)
      have H8 : Hid (Row w7.heap.size L pnil w8 ∧ Below w7.heap.size w7 w8) := ⟨row_zeros hown8, below_grown hgrow8 (Nat.le_refl _) (fun k hk => by simp at hk)⟩
      clear hown8 hgrow8
      obtain ⟨g, hg⟩ : ∃ g, g = w7.heap.size := ⟨_, rfl⟩
      have H8' : Hid (Row g L pnil w8 ∧ Below w7.heap.size w7 w8) := by rw [hg]; exact H8.out
      rw [← hg]
      have hgD : w7.heap.size ≤ g := by omega
      clear H8 hg
      go_loopw [14] (fun vj wi => ∃ j : Nat, j ≤ k ∧ vj = .int .i64 j ∧ Hid (Row g L (slx R p L j) wi ∧ Below w7.heap.size w7 wi ∧ ∀ q, q < j → p q ≠ L)) (fun vj _ => k - (intOf vj).toNat)
      case atStart => exact ⟨0, by omega, rfl, H8'.out.1.congr (fun _ _ => rfl), H8'.out.2, fun q hq => by omega⟩
      case round =>
        clear H8'
        obtain ⟨j, hj, rfl, HK⟩ := hrel
        rename World => wB
        by_cases hjk : j < k
        · have hjb : (j : Int) < (k : Int) := by omega
          have hjb0 : (0 : Int) ≤ (j : Int) := by omega
          obtain ⟨bp, op, rfl, hcp⟩ := (H7.out.2.1.sl.below HK.out.2.1 H7.out.2.1.lt) j hjk
          replace hcp : wB.cell? ⟨bp, op + j, none⟩ = some (.int .i64 ((p j : Nat) : Int)) := hcp
          obtain ⟨y, hy⟩ : ∃ y, y = p j := ⟨_, rfl⟩
          rw [← hy] at hcp
          by_cases hyL : y = L
          · have hz : ((y : Int) == (L : Int)) = true := by rw [hyL]; simp
            have HE : Hid (∃ i, i < k ∧ p i = L) := ⟨j, hjk, by rw [← hy, hyL]⟩
            clear hy hyL
            go_wp2
            go_ret2
            first
              | exact ⟨bel_up' H7.out.2.2.2.2 HK.out.2.1, k, R, p, hk, H7.out.2.2.1, H7.out.2.2.2.1, Or.inl ⟨HE.out, rfl⟩⟩
              | exact ⟨bel_up' H7.out.2.2.2.2 HK.out.2.1, k, hk, R, p, H7.out.2.2.1, H7.out.2.2.2.1, Or.inl ⟨HE.out, rfl⟩⟩
          · have hz : ((y : Int) == (L : Int)) = false := by rw [beq_eq_false_iff_ne]; omega
            have hyL2 : y < L := by have := H7.out.2.2.1.lt j hjk; omega
            have hyb : (y : Int) < (L : Int) := by omega
            obtain ⟨bA', oA', uA, rfl, hcA, hrA⟩ := (H7.out.1.below HK.out.2.1) j hjk
            obtain ⟨xA, cxA, rfl, hsA, hlA, _⟩ := hrA
            obtain ⟨bx, ox, rfl, hcx⟩ := hsA L (by omega)
            obtain ⟨x, hx⟩ : ∃ x, x = R j L := ⟨_, rfl⟩
            rw [← hx] at hcx
            have hLb : (L : Int) < (L : Int) + 1 := by omega
            have hcy := HK.out.1.cell y hyL2
            have hfy := HK.out.1.free y
            have HV : Hid (∀ c, c < L → slx R p L (j + 1) c = if c = y then x else slx R p L j c) := fun c _ => by rw [hx, hy]; rfl
            have HP : Hid (∀ q, q < j + 1 → p q ≠ L) := fun q hq => by
              by_cases e : q = j
              · rw [e, ← hy]; exact hyL
              · exact HK.out.2.2 q (by omega)
            clear hy hx hyL hsA hlA
            go_wp2
            refine quiet_tail 13 (by kernel_rfl) (by kernel_rfl) ?_
            simp only [List.take_succ_cons, List.take_zero, List.drop_succ_cons, List.drop_zero]
            repeat (go_big_quiet_step (fail))
            refine wpQuiet_nil ?_
            intro _ hw'
            obtain ⟨nq, hw''⟩ := hw'
            subst hw''
            go_wp2
            go_roundw
            case rel => exact ⟨j + 1, by omega, by go_num, (HK.out.1.drewN nq).store y x HV.out, (bel_up' HK.out.2.1 ⟨rfl, rfl, rfl, Nat.le_refl _, fun _ _ => rfl⟩ : Below w7.heap.size w7 (wB.drewN nq)).setCell hgD _, HP.out⟩
            case measure => simp [intOf]; omega
        · have hjb : ¬ (j : Int) < (k : Int) := by omega
          have hje : j = k := by omega
          subst hje
          have HE : Hid (w.heap.size ≤ g ∧ Row g L (slx R p L j) wB) := ⟨by have := H7.out.2.2.2.2.size; omega, HK.out.1⟩
          go_wp2
          go_ret2
          exact ⟨bel_up' H7.out.2.2.2.2 HK.out.2.1, j, hk, R, p, H7.out.2.2.1, H7.out.2.2.2.1, Or.inr ⟨HK.out.2.2, _, rfl, HE.out⟩⟩
end Go.Proofs.Ytbofcldmgjeklaa

/- The program's matrices: linear equations (Solve). -/
namespace Go.Proofs.Ytbofcldmgjeklaa
open Go.RowKit

end Go.Proofs.Ytbofcldmgjeklaa

/- The program's matrices: inverses (rightOf, Inverse). -/
namespace Go.Proofs.Ytbofcldmgjeklaa
open Go.RowKit

/-- m rows of m numbers: the right half of the rows R. -/
def InvR (G2 m : Nat) (h : Nat → Nat) (R : Nat → Nat → Nat) (w : World) : Prop := ∀ i, i < m → w.cell? ⟨G2, i, none⟩ = some (.slice (some ⟨h i, m, none⟩) m m) ∧ Sl (some ⟨h i, m, none⟩) m (fun c => R i (m + c)) w

end Go.Proofs.Ytbofcldmgjeklaa

/- Plain mathematics: there is a reduced form. -/
namespace Go.Proofs.Ytbofcldmgjeklaa

end Go.Proofs.Ytbofcldmgjeklaa

/- A list of lists of numbers that a statement is given, opened. -/
namespace Go.Proofs.Ytbofcldmgjeklaa
open Go.ChangeShapes Go.WideShapes Go.ChangeAt Go.RowKit

/-- A matrix that is handed in: m lists of whatever length. -/
structure MatO (ao : Option Addr) (m : Nat) (A : Nat → Option Addr) (N C : Nat → Nat) (Z : Nat → Nat → Int) (w : World) : Prop where
  cell : ∀ i, i < m → ∃ b off, ao = some ⟨b, off, none⟩ ∧ w.cell? ⟨b, off + i, none⟩ = some (.slice (A i) (N i) (C i))
  sl : ∀ i, i < m → SlZ (A i) (N i) (Z i) w
  le : ∀ i, i < m → N i ≤ C i
  cap : ∀ i, i < m → C i ≤ 9223372036854775807
  nil : ∀ i, i < m → A i = none → C i = 0
theorem MatO.matZ {ao : Option Addr} {m : Nat} {A : Nat → Option Addr} {N C : Nat → Nat} {Z : Nat → Nat → Int} {w : World} (h : MatO ao m A N C Z w) (hf : ∀ i, i < m → N i ≤ 1000000) : MatZ ao m A N C Z w := ⟨h.cell, h.sl, h.le, h.cap, h.nil, hf⟩

end Go.Proofs.Ytbofcldmgjeklaa
