/- Texts of ours, one behind the other: U18 U19. -/
import Derived.Test.YtillljojdnofgaaZV7
import Derived.Test.YtillljojdnofgaaZU15
import Derived.Test.YtillljojdnofgaaZN6
/- The program's polynomials through given places (through). -/
namespace Go.Proofs.Ytillljojdnofgaa
open Go.RowKit

theorem sl_new (o : List Nat) (c : Nat → Nat) (w : World) (h : ∀ j, j < o.length → o[j]? = some (c j)) : Sl (some ⟨w.heap.size, 0, none⟩) o.length c (w.alloc (.cells (o.map fun x => Value.int .i64 (x : Nat)).toArray 3)) := fun j hj => ⟨w.heap.size, 0, rfl, by
  rw [cell_of_row _ _ _ _ _ (0, 0) (two_new _), Nat.zero_add, List.getElem?_toArray, List.getElem?_map, h j hj]; rfl⟩
theorem pa_one {D : FD} (F : Fld D) (w : World) : PA D (some ⟨w.heap.size, 0, none⟩) 1 1 pone (w.alloc (.cells #[.int .i64 1] 3)) := by
  have h := sl_new [1] pone w (fun j hj => by
    rcases j with _ | j
    · rfl
    · simp at hj)
  refine ⟨h, fun x hx => by cases hx; simp, fun e => (by cases e), el_one F, fun k hk => by unfold pone; rw [if_neg (by omega)], fun _ => by unfold pone; simp⟩

end Go.Proofs.Ytillljojdnofgaa

/- The next polynomial that ends with 1 (after). -/
namespace Go.Proofs.Ytillljojdnofgaa
open Go.RowKit

/-- Polynomial c of degree d, while it is counted up: all places from s on were nines. -/
def cnt (c : Nat → Nat) (d s : Nat) : Nat → Nat := fun k => if s ≤ k ∧ k < d then 0 else c k
/-- The place s is counted up. -/
def cup (c : Nat → Nat) (d s : Nat) : Nat → Nat := fun k => if k = s then c s + 1 else cnt c d (s + 1) k
theorem cnt_all (c : Nat → Nat) (d : Nat) : cnt c d d = c := by funext k; unfold cnt; rw [if_neg (by omega)]
theorem cnt_at (c : Nat → Nat) (d s : Nat) : cnt c d (s + 1) s = c s := by unfold cnt; rw [if_neg (by omega)]
theorem cnt_step (c : Nat → Nat) {d s : Nat} (hs : s < d) (k : Nat) : cnt c d s k = if k = s then 0 else cup c d s k := by
  unfold cup cnt
  by_cases e : k = s
  · rw [if_pos e, if_pos (by omega)]
  · rw [if_neg e, if_neg e]
    by_cases h : s ≤ k ∧ k < d
    · rw [if_pos h, if_pos (by omega)]
    · rw [if_neg h, if_neg (by omega)]
theorem cup_aft {D : FD} (F : Fld D) {c : Nat → Nat} {d s : Nat} (hc : Mn D d c) (hs : s < d) (hl : c s + 1 < D.q) (h9 : ∀ k, s + 1 ≤ k → k < d → c k = D.q - 1) : Mn D d (cup c d s) ∧ Aft D d c d (cup c d s) := by
  have h2 := F.q2
  refine ⟨⟨fun k => ?_, fun k hk => ?_, ?_⟩, Or.inl ⟨rfl, ?_⟩⟩
  · unfold cup cnt
    split
    · exact hl
    · split
      · exact zero_lt' F
      · exact hc.el k
  · unfold cup cnt
    rw [if_neg (by omega), if_neg (by omega)]
    exact hc.bd k hk
  · unfold cup cnt
    rw [if_neg (by omega), if_neg (by omega)]
    exact hc.top
  · have h := dnum_up (q := D.q) (c := c) (e := cup c d s) (i := s) (by omega) (fun j hj => by unfold cup cnt; rw [if_neg (by omega), if_neg (by omega)]) (by unfold cup; rw [if_pos rfl]) (d - (s + 1)) (fun j h1 h3 => ⟨h9 j (by omega) (by omega), by unfold cup cnt; rw [if_neg (by omega), if_pos (by omega)]⟩)
    rw [show s + 1 + (d - (s + 1)) = d from by omega] at h
    exact h
/-- The first polynomial of degree d. -/
def xpow (d : Nat) : Nat → Nat := fun k => if k = d then 1 else 0
theorem xpow_mn {D : FD} (F : Fld D) (d : Nat) : Mn D d (xpow d) :=
  ⟨fun k => by unfold xpow; split; exact one_lt' F; exact zero_lt' F, fun k hk => by unfold xpow; rw [if_neg (by omega)], by unfold xpow; rw [if_pos rfl]⟩
theorem xpow_aft {D : FD} (F : Fld D) {c : Nat → Nat} {d : Nat} (h9 : ∀ k, 0 ≤ k → k < d → c k = D.q - 1) : Aft D d c (d + 1) (xpow (d + 1)) := by
  have h2 := F.q2
  exact Or.inr ⟨rfl, dnum_nines (by omega) d (fun j hj => h9 j (by omega) hj), dnum_zero _ _ (fun j hj => by unfold xpow; rw [if_neg (by omega)])⟩

set_option maxHeartbeats 2000000 in
set_option maxRecDepth 100000 in
theorem after_any {D : FD} (hD : D ∈ fieldsL) {ao : Option Addr} {d ca : Nat} {c : Nat → Nat} {w : World} (hc : Mn D d c) (hd : d ≤ 1000) (hS : Sl ao (d + 1) c w) (hl : LtB ao w.heap.size) (hnil : ao = none → ca = 0) :
    Calls Try.prog 91 #[.int .i64 D.q, .slice ao (d + 1) ca] w fun e w' => ∃ v d' c', e = .returned v ∧ OwnP w.heap.size v (d' + 1) c' w' ∧ Mn D d' c' ∧ Aft D d c d' c' ∧ Below w.heap.size w w' := by
  have HC : Hid (D ∈ fieldsL ∧ Mn D d c ∧ Sl ao (d + 1) c w ∧ LtB ao w.heap.size ∧ (ao = none → ca = 0)) := ⟨hD, hc, hS, hl, hnil⟩
  have h64 := (fld hD).q64
  clear hD hc hS hl hnil
  go_enter Try.func91, Try.ntmps91
  go_wp2_with fail
  refine (clone_any HC.out.2.2.1 (by omega) HC.out.2.2.2.2 HC.out.2.2.2.1).mono ?_
  rintro e w1 ⟨v, rfl, hown, hb1⟩
  obtain ⟨ao1, cap, rfl, hle, hcm, hge, hlt, _, hrw⟩ := hown
  obtain ⟨g, rfl, hrow⟩ := hrw (by omega)
  have HB1 : Hid (Row g (d + 1) c w1 ∧ Below w.heap.size w w1 ∧ w.heap.size ≤ g ∧ d + 1 ≤ cap ∧ cap ≤ 9223372036854775807) := ⟨hrow, hb1, hge _ rfl, hle, hcm⟩
  clear hrow hb1 hge hlt hle hcm hrw
  go_wp2
  go_loopw [6] (fun i wr => ∃ s : Nat, s ≤ d ∧ i = .int .i64 ((s : Int) - 1) ∧ Hid (∀ k, s ≤ k → k < d → c k = D.q - 1) ∧ Row g (d + 1) (cnt c d s) wr ∧ Below w.heap.size w wr) (fun i _ => (intOf i + 1).toNat)
  case atStart => exact ⟨d, Nat.le_refl _, by go_num, fun k h1 h2 => by omega, by rw [cnt_all]; exact HB1.out.1, HB1.out.2.1⟩
  case round =>
    obtain ⟨s, hs, hi, H9, hrow, hbel⟩ := hrel
    have HG : Hid (Row g (d + 1) (cnt c d s) wr ∧ Below w.heap.size w wr) := ⟨hrow, hbel⟩
    clear hrow hbel
    cases s with
    | succ s =>
      have hi' : u6 = .int .i64 (s : Int) := by rw [hi]; go_num
      clear hi
      subst hi'
      obtain ⟨x, hx⟩ : ∃ x, x = c s := ⟨_, rfl⟩
      have hxq : x < D.q := by rw [hx]; exact HC.out.2.1.el s
      have hcl : wr.cell? ⟨g, s, none⟩ = some (.int .i64 (x : Nat)) := by rw [HG.out.1.cell s (by omega), cnt_at, hx]
      have hfr := HG.out.1.free s
      have hib : (s : Int) < (d : Int) + 1 := by omega
      have HX : Hid (x = c s) := hx
      clear hx
      have HR : Hid (Row g (d + 1) (cup c d s) (wr.setCell ⟨g, s, none⟩ (.int .i64 ((x : Int) + 1)))) := by
        have h := HG.out.1.store s (x + 1) (d := cup c d s) (fun j _ => by unfold cup; rw [HX.out])
        rw [Int.natCast_add] at h; exact h
      by_cases hlt : x + 1 < D.q
      · go_wp2
        go_ret
        have hm := cup_aft (fld HC.out.1) HC.out.2.1 (by omega) (by rw [← HX.out]; exact hlt) H9.out
        exact ⟨_, d, cup c d s, rfl, OwnP.of_row HR.out (Nat.le_refl _) HB1.out.2.2.2.1 HB1.out.2.2.2.2 HB1.out.2.2.1, hm.1, hm.2, HG.out.2.setCell HB1.out.2.2.1 _⟩
      · have HZ : Hid (∀ k, s ≤ k → k < d → c k = D.q - 1) := fun k h1 h2 => by
          by_cases e : k = s
          · rw [e, ← HX.out]; omega
          · exact H9.out k (by omega) h2
        go_wp2
        go_roundw
        case rel => exact ⟨s, by omega, by go_num, HZ.out, HR.out.store s 0 (fun j _ => cnt_step c (by omega) j), (HG.out.2.setCell HB1.out.2.2.1 _).setCell HB1.out.2.2.1 _⟩
        case measure => simp [intOf]
    | zero =>
      have hi' : u6 = .int .i64 (-1) := by rw [hi]; rfl
      clear hi
      subst hi'
      have hsz := HG.out.2.size
      go_wp2_with (at_make; refine make_int rfl _ _ rfl _ (d + 2) rfl rfl (by omega) (by omega) ?_; intro w2 hown2 hgrow2; have hr2 := row_zeros hown2; have hcl := hr2.cell (d + 1) (by omega); have hfr := hr2.free (d + 1))
      go_ret
      have hF := fld HC.out.1
      have hrx : Row wr.heap.size (d + 2) (xpow (d + 1)) (w2.setCell ⟨wr.heap.size, d + 1, none⟩ (.int .i64 ((1 : Nat) : Int))) := hr2.store (d + 1) 1 (fun j _ => by unfold xpow pnil; rfl)
      exact ⟨_, d + 1, xpow (d + 1), rfl, OwnP.of_row hrx (Nat.le_refl _) (by omega) (by omega) hsz, xpow_mn hF _, xpow_aft hF H9.out, (bel_up HG.out.2 (below_grown hgrow2 (Nat.le_refl _) (fun k hk => by simp at hk))).setCell hsz _⟩
end Go.Proofs.Ytillljojdnofgaa
