/- Texts of ours, one behind the other: X12 X13. -/
import Derived.Test.YtbpeahhhkcljeaaZS3
/- The program's matrices: the first row that is not 0 in a column. -/
namespace Go.Proofs.Ytbpeahhhkcljeaa
open Go.RowKit

set_option maxHeartbeats 2000000 in
set_option maxRecDepth 100000 in
theorem nz_any {g n col Bc cap : Nat} {c : Nat → Nat} {w : World} (hr : Row g n c w) (hb : w.cell? ⟨Bc, 0, none⟩ = some (.int .i64 col)) (hc : col < n) :
    Calls Try.prog 108 #[.slice (some ⟨g, 0, none⟩) n cap, .pointer (some ⟨Bc, 0, none⟩)] w fun e w' => e = .returned (.bool ((c col : Int) != 0)) ∧ w' = w := by
  have hco := hr.cell col hc
  have hcb : (col : Int) < (n : Int) := by omega
  obtain ⟨x, hx⟩ : ∃ x : Int, x = (c col : Int) := ⟨_, rfl⟩
  rw [← hx] at hco ⊢
  clear hr hx
  go_enter Try.func108, Try.ntmps108
  go_wp2
  go_ret
  exact ⟨rfl, rfl⟩
theorem enters_nz : ∀ args w, (callFunc 108 args).run Try.prog w = .ok (.enter 108 args) w :=
  enters_of Try.func108 (by kernel_rfl) rfl

set_option maxHeartbeats 2000000 in
set_option maxRecDepth 100000 in
theorem indexSls_any {gf : Nat} {lb : Array Value} (eg : ∀ args w, (callFunc gf args).run Try.prog w = .ok (.enter gf args) w) {G off n cap : Nat} {h : Nat → Nat} {l cl : Nat} {p : Nat → Bool} {w : World}
    (hs : ∀ j, j < n → w.cell? ⟨G, off + j, none⟩ = some (.slice (some ⟨h j, 0, none⟩) l cl)) (hn : n ≤ 1000000) (hp : ∀ j, j < n → Calls Try.prog gf (#[.slice (some ⟨h j, 0, none⟩) l cl] ++ lb) w fun e w' => e = .returned (.bool (p j)) ∧ w' = w) :
    Calls Try.prog 107 #[.slice (some ⟨G, off, none⟩) n cap, .func (.func gf) #[] lb] w fun e w' => w' = w ∧ ((∃ i : Nat, i < n ∧ p i = true ∧ (∀ j, j < i → p j = false) ∧ e = .returned (.int .i64 i)) ∨ ((∀ j, j < n → p j = false) ∧ e = .returned (.int .i64 (-1)))) := by
  have HS : Hid ((∀ j, j < n → w.cell? ⟨G, off + j, none⟩ = some (.slice (some ⟨h j, 0, none⟩) l cl)) ∧ ∀ j, j < n → Calls Try.prog gf (#[.slice (some ⟨h j, 0, none⟩) l cl] ++ lb) w fun e w' => e = .returned (.bool (p j)) ∧ w' = w) := ⟨hs, hp⟩
  clear hs hp
  go_enter Try.func107, Try.ntmps107
  go_wp2
  go_loopw [5, 8] (fun _ i wr => ∃ r : Nat, r ≤ n ∧ i = .int .i64 r ∧ Hid (∀ j, j < r → p j = false) ∧ wr = w) (fun _ i _ => n - (intOf i).toNat)
  case atStart => exact ⟨0, by omega, rfl, (show Hid _ from fun j hj => by omega), rfl⟩
  case round =>
    obtain ⟨r, hr, rfl, HH, rfl⟩ := hrel
    by_cases hlt : r < n
    · have hcz := HS.out.1 r hlt
      have hib : (r : Int) < (n : Int) := by omega
      have hcall := HS.out.2 r hlt
      by_cases hh : p r = true
      · have HV : Hid (p r = true) := hh
        rw [hh] at hcall
        clear hh
        go_wp2_with (go_at_fn gf; refine hcall.mono ?_; rintro e w' ⟨rfl, hw⟩; have hw := hw.symm; subst hw)
        go_ret
        exact ⟨rfl, Or.inl ⟨r, hlt, HV.out, HH.out, rfl⟩⟩
      · have hh' : p r = false := by simpa using hh
        have HV : Hid (∀ j, j < r + 1 → p j = false) := fun j hj => by
          by_cases e : j = r
          · rw [e]; exact hh'
          · exact HH.out j (by omega)
        rw [hh'] at hcall
        clear hh hh'
        go_wp2_with (go_at_fn gf; refine hcall.mono ?_; rintro e w' ⟨rfl, hw⟩; have hw := hw.symm; subst hw)
        go_roundw
        case rel => exact ⟨r + 1, by omega, by go_num, HV.out, by first | rfl | trivial⟩
        case measure => simp [intOf]; omega
    · have HV : Hid (∀ j, j < n → p j = false) := fun j hj => HH.out j (by omega)
      go_wp2
      go_ret
      exact ⟨rfl, Or.inr ⟨HV.out, rfl⟩⟩

/-- The first of the rows from top on that is not 0 in a column. -/
theorem indexNz_any {B G mc m n top col Bc cap : Nat} {R : Nat → Nat → Nat} {h : Nat → Nat} {w : World} (hM : Mx B G mc m n R h w) (hb : w.cell? ⟨Bc, 0, none⟩ = some (.int .i64 col)) (hc : col < n) (ht : top ≤ m) (hm : m ≤ 1000) :
    Calls Try.prog 107 #[.slice (some ⟨G, top, none⟩) (m - top) cap, .func (.func 108) #[] #[.pointer (some ⟨Bc, 0, none⟩)]] w fun e w' => w' = w ∧ ((∃ i : Nat, top + i < m ∧ R (top + i) col ≠ 0 ∧ e = .returned (.int .i64 i)) ∨ ((∀ j, top ≤ j → j < m → R j col = 0) ∧ e = .returned (.int .i64 (-1)))) := by
  have hp : ∀ j, j < m - top → Calls Try.prog 108 (#[.slice (some ⟨h (top + j), 0, none⟩) n n] ++ #[.pointer (some ⟨Bc, 0, none⟩)]) w fun e w' => e = .returned (.bool ((R (top + j) col : Int) != 0)) ∧ w' = w := fun j hj => by
    have e : (#[Value.slice (some ⟨h (top + j), 0, none⟩) n n] ++ #[Value.pointer (some ⟨Bc, 0, none⟩)] : Array Value) = #[.slice (some ⟨h (top + j), 0, none⟩) n n, .pointer (some ⟨Bc, 0, none⟩)] := rfl
    rw [e]
    exact nz_any (hM.row (top + j) (by omega)) hb hc
  refine (indexSls_any (cap := cap) (h := fun j => h (top + j)) (p := fun j => (R (top + j) col : Int) != 0) enters_nz (fun j hj => hM.cell (top + j) (by omega)) (by omega) hp).mono ?_
  rintro e w' ⟨hw, ⟨i, hi, hpi, _, rfl⟩ | ⟨ha, rfl⟩⟩
  · refine ⟨hw, Or.inl ⟨i, by omega, ?_, rfl⟩⟩
    have hpi' : ((R (top + i) col : Int) != 0) = true := hpi
    rw [bne_iff_ne] at hpi'
    omega
  · refine ⟨hw, Or.inr ⟨fun j h1 h2 => ?_, rfl⟩⟩
    have h3 : ((R (top + (j - top)) col : Int) != 0) = false := ha (j - top) (by omega)
    rw [show top + (j - top) = j from by omega] at h3
    simpa using h3
end Go.Proofs.Ytbpeahhhkcljeaa

/- The program's matrices: two rows change places; rows that are left as they are. -/
namespace Go.Proofs.Ytbpeahhhkcljeaa
open Go.RowKit

theorem Mx.keep {B G m k n : Nat} {R : Nat → Nat → Nat} {h : Nat → Nat} {w w' : World} (H : Mx B G m k n R h w) (hG : w'.heap[G]? = w.heap[G]?) (hh : ∀ i, i < k → w'.heap[h i]? = w.heap[h i]?) : Mx B G m k n R h w' := by
  obtain ⟨f, hf, hf'⟩ := H.outer
  exact ⟨⟨f, hf.other hG, hf'⟩, fun i hi => (H.row i hi).other (hh i hi), H.geG, H.ge, H.inj, H.ne, H.le⟩
theorem OwnI.same {base : Nat} {v : Value} {l : List Int} {w w' : World} (h : OwnI base v l w) (hb : ∀ k, v.ownBlock = some k → w'.heap[k]? = w.heap[k]?) : OwnI base v l w' := by
  obtain ⟨h1, h2⟩ := h
  refine ⟨h1, ?_⟩
  rcases h2 with h2 | ⟨g, cap, cur, hv, hg, hh, r⟩
  · exact Or.inl h2
  · exact Or.inr ⟨g, cap, cur, hv, hg, by rw [hb g (by rw [hv]; rfl)]; exact hh, r⟩
/-- The place from which row i came. -/
def swpI (a b i : Nat) : Nat := if i = a then b else if i = b then a else i
theorem swpR_is {α : Type} (R : Nat → α) (a b i : Nat) : swpR R a b i = R (swpI a b i) := by
  unfold swpR swpI
  by_cases e : i = a
  · rw [if_pos e, if_pos e]
  · rw [if_neg e, if_neg e]
    by_cases e2 : i = b
    · rw [if_pos e2, if_pos e2]
    · rw [if_neg e2, if_neg e2]
theorem swpI_lt {a b i m : Nat} (ha : a < m) (hb : b < m) (hi : i < m) : swpI a b i < m := by unfold swpI; split; exact hb; split; exact ha; exact hi
theorem swpI_inj {a b i j : Nat} (h : swpI a b i = swpI a b j) : i = j := by
  unfold swpI at h
  (repeat' split at h) <;> omega
theorem Mx.swap {B G mc m n a b : Nat} {R : Nat → Nat → Nat} {h : Nat → Nat} {w : World} (H : Mx B G mc m n R h w) (ha : a < m) (hb : b < m) :
    Mx B G mc m n (swpR R a b) (swpR h a b) ((w.setCell ⟨G, a, none⟩ (.slice (some ⟨h b, 0, none⟩) n n)).setCell ⟨G, b, none⟩ (.slice (some ⟨h a, 0, none⟩) n n)) := by
  obtain ⟨f, hf, hf'⟩ := H.outer
  refine ⟨⟨_, (hf.store a (.slice (some ⟨h b, 0, none⟩) n n)).store b (.slice (some ⟨h a, 0, none⟩) n n), fun i hi => ?_⟩, fun i hi => ?_, H.geG, fun i hi => ?_, fun i hi j hj e => ?_, fun i hi => ?_, H.le⟩
  · unfold swpR
    by_cases e2 : i = b
    · rw [e2, upd_at]
      by_cases e : b = a
      · rw [if_pos e, e]
      · rw [if_neg e, if_pos rfl]
    · rw [upd_ne _ _ _ e2]
      by_cases e : i = a
      · rw [if_pos e, e, upd_at]
      · rw [if_neg e, if_neg e2, upd_ne _ _ _ e]; exact hf' i hi
  · rw [swpR_is, swpR_is]
    have hi' := swpI_lt ha hb hi
    have hne := H.ne _ hi'
    exact (H.row _ hi').other ((Below.heap_setCell _ _ _ _ hne).trans (Below.heap_setCell _ _ _ _ hne))
  · rw [swpR_is]; exact H.ge _ (swpI_lt ha hb hi)
  · rw [swpR_is, swpR_is] at e
    exact swpI_inj (H.inj _ (swpI_lt ha hb hi) _ (swpI_lt ha hb hj) e)
  · rw [swpR_is]; exact H.ne _ (swpI_lt ha hb hi)
end Go.Proofs.Ytbpeahhhkcljeaa
