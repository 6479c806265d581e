/- The reference: a field that is no prime one (Field). -/
import Derived.Test.YtaihjfpenbjdiaiR7
namespace Go.Proofs.Ytaihjfpenbjdiai
open Go.RowKit

def chkLow (D : FD) : Bool := D.m == 1 || allB (D.low + 1) fun l => fullB (fun a => rmulN D.p D.m (dgt D.p l) a D.p) (D.q - 1) == (l == D.low) && allB D.q fun a => decide (rmulN D.p D.m (dgt D.p l) a D.p < D.q)
theorem chkLow_all : fieldsL.all chkLow = true := by decide +kernel
theorem low_is {D : FD} (hD : D ∈ fieldsL) (hm : D.m ≠ 1) (l : Nat) (hl : l ≤ D.low) : fullB (fun a => rmulN D.p D.m (dgt D.p l) a D.p) (D.q - 1) = (l == D.low) ∧ ∀ a, a < D.q → rmulN D.p D.m (dgt D.p l) a D.p < D.q := by
  have h := List.all_eq_true.1 chkLow_all D hD
  unfold chkLow at h
  rw [Bool.or_eq_true, beq_iff_eq] at h
  have h := allB_of (h.resolve_left hm) l (by omega)
  rw [Bool.and_eq_true, beq_iff_eq] at h
  exact ⟨h.1, fun a ha => of_decide_eq_true (allB_of h.2 a ha)⟩

theorem modAt_of {D : FD} {l g cap base : Nat} {w : World} (hp : 2 ≤ D.p) (h : OwnI base (.slice (some ⟨g, 0, none⟩) (D.m + 1) cap) (digL D.p l D.m ++ [1]) w) : ModAt D (.slice (some ⟨g, 0, none⟩) (D.m + 1) cap) (dgt D.p l) w := by
  have hlen : (digL D.p l D.m ++ [(1 : Int)]).length = D.m + 1 := by rw [List.length_append, digL_len]; rfl
  refine ⟨Or.inr ⟨g, D.m + 1, cap, rfl, by omega, (h.lt g rfl).2, fun j hj => ?_⟩, fun j => Nat.mod_lt _ (by omega)⟩
  obtain ⟨g', cap', hv, _, _, hc, _⟩ := h.at (by intro e; rw [e] at hlen; simp at hlen)
  simp only [Value.slice.injEq, Option.some.injEq, Addr.mk.injEq, and_true] at hv
  obtain ⟨rfl, _, _⟩ := hv
  rw [hc j (by omega), List.getD_eq_getElem?_getD, List.getElem?_append_left (by rw [digL_len]; exact hj), ← List.getD_eq_getElem?_getD, digL_get _ _ _ _ hj]
  rfl

theorem F5_upd (D : FD) (gen : Nat) (v v' : Value) : ∀ o, o < 5 → upd (F5 D gen v) 4 v' o = F5 D gen v' o := by
  intro o ho
  match o, ho with
  | 0, _ => rfl
  | 1, _ => rfl
  | 2, _ => rfl
  | 3, _ => rfl
  | 4, _ => rfl

end Go.Proofs.Ytaihjfpenbjdiai
