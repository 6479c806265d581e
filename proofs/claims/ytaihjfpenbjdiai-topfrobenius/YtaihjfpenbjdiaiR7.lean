/- The reference: a field (Field). -/
import Derived.Test.YtaihjfpenbjdiaiR6
import Derived.Test.YtaihjfpenbjdiaiB1
namespace Go.Proofs.Ytaihjfpenbjdiai
open Go.RowKit

/-- The modulus, whole. -/
def FD.modL (D : FD) : List Int := digL D.p D.low D.m ++ [1]

/-- Five cells, as a reference field has them. -/
def F5 (D : FD) (gen : Nat) (v : Value) : Nat → Value := fun o => if o = 0 then .int .i64 D.q else if o = 1 then .int .i64 D.p else if o = 2 then .int .i64 D.m else if o = 3 then .int .i64 gen else v
theorem row_of_cells {w : World} {T n : Nat} {t : TypeId} {f : Nat → Value} {cs : Array Value} (h : w.heap[T]? = some (.cells cs t (0, 0))) (hs : cs.size = n) (hf : ∀ o, o < n → cs[o]? = some (f o)) : RowF T n t f w := ⟨cs, h, hs, hf⟩
theorem ownI_lit (w : World) (l : List Int) (hl : l.length ≤ 1000000) : OwnI w.heap.size (.slice (some ⟨w.heap.size, 0, none⟩) l.length l.length) l (w.alloc (.cells (l.map (Value.int .i64)).toArray 3)) := by
  have := World.ownsRow_lit (base := w.heap.size) (e := 3) (size := 1) w (l.map (Value.int .i64)).toArray l.length (Nat.le_refl _) (by unfold maxLen; omega) (by simp)
  simpa [OwnI] using this

def Z5 : Nat → Value := fun o => if o < 4 then .int .i64 0 else .slice none 0 0
theorem modAt_one {D : FD} (hm : D.m = 1) (hp : 2 ≤ D.p) (v : Value) (w : World) : ModAt D v D.md w := ⟨Or.inl hm, fun j => Nat.mod_lt _ (by omega)⟩
theorem full_prime {D : FD} (hD : D ∈ fieldsL) (hm : D.m = 1) (g : Nat) (hg1 : 1 ≤ g) (hg : g ≤ D.gen) : fullB (fun a => rmulN D.p D.m D.md a g) (D.q - 1) = decide (g = D.gen) := by
  have F := fld hD
  obtain ⟨h1, h2, h3, h4, h5⟩ := F.least1 hm
  have e : (fun a => rmulN D.p D.m D.md a g) = fun a => a * g % D.q := by funext a; rw [rmulN, if_pos hm, h1]
  rw [e]
  by_cases hgg : g = D.gen
  · rw [decide_eq_true hgg, fullB_iff, hgg]
    have hst : D.st = fun a => a * D.gen % D.q := by funext a; rw [FD.st, if_pos hm]
    have := F.full
    rw [hst] at this; exact this
  · rw [decide_eq_false hgg, ← Bool.not_eq_true, fullB_iff]; exact h5 g hg1 (by omega)

end Go.Proofs.Ytaihjfpenbjdiai
