/- Texts of ours, one behind the other: KV14 KV15. -/
import Derived.Test.YtlljaliemldjkaaZKV13
import Derived.Test.YtlljaliemldjkaaZO5
import Derived.Test.YtlljaliemldjkaaZKI13
import Derived.Test.YtlljaliemldjkaaZKD2
/- Trellises: the reference's Likeliest. -/
namespace Go.Proofs.Ytlljaliemldjkaa
open Go.RowKit Go.Sort

theorem Fst.next {f : Nat → Nat} {k b : Nat} (h : Fst f k b) (hlt : f k < f b) : Fst f (k + 1) k := by
  refine ⟨by omega, fun r hr => ?_⟩
  by_cases e : r = k
  · exact Or.inr ⟨by rw [e], by omega⟩
  · rcases h.2 r (by omega) with h1 | ⟨h1, _⟩
    · exact Or.inl (by omega)
    · exact Or.inl (by omega)
theorem OwnI.slz {base : Nat} {v : Value} {n : Nat} {y : Nat → Int} {w : World} (h : OwnI base v (zl n y) w) : ∃ ao ca, v = .slice ao n ca ∧ SlZ ao n y w ∧ LtB ao w.heap.size := by
  obtain ⟨ao, ca, e, ha⟩ := h.argL
  exact ⟨ao, ca, e, ha.sl, ha.lt⟩

end Go.Proofs.Ytlljaliemldjkaa

/- Trellises: the law of the likeliest. -/
namespace Go.Proofs.Ytlljaliemldjkaa
open Go.RowKit Go.Sort

theorem bitN_dgs {n b j : Nat} (hj : j < n) : bitN n b j = dgs 2 n b j := by unfold bitN dgs; rw [if_pos hj]
/-- Bits are the digits of their number. -/
theorem bits_dgs {n : Nat} {x : Nat → Int} (h : allP isbt x n = true) : ∃ k, k < 2 ^ n ∧ ∀ j, j < n → x j = ((dgs 2 n k j : Nat) : Int) := by
  have hb : ∀ j, j < n → x j = 0 ∨ x j = 1 := fun j hj => by have := allP_iff n h j hj; unfold isbt at this; simpa using this
  have hm : ∀ j, j < n → (x j).toNat < 2 := fun j hj => by rcases hb j hj with h | h <;> rw [h] <;> decide
  have hk := dnum_lt (q := 2) (c := fun j => (x j).toNat) n hm
  refine ⟨dnum 2 (fun j => (x j).toNat) n, hk, fun j hj => ?_⟩
  have h := dnum_inj (q := 2) n hm (fun i _ => dgs_lt (by omega) i) (dnum_dgs (q := 2) (k := n) (by omega) hk).symm j hj
  rw [← h]
  have := hb j hj
  show x j = (((x j).toNat : Nat) : Int)
  omega
theorem SlZ.at' {ao : Option Addr} {n : Nat} {z y : Nat → Int} {w : World} (h : SlZ ao n z w) (e : ∀ j, j < n → z j = y j) : SlZ ao n y w := fun j hj => by
  obtain ⟨b, o, h1, h2⟩ := h j hj
  exact ⟨b, o, h1, by rw [← e j hj]; exact h2⟩

end Go.Proofs.Ytlljaliemldjkaa
