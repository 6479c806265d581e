/- Plain mathematics: sets that are great and meet little are few (Johnson). No Go text here. -/
import Derived.Test.YtjkncdmbcckcdaaZO3
namespace Go.Proofs.Ytjkncdmbcckcdaa

theorem ct_mono {p p' : Nat → Bool} : ∀ n, (∀ i, i < n → p i = true → p' i = true) → ct p n ≤ ct p' n
  | 0, _ => Nat.le_refl _
  | n + 1, h => by
    have h1 := ct_mono n (fun i hi => h i (by omega))
    have h2 := h n (by omega)
    show ct p n + (if p n = true then 1 else 0) ≤ ct p' n + if p' n = true then 1 else 0
    by_cases e : p n = true
    · rw [if_pos e, if_pos (h2 e)]; omega
    · rw [if_neg e]; omega
end Go.Proofs.Ytjkncdmbcckcdaa
