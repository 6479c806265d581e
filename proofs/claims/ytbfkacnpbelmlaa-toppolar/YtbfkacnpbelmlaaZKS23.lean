/- Polar: read, of all parts. -/
import Derived.Test.YtbfkacnpbelmlaaZKS22
namespace Go.Proofs.Ytbfkacnpbelmlaa
open Go.RowKit Go.Sort

theorem read_any {S T P B M k : Nat} {bo : Option Addr} {bc : Nat} {p : Nat → Int} (hF : Fx S T P B M bo) (hk : k ≤ 64) : ∀ (h : Nat) {q b off c : Nat} {x : Nat → Int} {v : Value} {L : List Int} {w : World}, h ≤ 5 → q + 2 ^ h ≤ 64 → L.length ≤ q → Prt b off (2 ^ h) x w → b ≠ P → b ≠ M → v.ownBlock ≠ some b → 2 ^ h ≤ c → c ≤ 9223372036854775807 → Cls T P B M k bo bc p q v L w →
    Calls Try.prog 39 #[.slice (some ⟨b, off, none⟩) (2 ^ h : Nat) c, .func (.func 37) #[] #[.pointer (some ⟨P, 0, none⟩), .pointer (some ⟨B, 0, none⟩), .pointer (some ⟨M, 0, none⟩)]] w
      (RdQ S T P B M k bo bc p (2 ^ h) q v L w (rdp (fun j => decide ((j : Int) ∈ zl k p)) h q x))
  | 0, _, _, _, _, _, _, _, _, _, hq, hL, hP, _, _, _, _, _, hC => read_zero hF hk hq hL hP hC
  | h + 1, _, _, _, _, _, _, _, _, hh, hq, hL, hP, h1, h2, h3, h4, h5, hC => by
    have e : 2 ^ (h + 1) = 2 ^ h + 2 ^ h := by rw [Nat.pow_succ]; omega
    exact read_step hF rfl e (Nat.le_trans (Nat.pow_le_pow_right (by omega) (show h ≤ 4 by omega)) (by decide)) (Nat.pow_pos (by omega)) hq hL hP h1 h2 h3 h4 h5 hC (fun a1 a2 a3 a4 a5 a6 a7 a8 a9 => read_any hF hk h (by omega) a1 a2 a3 a4 a5 a6 a7 a8 a9)
end Go.Proofs.Ytbfkacnpbelmlaa
