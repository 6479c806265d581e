/- Plain mathematics: what rows span; the one reduced form of it. No Go text here. -/
import Derived.Test.YtnjbnamcedfjaaaZW7
namespace Go.Proofs.Ytnjbnamcedfjaaa

/-- A sum of multiples. -/
def lsum (D : FD) : List (Nat × (Nat → Nat)) → Nat → Nat
  | [] => pnil
  | x :: l => padd D (pscale D x.1 x.2) (lsum D l)
/-- What the rows P span. -/
def Spn (D : FD) (P : (Nat → Nat) → Prop) (v : Nat → Nat) : Prop := ∃ l : List (Nat × (Nat → Nat)), (∀ x, x ∈ l → P x.2) ∧ v = lsum D l
theorem lsum_el {D : FD} (F : Fld D) : ∀ l, El D (lsum D l)
  | [] => el_nil F
  | _ :: l => el_add F (el_scale F _ _) (lsum_el F l)
theorem lsum_app {D : FD} (F : Fld D) : ∀ l m, lsum D (l ++ m) = padd D (lsum D l) (lsum D m)
  | [], m => (nil_padd F (lsum_el F m)).symm
  | x :: l, m => by
    show padd D (pscale D x.1 x.2) (lsum D (l ++ m)) = padd D (padd D (pscale D x.1 x.2) (lsum D l)) (lsum D m)
    rw [lsum_app F l m, padd_assoc F (el_scale F _ _) (lsum_el F l) (lsum_el F m)]
theorem lsum_scale {D : FD} (F : Fld D) (s : Nat) : ∀ l, pscale D s (lsum D l) = lsum D (l.map fun x => (D.mul s x.1, x.2))
  | [] => pscale_nil F s
  | x :: l => by
    show pscale D s (padd D (pscale D x.1 x.2) (lsum D l)) = padd D (pscale D (D.mul s x.1) x.2) (lsum D (l.map fun x => (D.mul s x.1, x.2)))
    rw [pscale_add F s (el_scale F _ _) (lsum_el F l), pscale_pscale F, lsum_scale F s l]
theorem Spn.el {D : FD} (F : Fld D) {P : (Nat → Nat) → Prop} {v : Nat → Nat} (h : Spn D P v) : El D v := by
  obtain ⟨l, _, rfl⟩ := h
  exact lsum_el F l
theorem spn_nil (D : FD) (P : (Nat → Nat) → Prop) : Spn D P pnil := ⟨[], fun x hx => by simp at hx, rfl⟩
theorem spn_mem {D : FD} (F : Fld D) {P : (Nat → Nat) → Prop} {v : Nat → Nat} (he : El D v) (h : P v) : Spn D P v :=
  ⟨[(1, v)], fun x hx => by rw [List.mem_singleton.1 hx]; exact h, by show v = padd D (pscale D 1 v) pnil; rw [pscale_one F he, padd_nil F he]⟩
theorem spn_add {D : FD} (F : Fld D) {P : (Nat → Nat) → Prop} {u v : Nat → Nat} (h : Spn D P u) (k : Spn D P v) : Spn D P (padd D u v) := by
  obtain ⟨l, hl, rfl⟩ := h
  obtain ⟨m, hm, rfl⟩ := k
  exact ⟨l ++ m, fun x hx => by rcases List.mem_append.1 hx with h | h; exact hl x h; exact hm x h, (lsum_app F l m).symm⟩
theorem spn_scale {D : FD} (F : Fld D) {P : (Nat → Nat) → Prop} {v : Nat → Nat} (s : Nat) (h : Spn D P v) : Spn D P (pscale D s v) := by
  obtain ⟨l, hl, rfl⟩ := h
  refine ⟨l.map fun x => (D.mul s x.1, x.2), fun x hx => ?_, lsum_scale F s l⟩
  obtain ⟨y, hy, rfl⟩ := List.mem_map.1 hx
  exact hl y hy
/-- What holds of the rows, and of sums and multiples, holds of all that they span. -/
theorem spn_ind {D : FD} {P Q : (Nat → Nat) → Prop} (h0 : Q pnil) (ha : ∀ u v, Q u → Q v → Q (padd D u v)) (hs : ∀ s v, Q v → Q (pscale D s v)) (hP : ∀ v, P v → Q v) {v : Nat → Nat} (h : Spn D P v) : Q v := by
  obtain ⟨l, hl, rfl⟩ := h
  induction l with
  | nil => exact h0
  | cons x l ih => exact ha _ _ (hs _ _ (hP _ (hl x (List.mem_cons_self ..)))) (ih (fun y hy => hl y (List.mem_cons_of_mem _ hy)))
theorem spn_le {D : FD} (F : Fld D) {P Q : (Nat → Nat) → Prop} (h : ∀ v, P v → Spn D Q v) {v : Nat → Nat} (hv : Spn D P v) : Spn D Q v :=
  spn_ind (spn_nil D Q) (fun _ _ => spn_add F) (fun s _ => spn_scale F s) h hv
theorem spn_sub {D : FD} (F : Fld D) {P : (Nat → Nat) → Prop} {u v : Nat → Nat} (h : Spn D P u) (k : Spn D P v) : Spn D P (psub D u v) := by
  have e : psub D u v = padd D u (pscale D (D.ng 1) v) := by
    funext i
    show D.sb (u i) (v i) = D.ad (u i) (D.mul (D.ng 1) (v i))
    rw [F.mul_comm, mul_ng F (one_lt' F), mul1 F (k.el F i)]
    rfl
  rw [e]
  exact spn_add F h (spn_scale F _ k)

/-- k rows of n numbers in their one form; p: where they begin. -/
structure RRE (D : FD) (n k : Nat) (R : Nat → Nat → Nat) (p : Nat → Nat) : Prop where
  el : ∀ i, i < k → El D (R i)
  bd : ∀ i, i < k → Bd n (R i)
  lt : ∀ i, i < k → p i < n
  mono : ∀ i j, i < j → j < k → p i < p j
  one : ∀ i, i < k → R i (p i) = 1
  zero : ∀ i j, i < k → j < k → i ≠ j → R i (p j) = 0
  lead : ∀ i c, i < k → c < p i → R i c = 0
/-- One of the first k rows. -/
def RowsOf (k : Nat) (R : Nat → Nat → Nat) (v : Nat → Nat) : Prop := ∃ i, i < k ∧ v = R i
end Go.Proofs.Ytnjbnamcedfjaaa
