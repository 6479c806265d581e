/- Texts of ours, one behind the other: R5 R6 R7 R8 R9 R10 R11 R12 R13 R18 R14 B4 B5 B6 R15 M7 R16 R17 B7 B8 M8 M9 G1 N1. -/
import Derived.Test.YtpgaakjldlcejaaDoorZR4
import Derived.Test.YtpgaakjldlcejaaDoorZM6
import Derived.Test.YtpgaakjldlcejaaDoorZA4
import Derived.Test.YtpgaakjldlcejaaDoorZM3
import Derived.Test.YtpgaakjldlcejaaDoorZD1
import Derived.Test.YtpgaakjldlcejaaDoorZB2
import Derived.Deep.RegionWith
import Derived.Deep.RegionHeld3
/- The reference: products, all cases (Mul). -/
namespace Go.Proofs.YtpgaakjldlcejaaDoor
open Go.RowKit

end Go.Proofs.YtpgaakjldlcejaaDoor

/- The reference: are the powers of an element all but 0 (full)? -/
namespace Go.Proofs.YtpgaakjldlcejaaDoor
open Go.RowKit

end Go.Proofs.YtpgaakjldlcejaaDoor

/- The reference: a field (Field). -/
namespace Go.Proofs.YtpgaakjldlcejaaDoor
open Go.RowKit

end Go.Proofs.YtpgaakjldlcejaaDoor

/- The reference: a field that is no prime one (Field). -/
namespace Go.Proofs.YtpgaakjldlcejaaDoor
open Go.RowKit

end Go.Proofs.YtpgaakjldlcejaaDoor

/- The reference: no field; what undoes a product, powers, logarithms. -/
namespace Go.Proofs.YtpgaakjldlcejaaDoor
open Go.RowKit

/-! ### Plain mathematics -/
/-! ### Calls -/
end Go.Proofs.YtpgaakjldlcejaaDoor

/- The reference: powers, logarithms, and what Frobenius makes. -/
namespace Go.Proofs.YtpgaakjldlcejaaDoor
open Go.RowKit

/-! ### Plain mathematics -/
/-! ### Calls -/
end Go.Proofs.YtpgaakjldlcejaaDoor

/- The reference: logarithms, Frobenius, traces and norms. -/
namespace Go.Proofs.YtpgaakjldlcejaaDoor
open Go.RowKit

end Go.Proofs.YtpgaakjldlcejaaDoor

/- The reference: traces and norms. -/
namespace Go.Proofs.YtpgaakjldlcejaaDoor
open Go.RowKit

end Go.Proofs.YtpgaakjldlcejaaDoor

/- The reference: are two lists the same (Same); the elements of a smaller field (Within). -/
namespace Go.Proofs.YtpgaakjldlcejaaDoor
open Go.RowKit

/-- The slice v reads as the numbers l. -/
def SliceI (v : Value) (l : List Int) (w : World) : Prop :=
  (l = [] ∧ ∃ ao cap, v = .slice ao 0 cap) ∨ (l ≠ [] ∧ l.length ≤ 1000000 ∧ ∃ b off cap, v = .slice (some ⟨b, off, none⟩) l.length cap ∧ ∀ j, j < l.length → w.cell? ⟨b, off + j, none⟩ = some (.int .i64 (l.getD j 0)))
theorem OwnI.slice {base : Nat} {v : Value} {l : List Int} {w : World} (h : OwnI base v l w) (hl : l.length ≤ 1000000) : SliceI v l w := by
  by_cases e : l = []
  · refine Or.inl ⟨e, ?_⟩
    rcases h.2 with ⟨h1, _⟩ | ⟨g, cap, cur, hv, _⟩
    · exact ⟨none, 0, h1⟩
    · rw [e] at hv; exact ⟨_, cap, hv⟩
  · obtain ⟨g, cap, hv, _, _, hc, _⟩ := h.at e
    exact Or.inr ⟨e, hl, g, 0, cap, hv, fun j hj => by rw [Nat.zero_add]; exact hc j hj⟩
theorem SliceI.below {B : Nat} {v : Value} {l : List Int} {w w' : World} (h : SliceI v l w) (hb : Below B w w') (hB : ∀ k, v.ownBlock = some k → k < B) : SliceI v l w' := by
  rcases h with h | ⟨h1, h2, b, off, cap, rfl, hc⟩
  · exact Or.inl h
  · exact Or.inr ⟨h1, h2, b, off, cap, rfl, fun j hj => ((bcell hb).1 b (off + j) (hB b rfl)).trans (hc j hj)⟩
theorem SliceI.drewN {v : Value} {l : List Int} {w : World} (h : SliceI v l w) (n : Nat) : SliceI v l (w.drewN n) := h

end Go.Proofs.YtpgaakjldlcejaaDoor

/- The reference: is a number in a list (In). -/
namespace Go.Proofs.YtpgaakjldlcejaaDoor
open Go.RowKit

end Go.Proofs.YtpgaakjldlcejaaDoor

/- The reference: the elements of a smaller field within one (Within). -/
namespace Go.Proofs.YtpgaakjldlcejaaDoor
open Go.RowKit

end Go.Proofs.YtpgaakjldlcejaaDoor

/- A field's calls, gone on: Frobenius, traces, norms. -/
namespace Go.Proofs.YtpgaakjldlcejaaDoor
open Go.RowKit

end Go.Proofs.YtpgaakjldlcejaaDoor

/- A field's calls, gone on: its modulus, the elements of a smaller field. -/
namespace Go.Proofs.YtpgaakjldlcejaaDoor
open Go.RowKit

theorem RowF.own {g n base : Nat} {f : Nat → Value} {l : List Int} {w : World} (h : RowF g n 3 f w) (hl : l.length = n) (hf : ∀ j, j < n → f j = .int .i64 (l.getD j 0)) (hb : base ≤ g) (hn : n ≤ 1000000) : OwnI base (.slice (some ⟨g, 0, none⟩) n n) l w := by
  obtain ⟨cs, h1, h2, h3⟩ := h
  refine ⟨by simp, Or.inr ⟨g, n, cs, by rw [hl], hb, h1, by omega, by unfold maxLen; omega, by omega, ?_⟩⟩
  rw [hl, Nat.mul_one, List.take_of_length_le (by simp; omega)]
  apply List.ext_getElem?
  intro i
  by_cases hi : i < n
  · rw [Array.getElem?_toList, h3 i hi, hf i hi, List.getElem?_map, List.getD_eq_getElem?_getD, List.getElem?_eq_getElem (by omega)]; rfl
  · rw [List.getElem?_eq_none (by simp; omega), List.getElem?_eq_none (by simp; omega)]

theorem bel_up {B : Nat} {w W w1 : World} (h0 : Below B w W) (h : Below W.heap.size W w1) (hB : B ≤ w.heap.size := by exact Nat.le_refl _) : Below B w w1 := h0.trans (h.mono (Nat.le_trans hB h0.size))

end Go.Proofs.YtpgaakjldlcejaaDoor

/- A field's calls, gone on: a field within another (holds, Within). -/
namespace Go.Proofs.YtpgaakjldlcejaaDoor
open Go.RowKit

/-! ### Plain mathematics -/
/-! ### Calls -/
end Go.Proofs.YtpgaakjldlcejaaDoor

/- The reference: a polynomial's value at an element (value). -/
namespace Go.Proofs.YtpgaakjldlcejaaDoor
open Go.RowKit

theorem bel_up' {B : Nat} {w W w1 : World} (h0 : Below B w W) (h : Below W.heap.size W w1) (hB : B ≤ w.heap.size := by exact Nat.le_refl _) : Below B w w1 := h0.trans (h.mono (Nat.le_trans hB h0.size))

end Go.Proofs.YtpgaakjldlcejaaDoor

/- Plain mathematics of a field within another: what the smaller one's x becomes. -/
namespace Go.Proofs.YtpgaakjldlcejaaDoor

end Go.Proofs.YtpgaakjldlcejaaDoor

/- The reference: what each element of a field becomes in a greater one (Embed). -/
namespace Go.Proofs.YtpgaakjldlcejaaDoor
open Go.RowKit

end Go.Proofs.YtpgaakjldlcejaaDoor

/- The reference: what each element of a field becomes in a greater one, gone on (Embed). -/
namespace Go.Proofs.YtpgaakjldlcejaaDoor
open Go.RowKit

end Go.Proofs.YtpgaakjldlcejaaDoor

/- A field's calls, gone on: what a smaller field's elements become (at, rootFor, Embed). -/
namespace Go.Proofs.YtpgaakjldlcejaaDoor
open Go.RowKit

theorem mul_nat {F T : Nat} {D : FD} (hD : D ∈ fieldsL) {g : Nat → Value} {w : World} (h : FAt F T D g w) {a b : Nat} (ha : a < D.q) (hb : b < D.q) :
    Calls Tryd.prog 68 #[.pointer (some ⟨F, 0, none⟩), .int .i64 a, .int .i64 b] w fun e w' => e = .returned (.int .i64 (D.mul a b : Nat)) ∧ ∃ n, w' = w.drewN n := by
  rw [← mulZ_nat (fld hD) ha hb]; exact mul_any hD h a b
theorem add_nat {F T : Nat} {D : FD} (hD : D ∈ fieldsL) {g : Nat → Value} {w : World} (h : FAt F T D g w) {a b : Nat} (ha : a < D.q) (hb : b < D.q) :
    Calls Tryd.prog 58 #[.pointer (some ⟨F, 0, none⟩), .int .i64 a, .int .i64 b] w fun e w' => e = .returned (.int .i64 (sumD D.p D.q a b : Nat)) ∧ ∃ n, w' = w.drewN n := by
  rw [← addZ_nat (fld hD) ha hb]; exact add_any hD h a b

end Go.Proofs.YtpgaakjldlcejaaDoor

/- A field's calls, gone on: what a smaller field's elements become (Embed). -/
namespace Go.Proofs.YtpgaakjldlcejaaDoor
open Go.RowKit

end Go.Proofs.YtpgaakjldlcejaaDoor

/- Plain mathematics: Fermat and Frobenius, traces and norms; what a smaller field's elements become is a copy of it. -/
namespace Go.Proofs.YtpgaakjldlcejaaDoor
open Go.RowKit

/-! ### The kernel's checks -/
end Go.Proofs.YtpgaakjldlcejaaDoor

/- Plain mathematics, gone on: the laws that follow from the kernel's checks. -/
namespace Go.Proofs.YtpgaakjldlcejaaDoor
open Go.RowKit

theorem zero_mul' (D : FD) (a : Nat) : D.mul 0 a = 0 := by simp [FD.mul]
theorem inv_is {D : FD} (hD : D ∈ fieldsL) {x : Nat} (hx : x < D.q) (h0 : x ≠ 0) : D.mul x (D.pw x (D.q - 2)) = 1 := by
  have h := t11 hD hx h0
  rw [inv_nat hD hx h0, mulZ_nat (fld hD) hx (pw_lt hD x _)] at h
  exact_mod_cast h
/-! ### Frobenius -/
/-! ### Traces and norms -/
/-! ### Copies -/
end Go.Proofs.YtpgaakjldlcejaaDoor

/- The walk of the statement FieldEmbeds. -/
namespace Go.Proofs.YtpgaakjldlcejaaDoor
open Go.RowKit

/-! ### What two answers with lists are held together by -/
end Go.Proofs.YtpgaakjldlcejaaDoor

/- Plain mathematics of polynomials over a field: sums, multiples, shifts, products. A polynomial is the function of its coefficients. No Go text here. -/
namespace Go.Proofs.YtpgaakjldlcejaaDoor

def FD.ad (D : FD) (a b : Nat) : Nat := sumD D.p D.q a b
def FD.ng (D : FD) (a : Nat) : Nat := negD D.p D.q a
def FD.sb (D : FD) (a b : Nat) : Nat := D.ad a (D.ng b)

/-- All coefficients are elements. -/
def El (D : FD) (c : Nat → Nat) : Prop := ∀ i, c i < D.q

theorem ad_lt {D : FD} (F : Fld D) {a b : Nat} (ha : a < D.q) (hb : b < D.q) : D.ad a b < D.q := F.sum_lt a b ha hb
theorem ad_comm {D : FD} (F : Fld D) (a b : Nat) : D.ad a b = D.ad b a := F.add_comm a b
theorem ad_assoc {D : FD} (F : Fld D) {a b c : Nat} (ha : a < D.q) (hb : b < D.q) (hc : c < D.q) : D.ad (D.ad a b) c = D.ad a (D.ad b c) := F.add_assoc a b c ha hb hc
theorem ad_zero {D : FD} (F : Fld D) {a : Nat} (ha : a < D.q) : D.ad a 0 = a := F.sum_zero a ha
theorem zero_ad {D : FD} (F : Fld D) {a : Nat} (ha : a < D.q) : D.ad 0 a = a := by rw [ad_comm F]; exact ad_zero F ha
theorem zero_lt' {D : FD} (F : Fld D) : 0 < D.q := by have := F.q2; omega
theorem one_lt' {D : FD} (F : Fld D) : 1 < D.q := by have := F.q2; omega
theorem ng_lt {D : FD} (F : Fld D) {a : Nat} (ha : a < D.q) : D.ng a < D.q := F.neg_lt a ha
theorem ad_ng {D : FD} (F : Fld D) {a : Nat} (ha : a < D.q) : D.ad a (D.ng a) = 0 := F.sum_neg a ha
theorem ng_zero {D : FD} (F : Fld D) : D.ng 0 = 0 := by
  have h := ad_ng F (zero_lt' F)
  rwa [zero_ad F (ng_lt F (zero_lt' F))] at h
theorem sb_lt {D : FD} (F : Fld D) {a b : Nat} (ha : a < D.q) (hb : b < D.q) : D.sb a b < D.q := ad_lt F ha (ng_lt F hb)
theorem sb_zero {D : FD} (F : Fld D) {a : Nat} (ha : a < D.q) : D.sb a 0 = a := by rw [FD.sb, ng_zero F, ad_zero F ha]
theorem sb_self {D : FD} (F : Fld D) {a : Nat} (ha : a < D.q) : D.sb a a = 0 := ad_ng F ha
theorem ad_sb {D : FD} (F : Fld D) {a b : Nat} (ha : a < D.q) (hb : b < D.q) : D.ad b (D.sb a b) = a := by
  rw [FD.sb, ad_comm F a, ← ad_assoc F hb (ng_lt F hb) ha, ad_ng F hb, zero_ad F ha]
theorem sb_ad {D : FD} (F : Fld D) {a b : Nat} (ha : a < D.q) (hb : b < D.q) : D.sb (D.ad a b) b = a := by
  rw [FD.sb, ad_assoc F ha hb (ng_lt F hb), ad_ng F hb, ad_zero F ha]
theorem ad_cancel {D : FD} (F : Fld D) {a b c : Nat} (ha : a < D.q) (hb : b < D.q) (hc : c < D.q) (h : D.ad a b = D.ad a c) : b = c := by
  have h1 := sb_ad F hb ha
  have h2 := sb_ad F hc ha
  rw [ad_comm F b a, h, ad_comm F a c, h2] at h1
  exact h1.symm
theorem sb_eq_zero {D : FD} (F : Fld D) {a b : Nat} (ha : a < D.q) (hb : b < D.q) (h : D.sb a b = 0) : a = b := by
  have := ad_sb F ha hb
  rw [h, ad_zero F hb] at this
  exact this.symm
theorem mul0 {D : FD} (_F : Fld D) (a : Nat) : D.mul a 0 = 0 := by simp [FD.mul]
theorem zmul {D : FD} (_F : Fld D) (a : Nat) : D.mul 0 a = 0 := by simp [FD.mul]
theorem mul_ad {D : FD} (F : Fld D) {a b c : Nat} (hb : b < D.q) (hc : c < D.q) : D.mul a (D.ad b c) = D.ad (D.mul a b) (D.mul a c) := F.distrib a b c hb hc
theorem ad_mul {D : FD} (F : Fld D) {a b c : Nat} (hb : b < D.q) (hc : c < D.q) : D.mul (D.ad b c) a = D.ad (D.mul b a) (D.mul c a) := by
  rw [F.mul_comm, mul_ad F hb hc, F.mul_comm a b, F.mul_comm a c]
theorem mul1 {D : FD} (F : Fld D) {a : Nat} (ha : a < D.q) : D.mul a 1 = a := F.mul_one a ha
theorem omul {D : FD} (F : Fld D) {a : Nat} (ha : a < D.q) : D.mul 1 a = a := by rw [F.mul_comm]; exact F.mul_one a ha
theorem mul_ng {D : FD} (F : Fld D) {a b : Nat} (hb : b < D.q) : D.mul a (D.ng b) = D.ng (D.mul a b) := by
  refine ad_cancel F (F.mul_lt a b) (F.mul_lt a _) (ng_lt F (F.mul_lt a b)) ?_
  rw [ad_ng F (F.mul_lt a b), ← mul_ad F hb (ng_lt F hb), ad_ng F hb, mul0 F]
theorem ad4 {D : FD} (F : Fld D) {a b c d : Nat} (ha : a < D.q) (hb : b < D.q) (hc : c < D.q) (hd : d < D.q) : D.ad (D.ad a b) (D.ad c d) = D.ad (D.ad a c) (D.ad b d) := by
  rw [ad_assoc F ha hb (ad_lt F hc hd), ← ad_assoc F hb hc hd, ad_comm F b c, ad_assoc F hc hb hd, ← ad_assoc F ha hc (ad_lt F hb hd)]

def padd (D : FD) (a b : Nat → Nat) : Nat → Nat := fun k => D.ad (a k) (b k)
def psub (D : FD) (a b : Nat → Nat) : Nat → Nat := fun k => D.sb (a k) (b k)
def pscale (D : FD) (s : Nat) (b : Nat → Nat) : Nat → Nat := fun k => D.mul s (b k)
def psh (i : Nat) (b : Nat → Nat) : Nat → Nat := fun k => if i ≤ k then b (k - i) else 0
def pnil : Nat → Nat := fun _ => 0
def pone : Nat → Nat := fun k => if k = 0 then 1 else 0
/-- The sum of b's multiples, each further right, n of them. -/
def pmul (D : FD) : Nat → (Nat → Nat) → (Nat → Nat) → Nat → Nat
  | 0, _, _ => pnil
  | n + 1, a, b => padd D (pmul D n a b) (psh n (pscale D (a n) b))
/-- Nothing from the place n on. -/
def Bd (n : Nat) (a : Nat → Nat) : Prop := ∀ k, n ≤ k → a k = 0

theorem el_nil {D : FD} (F : Fld D) : El D pnil := fun _ => zero_lt' F
theorem el_one {D : FD} (F : Fld D) : El D pone := fun k => by unfold pone; split; exact one_lt' F; exact zero_lt' F
theorem el_add {D : FD} (F : Fld D) {a b : Nat → Nat} (ha : El D a) (hb : El D b) : El D (padd D a b) := fun k => ad_lt F (ha k) (hb k)
theorem el_sub {D : FD} (F : Fld D) {a b : Nat → Nat} (ha : El D a) (hb : El D b) : El D (psub D a b) := fun k => sb_lt F (ha k) (hb k)
theorem el_scale {D : FD} (F : Fld D) (s : Nat) (b : Nat → Nat) : El D (pscale D s b) := fun _ => F.mul_lt _ _
theorem el_sh {D : FD} (F : Fld D) {b : Nat → Nat} (i : Nat) (hb : El D b) : El D (psh i b) := fun k => by unfold psh; split; exact hb _; exact zero_lt' F
theorem el_mul {D : FD} (F : Fld D) (a b : Nat → Nat) : ∀ n, El D (pmul D n a b)
  | 0 => el_nil F
  | n + 1 => el_add F (el_mul F a b n) (el_sh F n (el_scale F _ _))

theorem padd_comm {D : FD} (F : Fld D) (a b : Nat → Nat) : padd D a b = padd D b a := by funext k; exact ad_comm F _ _
theorem padd_assoc {D : FD} (F : Fld D) {a b c : Nat → Nat} (ha : El D a) (hb : El D b) (hc : El D c) : padd D (padd D a b) c = padd D a (padd D b c) := by funext k; exact ad_assoc F (ha k) (hb k) (hc k)
theorem padd_nil {D : FD} (F : Fld D) {a : Nat → Nat} (ha : El D a) : padd D a pnil = a := by funext k; exact ad_zero F (ha k)
theorem nil_padd {D : FD} (F : Fld D) {a : Nat → Nat} (ha : El D a) : padd D pnil a = a := by funext k; exact zero_ad F (ha k)
theorem padd4 {D : FD} (F : Fld D) {a b c d : Nat → Nat} (ha : El D a) (hb : El D b) (hc : El D c) (hd : El D d) : padd D (padd D a b) (padd D c d) = padd D (padd D a c) (padd D b d) := by funext k; exact ad4 F (ha k) (hb k) (hc k) (hd k)
theorem psub_add {D : FD} (F : Fld D) {a b : Nat → Nat} (ha : El D a) (hb : El D b) : padd D b (psub D a b) = a := by funext k; exact ad_sb F (ha k) (hb k)
theorem psub_nil {D : FD} (F : Fld D) {a : Nat → Nat} (ha : El D a) : psub D a pnil = a := by funext k; exact sb_zero F (ha k)
theorem padd_cancel {D : FD} (F : Fld D) {a b c : Nat → Nat} (ha : El D a) (hb : El D b) (hc : El D c) (h : padd D a b = padd D a c) : b = c := by
  funext k; exact ad_cancel F (ha k) (hb k) (hc k) (congrFun h k)
theorem psub_eq_nil {D : FD} (F : Fld D) {a b : Nat → Nat} (ha : El D a) (hb : El D b) (h : psub D a b = pnil) : a = b := by
  funext k; exact sb_eq_zero F (ha k) (hb k) (congrFun h k)

theorem pscale_zero {D : FD} (F : Fld D) (b : Nat → Nat) : pscale D 0 b = pnil := by funext k; exact zmul F _
theorem pscale_one {D : FD} (F : Fld D) {b : Nat → Nat} (hb : El D b) : pscale D 1 b = b := by funext k; exact omul F (hb k)
theorem pscale_nil {D : FD} (F : Fld D) (s : Nat) : pscale D s pnil = pnil := by funext k; exact mul0 F _
theorem pscale_add {D : FD} (F : Fld D) (s : Nat) {a b : Nat → Nat} (ha : El D a) (hb : El D b) : pscale D s (padd D a b) = padd D (pscale D s a) (pscale D s b) := by funext k; exact mul_ad F (ha k) (hb k)
theorem pscale_pscale {D : FD} (F : Fld D) (s t : Nat) (b : Nat → Nat) : pscale D s (pscale D t b) = pscale D (D.mul s t) b := by funext k; exact (F.mul_assoc s t (b k)).symm
theorem add_pscale {D : FD} (F : Fld D) {s t : Nat} (hs : s < D.q) (ht : t < D.q) (b : Nat → Nat) : pscale D (D.ad s t) b = padd D (pscale D s b) (pscale D t b) := by funext k; exact ad_mul F hs ht
theorem psh_nil (i : Nat) : psh i pnil = pnil := by funext k; simp [psh, pnil]
theorem psh_add {D : FD} (F : Fld D) (i : Nat) (a b : Nat → Nat) : psh i (padd D a b) = padd D (psh i a) (psh i b) := by
  funext k
  show (if i ≤ k then D.ad (a (k - i)) (b (k - i)) else 0) = D.ad (if i ≤ k then a (k - i) else 0) (if i ≤ k then b (k - i) else 0)
  by_cases h : i ≤ k
  · rw [if_pos h, if_pos h, if_pos h]
  · rw [if_neg h, if_neg h, if_neg h, ad_zero F (zero_lt' F)]
theorem psh_scale {D : FD} (F : Fld D) (i s : Nat) (b : Nat → Nat) : psh i (pscale D s b) = pscale D s (psh i b) := by
  funext k
  show (if i ≤ k then D.mul s (b (k - i)) else 0) = D.mul s (if i ≤ k then b (k - i) else 0)
  by_cases h : i ≤ k
  · rw [if_pos h, if_pos h]
  · rw [if_neg h, if_neg h, mul0 F]
theorem psh_psh (i j : Nat) (b : Nat → Nat) : psh i (psh j b) = psh (i + j) b := by
  funext k
  unfold psh
  by_cases h1 : i ≤ k
  · rw [if_pos h1]
    by_cases h2 : j ≤ k - i
    · rw [if_pos h2, if_pos (by omega), Nat.sub_sub]
    · rw [if_neg h2, if_neg (by omega)]
  · rw [if_neg h1, if_neg (by omega)]
theorem psh_zero (b : Nat → Nat) : psh 0 b = b := by funext k; simp [psh]

theorem pmul_add_l {D : FD} (F : Fld D) {a a' b : Nat → Nat} (ha : El D a) (ha' : El D a') : ∀ n, pmul D n (padd D a a') b = padd D (pmul D n a b) (pmul D n a' b)
  | 0 => (padd_nil F (el_nil F)).symm
  | n + 1 => by
    rw [pmul, pmul, pmul, pmul_add_l F ha ha' n, show padd D a a' n = D.ad (a n) (a' n) from rfl, add_pscale F (ha n) (ha' n), psh_add F]
    exact padd4 F (el_mul F _ _ n) (el_mul F _ _ n) (el_sh F n (el_scale F _ _)) (el_sh F n (el_scale F _ _))
theorem pmul_scale_l {D : FD} (F : Fld D) (s : Nat) (a b : Nat → Nat) : ∀ n, pmul D n (pscale D s a) b = pscale D s (pmul D n a b)
  | 0 => (pscale_nil F s).symm
  | n + 1 => by
    rw [pmul, pmul, pmul_scale_l F s a b n, pscale_add F s (el_mul F _ _ n) (el_sh F n (el_scale F _ _)), ← psh_scale F, pscale_pscale F]; rfl
theorem pmul_zeros {D : FD} (F : Fld D) {a : Nat → Nat} (b : Nat → Nat) (h : Bd 0 a) : ∀ n, pmul D n a b = pnil
  | 0 => rfl
  | n + 1 => by rw [pmul, pmul_zeros F b h n, h n (Nat.zero_le _), pscale_zero F, psh_nil, padd_nil F (el_nil F)]
theorem pmul_more {D : FD} (F : Fld D) {a : Nat → Nat} (b : Nat → Nat) {n : Nat} (h : Bd n a) : ∀ k, pmul D (n + k) a b = pmul D n a b
  | 0 => rfl
  | k + 1 => by rw [← Nat.add_assoc, pmul, pmul_more F b h k, h (n + k) (by omega), pscale_zero F, psh_nil, padd_nil F (el_mul F _ _ _)]
theorem pmul_to {D : FD} (F : Fld D) {a : Nat → Nat} (b : Nat → Nat) {n N : Nat} (h : Bd n a) (hn : n ≤ N) : pmul D N a b = pmul D n a b := by
  have := pmul_more F b h (N - n)
  rwa [show n + (N - n) = N from by omega] at this
theorem pmul_sh_l {D : FD} (F : Fld D) (i : Nat) (a b : Nat → Nat) : ∀ n, pmul D (i + n) (psh i a) b = psh i (pmul D n a b)
  | 0 => by
    rw [Nat.add_zero, pmul, psh_nil]
    have : ∀ m, m ≤ i → pmul D m (psh i a) b = pnil := by
      intro m
      induction m with
      | zero => intro _; rfl
      | succ m ih => intro hm; rw [pmul, ih (by omega), show psh i a m = 0 from by unfold psh; exact if_neg (by omega), pscale_zero F, psh_nil, padd_nil F (el_nil F)]
    exact this i (Nat.le_refl _)
  | n + 1 => by
    rw [← Nat.add_assoc, pmul, pmul, pmul_sh_l F i a b n, psh_add F, psh_psh, show psh i a (i + n) = a n from by unfold psh; rw [if_pos (by omega), Nat.add_sub_cancel_left]]
theorem pmul_bd {D : FD} (F : Fld D) {a b : Nat → Nat} {m : Nat} (hb : Bd m b) : ∀ n, Bd (n + m - 1) (pmul D n a b)
  | 0 => fun _ _ => rfl
  | n + 1 => fun k hk => by
    show D.ad (pmul D n a b k) (psh n (pscale D (a n) b) k) = 0
    rw [pmul_bd F hb n k (by omega)]
    unfold psh
    split
    · unfold pscale
      rw [hb (k - n) (by omega), mul0 F, ad_zero F (zero_lt' F)]
    · exact ad_zero F (zero_lt' F)
theorem pmul_top {D : FD} (F : Fld D) {a b : Nat → Nat} {n m : Nat} (hb : Bd (m + 1) b) : pmul D (n + 1) a b (n + m) = D.mul (a n) (b m) := by
  show D.ad (pmul D n a b (n + m)) (psh n (pscale D (a n) b) (n + m)) = _
  rw [pmul_bd F hb n (n + m) (by omega)]
  unfold psh pscale
  rw [if_pos (by omega), Nat.add_sub_cancel_left, zero_ad F (F.mul_lt _ _)]
theorem pmul_assoc {D : FD} (F : Fld D) {a b c : Nat → Nat} {m : Nat} (hm : Bd m b) : ∀ n N, n + m ≤ N → pmul D N (pmul D n a b) c = pmul D n a (pmul D m b c)
  | 0, N, _ => by rw [pmul, pmul]; exact pmul_zeros F c (fun _ _ => rfl) N
  | n + 1, N, h => by
    have hN : N = n + (N - n) := by omega
    rw [pmul, pmul_add_l F (el_mul F a b n) (el_sh F n (el_scale F _ _)), pmul_assoc F hm n N (by omega)]
    conv => lhs; arg 3; rw [hN, pmul_sh_l F, pmul_scale_l F, pmul_to F c hm (by omega)]
    rfl
end Go.Proofs.YtpgaakjldlcejaaDoor
