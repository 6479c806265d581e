/- Texts of ours, one behind the other: N1 N2 N3 N4 U1 U2. -/
import Derived.Test.YtjkncdmbcckcdabZM3
import Derived.Test.YtjkncdmbcckcdabZR5
/- Plain mathematics of polynomials over a field: sums, multiples, shifts, products. A polynomial is the function of its coefficients. No Go text here. -/
namespace Go.Proofs.Ytjkncdmbcckcdab

def FD.ad (D : FD) (a b : Nat) : Nat := sumD D.p D.q a b
def FD.ng (D : FD) (a : Nat) : Nat := negD D.p D.q a
def FD.sb (D : FD) (a b : Nat) : Nat := D.ad a (D.ng b)

/-- All coefficients are elements. -/
def El (D : FD) (c : Nat → Nat) : Prop := ∀ i, c i < D.q

theorem ad_lt {D : FD} (F : Fld D) {a b : Nat} (ha : a < D.q) (hb : b < D.q) : D.ad a b < D.q := F.sum_lt a b ha hb
theorem ad_comm {D : FD} (F : Fld D) (a b : Nat) : D.ad a b = D.ad b a := F.add_comm a b
theorem ad_assoc {D : FD} (F : Fld D) {a b c : Nat} (ha : a < D.q) (hb : b < D.q) (hc : c < D.q) : D.ad (D.ad a b) c = D.ad a (D.ad b c) := F.add_assoc a b c ha hb hc
theorem ad_zero {D : FD} (F : Fld D) {a : Nat} (ha : a < D.q) : D.ad a 0 = a := F.sum_zero a ha
theorem zero_ad {D : FD} (F : Fld D) {a : Nat} (ha : a < D.q) : D.ad 0 a = a := by rw [ad_comm F]; exact ad_zero F ha
theorem zero_lt' {D : FD} (F : Fld D) : 0 < D.q := by have := F.q2; omega
theorem one_lt' {D : FD} (F : Fld D) : 1 < D.q := by have := F.q2; omega
theorem ng_lt {D : FD} (F : Fld D) {a : Nat} (ha : a < D.q) : D.ng a < D.q := F.neg_lt a ha
theorem ad_ng {D : FD} (F : Fld D) {a : Nat} (ha : a < D.q) : D.ad a (D.ng a) = 0 := F.sum_neg a ha
theorem ng_zero {D : FD} (F : Fld D) : D.ng 0 = 0 := by
  have h := ad_ng F (zero_lt' F)
  rwa [zero_ad F (ng_lt F (zero_lt' F))] at h
theorem sb_lt {D : FD} (F : Fld D) {a b : Nat} (ha : a < D.q) (hb : b < D.q) : D.sb a b < D.q := ad_lt F ha (ng_lt F hb)
theorem sb_zero {D : FD} (F : Fld D) {a : Nat} (ha : a < D.q) : D.sb a 0 = a := by rw [FD.sb, ng_zero F, ad_zero F ha]
theorem sb_self {D : FD} (F : Fld D) {a : Nat} (ha : a < D.q) : D.sb a a = 0 := ad_ng F ha
theorem ad_sb {D : FD} (F : Fld D) {a b : Nat} (ha : a < D.q) (hb : b < D.q) : D.ad b (D.sb a b) = a := by
  rw [FD.sb, ad_comm F a, ← ad_assoc F hb (ng_lt F hb) ha, ad_ng F hb, zero_ad F ha]
theorem sb_ad {D : FD} (F : Fld D) {a b : Nat} (ha : a < D.q) (hb : b < D.q) : D.sb (D.ad a b) b = a := by
  rw [FD.sb, ad_assoc F ha hb (ng_lt F hb), ad_ng F hb, ad_zero F ha]
theorem ad_cancel {D : FD} (F : Fld D) {a b c : Nat} (ha : a < D.q) (hb : b < D.q) (hc : c < D.q) (h : D.ad a b = D.ad a c) : b = c := by
  have h1 := sb_ad F hb ha
  have h2 := sb_ad F hc ha
  rw [ad_comm F b a, h, ad_comm F a c, h2] at h1
  exact h1.symm
theorem sb_eq_zero {D : FD} (F : Fld D) {a b : Nat} (ha : a < D.q) (hb : b < D.q) (h : D.sb a b = 0) : a = b := by
  have := ad_sb F ha hb
  rw [h, ad_zero F hb] at this
  exact this.symm
theorem mul0 {D : FD} (_F : Fld D) (a : Nat) : D.mul a 0 = 0 := by simp [FD.mul]
theorem zmul {D : FD} (_F : Fld D) (a : Nat) : D.mul 0 a = 0 := by simp [FD.mul]
theorem mul_ad {D : FD} (F : Fld D) {a b c : Nat} (hb : b < D.q) (hc : c < D.q) : D.mul a (D.ad b c) = D.ad (D.mul a b) (D.mul a c) := F.distrib a b c hb hc
theorem ad_mul {D : FD} (F : Fld D) {a b c : Nat} (hb : b < D.q) (hc : c < D.q) : D.mul (D.ad b c) a = D.ad (D.mul b a) (D.mul c a) := by
  rw [F.mul_comm, mul_ad F hb hc, F.mul_comm a b, F.mul_comm a c]
theorem mul1 {D : FD} (F : Fld D) {a : Nat} (ha : a < D.q) : D.mul a 1 = a := F.mul_one a ha
theorem omul {D : FD} (F : Fld D) {a : Nat} (ha : a < D.q) : D.mul 1 a = a := by rw [F.mul_comm]; exact F.mul_one a ha
theorem mul_ng {D : FD} (F : Fld D) {a b : Nat} (hb : b < D.q) : D.mul a (D.ng b) = D.ng (D.mul a b) := by
  refine ad_cancel F (F.mul_lt a b) (F.mul_lt a _) (ng_lt F (F.mul_lt a b)) ?_
  rw [ad_ng F (F.mul_lt a b), ← mul_ad F hb (ng_lt F hb), ad_ng F hb, mul0 F]
theorem ad4 {D : FD} (F : Fld D) {a b c d : Nat} (ha : a < D.q) (hb : b < D.q) (hc : c < D.q) (hd : d < D.q) : D.ad (D.ad a b) (D.ad c d) = D.ad (D.ad a c) (D.ad b d) := by
  rw [ad_assoc F ha hb (ad_lt F hc hd), ← ad_assoc F hb hc hd, ad_comm F b c, ad_assoc F hc hb hd, ← ad_assoc F ha hc (ad_lt F hb hd)]

def padd (D : FD) (a b : Nat → Nat) : Nat → Nat := fun k => D.ad (a k) (b k)
def psub (D : FD) (a b : Nat → Nat) : Nat → Nat := fun k => D.sb (a k) (b k)
def pscale (D : FD) (s : Nat) (b : Nat → Nat) : Nat → Nat := fun k => D.mul s (b k)
def pnil : Nat → Nat := fun _ => 0
/-- Nothing from the place n on. -/
def Bd (n : Nat) (a : Nat → Nat) : Prop := ∀ k, n ≤ k → a k = 0

theorem el_nil {D : FD} (F : Fld D) : El D pnil := fun _ => zero_lt' F
theorem el_add {D : FD} (F : Fld D) {a b : Nat → Nat} (ha : El D a) (hb : El D b) : El D (padd D a b) := fun k => ad_lt F (ha k) (hb k)
theorem el_sub {D : FD} (F : Fld D) {a b : Nat → Nat} (ha : El D a) (hb : El D b) : El D (psub D a b) := fun k => sb_lt F (ha k) (hb k)
theorem el_scale {D : FD} (F : Fld D) (s : Nat) (b : Nat → Nat) : El D (pscale D s b) := fun _ => F.mul_lt _ _
theorem padd_assoc {D : FD} (F : Fld D) {a b c : Nat → Nat} (ha : El D a) (hb : El D b) (hc : El D c) : padd D (padd D a b) c = padd D a (padd D b c) := by funext k; exact ad_assoc F (ha k) (hb k) (hc k)
theorem padd_nil {D : FD} (F : Fld D) {a : Nat → Nat} (ha : El D a) : padd D a pnil = a := by funext k; exact ad_zero F (ha k)
theorem nil_padd {D : FD} (F : Fld D) {a : Nat → Nat} (ha : El D a) : padd D pnil a = a := by funext k; exact zero_ad F (ha k)
theorem padd4 {D : FD} (F : Fld D) {a b c d : Nat → Nat} (ha : El D a) (hb : El D b) (hc : El D c) (hd : El D d) : padd D (padd D a b) (padd D c d) = padd D (padd D a c) (padd D b d) := by funext k; exact ad4 F (ha k) (hb k) (hc k) (hd k)
theorem psub_add {D : FD} (F : Fld D) {a b : Nat → Nat} (ha : El D a) (hb : El D b) : padd D b (psub D a b) = a := by funext k; exact ad_sb F (ha k) (hb k)
theorem psub_self {D : FD} (F : Fld D) {a : Nat → Nat} (ha : El D a) : psub D a a = pnil := by funext k; exact sb_self F (ha k)
theorem psub_nil {D : FD} (F : Fld D) {a : Nat → Nat} (ha : El D a) : psub D a pnil = a := by funext k; exact sb_zero F (ha k)
theorem psub_eq_nil {D : FD} (F : Fld D) {a b : Nat → Nat} (ha : El D a) (hb : El D b) (h : psub D a b = pnil) : a = b := by
  funext k; exact sb_eq_zero F (ha k) (hb k) (congrFun h k)

theorem pscale_zero {D : FD} (F : Fld D) (b : Nat → Nat) : pscale D 0 b = pnil := by funext k; exact zmul F _
theorem pscale_one {D : FD} (F : Fld D) {b : Nat → Nat} (hb : El D b) : pscale D 1 b = b := by funext k; exact omul F (hb k)
theorem pscale_nil {D : FD} (F : Fld D) (s : Nat) : pscale D s pnil = pnil := by funext k; exact mul0 F _
theorem pscale_add {D : FD} (F : Fld D) (s : Nat) {a b : Nat → Nat} (ha : El D a) (hb : El D b) : pscale D s (padd D a b) = padd D (pscale D s a) (pscale D s b) := by funext k; exact mul_ad F (ha k) (hb k)
theorem pscale_pscale {D : FD} (F : Fld D) (s t : Nat) (b : Nat → Nat) : pscale D s (pscale D t b) = pscale D (D.mul s t) b := by funext k; exact (F.mul_assoc s t (b k)).symm
theorem add_pscale {D : FD} (F : Fld D) {s t : Nat} (hs : s < D.q) (ht : t < D.q) (b : Nat → Nat) : pscale D (D.ad s t) b = padd D (pscale D s b) (pscale D t b) := by funext k; exact ad_mul F hs ht
end Go.Proofs.Ytjkncdmbcckcdab

/- Plain mathematics of polynomials, gone on: degrees, division, what is left, what divides. No Go text here. -/
namespace Go.Proofs.Ytjkncdmbcckcdab

theorem Bd.mono {c : Nat → Nat} {n m : Nat} (h : Bd n c) (hm : n ≤ m) : Bd m c := fun k hk => h k (by omega)

end Go.Proofs.Ytjkncdmbcckcdab

/- Plain mathematics of polynomials, gone on: with 1 at the end; common divisors, as they are looked for. No Go text here. -/
namespace Go.Proofs.Ytjkncdmbcckcdab

/-- What undoes an element. -/
def FD.iv (D : FD) (x : Nat) : Nat := D.pw x (D.q - 2)
theorem iv_lt {D : FD} (hD : D ∈ fieldsL) (x : Nat) : D.iv x < D.q := pw_lt hD x _
theorem iv_is {D : FD} (hD : D ∈ fieldsL) {x : Nat} (hx : x < D.q) (h0 : x ≠ 0) : D.mul x (D.iv x) = 1 := inv_is hD hx h0
end Go.Proofs.Ytjkncdmbcckcdab

/- Plain mathematics of polynomials, gone on: values of sums and products. No Go text here. -/
namespace Go.Proofs.Ytjkncdmbcckcdab

end Go.Proofs.Ytjkncdmbcckcdab

/- The program's polynomials: lists of numbers, and what trim leaves. -/
namespace Go.Proofs.Ytjkncdmbcckcdab
open Go.RowKit

/-- The first n numbers of the slice that begins at ao are the coefficients c. -/
def Sl (ao : Option Addr) (n : Nat) (c : Nat → Nat) (w : World) : Prop := ∀ j, j < n → ∃ b off, ao = some ⟨b, off, none⟩ ∧ w.cell? ⟨b, off + j, none⟩ = some (.int .i64 (c j : Nat))
/-- A slice's memory lies below a block number. -/
def LtB (ao : Option Addr) (B : Nat) : Prop := ∀ x, ao = some x → x.block < B
/-- A slice's memory lies behind a block number. -/
def GeB (ao : Option Addr) (B : Nat) : Prop := ∀ x, ao = some x → B ≤ x.block

theorem Sl.drewN {ao : Option Addr} {n : Nat} {c : Nat → Nat} {w : World} (h : Sl ao n c w) (k : Nat) : Sl ao n c (w.drewN k) := h
theorem Sl.less {ao : Option Addr} {n m : Nat} {c : Nat → Nat} {w : World} (h : Sl ao n c w) (hm : m ≤ n) : Sl ao m c w := fun j hj => h j (by omega)
theorem Sl.congr {ao : Option Addr} {n : Nat} {c d : Nat → Nat} {w : World} (h : Sl ao n c w) (e : ∀ j, j < n → c j = d j) : Sl ao n d w := fun j hj => by rw [← e j hj]; exact h j hj
theorem Sl.below {ao : Option Addr} {n B : Nat} {c : Nat → Nat} {w w' : World} (h : Sl ao n c w) (hb : Below B w w') (hB : LtB ao B) : Sl ao n c w' := fun j hj => by
  obtain ⟨b, off, rfl, hc⟩ := h j hj
  exact ⟨b, off, rfl, ((bcell hb).1 b (off + j) (hB _ rfl)).trans hc⟩
theorem LtB.mono {ao : Option Addr} {B C : Nat} (h : LtB ao B) (hBC : B ≤ C) : LtB ao C := fun x hx => Nat.lt_of_lt_of_le (h x hx) hBC
theorem GeB.mono {ao : Option Addr} {B C : Nat} (h : GeB ao C) (hBC : B ≤ C) : GeB ao B := fun x hx => Nat.le_trans hBC (h x hx)

end Go.Proofs.Ytjkncdmbcckcdab

/- The program's polynomials: values, products. -/
namespace Go.Proofs.Ytjkncdmbcckcdab
open Go.RowKit

/-- A row's first cells are the coefficients c. -/
def Row (g N : Nat) (c : Nat → Nat) (w : World) : Prop := ∃ cap f, RowF g cap 3 f w ∧ N ≤ cap ∧ ∀ k, k < N → f k = .int .i64 (c k : Nat)
theorem Row.cell {g N : Nat} {c : Nat → Nat} {w : World} (h : Row g N c w) (k : Nat) (hk : k < N) : w.cell? ⟨g, k, none⟩ = some (.int .i64 (c k : Nat)) := by
  obtain ⟨cap, f, hf, hN, he⟩ := h
  rw [hf.cell k (by omega), he k hk]
theorem Row.free {g N : Nat} {c : Nat → Nat} {w : World} (h : Row g N c w) (k : Nat) : w.frozen? ⟨g, k, none⟩ = false := by
  obtain ⟨cap, f, hf, hN, he⟩ := h
  exact hf.free k
theorem Row.lt {g N : Nat} {c : Nat → Nat} {w : World} (h : Row g N c w) : g < w.heap.size := by
  obtain ⟨cap, f, hf, hN, he⟩ := h
  exact hf.lt
theorem Row.drewN {g N : Nat} {c : Nat → Nat} {w : World} (h : Row g N c w) (k : Nat) : Row g N c (w.drewN k) := by
  obtain ⟨cap, f, hf, hN, he⟩ := h
  exact ⟨cap, f, hf.drewN k, hN, he⟩
theorem Row.store {g N : Nat} {c d : Nat → Nat} {w : World} (h : Row g N c w) (k v : Nat) (hd : ∀ j, j < N → d j = if j = k then v else c j) : Row g N d (w.setCell ⟨g, k, none⟩ (.int .i64 (v : Nat))) := by
  obtain ⟨cap, f, hf, hN, he⟩ := h
  refine ⟨cap, _, hf.store k _, hN, fun j hj => ?_⟩
  unfold upd
  rw [hd j hj]
  split
  · rfl
  · exact he j hj
theorem Row.congr {g N : Nat} {c d : Nat → Nat} {w : World} (h : Row g N c w) (e : ∀ k, k < N → c k = d k) : Row g N d w := by
  obtain ⟨cap, f, hf, hN, he⟩ := h
  exact ⟨cap, f, hf, hN, fun k hk => by rw [he k hk, e k hk]⟩
theorem Row.less {g N M : Nat} {c : Nat → Nat} {w : World} (h : Row g N c w) (hM : M ≤ N) : Row g M c w := by
  obtain ⟨cap, f, hf, hN, he⟩ := h
  exact ⟨cap, f, hf, by omega, fun k hk => he k (by omega)⟩
theorem Row.below {g N B : Nat} {c : Nat → Nat} {w w' : World} (h : Row g N c w) (hb : Below B w w') (hB : g < B) : Row g N c w' := by
  obtain ⟨cap, f, hf, hN, he⟩ := h
  exact ⟨cap, f, hf.below hb hB, hN, he⟩
theorem Row.other {g N : Nat} {c : Nat → Nat} {w w' : World} (h : Row g N c w) (e : w'.heap[g]? = w.heap[g]?) : Row g N c w' := by
  obtain ⟨cap, f, hf, hN, he⟩ := h
  exact ⟨cap, f, hf.other e, hN, he⟩
theorem Row.sl {g N : Nat} {c : Nat → Nat} {w : World} (h : Row g N c w) {n : Nat} (hn : n ≤ N) : Sl (some ⟨g, 0, none⟩) n c w := fun j hj => ⟨g, 0, rfl, by rw [Nat.zero_add]; exact h.cell j (by omega)⟩
theorem row_zeros {base n : Nat} {w : World} (h : OwnI base (.slice (some ⟨base, 0, none⟩) n n) (List.replicate n 0) w) : Row base n pnil w := by
  rcases h.2 with ⟨h1, _⟩ | ⟨g, cap, cur, hv, hg, hh, hle, hcm, hsz, htake⟩
  · cases h1
  · simp only [List.length_replicate, Value.slice.injEq, Option.some.injEq, Addr.mk.injEq, and_true, true_and] at hv
    obtain ⟨rfl, rfl⟩ := hv
    by_cases h0 : n = 0
    · exact ⟨n, fun _ => .int .i64 0, ⟨cur, hh, by omega, fun o ho => by omega⟩, Nat.le_refl _, fun k hk => by omega⟩
    · obtain ⟨gl, cl, fl, hvl, hgl, hgl', hll, hcl, hrl, hfl⟩ := h.row n (by simp) (by omega)
      simp only [Value.slice.injEq, Option.some.injEq, Addr.mk.injEq, and_true, true_and] at hvl
      obtain ⟨rfl, rfl⟩ := hvl
      exact ⟨n, fl, hrl, Nat.le_refl _, fun k hk => by rw [hfl k hk, list_getD_replicate]; rfl⟩

/-- The slice v, made behind block number base, holds the n coefficients c. -/
def OwnP (base : Nat) (v : Value) (n : Nat) (c : Nat → Nat) (w : World) : Prop :=
  ∃ ao cap, v = .slice ao n cap ∧ n ≤ cap ∧ cap ≤ 9223372036854775807 ∧ GeB ao base ∧ LtB ao w.heap.size ∧ (ao = none → cap = 0) ∧ (0 < n → ∃ g, ao = some ⟨g, 0, none⟩ ∧ Row g n c w)
theorem OwnP.below {base B n : Nat} {v : Value} {c : Nat → Nat} {w w' : World} (h : OwnP base v n c w) (hb : Below B w w') (hB : w.heap.size ≤ B) : OwnP base v n c w' := by
  obtain ⟨ao, cap, hv, h1, h2, hg, hl, hz, hr⟩ := h
  refine ⟨ao, cap, hv, h1, h2, hg, hl.mono hb.size, hz, fun h0 => ?_⟩
  obtain ⟨g, e, hrow⟩ := hr h0
  exact ⟨g, e, hrow.below hb (Nat.lt_of_lt_of_le (hl _ e) hB)⟩
theorem OwnP.mono {base base' n : Nat} {v : Value} {c : Nat → Nat} {w : World} (h : OwnP base v n c w) (hb : base' ≤ base) : OwnP base' v n c w := by
  obtain ⟨ao, cap, hv, h1, h2, hg, hl, hz, hr⟩ := h
  exact ⟨ao, cap, hv, h1, h2, hg.mono hb, hl, hz, hr⟩
theorem OwnP.congr {base n : Nat} {v : Value} {c d : Nat → Nat} {w : World} (h : OwnP base v n c w) (e : ∀ k, k < n → c k = d k) : OwnP base v n d w := by
  obtain ⟨ao, cap, hv, h1, h2, hg, hl, hz, hr⟩ := h
  refine ⟨ao, cap, hv, h1, h2, hg, hl, hz, fun h0 => ?_⟩
  obtain ⟨g, e', hrow⟩ := hr h0
  exact ⟨g, e', hrow.congr e⟩
theorem OwnP.drewN {base n : Nat} {v : Value} {c : Nat → Nat} {w : World} (h : OwnP base v n c w) (k : Nat) : OwnP base v n c (w.drewN k) := by
  obtain ⟨ao, cap, hv, h1, h2, hg, hl, hz, hr⟩ := h
  refine ⟨ao, cap, hv, h1, h2, hg, hl, hz, fun h0 => ?_⟩
  obtain ⟨g, e', hrow⟩ := hr h0
  exact ⟨g, e', hrow.drewN k⟩
/-- Opened: where it lies. -/
theorem OwnP.open {base n : Nat} {v : Value} {c : Nat → Nat} {w : World} (h : OwnP base v n c w) : ∃ ao cap, v = .slice ao n cap ∧ n ≤ cap ∧ cap ≤ 9223372036854775807 ∧ GeB ao base ∧ LtB ao w.heap.size ∧ (ao = none → cap = 0) ∧ Sl ao n c w := by
  obtain ⟨ao, cap, hv, h1, h2, hg, hl, hz, hr⟩ := h
  refine ⟨ao, cap, hv, h1, h2, hg, hl, hz, fun j hj => ?_⟩
  obtain ⟨g, e, hrow⟩ := hr (by omega)
  exact ⟨g, 0, e, by rw [Nat.zero_add]; exact hrow.cell j hj⟩

end Go.Proofs.Ytjkncdmbcckcdab
