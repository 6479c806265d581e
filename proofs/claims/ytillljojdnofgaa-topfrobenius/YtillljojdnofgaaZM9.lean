/- Plain mathematics, gone on: the laws that follow from the kernel's checks. -/
import Derived.Test.YtillljojdnofgaaZM8
namespace Go.Proofs.Ytillljojdnofgaa
open Go.RowKit

theorem mul_zero' (D : FD) (a : Nat) : D.mul a 0 = 0 := by simp [FD.mul]
theorem zero_mul' (D : FD) (a : Nat) : D.mul 0 a = 0 := by simp [FD.mul]
theorem inv_is {D : FD} (hD : D ∈ fieldsL) {x : Nat} (hx : x < D.q) (h0 : x ≠ 0) : D.mul x (D.pw x (D.q - 2)) = 1 := by
  have h := t11 hD hx h0
  rw [inv_nat hD hx h0, mulZ_nat (fld hD) hx (pw_lt hD x _)] at h
  exact_mod_cast h
/-- What a times something is b. -/
theorem part_of {D : FD} (hD : D ∈ fieldsL) {a b : Nat} (ha : a < D.q) (h0 : a ≠ 0) (hb : b < D.q) : ∃ c, c < D.q ∧ D.mul a c = b :=
  ⟨D.mul (D.pw a (D.q - 2)) b, (fld hD).mul_lt _ _, by rw [← (fld hD).mul_assoc, inv_is hD ha h0, (fld hD).mul_comm, (fld hD).mul_one b hb]⟩
theorem sum_part {D : FD} (hD : D ∈ fieldsL) {a c : Nat} (ha : a < D.q) (hc : c < D.q) : sumD D.p D.q a (D.mul a c) = D.mul a (sumD D.p D.q 1 c) := by
  rw [(fld hD).distrib a 1 c (by have := (fld hD).q2; omega) hc, (fld hD).mul_one a ha]

/-! ### Frobenius -/
theorem frob1_mul {D : FD} (hD : D ∈ fieldsL) (a b : Nat) : D.frob1 (D.mul a b) = D.mul (D.frob1 a) (D.frob1 b) := by
  by_cases ha : a = 0
  · rw [ha, zero_mul', show D.frob1 0 = 0 from rfl, zero_mul']
  by_cases hb : b = 0
  · rw [hb, mul_zero', show D.frob1 0 = 0 from rfl, mul_zero']
  have h := (fld hD).mul_ne a b ha hb
  have h1 := pw_ne hD a D.p
  have h2 := pw_ne hD b D.p
  rw [FD.frob1, if_neg h.1, FD.frob1, if_neg ha, FD.frob1, if_neg hb]
  unfold FD.mul
  rw [if_neg (by omega), if_neg (by omega), h1.2, h2.2]
  have h' := h.2
  unfold FD.mul at h'
  rw [if_neg (by omega)] at h'
  unfold FD.pw
  rw [h', Nat.mul_mod, Nat.mod_mod, ← Nat.mul_mod, Nat.add_mul, Nat.add_mod]
theorem chk_frob {D : FD} (hD : D ∈ fieldsL) {c : Nat} (hc : c < D.q) : D.frob1 (sumD D.p D.q 1 c) = sumD D.p D.q 1 (D.frob1 c) ∧ D.traceTo c D.m < D.p ∧ D.normTo c D.m < D.p := by
  have h := List.all_eq_true.1 (List.all_eq_true.1 chkFrob_all D hD) c (List.mem_range.2 hc)
  simp only [Bool.and_eq_true, beq_iff_eq, decide_eq_true_eq] at h
  exact ⟨h.1.1, h.1.2, h.2⟩
theorem frob1_add {D : FD} (hD : D ∈ fieldsL) {a b : Nat} (ha : a < D.q) (hb : b < D.q) : D.frob1 (sumD D.p D.q a b) = sumD D.p D.q (D.frob1 a) (D.frob1 b) := by
  have F := fld hD
  by_cases h0 : a = 0
  · rw [h0, F.add_comm, F.sum_zero b hb, show D.frob1 0 = 0 from rfl, F.add_comm, F.sum_zero _ (frob1_lt hD b)]
  · obtain ⟨c, hc, rfl⟩ := part_of hD ha h0 hb
    rw [sum_part hD ha hc, frob1_mul hD, (chk_frob hD hc).1, frob1_mul hD, sum_part hD (frob1_lt hD a) (frob1_lt hD c)]
theorem frobK_mul {D : FD} (hD : D ∈ fieldsL) (a b : Nat) : ∀ k, again D.frob1 k (D.mul a b) = D.mul (again D.frob1 k a) (again D.frob1 k b)
  | 0 => rfl
  | k + 1 => by show D.frob1 (again D.frob1 k _) = D.mul (D.frob1 _) (D.frob1 _); rw [frobK_mul hD a b k, frob1_mul hD]
theorem frobK_add {D : FD} (hD : D ∈ fieldsL) {a b : Nat} (ha : a < D.q) (hb : b < D.q) : ∀ k, again D.frob1 k (sumD D.p D.q a b) = sumD D.p D.q (again D.frob1 k a) (again D.frob1 k b)
  | 0 => rfl
  | k + 1 => by show D.frob1 (again D.frob1 k _) = sumD D.p D.q (D.frob1 _) (D.frob1 _); rw [frobK_add hD ha hb k, frob1_add hD (frob_lt hD a ha k) (frob_lt hD b hb k)]
theorem frob_all {D : FD} (hD : D ∈ fieldsL) {a : Nat} (ha : a < D.q) : again D.frob1 D.m a = a := by
  by_cases h0 : a = 0
  · rw [h0, frob_zero]
  · rw [frob_pw hD a ha h0, ← (fld hD).qp, pw_q hD a ha h0]

/-! ### Traces and norms -/
theorem swap4 {D : FD} (hD : D ∈ fieldsL) {a b c d : Nat} (ha : a < D.q) (hb : b < D.q) (hc : c < D.q) (hd : d < D.q) : sumD D.p D.q (sumD D.p D.q a b) (sumD D.p D.q c d) = sumD D.p D.q (sumD D.p D.q a c) (sumD D.p D.q b d) := by
  have F := fld hD
  rw [F.add_assoc a b _ ha hb (F.sum_lt _ _ hc hd), F.add_assoc a c _ ha hc (F.sum_lt _ _ hb hd), ← F.add_assoc b c d hb hc hd, F.add_comm b c, F.add_assoc c b d hc hb hd]
theorem traceTo_add {D : FD} (hD : D ∈ fieldsL) {a b : Nat} (ha : a < D.q) (hb : b < D.q) : ∀ k, D.traceTo (sumD D.p D.q a b) k = sumD D.p D.q (D.traceTo a k) (D.traceTo b k)
  | 0 => by show 0 = sumD D.p D.q 0 0; rw [(fld hD).sum_zero 0 (by have := (fld hD).q2; omega)]
  | k + 1 => by
    show sumD D.p D.q _ _ = sumD D.p D.q (sumD D.p D.q _ _) (sumD D.p D.q _ _)
    rw [traceTo_add hD ha hb k, frobK_add hD ha hb k, swap4 hD (traceTo_lt hD a ha k) (traceTo_lt hD b hb k) (frob_lt hD a ha k) (frob_lt hD b hb k)]
theorem normTo_mul {D : FD} (hD : D ∈ fieldsL) (a b : Nat) : ∀ k, D.normTo (D.mul a b) k = D.mul (D.normTo a k) (D.normTo b k)
  | 0 => by show 1 = D.mul 1 1; rw [(fld hD).mul_one 1 (by have := (fld hD).q2; omega)]
  | k + 1 => by
    have F := fld hD
    show D.mul _ _ = D.mul (D.mul _ _) (D.mul _ _)
    rw [normTo_mul hD a b k, frobK_mul hD a b k, F.mul_assoc, F.mul_assoc, ← F.mul_assoc (D.normTo b k), F.mul_comm (D.normTo b k), F.mul_assoc]

/-! ### Copies -/
theorem chk_emb {D E : FD} (hD : D ∈ fieldsL) (hE : E ∈ fieldsL) (h : E.p = D.p ∧ D.m % E.m = 0) : D.emb E (D.root E) 1 = 1 ∧ D.emb E (D.root E) 0 = 0 ∧ ∀ c, c < E.q → D.emb E (D.root E) (sumD E.p E.q 1 c) = sumD D.p D.q 1 (D.emb E (D.root E) c) ∧ D.emb E (D.root E) (E.st c) = D.mul (D.emb E (D.root E) c) (D.emb E (D.root E) E.gen) ∧ again D.frob1 (E.m % D.m) (D.emb E (D.root E) c) = D.emb E (D.root E) c := by
  have k := List.all_eq_true.1 (List.all_eq_true.1 chkEmb_all D hD) E hE
  have hb : D.holdsB E = true := by simp [FD.holdsB, h.1, h.2]
  rw [hb] at k
  simp only [Bool.not_true, Bool.false_or, chkEmb, Bool.and_eq_true, beq_iff_eq] at k
  refine ⟨k.1.1, k.1.2, fun c hc => ?_⟩
  have k2 := List.all_eq_true.1 k.2 c (List.mem_range.2 hc)
  simp only [Bool.and_eq_true, beq_iff_eq] at k2
  exact ⟨k2.1.1, k2.1.2, k2.2⟩
theorem emb_lt {D E : FD} (hD : D ∈ fieldsL) (hE : E ∈ fieldsL) (h : E.p = D.p ∧ D.m % E.m = 0) (a : Nat) : D.emb E (D.root E) a < D.q := val_lt hD _ _ _ (fun j => dg_ltq hD hE h.1 a j) _
theorem emb_again {D E : FD} (hD : D ∈ fieldsL) (hE : E ∈ fieldsL) (h : E.p = D.p ∧ D.m % E.m = 0) (a : Nat) (ha : a < E.q) : ∀ k, again E.st k a < E.q ∧ D.emb E (D.root E) (again E.st k a) = D.mul (D.emb E (D.root E) a) (again (fun r => D.mul r (D.emb E (D.root E) E.gen)) k 1)
  | 0 => ⟨ha, ((fld hD).mul_one _ (emb_lt hD hE h a)).symm⟩
  | k + 1 => by
    have i := emb_again hD hE h a ha k
    refine ⟨(fld hE).st_lt _ i.1, ?_⟩
    show D.emb E (D.root E) (E.st (again E.st k a)) = D.mul _ (D.mul (again _ k 1) _)
    rw [((chk_emb hD hE h).2.2 _ i.1).2.1, i.2, (fld hD).mul_assoc]
theorem emb_mul {D E : FD} (hD : D ∈ fieldsL) (hE : E ∈ fieldsL) (h : E.p = D.p ∧ D.m % E.m = 0) {a b : Nat} (ha : a < E.q) (hb : b < E.q) : D.emb E (D.root E) (E.mul a b) = D.mul (D.emb E (D.root E) a) (D.emb E (D.root E) b) := by
  by_cases h0 : a = 0
  · rw [h0, zero_mul', (chk_emb hD hE h).2.1, zero_mul']
  · have h1 : 1 < E.q := (fld hE).q2
    have i1 := (emb_again hD hE h 1 h1 (E.lg a)).2
    rw [((fld hE).lg_is a ha h0).2, (chk_emb hD hE h).1, (fld hD).mul_comm] at i1
    rw [(fld hE).mul_eq a b h0 hb, (emb_again hD hE h b hb (E.lg a)).2, i1, (fld hD).mul_assoc, (fld hD).mul_comm 1, (fld hD).mul_one _ (emb_lt hD hE h b), (fld hD).mul_comm]
theorem emb_add {D E : FD} (hD : D ∈ fieldsL) (hE : E ∈ fieldsL) (h : E.p = D.p ∧ D.m % E.m = 0) {a b : Nat} (ha : a < E.q) (hb : b < E.q) : D.emb E (D.root E) (sumD E.p E.q a b) = sumD D.p D.q (D.emb E (D.root E) a) (D.emb E (D.root E) b) := by
  by_cases h0 : a = 0
  · rw [h0, (fld hE).add_comm, (fld hE).sum_zero b hb, (chk_emb hD hE h).2.1, (fld hD).add_comm, (fld hD).sum_zero _ (emb_lt hD hE h b)]
  · obtain ⟨c, hc, rfl⟩ := part_of hE ha h0 hb
    rw [sum_part hE ha hc, emb_mul hD hE h ha ((fld hE).sum_lt _ _ (fld hE).q2 hc), ((chk_emb hD hE h).2.2 c hc).1, emb_mul hD hE h ha hc, sum_part hD (emb_lt hD hE h a) (emb_lt hD hE h c)]
theorem emb_ne {D E : FD} (hD : D ∈ fieldsL) (hE : E ∈ fieldsL) (h : E.p = D.p ∧ D.m % E.m = 0) {a : Nat} (ha : a < E.q) (h0 : a ≠ 0) : D.emb E (D.root E) a ≠ 0 := by
  intro e
  have i := emb_mul hD hE h ha (pw_lt hE a (E.q - 2))
  rw [inv_is hE ha h0, e, zero_mul', (chk_emb hD hE h).1] at i
  cases i
theorem emb_inj {D E : FD} (hD : D ∈ fieldsL) (hE : E ∈ fieldsL) (h : E.p = D.p ∧ D.m % E.m = 0) {a b : Nat} (ha : a < E.q) (hb : b < E.q) (e : D.emb E (D.root E) a = D.emb E (D.root E) b) : a = b := by
  have F := fld hE
  have hn := F.neg_lt b hb
  have i1 := emb_add hD hE h ha hn
  have i2 := emb_add hD hE h hb hn
  rw [e, ← i2] at i1
  have hz : sumD E.p E.q b (negD E.p E.q b) = 0 := F.sum_neg b hb
  rw [hz, (chk_emb hD hE h).2.1] at i1
  by_cases k : sumD E.p E.q a (negD E.p E.q b) = 0
  · rw [F.add_comm] at k hz
    exact F.neg_uniq _ _ _ hn ha hb k hz
  · exact absurd i1 (emb_ne hD hE h (F.sum_lt _ _ ha hn) k)
theorem emb_in {D E : FD} (hD : D ∈ fieldsL) (hE : E ∈ fieldsL) (h : E.p = D.p ∧ D.m % E.m = 0) {a : Nat} (ha : a < E.q) : ((D.emb E (D.root E) a : Nat) : Int) ∈ D.stayTo E.m D.q := by
  unfold FD.stayTo
  exact List.mem_map.2 ⟨_, List.mem_filter.2 ⟨List.mem_range.2 (emb_lt hD hE h a), beq_iff_eq.2 ((chk_emb hD hE h).2.2 a ha).2.2⟩, rfl⟩
theorem stay_len {D E : FD} (hD : D ∈ fieldsL) (hE : E ∈ fieldsL) (h : E.p = D.p ∧ D.m % E.m = 0) : (D.stayTo E.m D.q).length = E.q := by
  have k := List.all_eq_true.1 (List.all_eq_true.1 stay_all D hD) E hE
  have hb : D.holdsB E = true := by simp [FD.holdsB, h.1, h.2]
  rw [hb] at k
  simpa using k
end Go.Proofs.Ytillljojdnofgaa
