/- Texts of ours, one behind the other: R9 R10 R11 R12 R13 R18 R14 B4 B5 B6 R15 M7 R16 R17. -/
import Derived.Test.YtnjbnamcedfjaaaZR8
import Derived.Test.YtnjbnamcedfjaaaZC1
import Derived.Test.YtnjbnamcedfjaaaZB3
import Derived.Deep.RegionWith
import Derived.Deep.RegionHeld3
/- The reference: no field; what undoes a product, powers, logarithms. -/
namespace Go.Proofs.Ytnjbnamcedfjaaa
open Go.RowKit

theorem pp_zero : (allB 65 fun q => decide (q < 2) || !((pp q).2 == 0) || (pp q).1 == 0) = true := by decide +kernel
def rf0 : Value := .agg #[.int .i64 0, .int .i64 0, .int .i64 0, .int .i64 0, .slice none 0 0]

set_option maxHeartbeats 2000000 in
theorem rfield_none (q : Int) (w : World) (h : ∀ D ∈ fieldsL, (D.q : Int) ≠ q) :
    Calls Try.prog 22 #[.int .i64 q] w fun e w' => e = .returned (.tuple #[rf0, .int .i64 1]) ∧ Below w.heap.size w w' := by
  unfold rf0
  by_cases h0 : q < 2
  · clear h
    go_enter Try.func22, Try.ntmps22
    go_wp2
    exact bodyPost_ret (v := .tuple #[.agg #[.int .i64 0, .int .i64 0, .int .i64 0, .int .i64 0, .slice none 0 0], .int .i64 1]) (by simp [results, Try.results22, go_sem]) rfl ⟨rfl, (Below.refl _ _).alloc (Nat.le_refl _) _⟩
  by_cases h1 : 64 < q
  · clear h
    go_enter Try.func22, Try.ntmps22
    go_wp2
    exact bodyPost_ret (v := .tuple #[.agg #[.int .i64 0, .int .i64 0, .int .i64 0, .int .i64 0, .slice none 0 0], .int .i64 1]) (by simp [results, Try.results22, go_sem]) rfl ⟨rfl, (Below.refl _ _).alloc (Nat.le_refl _) _⟩
  obtain ⟨n, rfl⟩ := Int.eq_ofNat_of_zero_le (show 0 ≤ q from by omega)
  have hz : (pp n).1 = 0 := by
    have h3 := no_field (q := n) (by omega) (fun D hD e => h D hD (by rw [e]))
    have h4 := allB_of pp_zero n (by omega)
    rcases h3 with h3 | h3
    · omega
    · simp only [h3, beq_self_eq_true, Bool.not_true, Bool.or_false, Bool.or_eq_true, decide_eq_true_eq, beq_iff_eq] at h4
      rcases h4 with h4 | h4
      · omega
      · exact h4
  have HZ : Hid ((pp n).1 = 0) := hz
  clear h hz
  go_enter Try.func22, Try.ntmps22
  go_wp2_with fail
  refine (prime_any n _ (by omega) (by omega)).mono ?_
  rintro e w' ⟨rfl, rfl⟩
  rw [HZ.out]
  go_wp2
  exact bodyPost_ret (v := .tuple #[.agg #[.int .i64 0, .int .i64 0, .int .i64 0, .int .i64 0, .slice none 0 0], .int .i64 1]) (by simp [results, Try.results22, go_sem]) rfl ⟨rfl, (Below.refl _ _).alloc (Nat.le_refl _) _⟩

theorem rfield_any {D : FD} (hD : D ∈ fieldsL) (w : World) :
    Calls Try.prog 22 #[.int .i64 D.q] w fun e w' => ∃ v, e = .returned (.tuple #[rf D.q D.p D.m D.gen v, .int .i64 0]) ∧ OwnI w.heap.size v D.modL w' ∧ ModAt D v D.md w' ∧ Below w.heap.size w w' := by
  by_cases hm : D.m = 1
  · refine (rfield_prime hD hm w).mono ?_
    rintro e w' ⟨v, h1, h2, h3⟩
    exact ⟨v, h1, h2, modAt_one hm (fld hD).p2 v w', h3⟩
  · exact rfield_power hD hm w

/-! ### Plain mathematics -/
theorem inv_uniq {D : FD} (hD : D ∈ fieldsL) (a b : Nat) (ha : a < D.q) (hb : b < D.q) (h0 : a ≠ 0) (h : D.mul a b = 1) : b = D.pw a (D.q - 2) := by
  have F := fld hD
  have h1 := t11 hD ha h0
  rw [inv_nat hD ha h0, mulZ_nat F ha (pw_lt hD _ _)] at h1
  have h1 : D.mul a (D.pw a (D.q - 2)) = 1 := by exact_mod_cast h1
  have h2 := F.mul_assoc (D.pw a (D.q - 2)) a b
  rw [h, F.mul_comm _ a, h1, F.mul_comm 1 b, F.mul_one b hb, F.mul_one _ (pw_lt hD _ _)] at h2
  exact h2
/-! ### Calls -/
set_option maxHeartbeats 4000000 in
theorem rinv_any {D : FD} (hD : D ∈ fieldsL) (gen : Nat) {v : Value} (a : Int) {w : World} (hM : ModAt D v D.md w) :
    Calls Try.prog 121 #[rf D.q D.p D.m gen v, .int .i64 a] w fun e w' => e = .returned (.int .i64 (D.powZ a (-1))) ∧ Below w.heap.size w w' := by
  have F := fld hD
  have h64 := F.q64
  have h2 := F.q2
  have HM : Hid (ModAt D v D.md w ∧ D ∈ fieldsL ∧ Fld D) := ⟨hM, hD, F⟩
  by_cases ha : D.has a = true
  · obtain ⟨x, rfl, hx⟩ := has_nat ha
    by_cases h0 : x = 0
    · have HV : Hid (D.powZ x (-1) = -1) := inv_zero hx h0
      have hz : ((x : Int) == 0) = true := beq_iff_eq.2 (by omega)
      clear hM hD F h0
      unfold rf
      go_enter Try.func121, Try.ntmps121
      go_wp2_with fail
      refine (rhas_any D gen v x _).mono ?_
      rintro e w1 ⟨rfl, hb1⟩
      have HB1 : Hid (Below w.heap.size w w1) := ((Below.refl _ _).alloc (Nat.le_refl _) _).trans (hb1.mono (by simp))
      clear hb1
      go_wp2
      go_ret
      exact ⟨ret_int (by rw [HV.out]), HB1.out⟩
    · obtain ⟨i, hi⟩ : ∃ i, i = D.pw x (D.q - 2) := ⟨_, rfl⟩
      have HV : Hid (D.powZ x (-1) = (i : Nat)) := by show _ = _; rw [inv_nat hD hx h0, hi]
      have hiq : i < D.q := by rw [hi]; exact pw_lt hD _ _
      have hi1 : 1 ≤ i := by have := (pw_ne hD x (D.q - 2)).1; omega
      have HI : Hid (∀ b, b < D.q → (D.mulZ x b = 1 ↔ b = i)) := by
        intro b hb
        rw [mulZ_nat F hx hb]
        constructor
        · intro h; rw [hi]; exact inv_uniq hD x b hx hb h0 (by exact_mod_cast h)
        · intro h
          have h1 := t11 hD hx h0
          rw [inv_nat hD hx h0, mulZ_nat F hx (pw_lt hD _ _)] at h1
          rw [h, hi]; exact h1
      have hz : ((x : Int) == 0) = false := by rw [beq_eq_false_iff_ne]; omega
      clear hM hD F h0 hi
      unfold rf
      go_enter Try.func121, Try.ntmps121
      go_wp2_with fail
      refine (rhas_any D gen v x _).mono ?_
      rintro e w1 ⟨rfl, hb1⟩
      have HX1 : Hid (Box w.heap.size D gen v w1 ∧ Below w.heap.size w w1) := ⟨(box_new D gen v w).below hb1 (by simp), ((Below.refl _ _).alloc (Nat.le_refl _) _).trans (hb1.mono (by simp))⟩
      have hs1 : w.heap.size < w1.heap.size := by have := hb1.size; simp at this; omega
      clear hb1
      go_wp2
      go_loopw [5] (fun j wr => ∃ b : Nat, 1 ≤ b ∧ b ≤ i ∧ j = .int .i64 b ∧ Box w.heap.size D gen v wr ∧ Below w.heap.size w wr ∧ w.heap.size < wr.heap.size) (fun j _ => D.q - (intOf j).toNat)
      case atStart => exact ⟨1, by omega, hi1, rfl, HX1.out.1, HX1.out.2, hs1⟩
      case round =>
        obtain ⟨b, hb1, hbi, rfl, hbox, hbel, hlt⟩ := hrel
        obtain ⟨c0, c1, c2, c3, c4⟩ := hbox
        have HG : Hid (Box w.heap.size D gen v wr ∧ Below w.heap.size w wr) := ⟨⟨c0, c1, c2, c3, c4⟩, hbel⟩
        clear hbel
        have HC : Hid (Calls Try.prog 72 #[.agg #[.int .i64 D.q, .int .i64 D.p, .int .i64 D.m, .int .i64 gen, v], .int .i64 x, .int .i64 b] wr fun e w' => e = .returned (.int .i64 (D.mulZ x b)) ∧ Below wr.heap.size wr w') :=
          rmul_any HM.out.2.1 gen x b (HM.out.1.below HG.out.2)
        have HT := HI.out b (by omega)
        by_cases he : b = i
        · have hm1 : (D.mulZ x b == 1) = true := beq_iff_eq.2 (HT.2 he)
          have HE : Hid (b = i) := he
          clear he HT
          go_wp2_with fail
          refine HC.out.mono ?_
          rintro e w2 ⟨rfl, hb2⟩
          have HB2 : Hid (Below w.heap.size w w2) := HG.out.2.trans (hb2.mono (by omega))
          clear hb2 c0 c1 c2 c3 c4 HC
          go_wp2
          go_ret
          exact ⟨ret_int (by rw [HV.out, HE.out]), HB2.out⟩
        · have hm1 : (D.mulZ x b == 1) = false := beq_eq_false_iff_ne.2 (fun h => he (HT.1 h))
          clear HT
          go_wp2_with fail
          refine HC.out.mono ?_
          rintro e w2 ⟨rfl, hb2⟩
          have HR : Hid (Box w.heap.size D gen v w2 ∧ Below w.heap.size w w2 ∧ w.heap.size < w2.heap.size) := ⟨HG.out.1.below hb2 hlt, HG.out.2.trans (hb2.mono (by omega)), by have := hb2.size; omega⟩
          clear hb2 c0 c1 c2 c3 c4 HC
          go_wp2
          go_roundw
          case rel => exact ⟨b + 1, by omega, by omega, by go_num, HR.out⟩
          case measure => simp [intOf]; omega
  · have ha' : D.has a = false := by simpa using ha
    have HV : Hid (D.powZ a (-1) = -1) := by show _ = _; rw [FD.powZ, if_pos ha']
    clear ha hM hD F
    unfold rf
    go_enter Try.func121, Try.ntmps121
    go_wp2_with fail
    refine (rhas_any D gen v a _).mono ?_
    rintro e w1 ⟨rfl, hb1⟩
    have HB1 : Hid (Below w.heap.size w w1) := ((Below.refl _ _).alloc (Nat.le_refl _) _).trans (hb1.mono (by simp))
    clear hb1
    go_wp2
    go_ret
    exact ⟨ret_int (by rw [HV.out]), HB1.out⟩
end Go.Proofs.Ytnjbnamcedfjaaa

/- The reference: powers, logarithms, and what Frobenius makes. -/
namespace Go.Proofs.Ytnjbnamcedfjaaa
open Go.RowKit

/-! ### Plain mathematics -/
/-- The product, as a call of the reference in whatever world behind. -/
theorem rmul_nat {D : FD} (hD : D ∈ fieldsL) (gen : Nat) {v : Value} {w : World} (hM : ModAt D v D.md w) (a b : Nat) (ha : a < D.q) (hb : b < D.q) (wr : World) (h : Below w.heap.size w wr) :
    Calls Try.prog 72 #[.agg #[.int .i64 D.q, .int .i64 D.p, .int .i64 D.m, .int .i64 gen, v], .int .i64 a, .int .i64 b] wr fun e w' => e = .returned (.int .i64 (D.mul a b : Nat)) ∧ Below wr.heap.size wr w' := by
  rw [← mulZ_nat (fld hD) ha hb]
  exact rmul_any hD gen a b (hM.below h)

/-! ### Calls -/
end Go.Proofs.Ytnjbnamcedfjaaa

/- The reference: logarithms, Frobenius, traces and norms. -/
namespace Go.Proofs.Ytnjbnamcedfjaaa
open Go.RowKit

end Go.Proofs.Ytnjbnamcedfjaaa

/- The reference: traces and norms. -/
namespace Go.Proofs.Ytnjbnamcedfjaaa
open Go.RowKit

end Go.Proofs.Ytnjbnamcedfjaaa

/- The reference: are two lists the same (Same); the elements of a smaller field (Within). -/
namespace Go.Proofs.Ytnjbnamcedfjaaa
open Go.RowKit

/-- The slice v reads as the numbers l. -/
def SliceI (v : Value) (l : List Int) (w : World) : Prop :=
  (l = [] ∧ ∃ ao cap, v = .slice ao 0 cap) ∨ (l ≠ [] ∧ l.length ≤ 1000000 ∧ ∃ b off cap, v = .slice (some ⟨b, off, none⟩) l.length cap ∧ ∀ j, j < l.length → w.cell? ⟨b, off + j, none⟩ = some (.int .i64 (l.getD j 0)))
theorem OwnI.slice {base : Nat} {v : Value} {l : List Int} {w : World} (h : OwnI base v l w) (hl : l.length ≤ 1000000) : SliceI v l w := by
  by_cases e : l = []
  · refine Or.inl ⟨e, ?_⟩
    rcases h.2 with ⟨h1, _⟩ | ⟨g, cap, cur, hv, _⟩
    · exact ⟨none, 0, h1⟩
    · rw [e] at hv; exact ⟨_, cap, hv⟩
  · obtain ⟨g, cap, hv, _, _, hc, _⟩ := h.at e
    exact Or.inr ⟨e, hl, g, 0, cap, hv, fun j hj => by rw [Nat.zero_add]; exact hc j hj⟩
theorem SliceI.below {B : Nat} {v : Value} {l : List Int} {w w' : World} (h : SliceI v l w) (hb : Below B w w') (hB : ∀ k, v.ownBlock = some k → k < B) : SliceI v l w' := by
  rcases h with h | ⟨h1, h2, b, off, cap, rfl, hc⟩
  · exact Or.inl h
  · exact Or.inr ⟨h1, h2, b, off, cap, rfl, fun j hj => ((bcell hb).1 b (off + j) (hB b rfl)).trans (hc j hj)⟩
theorem SliceI.drewN {v : Value} {l : List Int} {w : World} (h : SliceI v l w) (n : Nat) : SliceI v l (w.drewN n) := h

end Go.Proofs.Ytnjbnamcedfjaaa

/- The reference: is a number in a list (In). -/
namespace Go.Proofs.Ytnjbnamcedfjaaa
open Go.RowKit

end Go.Proofs.Ytnjbnamcedfjaaa

/- The reference: the elements of a smaller field within one (Within). -/
namespace Go.Proofs.Ytnjbnamcedfjaaa
open Go.RowKit

end Go.Proofs.Ytnjbnamcedfjaaa

/- A field's calls, gone on: Frobenius, traces, norms. -/
namespace Go.Proofs.Ytnjbnamcedfjaaa
open Go.RowKit

end Go.Proofs.Ytnjbnamcedfjaaa

/- A field's calls, gone on: its modulus, the elements of a smaller field. -/
namespace Go.Proofs.Ytnjbnamcedfjaaa
open Go.RowKit

theorem RowF.own {g n base : Nat} {f : Nat → Value} {l : List Int} {w : World} (h : RowF g n 3 f w) (hl : l.length = n) (hf : ∀ j, j < n → f j = .int .i64 (l.getD j 0)) (hb : base ≤ g) (hn : n ≤ 1000000) : OwnI base (.slice (some ⟨g, 0, none⟩) n n) l w := by
  obtain ⟨cs, h1, h2, h3⟩ := h
  refine ⟨by simp, Or.inr ⟨g, n, cs, by rw [hl], hb, h1, by omega, by unfold maxLen; omega, by omega, ?_⟩⟩
  rw [hl, Nat.mul_one, List.take_of_length_le (by simp; omega)]
  apply List.ext_getElem?
  intro i
  by_cases hi : i < n
  · rw [Array.getElem?_toList, h3 i hi, hf i hi, List.getElem?_map, List.getD_eq_getElem?_getD, List.getElem?_eq_getElem (by omega)]; rfl
  · rw [List.getElem?_eq_none (by simp; omega), List.getElem?_eq_none (by simp; omega)]

theorem bel_up {B : Nat} {w W w1 : World} (h0 : Below B w W) (h : Below W.heap.size W w1) (hB : B ≤ w.heap.size := by exact Nat.le_refl _) : Below B w w1 := h0.trans (h.mono (Nat.le_trans hB h0.size))

end Go.Proofs.Ytnjbnamcedfjaaa

/- A field's calls, gone on: a field within another (holds, Within). -/
namespace Go.Proofs.Ytnjbnamcedfjaaa
open Go.RowKit

/-! ### Plain mathematics -/
/-! ### Calls -/
end Go.Proofs.Ytnjbnamcedfjaaa

/- The reference: a polynomial's value at an element (value). -/
namespace Go.Proofs.Ytnjbnamcedfjaaa
open Go.RowKit

theorem bel_up' {B : Nat} {w W w1 : World} (h0 : Below B w W) (h : Below W.heap.size W w1) (hB : B ≤ w.heap.size := by exact Nat.le_refl _) : Below B w w1 := h0.trans (h.mono (Nat.le_trans hB h0.size))

theorem radd_nat {D : FD} (hD : D ∈ fieldsL) (gen : Nat) (v : Value) (a b : Nat) (ha : a < D.q) (hb : b < D.q) (wr : World) :
    Calls Try.prog 71 #[.agg #[.int .i64 D.q, .int .i64 D.p, .int .i64 D.m, .int .i64 gen, v], .int .i64 a, .int .i64 b] wr fun e w' => e = .returned (.int .i64 (sumD D.p D.q a b : Nat)) ∧ Below wr.heap.size wr w' := by
  rw [← addZ_nat (fld hD) ha hb]
  exact radd_any hD gen v a b wr

end Go.Proofs.Ytnjbnamcedfjaaa

/- Plain mathematics of a field within another: what the smaller one's x becomes. -/
namespace Go.Proofs.Ytnjbnamcedfjaaa

end Go.Proofs.Ytnjbnamcedfjaaa

/- The reference: what each element of a field becomes in a greater one (Embed). -/
namespace Go.Proofs.Ytnjbnamcedfjaaa
open Go.RowKit

theorem modL_len' {D : FD} : D.modL.length = D.m + 1 := by unfold FD.modL; rw [List.length_append, digL_len]; rfl

end Go.Proofs.Ytnjbnamcedfjaaa

/- The reference: what each element of a field becomes in a greater one, gone on (Embed). -/
namespace Go.Proofs.Ytnjbnamcedfjaaa
open Go.RowKit

end Go.Proofs.Ytnjbnamcedfjaaa
