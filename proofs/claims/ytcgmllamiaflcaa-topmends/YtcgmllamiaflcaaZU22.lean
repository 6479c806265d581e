/- Texts of ours, one behind the other: U22 W7 V9 V10 N7. -/
import Derived.Test.YtcgmllamiaflcaaZU18
import Derived.Test.YtcgmllamiaflcaaZV7
import Derived.Deep.CutBlock
import Derived.Deep.DeepCutAuto
/- The program's polynomials: the calls that are listed: Through, Factors, Irreducible. -/
namespace Go.Proofs.Ytcgmllamiaflcaa
open Go.RowKit

set_option maxHeartbeats 4000000 in
set_option maxRecDepth 100000 in
theorem through_all {D : FD} (hD : D ∈ fieldsL) {ao bo : Option Addr} {n m ca cb : Nat} {z y : Nat → Int} {w : World} (ha : Arg ao n ca z w) (hb : Arg bo m cb y w) :
    Calls Try.prog 61 #[.int .i64 D.q, .slice ao n ca, .slice bo m cb] w fun e w' => Below w.heap.size w w' ∧
      ((D.chk2 n z m y = 0 ∧ n = m ∧ ¬ Twice (zc n z) n ∧ ∃ v lo co, e = .returned (.tuple #[v, .int .i64 0]) ∧ OwnP w.heap.size v lo co w' ∧ lo ≤ n ∧ El D co ∧ Trd lo co ∧ ∀ j, j < n → D.vl co (zc n z j) = zc m y j) ∨
       (D.chk2 n z m y = 0 ∧ n = m ∧ Twice (zc n z) n ∧ e = .returned (.tuple #[.slice none 0 0, .int .i64 7])) ∨
       (D.chk2 n z m y = 0 ∧ n ≠ m ∧ e = .returned (.tuple #[.slice none 0 0, .int .i64 6])) ∨ (D.chk2 n z m y ≠ 0 ∧ e = .returned (.tuple #[.slice none 0 0, .int .i64 (D.chk2 n z m y)]))) := by
  have HA : Hid (Arg ao n ca z w ∧ Arg bo m cb y w ∧ D ∈ fieldsL) := ⟨ha, hb, hD⟩
  clear ha hb hD
  go_enter Try.func61, Try.ntmps61
  go_wp2_with fail
  refine (over2_any HA.out.2.2 HA.out.1 HA.out.2.1).mono ?_
  rintro e w1 ⟨hb1, hr⟩
  rcases hr with ⟨h0, F, T, f, rfl, hat, hF, hT⟩ | ⟨h0, rfl⟩
  · have HW : Hid (D.chk2 n z m y = 0 ∧ FAt F T D f w1 ∧ Below w.heap.size w w1 ∧ Arg ao n ca z w1 ∧ Arg bo m cb y w1) := ⟨h0, hat, hb1, HA.out.1.below hb1, HA.out.2.1.below hb1⟩
    clear h0 hat hF hT hb1
    have c0 := chk2_zero HW.out.1
    have hn128 := (chk_zero c0.1).1
    have HN : Hid (D.chk n z = 0 ∧ D.chk m y = 0) := c0
    clear c0
    by_cases hnm : n = m
    · have hz : ((n : Int) != (m : Int)) = false := by rw [hnm]; simp
      have HNM : Hid (n = m) := hnm
      clear hnm
      have HH : Hid (Calls Try.prog 86 #[.slice ao n ca] w1 fun e w' => (∃ b, e = .returned (.bool b) ∧ (b = true ↔ Twice (zc n z) n)) ∧ Below w1.heap.size w1 w') := by
        have hF := fld HA.out.2.2
        exact hasTwice_any (zc_sl HN.out.1 HW.out.2.2.2.1.sl) (by omega) HW.out.2.2.2.1.lt (fun j => Nat.lt_of_lt_of_le (zc_el hF HN.out.1 j) hF.q64)
      go_wp2_with fail
      refine HH.out.mono ?_
      rintro e w2 ⟨⟨b, rfl, hbt⟩, hb2⟩
      have HB2 : Hid ((b = true ↔ Twice (zc n z) n) ∧ Below w1.heap.size w1 w2) := ⟨hbt, hb2⟩
      clear hbt hb2 HH
      cases b with
      | true =>
        go_wp2
        go_ret2
        exact ⟨bel_up HW.out.2.2.1 HB2.out.2, Or.inr (Or.inl ⟨HW.out.1, HNM.out, HB2.out.1.1 (by trivial), rfl⟩)⟩
      | false =>
        have HT : Hid (Calls Try.prog 87 #[.pointer (some ⟨F, 0, none⟩), .slice ao n ca, .slice bo m cb] w2 fun e w' => ∃ v lo co, e = .returned v ∧ OwnP w2.heap.size v lo co w' ∧ lo ≤ n ∧ El D co ∧ Trd lo co ∧ (∀ j, j < n → D.vl co (zc n z j) = zc m y j) ∧ Below w2.heap.size w2 w') := by
          have hF := fld HA.out.2.2
          have hnt : ¬ Twice (zc n z) n := fun h => (by have := HB2.out.1.2 h; cases this)
          have a2 := HW.out.2.2.2.1.below HB2.out.2
          have b2 := HW.out.2.2.2.2.below HB2.out.2
          show Calls _ _ _ _ _
          rw [show (Value.slice bo m cb) = .slice bo n cb from by rw [HNM.out]]
          exact through_any HA.out.2.2 (HW.out.2.1.below HB2.out.2 HW.out.2.1.ltF HW.out.2.1.ltT) hn128 (zc_sl HN.out.1 a2.sl) ((zc_sl HN.out.2 b2.sl).less (by rw [HNM.out]; exact Nat.le_refl _)) a2.lt b2.lt (fun j _ => zc_el hF HN.out.1 j) (fun j _ => zc_el hF HN.out.2 j) hnt
        go_wp2_with fail
        refine HT.out.mono ?_
        rintro e w3 ⟨v, lo, co, rfl, hown, hlo, hel, htr, hat, hb3⟩
        have hs1 := HW.out.2.2.1.size
        have hs2 := HB2.out.2.size
        have HR : Hid (OwnP w.heap.size v lo co w3 ∧ lo ≤ n ∧ El D co ∧ Trd lo co ∧ (∀ j, j < n → D.vl co (zc n z j) = zc m y j) ∧ Below w.heap.size w w3) := ⟨hown.mono (by omega), hlo, hel, htr, hat, bel_up (bel_up HW.out.2.2.1 HB2.out.2) hb3⟩
        clear hown hlo hel htr hat hb3 HT
        go_wp2
        go_ret2
        exact ⟨HR.out.2.2.2.2.2, Or.inl ⟨HW.out.1, HNM.out, fun h => (by have := HB2.out.1.2 h; cases this), v, lo, co, rfl, HR.out.1, HR.out.2.1, HR.out.2.2.1, HR.out.2.2.2.1, HR.out.2.2.2.2.1⟩⟩
    · have hz : ((n : Int) != (m : Int)) = true := by rw [bne_iff_ne]; omega
      have HNM : Hid (n ≠ m) := hnm
      clear hnm
      go_wp2
      go_ret2
      exact ⟨HW.out.2.2.1, Or.inr (Or.inr (Or.inl ⟨HW.out.1, HNM.out, rfl⟩))⟩
  · have HW : Hid (D.chk2 n z m y ≠ 0 ∧ Below w.heap.size w w1) := ⟨h0, hb1⟩
    obtain ⟨e, he⟩ : ∃ e, e = D.chk2 n z m y := ⟨_, rfl⟩
    rw [← he] at h0 ⊢
    have hz : (e != 0) = true := by rw [bne_iff_ne]; exact h0
    have HE : Hid (e = D.chk2 n z m y) := he
    clear h0 hb1 he
    go_wp2
    go_ret2
    exact ⟨HW.out.2, Or.inr (Or.inr (Or.inr ⟨HW.out.1, by rw [← HE.out]; rfl⟩))⟩

end Go.Proofs.Ytcgmllamiaflcaa

/- Lists of numbers that a call makes for itself: others' numbers laid behind them (append(v, l...)); a copy, as a plain list. -/
namespace Go.Proofs.Ytcgmllamiaflcaa
open Go.RowKit

/-- The first n numbers of z, as a list. -/
def zl (n : Nat) (z : Nat → Int) : List Int := (List.range n).map z
theorem zl_len (n : Nat) (z : Nat → Int) : (zl n z).length = n := by simp [zl]
theorem zl_get (n : Nat) (z : Nat → Int) (j : Nat) (hj : j < n) : (zl n z)[j]? = some (z j) := by
  unfold zl
  rw [List.getElem?_map, List.getElem?_range hj]; rfl
theorem zl_getD (n : Nat) (z : Nat → Int) (j : Nat) (hj : j < n) : (zl n z).getD j 0 = z j := by
  rw [List.getD_eq_getElem?_getD, zl_get n z j hj]; rfl
theorem zl_congr {n : Nat} {z y : Nat → Int} (h : ∀ j, j < n → z j = y j) : zl n z = zl n y := by
  unfold zl
  exact List.map_congr_left (fun j hj => h j (List.mem_range.1 hj))
theorem zl_succ (n : Nat) (z : Nat → Int) : zl (n + 1) z = zl n z ++ [z n] := by
  unfold zl
  rw [List.range_succ, List.map_append]; rfl

/-- Numbers from 0 on: a polynomial's row. -/
theorem OwnI.ownC {base : Nat} {v : Value} {l : List Int} {w : World} (h : OwnI base v l w) (c : Nat → Nat) (hc : ∀ k, k < l.length → l.getD k 0 = (c k : Nat)) : OwnP base v l.length c w := by
  rcases h.2 with ⟨h1, h2⟩ | ⟨g, cap, cur, hv, hg, hh, hle, hcm, hsz, htake⟩
  · exact ⟨none, 0, by rw [h1, h2], by omega, by omega, fun x hx => (by cases hx), fun x hx => (by cases hx), fun _ => rfl, fun h0 => absurd h0 (by omega)⟩
  · refine ⟨_, cap, hv, hle, by unfold maxLen at hcm; omega, fun x hx => (by cases hx; exact hg), fun x hx => (by cases hx; exact lt_of_block hh), fun e => (by cases e), fun _ => ⟨g, rfl, cap, fun k => (cur[k]?).getD (.int .i64 0), ⟨cur, hh, by omega, fun k hk => ?_⟩, hle, fun k hk => ?_⟩⟩
    · show _ = some (Option.getD _ _)
      rw [Array.getElem?_eq_getElem (by omega)]; rfl
    · have h3 : (cur.toList.take (l.length * 1))[k]? = (l.map (Value.int .i64))[k]? := by rw [htake]
      rw [List.getElem?_take, if_pos (by omega), List.getElem?_map, List.getElem?_eq_getElem hk] at h3
      show (cur[k]?).getD _ = _
      have h4 := hc k hk
      rw [List.getD_eq_getElem?_getD, List.getElem?_eq_getElem hk] at h4
      rw [← Array.getElem?_toList, h3]
      show Value.int .i64 _ = _
      rw [← h4]; rfl
theorem OwnI.block {base : Nat} {v : Value} {l : List Int} {w : World} (h : OwnI base v l w) : ∀ k, v.ownBlock = some k → base ≤ k := fun k hk => (h.lt k hk).1
theorem OwnP.block {base n : Nat} {v : Value} {c : Nat → Nat} {w : World} (h : OwnP base v n c w) : ∀ k, v.ownBlock = some k → base ≤ k := by
  obtain ⟨ao, cap, rfl, _, _, hg, _⟩ := h
  intro k hk
  cases ao with
  | none => cases hk
  | some x =>
    have hk : some x.block = some k := hk
    cases hk
    exact hg x rfl

end Go.Proofs.Ytcgmllamiaflcaa

/- The reference's polynomials: the next list (Next), which is ahead (Below). -/
namespace Go.Proofs.Ytcgmllamiaflcaa
open Go.RowKit

end Go.Proofs.Ytcgmllamiaflcaa

/- The reference's polynomials: parts (Factors). -/
namespace Go.Proofs.Ytcgmllamiaflcaa
open Go.RowKit Go.Sort

end Go.Proofs.Ytcgmllamiaflcaa

/- Plain mathematics of polynomials, gone on: Euclid's lemma; parting is unique. No Go text here. -/
namespace Go.Proofs.Ytcgmllamiaflcaa

end Go.Proofs.Ytcgmllamiaflcaa
