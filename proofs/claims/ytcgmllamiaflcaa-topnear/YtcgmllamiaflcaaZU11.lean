/- Texts of ours, one behind the other: U11 U12 U13 U14 U15 U16 U17 V1 V2 V3 W5 V4 V5. -/
import Derived.Test.YtcgmllamiaflcaaZU9
import Derived.Test.YtcgmllamiaflcaaZR5
import Derived.Test.YtcgmllamiaflcaaZU2
import Derived.Lib.QuietBelow
/- The program's polynomials: the calls that are listed: Mul, Div, At. -/
namespace Go.Proofs.Ytcgmllamiaflcaa
open Go.RowKit

/-- Both lists, once they may be: over the field D, without noughts at the end. -/
theorem trims_ok {D : FD} {ao : Option Addr} {n cap : Nat} {z : Nat → Int} {w : World} (h : D.chk n z = 0) (ha : Arg ao n cap z w) :
    Calls Try.prog 78 #[.slice ao n cap] w fun e w' => e = .returned (.slice ao (dgn (zc n z) n) cap) ∧ ∃ k, w' = w.drewN k :=
  trim_any (zc_sl h ha.sl) ha.le ha.cap

set_option maxHeartbeats 4000000 in
set_option maxRecDepth 100000 in
theorem pmul_any {D : FD} (hD : D ∈ fieldsL) {ao bo : Option Addr} {n m ca cb : Nat} {z y : Nat → Int} {w : World} (ha : Arg ao n ca z w) (hb : Arg bo m cb y w) :
    Calls Try.prog 49 #[.int .i64 D.q, .slice ao n ca, .slice bo m cb] w fun e w' => Below w.heap.size w w' ∧
      ((D.chk2 n z m y = 0 ∧ dgn (zc n z) n + dgn (zc m y) m ≤ 129 ∧ ∃ v, e = .returned (.tuple #[v, .int .i64 0]) ∧ OwnP w.heap.size v (dgn (pmul D n (zc n z) (zc m y)) (dgn (zc n z) n + dgn (zc m y) m)) (pmul D n (zc n z) (zc m y)) w') ∨
       (D.chk2 n z m y = 0 ∧ 129 < dgn (zc n z) n + dgn (zc m y) m ∧ e = .returned (.tuple #[.slice none 0 0, .int .i64 4])) ∨ (D.chk2 n z m y ≠ 0 ∧ e = .returned (.tuple #[.slice none 0 0, .int .i64 (D.chk2 n z m y)]))) := by
  have HA : Hid (Arg ao n ca z w ∧ Arg bo m cb y w ∧ D ∈ fieldsL) := ⟨ha, hb, hD⟩
  clear ha hb hD
  obtain ⟨n', hn'⟩ : ∃ n', n' = dgn (zc n z) n := ⟨_, rfl⟩
  obtain ⟨m', hm'⟩ : ∃ m', m' = dgn (zc m y) m := ⟨_, rfl⟩
  have hn1 : n' ≤ n := by rw [hn']; exact dgn_le _ _
  have hm1 : m' ≤ m := by rw [hm']; exact dgn_le _ _
  rw [← hn', ← hm']
  have HN0 : Hid (n' = dgn (zc n z) n ∧ m' = dgn (zc m y) m) := ⟨hn', hm'⟩
  clear hn' hm'
  go_enter Try.func49, Try.ntmps49
  go_wp2_with fail
  refine (over2_any HA.out.2.2 HA.out.1 HA.out.2.1).mono ?_
  rintro e w1 ⟨hb1, hr⟩
  rcases hr with ⟨h0, F, T, f, rfl, hat, hF, hT⟩ | ⟨h0, rfl⟩
  · have HW : Hid (D.chk2 n z m y = 0 ∧ FAt F T D f w1 ∧ Below w.heap.size w w1 ∧ Arg ao n ca z w1 ∧ Arg bo m cb y w1) := ⟨h0, hat, hb1, HA.out.1.below hb1, HA.out.2.1.below hb1⟩
    clear h0 hat hF hT hb1
    have c0 := chk2_zero HW.out.1
    have hn128 := (chk_zero c0.1).1
    have hm128 := (chk_zero c0.2).1
    have HN : Hid (n' = dgn (zc n z) n ∧ m' = dgn (zc m y) m ∧ D.chk n z = 0 ∧ D.chk m y = 0) := ⟨HN0.out.1, HN0.out.2, c0⟩
    clear c0
    go_wp2_with fail
    refine (trims_ok HN.out.2.2.1 HW.out.2.2.2.1).mono ?_
    rintro e w' ⟨rfl, k1, rfl⟩
    rw [← HN.out.1]
    go_wp2_with fail
    refine (trims_ok HN.out.2.2.2 (w := w1.drewN k1) ⟨HW.out.2.2.2.2.sl, HW.out.2.2.2.2.lt, HW.out.2.2.2.2.few, HW.out.2.2.2.2.nil, HW.out.2.2.2.2.le, HW.out.2.2.2.2.cap⟩).mono ?_
    rintro e w' ⟨rfl, k2, rfl⟩
    rw [← HN.out.2.1]
    by_cases hbig : 129 < n' + m'
    · go_wp2
      go_ret2
      exact ⟨below_drewN2 HW.out.2.2.1 _, Or.inr (Or.inl ⟨HW.out.1, hbig, rfl⟩)⟩
    · have hF := fld HA.out.2.2
      have HP : Hid (∀ d, Calls Try.prog 79 #[.pointer (some ⟨F, 0, none⟩), .slice ao n' ca, .slice bo m' cb] (w1.drewN d) fun e w' =>
          e = .returned (.slice (some ⟨w1.heap.size, 0, none⟩) (dgn (pmul D n (zc n z) (zc m y)) (n' + m')) (n' + m')) ∧ Row w1.heap.size (n' + m') (pmul D n (zc n z) (zc m y)) w' ∧ Below w1.heap.size (w1.drewN d) w') := by
        intro d
        have b1 : Bd n' (zc n z) := by rw [HN.out.1]; exact dgn_bd (zc_bd _ _)
        have b2 : Bd m' (zc m y) := by rw [HN.out.2.1]; exact dgn_bd (zc_bd _ _)
        have h := product_any HA.out.2.2 (HW.out.2.1.drewN d) (ca := ca) (cb := cb) (show n' ≤ 1000 by omega) (show m' ≤ 1000 by omega) (zc_el hF HN.out.2.2.1) (zc_el hF HN.out.2.2.2) b2 ((zc_sl HN.out.2.2.1 HW.out.2.2.2.1.sl).less hn1) ((zc_sl HN.out.2.2.2 HW.out.2.2.2.2.sl).less hm1) HW.out.2.2.2.1.lt HW.out.2.2.2.2.lt
        rw [← pmul_to hF (zc m y) b1 hn1] at h
        exact h
      clear hF
      go_wp2_with fail
      refine (HP.out _).mono ?_
      rintro e w2 ⟨rfl, hrow, hb2⟩
      have hs := HW.out.2.2.1.size
      have HR : Hid (Row w1.heap.size (n' + m') (pmul D n (zc n z) (zc m y)) w2 ∧ Below w.heap.size w w2) := ⟨hrow, bel_up (below_drewN2 HW.out.2.2.1 _) hb2⟩
      clear hrow hb2
      go_wp2
      go_ret2
      exact ⟨HR.out.2, Or.inl ⟨HW.out.1, by omega, _, rfl, OwnP.of_row HR.out.1 (dgn_le _ _) (dgn_le _ _) (by omega) hs⟩⟩
  · have HW : Hid (D.chk2 n z m y ≠ 0 ∧ Below w.heap.size w w1) := ⟨h0, hb1⟩
    obtain ⟨e, he⟩ : ∃ e, e = D.chk2 n z m y := ⟨_, rfl⟩
    rw [← he] at h0 ⊢
    have hz : (e != 0) = true := by rw [bne_iff_ne]; exact h0
    have HE : Hid (e = D.chk2 n z m y) := he
    clear h0 hb1 he
    go_wp2
    go_ret2
    exact ⟨HW.out.2, Or.inr (Or.inr ⟨HW.out.1, by rw [← HE.out]; rfl⟩)⟩
end Go.Proofs.Ytcgmllamiaflcaa

/- The program's polynomials: the calls that are listed: Div, At. -/
namespace Go.Proofs.Ytcgmllamiaflcaa
open Go.RowKit

end Go.Proofs.Ytcgmllamiaflcaa

/- The program's polynomials: the calls that are listed: At, Roots. -/
namespace Go.Proofs.Ytcgmllamiaflcaa
open Go.RowKit

end Go.Proofs.Ytcgmllamiaflcaa

/- The program's polynomials: the calls that are listed: Roots. -/
namespace Go.Proofs.Ytcgmllamiaflcaa
open Go.RowKit

end Go.Proofs.Ytcgmllamiaflcaa

/- The program's polynomials: with 1 at the end (monic); the calls that are listed: Gcd. -/
namespace Go.Proofs.Ytcgmllamiaflcaa
open Go.RowKit

end Go.Proofs.Ytcgmllamiaflcaa

/- How many there are to try (tooMany, Tries). -/
namespace Go.Proofs.Ytcgmllamiaflcaa
open Go.RowKit

end Go.Proofs.Ytcgmllamiaflcaa

/- Does an element stand twice in a list (hasTwice)? -/
namespace Go.Proofs.Ytcgmllamiaflcaa
open Go.RowKit

end Go.Proofs.Ytcgmllamiaflcaa

/- The reference's polynomials: without noughts at the end (Trim); which may be (PolyMay). -/
namespace Go.Proofs.Ytcgmllamiaflcaa
open Go.RowKit

end Go.Proofs.Ytcgmllamiaflcaa

/- The reference's polynomials: which may be (PolyMay). -/
namespace Go.Proofs.Ytcgmllamiaflcaa
open Go.RowKit

end Go.Proofs.Ytcgmllamiaflcaa

/- The reference's polynomials: sums (PAdd). -/
namespace Go.Proofs.Ytcgmllamiaflcaa
open Go.RowKit

end Go.Proofs.Ytcgmllamiaflcaa

/- The same where the calls lay blocks: the worlds in which nothing that was there has turned. No Go text here. -/
namespace Go.Proofs.Ytcgmllamiaflcaa
open Go Go.Sort Go.RowKit

end Go.Proofs.Ytcgmllamiaflcaa

/- The reference's polynomials: products (PMul). -/
namespace Go.Proofs.Ytcgmllamiaflcaa
open Go.RowKit Go.Sort

end Go.Proofs.Ytcgmllamiaflcaa

/- The reference's polynomials: values of a polynomial that came in (value, PAt). -/
namespace Go.Proofs.Ytcgmllamiaflcaa
open Go.RowKit

end Go.Proofs.Ytcgmllamiaflcaa
