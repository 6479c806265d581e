/- Texts of ours, one behind the other: V9 V10 N7. -/
import Derived.Test.YtjkncdmbcckcdaaZV7
import Derived.Deep.CutBlock
import Derived.Deep.DeepCutAuto
/- The reference's polynomials: the next list (Next), which is ahead (Below). -/
namespace Go.Proofs.Ytjkncdmbcckcdaa
open Go.RowKit

set_option maxHeartbeats 2000000 in
set_option maxRecDepth 100000 in
theorem rnext_any {D : FD} (hD : D ∈ fieldsL) {g d ca : Nat} {c : Nat → Nat} {w : World} (hc : Mn D d c) (hd : d ≤ 1000) (hr : Row g d c w) :
    Calls Try.prog 47 #[.slice (some ⟨g, 0, none⟩) d ca, .int .i64 D.q] w fun e w' => w.grownBy w' (some g) ∧
      ((e = .returned (.bool true) ∧ ∃ c', Row g d c' w' ∧ Mn D d c' ∧ Aft D d c d c') ∨ (e = .returned (.bool false) ∧ (∀ k, 0 ≤ k → k < d → c k = D.q - 1) ∧ Row g d pnil w')) := by
  have HC : Hid (D ∈ fieldsL ∧ Mn D d c ∧ Row g d c w) := ⟨hD, hc, hr⟩
  have h64 := (fld hD).q64
  clear hD hc hr
  go_enter Try.func47, Try.ntmps47
  go_wp2
  go_loopw [5] (fun i wr => ∃ s : Nat, s ≤ d ∧ i = .int .i64 ((s : Int) - 1) ∧ Hid (∀ k, s ≤ k → k < d → c k = D.q - 1) ∧ Row g d (cnt c d s) wr ∧ w.grownBy wr (some g)) (fun i _ => (intOf i + 1).toNat)
  case atStart => exact ⟨d, Nat.le_refl _, by go_num, fun k h1 h2 => by omega, by rw [cnt_all]; exact HC.out.2.2, grown_refl _ _⟩
  case round =>
    obtain ⟨s, hs, hi, H9, hrow, hgr⟩ := hrel
    have HG : Hid (Row g d (cnt c d s) wr ∧ w.grownBy wr (some g)) := ⟨hrow, hgr⟩
    clear hrow hgr
    cases s with
    | succ s =>
      have hi' : u5 = .int .i64 (s : Int) := by rw [hi]; go_num
      clear hi
      subst hi'
      obtain ⟨x, hx⟩ : ∃ x, x = c s := ⟨_, rfl⟩
      have hxq : x < D.q := by rw [hx]; exact HC.out.2.1.el s
      have hcl : wr.cell? ⟨g, s, none⟩ = some (.int .i64 (x : Nat)) := by rw [HG.out.1.cell s (by omega), cnt_at, hx]
      have hfr := HG.out.1.free s
      have hib : (s : Int) < (d : Int) := by omega
      have HX : Hid (x = c s) := hx
      clear hx
      have HR : Hid (Row g d (cup c d s) (wr.setCell ⟨g, s, none⟩ (.int .i64 ((x : Int) + 1)))) := by
        have h := HG.out.1.store s (x + 1) (d := cup c d s) (fun j _ => by unfold cup; rw [HX.out])
        rw [Int.natCast_add] at h; exact h
      by_cases hlt : x + 1 < D.q
      · go_wp2
        go_ret
        have hm := cup_aft (fld HC.out.1) HC.out.2.1 (by omega) (by rw [← HX.out]; exact hlt) H9.out
        exact ⟨grown_set HG.out.2 _ _, Or.inl ⟨rfl, cup c d s, HR.out, hm.1, hm.2⟩⟩
      · have HZ : Hid (∀ k, s ≤ k → k < d → c k = D.q - 1) := fun k h1 h2 => by
          by_cases e : k = s
          · rw [e, ← HX.out]; omega
          · exact H9.out k (by omega) h2
        go_wp2
        go_roundw
        case rel => exact ⟨s, by omega, by go_num, HZ.out, HR.out.store s 0 (fun j _ => cnt_step c (by omega) j), grown_set (grown_set HG.out.2 _ _) _ _⟩
        case measure => simp [intOf]
    | zero =>
      have hi' : u5 = .int .i64 (-1) := by rw [hi]; rfl
      clear hi
      subst hi'
      go_wp2
      go_ret
      exact ⟨HG.out.2, Or.inr ⟨rfl, H9.out, HG.out.1.congr (fun k hk => by unfold cnt; rw [if_pos (by omega)]; rfl)⟩⟩

end Go.Proofs.Ytjkncdmbcckcdaa

/- The reference's polynomials: parts (Factors). -/
namespace Go.Proofs.Ytjkncdmbcckcdaa
open Go.RowKit Go.Sort

end Go.Proofs.Ytjkncdmbcckcdaa

/- Plain mathematics of polynomials, gone on: Euclid's lemma; parting is unique. No Go text here. -/
namespace Go.Proofs.Ytjkncdmbcckcdaa

end Go.Proofs.Ytjkncdmbcckcdaa
