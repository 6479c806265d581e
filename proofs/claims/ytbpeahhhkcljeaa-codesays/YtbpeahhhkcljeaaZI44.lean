/- CodeSays: whatever is handed in. -/
import Derived.Test.YtbpeahhhkcljeaaZI42
namespace Go.Proofs.Ytbpeahhhkcljeaa
open Go.RowKit Go.Sort

set_option maxHeartbeats 4000000 in
set_option maxRecDepth 100000 in
theorem codeSays_heavy (q n a : Int) {ao yo zo : Option Addr} {m ca my cy mz cz : Nat} {bh : Bool} {w : World} (hmy : my ≤ 17592186044416) (hmz : mz ≤ 17592186044416)
    (hA : ∀ wx, Below w.heap.size w wx → Calls Try.prog 9 #[.slice ao m ca] wx fun r w' => r = .returned (.bool bh) ∧ w' = wx) (hh : bh = true ∨ 200 < my + mz) :
    Calls Try.prog 5 #[.agg #[.int .i64 q, .int .i64 n, .slice ao m ca], .slice yo my cy, .slice zo mz cz, .int .i64 a] w fun r w' => r = .returned (.bool true) ∧ Below w.heap.size w w' := by
  obtain ⟨w0, hw0⟩ : ∃ w0, w0 = w.alloc (.cells #[.int .i64 q, .int .i64 n, .slice ao m ca] 43) := ⟨_, rfl⟩
  have HW : Hid (Below w.heap.size w w0) := by rw [hw0]; exact (box_at q n (.slice ao m ca) w).1
  have HA : Hid _ := hA
  clear hA
  go_enter Try.func5, Try.ntmps5
  go_wp2_with fail
  rw [← hw0]
  clear hw0
  refine (HA.out _ HW.out).mono ?_
  rintro r w' ⟨rfl, hw⟩
  have hw := hw.symm
  subst hw
  cases bh with
  | true =>
    go_wp2
    go_ret
    exact ⟨rfl, HW.out⟩
  | false =>
    have hl2 : (200 : Int) < (my : Int) + (mz : Int) := by
      rcases hh with h | h
      · cases h
      · omega
    go_wp2
    go_ret
    exact ⟨rfl, HW.out⟩

theorem anyField (q : Int) (w : World) : Calls Try.prog 11 #[.int .i64 q] w fun x w' => ∃ (a0 a1 a2 a3 : Int) (fo : Option Addr) (fl fc : Nat) (er : Int), x = .returned (.tuple #[.agg #[.int .i64 a0, .int .i64 a1, .int .i64 a2, .int .i64 a3, .slice fo fl fc], .int .i64 er]) ∧ Below w.heap.size w w' := by
  by_cases h : ∃ D ∈ fieldsL, (D.q : Int) = q
  · obtain ⟨D, hD, rfl⟩ := h
    refine (rfield_sl hD w).mono ?_
    rintro e w' ⟨gm, cm, rfl, _, hb⟩
    exact ⟨_, _, _, _, _, _, _, _, rfl, hb⟩
  · refine (rfield_none q w (fun D hD e => h ⟨D, hD, e⟩)).mono ?_
    rintro e w' ⟨rfl, hb⟩
    exact ⟨_, _, _, _, _, _, _, _, rfl, hb⟩

theorem codeSays_light (q n a : Int) {ao yo zo : Option Addr} {m ca my cy mz cz : Nat} {A : Nat → Option Addr} {N C : Nat → Nat} {Z : Nat → Nat → Int} {y z : Nat → Int} {w : World} (hA : MatZ ao m A N C Z w) (hm : m ≤ 1000000) (hY : Arg yo my cy y w) (hZ : Arg zo mz cz z w) (hyz : my + mz ≤ 200)
    (hHv : ∀ wx, Below w.heap.size w wx → Calls Try.prog 9 #[.slice ao m ca] wx fun r w' => r = .returned (.bool false) ∧ w' = wx) :
    Calls Try.prog 5 #[.agg #[.int .i64 q, .int .i64 n, .slice ao m ca], .slice yo my cy, .slice zo mz cz, .int .i64 a] w fun r w' => r = .returned (.bool true) ∧ Below w.heap.size w w' := by
  obtain ⟨E, hChk, hMay, hok⟩ := code_may q n ca hA hm
  have hW1 : ∀ wx, Below w.heap.size w wx → Calls Try.prog 28 #[.slice zo mz cz] wx fun r w' => r = .returned (.int .i64 (ct (fun i => !decide (z i = 0)) mz : Nat)) ∧ Below wx.heap.size wx w' := fun wx hx => weight_any (hZ.below hx).sl (hZ.below hx).lt (by omega)
  have hW2 : ∀ wx, Below w.heap.size w wx → Calls Try.prog 29 #[.slice zo mz cz] wx fun r w' => r = .returned (.int .i64 (ct (fun i => !decide (z i = 0)) mz : Nat)) ∧ Below wx.heap.size wx w' := fun wx hx => rweight_any (hZ.below hx).sl (hZ.below hx).lt (by omega)
  obtain ⟨ap, hA1, hA2⟩ : ∃ ap : Int, (∀ wx, Below w.heap.size w wx → Calls Try.prog 30 #[.slice zo mz cz, .slice yo my cy] wx fun r w' => r = .returned (.int .i64 ap) ∧ Below wx.heap.size wx w') ∧ (∀ wx, Below w.heap.size w wx → Calls Try.prog 31 #[.slice zo mz cz, .slice yo my cy] wx fun r w' => r = .returned (.int .i64 ap) ∧ Below wx.heap.size wx w') := by
    by_cases h : mz = my
    · subst h
      exact ⟨(ct (fun i => !decide (z i = y i)) mz : Nat), fun wx hx => capart_any (hZ.below hx).sl (hY.below hx).sl (hZ.below hx).lt (hY.below hx).lt (by omega), fun wx hx => rapart_any (hZ.below hx).sl (hY.below hx).sl (hZ.below hx).lt (hY.below hx).lt (by omega)⟩
    · exact ⟨-1, fun wx _ => capart_no zo yo mz my cz cy wx h, fun wx _ => rapart_no zo yo mz my cz cy wx h⟩
  by_cases hE : E = 0
  · subst hE
    obtain ⟨D, hD, rfl, n', rfl, cA⟩ := hok rfl
    have F := fld hD
    obtain ⟨hm64, hel, hbd, _⟩ := cA.rows F
    have hn1 := cA.n1
    have hn64 := cA.n64
    have mat : ∀ wx, Below w.heap.size w wx → MatR ao m (n' - 1) (mzc N Z) wx := fun wx hx => ((cA.below hx).rows F).2.2.2
    have hnn : n' = n' - 1 + 1 := by omega
    refine codeSays_go 0 D.q (n' : Nat) a (ct (fun i => !decide (z i = 0)) mz : Nat) ap (nn := n' - 1) (K1 := fun k R => Red D n' m (mzc N Z) k R) (K2 := fun k R => Dul D n' m (mzc N Z) k R)
      (fun _ _ _ _ h h' => Red.uniq F h h' (fun _ => Iff.rfl)) (fun _ _ _ _ h h' => Dul.uniq F h h' (fun _ => Iff.rfl)) (by omega) hyz hHv hMay hChk (fun _ wx hx => ?_) (fun _ wx hx => ?_) (fun wx hx => ?_) (fun wx hx => ?_) hW1 hW2 hA1 hA2 (fun wx qa na oa ka cca qb nb ob kb ccb hx h1 h2 => ?_) (fun wx hx => codeTurned_ok hD a (cA.below hx) (fun wy hy => hChk wy (bel_up' hx hy)))
    · refine (made_any hD (n1 := n' - 1) (by omega) hn64 hnn (fun i hi => ⟨hel i hi, by rw [← hnn]; exact hbd i hi⟩) (mat wx hx)).mono ?_
      rintro x w' ⟨k, R, ro, rc, rfl, h1, h2, h3⟩
      exact ⟨_, _, ro, k, rc, rfl, fun _ => ⟨rfl, by rw [← hnn], by have := h2.le; omega, R, h1.mono hx.size, h2⟩, h3⟩
    · refine (dualOf_any hD (n1 := n' - 1) (by omega) hn64 hnn (fun i hi => ⟨hel i hi, by rw [← hnn]; exact hbd i hi⟩) (mat wx hx)).mono ?_
      rintro x w' ⟨k, R, ro, rc, rfl, h1, h2, h3⟩
      exact ⟨_, _, ro, k, rc, rfl, fun _ => ⟨rfl, by rw [← hnn], by have := h2.le; omega, R, h1.mono hx.size, h2⟩, h3⟩
    · refine (cMake_ok hD (cA.below hx) (fun wy hy => hChk wy (bel_up' hx hy))).mono ?_
      rintro x w' ⟨k, R, ro, rc, rfl, h1, h2, h3⟩
      exact ⟨_, _, ro, k, rc, rfl, ⟨fun _ => ⟨rfl, by rw [← hnn], by have := h2.le; omega, R, by rw [← hnn]; exact h1.rl, h2⟩, fun h => absurd rfl h⟩, h3⟩
    · refine (cDual_ok hD (cA.below hx) (fun wy hy => hChk wy (bel_up' hx hy))).mono ?_
      rintro x w' ⟨k, R, ro, rc, rfl, h1, h2, h3⟩
      exact ⟨_, _, ro, k, rc, rfl, ⟨fun _ => ⟨rfl, by rw [← hnn], by have := h2.le; omega, R, by rw [← hnn]; exact h1.rl, h2⟩, fun h => absurd rfl h⟩, h3⟩
    · obtain ⟨rfl, rfl, hk1, R1, l1, r1⟩ := h1.1 rfl
      obtain ⟨rfl, rfl, hk2, R2, l2, r2⟩ := h2.1 rfl
      have e1 := (l1.rlz (by omega)).rl
      have e2 := (l2.rlz (by omega)).rl
      rw [← hnn] at e1 e2 ⊢
      exact codeWord_ok hD (cA.below hx) (hY.below hx) (hZ.below hx) hyz r1 r2 e1 e2 (fun wy hy => hChk wy (bel_up' hx hy))
  · have hu : UniF (fun _ _ => False) := fun _ _ _ _ h => h.elim
    refine codeSays_go E q n a (ct (fun i => !decide (z i = 0)) mz : Nat) ap (nn := 0) hu hu (by omega) hyz hHv hMay hChk (fun e => absurd e hE) (fun e => absurd e hE) (fun wx hx => ?_) (fun wx hx => ?_) hW1 hW2 hA1 hA2 (fun wx qa na oa ka cca qb nb ob kb ccb hx h1 h2 => ?_) (fun wx hx => codeTurned_err E hE q n a (fun wy hy => hChk wy (bel_up' hx hy)))
    · refine (cMake_err E hE q n (fun wy hy => hChk wy (bel_up' hx hy))).mono ?_
      rintro x w' ⟨rfl, hb⟩
      exact ⟨0, 0, none, 0, 0, rfl, ⟨fun h => absurd h hE, fun _ => ⟨rfl, rfl, rfl, rfl, rfl⟩⟩, hb⟩
    · refine (cDual_err E hE q n (fun wy hy => hChk wy (bel_up' hx hy))).mono ?_
      rintro x w' ⟨rfl, hb⟩
      exact ⟨0, 0, none, 0, 0, rfl, ⟨fun h => absurd h hE, fun _ => ⟨rfl, rfl, rfl, rfl, rfl⟩⟩, hb⟩
    · obtain ⟨rfl, rfl, rfl, rfl, rfl⟩ := h1.2 hE
      obtain ⟨rfl, rfl, rfl, rfl, rfl⟩ := h2.2 hE
      have hSy : ∀ wy, Below wx.heap.size wx wy → Calls Try.prog 72 #[.agg #[.int .i64 q, .int .i64 n, .slice ao m ca], .slice zo mz cz] wy fun x w' => x = .returned (.tuple #[.slice none 0 0, .int .i64 E]) ∧ Below wy.heap.size wy w' := fun wy hy => cSyn_err E hE q n (fun wv hv => hChk wv (bel_up' hx (bel_up' hy hv)))
      exact codeWord_err E hE q n (fun wy => anyField q wy) (fun wy hy => cEncode_err E hE q n (fun wv hv => hChk wv (bel_up' hx (bel_up' hy hv)))) hSy (fun wy hy => cHas_err E hE q n (fun wv hv => hSy wv (bel_up' hy hv)))

theorem codeSays_walk (q n a : Int) {ao yo zo : Option Addr} {m ca my cy mz cz : Nat} {A : Nat → Option Addr} {N C : Nat → Nat} {Z : Nat → Nat → Int} {y z : Nat → Int} {w : World} (hA : MatO ao m A N C Z w) (hm : m ≤ 17592186044416) (hN : ∀ i, i < m → N i ≤ 17592186044416) (hY : ArgL yo my cy y w) (hZ : ArgL zo mz cz z w) (hmy : my ≤ 17592186044416) (hmz : mz ≤ 17592186044416) :
    Calls Try.prog 5 #[.agg #[.int .i64 q, .int .i64 n, .slice ao m ca], .slice yo my cy, .slice zo mz cz, .int .i64 a] w fun r w' => r = .returned (.bool true) ∧ Below w.heap.size w w' := by
  have hHa := fun wx hx => heavy_below (ca := ca) hA hm hN wx hx
  by_cases h1 : hvs N m m ≤ 6000
  · by_cases h2 : my + mz ≤ 200
    · rw [decide_eq_false (by omega)] at hHa
      have f1 := hvs_few m h1
      exact codeSays_light q n a (hA.matZ (fun i hi => by have := f1.2 i hi; omega)) (by omega) (hY.arg (by omega)) (hZ.arg (by omega)) h2 hHa
    · exact codeSays_heavy q n a hmy hmz hHa (Or.inr (by omega))
  · exact codeSays_heavy q n a hmy hmz hHa (Or.inl (decide_eq_true (by omega)))
end Go.Proofs.Ytbpeahhhkcljeaa
