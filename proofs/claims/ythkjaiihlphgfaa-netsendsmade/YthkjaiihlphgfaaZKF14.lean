/- Texts of ours, one behind the other: KF14 KF15. -/
import Derived.Test.YthkjaiihlphgfaaZKF12
import Derived.Test.YthkjaiihlphgfaaZX19
import Derived.Test.YthkjaiihlphgfaaZO3
/- NetSends: whatever it is given. -/
namespace Go.Proofs.Ythkjaiihlphgfaa
open Go.RowKit Go.Sort

theorem netSends_none (q n x : Int) (h : ∀ D ∈ fieldsL, (D.q : Int) ≠ q) {eo ao bo co : Option Addr} {m ec mv ca l cb lc cc : Nat} {F T : Nat → Int} {A : Nat → Option Addr} {N C : Nat → Nat} {Z : Nat → Nat → Int} {w : World} (hA : MatZ ao mv A N C Z w) (hmv6 : mv ≤ 6000) (hE : EdZ eo m F T w) (hlen : m + l + lc ≤ 200)
    (hH : ∀ wx, Below w.heap.size w wx → Calls Try.prog 9 #[.slice ao mv ca] wx fun e w' => e = .returned (.bool false) ∧ Below wx.heap.size wx w')
    (c2 : ∀ wx, Below w.heap.size w wx → Calls Try.prog 11 #[.int .i64 q] wx fun e w' => (∃ a b c d so sn sc e0, e = .returned (.tuple #[.agg #[.int .i64 a, .int .i64 b, .int .i64 c, .int .i64 d, .slice so sn sc], .int .i64 e0])) ∧ Below wx.heap.size wx w') :
    Calls Try.prog 3 #[.int .i64 q, .agg #[.int .i64 n, .slice eo m ec], .slice ao mv ca, .slice bo l cb, .slice co lc cc, .int .i64 x] w fun e w' => e = .returned (.bool true) ∧ Below w.heap.size w w' := by
  have hV : ∀ wx, Below w.heap.size w wx → ∀ i, i < mv → ∃ b off, ao = some ⟨b, off, none⟩ ∧ wx.cell? ⟨b, off + i, none⟩ = some (.slice (A i) (N i) (C i)) := fun wx hb => (hA.below hb).cell
  have c1 : ∀ wx, Below w.heap.size w wx → Calls Try.prog 10 #[.int .i64 q, .slice ao mv ca] wx fun e w' => e = .returned (.int .i64 1) ∧ Below wx.heap.size wx w' := fun wx _ => matrixMay_none q h _ wx
  have c5 : ∀ wx, Below w.heap.size w wx → Calls Try.prog 14 #[.int .i64 q, .slice ao mv ca, .slice bo l cb] wx (SnP 1 [] wx) := fun wx _ => nSend_none q h
  obtain ⟨s, hs⟩ : ∃ s, s = skchk n x (nchkE n m F T) := ⟨_, rfl⟩
  have c6 : ∀ wx, Below w.heap.size w wx → Calls Try.prog 16 #[.agg #[.int .i64 n, .slice eo m ec], .int .i64 x] wx fun e w' => e = .returned (.int .i64 s) ∧ Below wx.heap.size wx w' := fun wx hb => by rw [hs]; exact rsinkMay_any n x (hE.below hb) (by omega)
  have c9 : ∀ wx, Below w.heap.size w wx → Calls Try.prog 18 #[.int .i64 q, .agg #[.int .i64 n, .slice eo m ec], .slice ao mv ca, .slice co lc cc, .int .i64 x] wx (SnP (if s ≠ 0 then s else 1) [] wx) := fun wx hb => by rw [hs]; exact nHear_none q n x h (hE.below hb) (by omega)
  by_cases hs0 : s = 0
  · rw [hs0] at c6
    rw [if_neg (fun e => e hs0)] at c9
    by_cases h0 : mv = 0
    · exact netSends_w1aS2 q 1 n x (dt := fun _ => 0) hlen (by decide) h0 hV hH c1 c2 c5 c6 c9
    · exact netSends_w1bS2 q 1 n x (dt := fun _ => 0) hlen (by decide) (by omega) hmv6 hV hH c1 c2 c5 c6 c9
  · rw [if_pos hs0] at c9
    by_cases h0 : mv = 0
    · exact netSends_w1aS1 q 1 n x s (dt := fun _ => 0) hlen (by decide) h0 hs0 hV hH c1 c2 c5 c6 c9
    · exact netSends_w1bS1 q 1 n x s (dt := fun _ => 0) hlen (by decide) (by omega) hmv6 hs0 hV hH c1 c2 c5 c6 c9
end Go.Proofs.Ythkjaiihlphgfaa

/- NetSends: whatever it is given (the walk). -/
namespace Go.Proofs.Ythkjaiihlphgfaa
open Go.RowKit Go.Sort

theorem netField (q : Int) (w : World) : Calls Try.prog 11 #[.int .i64 q] w fun x w' => (∃ a b c d so sn sc e0, x = .returned (.tuple #[.agg #[.int .i64 a, .int .i64 b, .int .i64 c, .int .i64 d, .slice so sn sc], .int .i64 e0])) ∧ Below w.heap.size w w' := by
  by_cases h : ∃ D ∈ fieldsL, (D.q : Int) = q
  · obtain ⟨D, hD, rfl⟩ := h
    refine (rfield_sl hD w).mono ?_
    rintro e w' ⟨gm, cm, rfl, _, hb⟩
    exact ⟨⟨_, _, _, _, _, _, _, _, rfl⟩, hb⟩
  · refine (rfield_none q w (fun D hD e => h ⟨D, hD, e⟩)).mono ?_
    rintro e w' ⟨rfl, hb⟩
    exact ⟨⟨_, _, _, _, _, _, _, _, rfl⟩, hb⟩

theorem heavy_net {ao : Option Addr} {m ca : Nat} {A : Nat → Option Addr} {N C : Nat → Nat} {Z : Nat → Nat → Int} {w : World} (h : MatO ao m A N C Z w) (hm : m ≤ 17592186044416) (hN : ∀ i, i < m → N i ≤ 17592186044416) (wx : World) (hx : Below w.heap.size w wx) :
    Calls Try.prog 9 #[.slice ao m ca] wx fun r w' => r = .returned (.bool (decide (6000 < hvs N m m))) ∧ Below wx.heap.size wx w' := by
  refine (heavy_any (A := A) (C := C) (fun i hi => ?_) hm hN).mono ?_
  · obtain ⟨b, off, e, hc⟩ := h.cell i hi
    exact ⟨b, off, e, ((bcell hx).1 b (off + i) (cell_lt hc)).trans hc⟩
  · rintro e w' ⟨rfl, h⟩
    exact ⟨rfl, by rw [h]; exact Below.refl _ _⟩

theorem netSends_walk (q n x : Int) {eo ao bo co : Option Addr} {m ec mv ca l cb lc cc : Nat} {F T : Nat → Int} {A : Nat → Option Addr} {N C : Nat → Nat} {Z : Nat → Nat → Int} {y c : Nat → Int} {w : World} (hA : MatO ao mv A N C Z w) (hmv : mv ≤ 17592186044416) (hN : ∀ i, i < mv → N i ≤ 17592186044416) (hE : EdZ eo m F T w) (hm : m ≤ 17592186044416) (hY : ArgL bo l cb y w) (hl : l ≤ 17592186044416) (hC : ArgL co lc cc c w) (hlc : lc ≤ 17592186044416) :
    Calls Try.prog 3 #[.int .i64 q, .agg #[.int .i64 n, .slice eo m ec], .slice ao mv ca, .slice bo l cb, .slice co lc cc, .int .i64 x] w fun e w' => e = .returned (.bool true) ∧ Below w.heap.size w w' := by
  by_cases hlen : 200 < m + l + lc
  · exact netSends_long q n x hm hl hlc hlen
  have hlen' : m + l + lc ≤ 200 := Nat.le_of_not_lt hlen
  by_cases hv : 6000 < hvs N mv mv
  · refine netSends_heavy q n x hlen' (fun wx hb => ?_)
    have hH := heavy_net (ca := ca) hA hmv hN wx hb
    rw [decide_eq_true hv] at hH
    exact hH
  · obtain ⟨h1, h2⟩ := hvs_few mv (Nat.le_of_not_lt hv)
    have hH : ∀ wx, Below w.heap.size w wx → Calls Try.prog 9 #[.slice ao mv ca] wx fun e w' => e = .returned (.bool false) ∧ Below wx.heap.size wx w' := fun wx hb => by
      have hH := heavy_net (ca := ca) hA hmv hN wx hb
      rw [decide_eq_false hv] at hH
      exact hH
    have hZ : MatZ ao mv A N C Z w := hA.matZ (fun i hi => by have := h2 i hi; omega)
    by_cases h : ∃ D ∈ fieldsL, (D.q : Int) = q
    · obtain ⟨D, hD, rfl⟩ := h
      exact netSends_field hD n x hZ h1 hE (hY.arg (by omega)) (hC.arg (by omega)) hlen' hH
    · exact netSends_none q n x (fun D hD e => h ⟨D, hD, e⟩) hZ h1 hE hlen' hH (fun wx _ => netField q wx)
end Go.Proofs.Ythkjaiihlphgfaa
