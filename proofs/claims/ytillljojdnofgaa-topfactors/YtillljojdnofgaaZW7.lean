/- Texts of ours, one behind the other: W7 V9 V10. -/
import Derived.Test.YtillljojdnofgaaZU22
import Derived.Test.YtillljojdnofgaaZV7
import Derived.Deep.CutBlock
import Derived.Deep.DeepCutAuto
/- Lists of numbers that a call makes for itself: others' numbers laid behind them (append(v, l...)); a copy, as a plain list. -/
namespace Go.Proofs.Ytillljojdnofgaa
open Go.RowKit

/-- The first n numbers of z, as a list. -/
def zl (n : Nat) (z : Nat → Int) : List Int := (List.range n).map z
theorem zl_len (n : Nat) (z : Nat → Int) : (zl n z).length = n := by simp [zl]
theorem zl_get (n : Nat) (z : Nat → Int) (j : Nat) (hj : j < n) : (zl n z)[j]? = some (z j) := by
  unfold zl
  rw [List.getElem?_map, List.getElem?_range hj]; rfl
theorem zl_getD (n : Nat) (z : Nat → Int) (j : Nat) (hj : j < n) : (zl n z).getD j 0 = z j := by
  rw [List.getD_eq_getElem?_getD, zl_get n z j hj]; rfl
theorem zl_congr {n : Nat} {z y : Nat → Int} (h : ∀ j, j < n → z j = y j) : zl n z = zl n y := by
  unfold zl
  exact List.map_congr_left (fun j hj => h j (List.mem_range.1 hj))
theorem zl_succ (n : Nat) (z : Nat → Int) : zl (n + 1) z = zl n z ++ [z n] := by
  unfold zl
  rw [List.range_succ, List.map_append]; rfl

/-- Numbers from 0 on: a polynomial's row. -/
theorem OwnI.ownC {base : Nat} {v : Value} {l : List Int} {w : World} (h : OwnI base v l w) (c : Nat → Nat) (hc : ∀ k, k < l.length → l.getD k 0 = (c k : Nat)) : OwnP base v l.length c w := by
  rcases h.2 with ⟨h1, h2⟩ | ⟨g, cap, cur, hv, hg, hh, hle, hcm, hsz, htake⟩
  · exact ⟨none, 0, by rw [h1, h2], by omega, by omega, fun x hx => (by cases hx), fun x hx => (by cases hx), fun _ => rfl, fun h0 => absurd h0 (by omega)⟩
  · refine ⟨_, cap, hv, hle, by unfold maxLen at hcm; omega, fun x hx => (by cases hx; exact hg), fun x hx => (by cases hx; exact lt_of_block hh), fun e => (by cases e), fun _ => ⟨g, rfl, cap, fun k => (cur[k]?).getD (.int .i64 0), ⟨cur, hh, by omega, fun k hk => ?_⟩, hle, fun k hk => ?_⟩⟩
    · show _ = some (Option.getD _ _)
      rw [Array.getElem?_eq_getElem (by omega)]; rfl
    · have h3 : (cur.toList.take (l.length * 1))[k]? = (l.map (Value.int .i64))[k]? := by rw [htake]
      rw [List.getElem?_take, if_pos (by omega), List.getElem?_map, List.getElem?_eq_getElem hk] at h3
      show (cur[k]?).getD _ = _
      have h4 := hc k hk
      rw [List.getD_eq_getElem?_getD, List.getElem?_eq_getElem hk] at h4
      rw [← Array.getElem?_toList, h3]
      show Value.int .i64 _ = _
      rw [← h4]; rfl
theorem OwnI.block {base : Nat} {v : Value} {l : List Int} {w : World} (h : OwnI base v l w) : ∀ k, v.ownBlock = some k → base ≤ k := fun k hk => (h.lt k hk).1
theorem OwnP.block {base n : Nat} {v : Value} {c : Nat → Nat} {w : World} (h : OwnP base v n c w) : ∀ k, v.ownBlock = some k → base ≤ k := by
  obtain ⟨ao, cap, rfl, _, _, hg, _⟩ := h
  intro k hk
  cases ao with
  | none => cases hk
  | some x =>
    have hk : some x.block = some k := hk
    cases hk
    exact hg x rfl

/-- What lies elsewhere stays where one block is written. -/
theorem Elm.apart {v : Value} {p : Nat × (Nat → Nat)} {w w' : World} {g : Nat} (h : Elm v p w) (hg : w.grownBy w' (some g)) (hne : v.ownBlock ≠ some g) : Elm v p w' := by
  obtain ⟨g', cap, e, h1, h2, hr⟩ := h
  refine ⟨g', cap, e, h1, h2, hr.other (hg.block g' hr.lt ?_)⟩
  intro e'
  rw [e] at hne
  exact hne e'
end Go.Proofs.Ytillljojdnofgaa

/- The reference's polynomials: the next list (Next), which is ahead (Below). -/
namespace Go.Proofs.Ytillljojdnofgaa
open Go.RowKit

end Go.Proofs.Ytillljojdnofgaa

/- The reference's polynomials: parts (Factors). -/
namespace Go.Proofs.Ytillljojdnofgaa
open Go.RowKit Go.Sort

theorem pd_deg {D : FD} (hD : D ∈ fieldsL) {a x : Nat → Nat} {da dx : Nat} (ha : Mn D da a) (hx : Mn D dx x) (h : PD D x a) : dx ≤ da := by
  obtain ⟨m, b, eb, hm, e⟩ := h
  obtain ⟨db, _, h2⟩ := mn_quot hD ha hx eb hm e
  omega
/-- A copy of d coefficients with 1 behind them. -/
theorem tryX_new {D : FD} {base d : Nat} {v : Value} {x : Nat → Nat} {w : World} (h : OwnI base v ((zl d fun j => (x j : Nat)) ++ [1]) w) (hx : Mn D d x) : Elm v (d, x) w := by
  have h1 : ((zl d fun j => ((x j : Nat) : Int)) ++ [1]).length = d + 1 := by rw [List.length_append, zl_len]; rfl
  have h2 := h.ownC x (fun k hk => by
    rw [h1] at hk
    rw [List.getD_eq_getElem?_getD]
    by_cases e : k < d
    · rw [List.getElem?_append_left (by rw [zl_len]; exact e), zl_get d _ k e]; rfl
    · have e : k = d := by omega
      subst e
      rw [List.getElem?_append_right (by rw [zl_len]; omega), zl_len, Nat.sub_self, hx.top]; rfl)
  rw [h1] at h2
  exact h2.elm

end Go.Proofs.Ytillljojdnofgaa
