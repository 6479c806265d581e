/- What the reference's Recovered goes through: the places heard, one by one; what makes rows 0. -/
import Derived.Test.YtnjbnamcedfjaaaGreatZKD12
import Derived.Test.YtnjbnamcedfjaaaGreatZKD14
import Derived.Test.YtnjbnamcedfjaaaGreatZY1
import Derived.Test.YtnjbnamcedfjaaaGreatZT9
namespace Go.Proofs.YtnjbnamcedfjaaaGreat
open Go.RowKit Go.Sort

theorem hix_get {y : Nat → Int} : ∀ n i, i < n → y i ≠ -1 → (hix y n)[(hix y i).length]? = some i
  | 0, i, h, _ => absurd h (by omega)
  | n + 1, i, h, hy => by
    have e0 : hix y (n + 1) = if y n = -1 then hix y n else hix y n ++ [n] := rfl
    rw [e0]
    by_cases e : i = n
    · subst e
      rw [if_neg hy, List.getElem?_append_right (Nat.le_refl _), Nat.sub_self]; rfl
    · have ih := hix_get n i (by omega) hy
      by_cases e2 : y n = -1
      · rw [if_pos e2]; exact ih
      · rw [if_neg e2, List.getElem?_append_left (List.getElem?_eq_some_iff.1 ih).1]; exact ih
theorem zl_at {n : Nat} {z : Nat → Int} {l : List Int} {j : Nat} {x : Int} (h : l = zl n z) (hx : l[j]? = some x) : j < n ∧ z j = x := by
  rw [h] at hx
  have hj : j < n := by
    have := (List.getElem?_eq_some_iff.1 hx).1
    rwa [zl_len] at this
  rw [zl_get n z j hj] at hx
  exact ⟨hj, by simpa using hx⟩
/-- The place i that is heard: which one it is of those heard. -/
theorem Heard.at {D : FD} {n : Nat} {c : Nat → Nat} {y : Nat → Int} {m : Nat} {c' y' : Nat → Nat} (h : Heard D n c y m c' y') (i : Nat) (hi : i < n) (hy : y i ≠ -1) : (hix y i).length < m ∧ c' (hix y i).length = c i ∧ ((y' (hix y i).length : Nat) : Int) = y i := by
  have hg := hix_get n i hi hy
  have h1 := zl_at (j := (hix y i).length) (x := ((c i : Nat) : Int)) ((hrL_map (fun i => ((c i : Nat) : Int)) y n).symm.trans h.lx) (by rw [List.getElem?_map, hg]; rfl)
  have h2 := zl_at (j := (hix y i).length) (x := y i) ((hrL_map y y n).symm.trans h.ly) (by rw [List.getElem?_map, hg]; rfl)
  exact ⟨h1.1, by have := h1.2; omega, h2.2⟩
theorem Heard.len {D : FD} {n : Nat} {c : Nat → Nat} {y : Nat → Int} {m : Nat} {c' y' : Nat → Nat} (h : Heard D n c y m c' y') : (hix y n).length = m := by
  have := congrArg List.length h.lx
  rw [hrL_map, List.length_map, zl_len] at this
  exact this
theorem spn_zero {D : FD} (F : Fld D) {R : Nat → Nat → Nat} {v : Nat → Nat} (h : Spn D (RowsOf 0 R) v) : v = pnil :=
  spn_ind (Q := fun v => v = pnil) rfl (fun u w hu hw => by rw [hu, hw]; exact padd_nil F (el_nil F)) (fun s u hu => by rw [hu]; exact pscale_nil F s) (fun v ⟨j, hj, _⟩ => absurd hj (by omega)) h
/-- What the first row that makes all 0 tells; or that there is none. -/
theorem null_told {D : FD} (F : Fld D) {m k t k2 : Nat} {c y : Nat → Nat} {R2 : Nat → Nat → Nat} (hw : k + t + t ≤ m) (ht : t = (m - k) / 2) (hc : ∀ i, i < m → c i < D.q) (hne : ∀ i j, i < m → j < m → i ≠ j → c i ≠ c j) (hd : Dul D (t + 1 + (t + k)) m (fun i => rvq D (c i) (y i) t (t + k)) k2 R2) :
    (k2 = 0 → ∀ a, ¬ NearH D m k c y a) ∧ (0 < k2 → El D (R2 0) ∧ Bd (t + 1 + (t + k)) (R2 0) ∧ ∀ a, NearH D m k c y a → rst2 t (R2 0) = pmul D k a (cutN (t + 1) (R2 0)) ∧ dgn (cutN (t + 1) (R2 0)) (t + 1) ≠ 0) := by
  have hel : ∀ i, i < m → El D (rvq D (c i) (y i) t (t + k)) := fun i _ => rvq_el F _ _ _ _
  refine ⟨fun h0 a ha => ?_, fun h0 => ?_⟩
  · obtain ⟨u, h1, h2, h3, h4⟩ := null_have F (xs := c) (y := y) (a := a) (k := k) (t := t) hc (by have := ha.2.2.2; omega)
    have h5 := (hd.iff F hel u).2 ⟨h1, h2, h4⟩
    rw [h0] at h5
    exact h3 (spn_zero F h5)
  · have hd2 := hd
    obtain ⟨_, _, _, p2, _, _, hR, _, _⟩ := hd2
    have hs : Spn D (RowsOf k2 R2) (R2 0) := spn_mem F (hR.el 0 h0) ⟨0, h0, rfl⟩
    obtain ⟨g1, g2, g3⟩ := (hd.iff F hel (R2 0)).1 hs
    have g4 : R2 0 ≠ pnil := fun e => by
      have := hR.one 0 h0
      rw [e] at this
      cases this
    exact ⟨g1, g2, fun a ha => null_find F hw hc hne g1 g2 g4 g3 (by have := ha.2.2.2; omega)⟩
/-- What Recovered tells. -/
def RecP (D : FD) (m k : Nat) (c y : Nat → Nat) (w : World) (e : Ending) (w' : World) : Prop := Below w.heap.size w w' ∧ ((∃ a, NearH D m k c y a ∧ ∃ v, e = .returned (.tuple #[v, .int .i64 (ofs D k m c y a : Nat), .bool true]) ∧ OwnQt w.heap.size v k a w') ∨ ((∀ a, ¬ NearH D m k c y a) ∧ e = .returned (.tuple #[.slice none 0 0, .int .i64 0, .bool false])))
theorem lls_at {base n cap : Nat} {ao : Option Addr} {L : List (Nat × (Nat → Nat))} {w : World} (h : LLs base (.slice ao n cap) L w) {j : Nat} {p : Nat × (Nat → Nat)} (hj : L[j]? = some p) : ∃ g b cp, ao = some ⟨g, 0, none⟩ ∧ w.cell? ⟨g, j, none⟩ = some (.slice (some ⟨b, 0, none⟩) (p.1 + 1) cp) ∧ Row b (p.1 + 1) p.2 w ∧ p.1 + 1 ≤ cp ∧ cp ≤ 9223372036854775807 := by
  obtain ⟨l, h1, h2⟩ := h
  obtain ⟨ao', cap', e, _, _, _, hc⟩ := h1.open
  cases e
  have hjl : j < l.length := by rw [h2.1]; exact (List.getElem?_eq_some_iff.1 hj).1
  obtain ⟨g, e, hcell, _⟩ := hc j l[j] (List.getElem?_eq_getElem hjl)
  obtain ⟨b, cp, e2, h3, h4, hr⟩ := h2.2 j l[j] p (List.getElem?_eq_getElem hjl) hj
  exact ⟨g, b, cp, e, by rw [hcell, e2], hr, h3, h4⟩
theorem zl_pad {base lq d k : Nat} {v : Value} {Q : Nat → Nat} {w : World} (hb : Bd lq Q) (hd : lq + d = k) (h : OwnI base v (zl lq (fun j => ((Q j : Nat) : Int)) ++ List.replicate d 0) w) : OwnQt base v k Q w := by
  unfold OwnQt
  have e : zl k (fun j => ((Q j : Nat) : Int)) = zl lq (fun j => ((Q j : Nat) : Int)) ++ List.replicate d 0 := by
    refine List.ext_getElem? fun j => ?_
    by_cases h1 : j < lq
    · rw [zl_get _ _ _ (by omega), List.getElem?_append_left (by rw [zl_len]; exact h1), zl_get _ _ _ h1]
    · rw [List.getElem?_append_right (by rw [zl_len]; omega), zl_len]
      by_cases h2 : j < k
      · rw [zl_get _ _ _ h2, List.getElem?_replicate, if_pos (by omega), hb j (by omega)]; rfl
      · rw [List.getElem?_eq_none (by rw [zl_len]; omega), List.getElem?_replicate, if_neg (by omega)]
  rw [e]; exact h
/-- The field's box, and one number. -/
structure RcS (B : Nat) (D : FD) (gen gm cm b o : Nat) (z : Int) (w : World) : Prop where
  c0 : w.cell? ⟨B, 0, none⟩ = some (.int .i64 D.q)
  c1 : w.cell? ⟨B, 1, none⟩ = some (.int .i64 D.p)
  c2 : w.cell? ⟨B, 2, none⟩ = some (.int .i64 D.m)
  c3 : w.cell? ⟨B, 3, none⟩ = some (.int .i64 gen)
  c4 : w.cell? ⟨B, 4, none⟩ = some (.slice (some ⟨gm, 0, none⟩) (D.m + 1) cm)
  c5 : w.cell? ⟨b, o, none⟩ = some (.int .i64 z)
end Go.Proofs.YtnjbnamcedfjaaaGreat
