/- Texts of ours, one behind the other: Q3 Q4. -/
import Derived.Test.YtcgmllamiaflcaaZQ2
import Derived.Test.YtcgmllamiaflcaaZZ1
/- The program's products: pairs of powers, two cells each. -/
namespace Go.Proofs.Ytcgmllamiaflcaa
open Go.RowKit Go.Sort

theorem Try.infoQ : (Try.prog.info? 94).map (fun i => (i.zero, i.size, i.bytes)) = some (some (.agg #[.int .i64 0, .int .i64 0]), 2, 16) := by kernel_rfl
/-- The cells of pairs. -/
def qc (l : List (Nat × Nat)) : List Value := l.flatMap fun p => [.int .i64 (p.1 : Nat), .int .i64 (p.2 : Nat)]
theorem qc_get : ∀ (l : List (Nat × Nat)) (a : Nat), a < l.length → (qc l)[a * 2]? = some (.int .i64 (pxf l a : Nat)) ∧ (qc l)[a * 2 + 1]? = some (.int .i64 (pyf l a : Nat))
  | [], a, h => absurd h (by simp)
  | x :: l, 0, _ => ⟨rfl, rfl⟩
  | x :: l, a + 1, h => by
    have := qc_get l a (by rw [List.length_cons] at h; omega)
    show (Value.int .i64 (x.1 : Nat) :: Value.int .i64 (x.2 : Nat) :: qc l)[(a + 1) * 2]? = _ ∧ (Value.int .i64 (x.1 : Nat) :: Value.int .i64 (x.2 : Nat) :: qc l)[(a + 1) * 2 + 1]? = _
    rw [show (a + 1) * 2 = a * 2 + 1 + 1 from by omega, List.getElem?_cons_succ, List.getElem?_cons_succ, List.getElem?_cons_succ, List.getElem?_cons_succ]
    exact this
theorem qc_app (l m : List (Nat × Nat)) : qc (l ++ m) = qc l ++ qc m := by
  unfold qc
  rw [List.flatMap_append]
/-- The slice v of pairs, made behind block number base, holds the pairs l. -/
def OwnQ (base : Nat) (v : Value) (l : List (Nat × Nat)) (w : World) : Prop := w.ownsRow base 94 2 v l.length (qc l)
theorem OwnQ.nil (base : Nat) (w : World) : OwnQ base (.slice none 0 0) [] w := World.ownsRow_nil _ _ _ _
theorem OwnQ.below {base B : Nat} {v : Value} {l : List (Nat × Nat)} {w w' : World} (h : OwnQ base v l w) (hb : Below B w w') (hB : w.heap.size ≤ B) : OwnQ base v l w' := by
  obtain ⟨h1, h2⟩ := h
  refine ⟨h1, ?_⟩
  rcases h2 with h2 | ⟨g, cap, cur, hv, hg, hh, r⟩
  · exact Or.inl h2
  · exact Or.inr ⟨g, cap, cur, hv, hg, by rw [hb.block g (Nat.lt_of_lt_of_le (lt_of_block hh) hB)]; exact hh, r⟩
theorem OwnQ.ge {base : Nat} {v : Value} {l : List (Nat × Nat)} {w : World} (h : OwnQ base v l w) : ∀ k, v.ownBlock = some k → base ≤ k := fun k hk => (World.ownsRow.lt h k hk).1
/-- n pairs of numbers from ao on. -/
def SlQ (ao : Option Addr) (n : Nat) (px py : Nat → Nat) (w : World) : Prop := ∀ j, j < n → ∃ b, ao = some ⟨b, 0, none⟩ ∧ w.cell? ⟨b, j * 2, none⟩ = some (.int .i64 (px j : Nat)) ∧ w.cell? ⟨b, j * 2 + 1, none⟩ = some (.int .i64 (py j : Nat))
theorem SlQ.below {ao : Option Addr} {n : Nat} {px py : Nat → Nat} {w w' : World} (h : SlQ ao n px py w) (hb : Below w.heap.size w w') : SlQ ao n px py w' := fun j hj => by
  obtain ⟨b, e, hc, hd⟩ := h j hj
  have hlt : b < w.heap.size := by
    rcases Nat.lt_or_ge b w.heap.size with e | e
    · exact e
    · exfalso
      have h1 : w.heap[b]? = none := Array.getElem?_eq_none e
      simp [World.cell?, h1] at hc
  exact ⟨b, e, ((bcell hb).1 b (j * 2) hlt).trans hc, ((bcell hb).1 b (j * 2 + 1) hlt).trans hd⟩
theorem OwnQ.open {base : Nat} {v : Value} {l : List (Nat × Nat)} {w : World} (h : OwnQ base v l w) : ∃ ao cap, v = .slice ao l.length cap ∧ SlQ ao l.length (pxf l) (pyf l) w := by
  rcases h.2 with ⟨h1, h2⟩ | ⟨g, cap, cur, hv, hg, hh, hle, hcm, hsz, htake⟩
  · exact ⟨none, 0, by rw [h1, h2], fun j hj => absurd hj (by omega)⟩
  · refine ⟨_, cap, hv, fun j hj => ⟨g, rfl, ?_, ?_⟩⟩
    · rw [cell_of_row w g (j * 2) cur 94 (0, 0) hh, ← Array.getElem?_toList]
      have h3 : (cur.toList.take (l.length * 2))[j * 2]? = (qc l)[j * 2]? := by rw [htake]
      rw [List.getElem?_take, if_pos (by omega)] at h3
      rw [h3]; exact (qc_get l j hj).1
    · rw [cell_of_row w g (j * 2 + 1) cur 94 (0, 0) hh, ← Array.getElem?_toList]
      have h3 : (cur.toList.take (l.length * 2))[j * 2 + 1]? = (qc l)[j * 2 + 1]? := by rw [htake]
      rw [List.getElem?_take, if_pos (by omega)] at h3
      rw [h3]; exact (qc_get l j hj).2

/-- 'l = append(l, [2]int{x, y})', l a slice of the call's own. -/
theorem append_q {ops : Array Oper} {rest : List Oper} {o : Oper} {a : Act} {w : World} {Q : Exit → Act → World → Prop} (hgd : o.guard = none) (s x : Operand)
    (ho : o.op = .call { callee := .builtin .append, args := #[s, x], argTypes := #[70, 70] })
    (base : Nat) (v : Value) (l : List (Nat × Nat)) (hs : a.eval s = v) (hown : OwnQ base v l w) (g : Nat) (c : Nat) (p : Nat × Nat) (hx : a.eval x = .slice (some ⟨g, 0, none⟩) 1 c) (hc0 : w.cell? ⟨g, 0, none⟩ = some (.int .i64 (p.1 : Nat))) (hc1 : w.cell? ⟨g, 1, none⟩ = some (.int .i64 (p.2 : Nat)))
    (hlen : l.length ≤ 1000000) (hbase : base ≤ w.heap.size)
    (h : ∀ v' w', OwnQ base v' (l ++ [p]) w' → w.grownBy w' v.ownBlock → wpList Try.prog ops Q rest (a.put o.dst v') w') : wpList Try.prog ops Q (o :: rest) a w := by
  obtain ⟨i0, hi, hz0, hz1, hz2⟩ := info_parts Try.infoQ
  refine wpList_append_own _ hgd s x 70 ho base 94 i0 (.agg #[.int .i64 0, .int .i64 0]) 2 16 Try.underlying70 hi hz0 hz1 hz2 rfl (by decide) v l.length _ hs hown ⟨g, 0, none⟩ 1 c [.int .i64 (p.1 : Nat), .int .i64 (p.2 : Nat)] hx rfl ?_ ?_ ?_ ?_ hbase ?_
  · intro j u hj
    match j, hj with
    | 0, hj =>
      simp at hj; subst hj
      exact hc0
    | 1, hj =>
      simp at hj; subst hj
      exact hc1
  · intro u hu
    simp at hu
    rcases hu with rfl | rfl <;> rfl
  · unfold maxLen; omega
  · omega
  · intro v' w' hown' hgrow _
    refine h v' w' ?_ hgrow
    unfold OwnQ
    rw [List.length_append, qc_app]
    exact hown'

/-- The products of j rows, and of the next one i. -/
def pri (K t j i : Nat) : List (Nat × Nat) := pro K t j ++ (List.range i).map fun i => (i, j)
theorem pri_zero (K t j : Nat) : pri K t j 0 = pro K t j := by simp [pri]
theorem pri_len (K t j i : Nat) : (pri K t j i).length = (pro K t j).length + i := by
  unfold pri
  rw [List.length_append, List.length_map, List.length_range]
theorem pri_succ (K t j i : Nat) : pri K t j (i + 1) = pri K t j i ++ [(i, j)] := by
  unfold pri
  rw [List.range_succ, List.map_append, List.append_assoc]; rfl
theorem pri_end {K t j i : Nat} (h : i = min (t - j * K) (64 - (pro K t j).length)) : pri K t j i = pro K t (j + 1) := by rw [h]; rfl

set_option maxHeartbeats 4000000 in
set_option maxRecDepth 100000 in
theorem products_any (k t K : Nat) (hk : k = K + 1) (hK : 1 ≤ K) (hK2 : K ≤ 64) (ht2 : t ≤ 64) (w : World) :
    Calls Try.prog 45 #[.int .i64 k, .int .i64 t] w fun e w' => ∃ v, e = .returned v ∧ OwnQ w.heap.size v (prs K t) w' ∧ Below w.heap.size w w' := by
  have hw1 : IntKind.i64.wrap ((k : Int) - 1) = (K : Int) := wrap_to (by omega) (by omega)
  clear hk
  go_enter Try.func45, Try.ntmps45
  go_wp2
  go_loopw [5, 6] (fun vo vj wr => ∃ (j : Nat), j ≤ t ∧ vj = .int .i64 j ∧ Hid (OwnQ w.heap.size vo (pro K t j) wr ∧ Below w.heap.size w wr)) (fun _ vj _ => t - (intOf vj).toNat)
  case atStart => exact ⟨0, by omega, rfl, OwnQ.nil _ _, Below.refl _ _⟩
  case round =>
    obtain ⟨j, hj, rfl, HG⟩ := hrel
    rename World => wA
    obtain ⟨jK, hjK⟩ : ∃ jK, jK = j * K := ⟨_, rfl⟩
    have hjj : j ≤ jK := by rw [hjK]; exact Nat.le_mul_of_pos_right j hK
    have hjb : jK ≤ 4096 := by rw [hjK]; exact Nat.le_trans (Nat.mul_le_mul (show j ≤ 64 by omega) hK2) (by omega)
    have hw2 : IntKind.i64.wrap ((j : Int) * (K : Int)) = (jK : Int) := wrap_to (by rw [hjK]; simp) (by omega)
    by_cases hlt : jK < t
    · have hib : (jK : Int) < (t : Int) := by omega
      obtain ⟨m, hm⟩ : ∃ m, m = min (t - jK) (64 - (pro K t j).length) := ⟨_, rfl⟩
      have hl := pro_len K t j
      obtain ⟨ln, hln⟩ : ∃ ln, ln = (pro K t j).length := ⟨_, rfl⟩
      rw [← hln] at hm hl
      have HM : Hid (jK = j * K ∧ ln = (pro K t j).length ∧ m = min (t - jK) (64 - ln)) := ⟨hjK, hln, hm⟩
      have hm1 : m + jK ≤ t := by omega
      have hm2 : m + ln ≤ 64 := by omega
      have hm3 : m + jK = t ∨ m + ln = 64 := by omega
      clear hjK hln hm
      go_wp2
      go_loopw [5, 7] (fun vo vi wr => ∃ (i lc : Nat) (lo : Option Addr), i ≤ m ∧ vi = .int .i64 i ∧ vo = .slice lo (ln + i) lc ∧ Hid (OwnQ w.heap.size (.slice lo (ln + i) lc) (pri K t j i) wr ∧ Below w.heap.size w wr)) (fun _ vi _ => m - (intOf vi).toNat)
      case atStart =>
        obtain ⟨ao, cap, e, _⟩ := HG.out.1.open
        refine ⟨0, cap, ao, by omega, rfl, by rw [e, HM.out.2.1]; rfl, ?_, HG.out.2⟩
        rw [pri_zero, HM.out.2.1, Nat.add_zero, ← e]
        exact HG.out.1
      case round =>
        obtain ⟨i, lc, lo, hi, rfl, rfl, HI⟩ := hrel
        rename World => wB
        have hw3 : IntKind.i64.wrap ((i : Int) + (jK : Int)) = ((i + jK : Nat) : Int) := wrap_to (by omega) (by omega)
        by_cases him : i < m
        · have h1 : ((i + jK : Nat) : Int) < (t : Int) := by omega
          have h2 : ((ln + i : Nat) : Int) < 64 := by omega
          have hll : (pri K t j i).length ≤ 1000000 := by rw [pri_len, ← HM.out.2.1]; omega
          have hs := HI.out.2.size
          go_wp2_with (at_builtin; refine append_q rfl _ _ rfl w.heap.size (.slice lo (ln + i) lc) (pri K t j i) rfl (HI.out.1.below ((Below.refl _ _).alloc (Nat.le_refl _) _) (Nat.le_refl _)) wB.heap.size 1 (i, j) rfl (by rw [cell_of_row _ _ _ _ _ (0, 0) (two_new _)]; rfl) (by rw [cell_of_row _ _ _ _ _ (0, 0) (two_new _)]; rfl) hll (by simp; omega) ?_; intro v' w6 hown6 hg6)
          have HR : Hid (OwnQ w.heap.size v' (pri K t j (i + 1)) w6 ∧ Below w.heap.size w w6) := by
            rw [pri_succ]
            exact ⟨hown6, (bel_up' HI.out.2 ((Below.refl _ _).alloc (Nat.le_refl _) _)).grown hg6 (by simp; omega) (fun k hk => HI.out.1.ge k hk)⟩
          obtain ⟨ao, cap, e, _⟩ := HR.out.1.open
          rw [pri_len, ← HM.out.2.1] at e
          clear hown6 hg6
          subst e
          go_roundw
          case rel => exact ⟨i + 1, cap, ao, by omega, by go_num, rfl, HR.out.1, HR.out.2⟩
          case measure => simp [intOf]; omega
        · have him2 : i = m := by omega
          subst him2
          have HR : Hid (OwnQ w.heap.size (.slice lo (ln + i) lc) (pro K t (j + 1)) wB ∧ Below w.heap.size w wB) := by
            rw [← pri_end (i := i) (by rw [← HM.out.1, ← HM.out.2.1]; exact HM.out.2.2)]
            exact HI.out
          clear HM
          by_cases h1 : i + jK < t
          · have h1 : ((i + jK : Nat) : Int) < (t : Int) := by omega
            have h2 : ¬ ((ln + i : Nat) : Int) < 64 := by omega
            go_wp2
            go_roundw
            case rel => exact ⟨j + 1, by omega, by go_num, HR.out⟩
            case measure => simp [intOf]; omega
          · have h1 : ¬ ((i + jK : Nat) : Int) < (t : Int) := by omega
            go_wp2
            go_roundw
            case rel => exact ⟨j + 1, by omega, by go_num, HR.out⟩
            case measure => simp [intOf]; omega
    · have hib : ¬ (jK : Int) < (t : Int) := by omega
      have e := prs_of hK (show t ≤ j * K by omega)
      rw [e] at HG
      go_wp2
      go_ret
      exact ⟨_, rfl, HG.out⟩
end Go.Proofs.Ytcgmllamiaflcaa

/- The program's valuesAt: all products at an x and a y. -/
namespace Go.Proofs.Ytcgmllamiaflcaa
open Go.RowKit Go.Sort

/-- A power, as an element. -/
def FD.pn (D : FD) (a k : Nat) : Nat := (D.powZ a k).toNat
theorem pn_eq {D : FD} {a : Nat} (ha : a < D.q) (k : Nat) : D.powZ a k = (D.pn a k : Nat) := by
  have hh : D.has (a : Nat) = true := decide_eq_true ⟨by omega, by omega⟩
  have : (0 : Int) ≤ D.powZ a k := by
    unfold FD.powZ
    rw [hh, if_neg (by decide)]
    split
    · omega
    · split
      · rw [if_neg (by omega)]; omega
      · omega
  unfold FD.pn
  omega
theorem pn_lt {D : FD} (hD : D ∈ fieldsL) {a : Nat} (ha : a < D.q) (k : Nat) : D.pn a k < D.q := by
  have h2 := (fld hD).q2
  have e := pn_eq ha k
  have hh : D.has (a : Nat) = true := decide_eq_true ⟨by omega, by omega⟩
  unfold FD.powZ at e
  rw [hh, if_neg (by decide)] at e
  split at e
  · omega
  · split at e
    · rw [if_neg (by omega)] at e; omega
    · have := pw_lt hD (Int.toNat (a : Nat)) ((k : Int) % ((D.q - 1 : Nat) : Int)).toNat
      omega

set_option maxHeartbeats 4000000 in
set_option maxRecDepth 100000 in
theorem valuesAt_any {F T : Nat} {D : FD} (hD : D ∈ fieldsL) {g : Nat → Value} {w : World} (hat : FAt F T D g w) {ao : Option Addr} {n ca : Nat} {px py : Nat → Nat} {x y : Nat} (hn : n ≤ 64) (hx : x < D.q) (hy : y < D.q) (hA : SlQ ao n px py w) (hpx : ∀ i, i < n → px i ≤ 64) (hpy : ∀ i, i < n → py i ≤ 64) :
    Calls Try.prog 46 #[.pointer (some ⟨F, 0, none⟩), .slice ao n ca, .int .i64 (x : Nat), .int .i64 (y : Nat)] w fun e w' =>
      e = .returned (.slice (some ⟨w.heap.size, 0, none⟩) n n) ∧ Row w.heap.size n (fun i => D.mul (D.pn x (px i)) (D.pn y (py i))) w' ∧ Below w.heap.size w w' := by
  have HF : Hid (FAt F T D g w ∧ D ∈ fieldsL ∧ SlQ ao n px py w ∧ x < D.q ∧ y < D.q ∧ (∀ i, i < n → px i ≤ 64) ∧ (∀ i, i < n → py i ≤ 64)) := ⟨hat, hD, hA, hx, hy, hpx, hpy⟩
  clear hat hD hA hx hy hpx hpy
  go_enter Try.func46, Try.ntmps46
  go_wp2_with (at_make; refine make_int rfl _ _ rfl _ n rfl rfl (by omega) (by omega) ?_; intro w1 hown1 hgrow1)
  have HB1 : Hid (Below w.heap.size w w1 ∧ Row w.heap.size n pnil w1) := ⟨below_grown hgrow1 (Nat.le_refl _) (fun k hk => by simp at hk), row_zeros hown1⟩
  clear hown1 hgrow1
  obtain ⟨gr, hg⟩ : ∃ g, g = w.heap.size := ⟨_, rfl⟩
  have HB2 : Hid (Below w.heap.size w w1 ∧ Row gr n pnil w1 ∧ gr = w.heap.size) := by rw [hg]; exact ⟨HB1.out.1, HB1.out.2, rfl⟩
  rw [← hg]
  have hgD : w.heap.size ≤ gr := by omega
  clear HB1 hg
  go_loopw [17] (fun i wr => ∃ r : Nat, r ≤ n ∧ i = .int .i64 r ∧ Hid (Row gr n (fun j => if j < r then D.mul (D.pn x (px j)) (D.pn y (py j)) else 0) wr ∧ Below w.heap.size w wr)) (fun i _ => n - (intOf i).toNat)
  case atStart => exact ⟨0, by omega, rfl, HB2.out.2.1.congr (fun j _ => by rw [if_neg (by omega)]; rfl), HB2.out.1⟩
  case round =>
    obtain ⟨r, hr, rfl, HG⟩ := hrel
    rename World => wA
    by_cases hlt : r < n
    · have hib : (r : Int) < (n : Int) := by omega
      obtain ⟨bx, hxo, hc0, hc1⟩ := (HF.out.2.2.1.below HG.out.2) r hlt
      subst hxo
      obtain ⟨i, hi⟩ : ∃ i, i = px r := ⟨_, rfl⟩
      obtain ⟨j, hj⟩ : ∃ j, j = py r := ⟨_, rfl⟩
      rw [← hi] at hc0
      rw [← hj] at hc1
      have HX : Hid (i = px r ∧ j = py r ∧ i ≤ 64 ∧ j ≤ 64) := ⟨hi, hj, by rw [hi]; exact HF.out.2.2.2.2.2.1 r hlt, by rw [hj]; exact HF.out.2.2.2.2.2.2 r hlt⟩
      clear hi hj
      obtain ⟨pb, hpb⟩ : ∃ pb, pb = wA.heap.size := ⟨_, rfl⟩
      obtain ⟨wB, hwB⟩ : ∃ wB, wB = wA.alloc (.cells #[.int .i64 (i : Nat), .int .i64 (j : Nat)] 94) := ⟨_, rfl⟩
      have hp0 : wB.cell? ⟨pb, 0, none⟩ = some (.int .i64 (i : Nat)) := by rw [hwB, hpb, cell_of_row _ _ _ _ _ (0, 0) (two_new _)]; rfl
      have hp1 : wB.cell? ⟨pb, 1, none⟩ = some (.int .i64 (j : Nat)) := by rw [hwB, hpb, cell_of_row _ _ _ _ _ (0, 0) (two_new _)]; rfl
      have hbB : Below wA.heap.size wA wB := by rw [hwB]; exact (Below.refl _ _).alloc (Nat.le_refl _) _
      have hbw := bel_up' HG.out.2 hbB
      have hatB := HF.out.1.below hbw HF.out.1.ltF HF.out.1.ltT
      have HC1 : Hid (∀ d a b : Nat, a < D.q → b ≤ 64 → Calls Try.prog 71 #[.pointer (some ⟨F, 0, none⟩), .int .i64 (a : Nat), .int .i64 (b : Nat)] (wB.drewN d) fun e w' => e = .returned (.int .i64 (D.pn a b : Nat)) ∧ ∃ k, w' = (wB.drewN d).drewN k) := fun d a b ha hb => by
        refine (pow_any HF.out.2.1 (hatB.drewN d) a b (by omega) (by omega)).mono ?_
        rintro e w' ⟨rfl, hw⟩
        exact ⟨by rw [pn_eq ha b], hw⟩
      obtain ⟨z, hz⟩ : ∃ z, z = D.mul (D.pn x i) (D.pn y j) := ⟨_, rfl⟩
      have HC2 : Hid (∀ d, Calls Try.prog 20 #[.pointer (some ⟨F, 0, none⟩), .int .i64 (D.pn x i : Nat), .int .i64 (D.pn y j : Nat)] (wB.drewN d) fun e w' => e = .returned (.int .i64 (z : Nat)) ∧ ∃ k, w' = (wB.drewN d).drewN k) := fun d => by
        rw [hz]
        exact mul_nat HF.out.2.1 (hatB.drewN d) (pn_lt HF.out.2.1 HF.out.2.2.2.1 i) (pn_lt HF.out.2.1 HF.out.2.2.2.2.1 j)
      have hrowB := HG.out.1.below hbB HG.out.1.lt
      have hco : wB.cell? ⟨gr, r, none⟩ = some (.int .i64 (0 : Nat)) := by
        have h := hrowB.cell r hlt
        rw [if_neg (by omega)] at h; exact h
      have hfo := hrowB.free r
      have HV : Hid (Row gr n (fun j => if j < r then D.mul (D.pn x (px j)) (D.pn y (py j)) else 0) wB ∧ Below w.heap.size w wB ∧ z = D.mul (D.pn x (px r)) (D.pn y (py r)) ∧ x < D.q ∧ y < D.q ∧ i ≤ 64 ∧ j ≤ 64) := ⟨hrowB, hbw, by rw [hz, HX.out.1, HX.out.2.1], HF.out.2.2.2.1, HF.out.2.2.2.2.1, HX.out.2.2.1, HX.out.2.2.2⟩
      clear hbB hbw hatB hz hrowB HG
      go_wp2
      rw [← hwB, ← hpb]
      clear hwB hpb hc0 hc1
      refine quiet_tail 15 (by kernel_rfl) (by kernel_rfl) ?_
      simp only [List.take_succ_cons, List.take_zero, List.drop_succ_cons, List.drop_zero]
      repeat (go_big_quiet_step (first | (go_at_call 71; exact Calls.quiet_of (HC1.out _ _ _ (by first | exact HV.out.2.2.2.1 | exact HV.out.2.2.2.2.1) (by first | exact HV.out.2.2.2.2.2.1 | exact HV.out.2.2.2.2.2.2))) | (go_at_call 20; exact Calls.quiet_of (HC2.out _))))
      refine wpQuiet_nil ?_
      intro _ hw'
      obtain ⟨nq, hw''⟩ := hw'
      subst hw''
      go_wp2
      go_roundw
      case rel =>
        refine ⟨r + 1, by omega, by go_num, (HV.out.1.drewN nq).store r z (fun k _ => ?_), (below_drewN2 HV.out.2.1 nq).setCell (by omega) _⟩
        by_cases e : k = r
        · rw [if_pos (by omega), if_pos e, e]; exact HV.out.2.2.1.symm
        · rw [if_neg e]
          by_cases e2 : k < r
          · rw [if_pos (by omega), if_pos e2]
          · rw [if_neg (by omega), if_neg e2]
      case measure => simp [intOf]; omega
    · have hib : ¬ (r : Int) < (n : Int) := by omega
      have HE : Hid (Row gr n (fun i => D.mul (D.pn x (px i)) (D.pn y (py i))) wA ∧ Below w.heap.size w wA) := ⟨HG.out.1.congr (fun j hj => by rw [if_pos (by omega)]), HG.out.2⟩
      have hge := HB2.out.2.2
      clear HG HB2
      subst hge
      go_wp2
      go_ret
      exact ⟨rfl, HE.out⟩
end Go.Proofs.Ytcgmllamiaflcaa
