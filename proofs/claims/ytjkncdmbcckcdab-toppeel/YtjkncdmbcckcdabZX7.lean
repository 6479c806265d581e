/- Texts of ours, one behind the other: X7 X8 X9 X10. -/
import Derived.Test.YtjkncdmbcckcdabZX5
import Derived.Test.YtjkncdmbcckcdabZT5
import Derived.Test.YtjkncdmbcckcdabZS2
/- The program's matrices: rows that a call makes for itself and writes into (Mx); a copy of a matrix, with columns of noughts behind it (wider). -/
namespace Go.Proofs.Ytjkncdmbcckcdab
open Go.RowKit

/-- 'make([][]int, n)'. -/
theorem make_sls {ops : Array Oper} {rest : List Oper} {o : Oper} {a : Act} {w : World} {Q : Exit → Act → World → Prop}
    (hg : o.guard = none) (l c : Operand) (hop : o.op = Op.makeSlice 24 l c) (C : Int) (n : Nat) (hl : a.eval l = .int .i64 C) (hc : a.eval c = .int .i64 C) (hC : C = (n : Int)) (hn : n ≤ 1000000)
    (hK : ∀ w', RowF w.heap.size n 22 (fun _ => .slice none 0 0) w' → w.grownBy w' none → wpList Try.prog ops Q rest (a.put o.dst (.slice (some ⟨w.heap.size, 0, none⟩) n n)) w') :
    wpList Try.prog ops Q (o :: rest) a w := by
  obtain ⟨i0, hi, hz0, hz1, hz2⟩ := info_parts Try.infoSl
  refine wpList_make_full w hg l c 24 hop w.heap.size 22 i0 (.slice none 0 0) 1 Try.underlying24 hi hz0 hz1 .i64 .i64 C C n hl hc hC hC (by rw [hz2]; omega) (by unfold maxLen; omega) (Nat.le_refl _) ?_
  intro w' hown hgrow
  refine hK w' ?_ hgrow
  have e : (madeCells (Value.slice none 0 0).cells (n * 1)).toList = List.replicate n (.slice none 0 0) := by
    rw [Nat.mul_one]; exact toList_madeCells_one _ _
  rw [e] at hown
  rcases hown.2 with ⟨h1, _⟩ | ⟨g, cap, cur, hv, _, hh, _, _, hsz, htake⟩
  · simp at h1
  · simp only [Value.slice.injEq, Option.some.injEq, Addr.mk.injEq, and_true, true_and] at hv
    obtain ⟨rfl, rfl⟩ := hv
    refine ⟨cur, hh, by omega, fun o ho => ?_⟩
    have h3 : (cur.toList.take (n * 1))[o]? = (List.replicate n (Value.slice none 0 0))[o]? := by rw [htake]
    rw [List.getElem?_take, if_pos (by omega), List.getElem?_replicate, if_pos ho] at h3
    rw [← Array.getElem?_toList]; exact h3

/-- Of the m rows that block G holds, the first k are R, of n numbers, row i in block h i; all made behind block number B. -/
structure Mx (B G m k n : Nat) (R : Nat → Nat → Nat) (h : Nat → Nat) (w : World) : Prop where
  outer : ∃ f, RowF G m 22 f w ∧ ∀ i, i < k → f i = .slice (some ⟨h i, 0, none⟩) n n
  row : ∀ i, i < k → Row (h i) n (R i) w
  geG : B ≤ G
  ge : ∀ i, i < k → B ≤ h i
  inj : ∀ i, i < k → ∀ j, j < k → h i = h j → i = j
  ne : ∀ i, i < k → h i ≠ G
  le : k ≤ m
theorem Mx.ltG {B G m k n : Nat} {R : Nat → Nat → Nat} {h : Nat → Nat} {w : World} (H : Mx B G m k n R h w) : G < w.heap.size := by
  obtain ⟨f, hf, _⟩ := H.outer
  exact hf.lt
theorem Mx.lt {B G m k n : Nat} {R : Nat → Nat → Nat} {h : Nat → Nat} {w : World} (H : Mx B G m k n R h w) (i : Nat) (hi : i < k) : h i < w.heap.size := (H.row i hi).lt
theorem Mx.below {B G m k n : Nat} {R : Nat → Nat → Nat} {h : Nat → Nat} {w w' : World} (H : Mx B G m k n R h w) (hb : Below w.heap.size w w') : Mx B G m k n R h w' := by
  obtain ⟨f, hf, hf'⟩ := H.outer
  exact ⟨⟨f, hf.below hb hf.lt, hf'⟩, fun i hi => (H.row i hi).other (hb.block _ (H.lt i hi)), H.geG, H.ge, H.inj, H.ne, H.le⟩
theorem Mx.congr {B G m k n : Nat} {R R' : Nat → Nat → Nat} {h : Nat → Nat} {w : World} (H : Mx B G m k n R h w) (e : ∀ i, i < k → ∀ j, j < n → R i j = R' i j) : Mx B G m k n R' h w :=
  ⟨H.outer, fun i hi => (H.row i hi).congr (e i hi), H.geG, H.ge, H.inj, H.ne, H.le⟩
theorem Mx.cell {B G m k n : Nat} {R : Nat → Nat → Nat} {h : Nat → Nat} {w : World} (H : Mx B G m k n R h w) (i : Nat) (hi : i < k) : w.cell? ⟨G, i, none⟩ = some (.slice (some ⟨h i, 0, none⟩) n n) := by
  obtain ⟨f, hf, hf'⟩ := H.outer
  rw [hf.cell i (Nat.lt_of_lt_of_le hi H.le), hf' i hi]
/-- Row i has been written into. -/
theorem Mx.write {B G m k n : Nat} {R : Nat → Nat → Nat} {h : Nat → Nat} {w w' : World} (H : Mx B G m k n R h w) {i : Nat} (hi : i < k) {c : Nat → Nat} (ht : Tch (h i) w w') (hc : Row (h i) n c w') : Mx B G m k n (fun j => if j = i then c else R j) h w' := by
  obtain ⟨f, hf, hf'⟩ := H.outer
  refine ⟨⟨f, hf.other (ht.block _ (fun e => H.ne i hi e.symm)), hf'⟩, fun j hj => ?_, H.geG, H.ge, H.inj, H.ne, H.le⟩
  by_cases e : j = i
  · show Row (h j) n (if j = i then c else R j) w'
    rw [if_pos e, e]; exact hc
  · show Row (h j) n (if j = i then c else R j) w'
    rw [if_neg e]; exact ht.row (H.row j hj) (fun e' => e (H.inj j hj i hi e'))
/-- One row more. -/
theorem Mx.push {B G m k n : Nat} {R : Nat → Nat → Nat} {h : Nat → Nat} {w w2 w3 : World} (H : Mx B G m k n R h w) (hk : k < m) (hb : Below w.heap.size w w2) (hb3 : Below w.heap.size (w2.setCell ⟨G, k, none⟩ (.slice (some ⟨w.heap.size, 0, none⟩) n n)) w3) {c : Nat → Nat} (hc : Row w.heap.size n c w3) (hB : B ≤ w.heap.size) :
    Mx B G m (k + 1) n (fun j => if j = k then c else R j) (fun j => if j = k then w.heap.size else h j) w3 := by
  obtain ⟨f, hf, hf'⟩ := H.outer
  have hG := H.ltG
  refine ⟨⟨_, ((hf.below hb hf.lt).store k (.slice (some ⟨w.heap.size, 0, none⟩) n n)).below hb3 hG, fun i hi => ?_⟩, fun i hi => ?_, H.geG, fun i hi => ?_, fun i hi j hj e => ?_, fun i hi => ?_, by omega⟩
  · by_cases e : i = k
    · rw [e, upd_at, if_pos rfl]
    · rw [upd_ne _ _ _ e, if_neg e]; exact hf' i (by omega)
  · show Row (if i = k then w.heap.size else h i) n (if i = k then c else R i) w3
    by_cases e : i = k
    · rw [if_pos e, if_pos e]; exact hc
    · rw [if_neg e, if_neg e]
      have hik : i < k := by omega
      have hlt := H.lt i hik
      exact (H.row i hik).other (((hb3.block _ hlt).trans (Below.heap_setCell _ _ _ _ (H.ne i hik))).trans (hb.block _ hlt))
  · show B ≤ if i = k then w.heap.size else h i
    by_cases e : i = k
    · rw [if_pos e]; exact hB
    · rw [if_neg e]; exact H.ge i (by omega)
  · by_cases e1 : i = k
    · by_cases e2 : j = k
      · omega
      · rw [if_pos e1, if_neg e2] at e
        have := H.lt j (by omega)
        omega
    · by_cases e2 : j = k
      · rw [if_neg e1, if_pos e2] at e
        have := H.lt i (by omega)
        omega
      · rw [if_neg e1, if_neg e2] at e
        exact H.inj i (by omega) j (by omega) e
  · show (if i = k then w.heap.size else h i) ≠ G
    by_cases e : i = k
    · rw [if_pos e]; omega
    · rw [if_neg e]; exact H.ne i (by omega)
end Go.Proofs.Ytjkncdmbcckcdab

/- The program's matrices: a copy of a matrix, with columns of noughts behind it (wider). -/
namespace Go.Proofs.Ytjkncdmbcckcdab
open Go.RowKit

set_option maxHeartbeats 4000000 in
set_option maxRecDepth 100000 in
theorem wider_any {ao : Option Addr} {m n ca more : Nat} {M : Nat → Nat → Nat} {w : World} (hA : MatR ao m n M w) (hBd : ∀ i, i < m → Bd (n + 1) (M i)) (hm : m ≤ 1000) (hn : n ≤ 1000) (hmore : more ≤ 1000) :
    Calls Try.prog 50 #[.slice ao m ca, .int .i64 more] w fun e w' => e = .returned (.slice (some ⟨w.heap.size, 0, none⟩) m m) ∧ (∃ h, Mx w.heap.size w.heap.size m m (n + 1 + more) M h w') ∧ Below w.heap.size w w' := by
  have HA : Hid (MatR ao m n M w ∧ ∀ i, i < m → Bd (n + 1) (M i)) := ⟨hA, hBd⟩
  clear hA hBd
  obtain ⟨N, hN⟩ : ∃ N, N = n + 1 + more := ⟨_, rfl⟩
  rw [← hN]
  have hN2 : N ≤ 3000 := by omega
  have hnN : n + 1 ≤ N := by omega
  have hwr : IntKind.i64.wrap ((n : Int) + 1 + (more : Int)) = (N : Int) := wrap_to (by omega) (by omega)
  have hwr2 : IntKind.i64.wrap (((n + 1 : Nat) : Int) + (more : Int)) = (N : Int) := wrap_to (by omega) (by omega)
  clear hN
  go_enter Try.func50, Try.ntmps50
  go_wp2_with (at_make; refine make_sls rfl _ _ rfl _ m rfl rfl rfl (by omega) ?_; intro w1 hrow1 hgrow1)
  have HB1 : Hid (Mx w.heap.size w.heap.size m 0 N M (fun _ => 0) w1 ∧ Below w.heap.size w w1) := ⟨⟨⟨_, hrow1, fun i hi => absurd hi (by omega)⟩, fun i hi => absurd hi (by omega), Nat.le_refl _, fun i hi => absurd hi (by omega), fun i hi => absurd hi (by omega), fun i hi => absurd hi (by omega), by omega⟩, below_grown hgrow1 (Nat.le_refl _) (fun k hk => by simp at hk)⟩
  clear hrow1 hgrow1
  go_loopw [13] (fun i wr => ∃ r : Nat, ∃ h : Nat → Nat, r ≤ m ∧ i = .int .i64 r ∧ Hid (Mx w.heap.size w.heap.size m r N M h wr ∧ Below w.heap.size w wr)) (fun i _ => m - (intOf i).toNat)
  case atStart => exact ⟨0, _, by omega, rfl, HB1.out⟩
  case round =>
    clear HB1
    obtain ⟨r, h, hr, rfl, HG⟩ := hrel
    by_cases hlt : r < m
    · obtain ⟨b, off, u, rfl, hcu, A, ca', rfl, hsl, hltA, hnil, hle, hcap⟩ := HA.out.1 r hlt
      have hcr := ((bcell HG.out.2).1 b (off + r) (cell_lt hcu)).trans hcu
      have hsz := HG.out.2.size
      have hG := HG.out.1.ltG
      have hib : (r : Int) < (m : Int) := by omega
      have HS : Hid (Sl A (n + 1) (M r) w ∧ LtB A w.heap.size) := ⟨hsl, hltA⟩
      clear hcu hsl hltA hnil hle hcap
      go_wp2_with (first
        | (at_make; refine make_int rfl _ _ rfl _ N rfl rfl (by omega) (by omega) ?_; intro w2 hown2 hgrow2; have hb2 : Below wr.heap.size wr w2 := below_grown hgrow2 (Nat.le_refl _) (fun k hk => by simp at hk); obtain ⟨f, hf, _⟩ := (HG.out.1.below hb2).outer; have hcG := hf.cell r hlt; have hfG := hf.free r; have hcG2 := (hf.store r (.slice (some ⟨wr.heap.size, 0, none⟩) N N)).cell r hlt; rw [upd_at] at hcG2)
        | (at_builtin; refine copy_int rfl _ _ rfl wr.heap.size N N (n + 1) ca' A rfl rfl pnil (M r) ((row_zeros hown2).other (Below.heap_setCell _ _ _ _ (by show wr.heap.size ≠ w.heap.size; omega))) (HS.out.1.below ((bel_up HG.out.2 hb2).setCell (Nat.le_refl _) _) HS.out.2) hnN wr.heap.size _ (Below.refl _ _) (Nat.le_refl _) ?_; intro w3 hrow3 hb3)
        | (show wpList _ _ _ (Oper.mk (some 31) _ _ _ _ _ :: _) _ _; refine copy_int rfl _ _ rfl wr.heap.size N N (n + 1) ca' A rfl rfl pnil (M r) ((row_zeros hown2).other (Below.heap_setCell _ _ _ _ (by show wr.heap.size ≠ w.heap.size; omega))) (HS.out.1.below ((bel_up HG.out.2 hb2).setCell (Nat.le_refl _) _) HS.out.2) hnN wr.heap.size _ (Below.refl _ _) (Nat.le_refl _) ?_; intro w3 hrow3 hb3)
        | fail)
      go_roundw
      case rel =>
        have hpush := HG.out.1.push hlt hb2 hb3 hrow3 hsz
        refine ⟨r + 1, _, by omega, by go_num, hpush.congr (fun i hi j hj => ?_), (bel_up HG.out.2 hb2).trans ?_⟩
        · by_cases e : i = r
          · rw [if_pos e, e]
            show (if j < n + 1 then M r j else pnil j) = M r j
            split
            · rfl
            · exact (HA.out.2 r hlt j (by omega)).symm
          · rw [if_neg e]
        · exact ((Below.refl _ _).setCell (Nat.le_refl _) _).trans (hb3.mono hsz)
      case measure => simp [intOf]; omega
    · have e : r = m := by omega
      subst e
      go_wp2
      go_ret
      exact ⟨rfl, ⟨_, HG.out.1⟩, HG.out.2⟩
end Go.Proofs.Ytjkncdmbcckcdab

/- The program's matrices: the field of one matrix or of two that may be; a matrix that may be, row by row. -/
namespace Go.Proofs.Ytjkncdmbcckcdab
open Go.RowKit

theorem mover1_any {D : FD} (hD : D ∈ fieldsL) {ao : Option Addr} {m ca : Nat} {A : Nat → Option Addr} {N C : Nat → Nat} {Z : Nat → Nat → Int} {w : World} (ha : MatZ ao m A N C Z w) (hm : m ≤ 1000000) :
    Calls Try.prog 49 #[.int .i64 D.q, .slice (some ⟨w.heap.size, 0, none⟩) 1 1] (w.alloc (.cells #[.slice ao m ca] 24)) fun e w' => Below w.heap.size w w' ∧
      ((D.mchk m N Z = 0 ∧ ∃ F T f, e = .returned (.tuple #[.pointer (some ⟨F, 0, none⟩), .int .i64 0]) ∧ FAt F T D f w' ∧ w.heap.size ≤ F ∧ w.heap.size ≤ T) ∨ (D.mchk m N Z ≠ 0 ∧ e = .returned (.tuple #[.pointer none, .int .i64 (D.mchk m N Z)]))) := by
  have hbl : Below w.heap.size w (w.alloc (.cells #[.slice ao m ca] 24)) := (Below.refl _ _).alloc (Nat.le_refl _) _
  have hM : ManyM w.heap.size 1 (fun _ => ao) (fun _ => m) (fun _ => ca) (fun _ => A) (fun _ => N) (fun _ => C) (fun _ => Z) (w.alloc (.cells #[.slice ao m ca] 24)) := by
    refine ⟨fun j hj => ?_, fun j hj => ha.below hbl, fun j hj => hm, by simp⟩
    rw [cell_of_row _ _ _ _ _ (0, 0) (two_new _)]
    rcases j with _ | j
    · rfl
    · omega
  have h := mover_any hD (cap := 1) hM (by omega)
  rw [show D.mmchk (fun _ => m) (fun _ => N) (fun _ => Z) 1 = D.mchk m N Z from by show (if (0 : Int) = 0 then D.mchk m N Z else 0) = _; rw [if_pos rfl]] at h
  refine h.mono ?_
  rintro e w' ⟨hb', hr⟩
  refine ⟨bel_up hbl hb', ?_⟩
  rcases hr with ⟨h0, F, T, f, rfl, hat, h1, h2⟩ | h
  · simp at h1 h2
    exact Or.inl ⟨h0, F, T, f, rfl, hat, by omega, by omega⟩
  · exact Or.inr h
end Go.Proofs.Ytjkncdmbcckcdab

/- The program's matrices: products (Times). -/
namespace Go.Proofs.Ytjkncdmbcckcdab
open Go.RowKit

theorem Mx.drewN {B G m k n : Nat} {R : Nat → Nat → Nat} {h : Nat → Nat} {w : World} (H : Mx B G m k n R h w) (d : Nat) : Mx B G m k n R h (w.drewN d) := by
  obtain ⟨f, hf, hf'⟩ := H.outer
  exact ⟨⟨f, hf.drewN d, hf'⟩, fun i hi => (H.row i hi).drewN d, H.geG, H.ge, H.inj, H.ne, H.le⟩

end Go.Proofs.Ytjkncdmbcckcdab
