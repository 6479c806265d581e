/- Texts of ours, one behind the other: Q6 I1 I3. -/
import Derived.Test.YtcgmllamiaflcaaZQ3
import Derived.Test.YtcgmllamiaflcaaZQ5
import Derived.Test.YtcgmllamiaflcaaZX18
import Derived.Test.YtcgmllamiaflcaaZL10
/- The program's Sudan. -/
namespace Go.Proofs.Ytcgmllamiaflcaa
open Go.RowKit Go.Sort

/-- What the products l are at place i: x the place, y the number there. -/
def svm (D : FD) (xs y : Nat → Nat) (l : List (Nat × Nat)) (i j : Nat) : Nat := if j < l.length then D.mul (D.pn (xs i) (pxf l j)) (D.pn (y i) (pyf l j)) else 0
theorem svm_el {D : FD} (hD : D ∈ fieldsL) (xs y : Nat → Nat) (l : List (Nat × Nat)) (i : Nat) : El D (svm D xs y l i) := fun j => by
  unfold svm
  split
  · exact (fld hD).mul_lt _ _
  · exact zero_lt' (fld hD)
theorem svm_bd (D : FD) (xs y : Nat → Nat) (l : List (Nat × Nat)) (i : Nat) : Bd l.length (svm D xs y l i) := fun j hj => by
  unfold svm
  rw [if_neg (by omega)]
/-- The reduced form of these rows; the reduced form of what they make 0. -/
structure SOk (D : FD) (m P : Nat) (V : Nat → Nat → Nat) (k : Nat) (R : Nat → Nat → Nat) (p : Nat → Nat) (k2 : Nat) (R2 : Nat → Nat → Nat) (p2 : Nat → Nat) : Prop where
  km : k ≤ m
  rre : RRE D P k R p
  spn : ∀ v, Spn D (RowsOf k R) v ↔ Spn D (RowsOf m V) v
  km2 : k2 ≤ nct k p P
  rre2 : RRE D P k2 R2 p2
  spn2 : ∀ v, Spn D (RowsOf k2 R2) v ↔ Spn D (RowsOf (nct k p P) (nul D R p k P)) v
theorem sok_ex {D : FD} (hD : D ∈ fieldsL) {m P : Nat} {V : Nat → Nat → Nat} (hV : ∀ i, El D (V i)) (hB : ∀ i, Bd P (V i)) : ∃ k R p k2 R2 p2, SOk D m P V k R p k2 R2 p2 := by
  obtain ⟨k, R, p, a1, a2, a3⟩ := rre_ex hD (m := m) (n := P) (R := V) (fun i _ => hV i) (fun i _ => hB i)
  obtain ⟨k2, R2, p2, b1, b2, b3⟩ := rre_ex hD (m := nct k p P) (n := P) (R := nul D R p k P) (fun i _ => nul_el (fld hD) a2.el _ _) (fun i hi => nul_bd a2.lt hi)
  exact ⟨k, R, p, k2, R2, p2, a1, a2, a3, b1, b2, b3⟩
theorem Mx.matZ {B G m n : Nat} {R : Nat → Nat → Nat} {h : Nat → Nat} {w : World} (H : Mx B G m m n R h w) (hn : n ≤ 1000000) : MatZ (some ⟨G, 0, none⟩) m (fun i => some ⟨h i, 0, none⟩) (fun _ => n) (fun _ => n) (fun i j => ((R i j : Nat) : Int)) w :=
  ⟨fun i hi => ⟨G, 0, rfl, by rw [Nat.zero_add]; exact H.cell i hi⟩, fun i hi => (H.row i hi).sl (Nat.le_refl _), fun _ _ => Nat.le_refl _, fun _ _ => by omega, fun _ _ e => (by cases e), fun _ _ => hn⟩
theorem mzc_nat {P : Nat} {V : Nat → Nat → Nat} (hB : ∀ i, Bd P (V i)) : mzc (fun _ => P) (fun i j => ((V i j : Nat) : Int)) = V := by
  funext i j
  show (if j < P then Int.toNat _ else 0) = _
  split
  · rw [Int.toNat_natCast]
  · exact (hB i j (by omega)).symm
theorem mchk_nat {D : FD} {m P : Nat} {V : Nat → Nat → Nat} (hm : m ≤ 64) (hP : 1 ≤ P) (hP2 : P ≤ 64) (hV : ∀ i, El D (V i)) : D.mchk m (fun _ => P) (fun i j => ((V i j : Nat) : Int)) = 0 := by
  refine mchk_of hm (fun i _ => ?_)
  unfold FD.mrow
  rw [if_neg (by omega), if_neg (by omega), if_pos]
  exact allHas_iff.2 (fun j _ => has_of_lt (hV i j))
theorem RL.first {lo : Option Addr} {k n lc : Nat} {R : Nat → Nat → Nat} {w : World} (h : RL (.slice lo k lc) k n R w) (hk : 0 < k) : ∃ b off x cx, lo = some ⟨b, off, none⟩ ∧ w.cell? ⟨b, off, none⟩ = some (.slice x n cx) ∧ Sl x n (R 0) w := by
  obtain ⟨ao, ca, e, h⟩ := h
  cases e
  obtain ⟨b, off, x, cx, e1, e2, e3⟩ := h 0 hk
  exact ⟨b, off, x, cx, e1, e2, e3⟩
theorem Sl.ltb {ao : Option Addr} {n : Nat} {c : Nat → Nat} {w : World} (h : Sl ao n c w) (hn : 1 ≤ n) : LtB ao w.heap.size := by
  obtain ⟨b, off, e, hc⟩ := h 0 hn
  intro x hx
  rw [e] at hx
  cases hx
  exact cell_lt hc
/-- The program's Null of these rows. -/
theorem p_null {D : FD} (hD : D ∈ fieldsL) {B G m P : Nat} {V : Nat → Nat → Nat} {h : Nat → Nat} {w : World} {ca k : Nat} {R : Nat → Nat → Nat} {p : Nat → Nat} {k2 : Nat} {R2 : Nat → Nat → Nat} {p2 : Nat → Nat} (hS : SOk D m P V k R p k2 R2 p2) (hk2 : k2 = nct k p P) (H : Mx B G m m P V h w) (hm0 : 0 < m) (hm : m ≤ 64) (hP : 1 ≤ P) (hP2 : P ≤ 64) (hV : ∀ i, El D (V i)) (hB : ∀ i, Bd P (V i)) :
    Calls Try.prog 47 #[.int .i64 D.q, .slice (some ⟨G, 0, none⟩) m ca] w fun e w' => ∃ lo lc, e = .returned (.tuple #[.slice lo k2 lc, .int .i64 0]) ∧ RL (.slice lo k2 lc) k2 P R2 w' ∧ Below w.heap.size w w' := by
  refine (mnull_any hD (H.matZ (by omega)) (by omega)).mono ?_
  rintro e w' ⟨hb, hr⟩
  have h0 := mchk_nat (D := D) hm hP hP2 hV
  rcases hr with ⟨h1, _⟩ | ⟨_, v, k', R', p', k2', R2', p2', W, rfl, _, hW, hR', hS', hrl, hk2', hR2, hS2⟩
  · exact absurd h0 h1
  · have hWe : W = P := hW hm0
    subst hWe
    rw [mzc_nat hB] at hS'
    replace hrl := hrl.rl
    obtain ⟨rfl, he⟩ := rre_uniq (fld hD) hR' hS.rre (fun v => (hS' v).trans (hS.spn v).symm)
    have hc : nct k' p' W = nct k' p W := nct_congr (fun i hi => (he i hi).1) _
    have hn : nul D R' p' k' W = nul D R p k' W := nul_congr he _
    rw [hc] at hrl hk2' hS2
    rw [hn] at hS2
    obtain ⟨hk2e, he2⟩ := rre_uniq (fld hD) hR2 hS.rre2 (fun v => (hS2 v).trans (hS.spn2 v).symm)
    rw [← hk2] at hrl
    obtain ⟨lo, lc, rfl⟩ := hrl.open
    exact ⟨lo, lc, rfl, hrl.congr (fun i hi => (he2 i (by omega)).2), hb⟩

set_option maxHeartbeats 8000000 in
set_option maxRecDepth 100000 in
theorem sudan_any {D : FD} (hD : D ∈ fieldsL) {xo yo : Option Addr} {n cx cy k K t : Nat} {xs y : Nat → Nat} {w : World} {k1 : Nat} {R : Nat → Nat → Nat} {p : Nat → Nat} {k2 : Nat} {R2 : Nat → Nat → Nat} {p2 : Nat → Nat} (hS : SOk D n (prs K t).length (svm D xs y (prs K t)) k1 R p k2 R2 p2) (hk2 : k2 = nct k1 p (prs K t).length) (hkK : k = K + 1) (hK1 : 1 ≤ K) (ht1 : 1 ≤ t) (htn : t ≤ n) (hkn : k ≤ n) (hn : n ≤ 64) (hx : ∀ i, i < n → xs i < D.q) (hX : Sl xo n xs w) (hlx : LtB xo w.heap.size) (hy : ∀ i, i < n → y i < D.q) (hY : Sl yo n y w) (hly : LtB yo w.heap.size)
    (hCk : Calls Try.prog 42 #[.int .i64 D.q, .slice xo n cx, .int .i64 (k : Nat), .slice yo n cy] w fun e w' => e = .returned (.int .i64 0) ∧ Below w.heap.size w w') :
    Calls Try.prog 25 #[.int .i64 D.q, .slice xo n cx, .int .i64 (k : Nat), .slice yo n cy, .int .i64 t] w fun e w' => Below w.heap.size w w' ∧ ((k2 = 0 ∧ e = .returned (.tuple #[.slice none 0 0, .int .i64 9])) ∨ (0 < k2 ∧ ∃ v, e = .returned (.tuple #[v, .int .i64 0]) ∧ LLs w.heap.size v (gL (pyf (prs K t)) (R2 0) (prs K t).length) w')) := by
  obtain ⟨l, hl⟩ : ∃ l, l = prs K t := ⟨_, rfl⟩
  obtain ⟨P, hP⟩ : ∃ P, P = l.length := ⟨_, rfl⟩
  have hP64 : P ≤ 64 := by rw [hP, hl]; exact prs_len K t
  have hP0 : 1 ≤ P := by rw [hP, hl]; exact prs_pos ht1
  rw [← hl, ← hP] at hS hk2 ⊢
  have HL : Hid (l = prs K t ∧ P = l.length) := ⟨hl, hP⟩
  have HQ : Hid ((∀ i, i < P → pxf l i ≤ 64) ∧ (∀ i, i < P → pyf l i ≤ 64) ∧ (∀ i, i < P → pyf l i ≤ gn (pyf l) i)) := by
    rw [hP, hl]
    exact ⟨fun i hi => by have := pxf_lt hi; omega, fun i hi => by have := pyf_lt hi; omega, fun i hi => prs_gn hi⟩
  have HF : Hid (D ∈ fieldsL ∧ SOk D n P (svm D xs y l) k1 R p k2 R2 p2 ∧ k2 = nct k1 p P ∧ (∀ i, i < n → xs i < D.q) ∧ Sl xo n xs w ∧ LtB xo w.heap.size ∧ (∀ i, i < n → y i < D.q) ∧ Sl yo n y w ∧ LtB yo w.heap.size ∧ k = K + 1) := ⟨hD, hS, hk2, hx, hX, hlx, hy, hY, hly, hkK⟩
  have HC : Hid (Calls Try.prog 42 #[.int .i64 D.q, .slice xo n cx, .int .i64 (k : Nat), .slice yo n cy] w fun e w' => e = .returned (.int .i64 0) ∧ Below w.heap.size w w') := hCk
  have h1 : ¬ ((k : Int) < 2) := by omega
  have h2 : ¬ ((t : Int) < 1) := by omega
  have h3 : ¬ ((n : Int) < (t : Int)) := by omega
  have hK2 : K ≤ 64 := by omega
  have ht64 : t ≤ 64 := by omega
  clear hD hS hk2 hx hX hlx hy hY hly hCk hl hP hkK
  go_enter Try.func25, Try.ntmps25
  go_wp2_with fail
  refine HC.out.mono ?_
  rintro x w1 ⟨rfl, hb1⟩
  have H1 : Hid (Below w.heap.size w w1) := hb1
  clear hb1
  go_wp2_with fail
  refine (new_any HF.out.1 w1).mono ?_
  rintro e w3 ⟨F, T, g, rfl, hat, hF, hT, hb3⟩
  have H3 : Hid (FAt F T D g w3 ∧ Below w.heap.size w w3) := ⟨hat, bel_up' H1.out hb3⟩
  clear hat hF hT hb3
  go_wp2_with fail
  refine (products_any k t K HF.out.2.2.2.2.2.2.2.2.2 hK1 hK2 ht64 w3).mono ?_
  rintro e w4 ⟨v, rfl, hq, hb4⟩
  rw [← HL.out.1] at hq
  obtain ⟨qo, qc, hqv, hqs⟩ := hq.open
  rw [← HL.out.2] at hqv hqs
  subst hqv
  have H4 : Hid (FAt F T D g w4 ∧ SlQ qo P (pxf l) (pyf l) w4 ∧ Below w.heap.size w w4) := ⟨H3.out.1.below hb4 H3.out.1.ltF H3.out.1.ltT, hqs, bel_up' H3.out.2 hb4⟩
  clear hq hqs hb4
  go_wp2_with (at_make; refine make_sls rfl _ _ rfl _ n rfl rfl rfl (by omega) ?_; intro w5 hrow5 hgrow5)
  have HB1 : Hid (Mx w4.heap.size w4.heap.size n 0 P (svm D xs y l) (fun _ => 0) w5 ∧ Below w4.heap.size w4 w5) := ⟨⟨⟨_, hrow5, fun i hi => absurd hi (by omega)⟩, fun i hi => absurd hi (by omega), Nat.le_refl _, fun i hi => absurd hi (by omega), fun i hi => absurd hi (by omega), fun i hi => absurd hi (by omega), by omega⟩, below_grown hgrow5 (Nat.le_refl _) (fun k hk => by simp at hk)⟩
  clear hrow5 hgrow5
  go_loopw [56] (fun i wr => ∃ r : Nat, ∃ h : Nat → Nat, r ≤ n ∧ i = .int .i64 r ∧ Hid (Mx w4.heap.size w4.heap.size n r P (svm D xs y l) h wr ∧ Below w4.heap.size w4 wr)) (fun i _ => n - (intOf i).toNat)
  case atStart => exact ⟨0, _, by omega, rfl, HB1.out⟩
  case round =>
    clear HB1
    obtain ⟨r, h, hr, rfl, HG⟩ := hrel
    rename World => wA
    by_cases hlt : r < n
    · have hib : (r : Int) < (n : Int) := by omega
      have hbA := bel_up' H4.out.2.2 HG.out.2
      obtain ⟨bx, ox, hxo, hcx⟩ := (HF.out.2.2.2.2.1.below hbA HF.out.2.2.2.2.2.1) r hlt
      subst hxo
      obtain ⟨b2, o2, hyo, hcy⟩ := (HF.out.2.2.2.2.2.2.2.1.below hbA HF.out.2.2.2.2.2.2.2.2.1) r hlt
      subst hyo
      obtain ⟨x1, hx1⟩ : ∃ x1, x1 = xs r := ⟨_, rfl⟩
      obtain ⟨y1, hy1⟩ : ∃ y1, y1 = y r := ⟨_, rfl⟩
      rw [← hx1] at hcx
      rw [← hy1] at hcy
      have HV : Hid (Calls Try.prog 46 #[.pointer (some ⟨F, 0, none⟩), .slice qo P qc, .int .i64 (x1 : Nat), .int .i64 (y1 : Nat)] wA fun e w' => e = .returned (.slice (some ⟨wA.heap.size, 0, none⟩) P P) ∧ Row wA.heap.size P (svm D xs y l r) w' ∧ Below wA.heap.size wA w') := by
        refine (valuesAt_any HF.out.1 (H4.out.1.below HG.out.2 H4.out.1.ltF H4.out.1.ltT) hP64 (by rw [hx1]; exact HF.out.2.2.2.1 r hlt) (by rw [hy1]; exact HF.out.2.2.2.2.2.2.1 r hlt) (H4.out.2.1.below HG.out.2) HQ.out.1 HQ.out.2.1).mono ?_
        rintro e w' ⟨rfl, hrow, hb⟩
        refine ⟨rfl, hrow.congr (fun j hj => ?_), hb⟩
        unfold svm
        rw [if_pos (by rw [← HL.out.2]; exact hj), hx1, hy1]
      have hszA := HG.out.2.size
      have hGlt := HG.out.1.ltG
      clear hx1 hy1 hbA
      go_wp2_with fail
      refine HV.out.mono ?_
      rintro e w7 ⟨rfl, hrow7, hb7⟩
      obtain ⟨f, hf, _⟩ := (HG.out.1.below hb7).outer
      have hcG := hf.cell r hlt
      have hfG := hf.free r
      have H7 : Hid ((∃ h', Mx w4.heap.size w4.heap.size n (r + 1) P (svm D xs y l) h' (w7.setCell ⟨w4.heap.size, r, none⟩ (.slice (some ⟨wA.heap.size, 0, none⟩) P P))) ∧ Below w4.heap.size w4 (w7.setCell ⟨w4.heap.size, r, none⟩ (.slice (some ⟨wA.heap.size, 0, none⟩) P P))) := by
        refine ⟨⟨_, (HG.out.1.push hlt hb7 (Below.refl _ _) (hrow7.other (Below.heap_setCell _ _ _ _ (by show wA.heap.size ≠ w4.heap.size; omega))) hszA).congr (fun i hi j hj => ?_)⟩, (bel_up' HG.out.2 hb7).setCell (Nat.le_refl _) _⟩
        by_cases e : i = r
        · rw [if_pos e, e]
        · rw [if_neg e]
      clear hrow7 hb7 hf HV
      go_wp2
      go_roundw
      case rel =>
        obtain ⟨⟨h', hM⟩, hb⟩ := H7.out
        exact ⟨r + 1, h', by omega, by go_num, hM, hb⟩
      case measure => simp [intOf]; omega
    · have hib : ¬ (r : Int) < (n : Int) := by omega
      have hrn : r = n := by omega
      subst hrn
      have hr0 : 0 < r := by omega
      go_wp2_with fail
      refine (p_null HF.out.1 HF.out.2.1 HF.out.2.2.1 HG.out.1 hr0 hn hP0 hP64 (svm_el HF.out.1 xs y l) (fun i => by have := svm_bd D xs y l i; rw [HL.out.2]; exact this)).mono ?_
      rintro e w6 ⟨lo, lc, rfl, hrl, hb6⟩
      have H6 : Hid (RL (.slice lo k2 lc) k2 P R2 w6 ∧ SlQ qo P (pxf l) (pyf l) w6 ∧ Below w.heap.size w w6) := ⟨hrl, (H4.out.2.1.below HG.out.2).below hb6, bel_up' (bel_up' H4.out.2.2 HG.out.2) hb6⟩
      clear hrl hb6
      rcases Nat.eq_zero_or_pos k2 with hk0 | hk0
      · have hz : (((k2 : Nat) : Int) == 0) = true := by rw [hk0]; rfl
        go_wp2
        go_ret2
        exact ⟨H6.out.2.2, Or.inl ⟨hk0, rfl⟩⟩
      · have hz : (((k2 : Nat) : Int) == 0) = false := by rw [beq_eq_false_iff_ne]; omega
        have hz2 : (0 : Int) < (k2 : Int) := by omega
        obtain ⟨b0, o0, x0, c0, hlo, hc0, hs0⟩ := H6.out.1.first hk0
        subst hlo
        have HBp : Hid (Calls Try.prog 48 #[.slice qo P qc, .slice x0 P c0] w6 fun e w' => ∃ v, e = .returned v ∧ LLs w6.heap.size v (gL (pyf l) (R2 0) P) w' ∧ Below w6.heap.size w6 w') := byPowers_any hP64 H6.out.2.1 hs0 (hs0.ltb hP0) HQ.out.2.2
        clear hs0
        go_wp2_with fail
        refine HBp.out.mono ?_
        rintro e w8 ⟨v8, rfl, hll, hb8⟩
        have H8 : Hid (LLs w.heap.size v8 (gL (pyf l) (R2 0) P) w8 ∧ Below w.heap.size w w8) := ⟨hll.mono H6.out.2.2.size, bel_up' H6.out.2.2 hb8⟩
        clear hll hb8
        go_wp2
        go_ret2
        exact ⟨H8.out.2, Or.inr ⟨hk0, _, rfl, H8.out.1⟩⟩
end Go.Proofs.Ytcgmllamiaflcaa

/- Codes: what is said of one (the program's code.Check, the reference's CodeMay). -/
namespace Go.Proofs.Ytcgmllamiaflcaa
open Go.RowKit Go.Sort

end Go.Proofs.Ytcgmllamiaflcaa

/- Independent rows: the reduced form has as many; what makes nothing 0 but 0. Plain mathematics. -/
namespace Go.Proofs.Ytcgmllamiaflcaa
open Go.RowKit

theorem lft_ex {D : FD} (F : Fld D) {n k : Nat} {R : Nat → Nat → Nat} {p r0 : Nat → Nat} (h : RRE D n k R p) (he : El D r0) (hb : Bd n r0) : ∀ t, t ≤ k → ∃ r, Lft D n k R p r0 t r
  | 0, _ => ⟨r0, lft_first F he hb⟩
  | t + 1, ht => by
    obtain ⟨r, hr⟩ := lft_ex F h he hb t (by omega)
    exact ⟨_, lft_step F h he hr (by omega)⟩
theorem first_nz {r : Nat → Nat} : ∀ n, Bd n r → r ≠ pnil → ∃ c, c < n ∧ r c ≠ 0 ∧ ∀ c', c' < c → r c' = 0 := by
  have key : ∀ n, (∀ c, c < n → r c = 0) ∨ ∃ c, c < n ∧ r c ≠ 0 ∧ ∀ c', c' < c → r c' = 0 := by
    intro n
    induction n with
    | zero => exact Or.inl fun c hc => absurd hc (by omega)
    | succ n ih =>
      rcases ih with ih | ⟨c, h1, h2, h3⟩
      · by_cases e : r n = 0
        · refine Or.inl fun c hc => ?_
          by_cases ec : c = n
          · rw [ec]; exact e
          · exact ih c (by omega)
        · exact Or.inr ⟨n, by omega, e, ih⟩
      · exact Or.inr ⟨c, by omega, h2, h3⟩
  intro n hb hn
  rcases key n with h | h
  · exfalso
    refine hn (funext fun c => ?_)
    by_cases hc : c < n
    · exact h c hc
    · exact hb c (by omega)
  · exact h
theorem piv_at {p : Nat → Nat} {a : Nat} : ∀ k, (∀ i j, i < j → j < k → p i < p j) → (∀ j, j < k → p j ≠ a) → ∃ t, t ≤ k ∧ (∀ j, j < t → p j < a) ∧ ∀ j, t ≤ j → j < k → a < p j
  | 0, _, _ => ⟨0, Nat.le_refl _, fun j hj => absurd hj (by omega), fun j _ hj => absurd hj (by omega)⟩
  | k + 1, hm, hne => by
    obtain ⟨t, h1, h2, h3⟩ := piv_at k (fun i j hij hj => hm i j hij (by omega)) (fun j hj => hne j (by omega))
    by_cases e : t = k
    · by_cases e2 : p k < a
      · refine ⟨k + 1, Nat.le_refl _, fun j hj => ?_, fun j h4 h5 => absurd h5 (by omega)⟩
        by_cases ej : j = k
        · rw [ej]; exact e2
        · exact h2 j (by omega)
      · refine ⟨k, by omega, fun j hj => h2 j (by omega), fun j h4 h5 => ?_⟩
        have : j = k := by omega
        have := hne k (by omega)
        rw [show j = k from by omega]; omega
    · refine ⟨t, by omega, h2, fun j h4 h5 => ?_⟩
      by_cases ej : j = k
      · rw [ej]
        have := h3 t (Nat.le_refl _) (by omega)
        have := hm t k (by omega) (by omega)
        omega
      · exact h3 j h4 (by omega)
/-- Rows none of which hangs on those ahead of it: the reduced form has as many. -/
theorem rre_full {D : FD} (hD : D ∈ fieldsL) {n : Nat} {M : Nat → Nat → Nat} : ∀ m, (∀ i, i < m → El D (M i)) → (∀ i, i < m → Bd n (M i)) → (∀ j, j < m → ¬ Spn D (RowsOf j M) (M j)) → ∃ R p, RRE D n m R p ∧ ∀ v, Spn D (RowsOf m R) v ↔ Spn D (RowsOf m M) v
  | 0, _, _, _ => ⟨M, fun _ => 0, ⟨fun i hi => absurd hi (by omega), fun i hi => absurd hi (by omega), fun i hi => absurd hi (by omega), fun i j _ hj => absurd hj (by omega), fun i hi => absurd hi (by omega), fun i j hi => absurd hi (by omega), fun i c hi => absurd hi (by omega)⟩, fun v => Iff.rfl⟩
  | m + 1, he, hb, hi => by
    have F := fld hD
    obtain ⟨R, p, hR, hS⟩ := rre_full hD m (fun i h => he i (by omega)) (fun i h => hb i (by omega)) (fun j h => hi j (by omega))
    obtain ⟨r, hl⟩ := lft_ex F hR (he m (by omega)) (hb m (by omega)) m (Nat.le_refl _)
    have hr : r ≠ pnil := fun e => by
      have h1 := hl.spn
      rw [e, psub_nil F (he m (by omega))] at h1
      exact hi m (by omega) ((hS _).1 h1)
    obtain ⟨c, hc1, hc2, hc3⟩ := first_nz n hl.bd hr
    have hinv := inv_is hD (hl.el c) hc2
    obtain ⟨t, ht1, ht2, ht3⟩ := piv_at (a := c) m hR.mono (fun j hj e => hc2 (by rw [← e]; exact hl.zero j hj))
    refine ⟨_, _, rre_ins F hR (r := pscale D (D.pw (r c) (D.q - 2)) r) (el_scale F _ _) (fun j hj => ?_) hc1 ?_ (fun c' h => ?_) (fun j hj => ?_) ht1 ht2 ht3, fun v => red_put F hR (fun j hj => he j (by omega)) hS hl hinv ht1 v⟩
    · show D.mul _ (r j) = 0
      rw [hl.bd j hj]; exact mul0 F _
    · show D.mul _ (r c) = 1
      rw [F.mul_comm]; exact hinv
    · show D.mul _ (r c') = 0
      rw [hc3 c' h]; exact mul0 F _
    · show D.mul _ (r (p j)) = 0
      rw [hl.zero j hj]; exact mul0 F _
/-- What makes the rows of a reduced form 0: as many as there are free columns. -/
theorem nul_full {D : FD} (hD : D ∈ fieldsL) {n k k2 : Nat} {R R2 : Nat → Nat → Nat} {p p2 : Nat → Nat} (h : RRE D n k R p) (h2 : RRE D n k2 R2 p2) (hS : ∀ v, Spn D (RowsOf k2 R2) v ↔ Spn D (RowsOf (nct k p n) (nul D R p k n)) v) : k2 = nct k p n := by
  obtain ⟨R3, p3, h3, hS3⟩ := rre_full hD (n := n) (M := nul D R p k n) (nct k p n) (fun i _ => nul_el (fld hD) h.el _ _) (fun i hi => nul_bd h.lt hi) (fun j hj => nul_ind (fld hD) hj)
  exact (rre_uniq (fld hD) h2 h3 (fun v => (hS v).trans (hS3 v).symm)).1
end Go.Proofs.Ytcgmllamiaflcaa
