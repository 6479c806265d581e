/- The square that nodes tell: found. -/
import Derived.Test.YtbofcldmgjeklabZKM16
import Derived.Test.YtbofcldmgjeklabZKM11
namespace Go.Proofs.Ytbofcldmgjeklab
open Go.RowKit Go.Sort

/-- The columns from j on are found; turned over they stand in the others. -/
structure Fdn (D : FD) (k d : Nat) (xs : Nat → Nat) (H : Nat → Nat → Nat) (j : Nat) (Q : Nat → Nat → Nat) : Prop where
  el : ∀ i, El D (Q i)
  bd : ∀ i, Bd d (Q i)
  far : ∀ i, j ≤ i → k ≤ i → i < d → Bd k (Q i) ∧ ∀ t, t < k → D.ev (Q i) (xs t) k = H t i
  turn : ∀ a i, a < k → k ≤ i → j ≤ i → i < d → Q a i = Q i a
  mid : ∀ i t, j ≤ i → i < k → t < k → D.ev (Q i) (xs t) d = H t i
  none : ∀ i a, i < j → (a < k ∨ k ≤ i) → Q i a = 0
theorem Fdn.start {D : FD} (F : Fld D) {k d : Nat} (hk : k ≤ d) (xs : Nat → Nat) (H : Nat → Nat → Nat) : Fdn D k d xs H d (fun _ => pnil) :=
  ⟨fun _ => el_nil F, fun _ _ _ => rfl, fun i h1 _ h3 => absurd h3 (by omega), fun a i _ _ h3 h4 => absurd h4 (by omega), fun i t h1 h2 h3 => absurd h1 (by omega), fun _ _ _ _ => rfl⟩
theorem Fdn.fnd {D : FD} {k d : Nat} {xs : Nat → Nat} {H Q : Nat → Nat → Nat} (h : Fdn D k d xs H 0 Q) : Fnd D k d xs H Q :=
  ⟨h.el, h.bd, fun j h1 h2 => h.far j (Nat.zero_le _) h1 h2, fun j i h1 h2 h3 => h.turn j i h1 h2 (Nat.zero_le _) h3, fun j t h1 h2 => h.mid j t (Nat.zero_le _) h1 h2⟩
/-- The square, the first numbers of column s laid. -/
def mst (k s : Nat) (co : Nat → Nat) (Q : Nat → Nat → Nat) (i a b : Nat) : Nat := if a = s ∧ b < i then co b else if k ≤ s ∧ b = s ∧ a < i then co a else Q a b
theorem mst_zero (k s : Nat) (co : Nat → Nat) (Q : Nat → Nat → Nat) (a b : Nat) : mst k s co Q 0 a b = Q a b := by unfold mst; rw [if_neg (by omega), if_neg (by omega)]
/-- What is still to be told at a place. -/
def rst (D : FD) (d s : Nat) (xs : Nat → Nat) (H Q : Nat → Nat → Nat) (t : Nat) : Nat := D.sb (H t s) (D.ev (Q s) (xs t) d)
theorem Fdn.next {D : FD} (F : Fld D) {k d s : Nat} {xs co : Nat → Nat} {H Q : Nat → Nat → Nat} (hk : k ≤ d) (hs : s < d) (hH : ∀ i, i < k → El D (H i)) (h : Fdn D k d xs H (s + 1) Q) (h1 : El D co) (h2 : Bd k co) (h3 : ∀ t, t < k → D.ev co (xs t) k = rst D d s xs H Q t) : Fdn D k d xs H s (mst k s co Q k) := by
  have hel : ∀ i, El D (mst k s co Q k i) := fun i a => by
    unfold mst; split
    · exact h1 _
    · split
      · exact h1 _
      · exact h.el _ _
  have hbd : ∀ i, Bd d (mst k s co Q k i) := fun i a ha => by
    unfold mst
    rw [if_neg (by omega), if_neg (by omega)]
    exact h.bd i a ha
  have hst : ∀ i, s < i → k ≤ i → mst k s co Q k i = Q i := fun i hi hki => by
    funext a
    unfold mst
    rw [if_neg (by omega), if_neg (by omega)]
  by_cases c : k ≤ s
  · have hz : Q s = pnil := by funext a; exact h.none s a (by omega) (Or.inr c)
    have hs1 : mst k s co Q k s = co := by
      funext a
      unfold mst
      by_cases e : a < k
      · rw [if_pos ⟨rfl, e⟩]
      · rw [if_neg (by omega), if_neg (by omega), hz, h2 a (by omega)]; rfl
    refine ⟨hel, hbd, fun i a1 a2 a3 => ?_, fun a i a1 a2 a3 a4 => ?_, fun i t a1 a2 a3 => absurd a1 (by omega), fun i a a1 a2 => ?_⟩
    · by_cases e : i = s
      · rw [e, hs1]
        refine ⟨h2, fun t ht => ?_⟩
        rw [h3 t ht]
        unfold rst
        rw [hz, ev_nil F, sb_zero F (hH t ht s)]
      · rw [hst i (by omega) a2]
        exact h.far i (by omega) a2 a3
    · by_cases e : i = s
      · rw [e, hs1]
        unfold mst
        rw [if_neg (by omega), if_pos ⟨c, rfl, a1⟩]
      · rw [hst i (by omega) a2]
        unfold mst
        rw [if_neg (by omega), if_neg (by omega)]
        exact h.turn a i a1 a2 (by omega) a4
    · unfold mst
      rw [if_neg (by omega), if_neg (by omega)]
      exact h.none i a (by omega) a2
  · refine ⟨hel, hbd, fun i a1 a2 a3 => ?_, fun a i a1 a2 a3 a4 => ?_, fun i t a1 a2 a3 => ?_, fun i a a1 a2 => ?_⟩
    · rw [hst i (by omega) a2]; exact h.far i (by omega) a2 a3
    · rw [hst i (by omega) a2]
      unfold mst
      rw [if_neg (by omega), if_neg (by omega)]
      exact h.turn a i a1 a2 (by omega) a4
    · by_cases e : i = s
      · rw [e, show d = k + (d - k) by omega, ev_two F, show k + (d - k) = d by omega]
        have e1 : D.ev (fun i => if i < k then mst k s co Q k s i else 0) (xs t) k = D.ev co (xs t) k := ev_same _ _ (fun a ha => by
          rw [if_pos ha]
          unfold mst
          rw [if_pos ⟨rfl, ha⟩])
        have e2 : D.ev (fun i => if i < k then 0 else mst k s co Q k s i) (xs t) d = D.ev (Q s) (xs t) d := ev_same _ _ (fun a ha => by
          by_cases ca : a < k
          · rw [if_pos ca, h.none s a (by omega) (Or.inl ca)]
          · rw [if_neg ca]
            unfold mst
            rw [if_neg (by omega), if_neg (by omega)])
        rw [e1, e2, h3 t a3, ad_comm F]
        exact ad_sb F (hH t a3 s) (ev_lt F _ _ _)
      · rw [ev_same (b := Q i) _ _ (fun a ha => by
          unfold mst
          rw [if_neg (by omega), if_neg (by omega)])]
        exact h.mid i t (by omega) a2 a3
    · unfold mst
      rw [if_neg (by omega), if_neg (by omega)]
      exact h.none i a (by omega) a2

set_option maxHeartbeats 8000000 in
set_option maxRecDepth 100000 in
theorem sfound_any {D : FD} (hD : D ∈ fieldsL) {B F T : Nat} {g : Nat → Value} {n k d d1 nc hc : Nat} {no ho : Option Addr} {xs : Nat → Nat} {H : Nat → Nat → Nat} {w : World} (hP : PlA B F (n : Nat) (k : Nat) (d : Nat) w) (hF : FAt F T D g w) (hX : Arg no k nc (fun j => ((xs j : Nat) : Int)) w) (hH : MatR ho k d1 H w) (hd1 : d = d1 + 1) (hk : k ≤ d) (hd : d ≤ 15)
    (hx : ∀ i, i < k → xs i < D.q) (hne : ∀ i j, i < k → j < k → i ≠ j → xs i ≠ xs j) (hHe : ∀ i, i < k → El D (H i)) :
    Calls Try.prog 61 #[.pointer (some ⟨B, 0, none⟩), .slice no k nc, .slice ho k hc] w fun e w' => ∃ G h Q, e = .returned (.slice (some ⟨G, 0, none⟩) d d) ∧ Mx w.heap.size G d d d Q h w' ∧ Fnd D k d xs H Q ∧ Below w.heap.size w w' := by
  have HF : Hid (PlA B F (n : Nat) (k : Nat) (d : Nat) w ∧ FAt F T D g w ∧ Arg no k nc (fun j => ((xs j : Nat) : Int)) w ∧ MatR ho k d1 H w ∧ D ∈ fieldsL) := ⟨hP, hF, hX, hH, hD⟩
  have HX : Hid ((∀ i, i < k → xs i < D.q) ∧ (∀ i j, i < k → j < k → i ≠ j → xs i ≠ xs j) ∧ ∀ i, i < k → El D (H i)) := ⟨hx, hne, hHe⟩
  have HD1 : Hid (d = d1 + 1) := hd1
  have HN : Hid (Calls Try.prog 101 #[.pointer (some ⟨B, 0, none⟩)] w fun e w' => e = .returned (.slice (some ⟨w.heap.size, 0, none⟩) d d) ∧ (∃ h, Mx w.heap.size w.heap.size d d d (fun _ => pnil) h w') ∧ Below w.heap.size w w') := noughts_any hP (by omega)
  clear hP hF hX hH hD hx hne hHe hd1
  go_enter Try.func61, Try.ntmps61
  go_wp2_with fail
  refine HN.out.mono ?_
  rintro e w1 ⟨rfl, ⟨h, hM1⟩, hb1⟩
  have H1 : Hid (Mx w.heap.size w.heap.size d d d (fun _ => pnil) h w1 ∧ Below w.heap.size w w1) := ⟨hM1, hb1⟩
  have cd := (HF.out.1.below hb1).d
  clear hM1 hb1
  go_wp2
  clear cd
  go_loopw [8] (fun vj wr => ∃ j : Nat, ∃ Q, j ≤ d ∧ vj = .int .i64 ((j : Int) - 1) ∧ Hid (Mx w.heap.size w.heap.size d d d Q h wr ∧ Fdn D k d xs H j Q ∧ Below w.heap.size w wr)) (fun vj _ => (intOf vj + 1).toNat)
  case atStart => exact ⟨d, _, by omega, rfl, H1.out.1, Fdn.start (fld HF.out.2.2.2.2) hk xs H, H1.out.2⟩
  case round =>
    obtain ⟨j, Q, hj, hi, HG⟩ := hrel
    rename World => wr
    cases j with
    | zero =>
      have hi' : u8 = .int .i64 (-1) := by rw [hi]; rfl
      clear hi
      subst hi'
      go_wp2
      go_ret
      exact ⟨_, h, Q, rfl, HG.out.1, HG.out.2.1.fnd, HG.out.2.2⟩
    | succ s =>
      have hi' : u8 = .int .i64 (s : Int) := by rw [hi]; go_num
      clear hi
      subst hi'
      have hsd : (s : Int) < (d : Int) := by omega
      go_wp2_with (at_make; refine make_int rfl _ _ rfl _ k rfl rfl (by omega) (by omega) ?_; intro w2 hown2 hgrow2; have hb2 : Below wr.heap.size wr w2 := below_grown hgrow2 (Nat.le_refl _) (fun k hk => by simp at hk))
      have HR0 : Hid (Row wr.heap.size k (fun t => if t < 0 then rst D d s xs H Q t else 0) w2 ∧ Below wr.heap.size wr w2) := ⟨(row_zeros hown2).congr (fun t _ => by rw [if_neg (by omega)]; rfl), hb2⟩
      clear hown2 hgrow2 hb2
      go_loopw [30] (fun vi wq => ∃ r : Nat, r ≤ k ∧ vi = .int .i64 (r : Nat) ∧ Hid (Row wr.heap.size k (fun t => if t < r then rst D d s xs H Q t else 0) wq ∧ Below wr.heap.size wr wq)) (fun vi _ => k - (intOf vi).toNat)
      case atStart => exact ⟨0, by omega, rfl, HR0.out⟩
      case round =>
        clear HR0
        obtain ⟨r, hr, rfl, HQ⟩ := hrel
        rename World => wq
        have hbq : Below w.heap.size w wq := bel_up HG.out.2.2 HQ.out.2
        by_cases hlt : r < k
        · have hib : (r : Int) < (k : Int) := by omega
          obtain ⟨bx, ox, rfl, hcx⟩ := (HF.out.2.2.1.below hbq).sl r hlt
          obtain ⟨bh, oh, uh, rfl, hch, Ah, cah, rfl, hslh, _⟩ := (HF.out.2.2.2.1.below hbq) r hlt
          obtain ⟨by', oy, rfl, hcy⟩ := hslh s (by have := HD1.out; omega)
          rw [← HD1.out] at hch
          have hMq := HG.out.1.below HQ.out.2
          have hcs := hMq.cell s (by omega)
          have hPq := HF.out.1.below hbq
          have hpf := hPq.f
          have hfree := HQ.out.1.free r
          have hcell := HQ.out.1.cell r hlt
          obtain ⟨x, hx⟩ : ∃ x, x = xs r := ⟨_, rfl⟩
          have hxq : x < D.q := by rw [hx]; exact HX.out.1 r hlt
          obtain ⟨y, hy⟩ : ∃ y, y = H r s := ⟨_, rfl⟩
          have hyq : y < D.q := by rw [hy]; exact HX.out.2.2 r hlt s
          obtain ⟨v, hv⟩ : ∃ v, v = D.ev (Q s) x d := ⟨_, rfl⟩
          have hvq : v < D.q := by rw [hv]; exact ev_lt (fld HF.out.2.2.2.2) _ _ _
          obtain ⟨u, hu⟩ : ∃ u, u = D.sb y v := ⟨_, rfl⟩
          replace hcx : wq.cell? ⟨bx, ox + r, none⟩ = some (.int .i64 (xs r : Nat)) := hcx
          rw [← hx] at hcx
          rw [← hy] at hcy
          have hFq := HF.out.2.1.below hbq HF.out.2.1.ltF HF.out.2.1.ltT
          have HC1 : Hid (∀ q, Calls Try.prog 59 #[.pointer (some ⟨B, 0, none⟩), .slice (some ⟨h s, 0, none⟩) d d, .int .i64 (x : Nat)] (wq.drewN q) fun e w' => e = .returned (.int .i64 (v : Nat)) ∧ ∃ m, w' = (wq.drewN q).drewN m) := fun q => by
            rw [hv, ← val_is (fld HF.out.2.2.2.2) x d (HG.out.2.1.el s) hxq]
            exact svalue_any HF.out.2.2.2.2 (hFq.drewN q) ⟨hPq.f, hPq.n, hPq.k, hPq.d⟩ hxq (by omega) (HG.out.2.1.el s) (((hMq.row s (by omega)).drewN q).sl (Nat.le_refl _))
          have HC2 : Hid (∀ q, Calls Try.prog 105 #[.pointer (some ⟨F, 0, none⟩), .int .i64 (y : Nat), .int .i64 (v : Nat)] (wq.drewN q) fun e w' => e = .returned (.int .i64 (u : Nat)) ∧ ∃ m, w' = (wq.drewN q).drewN m) := fun q => by
            rw [hu]; exact sub_nat HF.out.2.2.2.2 (hFq.drewN q) hyq hvq
          have HR : Hid (∀ q, Row wr.heap.size k (fun t => if t < r + 1 then rst D d s xs H Q t else 0) ((wq.drewN q).setCell ⟨wr.heap.size, r, none⟩ (.int .i64 (u : Nat)))) := fun q => (HQ.out.1.drewN q).store r u (fun t _ => by
            by_cases e : t = r
            · rw [if_pos e, if_pos (by omega), e, hu, hv, hx, hy]; rfl
            · rw [if_neg e]
              by_cases c : t < r
              · rw [if_pos c, if_pos (by omega)]
              · rw [if_neg c, if_neg (by omega)])
          clear hx hy hv hu hMq hPq hFq hbq
          go_wp2
          refine quiet_tail 21 (by kernel_rfl) (by kernel_rfl) ?_
          simp only [List.take_succ_cons, List.take_zero, List.drop_succ_cons, List.drop_zero]
          repeat (go_big_quiet_step (first | (go_at_call 59; exact Calls.quiet_of (HC1.out _)) | (go_at_call 105; exact Calls.quiet_of (HC2.out _))))
          refine wpQuiet_nil ?_
          intro _ hw'
          obtain ⟨nq, hw''⟩ := hw'
          subst hw''
          go_wp2
          go_roundw
          case rel => exact ⟨r + 1, by omega, by go_num, HR.out nq, (below_drewN2 HQ.out.2 nq).setCell (Nat.le_refl _) _⟩
          case measure => simp [intOf]; omega
        · have e : k = r := by omega
          subst e
          have HRr : Hid (Row wr.heap.size k (rst D d s xs H Q) wq) := HQ.out.1.congr (fun t ht => if_pos ht)
          have HT : Hid (Calls Try.prog 66 #[.pointer (some ⟨B, 0, none⟩), .slice no k nc, .slice (some ⟨wr.heap.size, 0, none⟩) k k] wq fun e w' => ∃ co, e = .returned (.slice (some ⟨wq.heap.size, 0, none⟩) k k) ∧ Row wq.heap.size k co w' ∧ El D co ∧ Bd k co ∧ (∀ j, j < k → D.vl co (xs j) = rst D d s xs H Q j) ∧ Below wq.heap.size wq w') :=
            sthrough_any HF.out.2.2.2.2 (HF.out.1.below hbq) (HF.out.2.1.below hbq HF.out.2.1.ltF HF.out.2.1.ltT) (HF.out.2.2.1.below hbq) (row_arg HRr.out (by omega)) (by omega) HX.out.1 HX.out.2.1 (fun i hi => sb_lt (fld HF.out.2.2.2.2) (HX.out.2.2 i hi s) (ev_lt (fld HF.out.2.2.2.2) _ _ _))
          clear hbq
          go_wp2_with fail
          refine HT.out.mono ?_
          rintro e w3 ⟨co, rfl, hr3, he3, hbd3, hv3, hb3⟩
          have H3 : Hid (El D co ∧ Bd k co ∧ (∀ t, t < k → D.ev co (xs t) k = rst D d s xs H Q t) ∧ wr.heap.size ≤ wq.heap.size) := ⟨he3, hbd3, fun t ht => by
            have := hv3 t ht
            unfold FD.vl at this
            rw [ev_from (fld HF.out.2.2.2.2) (xs t) hbd3 (show k ≤ 1000 by omega)] at this
            exact this, HQ.out.2.size⟩
          have HS0 : Hid (Mx w.heap.size w.heap.size d d d (mst k s co Q 0) h w3 ∧ Row wq.heap.size k co w3 ∧ Below w.heap.size w w3) := ⟨((HG.out.1.below HQ.out.2).below hb3).congr (fun a _ b _ => (mst_zero k s co Q a b).symm), hr3, bel_up (bel_up HG.out.2.2 HQ.out.2) hb3⟩
          have HL : Hid (∀ a, a < d → h a < wr.heap.size) := fun a ha => HG.out.1.lt a ha
          clear hr3 he3 hbd3 hv3 hb3
          go_wp2
          go_loopw [63] (fun vi wz => ∃ i : Nat, i ≤ k ∧ vi = .int .i64 (i : Nat) ∧ Hid (Mx w.heap.size w.heap.size d d d (mst k s co Q i) h wz ∧ Row wq.heap.size k co wz ∧ Below w.heap.size w wz)) (fun vi _ => k - (intOf vi).toNat)
          case atStart => exact ⟨0, by omega, rfl, HS0.out⟩
          case round =>
            clear HS0
            obtain ⟨i, hi, rfl, HZ⟩ := hrel
            rename World => wz
            by_cases hlt : i < k
            · have hib : (i : Int) < (k : Int) := by omega
              have hidb : (i : Int) < (d : Int) := by omega
              have hco := HZ.out.2.1.cell i hlt
              have hcs := HZ.out.1.cell s (by omega)
              have hks := (HF.out.1.below HZ.out.2.2).k
              have hrow := HZ.out.1.row s (by omega)
              have hfs := hrow.free i
              have hcc := hrow.cell i (by omega)
              have hne1 : wq.heap.size ≠ h s := by have := HL.out s (by omega); have := H3.out.2.2.2; omega
              have hge := HZ.out.1.ge s (by omega)
              have hneG : w.heap.size ≠ h s := fun e => HZ.out.1.ne s (by omega) e.symm
              obtain ⟨W1, hW1⟩ : ∃ W1, W1 = wz.setCell ⟨h s, i, none⟩ (.int .i64 (co i : Nat)) := ⟨_, rfl⟩
              have HM1 : Hid (Mx w.heap.size w.heap.size d d d (fun a b => if a = s ∧ b < i + 1 then co b else mst k s co Q i a b) h W1 ∧ Row wq.heap.size k co W1 ∧ Below w.heap.size w W1) := by
                rw [hW1]
                have hw2 := HZ.out.1.write (show s < d by omega) ((Tch.refl _ _).setCell i (.int .i64 (co i : Nat))) (hrow.store i (co i) (d := fun b => if b < i + 1 then co b else mst k s co Q i s b) (fun b _ => by
                  by_cases e : b = i
                  · rw [if_pos e, if_pos (by omega), e]
                  · rw [if_neg e]
                    by_cases c : b < i
                    · rw [if_pos (by omega)]
                      unfold mst
                      rw [if_pos ⟨rfl, c⟩]
                    · rw [if_neg (by omega)]))
                refine ⟨hw2.congr (fun a _ b _ => ?_), HZ.out.2.1.other (Below.heap_setCell _ _ _ _ hne1), HZ.out.2.2.setCell hge _⟩
                by_cases e : a = s
                · rw [if_pos e]
                  by_cases c : b < i + 1
                  · rw [if_pos c, if_pos ⟨e, c⟩]
                  · rw [if_neg c, if_neg (fun x => c x.2), e]
                · rw [if_neg e, if_neg (fun x => e x.1)]
              by_cases hks2 : k ≤ s
              · have hgk : ¬ (s : Int) < (k : Int) := by omega
                have hgk2 : (k : Int) ≤ (s : Int) := by omega
                have c1 := HM1.out.1.cell i (by omega)
                have c2 := (HF.out.1.below HM1.out.2.2).k
                have hrow2 := HM1.out.1.row i (by omega)
                have c3 := hrow2.cell s (by omega)
                have c4 := hrow2.free s
                rw [hW1] at c1 c2 c3 c4
                have HM2 : Hid (Mx w.heap.size w.heap.size d d d (mst k s co Q (i + 1)) h (W1.setCell ⟨h i, s, none⟩ (.int .i64 (co i : Nat))) ∧ Row wq.heap.size k co (W1.setCell ⟨h i, s, none⟩ (.int .i64 (co i : Nat))) ∧ Below w.heap.size w (W1.setCell ⟨h i, s, none⟩ (.int .i64 (co i : Nat)))) := by
                  have hw2 := HM1.out.1.write (show i < d by omega) ((Tch.refl _ _).setCell s (.int .i64 (co i : Nat))) (hrow2.store s (co i) (d := fun b => mst k s co Q (i + 1) i b) (fun b _ => by
                    unfold mst
                    rw [if_neg (by omega)]
                    by_cases e : b = s
                    · rw [if_pos e, if_pos ⟨hks2, e, by omega⟩]
                    · rw [if_neg e, if_neg (fun x => e x.2.1), if_neg (by omega), if_neg (by omega), if_neg (fun x => e x.2.1)]))
                  refine ⟨hw2.congr (fun a _ b _ => ?_), HM1.out.2.1.other (Below.heap_setCell _ _ _ _ (by have := HL.out i (by omega); have := H3.out.2.2.2; show wq.heap.size ≠ h i; omega)), HM1.out.2.2.setCell (HZ.out.1.ge i (by omega)) _⟩
                  by_cases e : a = i
                  · rw [if_pos e, e]
                  · rw [if_neg e]
                    unfold mst
                    by_cases c : a = s ∧ b < i + 1
                    · rw [if_pos c, if_pos c]
                    · rw [if_neg c, if_neg c, if_neg (fun x => c ⟨x.1, by omega⟩)]
                      by_cases c2 : k ≤ s ∧ b = s ∧ a < i
                      · rw [if_pos c2, if_pos ⟨c2.1, c2.2.1, by omega⟩]
                      · rw [if_neg c2, if_neg (fun x => c2 ⟨x.1, x.2.1, by omega⟩)]
                have HW1 : Hid (W1 = wz.setCell ⟨h s, i, none⟩ (.int .i64 (co i : Nat))) := hW1
                clear hW1 hrow hrow2
                go_wp2
                go_roundw
                case rel => exact ⟨i + 1, by omega, by go_num, by rw [← HW1.out]; exact HM2.out⟩
                case measure => simp [intOf]; omega
              · have hgk : (s : Int) < (k : Int) := by omega
                have c2 := (HF.out.1.below HM1.out.2.2).k
                rw [hW1] at c2
                have HM2 : Hid (Mx w.heap.size w.heap.size d d d (mst k s co Q (i + 1)) h W1) := HM1.out.1.congr (fun a _ b _ => by
                  unfold mst
                  by_cases c : a = s ∧ b < i + 1
                  · rw [if_pos c, if_pos c]
                  · rw [if_neg c, if_neg c, if_neg (fun x => c ⟨x.1, by omega⟩), if_neg (by omega), if_neg (by omega)])
                have HW1 : Hid (W1 = wz.setCell ⟨h s, i, none⟩ (.int .i64 (co i : Nat))) := hW1
                clear hW1 hrow
                go_wp2
                go_roundw
                case rel => exact ⟨i + 1, by omega, by go_num, by rw [← HW1.out]; exact ⟨HM2.out, HM1.out.2⟩⟩
                case measure => simp [intOf]; omega
            · have e : i = k := by omega
              have HE : Hid (Fdn D k d xs H s (mst k s co Q i)) := by rw [e]; exact HG.out.2.1.next (fld HF.out.2.2.2.2) hk (by omega) HX.out.2.2 H3.out.1 H3.out.2.1 H3.out.2.2.1
              have hib : ¬ (i : Int) < (k : Int) := by omega
              clear e
              go_wp2
              go_roundw
              case rel => exact ⟨s, _, by omega, by go_num, HZ.out.1, HE.out, HZ.out.2.2⟩
              case measure => simp [intOf]
end Go.Proofs.Ytbofcldmgjeklab
