/- What each node has: Write. -/
import Derived.Test.YtbofcldmgjeklabZKM15
import Derived.Test.YtbofcldmgjeklabZKM6
namespace Go.Proofs.Ytbofcldmgjeklab
open Go.RowKit Go.Sort

/-- What the nodes have of a file. -/
def wrt (D : FD) (k d : Nat) (c : Nat → Nat) : Nat → Nat → Nat := fun v j => D.ev (sqr k d c (fsz k d) j) v d
/-- What Write tells. -/
def WrP (D : FD) (n k d nf : Nat) (z : Nat → Int) (w : World) (e : Ending) (w' : World) : Prop :=
  Below w.heap.size w w' ∧ ((D.nchk nf z (fsz k d : Nat) ≠ 0 ∧ e = .returned (.tuple #[.slice none 0 0, .int .i64 (D.nchk nf z (fsz k d : Nat))])) ∨
    (D.nchk nf z (fsz k d : Nat) = 0 ∧ ∃ G h, e = .returned (.tuple #[.slice (some ⟨G, 0, none⟩) n n, .int .i64 0]) ∧ Mx w.heap.size G n n d (wrt D k d (zc nf z)) h w'))

set_option maxHeartbeats 8000000 in
set_option maxRecDepth 100000 in
theorem swrite_any {D : FD} (hD : D ∈ fieldsL) {B F T : Nat} {g : Nat → Value} {n k d nf fc : Nat} {fo : Option Addr} {z : Nat → Int} {w : World} (hP : PlA B F (n : Nat) (k : Nat) (d : Nat) w) (hF : FAt F T D g w) (hA : Arg fo nf fc z w) (hnf : nf ≤ 1000) (hk : k ≤ d) (hd : d ≤ 15) (hn : n ≤ D.q) (hn16 : n ≤ 16) :
    Calls Try.prog 19 #[.pointer (some ⟨B, 0, none⟩), .slice fo nf fc] w (WrP D n k d nf z w) := by
  have HF : Hid (PlA B F (n : Nat) (k : Nat) (d : Nat) w ∧ FAt F T D g w ∧ Arg fo nf fc z w ∧ D ∈ fieldsL ∧ k ≤ d) := ⟨hP, hF, hA, hD, hk⟩
  obtain ⟨E, hE⟩ : ∃ E, E = D.nchk nf z (fsz k d : Nat) := ⟨_, rfl⟩
  have HE : Hid (E = D.nchk nf z (fsz k d : Nat)) := hE
  have HSz : Hid (Calls Try.prog 18 #[.pointer (some ⟨B, 0, none⟩)] w fun e w' => e = .returned (.int .i64 (fsz k d : Nat)) ∧ ∃ j, w' = w.drewN j) := psize_any hP hk hd
  have HCl : Hid (∀ j, Calls Try.prog 57 #[.pointer (some ⟨B, 0, none⟩), .slice fo nf fc, .int .i64 (fsz k d : Nat)] (w.drewN j) fun e w' => e = .returned (.int .i64 E) ∧ Below w.heap.size w w') := fun j => by
    rw [hE]
    have hPj : PlA B F (n : Nat) (k : Nat) (d : Nat) (w.drewN j) := ⟨hP.f, hP.n, hP.k, hP.d⟩
    refine (checkList_any hPj (hF.drewN j) hA.sl (by omega) (fsz k d : Nat)).mono ?_
    rintro e w' ⟨h1, h2⟩
    exact ⟨h1, ⟨h2.os, h2.tape, h2.output, h2.size, h2.block⟩⟩
  clear hP hF hA hD hE hk
  go_enter Try.func19, Try.ntmps19
  go_wp2_with fail
  refine HSz.out.mono ?_
  rintro e w' ⟨rfl, j0, hw⟩
  subst hw
  go_wp2_with fail
  refine (HCl.out j0).mono ?_
  rintro e w1 ⟨rfl, hb1⟩
  have H1 : Hid (Below w.heap.size w w1 ∧ PlA B F (n : Nat) (k : Nat) (d : Nat) w1 ∧ FAt F T D g w1 ∧ Arg fo nf fc z w1) := ⟨hb1, HF.out.1.below hb1, HF.out.2.1.below hb1 HF.out.2.1.ltF HF.out.2.1.ltT, HF.out.2.2.1.below hb1⟩
  clear hb1
  by_cases hE0 : E = 0
  · have HZ : Hid (D.nchk nf z (fsz k d : Nat) = 0) := by show _ = _; rw [← HE.out]; exact hE0
    subst hE0
    have hnfe : nf = fsz k d := by have := (nchk_ok HZ.out).1; omega
    have HEl : Hid (El D (zc nf z)) := zc_eln (fld HF.out.2.2.2.1) HZ.out
    have HSq : Hid (Calls Try.prog 58 #[.pointer (some ⟨B, 0, none⟩), .slice fo nf fc] w1 fun e w' => ∃ G h, e = .returned (.slice (some ⟨G, 0, none⟩) d d) ∧ Mx w1.heap.size G d d d (sqr k d (zc nf z) (fsz k d)) h w' ∧ Below w1.heap.size w1 w') := by
      have hsl := has_sl (nchk_ok HZ.out).2 H1.out.2.2.2.sl
      have := square_any (fc := fc) (c := zc nf z) H1.out.2.1 HF.out.2.2.2.2 hd (by rw [← hnfe]; exact hsl) H1.out.2.2.2.lt
      show Calls _ _ _ _ _
      rw [← hnfe] at this ⊢
      exact this
    clear hnfe
    go_wp2_with fail
    refine HSq.out.mono ?_
    rintro e w2 ⟨G1, h1, rfl, hM1, hb2⟩
    have H2 : Hid (Mx w1.heap.size G1 d d d (sqr k d (zc nf z) (fsz k d)) h1 w2 ∧ Below w.heap.size w w2 ∧ PlA B F (n : Nat) (k : Nat) (d : Nat) w2 ∧ FAt F T D g w2) := ⟨hM1, bel_up' H1.out.1 hb2, H1.out.2.1.below hb2, H1.out.2.2.1.below hb2 H1.out.2.2.1.ltF H1.out.2.2.1.ltT⟩
    have c1 := H2.out.2.2.1.n
    clear hM1 hb2
    go_wp2_with (at_make; refine make_sls rfl _ _ rfl _ n rfl rfl rfl (by omega) ?_; intro w3 hrow3 hgrow3)
    have HB1 : Hid (Mx w2.heap.size w2.heap.size n 0 d (wrt D k d (zc nf z)) (fun _ => 0) w3 ∧ Below w2.heap.size w2 w3) := ⟨⟨⟨_, hrow3, fun i hi => absurd hi (by omega)⟩, fun i hi => absurd hi (by omega), Nat.le_refl _, fun i hi => absurd hi (by omega), fun i hi => absurd hi (by omega), fun i hi => absurd hi (by omega), by omega⟩, below_grown hgrow3 (Nat.le_refl _) (fun k hk => by simp at hk)⟩
    clear hrow3 hgrow3 c1
    go_loopw [9, 10, 11, 30] (fun _ _ _ i wr => ∃ r : Nat, ∃ h : Nat → Nat, r ≤ n ∧ i = .int .i64 r ∧ Hid (Mx w2.heap.size w2.heap.size n r d (wrt D k d (zc nf z)) h wr ∧ Below w2.heap.size w2 wr)) (fun _ _ _ i _ => n - (intOf i).toNat)
    case atStart => exact ⟨0, _, by omega, rfl, HB1.out⟩
    case round =>
      clear HB1
      obtain ⟨r, h, hr, rfl, HG⟩ := hrel
      rename World => wA
      by_cases hlt : r < n
      · have hsz := HG.out.2.size
        have hG := HG.out.1.ltG
        have hib : (r : Int) < (n : Int) := by omega
        have hpd := (H2.out.2.2.1.below HG.out.2).d
        go_wp2_with (at_make; refine make_int rfl _ _ rfl _ d rfl rfl rfl (by omega) ?_; intro w4 hown4 hgrow4; have hb4 : Below wA.heap.size wA w4 := below_grown hgrow4 (Nat.le_refl _) (fun k hk => by simp at hk); obtain ⟨ff, hf, _⟩ := (HG.out.1.below hb4).outer; have hcG := hf.cell r hlt; have hfG := hf.free r)
        have HP : Hid (∃ h', Mx w2.heap.size w2.heap.size n (r + 1) d (fun i j => if i = r then 0 else wrt D k d (zc nf z) i j) h' (w4.setCell ⟨w2.heap.size, r, none⟩ (.slice (some ⟨wA.heap.size, 0, none⟩) d d)) ∧ Below w2.heap.size w2 (w4.setCell ⟨w2.heap.size, r, none⟩ (.slice (some ⟨wA.heap.size, 0, none⟩) d d))) :=
          ⟨_, (HG.out.1.push hlt hb4 (Below.refl _ _) ((row_zeros hown4).other (Below.heap_setCell _ _ _ _ (by show wA.heap.size ≠ w2.heap.size; omega))) hsz).congr (fun i _ j _ => by
            by_cases e : i = r
            · rw [if_pos e, if_pos e]; rfl
            · rw [if_neg e, if_neg e]), (bel_up HG.out.2 hb4).setCell (Nat.le_refl _) _⟩
        obtain ⟨h', HQ⟩ := HP.out
        have HQ' : Hid _ := HQ
        clear HQ HP hown4 hgrow4 hb4 hf hcG hfG hpd
        go_loopw [10, 11, 43] (fun _ _ i wr => ∃ j : Nat, j ≤ d ∧ i = .int .i64 j ∧ Hid (Mx w2.heap.size w2.heap.size n (r + 1) d (fun i t => if i = r then (if t < j then wrt D k d (zc nf z) r t else 0) else wrt D k d (zc nf z) i t) h' wr ∧ Below w2.heap.size w2 wr)) (fun _ _ i _ => d - (intOf i).toNat)
        case atStart => exact ⟨0, by omega, rfl, HQ'.out.1.congr (fun i _ t _ => by
            by_cases e : i = r
            · rw [if_pos e, if_pos e, if_neg (by omega)]
            · rw [if_neg e, if_neg e]), HQ'.out.2⟩
        case round =>
          clear HQ'
          obtain ⟨j, hj, rfl, HJ⟩ := hrel
          rename World => wB
          by_cases hjm : j < d
          · have hM := H2.out.1.below HJ.out.2
            have hcj := hM.cell j hjm
            have hco := HJ.out.1.cell r (by omega)
            have hjb : (j : Int) < (d : Int) := by omega
            have hrow := HJ.out.1.row r (by omega)
            have hfr := hrow.free j
            obtain ⟨old, hold⟩ : ∃ old : Nat, wB.cell? ⟨h' r, j, none⟩ = some (.int .i64 (old : Nat)) := ⟨_, hrow.cell j hjm⟩
            have hge := HJ.out.1.ge r (by omega)
            obtain ⟨x, hx⟩ : ∃ x, x = wrt D k d (zc nf z) r j := ⟨_, rfl⟩
            have HC : Hid (∀ q, Calls Try.prog 59 #[.pointer (some ⟨B, 0, none⟩), .slice (some ⟨h1 j, 0, none⟩) d d, .int .i64 (r : Nat)] (wB.drewN q) fun e w' => e = .returned (.int .i64 (x : Nat)) ∧ ∃ m, w' = (wB.drewN q).drewN m) := fun q => by
              rw [hx]
              unfold wrt
              have hel := sqr_el (fld HF.out.2.2.2.1) k d HEl.out (fsz k d) j
              rw [← val_is (fld HF.out.2.2.2.1) r d hel (by omega)]
              have hPb := H2.out.2.2.1.below HJ.out.2
              exact svalue_any HF.out.2.2.2.1 ((H2.out.2.2.2.below HJ.out.2 H2.out.2.2.2.ltF H2.out.2.2.2.ltT).drewN q) ⟨hPb.f, hPb.n, hPb.k, hPb.d⟩ (by omega) (by omega) hel (((hM.row j hjm).drewN q).sl (Nat.le_refl _))
            have HR : Hid (∀ q, Row (h' r) d (fun t => if t < j + 1 then wrt D k d (zc nf z) r t else 0) ((wB.drewN q).setCell ⟨h' r, j, none⟩ (.int .i64 (x : Nat)))) := fun q => (hrow.drewN q).store j x (fun t _ => by
              by_cases e : t = j
              · rw [if_pos e, if_pos (by omega), e, hx]
              · rw [if_neg e, if_pos rfl]
                by_cases c : t < j
                · rw [if_pos c, if_pos (by omega)]
                · rw [if_neg c, if_neg (by omega)])
            clear hx hrow hM
            go_wp2
            refine quiet_tail 9 (by kernel_rfl) (by kernel_rfl) ?_
            simp only [List.take_succ_cons, List.take_zero, List.drop_succ_cons, List.drop_zero]
            repeat (go_big_quiet_step ((go_at_call 59; exact Calls.quiet_of (HC.out _))))
            refine wpQuiet_nil ?_
            intro _ hw'
            obtain ⟨nq, hw''⟩ := hw'
            subst hw''
            go_wp2
            go_roundw
            case rel =>
              have hw2 := (HJ.out.1.drewN nq).write (show r < r + 1 by omega) ((Tch.refl _ _).setCell _ _) (HR.out nq)
              refine ⟨j + 1, by omega, by go_num, hw2.congr (fun i hi t ht => ?_), (below_drewN2 HJ.out.2 nq).setCell hge _⟩
              by_cases e : i = r
              · rw [if_pos e, if_pos e]
              · rw [if_neg e, if_neg e, if_neg e]
            case measure => simp [intOf]; omega
          · have HEn : Hid (Mx w2.heap.size w2.heap.size n (r + 1) d (wrt D k d (zc nf z)) h' wB) := HJ.out.1.congr (fun i hi t ht => by
              by_cases e : i = r
              · rw [if_pos e, if_pos (by omega), e]
              · rw [if_neg e])
            go_wp2
            go_roundw
            case rel => exact ⟨r + 1, h', by omega, by go_num, HEn.out, HJ.out.2⟩
            case measure => simp [intOf]; omega
      · have e : r = n := by omega
        subst e
        go_wp2
        go_ret2
        exact ⟨bel_up' H2.out.2.1 HG.out.2, Or.inr ⟨HZ.out, _, h, rfl, HG.out.1.mono H2.out.2.1.size⟩⟩
  · have hz : (E != 0) = true := by rw [bne_iff_ne]; exact hE0
    have HE0 : Hid (E ≠ 0) := hE0
    clear hE0
    go_wp2
    go_ret2
    exact ⟨H1.out.1, Or.inl ⟨by rw [← HE.out]; exact HE0.out, by rw [← HE.out]; rfl⟩⟩
end Go.Proofs.Ytbofcldmgjeklab
