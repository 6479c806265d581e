/- Texts of ours, one behind the other: X10 X11. -/
import Derived.Test.YtbpeahhhkcljeaaZX1
import Derived.Test.YtbpeahhhkcljeaaZX6
import Derived.Test.YtbpeahhhkcljeaaZT4
/- The program's matrices: products (Times). -/
namespace Go.Proofs.Ytbpeahhhkcljeaa
open Go.RowKit

theorem Mx.drewN {B G m k n : Nat} {R : Nat → Nat → Nat} {h : Nat → Nat} {w : World} (H : Mx B G m k n R h w) (d : Nat) : Mx B G m k n R h (w.drewN d) := by
  obtain ⟨f, hf, hf'⟩ := H.outer
  exact ⟨⟨f, hf.drewN d, hf'⟩, fun i hi => (H.row i hi).drewN d, H.geG, H.ge, H.inj, H.ne, H.le⟩

set_option maxHeartbeats 8000000 in
set_option maxRecDepth 100000 in
theorem times_any {D : FD} (hD : D ∈ fieldsL) {ao bo : Option Addr} {m ca m' cb : Nat} {A A' : Nat → Option Addr} {N C N' C' : Nat → Nat} {Z Z' : Nat → Nat → Int} {w : World} (ha : MatZ ao m A N C Z w) (hb : MatZ bo m' A' N' C' Z' w) (hm : m ≤ 1000000) (hm' : m' ≤ 1000000) :
    Calls Try.prog 13 #[.int .i64 D.q, .slice ao m ca, .slice bo m' cb] w fun e w' => Below w.heap.size w w' ∧
      ((D.mchk2 m N Z m' N' Z' ≠ 0 ∧ e = .returned (.tuple #[.slice none 0 0, .int .i64 (D.mchk2 m N Z m' N' Z')])) ∨
       (D.mchk2 m N Z m' N' Z' = 0 ∧ m = 0 ∧ e = .returned (.tuple #[.slice none 0 0, .int .i64 0])) ∨
       (D.mchk2 m N Z m' N' Z' = 0 ∧ 0 < m ∧ N 0 ≠ m' ∧ e = .returned (.tuple #[.slice none 0 0, .int .i64 3])) ∨
       (D.mchk2 m N Z m' N' Z' = 0 ∧ 0 < m ∧ N 0 = m' ∧ ∃ G h, e = .returned (.tuple #[.slice (some ⟨G, 0, none⟩) m m, .int .i64 0]) ∧ w.heap.size ≤ G ∧ Mx G G m m (N' 0) (fun i => prodR D (mzc N Z i) (mzc N' Z') m') h w')) := by
  have HA : Hid (D ∈ fieldsL ∧ MatZ ao m A N C Z w ∧ MatZ bo m' A' N' C' Z' w) := ⟨hD, ha, hb⟩
  clear hD ha hb
  go_enter Try.func13, Try.ntmps13
  go_wp2_with fail
  refine (mover2_any HA.out.1 HA.out.2.1 HA.out.2.2 hm hm').mono ?_
  rintro e w1 ⟨hb1, hr⟩
  rcases hr with ⟨h0, F, T, f, rfl, hat, hF, hT⟩ | ⟨h0, rfl⟩
  · have HW : Hid (D.mchk2 m N Z m' N' Z' = 0 ∧ FAt F T D f w1 ∧ Below w.heap.size w w1 ∧ MatZ ao m A N C Z w1 ∧ MatZ bo m' A' N' C' Z' w1) := ⟨h0, hat, hb1, HA.out.2.1.below hb1, HA.out.2.2.below hb1⟩
    clear h0 hat hF hT hb1
    by_cases hm0 : m = 0
    · have HZ : Hid (m = 0) := hm0
      have hz : ((m : Int) == 0) = true := by rw [hm0]; rfl
      clear hm0
      go_wp2
      go_ret2
      exact ⟨HW.out.2.2.1, Or.inr (Or.inl ⟨HW.out.1, HZ.out, rfl⟩)⟩
    · have hz : ((m : Int) == 0) = false := by rw [beq_eq_false_iff_ne]; omega
      have hmi : (0 : Int) < (m : Int) := by omega
      obtain ⟨L, hL⟩ : ∃ L, L = N 0 := ⟨_, rfl⟩
      have HCa : Hid (Calls Try.prog 52 #[.slice ao m ca] w1 fun e w' => e = .returned (.int .i64 (L : Int)) ∧ w' = w1) := by
        show Calls _ _ _ _ _
        have h := width_any (ca := ca) HW.out.2.2.2.1
        rw [if_neg hm0, ← hL] at h; exact h
      have HLf : L ≤ 1000000 := by rw [hL]; exact HW.out.2.2.2.1.few 0 (by omega)
      by_cases hLm : L = m'
      · have hzz : ((L : Int) != (m' : Int)) = false := by rw [hLm]; simp
        have c0 := mchk2_zero HW.out.1
        obtain ⟨k1, k2, k3, k4, k5⟩ := mchk_mats (fld HA.out.1) c0.1 HW.out.2.2.2.1 (by omega)
        have hm'0 : 0 < m' := by omega
        obtain ⟨j1, j2, j3, j4, j5⟩ := mchk_mats (fld HA.out.1) c0.2 HW.out.2.2.2.2 hm'0
        rw [← hL, hLm] at k4 k5
        obtain ⟨n, hn⟩ : ∃ n, n = N' 0 := ⟨_, rfl⟩
        rw [← hn] at j2 j3 j4 j5
        have HCb : Hid (∀ wr, Below w1.heap.size w1 wr → Calls Try.prog 52 #[.slice bo m' cb] wr fun e w' => e = .returned (.int .i64 (n : Int)) ∧ w' = wr) := fun wr hb => by
          have h := width_any (ca := cb) (HW.out.2.2.2.2.below hb)
          rw [if_neg (by omega), ← hn] at h; exact h
        have HK : Hid ((∀ i, i < m → El D (mzc N Z i) ∧ Bd m' (mzc N Z i)) ∧ MatS ao m m' A C (mzc N Z) w1 ∧ (∀ i, i < m' → El D (mzc N' Z' i) ∧ Bd n (mzc N' Z' i)) ∧ MatS bo m' n A' C' (mzc N' Z') w1 ∧ n = N' 0 ∧ L = N 0 ∧ L = m') := ⟨k4, k5, j4, j5, hn, hL, hLm⟩
        clear k2 k3 k4 k5 j4 j5 hn hL c0
        go_wp2_with (first
          | (go_at_call 52; refine HCa.out.mono ?_; rintro e w' ⟨rfl, hw⟩; have hw := hw.symm; subst hw)
          | (at_make; refine make_sls rfl _ _ rfl _ m rfl rfl rfl (by omega) ?_; intro w2 hrow2 hgrow2)
          | fail)
        have HB1 : Hid (Mx w1.heap.size w1.heap.size m 0 n (fun i => prodR D (mzc N Z i) (mzc N' Z') m') (fun _ => 0) w2 ∧ Below w1.heap.size w1 w2) := ⟨⟨⟨_, hrow2, fun i hi => absurd hi (by omega)⟩, fun i hi => absurd hi (by omega), Nat.le_refl _, fun i hi => absurd hi (by omega), fun i hi => absurd hi (by omega), fun i hi => absurd hi (by omega), by omega⟩, below_grown hgrow2 (Nat.le_refl _) (fun k hk => by simp at hk)⟩
        clear hrow2 hgrow2
        go_loopw [39] (fun i wr => ∃ r : Nat, ∃ h : Nat → Nat, r ≤ m ∧ i = .int .i64 r ∧ Hid (Mx w1.heap.size w1.heap.size m r n (fun i => prodR D (mzc N Z i) (mzc N' Z') m') h wr ∧ Below w1.heap.size w1 wr)) (fun i _ => m - (intOf i).toNat)
        case atStart => exact ⟨0, _, by omega, rfl, HB1.out⟩
        case round =>
          clear HB1
          obtain ⟨r, h, hr, rfl, HG⟩ := hrel
          rename World => wA
          by_cases hlt : r < m
          · obtain ⟨b, off, rfl, hcr⟩ := (HK.out.2.1.below HG.out.2).cell r hlt
            have hsz := HG.out.2.size
            have hG := HG.out.1.ltG
            have hib : (r : Int) < (m : Int) := by omega
            go_wp2_with (first
              | (go_at_call 52; refine (HCb.out _ HG.out.2).mono ?_; rintro e w' ⟨rfl, hw⟩; have hw := hw.symm; subst hw)
              | (at_make; refine make_int rfl _ _ rfl _ n rfl rfl rfl (by omega) ?_; intro w3 hown3 hgrow3; have hb3 : Below wA.heap.size wA w3 := below_grown hgrow3 (Nat.le_refl _) (fun k hk => by simp at hk); obtain ⟨ff, hf, _⟩ := (HG.out.1.below hb3).outer; have hcG := hf.cell r hlt; have hfG := hf.free r)
              | fail)
            have HP : Hid (∃ h', Mx w1.heap.size w1.heap.size m (r + 1) n (fun i => if i = r then prodR D (mzc N Z r) (mzc N' Z') 0 else prodR D (mzc N Z i) (mzc N' Z') m') h' (w3.setCell ⟨w1.heap.size, r, none⟩ (.slice (some ⟨wA.heap.size, 0, none⟩) n n)) ∧ Below w1.heap.size w1 (w3.setCell ⟨w1.heap.size, r, none⟩ (.slice (some ⟨wA.heap.size, 0, none⟩) n n))) :=
              ⟨_, HG.out.1.push hlt hb3 (Below.refl _ _) ((row_zeros hown3).other (Below.heap_setCell _ _ _ _ (by show wA.heap.size ≠ w1.heap.size; omega))) hsz, (bel_up HG.out.2 hb3).setCell (Nat.le_refl _) _⟩
            obtain ⟨h', HQ⟩ := HP.out
            have HQ' : Hid _ := HQ
            clear HQ HP hown3 hgrow3 hb3 hf hcG hfG
            go_loopw [52] (fun i wr => ∃ j : Nat, j ≤ m' ∧ i = .int .i64 j ∧ Hid (Mx w1.heap.size w1.heap.size m (r + 1) n (fun i => if i = r then prodR D (mzc N Z r) (mzc N' Z') j else prodR D (mzc N Z i) (mzc N' Z') m') h' wr ∧ Below w1.heap.size w1 wr)) (fun i _ => m' - (intOf i).toNat)
            case atStart => exact ⟨0, by omega, rfl, HQ'.out⟩
            case round =>
              clear HQ' hcr
              obtain ⟨j, hj, rfl, HJ⟩ := hrel
              rename World => wB
              by_cases hjm : j < m'
              · obtain ⟨bx, offx, hAx, hcx⟩ := (HK.out.2.1.below HJ.out.2).sl r hlt j hjm
                obtain ⟨by', offy, rfl, hcy⟩ := (HK.out.2.2.2.1.below HJ.out.2).cell j hjm
                have hco := HJ.out.1.cell r (by omega)
                have hjb : (j : Int) < (m' : Int) := by omega
                obtain ⟨x, hx⟩ : ∃ x, x = mzc N Z r j := ⟨_, rfl⟩
                have hrow : Row (h' r) n (prodR D (mzc N Z r) (mzc N' Z') j) wB := by
                  have h1 := HJ.out.1.row r (by omega)
                  rw [if_pos rfl] at h1; exact h1
                have hge := HJ.out.1.ge r (by omega)
                have HC : Hid (∀ d, Calls Try.prog 53 #[.pointer (some ⟨F, 0, none⟩), .slice (some ⟨h' r, 0, none⟩) n n, .int .i64 x, .slice (A' j) n (C' j)] (wB.drewN d) fun e w' => e = .returned (.tuple #[]) ∧ Row (h' r) n (prodR D (mzc N Z r) (mzc N' Z') (j + 1)) w' ∧ Tch (h' r) wB w') := fun d => by
                  have hsl : Sl (A' j) n (mzc N' Z' j) (wB.drewN d) := (HK.out.2.2.2.1.below HJ.out.2).sl j hjm
                  rw [hx]
                  refine (addTo_any HA.out.1 ((HW.out.2.1.below HJ.out.2 HW.out.2.1.ltF HW.out.2.1.ltT).drewN d) HW.out.2.1.ltF HW.out.2.1.ltT hge (by omega) (hrow.drewN d) hsl (fun a ha e => ?_) (prodR_el (fld HA.out.1) _ _ j) (HK.out.2.2.1 j hjm).1 ((HK.out.1 r hlt).1 j)).mono ?_
                  · have := HK.out.2.2.2.1.lt j2 j hjm a ha
                    omega
                  · rintro e w' ⟨rfl, h1, h2⟩
                    exact ⟨rfl, h1, ((Tch.refl _ wB).drewN d).trans h2⟩
                rw [hAx]
                rw [← hx] at hcx
                clear hx hrow
                go_wp2
                refine quiet_tail 10 (by kernel_rfl) (by kernel_rfl) ?_
                simp only [List.take_succ_cons, List.take_zero, List.drop_succ_cons, List.drop_zero]
                repeat (go_big_quiet_step (fail))
                refine wpQuiet_nil ?_
                intro _ hw'
                obtain ⟨nq, hw''⟩ := hw'
                subst hw''
                go_wp2_with (go_at_call 53; refine (HC.out _).mono ?_; rintro e w' ⟨rfl, hr', ht'⟩)
                go_roundw
                case rel =>
                  have hw2 := HJ.out.1.write (show r < r + 1 by omega) ht' hr'
                  refine ⟨j + 1, by omega, by go_num, hw2.congr (fun i hi k hk => ?_), HJ.out.2.trans (ht'.below hge)⟩
                  by_cases e : i = r
                  · rw [if_pos e, if_pos e]
                  · rw [if_neg e, if_neg e, if_neg e]
                case measure => simp [intOf]; omega
              · have HE : Hid (Mx w1.heap.size w1.heap.size m (r + 1) n (fun i => prodR D (mzc N Z i) (mzc N' Z') m') h' wB) := HJ.out.1.congr (fun i hi k hk => by
                  by_cases e : i = r
                  · rw [if_pos e, e, show j = m' from by omega]
                  · rw [if_neg e])
                go_wp2
                go_roundw
                case rel => exact ⟨r + 1, h', by omega, by go_num, HE.out, HJ.out.2⟩
                case measure => simp [intOf]; omega
          · have e : r = m := by omega
            subst e
            go_wp2
            go_ret2
            refine ⟨HW.out.2.2.1.trans (HG.out.2.mono HW.out.2.2.1.size), Or.inr (Or.inr (Or.inr ⟨HW.out.1, by omega, by rw [← HK.out.2.2.2.2.2.1]; exact HK.out.2.2.2.2.2.2, _, h, rfl, HW.out.2.2.1.size, ?_⟩))⟩
            rw [← HK.out.2.2.2.2.1]; exact HG.out.1
      · have hzz : ((L : Int) != (m' : Int)) = true := by rw [bne_iff_ne]; omega
        have HN : Hid (N 0 ≠ m' ∧ 0 < m) := ⟨by rw [← hL]; exact hLm, by omega⟩
        clear hL
        go_wp2_with (go_at_call 52; refine HCa.out.mono ?_; rintro e w' ⟨rfl, hw⟩; have hw := hw.symm; subst hw)
        go_ret2
        exact ⟨HW.out.2.2.1, Or.inr (Or.inr (Or.inl ⟨HW.out.1, HN.out.2, HN.out.1, rfl⟩))⟩
  · have HW : Hid (D.mchk2 m N Z m' N' Z' ≠ 0 ∧ Below w.heap.size w w1) := ⟨h0, hb1⟩
    obtain ⟨e, he⟩ : ∃ e, e = D.mchk2 m N Z m' N' Z' := ⟨_, rfl⟩
    rw [← he] at h0 ⊢
    have hz : (e != 0) = true := by rw [bne_iff_ne]; exact h0
    have HE : Hid (e = D.mchk2 m N Z m' N' Z') := he
    clear h0 hb1 he
    go_wp2
    go_ret2
    exact ⟨HW.out.2, Or.inl ⟨HW.out.1, by rw [← HE.out]; rfl⟩⟩
end Go.Proofs.Ytbpeahhhkcljeaa

/- The program's matrices: a column cleared by a row (clearColumn). -/
namespace Go.Proofs.Ytbpeahhhkcljeaa
open Go.RowKit

/-- Of w's blocks only the first m of h have been written into; none is new. -/
structure TchR (h : Nat → Nat) (m : Nat) (w w' : World) : Prop where
  os : w'.os = w.os
  tape : w'.tape = w.tape
  output : w'.output = w.output
  size : w'.heap.size = w.heap.size
  block : ∀ k, (∀ i, i < m → k ≠ h i) → w'.heap[k]? = w.heap[k]?
theorem TchR.refl (h : Nat → Nat) (m : Nat) (w : World) : TchR h m w w := ⟨rfl, rfl, rfl, rfl, fun _ _ => rfl⟩
theorem TchR.trans {h : Nat → Nat} {m : Nat} {w w1 w2 : World} (a : TchR h m w w1) (b : TchR h m w1 w2) : TchR h m w w2 :=
  ⟨b.os.trans a.os, b.tape.trans a.tape, b.output.trans a.output, b.size.trans a.size, fun k hk => (b.block k hk).trans (a.block k hk)⟩
theorem Tch.all {h : Nat → Nat} {m i : Nat} {w w' : World} (a : Tch (h i) w w') (hi : i < m) : TchR h m w w' := ⟨a.os, a.tape, a.output, a.size, fun k hk => a.block k (hk i hi)⟩
theorem TchR.below {h : Nat → Nat} {m B : Nat} {w w' : World} (a : TchR h m w w') (hB : ∀ i, i < m → B ≤ h i) : Below B w w' := ⟨a.os, a.tape, a.output, by rw [a.size]; exact Nat.le_refl _, fun k hk => a.block k (fun i hi e => by have := hB i hi; omega)⟩
theorem TchR.drewN {h : Nat → Nat} {m : Nat} {w w' : World} (a : TchR h m w w') (n : Nat) : TchR h m w (w'.drewN n) := ⟨a.os, a.tape, a.output, a.size, a.block⟩

/-- The row that clears a column. -/
def clrP (D : FD) (R : Nat → Nat → Nat) (top col : Nat) : Nat → Nat := pscale D (D.iv (R top col)) (R top)
/-- What becomes of the rows where a column is cleared by row top: the first r of them. -/
def clrR (D : FD) (R : Nat → Nat → Nat) (top col r : Nat) : Nat → Nat → Nat := fun i => if i = top then clrP D R top col else if i < r then padd D (R i) (pscale D (D.ng (R i col)) (clrP D R top col)) else R i

set_option maxHeartbeats 8000000 in
set_option maxRecDepth 100000 in
theorem clearColumn_any {F T B G mc m n top col : Nat} {D : FD} (hD : D ∈ fieldsL) {g : Nat → Value} {w : World} (hat : FAt F T D g w) (hF : F < B) (hT : T < B) {R : Nat → Nat → Nat} {h : Nat → Nat} (hM : Mx B G mc m n R h w) (hm : m ≤ 1000) (hn : n ≤ 1000) (hE : ∀ i, i < m → El D (R i)) (ht : top < m) (hc : col < n) (h0 : R top col ≠ 0) :
    Calls Try.prog 109 #[.pointer (some ⟨F, 0, none⟩), .slice (some ⟨G, 0, none⟩) m mc, .int .i64 top, .int .i64 col] w fun e w' => e = .returned (.tuple #[]) ∧ Mx B G mc m n (clrR D R top col m) h w' ∧ TchR h m w w' := by
  have HF : Hid (FAt F T D g w ∧ D ∈ fieldsL ∧ F < B ∧ T < B ∧ Mx B G mc m n R h w ∧ (∀ i, i < m → El D (R i))) := ⟨hat, hD, hF, hT, hM, hE⟩
  have hct := hM.cell top ht
  have hcc := (hM.row top ht).cell col hc
  have htb : (top : Int) < (m : Int) := by omega
  have hcb : (col : Int) < (n : Int) := by omega
  obtain ⟨c, hcv⟩ : ∃ c, c = D.iv (R top col) := ⟨_, rfl⟩
  obtain ⟨x, hx⟩ : ∃ x, x = R top col := ⟨_, rfl⟩
  have HI : Hid (Calls Try.prog 121 #[.pointer (some ⟨F, 0, none⟩), .int .i64 (x : Nat)] w fun e w' => e = .returned (.int .i64 (c : Nat)) ∧ ∃ k, w' = w.drewN k) := by
    show Calls _ _ _ _ _
    rw [hcv, hx]; exact inv_nat' hD hat (hE top ht col) h0
  rw [← hx] at hcc
  have HC : Hid (c = D.iv (R top col) ∧ c < D.q) := ⟨hcv, by rw [hcv]; exact iv_lt hD _⟩
  clear hat hD hF hT hM hE h0 hcv hx
  go_enter Try.func109, Try.ntmps109
  go_wp2_with (go_at_call 121; refine HI.out.mono ?_; rintro e w' ⟨rfl, d, rfl⟩)
  go_loopw [27] (fun i wr => ∃ r : Nat, r ≤ n ∧ i = .int .i64 r ∧ Hid (Row (h top) n (fun k => if k < r then D.mul c (R top k) else R top k) wr ∧ Tch (h top) w wr)) (fun i _ => n - (intOf i).toNat)
  case atStart => exact ⟨0, by omega, rfl, ((HF.out.2.2.2.2.1.row top ht).drewN d).congr (fun k _ => by rw [if_neg (by omega)]), (Tch.refl _ _).drewN d⟩
  case round =>
    clear HI hcc
    obtain ⟨r, hr, rfl, HG⟩ := hrel
    rename World => wA
    have hct' := (HG.out.2.cell (b := G) (o := top) (fun e => HF.out.2.2.2.2.1.ne top ht e.symm)).trans hct
    by_cases hlt : r < n
    · have hib : (r : Int) < (n : Int) := by omega
      obtain ⟨y, hy⟩ : ∃ y, y = R top r := ⟨_, rfl⟩
      have hco : wA.cell? ⟨h top, r, none⟩ = some (.int .i64 (y : Nat)) := by
        have h := HG.out.1.cell r hlt
        rw [if_neg (by omega), ← hy] at h; exact h
      have hfo := HG.out.1.free r
      obtain ⟨z, hz⟩ : ∃ z, z = D.mul c y := ⟨_, rfl⟩
      have hat : FAt F T D g wA := HF.out.1.below (HG.out.2.below (HF.out.2.2.2.2.1.ge top ht)) HF.out.2.2.1 HF.out.2.2.2.1
      have HC1 : Hid (∀ d, Calls Try.prog 89 #[.pointer (some ⟨F, 0, none⟩), .int .i64 (c : Nat), .int .i64 (y : Nat)] (wA.drewN d) fun e w' => e = .returned (.int .i64 (z : Nat)) ∧ ∃ k, w' = (wA.drewN d).drewN k) := by
        intro d; rw [hz]; exact mul_nat HF.out.2.1 (hat.drewN d) HC.out.2 (by rw [hy]; exact HF.out.2.2.2.2.2 top ht r)
      have HV : Hid (∀ k, k < n → (if k < r + 1 then D.mul c (R top k) else R top k) = if k = r then z else if k < r then D.mul c (R top k) else R top k) := fun k _ => by
        rw [hz, hy]
        by_cases e : k = r
        · rw [if_pos e, if_pos (by omega), e]
        · rw [if_neg e]
          by_cases e2 : k < r
          · rw [if_pos e2, if_pos (by omega)]
          · rw [if_neg e2, if_neg (by omega)]
      obtain ⟨gt, hgt⟩ : ∃ gt, gt = h top := ⟨_, rfl⟩
      rw [← hgt] at hct' hct hco hfo HG ⊢
      clear hy hz hat hgt
      go_wp2
      refine quiet_tail 10 (by kernel_rfl) (by kernel_rfl) ?_
      simp only [List.take_succ_cons, List.take_zero, List.drop_succ_cons, List.drop_zero]
      repeat (go_big_quiet_step (first | (go_at_call 89; exact Calls.quiet_of (HC1.out _)) | fail))
      refine wpQuiet_nil ?_
      intro _ hw'
      obtain ⟨nq, hw''⟩ := hw'
      subst hw''
      go_wp2
      go_roundw
      case rel => exact ⟨r + 1, by omega, by go_num, (HG.out.1.drewN nq).store r z (fun k hk => HV.out k hk), (HG.out.2.drewN nq).setCell _ _⟩
      case measure => simp [intOf]; omega
    · have HS : Hid (Mx B G mc m n (clrR D R top col 0) h wA ∧ TchR h m w wA) := by
        refine ⟨?_, HG.out.2.all ht⟩
        have hP : Row (h top) n (clrP D R top col) wA := HG.out.1.congr (fun k hk => by
          show (if k < r then D.mul c (R top k) else R top k) = D.mul (D.iv (R top col)) (R top k)
          rw [if_pos (by omega), HC.out.1])
        refine (HF.out.2.2.2.2.1.write ht HG.out.2 hP).congr (fun i hi j hj => ?_)
        unfold clrR
        by_cases e : i = top
        · rw [if_pos e, if_pos e]
        · rw [if_neg e, if_neg e, if_neg (by omega)]
      clear HG hct'
      go_wp2
      go_loopw [45] (fun i wr => ∃ r : Nat, r ≤ m ∧ i = .int .i64 r ∧ Hid (Mx B G mc m n (clrR D R top col r) h wr ∧ TchR h m w wr)) (fun i _ => m - (intOf i).toNat)
      case atStart => exact ⟨0, by omega, rfl, HS.out⟩
      case round =>
        clear HS
        obtain ⟨r, hr, rfl, HG⟩ := hrel
        rename World => wB
        by_cases hlt : r < m
        · have hib : (r : Int) < (m : Int) := by omega
          have hcr := HG.out.1.cell r hlt
          have hct2 := HG.out.1.cell top ht
          by_cases hrt : r = top
          · have hrz : ((r : Int) != (top : Int)) = false := by rw [hrt]; simp
            have HE : Hid (Mx B G mc m n (clrR D R top col (r + 1)) h wB) := HG.out.1.congr (fun i hi j hj => by
              unfold clrR
              by_cases e : i = top
              · rw [if_pos e, if_pos e]
              · rw [if_neg e, if_neg e]
                by_cases e2 : i < r
                · rw [if_pos e2, if_pos (by omega)]
                · rw [if_neg e2, if_neg (by omega)])
            clear hrt
            go_wp2
            go_roundw
            case rel => exact ⟨r + 1, by omega, by go_num, HE.out, HG.out.2⟩
            case measure => simp [intOf]; omega
          · have hrz : ((r : Int) != (top : Int)) = true := by rw [bne_iff_ne]; omega
            have hrow : Row (h r) n (R r) wB := by
              have h1 := HG.out.1.row r hlt
              unfold clrR at h1
              rw [if_neg hrt, if_neg (by omega)] at h1; exact h1
            have htop : Row (h top) n (clrP D R top col) wB := by
              have h1 := HG.out.1.row top ht
              unfold clrR at h1
              rw [if_pos rfl] at h1; exact h1
            obtain ⟨y, hy⟩ : ∃ y, y = R r col := ⟨_, rfl⟩
            have hyc := hrow.cell col hc
            rw [← hy] at hyc
            have hyq : y < D.q := by rw [hy]; exact HF.out.2.2.2.2.2 r hlt col
            obtain ⟨z, hz⟩ : ∃ z, z = D.ng y := ⟨_, rfl⟩
            have hat : FAt F T D g wB := HF.out.1.below (HG.out.2.below HF.out.2.2.2.2.1.ge) HF.out.2.2.1 HF.out.2.2.2.1
            have HC1 : Hid (∀ d, Calls Try.prog 106 #[.pointer (some ⟨F, 0, none⟩), .int .i64 (y : Nat)] (wB.drewN d) fun e w' => e = .returned (.int .i64 (z : Nat)) ∧ ∃ k, w' = (wB.drewN d).drewN k) := by
              intro d; rw [hz]; exact neg_nat HF.out.2.1 (hat.drewN d) hyq
            have HC2 : Hid (∀ d, Calls Try.prog 53 #[.pointer (some ⟨F, 0, none⟩), .slice (some ⟨h r, 0, none⟩) n n, .int .i64 (z : Nat), .slice (some ⟨h top, 0, none⟩) n n] (wB.drewN d) fun e w' => e = .returned (.tuple #[]) ∧ Mx B G mc m n (clrR D R top col (r + 1)) h w' ∧ TchR h m w w') := fun d => by
              have hPel : El D (clrP D R top col) := el_scale (fld HF.out.2.1) _ _
              refine (addTo_any HF.out.2.1 (hat.drewN d) HF.out.2.2.1 HF.out.2.2.2.1 (HF.out.2.2.2.2.1.ge r hlt) hn (hrow.drewN d) ((htop.drewN d).sl (Nat.le_refl _)) (fun a ha e => ?_) (HF.out.2.2.2.2.2 r hlt) hPel (by rw [hz]; exact ng_lt (fld HF.out.2.1) hyq)).mono ?_
              · cases ha
                exact hrt (HF.out.2.2.2.2.1.inj r hlt top ht e.symm)
              · rintro e w' ⟨rfl, h1, h2⟩
                have h3 : Tch (h r) wB w' := ((Tch.refl _ wB).drewN d).trans h2
                refine ⟨rfl, (HG.out.1.write hlt h3 h1).congr (fun i hi j hj => ?_), HG.out.2.trans (h3.all hlt)⟩
                unfold clrR
                by_cases e : i = r
                · rw [if_pos e, if_neg (by omega), if_pos (by omega), e, hz, hy]
                · rw [if_neg e]
                  by_cases e1 : i = top
                  · rw [if_pos e1, if_pos e1]
                  · rw [if_neg e1, if_neg e1]
                    by_cases e2 : i < r
                    · rw [if_pos e2, if_pos (by omega)]
                    · rw [if_neg e2, if_neg (by omega)]
            clear hy hz hat hrow htop hrt
            go_wp2
            refine quiet_tail 12 (by kernel_rfl) (by kernel_rfl) ?_
            simp only [List.take_succ_cons, List.take_zero, List.drop_succ_cons, List.drop_zero]
            repeat (go_big_quiet_step (first | (go_at_call 106; exact Calls.quiet_of (HC1.out _)) | fail))
            refine wpQuiet_nil ?_
            intro _ hw'
            obtain ⟨nq, hw''⟩ := hw'
            subst hw''
            go_wp2_with (go_at_call 53; refine (HC2.out _).mono ?_; rintro e w' ⟨rfl, hr', ht'⟩)
            go_roundw
            case rel => exact ⟨r + 1, by omega, by go_num, hr', ht'⟩
            case measure => simp [intOf]; omega
        · have e : r = m := by omega
          subst e
          go_wp2
          refine bodyPost_end (results_none rfl _ _ _) rfl ?_
          exact ⟨rfl, HG.out.1, HG.out.2⟩
end Go.Proofs.Ytbpeahhhkcljeaa
