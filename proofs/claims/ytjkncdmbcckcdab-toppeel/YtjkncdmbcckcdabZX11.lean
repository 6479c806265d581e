/- The program's matrices: a column cleared by a row (clearColumn). -/
import Derived.Test.YtjkncdmbcckcdabZX7
namespace Go.Proofs.Ytjkncdmbcckcdab
open Go.RowKit

/-- Of w's blocks only the first m of h have been written into; none is new. -/
structure TchR (h : Nat → Nat) (m : Nat) (w w' : World) : Prop where
  os : w'.os = w.os
  tape : w'.tape = w.tape
  output : w'.output = w.output
  size : w'.heap.size = w.heap.size
  block : ∀ k, (∀ i, i < m → k ≠ h i) → w'.heap[k]? = w.heap[k]?
theorem TchR.refl (h : Nat → Nat) (m : Nat) (w : World) : TchR h m w w := ⟨rfl, rfl, rfl, rfl, fun _ _ => rfl⟩
theorem TchR.trans {h : Nat → Nat} {m : Nat} {w w1 w2 : World} (a : TchR h m w w1) (b : TchR h m w1 w2) : TchR h m w w2 :=
  ⟨b.os.trans a.os, b.tape.trans a.tape, b.output.trans a.output, b.size.trans a.size, fun k hk => (b.block k hk).trans (a.block k hk)⟩
theorem Tch.all {h : Nat → Nat} {m i : Nat} {w w' : World} (a : Tch (h i) w w') (hi : i < m) : TchR h m w w' := ⟨a.os, a.tape, a.output, a.size, fun k hk => a.block k (hk i hi)⟩
theorem TchR.below {h : Nat → Nat} {m B : Nat} {w w' : World} (a : TchR h m w w') (hB : ∀ i, i < m → B ≤ h i) : Below B w w' := ⟨a.os, a.tape, a.output, by rw [a.size]; exact Nat.le_refl _, fun k hk => a.block k (fun i hi e => by have := hB i hi; omega)⟩
theorem TchR.drewN {h : Nat → Nat} {m : Nat} {w w' : World} (a : TchR h m w w') (n : Nat) : TchR h m w (w'.drewN n) := ⟨a.os, a.tape, a.output, a.size, a.block⟩

/-- The row that clears a column. -/
def clrP (D : FD) (R : Nat → Nat → Nat) (top col : Nat) : Nat → Nat := pscale D (D.iv (R top col)) (R top)
/-- What becomes of the rows where a column is cleared by row top: the first r of them. -/
def clrR (D : FD) (R : Nat → Nat → Nat) (top col r : Nat) : Nat → Nat → Nat := fun i => if i = top then clrP D R top col else if i < r then padd D (R i) (pscale D (D.ng (R i col)) (clrP D R top col)) else R i

set_option maxHeartbeats 8000000 in
set_option maxRecDepth 100000 in
theorem clearColumn_any {F T B G mc m n top col : Nat} {D : FD} (hD : D ∈ fieldsL) {g : Nat → Value} {w : World} (hat : FAt F T D g w) (hF : F < B) (hT : T < B) {R : Nat → Nat → Nat} {h : Nat → Nat} (hM : Mx B G mc m n R h w) (hm : m ≤ 1000) (hn : n ≤ 1000) (hE : ∀ i, i < m → El D (R i)) (ht : top < m) (hc : col < n) (h0 : R top col ≠ 0) :
    Calls Try.prog 66 #[.pointer (some ⟨F, 0, none⟩), .slice (some ⟨G, 0, none⟩) m mc, .int .i64 top, .int .i64 col] w fun e w' => e = .returned (.tuple #[]) ∧ Mx B G mc m n (clrR D R top col m) h w' ∧ TchR h m w w' := by
  have HF : Hid (FAt F T D g w ∧ D ∈ fieldsL ∧ F < B ∧ T < B ∧ Mx B G mc m n R h w ∧ (∀ i, i < m → El D (R i))) := ⟨hat, hD, hF, hT, hM, hE⟩
  have hct := hM.cell top ht
  have hcc := (hM.row top ht).cell col hc
  have htb : (top : Int) < (m : Int) := by omega
  have hcb : (col : Int) < (n : Int) := by omega
  obtain ⟨c, hcv⟩ : ∃ c, c = D.iv (R top col) := ⟨_, rfl⟩
  obtain ⟨x, hx⟩ : ∃ x, x = R top col := ⟨_, rfl⟩
  have HI : Hid (Calls Try.prog 74 #[.pointer (some ⟨F, 0, none⟩), .int .i64 (x : Nat)] w fun e w' => e = .returned (.int .i64 (c : Nat)) ∧ ∃ k, w' = w.drewN k) := by
    show Calls _ _ _ _ _
    rw [hcv, hx]; exact inv_nat' hD hat (hE top ht col) h0
  rw [← hx] at hcc
  have HC : Hid (c = D.iv (R top col) ∧ c < D.q) := ⟨hcv, by rw [hcv]; exact iv_lt hD _⟩
  clear hat hD hF hT hM hE h0 hcv hx
  go_enter Try.func66, Try.ntmps66
  go_wp2_with (go_at_call 74; refine HI.out.mono ?_; rintro e w' ⟨rfl, d, rfl⟩)
  go_loopw [27] (fun i wr => ∃ r : Nat, r ≤ n ∧ i = .int .i64 r ∧ Hid (Row (h top) n (fun k => if k < r then D.mul c (R top k) else R top k) wr ∧ Tch (h top) w wr)) (fun i _ => n - (intOf i).toNat)
  case atStart => exact ⟨0, by omega, rfl, ((HF.out.2.2.2.2.1.row top ht).drewN d).congr (fun k _ => by rw [if_neg (by omega)]), (Tch.refl _ _).drewN d⟩
  case round =>
    clear HI hcc
    obtain ⟨r, hr, rfl, HG⟩ := hrel
    rename World => wA
    have hct' := (HG.out.2.cell (b := G) (o := top) (fun e => HF.out.2.2.2.2.1.ne top ht e.symm)).trans hct
    by_cases hlt : r < n
    · have hib : (r : Int) < (n : Int) := by omega
      obtain ⟨y, hy⟩ : ∃ y, y = R top r := ⟨_, rfl⟩
      have hco : wA.cell? ⟨h top, r, none⟩ = some (.int .i64 (y : Nat)) := by
        have h := HG.out.1.cell r hlt
        rw [if_neg (by omega), ← hy] at h; exact h
      have hfo := HG.out.1.free r
      obtain ⟨z, hz⟩ : ∃ z, z = D.mul c y := ⟨_, rfl⟩
      have hat : FAt F T D g wA := HF.out.1.below (HG.out.2.below (HF.out.2.2.2.2.1.ge top ht)) HF.out.2.2.1 HF.out.2.2.2.1
      have HC1 : Hid (∀ d, Calls Try.prog 40 #[.pointer (some ⟨F, 0, none⟩), .int .i64 (c : Nat), .int .i64 (y : Nat)] (wA.drewN d) fun e w' => e = .returned (.int .i64 (z : Nat)) ∧ ∃ k, w' = (wA.drewN d).drewN k) := by
        intro d; rw [hz]; exact mul_nat HF.out.2.1 (hat.drewN d) HC.out.2 (by rw [hy]; exact HF.out.2.2.2.2.2 top ht r)
      have HV : Hid (∀ k, k < n → (if k < r + 1 then D.mul c (R top k) else R top k) = if k = r then z else if k < r then D.mul c (R top k) else R top k) := fun k _ => by
        rw [hz, hy]
        by_cases e : k = r
        · rw [if_pos e, if_pos (by omega), e]
        · rw [if_neg e]
          by_cases e2 : k < r
          · rw [if_pos e2, if_pos (by omega)]
          · rw [if_neg e2, if_neg (by omega)]
      obtain ⟨gt, hgt⟩ : ∃ gt, gt = h top := ⟨_, rfl⟩
      rw [← hgt] at hct' hct hco hfo HG ⊢
      clear hy hz hat hgt
      go_wp2
      refine quiet_tail 10 (by kernel_rfl) (by kernel_rfl) ?_
      simp only [List.take_succ_cons, List.take_zero, List.drop_succ_cons, List.drop_zero]
      repeat (go_big_quiet_step (first | (go_at_call 40; exact Calls.quiet_of (HC1.out _)) | fail))
      refine wpQuiet_nil ?_
      intro _ hw'
      obtain ⟨nq, hw''⟩ := hw'
      subst hw''
      go_wp2
      go_roundw
      case rel => exact ⟨r + 1, by omega, by go_num, (HG.out.1.drewN nq).store r z (fun k hk => HV.out k hk), (HG.out.2.drewN nq).setCell _ _⟩
      case measure => simp [intOf]; omega
    · have HS : Hid (Mx B G mc m n (clrR D R top col 0) h wA ∧ TchR h m w wA) := by
        refine ⟨?_, HG.out.2.all ht⟩
        have hP : Row (h top) n (clrP D R top col) wA := HG.out.1.congr (fun k hk => by
          show (if k < r then D.mul c (R top k) else R top k) = D.mul (D.iv (R top col)) (R top k)
          rw [if_pos (by omega), HC.out.1])
        refine (HF.out.2.2.2.2.1.write ht HG.out.2 hP).congr (fun i hi j hj => ?_)
        unfold clrR
        by_cases e : i = top
        · rw [if_pos e, if_pos e]
        · rw [if_neg e, if_neg e, if_neg (by omega)]
      clear HG hct'
      go_wp2
      go_loopw [45] (fun i wr => ∃ r : Nat, r ≤ m ∧ i = .int .i64 r ∧ Hid (Mx B G mc m n (clrR D R top col r) h wr ∧ TchR h m w wr)) (fun i _ => m - (intOf i).toNat)
      case atStart => exact ⟨0, by omega, rfl, HS.out⟩
      case round =>
        clear HS
        obtain ⟨r, hr, rfl, HG⟩ := hrel
        rename World => wB
        by_cases hlt : r < m
        · have hib : (r : Int) < (m : Int) := by omega
          have hcr := HG.out.1.cell r hlt
          have hct2 := HG.out.1.cell top ht
          by_cases hrt : r = top
          · have hrz : ((r : Int) != (top : Int)) = false := by rw [hrt]; simp
            have HE : Hid (Mx B G mc m n (clrR D R top col (r + 1)) h wB) := HG.out.1.congr (fun i hi j hj => by
              unfold clrR
              by_cases e : i = top
              · rw [if_pos e, if_pos e]
              · rw [if_neg e, if_neg e]
                by_cases e2 : i < r
                · rw [if_pos e2, if_pos (by omega)]
                · rw [if_neg e2, if_neg (by omega)])
            clear hrt
            go_wp2
            go_roundw
            case rel => exact ⟨r + 1, by omega, by go_num, HE.out, HG.out.2⟩
            case measure => simp [intOf]; omega
          · have hrz : ((r : Int) != (top : Int)) = true := by rw [bne_iff_ne]; omega
            have hrow : Row (h r) n (R r) wB := by
              have h1 := HG.out.1.row r hlt
              unfold clrR at h1
              rw [if_neg hrt, if_neg (by omega)] at h1; exact h1
            have htop : Row (h top) n (clrP D R top col) wB := by
              have h1 := HG.out.1.row top ht
              unfold clrR at h1
              rw [if_pos rfl] at h1; exact h1
            obtain ⟨y, hy⟩ : ∃ y, y = R r col := ⟨_, rfl⟩
            have hyc := hrow.cell col hc
            rw [← hy] at hyc
            have hyq : y < D.q := by rw [hy]; exact HF.out.2.2.2.2.2 r hlt col
            obtain ⟨z, hz⟩ : ∃ z, z = D.ng y := ⟨_, rfl⟩
            have hat : FAt F T D g wB := HF.out.1.below (HG.out.2.below HF.out.2.2.2.2.1.ge) HF.out.2.2.1 HF.out.2.2.2.1
            have HC1 : Hid (∀ d, Calls Try.prog 68 #[.pointer (some ⟨F, 0, none⟩), .int .i64 (y : Nat)] (wB.drewN d) fun e w' => e = .returned (.int .i64 (z : Nat)) ∧ ∃ k, w' = (wB.drewN d).drewN k) := by
              intro d; rw [hz]; exact neg_nat HF.out.2.1 (hat.drewN d) hyq
            have HC2 : Hid (∀ d, Calls Try.prog 75 #[.pointer (some ⟨F, 0, none⟩), .slice (some ⟨h r, 0, none⟩) n n, .int .i64 (z : Nat), .slice (some ⟨h top, 0, none⟩) n n] (wB.drewN d) fun e w' => e = .returned (.tuple #[]) ∧ Mx B G mc m n (clrR D R top col (r + 1)) h w' ∧ TchR h m w w') := fun d => by
              have hPel : El D (clrP D R top col) := el_scale (fld HF.out.2.1) _ _
              refine (addTo_any HF.out.2.1 (hat.drewN d) HF.out.2.2.1 HF.out.2.2.2.1 (HF.out.2.2.2.2.1.ge r hlt) hn (hrow.drewN d) ((htop.drewN d).sl (Nat.le_refl _)) (fun a ha e => ?_) (HF.out.2.2.2.2.2 r hlt) hPel (by rw [hz]; exact ng_lt (fld HF.out.2.1) hyq)).mono ?_
              · cases ha
                exact hrt (HF.out.2.2.2.2.1.inj r hlt top ht e.symm)
              · rintro e w' ⟨rfl, h1, h2⟩
                have h3 : Tch (h r) wB w' := ((Tch.refl _ wB).drewN d).trans h2
                refine ⟨rfl, (HG.out.1.write hlt h3 h1).congr (fun i hi j hj => ?_), HG.out.2.trans (h3.all hlt)⟩
                unfold clrR
                by_cases e : i = r
                · rw [if_pos e, if_neg (by omega), if_pos (by omega), e, hz, hy]
                · rw [if_neg e]
                  by_cases e1 : i = top
                  · rw [if_pos e1, if_pos e1]
                  · rw [if_neg e1, if_neg e1]
                    by_cases e2 : i < r
                    · rw [if_pos e2, if_pos (by omega)]
                    · rw [if_neg e2, if_neg (by omega)]
            clear hy hz hat hrow htop hrt
            go_wp2
            refine quiet_tail 12 (by kernel_rfl) (by kernel_rfl) ?_
            simp only [List.take_succ_cons, List.take_zero, List.drop_succ_cons, List.drop_zero]
            repeat (go_big_quiet_step (first | (go_at_call 68; exact Calls.quiet_of (HC1.out _)) | fail))
            refine wpQuiet_nil ?_
            intro _ hw'
            obtain ⟨nq, hw''⟩ := hw'
            subst hw''
            go_wp2_with (go_at_call 75; refine (HC2.out _).mono ?_; rintro e w' ⟨rfl, hr', ht'⟩)
            go_roundw
            case rel => exact ⟨r + 1, by omega, by go_num, hr', ht'⟩
            case measure => simp [intOf]; omega
        · have e : r = m := by omega
          subst e
          go_wp2
          refine bodyPost_end (results_none rfl _ _ _) rfl ?_
          exact ⟨rfl, HG.out.1, HG.out.2⟩
end Go.Proofs.Ytjkncdmbcckcdab
