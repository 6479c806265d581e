/- Texts of ours, one behind the other: X11 S3. -/
import Derived.Test.YtjkncdmbcckcdaaZX6
import Derived.Test.YtjkncdmbcckcdaaZS1
/- The program's matrices: a column cleared by a row (clearColumn). -/
namespace Go.Proofs.Ytjkncdmbcckcdaa
open Go.RowKit

/-- Of w's blocks only the first m of h have been written into; none is new. -/
structure TchR (h : Nat → Nat) (m : Nat) (w w' : World) : Prop where
  os : w'.os = w.os
  tape : w'.tape = w.tape
  output : w'.output = w.output
  size : w'.heap.size = w.heap.size
  block : ∀ k, (∀ i, i < m → k ≠ h i) → w'.heap[k]? = w.heap[k]?
theorem TchR.refl (h : Nat → Nat) (m : Nat) (w : World) : TchR h m w w := ⟨rfl, rfl, rfl, rfl, fun _ _ => rfl⟩
theorem TchR.trans {h : Nat → Nat} {m : Nat} {w w1 w2 : World} (a : TchR h m w w1) (b : TchR h m w1 w2) : TchR h m w w2 :=
  ⟨b.os.trans a.os, b.tape.trans a.tape, b.output.trans a.output, b.size.trans a.size, fun k hk => (b.block k hk).trans (a.block k hk)⟩
theorem Tch.all {h : Nat → Nat} {m i : Nat} {w w' : World} (a : Tch (h i) w w') (hi : i < m) : TchR h m w w' := ⟨a.os, a.tape, a.output, a.size, fun k hk => a.block k (hk i hi)⟩
theorem TchR.below {h : Nat → Nat} {m B : Nat} {w w' : World} (a : TchR h m w w') (hB : ∀ i, i < m → B ≤ h i) : Below B w w' := ⟨a.os, a.tape, a.output, by rw [a.size]; exact Nat.le_refl _, fun k hk => a.block k (fun i hi e => by have := hB i hi; omega)⟩
theorem TchR.drewN {h : Nat → Nat} {m : Nat} {w w' : World} (a : TchR h m w w') (n : Nat) : TchR h m w (w'.drewN n) := ⟨a.os, a.tape, a.output, a.size, a.block⟩

/-- The row that clears a column. -/
def clrP (D : FD) (R : Nat → Nat → Nat) (top col : Nat) : Nat → Nat := pscale D (D.iv (R top col)) (R top)
/-- What becomes of the rows where a column is cleared by row top: the first r of them. -/
def clrR (D : FD) (R : Nat → Nat → Nat) (top col r : Nat) : Nat → Nat → Nat := fun i => if i = top then clrP D R top col else if i < r then padd D (R i) (pscale D (D.ng (R i col)) (clrP D R top col)) else R i

set_option maxHeartbeats 8000000 in
set_option maxRecDepth 100000 in
theorem clearColumn_any {F T B G mc m n top col : Nat} {D : FD} (hD : D ∈ fieldsL) {g : Nat → Value} {w : World} (hat : FAt F T D g w) (hF : F < B) (hT : T < B) {R : Nat → Nat → Nat} {h : Nat → Nat} (hM : Mx B G mc m n R h w) (hm : m ≤ 1000) (hn : n ≤ 1000) (hE : ∀ i, i < m → El D (R i)) (ht : top < m) (hc : col < n) (h0 : R top col ≠ 0) :
    Calls Try.prog 133 #[.pointer (some ⟨F, 0, none⟩), .slice (some ⟨G, 0, none⟩) m mc, .int .i64 top, .int .i64 col] w fun e w' => e = .returned (.tuple #[]) ∧ Mx B G mc m n (clrR D R top col m) h w' ∧ TchR h m w w' := by
  have HF : Hid (FAt F T D g w ∧ D ∈ fieldsL ∧ F < B ∧ T < B ∧ Mx B G mc m n R h w ∧ (∀ i, i < m → El D (R i))) := ⟨hat, hD, hF, hT, hM, hE⟩
  have hct := hM.cell top ht
  have hcc := (hM.row top ht).cell col hc
  have htb : (top : Int) < (m : Int) := by omega
  have hcb : (col : Int) < (n : Int) := by omega
  obtain ⟨c, hcv⟩ : ∃ c, c = D.iv (R top col) := ⟨_, rfl⟩
  obtain ⟨x, hx⟩ : ∃ x, x = R top col := ⟨_, rfl⟩
  have HI : Hid (Calls Try.prog 148 #[.pointer (some ⟨F, 0, none⟩), .int .i64 (x : Nat)] w fun e w' => e = .returned (.int .i64 (c : Nat)) ∧ ∃ k, w' = w.drewN k) := by
    show Calls _ _ _ _ _
    rw [hcv, hx]; exact inv_nat' hD hat (hE top ht col) h0
  rw [← hx] at hcc
  have HC : Hid (c = D.iv (R top col) ∧ c < D.q) := ⟨hcv, by rw [hcv]; exact iv_lt hD _⟩
  clear hat hD hF hT hM hE h0 hcv hx
  go_enter Try.func133, Try.ntmps133
  go_wp2_with (go_at_call 148; refine HI.out.mono ?_; rintro e w' ⟨rfl, d, rfl⟩)
  go_loopw [27] (fun i wr => ∃ r : Nat, r ≤ n ∧ i = .int .i64 r ∧ Hid (Row (h top) n (fun k => if k < r then D.mul c (R top k) else R top k) wr ∧ Tch (h top) w wr)) (fun i _ => n - (intOf i).toNat)
  case atStart => exact ⟨0, by omega, rfl, ((HF.out.2.2.2.2.1.row top ht).drewN d).congr (fun k _ => by rw [if_neg (by omega)]), (Tch.refl _ _).drewN d⟩
  case round =>
    clear HI hcc
    obtain ⟨r, hr, rfl, HG⟩ := hrel
    rename World => wA
    have hct' := (HG.out.2.cell (b := G) (o := top) (fun e => HF.out.2.2.2.2.1.ne top ht e.symm)).trans hct
    by_cases hlt : r < n
    · have hib : (r : Int) < (n : Int) := by omega
      obtain ⟨y, hy⟩ : ∃ y, y = R top r := ⟨_, rfl⟩
      have hco : wA.cell? ⟨h top, r, none⟩ = some (.int .i64 (y : Nat)) := by
        have h := HG.out.1.cell r hlt
        rw [if_neg (by omega), ← hy] at h; exact h
      have hfo := HG.out.1.free r
      obtain ⟨z, hz⟩ : ∃ z, z = D.mul c y := ⟨_, rfl⟩
      have hat : FAt F T D g wA := HF.out.1.below (HG.out.2.below (HF.out.2.2.2.2.1.ge top ht)) HF.out.2.2.1 HF.out.2.2.2.1
      have HC1 : Hid (∀ d, Calls Try.prog 95 #[.pointer (some ⟨F, 0, none⟩), .int .i64 (c : Nat), .int .i64 (y : Nat)] (wA.drewN d) fun e w' => e = .returned (.int .i64 (z : Nat)) ∧ ∃ k, w' = (wA.drewN d).drewN k) := by
        intro d; rw [hz]; exact mul_nat HF.out.2.1 (hat.drewN d) HC.out.2 (by rw [hy]; exact HF.out.2.2.2.2.2 top ht r)
      have HV : Hid (∀ k, k < n → (if k < r + 1 then D.mul c (R top k) else R top k) = if k = r then z else if k < r then D.mul c (R top k) else R top k) := fun k _ => by
        rw [hz, hy]
        by_cases e : k = r
        · rw [if_pos e, if_pos (by omega), e]
        · rw [if_neg e]
          by_cases e2 : k < r
          · rw [if_pos e2, if_pos (by omega)]
          · rw [if_neg e2, if_neg (by omega)]
      obtain ⟨gt, hgt⟩ : ∃ gt, gt = h top := ⟨_, rfl⟩
      rw [← hgt] at hct' hct hco hfo HG ⊢
      clear hy hz hat hgt
      go_wp2
      refine quiet_tail 10 (by kernel_rfl) (by kernel_rfl) ?_
      simp only [List.take_succ_cons, List.take_zero, List.drop_succ_cons, List.drop_zero]
      repeat (go_big_quiet_step (first | (go_at_call 95; exact Calls.quiet_of (HC1.out _)) | fail))
      refine wpQuiet_nil ?_
      intro _ hw'
      obtain ⟨nq, hw''⟩ := hw'
      subst hw''
      go_wp2
      go_roundw
      case rel => exact ⟨r + 1, by omega, by go_num, (HG.out.1.drewN nq).store r z (fun k hk => HV.out k hk), (HG.out.2.drewN nq).setCell _ _⟩
      case measure => simp [intOf]; omega
    · have HS : Hid (Mx B G mc m n (clrR D R top col 0) h wA ∧ TchR h m w wA) := by
        refine ⟨?_, HG.out.2.all ht⟩
        have hP : Row (h top) n (clrP D R top col) wA := HG.out.1.congr (fun k hk => by
          show (if k < r then D.mul c (R top k) else R top k) = D.mul (D.iv (R top col)) (R top k)
          rw [if_pos (by omega), HC.out.1])
        refine (HF.out.2.2.2.2.1.write ht HG.out.2 hP).congr (fun i hi j hj => ?_)
        unfold clrR
        by_cases e : i = top
        · rw [if_pos e, if_pos e]
        · rw [if_neg e, if_neg e, if_neg (by omega)]
      clear HG hct'
      go_wp2
      go_loopw [45] (fun i wr => ∃ r : Nat, r ≤ m ∧ i = .int .i64 r ∧ Hid (Mx B G mc m n (clrR D R top col r) h wr ∧ TchR h m w wr)) (fun i _ => m - (intOf i).toNat)
      case atStart => exact ⟨0, by omega, rfl, HS.out⟩
      case round =>
        clear HS
        obtain ⟨r, hr, rfl, HG⟩ := hrel
        rename World => wB
        by_cases hlt : r < m
        · have hib : (r : Int) < (m : Int) := by omega
          have hcr := HG.out.1.cell r hlt
          have hct2 := HG.out.1.cell top ht
          by_cases hrt : r = top
          · have hrz : ((r : Int) != (top : Int)) = false := by rw [hrt]; simp
            have HE : Hid (Mx B G mc m n (clrR D R top col (r + 1)) h wB) := HG.out.1.congr (fun i hi j hj => by
              unfold clrR
              by_cases e : i = top
              · rw [if_pos e, if_pos e]
              · rw [if_neg e, if_neg e]
                by_cases e2 : i < r
                · rw [if_pos e2, if_pos (by omega)]
                · rw [if_neg e2, if_neg (by omega)])
            clear hrt
            go_wp2
            go_roundw
            case rel => exact ⟨r + 1, by omega, by go_num, HE.out, HG.out.2⟩
            case measure => simp [intOf]; omega
          · have hrz : ((r : Int) != (top : Int)) = true := by rw [bne_iff_ne]; omega
            have hrow : Row (h r) n (R r) wB := by
              have h1 := HG.out.1.row r hlt
              unfold clrR at h1
              rw [if_neg hrt, if_neg (by omega)] at h1; exact h1
            have htop : Row (h top) n (clrP D R top col) wB := by
              have h1 := HG.out.1.row top ht
              unfold clrR at h1
              rw [if_pos rfl] at h1; exact h1
            obtain ⟨y, hy⟩ : ∃ y, y = R r col := ⟨_, rfl⟩
            have hyc := hrow.cell col hc
            rw [← hy] at hyc
            have hyq : y < D.q := by rw [hy]; exact HF.out.2.2.2.2.2 r hlt col
            obtain ⟨z, hz⟩ : ∃ z, z = D.ng y := ⟨_, rfl⟩
            have hat : FAt F T D g wB := HF.out.1.below (HG.out.2.below HF.out.2.2.2.2.1.ge) HF.out.2.2.1 HF.out.2.2.2.1
            have HC1 : Hid (∀ d, Calls Try.prog 134 #[.pointer (some ⟨F, 0, none⟩), .int .i64 (y : Nat)] (wB.drewN d) fun e w' => e = .returned (.int .i64 (z : Nat)) ∧ ∃ k, w' = (wB.drewN d).drewN k) := by
              intro d; rw [hz]; exact neg_nat HF.out.2.1 (hat.drewN d) hyq
            have HC2 : Hid (∀ d, Calls Try.prog 149 #[.pointer (some ⟨F, 0, none⟩), .slice (some ⟨h r, 0, none⟩) n n, .int .i64 (z : Nat), .slice (some ⟨h top, 0, none⟩) n n] (wB.drewN d) fun e w' => e = .returned (.tuple #[]) ∧ Mx B G mc m n (clrR D R top col (r + 1)) h w' ∧ TchR h m w w') := fun d => by
              have hPel : El D (clrP D R top col) := el_scale (fld HF.out.2.1) _ _
              refine (addTo_any HF.out.2.1 (hat.drewN d) HF.out.2.2.1 HF.out.2.2.2.1 (HF.out.2.2.2.2.1.ge r hlt) hn (hrow.drewN d) ((htop.drewN d).sl (Nat.le_refl _)) (fun a ha e => ?_) (HF.out.2.2.2.2.2 r hlt) hPel (by rw [hz]; exact ng_lt (fld HF.out.2.1) hyq)).mono ?_
              · cases ha
                exact hrt (HF.out.2.2.2.2.1.inj r hlt top ht e.symm)
              · rintro e w' ⟨rfl, h1, h2⟩
                have h3 : Tch (h r) wB w' := ((Tch.refl _ wB).drewN d).trans h2
                refine ⟨rfl, (HG.out.1.write hlt h3 h1).congr (fun i hi j hj => ?_), HG.out.2.trans (h3.all hlt)⟩
                unfold clrR
                by_cases e : i = r
                · rw [if_pos e, if_neg (by omega), if_pos (by omega), e, hz, hy]
                · rw [if_neg e]
                  by_cases e1 : i = top
                  · rw [if_pos e1, if_pos e1]
                  · rw [if_neg e1, if_neg e1]
                    by_cases e2 : i < r
                    · rw [if_pos e2, if_pos (by omega)]
                    · rw [if_neg e2, if_neg (by omega)]
            clear hy hz hat hrow htop hrt
            go_wp2
            refine quiet_tail 12 (by kernel_rfl) (by kernel_rfl) ?_
            simp only [List.take_succ_cons, List.take_zero, List.drop_succ_cons, List.drop_zero]
            repeat (go_big_quiet_step (first | (go_at_call 134; exact Calls.quiet_of (HC1.out _)) | fail))
            refine wpQuiet_nil ?_
            intro _ hw'
            obtain ⟨nq, hw''⟩ := hw'
            subst hw''
            go_wp2_with (go_at_call 149; refine (HC2.out _).mono ?_; rintro e w' ⟨rfl, hr', ht'⟩)
            go_roundw
            case rel => exact ⟨r + 1, by omega, by go_num, hr', ht'⟩
            case measure => simp [intOf]; omega
        · have e : r = m := by omega
          subst e
          go_wp2
          refine bodyPost_end (results_none rfl _ _ _) rfl ?_
          exact ⟨rfl, HG.out.1, HG.out.2⟩
end Go.Proofs.Ytjkncdmbcckcdaa

/- Plain mathematics: bringing rows to their one form, column by column, as the program does. -/
namespace Go.Proofs.Ytjkncdmbcckcdaa
open Go.RowKit

/-- m rows of n numbers whose first c columns are done: k of the rows begin in columns p, the others are 0 there. -/
structure Rdg (D : FD) (m n c k : Nat) (R : Nat → Nat → Nat) (p : Nat → Nat) : Prop where
  el : ∀ i, i < m → El D (R i)
  bd : ∀ i, i < m → Bd n (R i)
  le : k ≤ m
  lt : ∀ i, i < k → p i < c
  mono : ∀ i j, i < j → j < k → p i < p j
  one : ∀ i, i < k → R i (p i) = 1
  zero : ∀ i j, i < m → j < k → i ≠ j → R i (p j) = 0
  lead : ∀ i c', i < k → c' < p i → R i c' = 0
  rest : ∀ i c', k ≤ i → i < m → c' < c → R i c' = 0
theorem rdg_start {D : FD} {m n : Nat} {R : Nat → Nat → Nat} (he : ∀ i, i < m → El D (R i)) (hb : ∀ i, i < m → Bd n (R i)) (p : Nat → Nat) : Rdg D m n 0 0 R p :=
  ⟨he, hb, Nat.zero_le _, fun i hi => by omega, fun i j _ hj => by omega, fun i hi => by omega, fun i j _ hj => by omega, fun i c' hi => by omega, fun i c' _ _ hc => by omega⟩
theorem rdg_skip {D : FD} {m n c k : Nat} {R : Nat → Nat → Nat} {p : Nat → Nat} (h : Rdg D m n c k R p) (h0 : ∀ i, k ≤ i → i < m → R i c = 0) : Rdg D m n (c + 1) k R p :=
  ⟨h.el, h.bd, h.le, fun i hi => by have := h.lt i hi; omega, h.mono, h.one, h.zero, h.lead, fun i c' hk hi hc => by
    by_cases e : c' = c
    · rw [e]; exact h0 i hk hi
    · exact h.rest i c' hk hi (by omega)⟩
/-- Rows a and b change places. -/
def swpR {α : Type} (R : Nat → α) (a b : Nat) : Nat → α := fun i => if i = a then R b else if i = b then R a else R i
theorem swpR_lo {α : Type} (R : Nat → α) {a b i : Nat} (ha : i ≠ a) (hb : i ≠ b) : swpR R a b i = R i := by unfold swpR; rw [if_neg ha, if_neg hb]
theorem swpR_hi {α : Type} (R : Nat → α) {a b i m : Nat} (hab : a ≤ b) (hb : b < m) (ha : a ≤ i) (hi : i < m) : ∃ i', a ≤ i' ∧ i' < m ∧ swpR R a b i = R i' := by
  unfold swpR
  by_cases e : i = a
  · rw [if_pos e]; exact ⟨b, hab, hb, rfl⟩
  · rw [if_neg e]
    by_cases e2 : i = b
    · rw [if_pos e2]; exact ⟨a, Nat.le_refl _, by omega, rfl⟩
    · rw [if_neg e2]; exact ⟨i, ha, hi, rfl⟩
theorem rdg_swap {D : FD} {m n c k b : Nat} {R : Nat → Nat → Nat} {p : Nat → Nat} (h : Rdg D m n c k R p) (hb : k ≤ b) (hbm : b < m) : Rdg D m n c k (swpR R k b) p := by
  have lo : ∀ i, i < k → swpR R k b i = R i := fun i hi => swpR_lo R (by omega) (by omega)
  have hi' : ∀ i, k ≤ i → i < m → ∃ i', k ≤ i' ∧ i' < m ∧ swpR R k b i = R i' := fun i h1 h2 => swpR_hi R hb hbm h1 h2
  have all : ∀ i, i < m → ∃ i', i' < m ∧ swpR R k b i = R i' ∧ (k ≤ i → k ≤ i') ∧ (i < k → i' = i) := fun i hi => by
    by_cases e : i < k
    · exact ⟨i, hi, lo i e, fun h => by omega, fun _ => rfl⟩
    · obtain ⟨i', a, b, c⟩ := hi' i (by omega) hi
      exact ⟨i', b, c, fun _ => a, fun h => absurd h e⟩
  refine ⟨fun i hi => ?_, fun i hi => ?_, h.le, h.lt, h.mono, fun i hi => by rw [lo i hi]; exact h.one i hi, fun i j hi hj hij => ?_, fun i c' hi hc => by rw [lo i hi]; exact h.lead i c' hi hc, fun i c' hk hi hc => ?_⟩
  · obtain ⟨i', h1, h2, _⟩ := all i hi
    rw [h2]; exact h.el i' h1
  · obtain ⟨i', h1, h2, _⟩ := all i hi
    rw [h2]; exact h.bd i' h1
  · obtain ⟨i', h1, h2, h3, h4⟩ := all i hi
    rw [h2]
    refine h.zero i' j h1 hj (fun e => ?_)
    by_cases e2 : i < k
    · have := h4 e2; omega
    · have := h3 (by omega); omega
  · obtain ⟨i', h1, h2, h3⟩ := hi' i hk hi
    rw [h3]; exact h.rest i' c' h1 h2 hc
theorem rdg_clear {D : FD} (hD : D ∈ fieldsL) {m n c k : Nat} {R : Nat → Nat → Nat} {p : Nat → Nat} (h : Rdg D m n c k R p) (hk : k < m) (h0 : R k c ≠ 0) : Rdg D m n (c + 1) (k + 1) (clrR D R k c m) (fun i => if i = k then c else p i) := by
  have F := fld hD
  have P0 : ∀ c', c' < c → clrP D R k c c' = 0 := fun c' hc => by
    show D.mul _ (R k c') = 0
    rw [h.rest k c' (Nat.le_refl _) hk hc, mul0 F]
  have P1 : clrP D R k c c = 1 := by
    show D.mul (D.iv (R k c)) (R k c) = 1
    rw [F.mul_comm]; exact iv_is hD (h.el k hk c) h0
  have top : clrR D R k c m k = clrP D R k c := by unfold clrR; rw [if_pos rfl]
  have oth : ∀ i, i < m → i ≠ k → clrR D R k c m i = padd D (R i) (pscale D (D.ng (R i c)) (clrP D R k c)) := fun i hi e => by unfold clrR; rw [if_neg e, if_pos hi]
  have keep : ∀ i c', i < m → i ≠ k → c' < c → clrR D R k c m i c' = R i c' := fun i c' hi e hc => by
    rw [oth i hi e]
    show D.ad (R i c') (D.mul _ (clrP D R k c c')) = _
    rw [P0 c' hc, mul0 F, ad_zero F (h.el i hi c')]
  have gone : ∀ i, i < m → i ≠ k → clrR D R k c m i c = 0 := fun i hi e => by
    rw [oth i hi e]
    show D.ad (R i c) (D.mul (D.ng (R i c)) (clrP D R k c c)) = 0
    rw [P1, mul1 F (ng_lt F (h.el i hi c)), ad_ng F (h.el i hi c)]
  have hPel : El D (clrP D R k c) := el_scale F _ _
  refine ⟨fun i hi => ?_, fun i hi => ?_, by omega, fun i hi => ?_, fun i j hij hj => ?_, fun i hi => ?_, fun i j hi hj hij => ?_, fun i c' hi hc => ?_, fun i c' hki hi hc => ?_⟩
  · by_cases e : i = k
    · rw [e, top]; exact hPel
    · rw [oth i hi e]; exact el_add F (h.el i hi) (el_scale F _ _)
  · have hPb : Bd n (clrP D R k c) := fun j hj => by
      show D.mul _ (R k j) = 0
      rw [h.bd k hk j hj, mul0 F]
    by_cases e : i = k
    · rw [e, top]; exact hPb
    · rw [oth i hi e]
      intro j hj
      show D.ad (R i j) (D.mul _ (clrP D R k c j)) = 0
      rw [h.bd i hi j hj, hPb j hj, mul0 F, ad_zero F (zero_lt' F)]
  · show (if i = k then c else p i) < c + 1
    by_cases e : i = k
    · rw [if_pos e]; omega
    · rw [if_neg e]; have := h.lt i (by omega); omega
  · show (if i = k then c else p i) < (if j = k then c else p j)
    rw [if_neg (by omega)]
    by_cases e : j = k
    · rw [if_pos e]; exact h.lt i (by omega)
    · rw [if_neg e]; exact h.mono i j hij (by omega)
  · show clrR D R k c m i (if i = k then c else p i) = 1
    by_cases e : i = k
    · rw [if_pos e, e, top]; exact P1
    · rw [if_neg e, keep i _ (by omega) e (h.lt i (by omega))]; exact h.one i (by omega)
  · show clrR D R k c m i (if j = k then c else p j) = 0
    by_cases e : j = k
    · rw [if_pos e]; exact gone i hi (by omega)
    · rw [if_neg e]
      have hpj := h.lt j (by omega)
      by_cases e2 : i = k
      · rw [e2, top]; exact P0 _ hpj
      · rw [keep i _ hi e2 hpj]; exact h.zero i j hi (by omega) hij
  · by_cases e : i = k
    · have hc' : c' < (if i = k then c else p i) := hc
      rw [if_pos e] at hc'
      rw [e, top]; exact P0 c' hc'
    · have hc' : c' < (if i = k then c else p i) := hc
      rw [if_neg e] at hc'
      have := h.lt i (by omega)
      rw [keep i c' (by omega) e (by omega)]; exact h.lead i c' (by omega) hc'
  · have e : i ≠ k := by omega
    by_cases e2 : c' = c
    · rw [e2]; exact gone i hi e
    · rw [keep i c' hi e (by omega)]; exact h.rest i c' (by omega) hi (by omega)

/-- What rows span hangs on no order. -/
theorem spn_swap {D : FD} (F : Fld D) {m a b : Nat} {R : Nat → Nat → Nat} (ha : a < m) (hb : b < m) (he : ∀ i, i < m → El D (R i)) (v : Nat → Nat) : Spn D (RowsOf m (swpR R a b)) v ↔ Spn D (RowsOf m R) v := by
  constructor
  · refine fun h => spn_le F (fun u hu => ?_) h
    obtain ⟨i, hi, rfl⟩ := hu
    unfold swpR
    by_cases e : i = a
    · rw [if_pos e]; exact spn_mem F (he b hb) ⟨b, hb, rfl⟩
    · rw [if_neg e]
      by_cases e2 : i = b
      · rw [if_pos e2]; exact spn_mem F (he a ha) ⟨a, ha, rfl⟩
      · rw [if_neg e2]; exact spn_mem F (he i hi) ⟨i, hi, rfl⟩
  · refine fun h => spn_le F (fun u hu => ?_) h
    obtain ⟨i, hi, rfl⟩ := hu
    refine spn_mem F (he i hi) ?_
    by_cases e : i = a
    · refine ⟨b, hb, ?_⟩
      unfold swpR
      by_cases e2 : b = a
      · rw [if_pos e2, e, e2]
      · rw [if_neg e2, if_pos rfl, e]
    · by_cases e2 : i = b
      · refine ⟨a, ha, ?_⟩
        unfold swpR
        rw [if_pos rfl, e2]
      · refine ⟨i, hi, ?_⟩
        unfold swpR
        rw [if_neg e, if_neg e2]
theorem spn_clear {D : FD} (hD : D ∈ fieldsL) {m c k : Nat} {R : Nat → Nat → Nat} (hk : k < m) (he : ∀ i, i < m → El D (R i)) (h0 : R k c ≠ 0) (v : Nat → Nat) : Spn D (RowsOf m (clrR D R k c m)) v ↔ Spn D (RowsOf m R) v := by
  have F := fld hD
  have hPel : El D (clrP D R k c) := el_scale F _ _
  constructor
  · refine fun h => spn_le F (fun u hu => ?_) h
    obtain ⟨i, hi, rfl⟩ := hu
    have hP : Spn D (RowsOf m R) (clrP D R k c) := spn_scale F _ (spn_mem F (he k hk) ⟨k, hk, rfl⟩)
    unfold clrR
    by_cases e : i = k
    · rw [if_pos e]; exact hP
    · rw [if_neg e, if_pos hi]; exact spn_add F (spn_mem F (he i hi) ⟨i, hi, rfl⟩) (spn_scale F _ hP)
  · refine fun h => spn_le F (fun u hu => ?_) h
    obtain ⟨i, hi, rfl⟩ := hu
    have hP : Spn D (RowsOf m (clrR D R k c m)) (clrP D R k c) := spn_mem F hPel ⟨k, hk, by unfold clrR; rw [if_pos rfl]⟩
    by_cases e : i = k
    · have h1 : R k = pscale D (R k c) (clrP D R k c) := by
        unfold clrP
        rw [pscale_pscale F, iv_is hD (he k hk c) h0, pscale_one F (he k hk)]
      rw [e, h1]; exact spn_scale F _ hP
    · have h1 : R i = padd D (clrR D R k c m i) (pscale D (R i c) (clrP D R k c)) := by
        funext j
        unfold clrR
        rw [if_neg e, if_pos hi]
        show R i j = D.ad (D.ad (R i j) (D.mul (D.ng (R i c)) (clrP D R k c j))) (D.mul (R i c) (clrP D R k c j))
        rw [F.mul_comm (D.ng (R i c)), mul_ng F (he i hi c), F.mul_comm (clrP D R k c j), ad_assoc F (he i hi j) (ng_lt F (F.mul_lt _ _)) (F.mul_lt _ _), ad_comm F (D.ng _), ad_ng F (F.mul_lt _ _), ad_zero F (he i hi j)]
      rw [h1]
      refine spn_add F (spn_mem F ?_ ⟨i, hi, rfl⟩) (spn_scale F _ hP)
      unfold clrR
      rw [if_neg e, if_pos hi]
      exact el_add F (he i hi) (el_scale F _ _)
/-- All columns are done: the one form. -/
theorem rdg_end {D : FD} (F : Fld D) {m n k : Nat} {R : Nat → Nat → Nat} {p : Nat → Nat} (h : Rdg D m n n k R p) : RRE D n k R p ∧ (∀ i, k ≤ i → i < m → R i = pnil) ∧ ∀ v, Spn D (RowsOf k R) v ↔ Spn D (RowsOf m R) v := by
  have hle := h.le
  have h1 : ∀ i, k ≤ i → i < m → R i = pnil := fun i hk hi => by
    funext c
    by_cases e : c < n
    · exact h.rest i c hk hi e
    · exact h.bd i hi c (by omega)
  refine ⟨⟨fun i hi => h.el i (by omega), fun i hi => h.bd i (by omega), h.lt, h.mono, h.one, fun i j hi hj hij => h.zero i j (by omega) hj hij, h.lead⟩, h1, fun v => ⟨fun hv => spn_le F (fun u hu => ?_) hv, fun hv => spn_le F (fun u hu => ?_) hv⟩⟩
  · obtain ⟨i, hi, rfl⟩ := hu
    exact spn_mem F (h.el i (by omega)) ⟨i, by omega, rfl⟩
  · obtain ⟨i, hi, rfl⟩ := hu
    by_cases e : i < k
    · exact spn_mem F (h.el i hi) ⟨i, e, rfl⟩
    · rw [h1 i (by omega) hi]; exact spn_nil D _
end Go.Proofs.Ytjkncdmbcckcdaa
