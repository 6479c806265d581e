/- Texts of ours, one behind the other: I18 I19 I20 I21 I22 I23 S12 I24. -/
import Derived.Test.YtppggchhkckobaaGreatZI5
import Derived.Test.YtppggchhkckobaaGreatZS11
import Derived.Test.YtppggchhkckobaaGreatZX14
/- Make and Dual, with their checks. -/
namespace Go.Proofs.YtppggchhkckobaaGreat
open Go.RowKit Go.Sort

set_option maxHeartbeats 4000000 in
set_option maxRecDepth 100000 in
theorem cMake_ok {D : FD} (hD : D ∈ fieldsL) {ao : Option Addr} {m n ca : Nat} {A : Nat → Option Addr} {N C : Nat → Nat} {Z : Nat → Nat → Int} {w : World} (ha : CdZ D ao m n A N C Z w)
    (hC : ∀ wx, Below w.heap.size w wx → Calls Tryz.prog 96 #[.agg #[.int .i64 D.q, .int .i64 (n : Nat), .slice ao m ca]] wx fun x w' => x = .returned (.int .i64 0) ∧ Below wx.heap.size wx w') :
    Calls Tryz.prog 57 #[.agg #[.int .i64 D.q, .int .i64 (n : Nat), .slice ao m ca]] w fun x w' => ∃ k R ro rc, x = .returned (.tuple #[.agg #[.int .i64 D.q, .int .i64 (n : Nat), .slice ro k rc], .int .i64 0]) ∧ MV w.heap.size (.slice ro k rc) k n R w' ∧ Red D n m (mzc N Z) k R ∧ Below w.heap.size w w' := by
  obtain ⟨w0, hw0⟩ : ∃ w0, w0 = (w.alloc (.cells #[.int .i64 D.q, .int .i64 (n : Nat), .slice ao m ca] 35)).alloc (.cells #[.int .i64 0, .int .i64 0, .slice none 0 0] 35) := ⟨_, rfl⟩
  have HW : Hid (Below w.heap.size w w0 ∧ RB (w.heap.size + 1) w0 ∧ CB w.heap.size D.q n (.slice ao m ca) w0 ∧ w0.heap.size = w.heap.size + 2) := by
    obtain ⟨h1, h2, h3, h4⟩ := two_boxes D.q n 0 0 (.slice ao m ca) (.slice none 0 0) w
    have h6 := RBt.new #[.int .i64 0, .int .i64 0, .slice none 0 0] (w.alloc (.cells #[.int .i64 D.q, .int .i64 (n : Nat), .slice ao m ca] 35))
    rw [show (w.alloc (.cells #[.int .i64 D.q, .int .i64 (n : Nat), .slice ao m ca] 35)).heap.size = w.heap.size + 1 by simp] at h6
    rw [hw0]; exact ⟨h1, RB.of h3 h6, h2, by simp⟩
  have HA : Hid (D ∈ fieldsL ∧ CdZ D ao m n A N C Z w) := ⟨hD, ha⟩
  have HC : Hid _ := hC
  have hn1 := ha.n1
  have hn := ha.n64
  clear hD ha hC
  go_enter Tryz.func57, Tryz.ntmps57
  go_wp2_with fail
  rw [← hw0]
  clear hw0
  refine (HC.out _ HW.out.1).mono ?_
  rintro x w1 ⟨rfl, hb1⟩
  have H1 : Hid (Below w.heap.size w w1 ∧ RB (w.heap.size + 1) w1 ∧ CB w.heap.size D.q n (.slice ao m ca) w1 ∧ w.heap.size + 2 ≤ w1.heap.size) := ⟨bel_up' HW.out.1 hb1, HW.out.2.1.keep hb1, HW.out.2.2.1.keep hb1, by have := hb1.size; have := HW.out.2.2.2; omega⟩
  clear hb1
  have hcb1 := H1.out.2.2.1
  obtain ⟨a0, a1, a2⟩ := hcb1
  go_wp2_with fail
  refine (oneForm_any HA.out.1 (HA.out.2.below H1.out.1)).mono ?_
  rintro x w2 ⟨k, R, ro, rc, rfl, hmv, hred, hb2⟩
  have H2 : Hid (MV w1.heap.size (.slice ro k rc) k n R w2 ∧ Red D n m (mzc N Z) k R ∧ Below w.heap.size w w2 ∧ RB (w.heap.size + 1) w2) := ⟨hmv, hred, bel_up' H1.out.1 hb2, H1.out.2.1.keep hb2⟩
  clear hmv hred hb2 a0 a1 a2
  obtain ⟨⟨x0, c0⟩, ⟨x1, c1⟩, ⟨x2, c2⟩, f0, f1, f2⟩ := H2.out.2.2.2
  go_wp2
  obtain ⟨w3, hw3⟩ : ∃ w3, w3 = laid w2 (w.heap.size + 1) D.q n (.slice ro k rc) := ⟨_, rfl⟩
  have H3 : Hid (CB (w.heap.size + 1) D.q n (.slice ro k rc) w3 ∧ MV w.heap.size (.slice ro k rc) k n R w3 ∧ Below w.heap.size w w3) := by
    have := H1.out.2.2.2
    rw [hw3]; exact ⟨laid_cb H2.out.2.2.2 _ _ _, (laid_mv H2.out.1 (by omega) _ _ _).mono (by omega), laid_below H2.out.2.2.1 (by omega) _ _ _⟩
  unfold laid at hw3
  rw [← hw3]
  clear hw3 c0 c1 c2 f0 f1 f2
  obtain ⟨c0, c1, c2⟩ := H3.out.1
  refine bodyPost_ret (v := .tuple #[.agg #[.int .i64 D.q, .int .i64 (n : Nat), .slice ro k rc], .int .i64 0]) (by simp [results, Tryz.results57, go_sem, c0, c1, c2]) rfl ?_
  exact ⟨_, R, _, _, rfl, H3.out.2.1, H2.out.2.1, H3.out.2.2⟩
set_option maxHeartbeats 4000000 in
set_option maxRecDepth 100000 in
theorem cDual_ok {D : FD} (hD : D ∈ fieldsL) {ao : Option Addr} {m n ca : Nat} {A : Nat → Option Addr} {N C : Nat → Nat} {Z : Nat → Nat → Int} {w : World} (ha : CdZ D ao m n A N C Z w)
    (hC : ∀ wx, Below w.heap.size w wx → Calls Tryz.prog 96 #[.agg #[.int .i64 D.q, .int .i64 (n : Nat), .slice ao m ca]] wx fun x w' => x = .returned (.int .i64 0) ∧ Below wx.heap.size wx w') :
    Calls Tryz.prog 106 #[.agg #[.int .i64 D.q, .int .i64 (n : Nat), .slice ao m ca]] w fun x w' => ∃ k R ro rc, x = .returned (.tuple #[.agg #[.int .i64 D.q, .int .i64 (n : Nat), .slice ro k rc], .int .i64 0]) ∧ MV w.heap.size (.slice ro k rc) k n R w' ∧ Dul D n m (mzc N Z) k R ∧ Below w.heap.size w w' := by
  obtain ⟨w0, hw0⟩ : ∃ w0, w0 = (w.alloc (.cells #[.int .i64 D.q, .int .i64 (n : Nat), .slice ao m ca] 35)).alloc (.cells #[.int .i64 0, .int .i64 0, .slice none 0 0] 35) := ⟨_, rfl⟩
  have HW : Hid (Below w.heap.size w w0 ∧ RB (w.heap.size + 1) w0 ∧ CB w.heap.size D.q n (.slice ao m ca) w0 ∧ w0.heap.size = w.heap.size + 2) := by
    obtain ⟨h1, h2, h3, h4⟩ := two_boxes D.q n 0 0 (.slice ao m ca) (.slice none 0 0) w
    have h6 := RBt.new #[.int .i64 0, .int .i64 0, .slice none 0 0] (w.alloc (.cells #[.int .i64 D.q, .int .i64 (n : Nat), .slice ao m ca] 35))
    rw [show (w.alloc (.cells #[.int .i64 D.q, .int .i64 (n : Nat), .slice ao m ca] 35)).heap.size = w.heap.size + 1 by simp] at h6
    rw [hw0]; exact ⟨h1, RB.of h3 h6, h2, by simp⟩
  have HA : Hid (D ∈ fieldsL ∧ CdZ D ao m n A N C Z w) := ⟨hD, ha⟩
  have HC : Hid _ := hC
  have hn1 := ha.n1
  have hn := ha.n64
  clear hD ha hC
  go_enter Tryz.func106, Tryz.ntmps106
  go_wp2_with fail
  rw [← hw0]
  clear hw0
  refine (HC.out _ HW.out.1).mono ?_
  rintro x w1 ⟨rfl, hb1⟩
  have H1 : Hid (Below w.heap.size w w1 ∧ RB (w.heap.size + 1) w1 ∧ CB w.heap.size D.q n (.slice ao m ca) w1 ∧ w.heap.size + 2 ≤ w1.heap.size) := ⟨bel_up' HW.out.1 hb1, HW.out.2.1.keep hb1, HW.out.2.2.1.keep hb1, by have := hb1.size; have := HW.out.2.2.2; omega⟩
  clear hb1
  have hcb1 := H1.out.2.2.1
  obtain ⟨a0, a1, a2⟩ := hcb1
  go_wp2_with fail
  refine (dual_any HA.out.1 (HA.out.2.below H1.out.1)).mono ?_
  rintro x w2 ⟨k, R, ro, rc, rfl, hmv, hred, hb2⟩
  have H2 : Hid (MV w1.heap.size (.slice ro k rc) k n R w2 ∧ Dul D n m (mzc N Z) k R ∧ Below w.heap.size w w2 ∧ RB (w.heap.size + 1) w2) := ⟨hmv, hred, bel_up' H1.out.1 hb2, H1.out.2.1.keep hb2⟩
  clear hmv hred hb2 a0 a1 a2
  obtain ⟨⟨x0, c0⟩, ⟨x1, c1⟩, ⟨x2, c2⟩, f0, f1, f2⟩ := H2.out.2.2.2
  go_wp2
  obtain ⟨w3, hw3⟩ : ∃ w3, w3 = laid w2 (w.heap.size + 1) D.q n (.slice ro k rc) := ⟨_, rfl⟩
  have H3 : Hid (CB (w.heap.size + 1) D.q n (.slice ro k rc) w3 ∧ MV w.heap.size (.slice ro k rc) k n R w3 ∧ Below w.heap.size w w3) := by
    have := H1.out.2.2.2
    rw [hw3]; exact ⟨laid_cb H2.out.2.2.2 _ _ _, (laid_mv H2.out.1 (by omega) _ _ _).mono (by omega), laid_below H2.out.2.2.1 (by omega) _ _ _⟩
  unfold laid at hw3
  rw [← hw3]
  clear hw3 c0 c1 c2 f0 f1 f2
  obtain ⟨c0, c1, c2⟩ := H3.out.1
  refine bodyPost_ret (v := .tuple #[.agg #[.int .i64 D.q, .int .i64 (n : Nat), .slice ro k rc], .int .i64 0]) (by simp [results, Tryz.results106, go_sem, c0, c1, c2]) rfl ?_
  exact ⟨_, R, _, _, rfl, H3.out.2.1, H2.out.2.1, H3.out.2.2⟩
end Go.Proofs.YtppggchhkckobaaGreat

/- Weights and distances of words, on both sides. -/
namespace Go.Proofs.YtppggchhkckobaaGreat
open Go.RowKit Go.Sort

set_option maxHeartbeats 4000000 in
set_option maxRecDepth 100000 in
theorem weight_any {ao : Option Addr} {n ca : Nat} {a : Nat → Int} {w : World} (hA : SlZ ao n a w) (hla : LtB ao w.heap.size) (hn : n ≤ 1000) :
    Calls Tryz.prog 70 #[.slice ao n ca] w fun e w' => e = .returned (.int .i64 (ct (fun i => !decide (a i = 0)) n : Nat)) ∧ Below w.heap.size w w' := by
  have HF : Hid (SlZ ao n a w ∧ LtB ao w.heap.size) := ⟨hA, hla⟩
  clear hA hla
  go_enter Tryz.func70, Tryz.ntmps70
  go_wp2
  go_loopw [3, 8] (fun vm vi wr => ∃ (r m : Nat), r ≤ n ∧ m ≤ r ∧ vm = .int .i64 (m : Nat) ∧ vi = .int .i64 r ∧ Hid (m = ct (fun i => !decide (a i = 0)) r ∧ Below w.heap.size w wr)) (fun _ vi _ => n - (intOf vi).toNat)
  case atStart => exact ⟨0, 0, by omega, by omega, rfl, rfl, rfl, Below.refl _ _⟩
  case round =>
    obtain ⟨r, m, hr, hmr, rfl, rfl, HG⟩ := hrel
    rename World => wr
    by_cases hlt : r < n
    · have hib : (r : Int) < (n : Int) := by omega
      obtain ⟨ba, oa, hao, hca⟩ := (HF.out.1.below HG.out.2 HF.out.2) r hlt
      subst hao
      obtain ⟨x, hx⟩ : ∃ x, x = a r := ⟨_, rfl⟩
      rw [← hx] at hca
      by_cases e : x = 0
      · have hz : (x != 0) = false := by rw [e]; simp
        have HV : Hid (m = ct (fun i => !decide (a i = 0)) (r + 1)) := by
          show m = ct (fun i => !decide (a i = 0)) r + if (!decide (a r = 0)) = true then 1 else 0
          rw [← HG.out.1, decide_eq_true (by rw [← hx]; exact e)]; rfl
        clear e hx
        go_wp2
        go_roundw
        case rel => exact ⟨r + 1, m, by omega, by omega, rfl, by go_num, HV.out, by first | exact HG.out.2 | exact HG.out.2.drew | exact below_drewN2 HG.out.2 _⟩
        case measure => simp [intOf]; omega
      · have hz : (x != 0) = true := by rw [bne_iff_ne]; exact e
        have HV : Hid (m + 1 = ct (fun i => !decide (a i = 0)) (r + 1)) := by
          show m + 1 = ct (fun i => !decide (a i = 0)) r + if (!decide (a r = 0)) = true then 1 else 0
          rw [← HG.out.1, decide_eq_false (by rw [← hx]; exact e)]; rfl
        clear e hx
        go_wp2
        go_roundw
        case rel => exact ⟨r + 1, m + 1, by omega, by omega, by go_num, by go_num, HV.out, by first | exact HG.out.2 | exact HG.out.2.drew | exact below_drewN2 HG.out.2 _⟩
        case measure => simp [intOf]; omega
    · have hib : ¬ (r : Int) < (n : Int) := by omega
      have hre : n = r := by omega
      subst hre
      go_wp2
      go_ret
      exact ⟨by rw [HG.out.1]; rfl, by first | exact HG.out.2 | exact HG.out.2.drew | exact below_drewN2 HG.out.2 _⟩
end Go.Proofs.YtppggchhkckobaaGreat

/- Numbers of a word: may they be? The program's numbers. -/
namespace Go.Proofs.YtppggchhkckobaaGreat
open Go.RowKit Go.Sort

/-- What is said of m numbers that are to be so many elements. -/
def FD.nchk (D : FD) (m : Nat) (y : Nat → Int) (many : Int) : Int := if ((m : Nat) : Int) ≠ many then 6 else if anyB (fun j => !D.has (y j)) m = true then 2 else 0
theorem nchk_ok {D : FD} {m : Nat} {y : Nat → Int} {many : Int} (h : D.nchk m y many = 0) : ((m : Nat) : Int) = many ∧ ∀ j, j < m → D.has (y j) = true := by
  unfold FD.nchk at h
  split at h
  · omega
  · split at h
    · omega
    · rename_i h1 h2
      refine ⟨by omega, fun j hj => ?_⟩
      cases e : D.has (y j) with
      | true => rfl
      | false => exact absurd (anyB_yes (p := fun j => !D.has (y j)) (by show (!D.has (y j)) = true; rw [e]; rfl) m hj) h2
theorem enters_cnum : ∀ args w, (callFunc 102 args).run Tryz.prog w = .ok (.enter 102 args) w :=
  enters_of Tryz.func102 (by kernel_rfl) rfl

set_option maxHeartbeats 2000000 in
set_option maxRecDepth 100000 in
theorem cnum1_any {D : FD} {F T B : Nat} {g : Nat → Value} {w : World} (h : FAt F T D g w) (hc : w.cell? ⟨B, 0, none⟩ = some (.pointer (some ⟨F, 0, none⟩))) (x : Int) :
    Calls Tryz.prog 102 #[.int .i64 x, .pointer (some ⟨B, 0, none⟩)] w fun e w' => e = .returned (.bool (!D.has x)) ∧ w' = w := by
  have HS : Hid (FAt F T D g w) := h
  clear h
  obtain ⟨y, hy⟩ : ∃ y, y = D.has x := ⟨_, rfl⟩
  have HC : Hid (Calls Tryz.prog 80 #[.pointer (some ⟨F, 0, none⟩), .int .i64 x] w fun e w' => e = .returned (.bool y) ∧ w' = w) := by
    show Calls _ _ _ _ _
    rw [hy]; exact has_any HS.out x
  rw [← hy]
  clear hy
  go_enter Tryz.func102, Tryz.ntmps102
  go_wp2_with (go_at_call 80; refine HC.out.mono ?_; rintro e w' ⟨rfl, hw⟩; have hw := hw.symm; subst hw)
  go_ret
  exact ⟨rfl, rfl⟩

def NumP (D : FD) (ab : Bool) (B : Nat) (e : Ending) (w' : World) : Prop := if ab = true then e = .returned (.tuple #[.pointer none, .int .i64 2]) else ∃ F T g, e = .returned (.tuple #[.pointer (some ⟨F, 0, none⟩), .int .i64 0]) ∧ FAt F T D g w' ∧ B ≤ F ∧ B ≤ T
set_option maxHeartbeats 4000000 in
set_option maxRecDepth 100000 in
theorem cnum_any {D : FD} (hD : D ∈ fieldsL) {yo : Option Addr} {m cy : Nat} {y : Nat → Int} {w : World} (hY : Arg yo m cy y w) :
    Calls Tryz.prog 67 #[.int .i64 D.q, .slice yo m cy, .int .i64 (m : Nat)] w fun e w' => Below w.heap.size w w' ∧ NumP D (anyB (fun j => !D.has (y j)) m) w.heap.size e w' := by
  have HF : Hid (D ∈ fieldsL ∧ Arg yo m cy y w) := ⟨hD, hY⟩
  have hm6 := hY.few
  obtain ⟨ab, hab⟩ : ∃ ab, ab = anyB (fun j => !D.has (y j)) m := ⟨_, rfl⟩
  rw [← hab]
  clear hD hY
  go_enter Tryz.func67, Tryz.ntmps67
  go_wp2_with fail
  refine (new_any HF.out.1 w).mono ?_
  rintro e w2 ⟨F, T, g, rfl, hat, hF, hT, hb2⟩
  have hal : Below w2.heap.size w2 (w2.alloc (.cells #[.pointer (some ⟨F, 0, none⟩)] 65)) := (Below.refl _ _).alloc (Nat.le_refl _) _
  have H2 : Hid (FAt F T D g (w2.alloc (.cells #[.pointer (some ⟨F, 0, none⟩)] 65)) ∧ Below w.heap.size w (w2.alloc (.cells #[.pointer (some ⟨F, 0, none⟩)] 65)) ∧ w.heap.size ≤ F ∧ w.heap.size ≤ T) := ⟨hat.below hal hat.ltF hat.ltT, bel_up' hb2 hal, hF, hT⟩
  have HCf : Hid (∀ cap, Calls Tryz.prog 78 #[.slice yo m cap, .func (.func 102) #[] #[.pointer (some ⟨w2.heap.size, 0, none⟩)]] (w2.alloc (.cells #[.pointer (some ⟨F, 0, none⟩)] 65)) fun e w' => e = .returned (.bool ab) ∧ w' = w2.alloc (.cells #[.pointer (some ⟨F, 0, none⟩)] 65)) := fun cap => by
    rw [hab]
    refine containsFn_any enters_cnum (HF.out.2.below H2.out.2.1).sl hm6 (fun j _ => ?_)
    have e : (#[Value.int .i64 (y j)] ++ #[Value.pointer (some ⟨w2.heap.size, 0, none⟩)] : Array Value) = #[.int .i64 (y j), .pointer (some ⟨w2.heap.size, 0, none⟩)] := rfl
    rw [e]
    exact cnum1_any H2.out.1 (by simp) (y j)
  clear hat hF hT hb2 hal hab
  cases ab
  · go_wp2_with (go_at_call 78; refine (HCf.out _).mono ?_; rintro e w' ⟨rfl, rfl⟩)
    go_ret2
    refine ⟨H2.out.2.1, ?_⟩
    unfold NumP
    rw [if_neg (by simp)]
    exact ⟨F, T, g, by simp [go_sem], H2.out.1, H2.out.2.2.1, H2.out.2.2.2⟩
  · go_wp2_with (go_at_call 78; refine (HCf.out _).mono ?_; rintro e w' ⟨rfl, rfl⟩)
    go_ret2
    refine ⟨H2.out.2.1, ?_⟩
    unfold NumP
    rw [if_pos rfl]
    simp [go_sem]

theorem cnum_ok {D : FD} (hD : D ∈ fieldsL) {yo : Option Addr} {m cy : Nat} {y : Nat → Int} {many : Int} {w : World} (hY : Arg yo m cy y w) (h : D.nchk m y many = 0) :
    Calls Tryz.prog 67 #[.int .i64 D.q, .slice yo m cy, .int .i64 many] w fun e w' => ∃ F T g, e = .returned (.tuple #[.pointer (some ⟨F, 0, none⟩), .int .i64 0]) ∧ FAt F T D g w' ∧ w.heap.size ≤ F ∧ w.heap.size ≤ T ∧ Below w.heap.size w w' := by
  unfold FD.nchk at h
  by_cases e : ((m : Nat) : Int) = many
  · rw [if_neg (by omega)] at h
    subst e
    by_cases ha : anyB (fun j => !D.has (y j)) m = true
    · rw [if_pos ha] at h; omega
    · refine (cnum_any hD hY).mono ?_
      rintro x w' ⟨hb, hx⟩
      unfold NumP at hx
      rw [if_neg ha] at hx
      obtain ⟨F, T, g, a, b, c, d⟩ := hx
      exact ⟨F, T, g, a, b, c, d, hb⟩
  · rw [if_pos e] at h; omega
end Go.Proofs.YtppggchhkckobaaGreat

/- Encode: the sum of the rows of the one form. -/
namespace Go.Proofs.YtppggchhkckobaaGreat
open Go.RowKit Go.Sort

/-- The sum of the first rows, each so many times. -/
def enw (D : FD) (R : Nat → Nat → Nat) (z : Nat → Nat) : Nat → Nat → Nat
  | 0 => pnil
  | k + 1 => padd D (enw D R z k) (pscale D (z k) (R k))
theorem enw_el {D : FD} (F : Fld D) {R : Nat → Nat → Nat} {z : Nat → Nat} : ∀ k, El D (enw D R z k)
  | 0 => el_nil F
  | k + 1 => el_add F (enw_el F k) (el_scale F _ _)
/-- A list of the call's own that is told. -/
def LstP (B n : Nat) (v : Nat → Nat) (x : Ending) (w' : World) : Prop := ∃ gr c, x = .returned (.tuple #[.slice (some ⟨gr, 0, none⟩) n c, .int .i64 0]) ∧ Row gr n v w' ∧ B ≤ gr ∧ n ≤ c ∧ c ≤ 9223372036854775807
theorem rl_lt {ao : Option Addr} {n : Nat} {a : Nat → Nat} {w : World} (h : Sl ao n a w) (hn : 1 ≤ n) : LtB ao w.heap.size := fun x hx => by
  obtain ⟨b, off, e, hc⟩ := h 0 (by omega)
  rw [hx] at e
  cases e
  exact cell_lt hc

theorem zc_lt {D : FD} {my : Nat} {y : Nat → Int} {many : Int} (h : D.nchk my y many = 0) {i : Nat} (hi : i < my) : zc my y i < D.q := by
  obtain ⟨s, e, hs⟩ := has_nat ((nchk_ok h).2 i hi)
  unfold zc; rw [if_pos hi, e, Int.toNat_natCast]; exact hs
end Go.Proofs.YtppggchhkckobaaGreat

/- Encoded: the reference's sum of rows. -/
namespace Go.Proofs.YtppggchhkckobaaGreat
open Go.RowKit Go.Sort

theorem enw_zero {D : FD} (F : Fld D) {R : Nat → Nat → Nat} {z : Nat → Nat} {k : Nat} (h : z k = 0) : enw D R z (k + 1) = enw D R z k := by
  funext c
  show D.ad (enw D R z k c) (D.mul (z k) (R k c)) = _
  rw [h, zero_mul' D, ad_zero F (enw_el F k c)]

end Go.Proofs.YtppggchhkckobaaGreat

/- Encode: where there is nothing to tell. -/
namespace Go.Proofs.YtppggchhkckobaaGreat
open Go.RowKit Go.Sort

end Go.Proofs.YtppggchhkckobaaGreat

/- Plain mathematics: products of rows; what makes rows 0. No Go text here. -/
namespace Go.Proofs.YtppggchhkckobaaGreat

/-- The sum of the products of the first numbers of two lists. -/
def dot (D : FD) (a b : Nat → Nat) : Nat → Nat
  | 0 => 0
  | j + 1 => D.ad (dot D a b j) (D.mul (a j) (b j))
theorem dot_lt {D : FD} (F : Fld D) (a b : Nat → Nat) : ∀ j, dot D a b j < D.q
  | 0 => zero_lt' F
  | j + 1 => ad_lt F (dot_lt F a b j) (F.mul_lt _ _)
theorem dot_comm {D : FD} (F : Fld D) (a b : Nat → Nat) : ∀ n, dot D a b n = dot D b a n
  | 0 => rfl
  | n + 1 => by
    show D.ad (dot D a b n) (D.mul (a n) (b n)) = D.ad (dot D b a n) (D.mul (b n) (a n))
    rw [dot_comm F a b n, F.mul_comm (a n)]
theorem dot_nil {D : FD} (F : Fld D) (v : Nat → Nat) : ∀ n, dot D pnil v n = 0
  | 0 => rfl
  | n + 1 => by
    show D.ad (dot D pnil v n) (D.mul 0 (v n)) = 0
    rw [dot_nil F v n, zmul F, ad_zero F (zero_lt' F)]
theorem dot_add {D : FD} (F : Fld D) {a b : Nat → Nat} (ha : El D a) (hb : El D b) (v : Nat → Nat) : ∀ n, dot D (padd D a b) v n = D.ad (dot D a v n) (dot D b v n)
  | 0 => (ad_zero F (zero_lt' F)).symm
  | n + 1 => by
    show D.ad (dot D (padd D a b) v n) (D.mul (D.ad (a n) (b n)) (v n)) = D.ad (D.ad (dot D a v n) (D.mul (a n) (v n))) (D.ad (dot D b v n) (D.mul (b n) (v n)))
    rw [dot_add F ha hb v n, ad_mul F (ha n) (hb n), ad4 F (dot_lt F _ _ _) (dot_lt F _ _ _) (F.mul_lt _ _) (F.mul_lt _ _)]
theorem dot_scale {D : FD} (F : Fld D) (s : Nat) (a v : Nat → Nat) : ∀ n, dot D (pscale D s a) v n = D.mul s (dot D a v n)
  | 0 => (mul0 F s).symm
  | n + 1 => by
    show D.ad (dot D (pscale D s a) v n) (D.mul (D.mul s (a n)) (v n)) = D.mul s (D.ad (dot D a v n) (D.mul (a n) (v n)))
    rw [dot_scale F s a v n, mul_ad F (dot_lt F _ _ _) (F.mul_lt _ _), F.mul_assoc]
/-- What makes rows 0 makes all 0 that they span. -/
theorem dot_spn {D : FD} (F : Fld D) {P : (Nat → Nat) → Prop} {u x : Nat → Nat} {n : Nat} (h : Spn D P u) (hP : ∀ v, P v → dot D v x n = 0) : dot D u x n = 0 := by
  obtain ⟨l, hl, rfl⟩ := h
  induction l with
  | nil => exact dot_nil F x n
  | cons y l ih =>
    show dot D (padd D (pscale D y.1 y.2) (lsum D l)) x n = 0
    rw [dot_add F (el_scale F _ _) (lsum_el F l), dot_scale F, hP _ (hl y (List.mem_cons_self ..)), mul0 F, ih (fun z hz => hl z (List.mem_cons_of_mem _ hz)), ad_zero F (zero_lt' F)]
theorem dot_congr {D : FD} {a a' b b' : Nat → Nat} : ∀ n, (∀ j, j < n → a j = a' j ∧ b j = b' j) → dot D a b n = dot D a' b' n
  | 0, _ => rfl
  | n + 1, h => by
    show D.ad (dot D a b n) (D.mul (a n) (b n)) = D.ad (dot D a' b' n) (D.mul (a' n) (b' n))
    rw [dot_congr n (fun j hj => h j (by omega)), (h n (by omega)).1, (h n (by omega)).2]
/-- A number put where 0 was. -/
theorem dot_put {D : FD} (F : Fld D) {a b : Nat → Nat} {j v : Nat} (hb : b j = 0) : ∀ n, j < n → dot D a (fun t => if t = j then v else b t) n = D.ad (dot D a b n) (D.mul (a j) v)
  | 0, h => absurd h (by omega)
  | n + 1, h => by
    show D.ad (dot D a (fun t => if t = j then v else b t) n) (D.mul (a n) (if n = j then v else b n)) = D.ad (D.ad (dot D a b n) (D.mul (a n) (b n))) (D.mul (a j) v)
    by_cases e : n = j
    · subst e
      rw [if_pos rfl, hb, mul0 F, ad_zero F (dot_lt F _ _ _), dot_congr (a' := a) (b' := b) n (fun t ht => ⟨rfl, if_neg (by omega)⟩)]
    · rw [if_neg e, dot_put F hb n (by omega), ad_assoc F (dot_lt F _ _ _) (F.mul_lt _ _) (F.mul_lt _ _), ad_comm F (D.mul (a j) v), ← ad_assoc F (dot_lt F _ _ _) (F.mul_lt _ _) (F.mul_lt _ _)]
theorem dot_unit {D : FD} (F : Fld D) {a : Nat → Nat} {c n : Nat} (ha : a c < D.q) (hc : c < n) : dot D a (fun t => if t = c then 1 else 0) n = a c := by
  have h := dot_put F (a := a) (b := pnil) (j := c) (v := 1) rfl n hc
  rw [mul1 F ha, dot_comm F a pnil, dot_nil F, zero_ad F ha] at h
  exact h
end Go.Proofs.YtppggchhkckobaaGreat

/- WordMay and Dot of the reference. -/
namespace Go.Proofs.YtppggchhkckobaaGreat
open Go.RowKit Go.Sort

end Go.Proofs.YtppggchhkckobaaGreat
