/- Texts of ours, one behind the other: I19 I20 I21. -/
import Derived.Test.YtbpeahhhkcljeaaZI14
import Derived.Test.YtbpeahhhkcljeaaZT10
/- Weights and distances of words, on both sides. -/
namespace Go.Proofs.Ytbpeahhhkcljeaa
open Go.RowKit Go.Sort

set_option maxHeartbeats 4000000 in
set_option maxRecDepth 100000 in
theorem weight_any {ao : Option Addr} {n ca : Nat} {a : Nat → Int} {w : World} (hA : SlZ ao n a w) (hla : LtB ao w.heap.size) (hn : n ≤ 1000) :
    Calls Try.prog 28 #[.slice ao n ca] w fun e w' => e = .returned (.int .i64 (ct (fun i => !decide (a i = 0)) n : Nat)) ∧ Below w.heap.size w w' := by
  have HF : Hid (SlZ ao n a w ∧ LtB ao w.heap.size) := ⟨hA, hla⟩
  clear hA hla
  go_enter Try.func28, Try.ntmps28
  go_wp2
  go_loopw [3, 8] (fun vm vi wr => ∃ (r m : Nat), r ≤ n ∧ m ≤ r ∧ vm = .int .i64 (m : Nat) ∧ vi = .int .i64 r ∧ Hid (m = ct (fun i => !decide (a i = 0)) r ∧ Below w.heap.size w wr)) (fun _ vi _ => n - (intOf vi).toNat)
  case atStart => exact ⟨0, 0, by omega, by omega, rfl, rfl, rfl, Below.refl _ _⟩
  case round =>
    obtain ⟨r, m, hr, hmr, rfl, rfl, HG⟩ := hrel
    rename World => wr
    by_cases hlt : r < n
    · have hib : (r : Int) < (n : Int) := by omega
      obtain ⟨ba, oa, hao, hca⟩ := (HF.out.1.below HG.out.2 HF.out.2) r hlt
      subst hao
      obtain ⟨x, hx⟩ : ∃ x, x = a r := ⟨_, rfl⟩
      rw [← hx] at hca
      by_cases e : x = 0
      · have hz : (x != 0) = false := by rw [e]; simp
        have HV : Hid (m = ct (fun i => !decide (a i = 0)) (r + 1)) := by
          show m = ct (fun i => !decide (a i = 0)) r + if (!decide (a r = 0)) = true then 1 else 0
          rw [← HG.out.1, decide_eq_true (by rw [← hx]; exact e)]; rfl
        clear e hx
        go_wp2
        go_roundw
        case rel => exact ⟨r + 1, m, by omega, by omega, rfl, by go_num, HV.out, by first | exact HG.out.2 | exact HG.out.2.drew | exact below_drewN2 HG.out.2 _⟩
        case measure => simp [intOf]; omega
      · have hz : (x != 0) = true := by rw [bne_iff_ne]; exact e
        have HV : Hid (m + 1 = ct (fun i => !decide (a i = 0)) (r + 1)) := by
          show m + 1 = ct (fun i => !decide (a i = 0)) r + if (!decide (a r = 0)) = true then 1 else 0
          rw [← HG.out.1, decide_eq_false (by rw [← hx]; exact e)]; rfl
        clear e hx
        go_wp2
        go_roundw
        case rel => exact ⟨r + 1, m + 1, by omega, by omega, by go_num, by go_num, HV.out, by first | exact HG.out.2 | exact HG.out.2.drew | exact below_drewN2 HG.out.2 _⟩
        case measure => simp [intOf]; omega
    · have hib : ¬ (r : Int) < (n : Int) := by omega
      have hre : n = r := by omega
      subst hre
      go_wp2
      go_ret
      exact ⟨by rw [HG.out.1]; rfl, by first | exact HG.out.2 | exact HG.out.2.drew | exact below_drewN2 HG.out.2 _⟩
set_option maxHeartbeats 4000000 in
set_option maxRecDepth 100000 in
theorem rweight_any {ao : Option Addr} {n ca : Nat} {a : Nat → Int} {w : World} (hA : SlZ ao n a w) (hla : LtB ao w.heap.size) (hn : n ≤ 1000) :
    Calls Try.prog 29 #[.slice ao n ca] w fun e w' => e = .returned (.int .i64 (ct (fun i => !decide (a i = 0)) n : Nat)) ∧ Below w.heap.size w w' := by
  have HF : Hid (SlZ ao n a w ∧ LtB ao w.heap.size) := ⟨hA, hla⟩
  clear hA hla
  go_enter Try.func29, Try.ntmps29
  go_wp2
  go_loopw [3, 4] (fun vm vi wr => ∃ (r m : Nat), r ≤ n ∧ m ≤ r ∧ vm = .int .i64 (m : Nat) ∧ vi = .int .i64 r ∧ Hid (m = ct (fun i => !decide (a i = 0)) r ∧ Below w.heap.size w wr)) (fun _ vi _ => n - (intOf vi).toNat)
  case atStart => exact ⟨0, 0, by omega, by omega, rfl, rfl, rfl, Below.refl _ _⟩
  case round =>
    obtain ⟨r, m, hr, hmr, rfl, rfl, HG⟩ := hrel
    rename World => wr
    by_cases hlt : r < n
    · have hib : (r : Int) < (n : Int) := by omega
      obtain ⟨ba, oa, hao, hca⟩ := (HF.out.1.below HG.out.2 HF.out.2) r hlt
      subst hao
      obtain ⟨x, hx⟩ : ∃ x, x = a r := ⟨_, rfl⟩
      rw [← hx] at hca
      by_cases e : x = 0
      · have hz : (x != 0) = false := by rw [e]; simp
        have HV : Hid (m = ct (fun i => !decide (a i = 0)) (r + 1)) := by
          show m = ct (fun i => !decide (a i = 0)) r + if (!decide (a r = 0)) = true then 1 else 0
          rw [← HG.out.1, decide_eq_true (by rw [← hx]; exact e)]; rfl
        clear e hx
        go_wp2
        go_roundw
        case rel => exact ⟨r + 1, m, by omega, by omega, rfl, by go_num, HV.out, by first | exact HG.out.2 | exact HG.out.2.drew | exact below_drewN2 HG.out.2 _⟩
        case measure => simp [intOf]; omega
      · have hz : (x != 0) = true := by rw [bne_iff_ne]; exact e
        have HV : Hid (m + 1 = ct (fun i => !decide (a i = 0)) (r + 1)) := by
          show m + 1 = ct (fun i => !decide (a i = 0)) r + if (!decide (a r = 0)) = true then 1 else 0
          rw [← HG.out.1, decide_eq_false (by rw [← hx]; exact e)]; rfl
        clear e hx
        go_wp2
        go_roundw
        case rel => exact ⟨r + 1, m + 1, by omega, by omega, by go_num, by go_num, HV.out, by first | exact HG.out.2 | exact HG.out.2.drew | exact below_drewN2 HG.out.2 _⟩
        case measure => simp [intOf]; omega
    · have hib : ¬ (r : Int) < (n : Int) := by omega
      have hre : n = r := by omega
      subst hre
      go_wp2
      go_ret
      exact ⟨by rw [HG.out.1]; rfl, by first | exact HG.out.2 | exact HG.out.2.drew | exact below_drewN2 HG.out.2 _⟩
set_option maxHeartbeats 4000000 in
set_option maxRecDepth 100000 in
theorem capart_any {ao bo : Option Addr} {n ca cb : Nat} {a b : Nat → Int} {w : World} (hA : SlZ ao n a w) (hB : SlZ bo n b w) (hla : LtB ao w.heap.size) (hlb : LtB bo w.heap.size) (hn : n ≤ 1000) :
    Calls Try.prog 30 #[.slice ao n ca, .slice bo n cb] w fun e w' => e = .returned (.int .i64 (ct (fun i => !decide (a i = b i)) n : Nat)) ∧ Below w.heap.size w w' := by
  have HF : Hid (SlZ ao n a w ∧ SlZ bo n b w ∧ LtB ao w.heap.size ∧ LtB bo w.heap.size) := ⟨hA, hB, hla, hlb⟩
  clear hA hB hla hlb
  go_enter Try.func30, Try.ntmps30
  go_wp2
  go_loopw [5, 15] (fun vm vi wr => ∃ (r m : Nat), r ≤ n ∧ m ≤ r ∧ vm = .int .i64 (m : Nat) ∧ vi = .int .i64 r ∧ Hid (m = ct (fun i => !decide (a i = b i)) r ∧ Below w.heap.size w wr)) (fun _ vi _ => n - (intOf vi).toNat)
  case atStart => exact ⟨0, 0, by omega, by omega, rfl, rfl, rfl, Below.refl _ _⟩
  case round =>
    obtain ⟨r, m, hr, hmr, rfl, rfl, HG⟩ := hrel
    rename World => wr
    by_cases hlt : r < n
    · have hib : (r : Int) < (n : Int) := by omega
      obtain ⟨ba, oa, hao, hca⟩ := (HF.out.1.below HG.out.2 HF.out.2.2.1) r hlt
      subst hao
      obtain ⟨bb, ob, hbo, hcb⟩ := (HF.out.2.1.below HG.out.2 HF.out.2.2.2) r hlt
      subst hbo
      obtain ⟨x, hx⟩ : ∃ x, x = a r := ⟨_, rfl⟩
      obtain ⟨y, hy⟩ : ∃ y, y = b r := ⟨_, rfl⟩
      rw [← hx] at hca
      rw [← hy] at hcb
      by_cases e : x = y
      · have hz : (x != y) = false := by rw [e]; simp
        have HV : Hid (m = ct (fun i => !decide (a i = b i)) (r + 1)) := by
          show m = ct (fun i => !decide (a i = b i)) r + if (!decide (a r = b r)) = true then 1 else 0
          rw [← HG.out.1, decide_eq_true (by rw [← hx, ← hy]; exact e)]; rfl
        clear e hx hy
        go_wp2
        go_roundw
        case rel => exact ⟨r + 1, m, by omega, by omega, rfl, by go_num, HV.out, by first | exact HG.out.2 | exact HG.out.2.drew | exact below_drewN2 HG.out.2 _⟩
        case measure => simp [intOf]; omega
      · have hz : (x != y) = true := by rw [bne_iff_ne]; exact e
        have HV : Hid (m + 1 = ct (fun i => !decide (a i = b i)) (r + 1)) := by
          show m + 1 = ct (fun i => !decide (a i = b i)) r + if (!decide (a r = b r)) = true then 1 else 0
          rw [← HG.out.1, decide_eq_false (by rw [← hx, ← hy]; exact e)]; rfl
        clear e hx hy
        go_wp2
        go_roundw
        case rel => exact ⟨r + 1, m + 1, by omega, by omega, by go_num, by go_num, HV.out, by first | exact HG.out.2 | exact HG.out.2.drew | exact below_drewN2 HG.out.2 _⟩
        case measure => simp [intOf]; omega
    · have hib : ¬ (r : Int) < (n : Int) := by omega
      have hre : n = r := by omega
      subst hre
      go_wp2
      go_ret
      exact ⟨by rw [HG.out.1]; rfl, by first | exact HG.out.2 | exact HG.out.2.drew | exact below_drewN2 HG.out.2 _⟩
set_option maxHeartbeats 4000000 in
set_option maxRecDepth 100000 in
theorem rapart_any {ao bo : Option Addr} {n ca cb : Nat} {a b : Nat → Int} {w : World} (hA : SlZ ao n a w) (hB : SlZ bo n b w) (hla : LtB ao w.heap.size) (hlb : LtB bo w.heap.size) (hn : n ≤ 1000) :
    Calls Try.prog 31 #[.slice ao n ca, .slice bo n cb] w fun e w' => e = .returned (.int .i64 (ct (fun i => !decide (a i = b i)) n : Nat)) ∧ Below w.heap.size w w' := by
  have HF : Hid (SlZ ao n a w ∧ SlZ bo n b w ∧ LtB ao w.heap.size ∧ LtB bo w.heap.size) := ⟨hA, hB, hla, hlb⟩
  clear hA hB hla hlb
  go_enter Try.func31, Try.ntmps31
  go_wp2
  go_loopw [5, 6] (fun vm vi wr => ∃ (r m : Nat), r ≤ n ∧ m ≤ r ∧ vm = .int .i64 (m : Nat) ∧ vi = .int .i64 r ∧ Hid (m = ct (fun i => !decide (a i = b i)) r ∧ Below w.heap.size w wr)) (fun _ vi _ => n - (intOf vi).toNat)
  case atStart => exact ⟨0, 0, by omega, by omega, rfl, rfl, rfl, Below.refl _ _⟩
  case round =>
    obtain ⟨r, m, hr, hmr, rfl, rfl, HG⟩ := hrel
    rename World => wr
    by_cases hlt : r < n
    · have hib : (r : Int) < (n : Int) := by omega
      obtain ⟨ba, oa, hao, hca⟩ := (HF.out.1.below HG.out.2 HF.out.2.2.1) r hlt
      subst hao
      obtain ⟨bb, ob, hbo, hcb⟩ := (HF.out.2.1.below HG.out.2 HF.out.2.2.2) r hlt
      subst hbo
      obtain ⟨x, hx⟩ : ∃ x, x = a r := ⟨_, rfl⟩
      obtain ⟨y, hy⟩ : ∃ y, y = b r := ⟨_, rfl⟩
      rw [← hx] at hca
      rw [← hy] at hcb
      by_cases e : x = y
      · have hz : (x != y) = false := by rw [e]; simp
        have HV : Hid (m = ct (fun i => !decide (a i = b i)) (r + 1)) := by
          show m = ct (fun i => !decide (a i = b i)) r + if (!decide (a r = b r)) = true then 1 else 0
          rw [← HG.out.1, decide_eq_true (by rw [← hx, ← hy]; exact e)]; rfl
        clear e hx hy
        go_wp2
        go_quiet (fail)
        go_wp2
        go_roundw
        case rel => exact ⟨r + 1, m, by omega, by omega, rfl, by go_num, HV.out, by first | exact HG.out.2 | exact HG.out.2.drew | exact below_drewN2 HG.out.2 _⟩
        case measure => simp [intOf]; omega
      · have hz : (x != y) = true := by rw [bne_iff_ne]; exact e
        have HV : Hid (m + 1 = ct (fun i => !decide (a i = b i)) (r + 1)) := by
          show m + 1 = ct (fun i => !decide (a i = b i)) r + if (!decide (a r = b r)) = true then 1 else 0
          rw [← HG.out.1, decide_eq_false (by rw [← hx, ← hy]; exact e)]; rfl
        clear e hx hy
        go_wp2
        go_quiet (fail)
        go_wp2
        go_roundw
        case rel => exact ⟨r + 1, m + 1, by omega, by omega, by go_num, by go_num, HV.out, by first | exact HG.out.2 | exact HG.out.2.drew | exact below_drewN2 HG.out.2 _⟩
        case measure => simp [intOf]; omega
    · have hib : ¬ (r : Int) < (n : Int) := by omega
      have hre : n = r := by omega
      subst hre
      go_wp2
      go_ret
      exact ⟨by rw [HG.out.1]; rfl, by first | exact HG.out.2 | exact HG.out.2.drew | exact below_drewN2 HG.out.2 _⟩
set_option maxHeartbeats 4000000 in
set_option maxRecDepth 100000 in
theorem capart_no (ao bo : Option Addr) (n n' ca cb : Nat) (w : World) (h : n ≠ n') :
    Calls Try.prog 30 #[.slice ao n ca, .slice bo n' cb] w fun e w' => e = .returned (.int .i64 (-1)) ∧ Below w.heap.size w w' := by
  have hz : (((n : Nat) : Int) != ((n' : Nat) : Int)) = true := by rw [bne_iff_ne]; omega
  clear h
  go_enter Try.func30, Try.ntmps30
  go_wp2
  go_ret
  exact ⟨rfl, by first | exact Below.refl _ _ | exact (Below.refl _ _).drew⟩
set_option maxHeartbeats 4000000 in
set_option maxRecDepth 100000 in
theorem rapart_no (ao bo : Option Addr) (n n' ca cb : Nat) (w : World) (h : n ≠ n') :
    Calls Try.prog 31 #[.slice ao n ca, .slice bo n' cb] w fun e w' => e = .returned (.int .i64 (-1)) ∧ Below w.heap.size w w' := by
  have hz : (((n : Nat) : Int) != ((n' : Nat) : Int)) = true := by rw [bne_iff_ne]; omega
  clear h
  go_enter Try.func31, Try.ntmps31
  go_wp2
  go_ret
  exact ⟨rfl, by first | exact Below.refl _ _ | exact (Below.refl _ _).drew⟩
end Go.Proofs.Ytbpeahhhkcljeaa

/- Numbers of a word: may they be? The program's numbers. -/
namespace Go.Proofs.Ytbpeahhhkcljeaa
open Go.RowKit Go.Sort

/-- What is said of m numbers that are to be so many elements. -/
def FD.nchk (D : FD) (m : Nat) (y : Nat → Int) (many : Int) : Int := if ((m : Nat) : Int) ≠ many then 6 else if anyB (fun j => !D.has (y j)) m = true then 2 else 0
theorem nchk_ok {D : FD} {m : Nat} {y : Nat → Int} {many : Int} (h : D.nchk m y many = 0) : ((m : Nat) : Int) = many ∧ ∀ j, j < m → D.has (y j) = true := by
  unfold FD.nchk at h
  split at h
  · omega
  · split at h
    · omega
    · rename_i h1 h2
      refine ⟨by omega, fun j hj => ?_⟩
      cases e : D.has (y j) with
      | true => rfl
      | false => exact absurd (anyB_yes (p := fun j => !D.has (y j)) (by show (!D.has (y j)) = true; rw [e]; rfl) m hj) h2
theorem enters_cnum : ∀ args w, (callFunc 111 args).run Try.prog w = .ok (.enter 111 args) w :=
  enters_of Try.func111 (by kernel_rfl) rfl

set_option maxHeartbeats 2000000 in
set_option maxRecDepth 100000 in
theorem cnum1_any {D : FD} {F T B : Nat} {g : Nat → Value} {w : World} (h : FAt F T D g w) (hc : w.cell? ⟨B, 0, none⟩ = some (.pointer (some ⟨F, 0, none⟩))) (x : Int) :
    Calls Try.prog 111 #[.int .i64 x, .pointer (some ⟨B, 0, none⟩)] w fun e w' => e = .returned (.bool (!D.has x)) ∧ w' = w := by
  have HS : Hid (FAt F T D g w) := h
  clear h
  obtain ⟨y, hy⟩ : ∃ y, y = D.has x := ⟨_, rfl⟩
  have HC : Hid (Calls Try.prog 93 #[.pointer (some ⟨F, 0, none⟩), .int .i64 x] w fun e w' => e = .returned (.bool y) ∧ w' = w) := by
    show Calls _ _ _ _ _
    rw [hy]; exact has_any HS.out x
  rw [← hy]
  clear hy
  go_enter Try.func111, Try.ntmps111
  go_wp2_with (go_at_call 93; refine HC.out.mono ?_; rintro e w' ⟨rfl, hw⟩; have hw := hw.symm; subst hw)
  go_ret
  exact ⟨rfl, rfl⟩

set_option maxHeartbeats 4000000 in
set_option maxRecDepth 100000 in
theorem cnum_len {D : FD} (hD : D ∈ fieldsL) {yo : Option Addr} {m cy : Nat} {many : Int} {w : World} (h : ((m : Nat) : Int) ≠ many) :
    Calls Try.prog 85 #[.int .i64 D.q, .slice yo m cy, .int .i64 many] w fun e w' => e = .returned (.tuple #[.pointer none, .int .i64 6]) ∧ Below w.heap.size w w' := by
  have HF : Hid (D ∈ fieldsL) := hD
  have hz : (((m : Nat) : Int) != many) = true := by rw [bne_iff_ne]; exact h
  clear hD h
  go_enter Try.func85, Try.ntmps85
  go_wp2_with fail
  refine (new_any HF.out w).mono ?_
  rintro e w2 ⟨F, T, g, rfl, hat, hF, hT, hb2⟩
  have H2 : Hid (Below w.heap.size w (w2.alloc (.cells #[.pointer (some ⟨F, 0, none⟩)] 74))) := bel_up' hb2 ((Below.refl _ _).alloc (Nat.le_refl _) _)
  clear hat hF hT hb2
  go_wp2
  go_ret2
  exact ⟨by simp [go_sem], H2.out⟩

def NumP (D : FD) (ab : Bool) (B : Nat) (e : Ending) (w' : World) : Prop := if ab = true then e = .returned (.tuple #[.pointer none, .int .i64 2]) else ∃ F T g, e = .returned (.tuple #[.pointer (some ⟨F, 0, none⟩), .int .i64 0]) ∧ FAt F T D g w' ∧ B ≤ F ∧ B ≤ T
set_option maxHeartbeats 4000000 in
set_option maxRecDepth 100000 in
theorem cnum_any {D : FD} (hD : D ∈ fieldsL) {yo : Option Addr} {m cy : Nat} {y : Nat → Int} {w : World} (hY : Arg yo m cy y w) :
    Calls Try.prog 85 #[.int .i64 D.q, .slice yo m cy, .int .i64 (m : Nat)] w fun e w' => Below w.heap.size w w' ∧ NumP D (anyB (fun j => !D.has (y j)) m) w.heap.size e w' := by
  have HF : Hid (D ∈ fieldsL ∧ Arg yo m cy y w) := ⟨hD, hY⟩
  have hm6 := hY.few
  obtain ⟨ab, hab⟩ : ∃ ab, ab = anyB (fun j => !D.has (y j)) m := ⟨_, rfl⟩
  rw [← hab]
  clear hD hY
  go_enter Try.func85, Try.ntmps85
  go_wp2_with fail
  refine (new_any HF.out.1 w).mono ?_
  rintro e w2 ⟨F, T, g, rfl, hat, hF, hT, hb2⟩
  have hal : Below w2.heap.size w2 (w2.alloc (.cells #[.pointer (some ⟨F, 0, none⟩)] 74)) := (Below.refl _ _).alloc (Nat.le_refl _) _
  have H2 : Hid (FAt F T D g (w2.alloc (.cells #[.pointer (some ⟨F, 0, none⟩)] 74)) ∧ Below w.heap.size w (w2.alloc (.cells #[.pointer (some ⟨F, 0, none⟩)] 74)) ∧ w.heap.size ≤ F ∧ w.heap.size ≤ T) := ⟨hat.below hal hat.ltF hat.ltT, bel_up' hb2 hal, hF, hT⟩
  have HCf : Hid (∀ cap, Calls Try.prog 91 #[.slice yo m cap, .func (.func 111) #[] #[.pointer (some ⟨w2.heap.size, 0, none⟩)]] (w2.alloc (.cells #[.pointer (some ⟨F, 0, none⟩)] 74)) fun e w' => e = .returned (.bool ab) ∧ w' = w2.alloc (.cells #[.pointer (some ⟨F, 0, none⟩)] 74)) := fun cap => by
    rw [hab]
    refine containsFn_any enters_cnum (HF.out.2.below H2.out.2.1).sl hm6 (fun j _ => ?_)
    have e : (#[Value.int .i64 (y j)] ++ #[Value.pointer (some ⟨w2.heap.size, 0, none⟩)] : Array Value) = #[.int .i64 (y j), .pointer (some ⟨w2.heap.size, 0, none⟩)] := rfl
    rw [e]
    exact cnum1_any H2.out.1 (by simp) (y j)
  clear hat hF hT hb2 hal hab
  cases ab
  · go_wp2_with (go_at_call 91; refine (HCf.out _).mono ?_; rintro e w' ⟨rfl, rfl⟩)
    go_ret2
    refine ⟨H2.out.2.1, ?_⟩
    unfold NumP
    rw [if_neg (by simp)]
    exact ⟨F, T, g, by simp [go_sem], H2.out.1, H2.out.2.2.1, H2.out.2.2.2⟩
  · go_wp2_with (go_at_call 91; refine (HCf.out _).mono ?_; rintro e w' ⟨rfl, rfl⟩)
    go_ret2
    refine ⟨H2.out.2.1, ?_⟩
    unfold NumP
    rw [if_pos rfl]
    simp [go_sem]

theorem cnum_err {D : FD} (hD : D ∈ fieldsL) {yo : Option Addr} {m cy : Nat} {y : Nat → Int} {many : Int} {w : World} (hY : Arg yo m cy y w) (h : D.nchk m y many ≠ 0) :
    Calls Try.prog 85 #[.int .i64 D.q, .slice yo m cy, .int .i64 many] w fun e w' => e = .returned (.tuple #[.pointer none, .int .i64 (D.nchk m y many)]) ∧ Below w.heap.size w w' := by
  unfold FD.nchk at h ⊢
  by_cases e : ((m : Nat) : Int) = many
  · rw [if_neg (by omega)] at h ⊢
    subst e
    by_cases ha : anyB (fun j => !D.has (y j)) m = true
    · rw [if_pos ha] at h ⊢
      refine (cnum_any hD hY).mono ?_
      rintro x w' ⟨hb, hx⟩
      unfold NumP at hx
      rw [if_pos ha] at hx
      exact ⟨hx, hb⟩
    · rw [if_neg ha] at h; omega
  · rw [if_pos e]; exact cnum_len hD e
theorem cnum_ok {D : FD} (hD : D ∈ fieldsL) {yo : Option Addr} {m cy : Nat} {y : Nat → Int} {many : Int} {w : World} (hY : Arg yo m cy y w) (h : D.nchk m y many = 0) :
    Calls Try.prog 85 #[.int .i64 D.q, .slice yo m cy, .int .i64 many] w fun e w' => ∃ F T g, e = .returned (.tuple #[.pointer (some ⟨F, 0, none⟩), .int .i64 0]) ∧ FAt F T D g w' ∧ w.heap.size ≤ F ∧ w.heap.size ≤ T ∧ Below w.heap.size w w' := by
  unfold FD.nchk at h
  by_cases e : ((m : Nat) : Int) = many
  · rw [if_neg (by omega)] at h
    subst e
    by_cases ha : anyB (fun j => !D.has (y j)) m = true
    · rw [if_pos ha] at h; omega
    · refine (cnum_any hD hY).mono ?_
      rintro x w' ⟨hb, hx⟩
      unfold NumP at hx
      rw [if_neg ha] at hx
      obtain ⟨F, T, g, a, b, c, d⟩ := hx
      exact ⟨F, T, g, a, b, c, d, hb⟩
  · rw [if_pos e] at h; omega
end Go.Proofs.Ytbpeahhhkcljeaa

/- Encode: the sum of the rows of the one form. -/
namespace Go.Proofs.Ytbpeahhhkcljeaa
open Go.RowKit Go.Sort

/-- The sum of the first rows, each so many times. -/
def enw (D : FD) (R : Nat → Nat → Nat) (z : Nat → Nat) : Nat → Nat → Nat
  | 0 => pnil
  | k + 1 => padd D (enw D R z k) (pscale D (z k) (R k))
theorem enw_el {D : FD} (F : Fld D) {R : Nat → Nat → Nat} {z : Nat → Nat} : ∀ k, El D (enw D R z k)
  | 0 => el_nil F
  | k + 1 => el_add F (enw_el F k) (el_scale F _ _)
/-- A list of the call's own that is told. -/
def LstP (B n : Nat) (v : Nat → Nat) (x : Ending) (w' : World) : Prop := ∃ gr c, x = .returned (.tuple #[.slice (some ⟨gr, 0, none⟩) n c, .int .i64 0]) ∧ Row gr n v w' ∧ B ≤ gr ∧ n ≤ c ∧ c ≤ 9223372036854775807
theorem rl_lt {ao : Option Addr} {n : Nat} {a : Nat → Nat} {w : World} (h : Sl ao n a w) (hn : 1 ≤ n) : LtB ao w.heap.size := fun x hx => by
  obtain ⟨b, off, e, hc⟩ := h 0 (by omega)
  rw [hx] at e
  cases e
  exact cell_lt hc

theorem zc_lt {D : FD} {my : Nat} {y : Nat → Int} {many : Int} (h : D.nchk my y many = 0) {i : Nat} (hi : i < my) : zc my y i < D.q := by
  obtain ⟨s, e, hs⟩ := has_nat ((nchk_ok h).2 i hi)
  unfold zc; rw [if_pos hi, e, Int.toNat_natCast]; exact hs
set_option maxHeartbeats 8000000 in
set_option maxRecDepth 100000 in
theorem cEncode_ok {D : FD} (hD : D ∈ fieldsL) {ao yo : Option Addr} {m n ca my cy k : Nat} {A : Nat → Option Addr} {N C : Nat → Nat} {Z : Nat → Nat → Int} {R : Nat → Nat → Nat} {y : Nat → Int} {w : World} (ha : CdZ D ao m n A N C Z w) (hY : Arg yo my cy y w) (hR : Red D n m (mzc N Z) k R) (hk : D.nchk my y k = 0)
    (hC : ∀ wx, Below w.heap.size w wx → Calls Try.prog 26 #[.agg #[.int .i64 D.q, .int .i64 (n : Nat), .slice ao m ca]] wx fun x w' => x = .returned (.int .i64 0) ∧ Below wx.heap.size wx w') :
    Calls Try.prog 42 #[.agg #[.int .i64 D.q, .int .i64 (n : Nat), .slice ao m ca], .slice yo my cy] w fun x w' => LstP w.heap.size n (enw D R (zc my y) k) x w' ∧ Below w.heap.size w w' := by
  obtain ⟨w0, hw0⟩ : ∃ w0, w0 = w.alloc (.cells #[.int .i64 D.q, .int .i64 (n : Nat), .slice ao m ca] 43) := ⟨_, rfl⟩
  have HW : Hid (Below w.heap.size w w0 ∧ CB w.heap.size D.q n (.slice ao m ca) w0 ∧ RBt w.heap.size w0 ∧ w0.heap.size = w.heap.size + 1) := by
    rw [hw0]; exact ⟨(Below.refl _ _).alloc (Nat.le_refl _) _, CB.new _ _ _ _, RBt.new _ _, by simp⟩
  have HA : Hid (D ∈ fieldsL ∧ CdZ D ao m n A N C Z w ∧ Arg yo my cy y w ∧ Red D n m (mzc N Z) k R ∧ D.nchk my y k = 0) := ⟨hD, ha, hY, hR, hk⟩
  have HC : Hid _ := hC
  have hn1 := ha.n1
  have hn := ha.n64
  have hmy : my = k := by have := (nchk_ok hk).1; omega
  have hkn := hR.le
  subst hmy
  clear hD ha hY hR hk hC
  go_enter Try.func42, Try.ntmps42
  go_wp2_with fail
  rw [← hw0]
  clear hw0
  refine (cMake_ok HA.out.1 (HA.out.2.1.below HW.out.1) (fun wx hx => HC.out _ (bel_up' HW.out.1 hx))).mono ?_
  rintro x w1 ⟨k', R', ro, rc, rfl, hmv, hred, hb1⟩
  have hu := Red.uniq (fld HA.out.1) HA.out.2.2.2.1 hred (fun v => Iff.rfl)
  obtain ⟨hu1, hu2⟩ := hu
  subst hu1
  obtain ⟨w2, hw2⟩ : ∃ w2, w2 = laid w1 w.heap.size D.q n (.slice ro my rc) := ⟨_, rfl⟩
  have hrb := RB.of (HW.out.2.1.keep hb1) (HW.out.2.2.1.keep hb1)
  have H2 : Hid (Below w.heap.size w w2 ∧ CB w.heap.size D.q n (.slice ro my rc) w2 ∧ RL (.slice ro my rc) my n R w2) := by
    rw [hw2]
    exact ⟨laid_below (bel_up' HW.out.1 hb1) (Nat.le_refl _) _ _ _, laid_cb hrb _ _ _, (laid_mv hmv (by have := HW.out.2.2.2; omega) _ _ _).rl.congr (fun i hi => (hu2 i hi).symm)⟩
  clear hmv hred hu2 hb1
  obtain ⟨⟨x0, c0⟩, ⟨x1, c1⟩, ⟨x2, c2⟩, f0, f1, f2⟩ := hrb
  unfold laid at hw2
  have hq := H2.out.2.1
  rw [hw2] at hq
  obtain ⟨p0, p1, p2⟩ := hq
  go_wp2_with fail
  rw [← hw2]
  clear hw2 p0 p1 p2 c0 c1 c2 f0 f1 f2
  refine (cnum_ok HA.out.1 (HA.out.2.2.1.below H2.out.1) HA.out.2.2.2.2).mono ?_
  rintro x w3 ⟨F, T, g, rfl, hat, hF, hT, hb3⟩
  have H3 : Hid (Below w.heap.size w w3 ∧ CB w.heap.size D.q n (.slice ro my rc) w3 ∧ RL (.slice ro my rc) my n R w3 ∧ FAt F T D g w3 ∧ Sl yo my (zc my y) w3 ∧ LtB yo w3.heap.size) := by
    have hb := bel_up' H2.out.1 hb3
    have hA := HA.out.2.2.1.below hb
    exact ⟨hb, H2.out.2.1.keep hb3, H2.out.2.2.below hb3, hat, has_sl (nchk_ok HA.out.2.2.2.2).2 hA.sl, hA.lt⟩
  clear hat hF hT hb3
  obtain ⟨p0, p1, p2⟩ := H3.out.2.1
  go_wp2_with (at_make; refine make_int rfl _ _ rfl _ n rfl rfl (by omega) (by omega) ?_; intro w4 hown4 hgrow4)
  have H4 : Hid (Row w3.heap.size n pnil w4 ∧ Below w3.heap.size w3 w4) := ⟨row_zeros hown4, below_grown hgrow4 (Nat.le_refl _) (fun k hk => by simp at hk)⟩
  clear hown4 hgrow4
  go_loopw [8, 37] (fun vw vi wr => ∃ (r gr c : Nat), r ≤ my ∧ vw = .slice (some ⟨gr, 0, none⟩) n c ∧ vi = .int .i64 r ∧ (n ≤ c ∧ c ≤ 9223372036854775807) ∧ w3.heap.size ≤ gr ∧ Hid (Row gr n (enw D R (zc my y) r) wr ∧ Below w3.heap.size w3 wr)) (fun _ vi _ => my - (intOf vi).toNat)
  case atStart => exact ⟨0, _, _, by omega, rfl, rfl, ⟨Nat.le_refl _, by omega⟩, Nat.le_refl _, H4.out⟩
  case round =>
    clear H4 p0 p1 p2
    obtain ⟨r, gr, c, hr, rfl, rfl, hnc, hgr, HG⟩ := hrel
    rename World => wr
    by_cases hlt : r < my
    · have hib : (r : Int) < (my : Int) := by omega
      have hb := HG.out.2
      obtain ⟨p0, p1, p2⟩ := H3.out.2.1.keep hb
      obtain ⟨by', oy, hyo, hcy⟩ := (H3.out.2.2.2.2.1.below hb H3.out.2.2.2.2.2) r hlt
      subst hyo
      obtain ⟨ro', ca', ev, hrl⟩ := H3.out.2.2.1.below hb
      cases ev
      obtain ⟨bR, oR, xr, cx, hro, hcr, hsr⟩ := hrl r hlt
      subst hro
      obtain ⟨t, ht⟩ : ∃ t, t = zc my y r := ⟨_, rfl⟩
      rw [← ht] at hcy
      have HP : Hid (Sl xr n (R r) wr ∧ t = zc my y r ∧ t < D.q) := ⟨hsr, ht, by rw [ht]; exact zc_lt HA.out.2.2.2.2 hlt⟩
      clear hsr ht hrl hb
      go_wp2_with fail
      refine (plus_any HA.out.1 (H3.out.2.2.2.1.below HG.out.2 H3.out.2.2.2.1.ltF H3.out.2.2.2.1.ltT) hn1 (by omega) HP.out.2.2 (enw_el (fld HA.out.1) r) (HA.out.2.2.2.1.rows.1 r hlt) (HG.out.1.sl (Nat.le_refl _)) (by intro x hx; cases hx; exact HG.out.1.lt) (by intro h; cases h) HP.out.1 (rl_lt HP.out.1 hn1)).mono ?_
      rintro x w5 ⟨gr2, c2', rfl, hg2, hc2, hc3, hrow5, hb5⟩
      have H5 : Hid (Row gr2 n (enw D R (zc my y) (r + 1)) w5 ∧ Below w3.heap.size w3 w5) := ⟨by rw [HP.out.2.1] at hrow5; exact hrow5, bel_up' HG.out.2 hb5⟩
      have hgg : w3.heap.size ≤ gr2 := by have := HG.out.2.size; omega
      clear hg2 hrow5 hb5 p0 p1 p2
      go_wp2
      go_roundw
      case rel => exact ⟨r + 1, gr2, c2', by omega, rfl, by go_num, ⟨hc2, hc3⟩, hgg, H5.out⟩
      case measure => simp [intOf]; omega
    · have hib : ¬ (r : Int) < (my : Int) := by omega
      have hre : my = r := by omega
      subst hre
      have HZ : Hid (Below w.heap.size w wr ∧ Row gr n (enw D R (zc my y) my) wr ∧ w.heap.size ≤ gr) := ⟨bel_up' H3.out.1 HG.out.2, HG.out.1, by have := H3.out.1.size; omega⟩
      go_wp2
      go_ret2
      exact ⟨⟨gr, c, by simp [go_sem], HZ.out.2.1, HZ.out.2.2, hnc.1, hnc.2⟩, HZ.out.1⟩
end Go.Proofs.Ytbpeahhhkcljeaa
