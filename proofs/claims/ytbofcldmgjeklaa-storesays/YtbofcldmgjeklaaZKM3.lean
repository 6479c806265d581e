/- Texts of ours, one behind the other: KM3 KM4 KM5 KM6 W16 KM7. -/
import Derived.Test.YtbofcldmgjeklaaZW13
import Derived.Test.YtbofcldmgjeklaaZI4
import Derived.Test.YtbofcldmgjeklaaZU2
import Derived.Test.YtbofcldmgjeklaaZX17
import Derived.Test.YtbofcldmgjeklaaZL1
import Derived.Test.YtbofcldmgjeklaaZR9
import Derived.RangeFuncNested
import Derived.RangeFuncBound
import Derived.RangeFuncCalls
import Derived.RangeFuncLeaves
import Derived.WalkKit
import Derived.Shelf.Abstract
import Derived.Shelf.RegionOpen
import Derived.OwnWalkIn
import Derived.TacticsInMore
import Derived.LoopNIn
import Derived.LoopIn
/- checkList: so many numbers, all elements. -/
namespace Go.Proofs.Ytbofcldmgjeklaa
open Go.RowKit Go.Sort

theorem enters_checkList1 : ∀ args w, (callFunc 76 args).run Try.prog w = .ok (.enter 76 args) w :=
  enters_of Try.func76 (by kernel_rfl) rfl
set_option maxHeartbeats 1000000 in
theorem checkList1_any {D : FD} {F T B P : Nat} {g : Nat → Value} {w : World} (h : FAt F T D g w) (hc : w.cell? ⟨P, 0, none⟩ = some (.pointer (some ⟨B, 0, none⟩))) (hp : w.cell? ⟨B, 0, none⟩ = some (.pointer (some ⟨F, 0, none⟩))) (x : Int) :
    Calls Try.prog 76 #[.int .i64 x, .pointer (some ⟨P, 0, none⟩)] w fun e w' => e = .returned (.bool (!D.has x)) ∧ w' = w := by
  have HS : Hid (FAt F T D g w) := h
  clear h
  obtain ⟨y, hy⟩ : ∃ y, y = D.has x := ⟨_, rfl⟩
  have HC : Hid (Calls Try.prog 77 #[.pointer (some ⟨F, 0, none⟩), .int .i64 x] w fun e w' => e = .returned (.bool y) ∧ w' = w) := by
    show Calls _ _ _ _ _
    rw [hy]; exact has_any HS.out x
  rw [← hy]
  clear hy
  go_enter Try.func76, Try.ntmps76
  go_wp2_with (go_at_call 77; refine HC.out.mono ?_; rintro e w' ⟨rfl, hw⟩; have hw := hw.symm; subst hw)
  go_ret
  exact ⟨rfl, rfl⟩

set_option maxHeartbeats 4000000 in
set_option maxRecDepth 100000 in
theorem checkList_any {D : FD} {B F T : Nat} {g : Nat → Value} {pn pk pd : Int} {ao : Option Addr} {n ca : Nat} {z : Nat → Int} {w : World} (hP : PlA B F pn pk pd w) (h : FAt F T D g w) (hs : SlZ ao n z w) (hn : n ≤ 1000000) (many : Int) :
    Calls Try.prog 44 #[.pointer (some ⟨B, 0, none⟩), .slice ao n ca, .int .i64 many] w fun e w' => e = .returned (.int .i64 (D.nchk n z many)) ∧ Below w.heap.size w w' := by
  obtain ⟨wa, hwa⟩ : ∃ wa, wa = w.alloc (.cells #[.pointer (some ⟨B, 0, none⟩)] 27) := ⟨_, rfl⟩
  have hba : Below w.heap.size w wa := by rw [hwa]; exact (Below.refl _ _).alloc (Nat.le_refl _) _
  have hc : wa.cell? ⟨w.heap.size, 0, none⟩ = some (.pointer (some ⟨B, 0, none⟩)) := by rw [hwa, cell_of_row _ _ _ _ _ (0, 0) (two_new _)]; rfl
  have HC : Hid (Calls Try.prog 75 #[.slice ao n ca, .func (.func 76) #[] #[.pointer (some ⟨w.heap.size, 0, none⟩)]] wa fun e w' => e = .returned (.bool (anyB (fun j => !D.has (z j)) n)) ∧ w' = wa) := by
    refine containsFn_any (p := fun j => !D.has (z j)) enters_checkList1 (slz_below hs hba) hn (fun j _ => ?_)
    have e : (#[Value.int .i64 (z j)] ++ #[Value.pointer (some ⟨w.heap.size, 0, none⟩)] : Array Value) = #[.int .i64 (z j), .pointer (some ⟨w.heap.size, 0, none⟩)] := rfl
    rw [e]
    exact checkList1_any (h.below hba h.ltF h.ltT) hc (hP.below hba).f (z j)
  have HB : Hid (Below w.heap.size w wa) := hba
  obtain ⟨R, hR⟩ : ∃ R, R = anyB (fun j => !D.has (z j)) n := ⟨_, rfl⟩
  have HN : Hid (D.nchk n z many = if ((n : Nat) : Int) ≠ many then 6 else if R = true then 2 else 0) := by
    show _ = _
    unfold FD.nchk
    rw [← hR]
  rw [← hR] at HC
  clear h hs hc hba hR hP
  go_enter Try.func44, Try.ntmps44
  by_cases hm : ((n : Nat) : Int) = many
  · have hz : (((n : Nat) : Int) != many) = false := by rw [hm]; simp
    go_wp2_with fail
    rw [← hwa]
    clear hwa
    refine HC.out.mono ?_
    rintro e w' ⟨rfl, hw⟩
    have hw := hw.symm
    subst hw
    cases R with
    | true =>
      go_wp2
      go_ret
      exact ⟨by rw [HN.out, if_neg (by omega), if_pos (by trivial)]; rfl, HB.out⟩
    | false =>
      go_wp2
      go_ret
      exact ⟨by rw [HN.out, if_neg (by omega), if_neg (by decide)]; rfl, HB.out⟩
  · have hz : (((n : Nat) : Int) != many) = true := by rw [bne_iff_ne]; exact hm
    go_wp2
    rw [← hwa]
    go_ret
    exact ⟨by rw [HN.out, if_pos hm]; rfl, HB.out⟩
end Go.Proofs.Ytbofcldmgjeklaa

/- A plan's value, isNode, the checks of nodes. -/
namespace Go.Proofs.Ytbofcldmgjeklaa
open Go.RowKit Go.Sort

set_option maxHeartbeats 4000000 in
set_option maxRecDepth 100000 in
theorem svalue_any {B F T : Nat} {pn pk pd : Int} {D : FD} (hD : D ∈ fieldsL) {g : Nat → Value} {w : World} (h : FAt F T D g w) (hP : PlA B F pn pk pd w) {ao : Option Addr} {n cap x : Nat} {c : Nat → Nat} (hx : x < D.q) (hn : n ≤ 1000) (hc : El D c) (hN : Sl ao n c w) :
    Calls Try.prog 46 #[.pointer (some ⟨B, 0, none⟩), .slice ao n cap, .int .i64 x] w fun e w' => e = .returned (.int .i64 (D.val c n x n : Nat)) ∧ ∃ n, w' = w.drewN n := by
  have HF : Hid (FAt F T D g w ∧ D ∈ fieldsL ∧ Sl ao n c w ∧ El D c) := ⟨h, hD, hN, hc⟩
  have HP : Hid (w.cell? ⟨B, 0, none⟩ = some (.pointer (some ⟨F, 0, none⟩))) := hP.f
  clear h hD hN hc hP
  go_enter Try.func46, Try.ntmps46
  go_wp2
  go_loopw [7, 8] (fun s i wr => ∃ r : Nat, r ≤ n ∧ i = .int .i64 ((r : Int) - 1) ∧ s = .int .i64 (D.val c n x (n - r) : Nat) ∧ ∃ d, wr = w.drewN d) (fun _ i _ => (intOf i + 1).toNat)
  case atStart => exact ⟨n, by omega, rfl, by rw [Nat.sub_self]; rfl, 0, rfl⟩
  case round =>
    obtain ⟨r, hr, hi, rfl, hwr⟩ := hrel
    have HG : Hid (FAt F T D g wr ∧ Sl ao n c wr ∧ ∃ d, wr = w.drewN d) := by
      obtain ⟨d, rfl⟩ := hwr
      exact ⟨HF.out.1.drewN d, HF.out.2.2.1, d, rfl⟩
    have hpf : wr.cell? ⟨B, 0, none⟩ = some (.pointer (some ⟨F, 0, none⟩)) := by obtain ⟨d, rfl⟩ := hwr; exact HP.out
    clear hwr
    cases r with
    | succ s =>
      have hi' : u8 = .int .i64 (s : Int) := by rw [hi]; go_num
      clear hi
      subst hi'
      obtain ⟨y, hy⟩ : ∃ y, y = D.val c n x (n - (s + 1)) := ⟨_, rfl⟩
      have hyq : y < D.q := by rw [hy]; exact val_lt HF.out.2.1 c n x HF.out.2.2.2 _
      have HY : Hid (D.val c n x (n - s) = sumD D.p D.q (D.mul y x) (c s)) := by
        show _ = _
        rw [hy, show n - s = (n - (s + 1)) + 1 from by omega, FD.val, show n - 1 - (n - (s + 1)) = s from by omega]
      rw [← hy]
      clear hy
      obtain ⟨b, off, rfl, hcl⟩ := HG.out.2.1 s (by omega)
      have HC1 : Hid (∀ k, Calls Try.prog 81 #[.pointer (some ⟨F, 0, none⟩), .int .i64 y, .int .i64 x] (wr.drewN k) fun e w' => e = .returned (.int .i64 (D.mul y x : Nat)) ∧ ∃ m, w' = (wr.drewN k).drewN m) := fun k => mul_nat HF.out.2.1 (HG.out.1.drewN k) hyq hx
      have HC2 : Hid (∀ k, Calls Try.prog 80 #[.pointer (some ⟨F, 0, none⟩), .int .i64 (D.mul y x : Nat), .int .i64 (c s : Nat)] (wr.drewN k) fun e w' => e = .returned (.int .i64 (sumD D.p D.q (D.mul y x) (c s) : Nat)) ∧ ∃ m, w' = (wr.drewN k).drewN m) := fun k => add_nat HF.out.2.1 (HG.out.1.drewN k) ((fld HF.out.2.1).mul_lt _ _) (HF.out.2.2.2 s)
      go_wp2
      go_big_quiet (first | (go_at_call 81; exact Calls.quiet_of (HC1.out _)) | (go_at_call 80; exact Calls.quiet_of (HC2.out _)))
      go_wp2
      go_roundw
      case rel =>
        obtain ⟨d, hd⟩ := HG.out.2.2
        exact ⟨s, by omega, by go_num, by rw [HY.out], _, by rw [hd, World.drewN_drewN]⟩
      case measure => simp [intOf]
    | zero =>
      have hi' : u8 = .int .i64 (-1) := by rw [hi]; rfl
      clear hi
      subst hi'
      go_wp2
      go_ret
      exact ⟨rfl, HG.out.2.2⟩


set_option maxHeartbeats 4000000 in
set_option maxRecDepth 100000 in
theorem isNode_any {B F : Nat} {pn pk pd : Int} {w : World} (hP : PlA B F pn pk pd w) (x : Int) :
    Calls Try.prog 87 #[.pointer (some ⟨B, 0, none⟩), .int .i64 x] w fun e w' => e = .returned (.bool (decide (0 ≤ x ∧ x < pn))) ∧ w' = w := by
  have c1 := hP.n
  by_cases h0 : 0 ≤ x
  · by_cases h1 : x < pn
    · go_enter Try.func87, Try.ntmps87
      go_wp2
      go_ret
      exact ⟨by simp [h0, h1], rfl⟩
    · go_enter Try.func87, Try.ntmps87
      go_wp2
      go_ret
      exact ⟨by simp [h1], rfl⟩
  · go_enter Try.func87, Try.ntmps87
    go_wp2
    go_ret
    exact ⟨by simp; omega, rfl⟩
end Go.Proofs.Ytbofcldmgjeklaa

/- So many nodes, no two alike: checkNodes, NodesMay. -/
namespace Go.Proofs.Ytbofcldmgjeklaa
open Go.RowKit Go.Sort

/-- The first fault of the first nodes. -/
def ndc (n : Int) (z : Nat → Int) : Nat → Int
  | 0 => 0
  | r + 1 => if ndc n z r ≠ 0 then ndc n z r else if ¬ (0 ≤ z r ∧ z r < n) then 10 else if z r ∈ zl r z then 7 else 0
def ndchk (m : Nat) (z : Nat → Int) (n many : Int) : Int := if ((m : Nat) : Int) ≠ many then 6 else ndc n z m
theorem ndc_bad {n : Int} {z : Nat → Int} {r : Nat} (h : ndc n z r ≠ 0) : ∀ m, r ≤ m → ndc n z m = ndc n z r
  | 0, hm => by rw [show r = 0 by omega]
  | m + 1, hm => by
    by_cases e : r = m + 1
    · rw [e]
    · have h1 := ndc_bad h m (by omega)
      show (if ndc n z m ≠ 0 then ndc n z m else _) = _
      rw [h1, if_pos h]

set_option maxHeartbeats 8000000 in
set_option maxRecDepth 100000 in
theorem checkNodes_any {B F : Nat} {pn pk pd : Int} {ao : Option Addr} {m ca : Nat} {z : Nat → Int} {w : World} (hP : PlA B F pn pk pd w) (hA : Arg ao m ca z w) (hm : m ≤ 1000) (many : Int) :
    Calls Try.prog 83 #[.pointer (some ⟨B, 0, none⟩), .slice ao m ca, .int .i64 many] w fun e w' => e = .returned (.int .i64 (ndchk m z pn many)) ∧ w' = w := by
  have HF : Hid (PlA B F pn pk pd w ∧ Arg ao m ca z w) := ⟨hP, hA⟩
  obtain ⟨E, hE⟩ : ∃ E, E = ndchk m z pn many := ⟨_, rfl⟩
  have HE : Hid (E = ndchk m z pn many) := hE
  rw [← hE]
  have hmc : m ≤ ca := hA.le
  clear hP hA hE
  go_enter Try.func83, Try.ntmps83
  by_cases hmm : ((m : Nat) : Int) = many
  · have hz : (((m : Nat) : Int) != many) = false := by rw [hmm]; simp
    have HM : Hid (ndchk m z pn many = ndc pn z m) := by show _ = _; unfold ndchk; rw [if_neg (by omega)]
    go_wp2
    go_loopw [7, 8, 15] (fun _ _ vi wr => ∃ r : Nat, r ≤ m ∧ vi = .int .i64 r ∧ Hid (ndc pn z r = 0) ∧ wr = w) (fun _ _ vi _ => m - (intOf vi).toNat)
    case atStart => exact ⟨0, by omega, rfl, rfl, rfl⟩
    case round =>
      obtain ⟨r, hr, rfl, HG, hw⟩ := hrel
      have hw := hw.symm
      subst hw
      by_cases hlt : r < m
      · have hib : (r : Int) < (m : Int) := by omega
        obtain ⟨b, off, hao, hcl⟩ := HF.out.2.sl r hlt
        subst hao
        obtain ⟨x, hx⟩ : ∃ x, x = z r := ⟨_, rfl⟩
        rw [← hx] at hcl
        have hrc : r ≤ ca := by omega
        obtain ⟨t, ht⟩ : ∃ t, t = decide (0 ≤ x ∧ x < pn) := ⟨_, rfl⟩
        obtain ⟨t2, ht2⟩ : ∃ t2, t2 = decide (x ∈ zl r z) := ⟨_, rfl⟩
        have HIs : Hid (Calls Try.prog 87 #[.pointer (some ⟨B, 0, none⟩), .int .i64 x] w fun e w' => e = .returned (.bool t) ∧ w' = w) := by rw [ht]; exact isNode_any HF.out.1 x
        have HCo : Hid (∀ cc, Calls Try.prog 90 #[.slice (some ⟨b, off, none⟩) r cc, .int .i64 x] w fun e w' => e = .returned (.bool t2) ∧ w' = w) := fun cc => by rw [ht2]; exact contains_any x (fun j hj => HF.out.2.sl j (by omega)) (by omega)
        have HS : Hid (ndc pn z (r + 1) = if ¬ (t = true) then 10 else if t2 = true then 7 else 0) := by
          show (if ndc pn z r ≠ 0 then ndc pn z r else if ¬ (0 ≤ z r ∧ z r < pn) then 10 else if z r ∈ zl r z then 7 else 0) = _
          rw [if_neg (by rw [HG.out]; omega), ht, ht2, ← hx]
          simp only [decide_eq_true_eq]
        clear ht ht2 hx
        go_wp2_with fail
        refine HIs.out.mono ?_
        rintro e w' ⟨rfl, hw⟩
        have hw := hw.symm
        subst hw
        cases t with
        | false =>
          go_wp2
          go_ret
          exact ⟨by rw [HE.out, HM.out, ndc_bad (r := r + 1) (by rw [HS.out, if_pos (by simp)]; decide) m (by omega), HS.out, if_pos (by simp)]; rfl, rfl⟩
        | true =>
          go_wp2_with fail
          refine (HCo.out _).mono ?_
          rintro e w' ⟨rfl, hw⟩
          have hw := hw.symm
          subst hw
          cases t2 with
          | true =>
            go_wp2
            go_ret
            exact ⟨by rw [HE.out, HM.out, ndc_bad (r := r + 1) (by rw [HS.out, if_neg (by simp), if_pos (by trivial)]; decide) m (by omega), HS.out, if_neg (by simp), if_pos (by trivial)]; rfl, rfl⟩
          | false =>
            have HV : Hid (ndc pn z (r + 1) = 0) := by
              have h := HS.out
              simp at h
              exact h
            go_wp2
            go_roundw
            case rel => exact ⟨r + 1, by omega, by go_num, HV, by first | rfl | trivial⟩
            case measure => simp [intOf]; omega
      · have hib : ¬ (r : Int) < (m : Int) := by omega
        have hre : m = r := by omega
        subst hre
        go_wp2
        go_ret
        exact ⟨by rw [HE.out, HM.out, HG.out]; rfl, rfl⟩
  · have hz : (((m : Nat) : Int) != many) = true := by rw [bne_iff_ne]; exact hmm
    have HM : Hid (ndchk m z pn many = 6) := by show _ = _; unfold ndchk; rw [if_pos hmm]
    go_wp2
    go_ret
    exact ⟨by rw [HE.out, HM.out]; rfl, rfl⟩
end Go.Proofs.Ytbofcldmgjeklaa

/- The reference's NodesMay. -/
namespace Go.Proofs.Ytbofcldmgjeklaa
open Go.RowKit Go.Sort

set_option maxHeartbeats 8000000 in
set_option maxRecDepth 100000 in
theorem nodesMay_any (pn : Int) {ao : Option Addr} {m ca : Nat} {z : Nat → Int} {w : World} (hA : Arg ao m ca z w) (hm : m ≤ 1000) (many : Int) :
    Calls Try.prog 48 #[.slice ao m ca, .int .i64 pn, .int .i64 many] w fun e w' => e = .returned (.int .i64 (ndchk m z pn many)) ∧ ∃ d, w' = w.drewN d := by
  have HF : Hid (Arg ao m ca z w) := hA
  obtain ⟨E, hE⟩ : ∃ E, E = ndchk m z pn many := ⟨_, rfl⟩
  have HE : Hid (E = ndchk m z pn many) := hE
  rw [← hE]
  have hmc : m ≤ ca := hA.le
  clear hA hE
  go_enter Try.func48, Try.ntmps48
  by_cases hmm : ((m : Nat) : Int) = many
  · have hz : (((m : Nat) : Int) != many) = false := by rw [hmm]; simp
    have HM : Hid (ndchk m z pn many = ndc pn z m) := by show _ = _; unfold ndchk; rw [if_neg (by omega)]
    go_wp2
    go_loopw [7] (fun vi wr => ∃ r : Nat, r ≤ m ∧ vi = .int .i64 r ∧ Hid (ndc pn z r = 0 ∧ ∃ d, wr = w.drewN d)) (fun vi _ => m - (intOf vi).toNat)
    case atStart => exact ⟨0, by omega, rfl, rfl, 0, rfl⟩
    case round =>
      obtain ⟨r, hr, rfl, HG⟩ := hrel
      rename World => wr
      by_cases hlt : r < m
      · have hib : (r : Int) < (m : Int) := by omega
        obtain ⟨b, off, hao, hcl⟩ := HF.out.sl r hlt
        subst hao
        obtain ⟨x, hx⟩ : ∃ x, x = z r := ⟨_, rfl⟩
        rw [← hx] at hcl
        have hrc : r ≤ ca := by omega
        obtain ⟨d0, hd0⟩ := HG.out.2
        replace hcl : wr.cell? ⟨b, off + r, none⟩ = some (.int .i64 x) := by rw [hd0]; exact hcl
        have HJ : Hid (∀ i, ∃ j, wr.drewN i = w.drewN j) := fun i => ⟨d0 + i, by rw [hd0, World.drewN_drewN]⟩
        obtain ⟨t2, ht2⟩ : ∃ t2, t2 = decide (x ∈ zl r z) := ⟨_, rfl⟩
        have HIn : Hid (∀ k cc, Calls Try.prog 54 #[.int .i64 x, .slice (some ⟨b, off, none⟩) r cc] (wr.drewN k) fun e w' => e = .returned (.bool t2) ∧ ∃ n, w' = (wr.drewN k).drewN n) := fun k cc => by
          rw [ht2, hd0, World.drewN_drewN]
          refine in_any x ?_
          have h := arg_sliceI HF.out (r := r) (by omega)
          rcases h with ⟨h1, _⟩ | ⟨h1, h2, b', o', c', h3, h4⟩
          · exact Or.inl ⟨h1, _, _, by rw [show r = 0 by have := congrArg List.length h1; simpa [zl_len] using this]⟩
          · rw [zl_len] at h3
            cases h3
            exact Or.inr ⟨h1, h2, b, off, cc, by rw [zl_len], h4⟩
        by_cases h0 : x < 0
        · have HS : Hid (ndc pn z (r + 1) = 10) := by
            show (if ndc pn z r ≠ 0 then ndc pn z r else if ¬ (0 ≤ z r ∧ z r < pn) then 10 else _) = _
            rw [if_neg (by rw [HG.out.1]; omega), if_pos (by rw [← hx]; omega)]
          clear hx ht2 hd0
          go_wp2
          go_ret
          exact ⟨by rw [HE.out, HM.out, ndc_bad (r := r + 1) (by rw [HS.out]; decide) m (by omega), HS.out]; rfl, HG.out.2⟩
        · by_cases h1 : pn ≤ x
          · have HS : Hid (ndc pn z (r + 1) = 10) := by
              show (if ndc pn z r ≠ 0 then ndc pn z r else if ¬ (0 ≤ z r ∧ z r < pn) then 10 else _) = _
              rw [if_neg (by rw [HG.out.1]; omega), if_pos (by rw [← hx]; omega)]
            clear hx ht2 hd0
            go_wp2
            go_ret
            exact ⟨by rw [HE.out, HM.out, ndc_bad (r := r + 1) (by rw [HS.out]; decide) m (by omega), HS.out]; rfl, HG.out.2⟩
          · have HS : Hid (ndc pn z (r + 1) = if t2 = true then 7 else 0) := by
              show (if ndc pn z r ≠ 0 then ndc pn z r else if ¬ (0 ≤ z r ∧ z r < pn) then 10 else if z r ∈ zl r z then 7 else 0) = _
              rw [if_neg (by rw [HG.out.1]; omega), if_neg (by rw [← hx]; omega), ht2, ← hx]
              simp only [decide_eq_true_eq]
            clear hx ht2 hd0
            cases t2 with
            | true =>
              go_wp2
              go_big_quiet ((go_at_call 54; exact Calls.quiet_of (HIn.out _ _)))
              go_wp2
              go_ret
              exact ⟨by rw [HE.out, HM.out, ndc_bad (r := r + 1) (by rw [HS.out, if_pos (by trivial)]; decide) m (by omega), HS.out, if_pos (by trivial)]; rfl, HJ.out _⟩
            | false =>
              have HV : Hid (ndc pn z (r + 1) = 0) := by
                have h := HS.out
                simp at h
                exact h
              go_wp2
              go_big_quiet ((go_at_call 54; exact Calls.quiet_of (HIn.out _ _)))
              go_wp2
              go_roundw
              case rel => exact ⟨r + 1, by omega, by go_num, HV.out, HJ.out _⟩
              case measure => simp [intOf]; omega
      · have hib : ¬ (r : Int) < (m : Int) := by omega
        have hre : m = r := by omega
        subst hre
        go_wp2
        go_ret
        exact ⟨by rw [HE.out, HM.out, HG.out.1]; rfl, HG.out.2⟩
  · have hz : (((m : Nat) : Int) != many) = true := by rw [bne_iff_ne]; exact hmm
    have HM : Hid (ndchk m z pn many = 6) := by show _ = _; unfold ndchk; rw [if_pos hmm]
    go_wp2
    go_ret
    exact ⟨by rw [HE.out, HM.out]; rfl, 0, rfl⟩
end Go.Proofs.Ytbofcldmgjeklaa

/- Ranges over methods (a receiver ahead of the yield). -/
namespace Go.Proofs.Ytbofcldmgjeklaa
open Go.RowKit

/-- What an iterator's method promises: as SeqI, with what is ahead of the yield. -/
def SeqB (P : Program) (gf : Nat) (ra lb : Array Value) (N : Nat) (E : Nat → Array Value → World → Prop) (own : Nat → Prop) (w0 : World) : Prop :=
  ∀ (l : Nat) (J : Nat → World → Prop) (W : World), Below w0.heap.size w0 W → w0.heap.size ≤ l → l < W.heap.size →
    (∀ r X Y, J r X → Below X.heap.size X Y → J r Y) →
    (∀ r args X, r < N → J r X → E r args X → YieldAt Fence.wide 0 P l args X fun e Y => e = .returned (.bool true) ∧ J (r + 1) Y ∧ KpO (fun k => own k ∨ k = l) X Y) →
    J 0 W → CallsIn Fence.wide 0 P gf (ra ++ #[.func (.yield l) #[] #[]] ++ lb) W fun e W' => (∃ v, e = .returned v) ∧ J N W'

/-- The law: a loop whose body never leaves it. -/
theorem range_lawB {P : Program} {g : Operand} {ps : Array Tmp} {assign body : Code} {Q : Exit → Act → World → Prop} {a : Act} {w : World} {gf : Nat} {ra lb : Array Value}
    (hg : a.eval g = .func (.func gf) ra lb) (eg : ∀ args w, (callFunc gf args).run P w = .ok (.enter gf args) w)
    {N : Nat} {E : Nat → Array Value → World → Prop} {own : Nat → Prop} (hseq : SeqB P gf ra lb N E own w) (hown : ∀ k, own k → k < w.heap.size)
    (hps : ∀ r args X, E r args X → args.size = ps.size)
    (I : Nat → World → Prop) (hI : ∀ r X Y, I r X → GrC w.heap.size X Y → I r Y) (hE : ∀ r args X Y, E r args X → GrC w.heap.size X Y → E r args Y) (h0 : I 0 w) (a₁ : Array Value → Act)
    (hassign : ∀ (l r : Nat) (args : Array Value) (X : World) (K : Act → World → Prop), E r args X → K (a₁ args) X →
      assign.wpIn (Fence.wide.inRound l) 0 P (Exit.then K (fun _ _ _ => False)) { tmps := (ps.zip args).foldl (fun t (p, v) => t.setIfInBounds p v) a.tmps, defers := [] } X)
    (hbody : ∀ (l r : Nat) (args : Array Value) (X : World), r < N → I r X → E r args X → body.wpIn (Fence.wide.inRound l) 0 P (fun e _ Y => e = .normal ∧ KpO own X Y ∧ I (r + 1) Y) (a₁ args) X)
    (hdone : ∀ (D : Nat) (W : World), w.heap.size ≤ D → I N W → W.heap[D]? = some (.deferred (some [])) → Q .normal { a with defers := { target := .collected D, args := #[] } :: a.defers } W) :
    (Code.rangeFunc g ps assign body).wp P Q a w := by
  refine (wpIn_wide (n := 0)).1 (wpIn_rangeFunc ?_)
  intro fn hfn
  obtain ⟨B, hB⟩ : ∃ B, B = w.heap.size := ⟨_, rfl⟩
  obtain ⟨rc, hrc⟩ : ∃ rc : LoopState → Option Code → Loop, rc = fun st pe => { state := st, pending := pe, fn, tmps := a.tmps, params := ps, assign, body, defers := w.heap.size } := ⟨_, rfl⟩
  obtain ⟨W, hW⟩ : ∃ W, W = (w.alloc (.deferred (some []))).alloc (.loop (rc .ready none)) := ⟨_, rfl⟩
  have hs1 : (w.alloc (.deferred (some []))).heap.size = B + 1 := by rw [World.size_alloc, hB]
  have hsW : W.heap.size = B + 2 := by rw [hW, World.size_alloc, hs1]
  have hlW : W.heap[B + 1]? = some (.loop (rc .ready none)) := by rw [hW, ← hs1]; exact World.alloc_heap_new _ _
  have hdW : W.heap[B]? = some (.deferred (some [])) := by rw [hW, Below.heap_alloc _ _ _ (by rw [hs1]; omega), hB]; exact World.alloc_heap_new w _
  have hbW : Below w.heap.size w W := by rw [hW]; exact ((Below.refl _ w).alloc (Nat.le_refl _) _).alloc (by simp) _
  have hIW : I 0 W := hI 0 w W h0 (.of_below hbW)
  refine ⟨B + 1, [{ target := .collected w.heap.size, args := #[] }], W, { target := .fn (.func gf) lb, args := ra ++ #[.func (.yield (B + 1)) #[] #[]] }, W, gf, ra ++ #[.func (.yield (B + 1)) #[] #[]] ++ lb, W, ?_, ?_, fun _ _ => trivial, ?_, fun h => (by cases h), ?_⟩
  · rw [hW, hrc, hB]; exact run_enterLoop_outer _ _ _ _ _
  · simp only [resolve, hg]
    simp [go_sem]
  · simp [invoke, go_sem, eg]
  refine (hseq (B + 1) (fun r X => I r X ∧ X.heap[B + 1]? = some (.loop (rc .ready none)) ∧ X.heap[B]? = some (.deferred (some []))) W hbW (by omega) (by omega) ?_ ?_ ⟨hIW, hlW, hdW⟩).mono ?_
  · rintro r X Y ⟨h1, h2, h3⟩ hb
    exact ⟨hI r X Y h1 (.of_below hb), (hb.block _ (Array.getElem?_eq_some_iff.1 h2).1).trans h2, (hb.block _ (Array.getElem?_eq_some_iff.1 h3).1).trans h3⟩
  · rintro r args X hr ⟨hi, hl, hd⟩ he
    have hy := run_yield (P := P) (args := args) hl (by rw [hrc]; exact hps r args X he)
    rw [hrc] at hy
    refine ⟨fn, _, assign, body, hy, roundIn_of_wpIn hfn (hassign _ r args X _ he ⟨_, run_beginRound hl (by rw [hrc]), ?_⟩)⟩
    obtain ⟨X2, hX2⟩ : ∃ X2, X2 = X.putObj (B + 1) (.loop { rc .ready none with state := .busy }) := ⟨_, rfl⟩
    have hg2 : GrC w.heap.size X X2 := by rw [hX2]; exact .put _ (by omega) hl rfl
    have hl2 : X2.heap[B + 1]? = some (.loop { rc .ready none with state := .busy }) := by rw [hX2]; exact World.putObj_heap_same (Array.getElem?_eq_some_iff.1 hl).1
    have hd2 : X2.heap[B]? = some (.deferred (some [])) := by rw [hX2]; exact (World.putObj_heap_other (by omega)).trans hd
    have hk2 : KpO (fun k => own k ∨ k = B + 1) X X2 := by rw [hX2]; exact .put _ _ _ (Or.inr rfl)
    rw [← hX2]
    refine wpIn_mono (hbody (B + 1) r args X2 hr (hI r X X2 hi hg2) (hE r args X X2 he hg2)) ?_
    rintro e a3 Y ⟨rfl, hk, hi3⟩
    have hl3 : Y.heap[B + 1]? = some (.loop { rc .ready none with state := .busy }) := (hk.same _ (Array.getElem?_eq_some_iff.1 hl2).1 (fun h => by have := hown _ h; omega)).trans hl2
    have hd3 : Y.heap[B]? = some (.deferred (some [])) := (hk.same _ (Array.getElem?_eq_some_iff.1 hd2).1 (fun h => by have := hown _ h; omega)).trans hd2
    have he3 := run_endRound (P := P) none hl3
    refine ⟨_, _, he3, rfl, ⟨hI _ Y _ hi3 (.put _ (by omega) hl3 rfl), ?_, (World.putObj_heap_other (by omega)).trans hd3⟩, (hk2.trans (hk.mono fun k h => Or.inl h)).trans (.put _ _ _ (Or.inr rfl))⟩
    rw [World.putObj_heap_same (Array.getElem?_eq_some_iff.1 hl3).1, hrc]
    rfl
  · rintro e Y ⟨⟨v, rfl⟩, hi, hl, hd⟩
    have he := run_endLoop (P := P) hl (by rw [hrc]; simp)
    refine ⟨none, _, by rw [he, hrc], ?_⟩
    have := hdone B (Y.putObj (B + 1) (.loop { rc .ready none with state := .exhausted })) (by omega) (hI _ Y _ hi (.put _ (by omega) hl rfl)) ((World.putObj_heap_other (by omega)).trans hd)
    rw [hB] at this ⊢
    simpa [hrc] using this
end Go.Proofs.Ytbofcldmgjeklaa

/- The places of the square, one after another: the method places. -/
namespace Go.Proofs.Ytbofcldmgjeklaa
open Go.RowKit Go.Shelf
attribute [local go_sem] Oper.semAt_some

/-- How many places are in the first rows. -/
def pls (k : Nat) : Nat → Nat
  | 0 => 0
  | i + 1 => pls k i + (k - i)
theorem pls_le (k : Nat) {i j : Nat} (h : i ≤ j) : pls k i ≤ pls k j := by
  induction j with
  | zero => rw [show i = 0 by omega]; exact Nat.le_refl _
  | succ j ih =>
    by_cases e : i = j + 1
    · rw [e]; exact Nat.le_refl _
    · have := ih (by omega)
      show pls k i ≤ pls k j + (k - j)
      omega
/-- The r-th place. -/
def PlE (k d r : Nat) (args : Array Value) (_ : World) : Prop :=
  ∃ i j : Nat, args = #[.int .i64 (i : Nat), .int .i64 (j : Nat)] ∧ i < k ∧ ((i ≤ j ∧ j < k ∧ r = pls k i + (j - i)) ∨ (k ≤ j ∧ j < d ∧ r = pls k k + i * (d - k) + (j - k)))
theorem PlA.kpo {B F : Nat} {n k d : Int} {own : Nat → Prop} {X Y : World} (h : PlA B F n k d X) (hk : KpO own X Y) (hB : ¬ own B) : PlA B F n k d Y := by
  have e := hk.same B (cell_lt h.f) hB
  obtain ⟨h0, h1, h2, h3⟩ := h
  refine ⟨?_, ?_, ?_, ?_⟩
  all_goals
    unfold World.cell? at h0 h1 h2 h3 ⊢
    rw [e]
    assumption

set_option maxHeartbeats 8000000 in
set_option maxRecDepth 100000 in
theorem places_seq {B F k d : Nat} {n : Int} {own : Nat → Prop} {w : World} (hP : PlA B F n k d w) (hk : k ≤ d) (hd : d ≤ 15) (hB : ¬ own B) :
    SeqB Try.prog 79 #[.pointer (some ⟨B, 0, none⟩)] #[] (pls k k + k * (d - k)) (PlE k d) own w := by
  intro l J W hbW hl hlW hJ hY hJ0
  have HB : Hid (¬ (own B ∨ B = l)) := by
    have := cell_lt hP.f
    intro h
    rcases h with h | h
    · exact hB h
    · have h2 : (⟨B, 0, none⟩ : Addr).block < w.heap.size := this
      simp at h2
      omega
  have HY : Hid (∀ r args X, r < pls k k + k * (d - k) → J r X → PlE k d r args X → YieldAt Fence.wide 0 Try.prog l args X fun e Y => e = .returned (.bool true) ∧ J (r + 1) Y ∧ KpO (fun k => own k ∨ k = l) X Y) := hY
  have H0 : Hid (J 0 W ∧ PlA B F n k d W) := ⟨hJ0, hP.below hbW⟩
  obtain ⟨c0, c1, c2, c3⟩ := H0.out.2
  clear hY hJ hJ0 hbW hP
  refine callsIn_of_wp Try.func79 rfl trivial ?_ rfl
  simp only [Try.ntmps79, List.size_toArray, List.length_cons, List.length_nil, Nat.reduceAdd, Nat.reduceSub, Array.replicate_succ, Array.replicate_zero, List.push_toArray, List.append_toArray, List.nil_append, List.cons_append, List.append_nil]
  gi_wp2
  gi_loopw [4, 5, 12] (fun _ _ vi wr => ∃ i : Nat, i ≤ k ∧ vi = .int .i64 (i : Nat) ∧ Hid (J (pls k i) wr ∧ PlA B F n k d wr)) (fun _ _ vi _ => k - (intOf vi).toNat)
  case atStart => exact ⟨0, by omega, rfl, H0.out.1, H0.out.2⟩
  case round =>
    obtain ⟨i, hi, rfl, HG⟩ := hrel
    rename World => wr
    by_cases hlt : i < k
    · have hib : (i : Int) < (k : Int) := by omega
      gi_wp2
      gi_loopw [5] (fun vj wq => ∃ j : Nat, i ≤ j ∧ j ≤ k ∧ vj = .int .i64 (j : Nat) ∧ Hid (J (pls k i + (j - i)) wq ∧ PlA B F n k d wq)) (fun vj _ => k - (intOf vj).toNat)
      case atStart => exact ⟨i, by omega, by omega, rfl, by rw [Nat.sub_self]; exact HG.out.1, HG.out.2⟩
      case round =>
        obtain ⟨j, hj1, hj, rfl, HQ⟩ := hrel
        rename World => wq
        obtain ⟨a0, a1, a2, a3⟩ := HQ.out.2
        by_cases hjl : j < k
        · have hjb : (j : Int) < (k : Int) := by omega
          have hYl := HY.out (pls k i + (j - i)) #[.int .i64 (i : Nat), .int .i64 (j : Nat)] wq (by have h1 := pls_le k (show i + 1 ≤ k by omega); have h2 : pls k (i + 1) = pls k i + (k - i) := rfl; omega) HQ.out.1 ⟨i, j, rfl, hlt, Or.inl ⟨hj1, hjl, rfl⟩⟩
          obtain ⟨fn, tmps, assign, body, hy, hR⟩ := hYl
          gi_wp2
          refine ⟨rfl, hR.mono ?_⟩
          rintro e Y ⟨rfl, hS, hK⟩
          have HQ2 : Hid (J (pls k i + (j + 1 - i)) Y ∧ PlA B F n k d Y) := by
            refine ⟨?_, HQ.out.2.kpo hK HB.out⟩
            rw [show pls k i + (j + 1 - i) = pls k i + (j - i) + 1 by omega]; exact hS
          clear hR hy hS hK a0 a1 a2 a3
          gi_wp2
          exact ⟨⟨j + 1, by omega, by omega, by go_num, HQ2⟩, by simp [intOf]; omega⟩
        · have hjb : ¬ (j : Int) < (k : Int) := by omega
          have hje : j = k := by omega
          subst hje
          gi_wp2
          exact ⟨⟨i + 1, by omega, by go_num, HQ⟩, by simp [intOf]; omega⟩
    · have hib : ¬ (i : Int) < (k : Int) := by omega
      have hie : i = k := by omega
      subst hie
      obtain ⟨a0, a1, a2, a3⟩ := HG.out.2
      gi_wp2
      gi_loopw [6, 7, 34] (fun _ _ vi wq => ∃ t : Nat, t ≤ i ∧ vi = .int .i64 (t : Nat) ∧ Hid (J (pls i i + t * (d - i)) wq ∧ PlA B F n i d wq)) (fun _ _ vi _ => i - (intOf vi).toNat)
      case atStart => exact ⟨0, by omega, rfl, by rw [Nat.zero_mul]; exact HG.out.1, HG.out.2⟩
      case round =>
        obtain ⟨t, ht, rfl, HT⟩ := hrel
        rename World => wq
        obtain ⟨a0, a1, a2, a3⟩ := HT.out.2
        by_cases hlt : t < i
        · have hib : (t : Int) < (i : Int) := by omega
          gi_wp2
          gi_loopw [7] (fun vj wz => ∃ j : Nat, i ≤ j ∧ j ≤ d ∧ vj = .int .i64 (j : Nat) ∧ Hid (J (pls i i + t * (d - i) + (j - i)) wz ∧ PlA B F n i d wz)) (fun vj _ => d - (intOf vj).toNat)
          case atStart => exact ⟨i, by omega, by omega, rfl, by rw [Nat.sub_self]; exact HT.out.1, HT.out.2⟩
          case round =>
            obtain ⟨j, hj1, hj, rfl, HQ⟩ := hrel
            rename World => wz
            obtain ⟨a0, a1, a2, a3⟩ := HQ.out.2
            by_cases hjl : j < d
            · have hjb : (j : Int) < (d : Int) := by omega
              have hYl := HY.out (pls i i + t * (d - i) + (j - i)) #[.int .i64 (t : Nat), .int .i64 (j : Nat)] wz (by have h1 : (t + 1) * (d - i) ≤ i * (d - i) := Nat.mul_le_mul_right _ (by omega); rw [Nat.succ_mul] at h1; omega) HQ.out.1 ⟨t, j, rfl, hlt, Or.inr ⟨hj1, hjl, rfl⟩⟩
              obtain ⟨fn, tmps, assign, body, hy, hR⟩ := hYl
              gi_wp2
              refine ⟨rfl, hR.mono ?_⟩
              rintro e Y ⟨rfl, hS, hK⟩
              have HQ2 : Hid (J (pls i i + t * (d - i) + (j + 1 - i)) Y ∧ PlA B F n i d Y) := by
                refine ⟨?_, HQ.out.2.kpo hK HB.out⟩
                rw [show pls i i + t * (d - i) + (j + 1 - i) = pls i i + t * (d - i) + (j - i) + 1 by omega]; exact hS
              clear hR hy hS hK a0 a1 a2 a3
              gi_wp2
              exact ⟨⟨j + 1, by omega, by omega, by go_num, HQ2⟩, by simp [intOf]; omega⟩
            · have hjb : ¬ (j : Int) < (d : Int) := by omega
              have hje : j = d := by omega
              subst hje
              have HQ2 : Hid (J (pls i i + (t + 1) * (j - i)) wz ∧ PlA B F n i j wz) := by
                refine ⟨?_, HQ.out.2⟩
                rw [Nat.succ_mul, ← Nat.add_assoc]; exact HQ.out.1
              gi_wp2
              exact ⟨⟨t + 1, by omega, by go_num, HQ2⟩, by simp [intOf]; omega⟩
        · have hib : ¬ (t : Int) < (i : Int) := by omega
          have hte : t = i := by omega
          subst hte
          gi_wp2
          exact ⟨rfl, .tuple #[], by simp [results, Try.results79, go_sem], ⟨_, rfl⟩, HT.out.1⟩
end Go.Proofs.Ytbofcldmgjeklaa
