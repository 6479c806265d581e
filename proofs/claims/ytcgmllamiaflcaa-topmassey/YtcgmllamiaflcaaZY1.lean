/- The program's rules (reed): trim, missed, less. -/
import Derived.Test.YtcgmllamiaflcaaZW9
import Derived.Test.YtcgmllamiaflcaaZS8
import Derived.Test.YtcgmllamiaflcaaZK1
namespace Go.Proofs.Ytcgmllamiaflcaa
open Go.RowKit Go.Sort

set_option maxHeartbeats 2000000 in
set_option maxRecDepth 100000 in
theorem etrim_any {ao : Option Addr} {n cap : Nat} {c : Nat → Nat} {w : World} (h : Sl ao n c w) (hn : n ≤ cap) (hcap : cap ≤ 9223372036854775807) (hn6 : n ≤ 1000000) :
    Calls Try.prog 67 #[.slice ao n cap] w fun e w' => e = .returned (.slice ao (dgn c n) cap) ∧ w' = w := by
  have HS : Hid (Sl ao n c w) := h
  clear h
  go_enter Try.func67, Try.ntmps67
  go_wp2
  go_loopw [0] (fun va wr => ∃ m : Nat, m ≤ n ∧ va = .slice ao m cap ∧ Hid (dgn c n = dgn c m) ∧ wr = w) (fun va _ => match va with | .slice _ m _ => m | _ => 0)
  case atStart => exact ⟨n, Nat.le_refl _, rfl, (show Hid _ from rfl), rfl⟩
  case round =>
    obtain ⟨m, hm, rfl, HD, hw⟩ := hrel
    have hw := hw.symm
    subst hw
    cases m with
    | zero =>
      have HE : Hid (dgn c n = 0) := HD.out
      go_wp2
      go_ret
      exact ⟨by rw [HE.out]; rfl, rfl⟩
    | succ m =>
      obtain ⟨b, off, rfl, hc⟩ := HS.out m (by omega)
      have hm1 : (0 : Int) < ((m + 1 : Nat) : Int) := by omega
      have hm2 : (m : Int) < ((m + 1 : Nat) : Int) := by omega
      have hm3 : (m : Int) ≤ (cap : Int) := by omega
      obtain ⟨x, hx⟩ : ∃ x, x = c m := ⟨_, rfl⟩
      rw [← hx] at hc
      by_cases h0 : x = 0
      · have HE : Hid (dgn c n = dgn c m) := by show _ = _; rw [HD.out, dgn, if_pos (by rw [← hx]; exact h0)]
        have hz : (((x : Nat) : Int) == 0) = true := by rw [h0]; rfl
        clear h0 hx
        go_wp2
        go_roundw
        case rel => exact ⟨m, by omega, by go_num, HE.out, by first | rfl | trivial⟩
        case measure => first | (simp; done) | omega
      · have HE : Hid (dgn c n = m + 1) := by show _ = _; rw [HD.out, dgn, if_neg (by rw [← hx]; exact h0)]
        have hz : (((x : Nat) : Int) == 0) = false := by rw [beq_eq_false_iff_ne]; omega
        clear h0 hx
        go_wp2
        go_ret
        exact ⟨by rw [HE.out]; rfl, rfl⟩

set_option maxHeartbeats 2000000 in
set_option maxRecDepth 100000 in
theorem missed_any {F T : Nat} {D : FD} (hD : D ∈ fieldsL) {g : Nat → Value} {w : World} (hat : FAt F T D g w) {ro so : Option Addr} {lc rc i sc : Nat} {C s : Nat → Nat} (hC : El D C) (hs : El D s) (hR : Sl ro lc C w) (hS : Sl so (i + 1) s w) (hl : lc ≤ i + 1) (hi : i ≤ 1000) :
    Calls Try.prog 65 #[.pointer (some ⟨F, 0, none⟩), .slice ro lc rc, .slice so (i + 1) sc] w fun e w' => e = .returned (.int .i64 (pmul D lc C s i : Nat)) ∧ ∃ k, w' = w.drewN k := by
  have HF : Hid (D ∈ fieldsL ∧ FAt F T D g w ∧ El D C ∧ El D s ∧ Sl ro lc C w ∧ Sl so (i + 1) s w) := ⟨hD, hat, hC, hs, hR, hS⟩
  obtain ⟨n, hn⟩ : ∃ n, n = i + 1 := ⟨_, rfl⟩
  rw [← hn]
  have HN : Hid (n = i + 1) := hn
  have hln : lc ≤ n := by omega
  have hn2 : n ≤ 1001 := by omega
  clear hD hat hC hs hR hS hn hl
  go_enter Try.func65, Try.ntmps65
  go_wp2
  go_loopw [7, 12] (fun vs vi wr => ∃ (r x : Nat), r ≤ lc ∧ vs = .int .i64 (x : Nat) ∧ vi = .int .i64 r ∧ Hid (x = pmul D r C s i) ∧ ∃ k, wr = w.drewN k) (fun _ vi _ => lc - (intOf vi).toNat)
  case atStart => exact ⟨0, 0, by omega, rfl, rfl, (show Hid _ from rfl), 0, rfl⟩
  case round =>
    obtain ⟨r, x, hr, rfl, rfl, HX, k, rfl⟩ := hrel
    by_cases hlt : r < lc
    · have hib : (r : Int) < (lc : Int) := by omega
      obtain ⟨bC, oC, rfl, hcC⟩ := HF.out.2.2.2.2.1 r hlt
      obtain ⟨ir, hir⟩ : ∃ ir, ir = i - r := ⟨_, rfl⟩
      obtain ⟨bS, oS, rfl, hcS⟩ := HF.out.2.2.2.2.2 ir (by omega)
      have hsum : n = ir + r + 1 := by have := HN.out; omega
      have hw1 : IntKind.i64.wrap ((n : Int) - 1) = ((ir + r : Nat) : Int) := wrap_to (by omega) (by omega)
      have hw2 : IntKind.i64.wrap (((ir + r : Nat) : Int) - (r : Int)) = (ir : Int) := wrap_to (by omega) (by omega)
      have hw3 : (n : Int) - 1 - (r : Int) = (ir : Int) := by omega
      have hib2 : (ir : Int) < (n : Int) := by omega
      have hib3 : (0 : Int) ≤ (ir : Int) := by omega
      obtain ⟨cx, hcx⟩ : ∃ cx, cx = C r := ⟨_, rfl⟩
      obtain ⟨sx, hsx⟩ : ∃ sx, sx = s ir := ⟨_, rfl⟩
      rw [← hcx] at hcC
      rw [← hsx] at hcS
      obtain ⟨y, hy⟩ : ∃ y, y = D.mul cx sx := ⟨_, rfl⟩
      obtain ⟨u, hu⟩ : ∃ u, u = D.ad x y := ⟨_, rfl⟩
      have F' := fld HF.out.1
      have HC1 : Hid (∀ d, Calls Try.prog 20 #[.pointer (some ⟨F, 0, none⟩), .int .i64 (cx : Nat), .int .i64 (sx : Nat)] (w.drewN d) fun e w' => e = .returned (.int .i64 (y : Nat)) ∧ ∃ k, w' = w.drewN k) := fun d => by
        rw [hy]
        refine (mul_nat HF.out.1 (HF.out.2.1.drewN d) (by rw [hcx]; exact HF.out.2.2.1 r) (by rw [hsx]; exact HF.out.2.2.2.1 ir)).mono ?_
        rintro e w' ⟨rfl, k, rfl⟩
        exact ⟨rfl, d + k, by rw [World.drewN_drewN]⟩
      have HC2 : Hid (∀ d, Calls Try.prog 19 #[.pointer (some ⟨F, 0, none⟩), .int .i64 (x : Nat), .int .i64 (y : Nat)] (w.drewN d) fun e w' => e = .returned (.int .i64 (u : Nat)) ∧ ∃ k, w' = w.drewN k) := fun d => by
        rw [hu]
        refine (add_nat HF.out.1 (HF.out.2.1.drewN d) (by rw [HX.out]; exact el_mul F' _ _ _ _) (by rw [hy]; exact F'.mul_lt _ _)).mono ?_
        rintro e w' ⟨rfl, k, rfl⟩
        exact ⟨rfl, d + k, by rw [World.drewN_drewN]⟩
      have HV : Hid (u = pmul D (r + 1) C s i) := by
        show u = D.ad (pmul D r C s i) (psh r (pscale D (C r) s) i)
        have hri : r ≤ i := by have := HN.out; omega
        rw [hu, hy, HX.out, hcx, hsx, hir]
        unfold psh
        rw [if_pos hri]; rfl
      clear hcx hsx hy hu F' hir hsum
      go_wp2_with fail
      refine (HC1.out _).mono ?_
      rintro e w1 ⟨rfl, k1, rfl⟩
      go_wp2_with fail
      refine (HC2.out _).mono ?_
      rintro e w2 ⟨rfl, k2, rfl⟩
      go_wp2
      go_roundw
      case rel => exact ⟨r + 1, u, by omega, rfl, by go_num, HV.out, _, rfl⟩
      case measure => simp [intOf]; omega
    · have hib : ¬ (r : Int) < (lc : Int) := by omega
      have hre : lc = r := by omega
      subst hre
      go_wp2
      go_ret
      exact ⟨by rw [HX.out]; rfl, _, rfl⟩

set_option maxHeartbeats 4000000 in
set_option maxRecDepth 100000 in
theorem eless_any {F T : Nat} {D : FD} (hD : D ∈ fieldsL) {g : Nat → Value} {w : World} (hat : FAt F T D g w) {ao bo : Option Addr} {n m ca cb t : Nat} {a b : Nat → Nat} (hn : n ≤ 1000) (hm : m ≤ 1000) (ha : El D a) (hb : El D b) (hbn : Bd n a) (hbm : Bd m b) (hA : Sl ao n a w) (hB : Sl bo m b w) (hla : LtB ao w.heap.size) (hlb : LtB bo w.heap.size) (ht : t < D.q) :
    Calls Try.prog 63 #[.pointer (some ⟨F, 0, none⟩), .slice ao n ca, .int .i64 (t : Nat), .slice bo m cb] w fun e w' =>
      e = .returned (.slice (some ⟨w.heap.size, 0, none⟩) (max n m) (max n m)) ∧ Row w.heap.size (max n m) (psub D a (pscale D t b)) w' ∧ Below w.heap.size w w' := by
  have HF : Hid (FAt F T D g w ∧ D ∈ fieldsL ∧ Sl ao n a w ∧ Sl bo m b w ∧ El D a ∧ El D b ∧ Bd n a ∧ Bd m b ∧ LtB ao w.heap.size ∧ LtB bo w.heap.size) := ⟨hat, hD, hA, hB, ha, hb, hbn, hbm, hla, hlb⟩
  clear hat hD hA hB ha hb hbn hbm hla hlb
  obtain ⟨N, hN⟩ : ∃ N, N = max n m := ⟨_, rfl⟩
  rw [← hN]
  have hN2 : N ≤ 1000 := by omega
  have hnN : n ≤ N := by omega
  have hmN : m ≤ N := by omega
  have hmax : (if (n : Int) < (m : Int) then (m : Int) else (n : Int)) = (N : Int) := by split <;> omega
  have HN : Hid (N = max n m) := hN
  clear hN
  go_enter Try.func63, Try.ntmps63
  go_wp2_with (first
    | (at_make; refine make_int rfl _ _ rfl _ N rfl rfl (by have := HN.out; omega) (by omega) ?_; intro w1 hown1 hgrow1)
    | (show wpList _ _ _ (Oper.mk (some 20) _ _ _ _ _ :: _) _ _; (refine copy_int rfl _ _ rfl w.heap.size N N n ca ao rfl rfl pnil a (row_zeros hown1) (HF.out.2.2.1.below (below_grown hgrow1 (Nat.le_refl _) (fun k hk => by simp at hk)) HF.out.2.2.2.2.2.2.2.2.1) hnN w.heap.size w (below_grown hgrow1 (Nat.le_refl _) (fun k hk => by simp at hk)) (Nat.le_refl _) ?_); intro w2 hrow2 hb2))
  all_goals
    have HB1 : Hid (Below w.heap.size w w2 ∧ Row w.heap.size N a w2) := ⟨hb2, hrow2.congr (fun k _ => by show (if k < n then a k else pnil k) = a k; split; rfl; exact (HF.out.2.2.2.2.2.2.1 k (by omega)).symm)⟩
    clear hown1 hgrow1 hb2 hrow2
    obtain ⟨gr, hg⟩ : ∃ g, g = w.heap.size := ⟨_, rfl⟩
    have HB2 : Hid (Below w.heap.size w w2 ∧ Row gr N a w2 ∧ gr = w.heap.size) := by rw [hg]; exact ⟨HB1.out.1, HB1.out.2, rfl⟩
    rw [← hg]
    have hgD : w.heap.size ≤ gr := by omega
    clear HB1 hg
    go_loopw [23] (fun i wr => ∃ r : Nat, r ≤ m ∧ i = .int .i64 r ∧ Hid (Row gr N (fun k => if k < r then D.sb (a k) (D.mul t (b k)) else a k) wr ∧ Below w.heap.size w wr)) (fun i _ => m - (intOf i).toNat)
    case atStart => exact ⟨0, by omega, rfl, HB2.out.2.1.congr (fun k _ => by rw [if_neg (by omega)]), HB2.out.1⟩
    case round =>
      obtain ⟨r, hr, rfl, HG⟩ := hrel
      rename World => wr
      by_cases hlt : r < m
      · obtain ⟨bb, offb, rfl, hcb⟩ := (HF.out.2.2.2.1.below HG.out.2 HF.out.2.2.2.2.2.2.2.2.2) r hlt
        have hco : wr.cell? ⟨gr, r, none⟩ = some (.int .i64 (a r : Nat)) := by
          have h := HG.out.1.cell r (by omega)
          rw [if_neg (by omega)] at h; exact h
        have hfo := HG.out.1.free r
        obtain ⟨ax, hax⟩ : ∃ ax, ax = a r := ⟨_, rfl⟩
        obtain ⟨bx, hbx⟩ : ∃ bx, bx = b r := ⟨_, rfl⟩
        rw [← hax] at hco
        rw [← hbx] at hcb
        obtain ⟨y, hy⟩ : ∃ y, y = D.mul t bx := ⟨_, rfl⟩
        obtain ⟨u, hu⟩ : ∃ u, u = D.sb ax y := ⟨_, rfl⟩
        have F' := fld HF.out.2.1
        have hatr := HF.out.1.below HG.out.2 HF.out.1.ltF HF.out.1.ltT
        have HC1 : Hid (∀ d, Calls Try.prog 20 #[.pointer (some ⟨F, 0, none⟩), .int .i64 (t : Nat), .int .i64 (bx : Nat)] (wr.drewN d) fun e w' => e = .returned (.int .i64 (y : Nat)) ∧ ∃ k, w' = (wr.drewN d).drewN k) := fun d => by
          rw [hy]; exact mul_nat HF.out.2.1 (hatr.drewN d) ht (by rw [hbx]; exact HF.out.2.2.2.2.2.1 r)
        have HC2 : Hid (∀ d, Calls Try.prog 22 #[.pointer (some ⟨F, 0, none⟩), .int .i64 (ax : Nat), .int .i64 (y : Nat)] (wr.drewN d) fun e w' => e = .returned (.int .i64 (u : Nat)) ∧ ∃ k, w' = (wr.drewN d).drewN k) := fun d => by
          rw [hu]; exact sub_nat HF.out.2.1 (hatr.drewN d) (by rw [hax]; exact HF.out.2.2.2.2.1 r) (by rw [hy]; exact F'.mul_lt _ _)
        have HV : Hid (∀ k, k < N → (if k < r + 1 then D.sb (a k) (D.mul t (b k)) else a k) = if k = r then u else if k < r then D.sb (a k) (D.mul t (b k)) else a k) := fun k _ => by
          rw [hu, hy, hax, hbx]
          by_cases e : k = r
          · rw [if_pos e, if_pos (by omega), e]
          · rw [if_neg e]
            by_cases e2 : k < r
            · rw [if_pos e2, if_pos (by omega)]
            · rw [if_neg e2, if_neg (by omega)]
        have hib : (r : Int) < (N : Int) := by omega
        have hib2 : (r : Int) < (m : Int) := by omega
        clear hax hbx hy hu F' hatr
        go_wp2
        refine quiet_tail 13 (by kernel_rfl) (by kernel_rfl) ?_
        simp only [List.take_succ_cons, List.take_zero, List.drop_succ_cons, List.drop_zero]
        repeat (go_big_quiet_step (first | (go_at_call 20; exact Calls.quiet_of (HC1.out _)) | (go_at_call 22; exact Calls.quiet_of (HC2.out _)) | fail))
        refine wpQuiet_nil ?_
        intro _ hw'
        obtain ⟨nq, hw''⟩ := hw'
        subst hw''
        go_wp2
        go_roundw
        case rel => exact ⟨r + 1, by omega, by go_num, (HG.out.1.drewN nq).store r u HV.out, (below_drewN2 HG.out.2 nq).setCell hgD _⟩
        case measure => simp [intOf]; omega
      · have hib2 : ¬ (r : Int) < (m : Int) := by omega
        have HE : Hid (Row gr N (psub D a (pscale D t b)) wr) := HG.out.1.congr (fun k _ => by
          show (if k < r then D.sb (a k) (D.mul t (b k)) else a k) = D.sb (a k) (D.mul t (b k))
          split
          · rfl
          · rw [HF.out.2.2.2.2.2.2.2.1 k (by omega), mul0 (fld HF.out.2.1), sb_zero (fld HF.out.2.1) (HF.out.2.2.2.2.1 k)])
        go_wp2
        go_ret
        refine ⟨by rw [← HB2.out.2.2]; rfl, ?_, HG.out.2⟩
        rw [← HB2.out.2.2]; exact HE.out
end Go.Proofs.Ytcgmllamiaflcaa
