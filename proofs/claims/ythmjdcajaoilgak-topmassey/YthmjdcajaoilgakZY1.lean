/- Texts of ours, one behind the other: Y1 Y2. -/
import Derived.Test.YthmjdcajaoilgakZO2
import Derived.Test.YthmjdcajaoilgakZH2
import Derived.Test.YthmjdcajaoilgakZL10
/- The program's rules (reed): trim, missed, less. -/
namespace Go.Proofs.Ythmjdcajaoilgak
open Go.RowKit Go.Sort

set_option maxHeartbeats 2000000 in
set_option maxRecDepth 100000 in
theorem etrim_any {ao : Option Addr} {n cap : Nat} {c : Nat → Nat} {w : World} (h : Sl ao n c w) (hn : n ≤ cap) (hcap : cap ≤ 9223372036854775807) (hn6 : n ≤ 1000000) :
    Calls Try.prog 67 #[.slice ao n cap] w fun e w' => e = .returned (.slice ao (dgn c n) cap) ∧ w' = w := by
  have HS : Hid (Sl ao n c w) := h
  clear h
  go_enter Try.func67, Try.ntmps67
  go_wp2
  go_loopw [0] (fun va wr => ∃ m : Nat, m ≤ n ∧ va = .slice ao m cap ∧ Hid (dgn c n = dgn c m) ∧ wr = w) (fun va _ => match va with | .slice _ m _ => m | _ => 0)
  case atStart => exact ⟨n, Nat.le_refl _, rfl, (show Hid _ from rfl), rfl⟩
  case round =>
    obtain ⟨m, hm, rfl, HD, hw⟩ := hrel
    have hw := hw.symm
    subst hw
    cases m with
    | zero =>
      have HE : Hid (dgn c n = 0) := HD.out
      go_wp2
      go_ret
      exact ⟨by rw [HE.out]; rfl, rfl⟩
    | succ m =>
      obtain ⟨b, off, rfl, hc⟩ := HS.out m (by omega)
      have hm1 : (0 : Int) < ((m + 1 : Nat) : Int) := by omega
      have hm2 : (m : Int) < ((m + 1 : Nat) : Int) := by omega
      have hm3 : (m : Int) ≤ (cap : Int) := by omega
      obtain ⟨x, hx⟩ : ∃ x, x = c m := ⟨_, rfl⟩
      rw [← hx] at hc
      by_cases h0 : x = 0
      · have HE : Hid (dgn c n = dgn c m) := by show _ = _; rw [HD.out, dgn, if_pos (by rw [← hx]; exact h0)]
        have hz : (((x : Nat) : Int) == 0) = true := by rw [h0]; rfl
        clear h0 hx
        go_wp2
        go_roundw
        case rel => exact ⟨m, by omega, by go_num, HE.out, by first | rfl | trivial⟩
        case measure => first | (simp; done) | omega
      · have HE : Hid (dgn c n = m + 1) := by show _ = _; rw [HD.out, dgn, if_neg (by rw [← hx]; exact h0)]
        have hz : (((x : Nat) : Int) == 0) = false := by rw [beq_eq_false_iff_ne]; omega
        clear h0 hx
        go_wp2
        go_ret
        exact ⟨by rw [HE.out]; rfl, rfl⟩

set_option maxHeartbeats 2000000 in
set_option maxRecDepth 100000 in
theorem missed_any {F T : Nat} {D : FD} (hD : D ∈ fieldsL) {g : Nat → Value} {w : World} (hat : FAt F T D g w) {ro so : Option Addr} {lc rc i sc : Nat} {C s : Nat → Nat} (hC : El D C) (hs : El D s) (hR : Sl ro lc C w) (hS : Sl so (i + 1) s w) (hl : lc ≤ i + 1) (hi : i ≤ 1000) :
    Calls Try.prog 65 #[.pointer (some ⟨F, 0, none⟩), .slice ro lc rc, .slice so (i + 1) sc] w fun e w' => e = .returned (.int .i64 (pmul D lc C s i : Nat)) ∧ ∃ k, w' = w.drewN k := by
  have HF : Hid (D ∈ fieldsL ∧ FAt F T D g w ∧ El D C ∧ El D s ∧ Sl ro lc C w ∧ Sl so (i + 1) s w) := ⟨hD, hat, hC, hs, hR, hS⟩
  obtain ⟨n, hn⟩ : ∃ n, n = i + 1 := ⟨_, rfl⟩
  rw [← hn]
  have HN : Hid (n = i + 1) := hn
  have hln : lc ≤ n := by omega
  have hn2 : n ≤ 1001 := by omega
  clear hD hat hC hs hR hS hn hl
  go_enter Try.func65, Try.ntmps65
  go_wp2
  go_loopw [7, 12] (fun vs vi wr => ∃ (r x : Nat), r ≤ lc ∧ vs = .int .i64 (x : Nat) ∧ vi = .int .i64 r ∧ Hid (x = pmul D r C s i) ∧ ∃ k, wr = w.drewN k) (fun _ vi _ => lc - (intOf vi).toNat)
  case atStart => exact ⟨0, 0, by omega, rfl, rfl, (show Hid _ from rfl), 0, rfl⟩
  case round =>
    obtain ⟨r, x, hr, rfl, rfl, HX, k, rfl⟩ := hrel
    by_cases hlt : r < lc
    · have hib : (r : Int) < (lc : Int) := by omega
      obtain ⟨bC, oC, rfl, hcC⟩ := HF.out.2.2.2.2.1 r hlt
      obtain ⟨ir, hir⟩ : ∃ ir, ir = i - r := ⟨_, rfl⟩
      obtain ⟨bS, oS, rfl, hcS⟩ := HF.out.2.2.2.2.2 ir (by omega)
      have hsum : n = ir + r + 1 := by have := HN.out; omega
      have hw1 : IntKind.i64.wrap ((n : Int) - 1) = ((ir + r : Nat) : Int) := wrap_to (by omega) (by omega)
      have hw2 : IntKind.i64.wrap (((ir + r : Nat) : Int) - (r : Int)) = (ir : Int) := wrap_to (by omega) (by omega)
      have hw3 : (n : Int) - 1 - (r : Int) = (ir : Int) := by omega
      have hib2 : (ir : Int) < (n : Int) := by omega
      have hib3 : (0 : Int) ≤ (ir : Int) := by omega
      obtain ⟨cx, hcx⟩ : ∃ cx, cx = C r := ⟨_, rfl⟩
      obtain ⟨sx, hsx⟩ : ∃ sx, sx = s ir := ⟨_, rfl⟩
      rw [← hcx] at hcC
      rw [← hsx] at hcS
      obtain ⟨y, hy⟩ : ∃ y, y = D.mul cx sx := ⟨_, rfl⟩
      obtain ⟨u, hu⟩ : ∃ u, u = D.ad x y := ⟨_, rfl⟩
      have F' := fld HF.out.1
      have HC1 : Hid (∀ d, Calls Try.prog 20 #[.pointer (some ⟨F, 0, none⟩), .int .i64 (cx : Nat), .int .i64 (sx : Nat)] (w.drewN d) fun e w' => e = .returned (.int .i64 (y : Nat)) ∧ ∃ k, w' = w.drewN k) := fun d => by
        rw [hy]
        refine (mul_nat HF.out.1 (HF.out.2.1.drewN d) (by rw [hcx]; exact HF.out.2.2.1 r) (by rw [hsx]; exact HF.out.2.2.2.1 ir)).mono ?_
        rintro e w' ⟨rfl, k, rfl⟩
        exact ⟨rfl, d + k, by rw [World.drewN_drewN]⟩
      have HC2 : Hid (∀ d, Calls Try.prog 19 #[.pointer (some ⟨F, 0, none⟩), .int .i64 (x : Nat), .int .i64 (y : Nat)] (w.drewN d) fun e w' => e = .returned (.int .i64 (u : Nat)) ∧ ∃ k, w' = w.drewN k) := fun d => by
        rw [hu]
        refine (add_nat HF.out.1 (HF.out.2.1.drewN d) (by rw [HX.out]; exact el_mul F' _ _ _ _) (by rw [hy]; exact F'.mul_lt _ _)).mono ?_
        rintro e w' ⟨rfl, k, rfl⟩
        exact ⟨rfl, d + k, by rw [World.drewN_drewN]⟩
      have HV : Hid (u = pmul D (r + 1) C s i) := by
        show u = D.ad (pmul D r C s i) (psh r (pscale D (C r) s) i)
        have hri : r ≤ i := by have := HN.out; omega
        rw [hu, hy, HX.out, hcx, hsx, hir]
        unfold psh
        rw [if_pos hri]; rfl
      clear hcx hsx hy hu F' hir hsum
      go_wp2_with fail
      refine (HC1.out _).mono ?_
      rintro e w1 ⟨rfl, k1, rfl⟩
      go_wp2_with fail
      refine (HC2.out _).mono ?_
      rintro e w2 ⟨rfl, k2, rfl⟩
      go_wp2
      go_roundw
      case rel => exact ⟨r + 1, u, by omega, rfl, by go_num, HV.out, _, rfl⟩
      case measure => simp [intOf]; omega
    · have hib : ¬ (r : Int) < (lc : Int) := by omega
      have hre : lc = r := by omega
      subst hre
      go_wp2
      go_ret
      exact ⟨by rw [HX.out]; rfl, _, rfl⟩

set_option maxHeartbeats 4000000 in
set_option maxRecDepth 100000 in
theorem eless_any {F T : Nat} {D : FD} (hD : D ∈ fieldsL) {g : Nat → Value} {w : World} (hat : FAt F T D g w) {ao bo : Option Addr} {n m ca cb t : Nat} {a b : Nat → Nat} (hn : n ≤ 1000) (hm : m ≤ 1000) (ha : El D a) (hb : El D b) (hbn : Bd n a) (hbm : Bd m b) (hA : Sl ao n a w) (hB : Sl bo m b w) (hla : LtB ao w.heap.size) (hlb : LtB bo w.heap.size) (ht : t < D.q) :
    Calls Try.prog 63 #[.pointer (some ⟨F, 0, none⟩), .slice ao n ca, .int .i64 (t : Nat), .slice bo m cb] w fun e w' =>
      e = .returned (.slice (some ⟨w.heap.size, 0, none⟩) (max n m) (max n m)) ∧ Row w.heap.size (max n m) (psub D a (pscale D t b)) w' ∧ Below w.heap.size w w' := by
  have HF : Hid (FAt F T D g w ∧ D ∈ fieldsL ∧ Sl ao n a w ∧ Sl bo m b w ∧ El D a ∧ El D b ∧ Bd n a ∧ Bd m b ∧ LtB ao w.heap.size ∧ LtB bo w.heap.size) := ⟨hat, hD, hA, hB, ha, hb, hbn, hbm, hla, hlb⟩
  clear hat hD hA hB ha hb hbn hbm hla hlb
  obtain ⟨N, hN⟩ : ∃ N, N = max n m := ⟨_, rfl⟩
  rw [← hN]
  have hN2 : N ≤ 1000 := by omega
  have hnN : n ≤ N := by omega
  have hmN : m ≤ N := by omega
  have hmax : (if (n : Int) < (m : Int) then (m : Int) else (n : Int)) = (N : Int) := by split <;> omega
  have HN : Hid (N = max n m) := hN
  clear hN
  go_enter Try.func63, Try.ntmps63
  go_wp2_with (first
    | (at_make; refine make_int rfl _ _ rfl _ N rfl rfl (by have := HN.out; omega) (by omega) ?_; intro w1 hown1 hgrow1)
    | (show wpList _ _ _ (Oper.mk (some 20) _ _ _ _ _ :: _) _ _; (refine copy_int rfl _ _ rfl w.heap.size N N n ca ao rfl rfl pnil a (row_zeros hown1) (HF.out.2.2.1.below (below_grown hgrow1 (Nat.le_refl _) (fun k hk => by simp at hk)) HF.out.2.2.2.2.2.2.2.2.1) hnN w.heap.size w (below_grown hgrow1 (Nat.le_refl _) (fun k hk => by simp at hk)) (Nat.le_refl _) ?_); intro w2 hrow2 hb2))
  all_goals
    have HB1 : Hid (Below w.heap.size w w2 ∧ Row w.heap.size N a w2) := ⟨hb2, hrow2.congr (fun k _ => by show (if k < n then a k else pnil k) = a k; split; rfl; exact (HF.out.2.2.2.2.2.2.1 k (by omega)).symm)⟩
    clear hown1 hgrow1 hb2 hrow2
    obtain ⟨gr, hg⟩ : ∃ g, g = w.heap.size := ⟨_, rfl⟩
    have HB2 : Hid (Below w.heap.size w w2 ∧ Row gr N a w2 ∧ gr = w.heap.size) := by rw [hg]; exact ⟨HB1.out.1, HB1.out.2, rfl⟩
    rw [← hg]
    have hgD : w.heap.size ≤ gr := by omega
    clear HB1 hg
    go_loopw [23] (fun i wr => ∃ r : Nat, r ≤ m ∧ i = .int .i64 r ∧ Hid (Row gr N (fun k => if k < r then D.sb (a k) (D.mul t (b k)) else a k) wr ∧ Below w.heap.size w wr)) (fun i _ => m - (intOf i).toNat)
    case atStart => exact ⟨0, by omega, rfl, HB2.out.2.1.congr (fun k _ => by rw [if_neg (by omega)]), HB2.out.1⟩
    case round =>
      obtain ⟨r, hr, rfl, HG⟩ := hrel
      rename World => wr
      by_cases hlt : r < m
      · obtain ⟨bb, offb, rfl, hcb⟩ := (HF.out.2.2.2.1.below HG.out.2 HF.out.2.2.2.2.2.2.2.2.2) r hlt
        have hco : wr.cell? ⟨gr, r, none⟩ = some (.int .i64 (a r : Nat)) := by
          have h := HG.out.1.cell r (by omega)
          rw [if_neg (by omega)] at h; exact h
        have hfo := HG.out.1.free r
        obtain ⟨ax, hax⟩ : ∃ ax, ax = a r := ⟨_, rfl⟩
        obtain ⟨bx, hbx⟩ : ∃ bx, bx = b r := ⟨_, rfl⟩
        rw [← hax] at hco
        rw [← hbx] at hcb
        obtain ⟨y, hy⟩ : ∃ y, y = D.mul t bx := ⟨_, rfl⟩
        obtain ⟨u, hu⟩ : ∃ u, u = D.sb ax y := ⟨_, rfl⟩
        have F' := fld HF.out.2.1
        have hatr := HF.out.1.below HG.out.2 HF.out.1.ltF HF.out.1.ltT
        have HC1 : Hid (∀ d, Calls Try.prog 20 #[.pointer (some ⟨F, 0, none⟩), .int .i64 (t : Nat), .int .i64 (bx : Nat)] (wr.drewN d) fun e w' => e = .returned (.int .i64 (y : Nat)) ∧ ∃ k, w' = (wr.drewN d).drewN k) := fun d => by
          rw [hy]; exact mul_nat HF.out.2.1 (hatr.drewN d) ht (by rw [hbx]; exact HF.out.2.2.2.2.2.1 r)
        have HC2 : Hid (∀ d, Calls Try.prog 22 #[.pointer (some ⟨F, 0, none⟩), .int .i64 (ax : Nat), .int .i64 (y : Nat)] (wr.drewN d) fun e w' => e = .returned (.int .i64 (u : Nat)) ∧ ∃ k, w' = (wr.drewN d).drewN k) := fun d => by
          rw [hu]; exact sub_nat HF.out.2.1 (hatr.drewN d) (by rw [hax]; exact HF.out.2.2.2.2.1 r) (by rw [hy]; exact F'.mul_lt _ _)
        have HV : Hid (∀ k, k < N → (if k < r + 1 then D.sb (a k) (D.mul t (b k)) else a k) = if k = r then u else if k < r then D.sb (a k) (D.mul t (b k)) else a k) := fun k _ => by
          rw [hu, hy, hax, hbx]
          by_cases e : k = r
          · rw [if_pos e, if_pos (by omega), e]
          · rw [if_neg e]
            by_cases e2 : k < r
            · rw [if_pos e2, if_pos (by omega)]
            · rw [if_neg e2, if_neg (by omega)]
        have hib : (r : Int) < (N : Int) := by omega
        have hib2 : (r : Int) < (m : Int) := by omega
        clear hax hbx hy hu F' hatr
        go_wp2
        refine quiet_tail 13 (by kernel_rfl) (by kernel_rfl) ?_
        simp only [List.take_succ_cons, List.take_zero, List.drop_succ_cons, List.drop_zero]
        repeat (go_big_quiet_step (first | (go_at_call 20; exact Calls.quiet_of (HC1.out _)) | (go_at_call 22; exact Calls.quiet_of (HC2.out _)) | fail))
        refine wpQuiet_nil ?_
        intro _ hw'
        obtain ⟨nq, hw''⟩ := hw'
        subst hw''
        go_wp2
        go_roundw
        case rel => exact ⟨r + 1, by omega, by go_num, (HG.out.1.drewN nq).store r u HV.out, (below_drewN2 HG.out.2 nq).setCell hgD _⟩
        case measure => simp [intOf]; omega
      · have hib2 : ¬ (r : Int) < (m : Int) := by omega
        have HE : Hid (Row gr N (psub D a (pscale D t b)) wr) := HG.out.1.congr (fun k _ => by
          show (if k < r then D.sb (a k) (D.mul t (b k)) else a k) = D.sb (a k) (D.mul t (b k))
          split
          · rfl
          · rw [HF.out.2.2.2.2.2.2.2.1 k (by omega), mul0 (fld HF.out.2.1), sb_zero (fld HF.out.2.1) (HF.out.2.2.2.2.1 k)])
        go_wp2
        go_ret
        refine ⟨by rw [← HB2.out.2.2]; rfl, ?_, HG.out.2⟩
        rw [← HB2.out.2.2]; exact HE.out
end Go.Proofs.Ythmjdcajaoilgak

/- The program's rules (reed): the shortest one (shortest, Massey). -/
namespace Go.Proofs.Ythmjdcajaoilgak
open Go.RowKit Go.Sort

theorem own_single {base g : Nat} {x : Int} {w : World} (h : w.heap[g]? = some (.cells #[.int .i64 x] 3 (0, 0))) (hb : base ≤ g) : OwnI base (.slice (some ⟨g, 0, none⟩) 1 1) [x] w :=
  ⟨rfl, Or.inr ⟨g, 1, #[.int .i64 x], rfl, hb, h, Nat.le_refl _, by unfold maxLen; omega, rfl, rfl⟩⟩
theorem zl_psh {lo : Nat} {O : Nat → Nat} : ([0] : List Int) ++ zl lo (fun j => ((O j : Nat) : Int)) = zl (lo + 1) (fun j => ((psh 1 O j : Nat) : Int)) := by
  apply List.ext_getElem?
  intro k
  by_cases hk : k < lo + 1
  · rw [zl_get _ _ k hk]
    cases k with
    | zero => simp [psh]
    | succ k =>
      rw [List.getElem?_append_right (by simp), List.length_singleton, Nat.add_sub_cancel, zl_get _ _ k (by omega)]
      simp [psh]
  · rw [List.getElem?_eq_none (by rw [List.length_append, zl_len]; simp; omega), List.getElem?_eq_none (by rw [zl_len]; omega)]
theorem OwnI.argN {base : Nat} {v : Value} {n : Nat} {c : Nat → Nat} {w : World} (h : OwnI base v (zl n fun j => ((c j : Nat) : Int)) w) (hn : n ≤ 1000000) : ∃ so sc, v = .slice so n sc ∧ Arg so n sc (fun j => ((c j : Nat) : Int)) w := by
  obtain ⟨so, sc, e, ha⟩ := h.argL
  exact ⟨so, sc, e, ha.arg hn⟩
theorem row_arg {g n : Nat} {c : Nat → Nat} {w : World} (h : Row g n c w) (hn : n ≤ 1000000) : Arg (some ⟨g, 0, none⟩) n n (fun j => ((c j : Nat) : Int)) w :=
  ⟨h.sl (Nat.le_refl _), fun x hx => (by cases hx; exact h.lt), hn, fun e => (by cases e), Nat.le_refl _, by omega⟩
theorem one_arg {w : World} {g : Nat} (h : w.heap[g]? = some (.cells #[.int .i64 1] 3 (0, 0))) : Arg (some ⟨g, 0, none⟩) 1 1 (fun j => ((pone j : Nat) : Int)) w := by
  have h1 := own_single (base := 0) h (Nat.zero_le _)
  have e : ([1] : List Int) = zl 1 (fun j => ((pone j : Nat) : Int)) := rfl
  rw [e] at h1
  obtain ⟨so, sc, e2, ha⟩ := h1.argN (by omega)
  cases e2
  exact ha

theorem Arg.drewN {ao : Option Addr} {n cap : Nat} {z : Nat → Int} {w : World} (h : Arg ao n cap z w) (k : Nat) : Arg ao n cap z (w.drewN k) := ⟨h.sl, h.lt, h.few, h.nil, h.le, h.cap⟩

set_option maxHeartbeats 8000000 in
set_option maxRecDepth 100000 in
theorem shortest_any {F T : Nat} {D : FD} (hD : D ∈ fieldsL) {g : Nat → Value} {w : World} (hat : FAt F T D g w) {so : Option Addr} {n sc : Nat} {s : Nat → Nat} (hs : El D s) (hS : Sl so n s w) (hn : n ≤ 128) (hsc : n ≤ sc) (hsc2 : sc ≤ 9223372036854775807) (hlS : LtB so w.heap.size) :
    Calls Try.prog 40 #[.pointer (some ⟨F, 0, none⟩), .slice so n sc] w fun e w' => Below w.heap.size w w' ∧ ∃ ro rc C lc L O lo b, e = .returned (.tuple #[.slice ro (dgn C lc) rc, .int .i64 (L : Nat)]) ∧ BMS D s n C lc L O lo b ∧ Arg ro lc rc (fun j => ((C j : Nat) : Int)) w' := by
  have HF : Hid (D ∈ fieldsL ∧ FAt F T D g w ∧ El D s ∧ Sl so n s w ∧ LtB so w.heap.size) := ⟨hD, hat, hs, hS, hlS⟩
  clear hD hat hs hS hlS
  go_enter Try.func40, Try.ntmps40
  go_wp2
  obtain ⟨w1, hw1⟩ : ∃ w1, w1 = w.alloc (.cells #[.int .i64 1] 3) := ⟨_, rfl⟩
  obtain ⟨w2, hw2⟩ : ∃ w2, w2 = w1.alloc (.cells #[.int .i64 1] 3) := ⟨_, rfl⟩
  have hs1 : w1.heap.size = w.heap.size + 1 := by rw [hw1]; simp
  have HB0 : Hid (Below w.heap.size w w2 ∧ Arg (some ⟨w.heap.size, 0, none⟩) 1 1 (fun j => ((pone j : Nat) : Int)) w2 ∧ Arg (some ⟨w1.heap.size, 0, none⟩) 1 1 (fun j => ((pone j : Nat) : Int)) w2) := by
    have b1 : Below w.heap.size w w1 := by rw [hw1]; exact (Below.refl _ _).alloc (Nat.le_refl _) _
    have b2 : Below w1.heap.size w1 w2 := by rw [hw2]; exact (Below.refl _ _).alloc (Nat.le_refl _) _
    refine ⟨bel_up' b1 b2, (one_arg (w := w1) ?_).below b2, one_arg ?_⟩
    · rw [hw1]; exact two_new _
    · rw [hw2]; exact two_new _
  rw [← hw1, ← hw2]
  rw [hs1] at HB0
  clear hw1 hw2 hs1
  go_loopw [4, 5, 6, 7, 15] (fun vr vl vo vb vi wr => ∃ (i lc L lo b : Nat) (ro oo : Option Addr) (rc oc : Nat) (C O : Nat → Nat), i ≤ n ∧ vr = .slice ro lc rc ∧ vl = .int .i64 (L : Nat) ∧ vo = .slice oo lo oc ∧ vb = .int .i64 (b : Nat) ∧ vi = .int .i64 i ∧ Hid (BMS D s i C lc L O lo b ∧ Arg ro lc rc (fun j => ((C j : Nat) : Int)) wr ∧ Arg oo lo oc (fun j => ((O j : Nat) : Int)) wr ∧ Below w.heap.size w wr)) (fun _ _ _ _ vi _ => n - (intOf vi).toNat)
  case atStart => exact ⟨0, 1, 0, 1, 1, _, _, 1, 1, pone, pone, by omega, rfl, rfl, rfl, rfl, rfl, bms_start (fld HF.out.1) s, HB0.out.2.1, HB0.out.2.2, HB0.out.1⟩
  case round =>
    obtain ⟨i, lc, L, lo, b, ro, oo, rc, oc, C, O, hi, rfl, rfl, rfl, rfl, rfl, HG⟩ := hrel
    rename World => wr
    clear HB0
    have hLi : L ≤ i := HG.out.1.le
    have hlc : lc ≤ i + 1 := by have := HG.out.1.lcL; omega
    have hlo : lo ≤ i + 1 := by have := HG.out.1.loL; omega
    by_cases hlt : i < n
    · have hib : (i : Int) < (n : Int) := by omega
      have hw1 : IntKind.i64.wrap ((i : Int) + 1) = ((i + 1 : Nat) : Int) := wrap_to (by omega) (by omega)
      have hcp : ((i + 1 : Nat) : Int) ≤ (sc : Int) := by omega
      have hcp2 : (i : Int) + 1 ≤ (sc : Int) := by omega
      go_wp2_with (at_builtin; refine append_ints rfl _ _ rfl wr.heap.size _ [0] rfl (own_single (two_new _) (Nat.le_refl _)) oo lo oc (fun j => ((O j : Nat) : Int)) rfl (HG.out.2.2.1.sl.below ((Below.refl _ _).alloc (Nat.le_refl _) _) HG.out.2.2.1.lt) HG.out.2.2.1.nil (by simp; omega) (by simp) ?_; intro v' w' hown hgrow)
      have hb1 : Below wr.heap.size wr w' := ((Below.refl _ _).alloc (Nat.le_refl _) _).trans (below_grown hgrow (by simp) (fun k hk => by cases hk; exact Nat.le_refl _))
      rw [zl_psh] at hown
      obtain ⟨no, nc, rfl, hno⟩ := hown.argN (by omega)
      obtain ⟨x, hx⟩ : ∃ x, x = pmul D lc C s i := ⟨_, rfl⟩
      have hb1' : Below w.heap.size w w' := HG.out.2.2.2.trans (hb1.mono HG.out.2.2.2.size)
      have hat' := HF.out.2.1.below hb1' HF.out.2.1.ltF HF.out.2.1.ltT
      have hro := HG.out.2.1.below hb1
      have hSl : Sl so (i + 1) s w' := (HF.out.2.2.2.1.below hb1' HF.out.2.2.2.2).less (by omega)
      have HC1 : Hid (Calls Try.prog 65 #[.pointer (some ⟨F, 0, none⟩), .slice ro lc rc, .slice so (i + 1) sc] w' fun e w2 => e = .returned (.int .i64 (x : Nat)) ∧ ∃ k, w2 = w'.drewN k) := by
        rw [hx]
        exact missed_any HF.out.1 hat' HG.out.1.rul.el HF.out.2.2.1 (show Sl ro lc C w' from hro.sl) hSl hlc (by omega)
      have HN : Hid (Below wr.heap.size wr w' ∧ Below w.heap.size w w' ∧ Arg no (lo + 1) nc (fun j => ((psh 1 O j : Nat) : Int)) w' ∧ FAt F T D g w' ∧ Arg ro lc rc (fun j => ((C j : Nat) : Int)) w' ∧ x = pmul D lc C s i) := ⟨hb1, hb1', hno, hat', hro, hx⟩
      clear hb1 hb1' hno hat' hro hSl hown hgrow hx
      go_wp2_with fail
      refine HC1.out.mono ?_
      rintro e w2 ⟨rfl, k1, rfl⟩
      by_cases h0 : x = 0
      · have hz : (((x : Nat) : Int) == 0) = true := by rw [h0]; rfl
        have HE : Hid (x = 0) := h0
        clear h0
        go_wp2
        go_roundw
        case rel => exact ⟨i + 1, lc, L, lo + 1, b, ro, no, rc, nc, C, psh 1 O, by omega, rfl, rfl, rfl, rfl, by go_num, bms_skip (fld HF.out.1) HG.out.1 (by rw [← HN.out.2.2.2.2.2]; exact HE.out), (HN.out.2.2.2.2.1).drewN k1, (HN.out.2.2.1).drewN k1, below_drewN2 HN.out.2.1 k1⟩
        case measure => simp [intOf]; omega
      · have hz : (((x : Nat) : Int) == 0) = false := by rw [beq_eq_false_iff_ne]; omega
        have HE : Hid (x ≠ 0) := h0
        clear h0
        obtain ⟨bi, hbi⟩ : ∃ bi, bi = D.iv b := ⟨_, rfl⟩
        obtain ⟨y, hy⟩ : ∃ y, y = D.mul x bi := ⟨_, rfl⟩
        obtain ⟨lb, hlb⟩ : ∃ lb, lb = max lc (lo + 1) := ⟨_, rfl⟩
        obtain ⟨C2, hC2⟩ : ∃ C2, C2 = psub D C (pscale D y (psh 1 O)) := ⟨_, rfl⟩
        have F' := fld HF.out.1
        have hxq : x < D.q := by rw [HN.out.2.2.2.2.2]; exact el_mul F' _ _ _ _
        have hyq : y < D.q := by rw [hy]; exact F'.mul_lt _ _
        have HC2 : Hid (∀ d, Calls Try.prog 66 #[.pointer (some ⟨F, 0, none⟩), .int .i64 (b : Nat)] (w'.drewN d) fun e w2 => e = .returned (.int .i64 (bi : Nat)) ∧ ∃ k, w2 = w'.drewN k) := fun d => by
          rw [hbi]
          refine (inv_nat' HF.out.1 (HN.out.2.2.2.1.drewN d) HG.out.1.bq HG.out.1.b0).mono ?_
          rintro e w' ⟨rfl, k, rfl⟩
          exact ⟨rfl, d + k, by rw [World.drewN_drewN]⟩
        have HC3 : Hid (∀ d, Calls Try.prog 20 #[.pointer (some ⟨F, 0, none⟩), .int .i64 (x : Nat), .int .i64 (bi : Nat)] (w'.drewN d) fun e w2 => e = .returned (.int .i64 (y : Nat)) ∧ ∃ k, w2 = w'.drewN k) := fun d => by
          rw [hy]
          refine (mul_nat HF.out.1 (HN.out.2.2.2.1.drewN d) hxq (by rw [hbi]; exact iv_lt HF.out.1 _)).mono ?_
          rintro e w' ⟨rfl, k, rfl⟩
          exact ⟨rfl, d + k, by rw [World.drewN_drewN]⟩
        have HC4 : Hid (∀ d, Calls Try.prog 63 #[.pointer (some ⟨F, 0, none⟩), .slice ro lc rc, .int .i64 (y : Nat), .slice no (lo + 1) nc] (w'.drewN d) fun e w2 => ∃ bo, e = .returned (.slice bo lb lb) ∧ Hid (Arg bo lb lb (fun j => ((C2 j : Nat) : Int)) w2 ∧ Below w'.heap.size w' w2)) := fun d => by
          refine (eless_any HF.out.1 (HN.out.2.2.2.1.drewN d) (by omega) (by omega) HG.out.1.rul.el (el_sh F' 1 HG.out.1.elo) HG.out.1.bdc (sh_bd HG.out.1.bdo) (show Sl ro lc C (w'.drewN d) from HN.out.2.2.2.2.1.sl) (show Sl no (lo + 1) (psh 1 O) (w'.drewN d) from HN.out.2.2.1.sl) HN.out.2.2.2.2.1.lt HN.out.2.2.1.lt hyq).mono ?_
          rintro e w' ⟨rfl, hrow, hb⟩
          rw [← hlb] at hrow ⊢
          rw [← hC2] at hrow
          exact ⟨_, rfl, row_arg hrow (by omega), ⟨hb.os, hb.tape, hb.output, hb.size, hb.block⟩⟩
        have HS := bms_step HF.out.1 HF.out.2.2.1 HG.out.1 HN.out.2.2.2.2.2 HE.out hlb
        rw [← hbi, ← hy, ← hC2] at HS
        have HS : Hid _ := HS
        have hlb2 : lb ≤ 130 := by omega
        clear hbi hy hlb hC2 F' hxq hyq
        go_wp2_with fail
        refine (HC2.out _).mono ?_
        rintro e w2 ⟨rfl, k2, rfl⟩
        go_wp2_with fail
        refine (HC3.out _).mono ?_
        rintro e w2 ⟨rfl, k3, rfl⟩
        go_wp2_with fail
        refine (HC4.out _).mono ?_
        rintro e w3 ⟨bo, rfl, HL⟩
        by_cases h2 : 2 * L ≤ i
        · have hw2 : (2 * (L : Int) ≤ (i : Int)) := by omega
          have hw3 : IntKind.i64.wrap (2 * (L : Int)) = ((2 * L : Nat) : Int) := wrap_to (by omega) (by omega)
          obtain ⟨L2, hL2⟩ : ∃ L2, L2 = i + 1 - L := ⟨_, rfl⟩
          have hw4 : IntKind.i64.wrap (((i + 1 : Nat) : Int) - (L : Int)) = (L2 : Int) := wrap_to (by omega) (by omega)
          have hw5 : (i : Int) + 1 - (L : Int) = (L2 : Int) := by omega
          have HS2 : Hid (BMS D s (i + 1) C2 lb L2 C lc x) := by show BMS _ _ _ _ _ _ _ _ _; rw [hL2]; exact HS.out.1 h2
          have hw6 : ((2 * L : Nat) : Int) ≤ (i : Int) := by omega
          clear h2 hL2
          go_wp2
          go_roundw
          case rel => exact ⟨i + 1, lb, L2, lc, x, bo, ro, lb, rc, C2, C, by omega, rfl, by first | rfl | go_num, rfl, rfl, by go_num, HS2.out, HL.out.1, HN.out.2.2.2.2.1.below HL.out.2, bel_up' HN.out.2.1 HL.out.2⟩
          case measure => simp [intOf]; omega
        · have hw2 : ¬ (2 * (L : Int) ≤ (i : Int)) := by omega
          have hw3 : IntKind.i64.wrap (2 * (L : Int)) = ((2 * L : Nat) : Int) := wrap_to (by omega) (by omega)
          have hw6 : ¬ ((2 * L : Nat) : Int) ≤ (i : Int) := by omega
          have HS2 : Hid (BMS D s (i + 1) C2 lb L (psh 1 O) (lo + 1) b) := HS.out.2 h2
          clear h2
          go_wp2
          go_roundw
          case rel => exact ⟨i + 1, lb, L, lo + 1, b, bo, no, lb, nc, C2, psh 1 O, by omega, rfl, rfl, rfl, rfl, by go_num, HS2.out, HL.out.1, HN.out.2.2.1.below HL.out.2, bel_up' HN.out.2.1 HL.out.2⟩
          case measure => simp [intOf]; omega
    · have hib : ¬ (i : Int) < (n : Int) := by omega
      have hin : n = i := by omega
      subst hin
      have HC1 : Hid (Calls Try.prog 67 #[.slice ro lc rc] wr fun e w2 => e = .returned (.slice ro (dgn C lc) rc) ∧ w2 = wr) := etrim_any (show Sl ro lc C wr from HG.out.2.1.sl) HG.out.2.1.le HG.out.2.1.cap HG.out.2.1.few
      go_wp2_with fail
      refine HC1.out.mono ?_
      rintro e w2 ⟨rfl, rfl⟩
      go_wp2
      go_ret2
      exact ⟨HG.out.2.2.2, ro, rc, C, lc, L, O, lo, b, rfl, HG.out.1, HG.out.2.1⟩
end Go.Proofs.Ythmjdcajaoilgak
