/- Texts of ours, one behind the other: KD12 KD13 S30. -/
import Derived.Test.YtnjbnamcedfjaaaGreatZKD6
import Derived.Test.YtnjbnamcedfjaaaGreatZU12
import Derived.Test.YtnjbnamcedfjaaaGreatZY1
import Derived.Test.YtnjbnamcedfjaaaGreatZKD11
import Derived.Test.YtnjbnamcedfjaaaGreatZKD8
import Derived.Test.YtnjbnamcedfjaaaGreatZS13
/- At how many places a message's word differs: the reference's Off, of words with lost places. -/
namespace Go.Proofs.YtnjbnamcedfjaaaGreat
open Go.RowKit Go.Sort

set_option maxHeartbeats 8000000 in
set_option maxRecDepth 100000 in
theorem roffl_any {D : FD} (hD : D ∈ fieldsL) (gen gm cm : Nat) {xo yo ao : Option Addr} {n cx cy k ca : Nat} {xs a : Nat → Nat} {y : Nat → Int} {w : World} (hn : n ≤ 64) (hk : k ≤ 64) (hX : Sl xo n xs w) (hY : SlZ yo n y w) (hA : Sl ao k a w) (hlx : LtB xo w.heap.size) (hly : LtB yo w.heap.size) (hla : LtB ao w.heap.size) (hx : ∀ i, i < n → xs i < D.q) (ha : El D a) (hM : ModAt D (.slice (some ⟨gm, 0, none⟩) (D.m + 1) cm) D.md w) :
    Calls Tryz.prog 54 #[.agg #[.int .i64 D.q, .int .i64 D.p, .int .i64 D.m, .int .i64 gen, .slice (some ⟨gm, 0, none⟩) (D.m + 1) cm], .slice xo n cx, .slice yo n cy, .slice ao k ca] w fun e w' => e = .returned (.tuple #[.int .i64 (ct (fun i => !decide (y i = -1) && !decide (((D.ev a (xs i) k : Nat) : Int) = y i)) n : Nat), .int .i64 (ct (fun i => !decide (y i = -1)) n : Nat)]) ∧ Below w.heap.size w w' := by
  obtain ⟨wa, hwa⟩ : ∃ wa, wa = w.alloc (.cells #[.int .i64 D.q, .int .i64 D.p, .int .i64 D.m, .int .i64 gen, .slice (some ⟨gm, 0, none⟩) (D.m + 1) cm] 28) := ⟨_, rfl⟩
  have hba : Below w.heap.size w wa := by rw [hwa]; exact (Below.refl _ _).alloc (Nat.le_refl _) _
  have HF : Hid (D ∈ fieldsL ∧ Sl xo n xs wa ∧ SlZ yo n y wa ∧ Sl ao k a wa ∧ LtB xo wa.heap.size ∧ LtB yo wa.heap.size ∧ LtB ao wa.heap.size ∧ (∀ i, i < n → xs i < D.q) ∧ El D a ∧ ModAt D (.slice (some ⟨gm, 0, none⟩) (D.m + 1) cm) D.md wa ∧ Below w.heap.size w wa) := ⟨hD, hX.below hba hlx, hY.below hba hly, hA.below hba hla, hlx.mono hba.size, hly.mono hba.size, hla.mono hba.size, hx, ha, hM.below hba, hba⟩
  have HX : Hid (Box w.heap.size D gen (.slice (some ⟨gm, 0, none⟩) (D.m + 1) cm) wa ∧ wa.heap.size = w.heap.size + 1) := ⟨by rw [hwa]; exact box_new D gen _ w, by rw [hwa]; simp⟩
  clear hD hX hY hA hlx hly hla hx ha hM hba
  go_enter Tryz.func54, Tryz.ntmps54
  go_wp2
  rw [← hwa]
  clear hwa
  go_loopw [10, 11, 12] (fun ve vn vi wr => ∃ (i e f : Nat), i ≤ n ∧ e ≤ i ∧ f ≤ i ∧ ve = .int .i64 (e : Nat) ∧ vn = .int .i64 (f : Nat) ∧ vi = .int .i64 i ∧ Hid ((e = ct (fun i => !decide (y i = -1) && !decide (((D.ev a (xs i) k : Nat) : Int) = y i)) i ∧ f = ct (fun i => !decide (y i = -1)) i) ∧ Below wa.heap.size wa wr)) (fun _ _ vi _ => n - (intOf vi).toNat)
  case atStart => exact ⟨0, 0, 0, by omega, by omega, by omega, rfl, rfl, rfl, ⟨rfl, rfl⟩, Below.refl _ _⟩
  case round =>
    obtain ⟨i, e, f, hi, hei, hfi, rfl, rfl, rfl, HG⟩ := hrel
    rename World => wr
    by_cases hlt : i < n
    · have hib : (i : Int) < (n : Int) := by omega
      have hib0 : (0 : Int) ≤ (i : Int) := by omega
      obtain ⟨bx, ox, hxo, hcx⟩ := (HF.out.2.1.below HG.out.2 HF.out.2.2.2.2.1) i hlt
      subst hxo
      obtain ⟨bY, oY, hyo, hcy⟩ := (HF.out.2.2.1.below HG.out.2 HF.out.2.2.2.2.2.1) i hlt
      subst hyo
      obtain ⟨x, hx⟩ : ∃ x, x = xs i := ⟨_, rfl⟩
      obtain ⟨v, hv⟩ : ∃ v, v = y i := ⟨_, rfl⟩
      rw [← hx] at hcx
      rw [← hv] at hcy
      obtain ⟨u, hu⟩ : ∃ u, u = D.val a k x k := ⟨_, rfl⟩
      by_cases hvl : v = -1
      · have hz0 : (v == -1) = true := by rw [hvl]; rfl
        have HV : Hid ((e = ct (fun i => !decide (y i = -1) && !decide (((D.ev a (xs i) k : Nat) : Int) = y i)) (i + 1) ∧ f = ct (fun i => !decide (y i = -1)) (i + 1)) ∧ Below wa.heap.size wa wr) := by
          refine ⟨⟨?_, ?_⟩, HG.out.2⟩
          · show e = ct _ i + if (!decide (y i = -1) && _) = true then 1 else 0
            rw [← hv, hvl, ← HG.out.1.1]; rfl
          · show f = ct _ i + if (!decide (y i = -1)) = true then 1 else 0
            rw [← hv, hvl, ← HG.out.1.2]; rfl
        clear hx hv hu hvl HG
        go_wp2
        go_roundw
        case rel => exact ⟨i + 1, e, f, by omega, by omega, by omega, rfl, rfl, by go_num, HV.out⟩
        case measure => simp [intOf]; omega
      have hz0 : (v == -1) = false := beq_eq_false_iff_ne.2 hvl
      have HVL : Hid (y i ≠ -1) := by show _ ≠ _; rw [← hv]; exact hvl
      clear hvl
      have hxq : x < D.q := by rw [hx]; exact HF.out.2.2.2.2.2.2.2.1 i hlt
      have HC : Hid (∀ d os, Calls Tryz.prog 16 #[.agg #[.int .i64 D.q, .int .i64 D.p, .int .i64 D.m, .int .i64 gen, .slice (some ⟨gm, 0, none⟩) (D.m + 1) cm], .slice ao k ca, .int .i64 (x : Nat)] (grow (redrawn wr d) os) fun e w'' => e = .returned (.int .i64 (u : Nat)) ∧ ∃ p : Regrown, w'' = grow (redrawn wr p.d) p.os) := fun d os => by
        have hb := bel_up' HG.out.2 (below_regrown wr d os)
        rw [hu]
        exact Calls.regrown_of (rpat_any HF.out.1 gen gm cm hxq (by omega) HF.out.2.2.2.2.2.2.2.2.1 (HF.out.2.2.2.2.2.2.1.mono hb.size) (HF.out.2.2.2.1.below hb HF.out.2.2.2.2.2.2.1) (HF.out.2.2.2.2.2.2.2.2.2.1.below hb))
      have HUV : Hid (decide (((D.ev a (xs i) k : Nat) : Int) = y i) = decide (((u : Nat) : Int) = v)) := by
        show _ = _
        rw [hu, hv, val_is (fld HF.out.1) x k HF.out.2.2.2.2.2.2.2.2.1 hxq, hx]
      have hbx := HX.out.1.below (B := wa.heap.size) HG.out.2 (by have := HX.out.2; omega)
      have k0 := cell_regrown hbx.c0
      have k1 := cell_regrown hbx.c1
      have k2 := cell_regrown hbx.c2
      have k3 := cell_regrown hbx.c3
      have k4 := cell_regrown hbx.c4
      have k5 := cell_regrown hcx
      have k6 := cell_regrown hcy
      have HB2 : Hid (Below wa.heap.size wa wr) := HG.out.2
      clear hx hv hu hxq hbx hcx
      by_cases huv : ((u : Nat) : Int) = v
      · have hz : (((u : Nat) : Int) != v) = false := by rw [huv]; simp
        have HV : Hid (e = ct (fun i => !decide (y i = -1) && !decide (((D.ev a (xs i) k : Nat) : Int) = y i)) (i + 1) ∧ f + 1 = ct (fun i => !decide (y i = -1)) (i + 1)) := by
          refine ⟨?_, ?_⟩
          · show e = ct _ i + if (!decide (y i = -1) && !decide (((D.ev a (xs i) k : Nat) : Int) = y i)) = true then 1 else 0
            rw [HUV.out, decide_eq_true huv, ← HG.out.1.1, decide_eq_false HVL.out]; rfl
          · show f + 1 = ct _ i + if (!decide (y i = -1)) = true then 1 else 0
            rw [← HG.out.1.2, decide_eq_false HVL.out]; rfl
        clear huv HG
        go_wp2
        refine wp_region_quiet_below (by kernel_rfl) (by kernel_rfl) ?_
        repeat (go_big_quiet_step (first | (go_at_call 16; exact HC.out _ _)))
        refine wpQuiet_nil ?_
        intro _ hw'
        obtain ⟨⟨dr, osr⟩, hw''⟩ := hw'
        subst hw''
        go_wp2
        go_roundw
        case rel => exact ⟨i + 1, e, f + 1, by omega, by omega, by omega, rfl, by go_num, by go_num, HV.out, bel_up' HB2.out (below_regrown wr dr osr)⟩
        case measure => simp [intOf]; omega
      · have hz : (((u : Nat) : Int) != v) = true := bne_iff_ne.2 huv
        have HV : Hid (e + 1 = ct (fun i => !decide (y i = -1) && !decide (((D.ev a (xs i) k : Nat) : Int) = y i)) (i + 1) ∧ f + 1 = ct (fun i => !decide (y i = -1)) (i + 1)) := by
          refine ⟨?_, ?_⟩
          · show e + 1 = ct _ i + if (!decide (y i = -1) && !decide (((D.ev a (xs i) k : Nat) : Int) = y i)) = true then 1 else 0
            rw [HUV.out, decide_eq_false huv, ← HG.out.1.1, decide_eq_false HVL.out]; rfl
          · show f + 1 = ct _ i + if (!decide (y i = -1)) = true then 1 else 0
            rw [← HG.out.1.2, decide_eq_false HVL.out]; rfl
        clear huv HG
        go_wp2
        refine wp_region_quiet_below (by kernel_rfl) (by kernel_rfl) ?_
        repeat (go_big_quiet_step (first | (go_at_call 16; exact HC.out _ _)))
        refine wpQuiet_nil ?_
        intro _ hw'
        obtain ⟨⟨dr, osr⟩, hw''⟩ := hw'
        subst hw''
        go_wp2
        go_roundw
        case rel => exact ⟨i + 1, e + 1, f + 1, by omega, by omega, by omega, by go_num, by go_num, by go_num, HV.out, bel_up' HB2.out (below_regrown wr dr osr)⟩
        case measure => simp [intOf]; omega
    · have hib : ¬ (i : Int) < (n : Int) := by omega
      have hie : n = i := by omega
      subst hie
      go_wp2
      go_ret2
      exact ⟨by rw [← HG.out.1.1, ← HG.out.1.2]; rfl, bel_up' HF.out.2.2.2.2.2.2.2.2.2.2 HG.out.2⟩
end Go.Proofs.YtnjbnamcedfjaaaGreat

/- The program's reed: Solve. -/
namespace Go.Proofs.YtnjbnamcedfjaaaGreat
open Go.RowKit Go.Sort

theorem enters_be : ∀ args w, (callFunc 48 args).run Tryz.prog w = .ok (.enter 48 args) w :=
  enters_of Tryz.func48 (by kernel_rfl) rfl
set_option maxHeartbeats 2000000 in
set_option maxRecDepth 100000 in
theorem solve_ok {D : FD} (hD : D ∈ fieldsL) {xo wo : Option Addr} {n cx cw k m : Nat} {c c' y' : Nat → Nat} {y : Nat → Int} {w : World} (hX : Arg xo n cx (fun j => ((c j : Nat) : Int)) w) (hY : Arg wo n cw y w) (hn : n ≤ 64) (hk1 : 1 ≤ k) (hk : k ≤ n)
    (hWd : Calls Tryz.prog 19 #[.int .i64 D.q, .slice xo n cx, .int .i64 (k : Nat), .slice wo n cw] w fun e w' => e = .returned (.int .i64 0) ∧ Below w.heap.size w w')
    (hH : Heard D n c y m c' y') :
    Calls Tryz.prog 37 #[.int .i64 D.q, .slice xo n cx, .int .i64 (k : Nat), .slice wo n cw] w (MendP D m k c' y' w) := by
  have HM : Hid (Calls Tryz.prog 47 #[.int .i64 D.q, .slice xo n cx, .int .i64 (k : Nat), .slice wo n cw, .func (.func 48) #[] #[]] w (MendP D m k c' y' w)) := by
    refine mend_ok hD enters_be hX hY hn hk1 hk hWd hH (fun F T g wx ao bo ac bc hat ha hb hkm => ?_)
    have e : (#[Value.agg #[.pointer (some ⟨F, 0, none⟩), .int .i64 (k : Nat), .slice ao m ac, .slice bo m bc]] ++ #[] : Array Value) = #[.agg #[.pointer (some ⟨F, 0, none⟩), .int .i64 (k : Nat), .slice ao m ac, .slice bo m bc]] := rfl
    rw [e]
    exact byEquations_any hD hat ha hb (by have := hH.le; omega) hk1 hkm hH.cq hH.ne hH.yq
  clear hX hY hWd hH
  go_enter Tryz.func37, Tryz.ntmps37
  go_wp2_with fail
  refine HM.out.mono ?_
  rintro e w1 ⟨hb, ⟨a, ha, v, rfl, hv⟩ | ⟨hno, rfl⟩⟩
  · have H1 : Hid (Below w.heap.size w w1 ∧ NearH D m k c' y' a ∧ OwnP w.heap.size v k a w1) := ⟨hb, ha, hv⟩
    clear hb ha hv
    go_wp2
    refine bodyPost_ret (results_four rfl _ _ _) rfl ?_
    exact ⟨H1.out.1, Or.inl ⟨a, H1.out.2.1, v, rfl, H1.out.2.2⟩⟩
  · have H1 : Hid (Below w.heap.size w w1 ∧ ∀ a, ¬ NearH D m k c' y' a) := ⟨hb, hno⟩
    clear hb hno
    go_wp2
    refine bodyPost_ret (results_four rfl _ _ _) rfl ?_
    exact ⟨H1.out.1, Or.inr ⟨H1.out.2, rfl⟩⟩
end Go.Proofs.YtnjbnamcedfjaaaGreat

/- Plain mathematics of words that are mended by what makes rows 0 (the reference's way). No Go text here. -/
namespace Go.Proofs.YtnjbnamcedfjaaaGreat
open Go.RowKit Go.Sort

/-- The row of one place: the number times the powers, then the powers' opposites. -/
def rvq (D : FD) (x y t K : Nat) : Nat → Nat := fun c => if c < t + 1 then D.mul y (D.xp x c) else if c < t + 1 + K then D.ng (D.xp x (c - (t + 1))) else 0
theorem rvq_el {D : FD} (F : Fld D) (x y t K : Nat) : El D (rvq D x y t K) := fun c => by
  unfold rvq
  split
  · exact F.mul_lt _ _
  · split
    · exact ng_lt F (xp_lt F _ _)
    · exact zero_lt' F
theorem rvq_bd (D : FD) (x y t K : Nat) : Bd (t + 1 + K) (rvq D x y t K) := fun c hc => by
  unfold rvq
  rw [if_neg (by omega), if_neg (by omega)]
theorem dot_pow {D : FD} (F : Fld D) (x y : Nat) {u v : Nat → Nat} (hu : El D u) : ∀ m, (∀ c, c < m → v c = D.mul y (D.xp x c)) → dot D v u m = D.mul y (D.ev u x m)
  | 0, _ => (mul0 F y).symm
  | m + 1, h => by
    show D.ad (dot D v u m) (D.mul (v m) (u m)) = D.mul y (D.ad (D.ev u x m) (D.mul (u m) (D.xp x m)))
    rw [dot_pow F x y hu m (fun c hc => h c (by omega)), h m (by omega), mul_ad F (ev_lt F _ _ _) (F.mul_lt _ _), F.mul_assoc, F.mul_comm (D.xp x m)]
theorem rvq_dot {D : FD} (F : Fld D) (x y t : Nat) {u : Nat → Nat} (hu : El D u) : ∀ K, dot D (rvq D x y t K) u (t + 1 + K) = D.sb (D.mul y (D.ev u x (t + 1))) (D.ev (fun c => u (t + 1 + c)) x K)
  | 0 => by
    rw [Nat.add_zero, dot_pow F x y hu (v := rvq D x y t 0) (t + 1) (fun c hc => if_pos hc)]
    show _ = D.sb _ 0
    rw [sb_zero F (F.mul_lt _ _)]
  | K + 1 => by
    have ih := rvq_dot F x y t hu K
    show D.ad (dot D (rvq D x y t (K + 1)) u (t + 1 + K)) (D.mul (rvq D x y t (K + 1) (t + 1 + K)) (u (t + 1 + K))) = _
    have e1 : dot D (rvq D x y t (K + 1)) u (t + 1 + K) = dot D (rvq D x y t K) u (t + 1 + K) := dot_congr _ fun j hj => ⟨by
      unfold rvq
      by_cases h : j < t + 1
      · rw [if_pos h, if_pos h]
      · rw [if_neg h, if_neg h, if_pos (by omega), if_pos (by omega)], rfl⟩
    have e2 : rvq D x y t (K + 1) (t + 1 + K) = D.ng (D.xp x K) := by
      unfold rvq
      rw [if_neg (by omega), if_pos (by omega), Nat.add_sub_cancel_left]
    rw [e1, e2, ih]
    show _ = D.sb (D.mul y (D.ev u x (t + 1))) (D.ad (D.ev (fun c => u (t + 1 + c)) x K) (D.mul (u (t + 1 + K)) (D.xp x K)))
    have hA := F.mul_lt y (D.ev u x (t + 1))
    have hB := ev_lt F (fun c => u (t + 1 + c)) x K
    have hC := F.mul_lt (u (t + 1 + K)) (D.xp x K)
    rw [sb_ad2 F hA hB hC, F.mul_comm (D.ng _), mul_ng F (xp_lt F _ _)]
    rfl
/-- Where a near message is, the rows can be made 0. -/
theorem null_have {D : FD} (F : Fld D) {xs y a : Nat → Nat} {n k t : Nat} (hx : ∀ i, i < n → xs i < D.q) (ho : ofs D k n xs y a ≤ t) :
    ∃ u, El D u ∧ Bd (t + 1 + (t + k)) u ∧ u ≠ pnil ∧ ∀ i, i < n → dot D (rvq D (xs i) (y i) t (t + k)) u (t + 1 + (t + k)) = 0 := by
  obtain ⟨E, h1, h2, h3, h4⟩ := loc_ex F (err := fun i => !decide (D.ev a (xs i) k = y i)) hx ho
  have hpb : Bd (t + k) (pmul D k a E) := by
    have := pmul_bd F (a := a) h2 k
    rw [show k + (t + 1) - 1 = t + k by omega] at this
    exact this
  have hpe := el_mul F a E k
  obtain ⟨u, hu⟩ : ∃ u : Nat → Nat, u = fun c => if c < t + 1 then E c else pmul D k a E (c - (t + 1)) := ⟨_, rfl⟩
  have hue : El D u := fun c => by
    rw [hu]
    show (if c < t + 1 then E c else pmul D k a E (c - (t + 1))) < D.q
    split
    · exact h1 c
    · exact hpe _
  refine ⟨u, hue, fun c hc => ?_, fun hz => ?_, fun i hi => ?_⟩
  · rw [hu]
    show (if c < t + 1 then E c else pmul D k a E (c - (t + 1))) = 0
    rw [if_neg (by omega)]
    exact hpb _ (by omega)
  · have h5 := congrFun hz t
    rw [hu] at h5
    have h6 : (if t < t + 1 then E t else pmul D k a E (t - (t + 1))) = 0 := h5
    rw [if_pos (by omega), h3] at h6
    cases h6
  · rw [rvq_dot F (xs i) (y i) t hue (t + k)]
    have e1 : D.ev u (xs i) (t + 1) = D.ev E (xs i) (t + 1) := ev_congr (xs i) _ fun c hc => by rw [hu]; exact if_pos hc
    have e2 : (fun c => u (t + 1 + c)) = pmul D k a E := by
      funext c
      rw [hu]
      show (if t + 1 + c < t + 1 then _ else pmul D k a E (t + 1 + c - (t + 1))) = _
      rw [if_neg (by omega), Nat.add_sub_cancel_left]
    have e3 : D.ev (pmul D k a E) (xs i) (t + k) = D.mul (D.ev a (xs i) k) (D.ev E (xs i) (t + 1)) := by
      rw [← ev_from F (xs i) hpb (show t + k ≤ k + (t + 1) by omega), ev_mul F (xs i) h2 h1 k (k + (t + 1)) (Nat.le_refl _)]
    have e4 : D.mul (D.ev a (xs i) k) (D.ev E (xs i) (t + 1)) = D.mul (y i) (D.ev E (xs i) (t + 1)) := by
      by_cases e : D.ev a (xs i) k = y i
      · rw [e]
      · rw [h4 i hi (by simp [e]), mul0 F, mul0 F]
    rw [e1, e2, e3, e4, sb_self F (F.mul_lt _ _)]
/-- The second part. -/
def rst2 (t : Nat) (s : Nat → Nat) : Nat → Nat := fun c => s (t + 1 + c)
/-- Whatever makes the rows 0 and is not 0 tells the near message. -/
theorem null_find {D : FD} (F : Fld D) {xs y a s : Nat → Nat} {n k t : Nat} (hw : k + t + t ≤ n) (hx : ∀ i, i < n → xs i < D.q) (hne : ∀ i j, i < n → j < n → i ≠ j → xs i ≠ xs j) (hs : El D s) (hb : Bd (t + 1 + (t + k)) s) (h0 : s ≠ pnil)
    (he : ∀ i, i < n → dot D (rvq D (xs i) (y i) t (t + k)) s (t + 1 + (t + k)) = 0) (ho : ofs D k n xs y a ≤ t) : rst2 t s = pmul D k a (cutN (t + 1) s) ∧ dgn (cutN (t + 1) s) (t + 1) ≠ 0 := by
  have eE : El D (cutN (t + 1) s) := fun c => by
    unfold cutN
    split
    · exact hs c
    · exact zero_lt' F
  have bE : Bd (t + 1) (cutN (t + 1) s) := fun c hc => by unfold cutN; exact if_neg (by omega)
  have key : rst2 t s = pmul D k a (cutN (t + 1) s) := by
    refine key_eq F (y := y) (M := t + k) (by omega) (by omega) hx hne (fun c => hs _) (fun c hc => hb _ (by omega)) eE bE ho (fun i hi => ?_)
    have h := he i hi
    rw [rvq_dot F (xs i) (y i) t hs (t + k)] at h
    have e1 : D.ev (cutN (t + 1) s) (xs i) (t + 1) = D.ev s (xs i) (t + 1) := ev_congr (xs i) _ fun c hc => if_pos hc
    rw [e1]
    exact (sb_eq_zero F (F.mul_lt _ _) (ev_lt F _ _ _) h).symm
  refine ⟨key, fun hd => h0 ?_⟩
  have hE0 : cutN (t + 1) s = pnil := by
    have h1 := dgn_bd bE
    rw [hd] at h1
    funext c
    exact h1 c (Nat.zero_le _)
  rw [hE0] at key
  funext c
  by_cases hc : c < t + 1
  · have := congrFun hE0 c
    unfold cutN at this
    rw [if_pos hc] at this
    exact this
  · have h2 := congrFun key (c - (t + 1))
    have h3 : s (t + 1 + (c - (t + 1))) = pmul D k a pnil (c - (t + 1)) := h2
    rw [show t + 1 + (c - (t + 1)) = c by omega] at h3
    rw [h3, pmul_nil_r F a k]; rfl
end Go.Proofs.YtnjbnamcedfjaaaGreat
