/- Texts of ours, one behind the other: Z8 Z9 Z10. -/
import Derived.Test.YtjkncdmbcckcdaaZZ5
import Derived.Test.YtjkncdmbcckcdaaZW10
import Derived.Test.YtjkncdmbcckcdaaZV5
import Derived.Test.YtjkncdmbcckcdaaZS4
import Derived.Test.YtjkncdmbcckcdaaZV9
import Derived.Test.YtjkncdmbcckcdaaZT1
/- At how many places a message's word differs: the reference's Off, of whole words. -/
namespace Go.Proofs.Ytjkncdmbcckcdaa
open Go.RowKit Go.Sort

set_option maxHeartbeats 8000000 in
set_option maxRecDepth 100000 in
theorem roff_any {D : FD} (hD : D ∈ fieldsL) (gen gm cm : Nat) {xo yo ao : Option Addr} {n cx cy k ca : Nat} {xs y a : Nat → Nat} {w : World} (hn : n ≤ 64) (hk : k ≤ 64) (hX : Sl xo n xs w) (hY : Sl yo n y w) (hA : Sl ao k a w) (hlx : LtB xo w.heap.size) (hly : LtB yo w.heap.size) (hla : LtB ao w.heap.size) (hx : ∀ i, i < n → xs i < D.q) (ha : El D a) (hM : ModAt D (.slice (some ⟨gm, 0, none⟩) (D.m + 1) cm) D.md w) :
    Calls Try.prog 45 #[.agg #[.int .i64 D.q, .int .i64 D.p, .int .i64 D.m, .int .i64 gen, .slice (some ⟨gm, 0, none⟩) (D.m + 1) cm], .slice xo n cx, .slice yo n cy, .slice ao k ca] w fun e w' => e = .returned (.tuple #[.int .i64 (ct (fun i => !decide (D.ev a (xs i) k = y i)) n : Nat), .int .i64 (n : Nat)]) ∧ Below w.heap.size w w' := by
  obtain ⟨wa, hwa⟩ : ∃ wa, wa = w.alloc (.cells #[.int .i64 D.q, .int .i64 D.p, .int .i64 D.m, .int .i64 gen, .slice (some ⟨gm, 0, none⟩) (D.m + 1) cm] 27) := ⟨_, rfl⟩
  have hba : Below w.heap.size w wa := by rw [hwa]; exact (Below.refl _ _).alloc (Nat.le_refl _) _
  have HF : Hid (D ∈ fieldsL ∧ Sl xo n xs wa ∧ Sl yo n y wa ∧ Sl ao k a wa ∧ LtB xo wa.heap.size ∧ LtB yo wa.heap.size ∧ LtB ao wa.heap.size ∧ (∀ i, i < n → xs i < D.q) ∧ El D a ∧ ModAt D (.slice (some ⟨gm, 0, none⟩) (D.m + 1) cm) D.md wa ∧ Below w.heap.size w wa) := ⟨hD, hX.below hba hlx, hY.below hba hly, hA.below hba hla, hlx.mono hba.size, hly.mono hba.size, hla.mono hba.size, hx, ha, hM.below hba, hba⟩
  have HX : Hid (Box w.heap.size D gen (.slice (some ⟨gm, 0, none⟩) (D.m + 1) cm) wa ∧ wa.heap.size = w.heap.size + 1) := ⟨by rw [hwa]; exact box_new D gen _ w, by rw [hwa]; simp⟩
  clear hD hX hY hA hlx hly hla hx ha hM hba
  go_enter Try.func45, Try.ntmps45
  go_wp2
  rw [← hwa]
  clear hwa
  go_loopw [10, 11, 12] (fun ve vn vi wr => ∃ (i e : Nat), i ≤ n ∧ e ≤ i ∧ ve = .int .i64 (e : Nat) ∧ vn = .int .i64 (i : Nat) ∧ vi = .int .i64 i ∧ Hid (e = ct (fun i => !decide (D.ev a (xs i) k = y i)) i ∧ Below wa.heap.size wa wr)) (fun _ _ vi _ => n - (intOf vi).toNat)
  case atStart => exact ⟨0, 0, by omega, by omega, rfl, rfl, rfl, rfl, Below.refl _ _⟩
  case round =>
    obtain ⟨i, e, hi, hei, rfl, rfl, rfl, HG⟩ := hrel
    rename World => wr
    by_cases hlt : i < n
    · have hib : (i : Int) < (n : Int) := by omega
      have hib0 : (0 : Int) ≤ (i : Int) := by omega
      obtain ⟨bx, ox, hxo, hcx⟩ := (HF.out.2.1.below HG.out.2 HF.out.2.2.2.2.1) i hlt
      subst hxo
      obtain ⟨bY, oY, hyo, hcy⟩ := (HF.out.2.2.1.below HG.out.2 HF.out.2.2.2.2.2.1) i hlt
      subst hyo
      obtain ⟨x, hx⟩ : ∃ x, x = xs i := ⟨_, rfl⟩
      obtain ⟨v, hv⟩ : ∃ v, v = y i := ⟨_, rfl⟩
      rw [← hx] at hcx
      rw [← hv] at hcy
      obtain ⟨u, hu⟩ : ∃ u, u = D.val a k x k := ⟨_, rfl⟩
      have hz0 : (((v : Nat) : Int) == -1) = false := by rw [beq_eq_false_iff_ne]; omega
      have hxq : x < D.q := by rw [hx]; exact HF.out.2.2.2.2.2.2.2.1 i hlt
      have HC : Hid (∀ d os, Calls Try.prog 85 #[.agg #[.int .i64 D.q, .int .i64 D.p, .int .i64 D.m, .int .i64 gen, .slice (some ⟨gm, 0, none⟩) (D.m + 1) cm], .slice ao k ca, .int .i64 (x : Nat)] (grow (redrawn wr d) os) fun e w'' => e = .returned (.int .i64 (u : Nat)) ∧ ∃ p : Regrown, w'' = grow (redrawn wr p.d) p.os) := fun d os => by
        have hb := bel_up' HG.out.2 (below_regrown wr d os)
        rw [hu]
        exact Calls.regrown_of (rpat_any HF.out.1 gen gm cm hxq (by omega) HF.out.2.2.2.2.2.2.2.2.1 (HF.out.2.2.2.2.2.2.1.mono hb.size) (HF.out.2.2.2.1.below hb HF.out.2.2.2.2.2.2.1) (HF.out.2.2.2.2.2.2.2.2.2.1.below hb))
      have HUV : Hid (decide (D.ev a (xs i) k = y i) = decide (u = v)) := by
        show _ = _
        rw [hu, hv, val_is (fld HF.out.1) x k HF.out.2.2.2.2.2.2.2.2.1 hxq, hx]
      have hbx := HX.out.1.below (B := wa.heap.size) HG.out.2 (by have := HX.out.2; omega)
      have k0 := cell_regrown hbx.c0
      have k1 := cell_regrown hbx.c1
      have k2 := cell_regrown hbx.c2
      have k3 := cell_regrown hbx.c3
      have k4 := cell_regrown hbx.c4
      have k5 := cell_regrown hcx
      have k6 := cell_regrown hcy
      have HB2 : Hid (Below wa.heap.size wa wr) := HG.out.2
      clear hx hv hu hxq hbx hcx
      by_cases huv : u = v
      · have hz : (((u : Nat) : Int) != ((v : Nat) : Int)) = false := by rw [huv]; simp
        have HV : Hid (e = ct (fun i => !decide (D.ev a (xs i) k = y i)) (i + 1)) := by
          show e = ct (fun i => !decide (D.ev a (xs i) k = y i)) i + if (!decide (D.ev a (xs i) k = y i)) = true then 1 else 0
          rw [HUV.out, decide_eq_true huv, ← HG.out.1]; rfl
        clear huv HG
        go_wp2
        refine wp_region_quiet_below (by kernel_rfl) (by kernel_rfl) ?_
        repeat (go_big_quiet_step (first | (go_at_call 85; exact HC.out _ _)))
        refine wpQuiet_nil ?_
        intro _ hw'
        obtain ⟨⟨dr, osr⟩, hw''⟩ := hw'
        subst hw''
        go_wp2
        go_roundw
        case rel => exact ⟨i + 1, e, by omega, by omega, rfl, by go_num, by go_num, HV.out, bel_up' HB2.out (below_regrown wr dr osr)⟩
        case measure => simp [intOf]; omega
      · have hz : (((u : Nat) : Int) != ((v : Nat) : Int)) = true := by rw [bne_iff_ne]; omega
        have HV : Hid (e + 1 = ct (fun i => !decide (D.ev a (xs i) k = y i)) (i + 1)) := by
          show e + 1 = ct (fun i => !decide (D.ev a (xs i) k = y i)) i + if (!decide (D.ev a (xs i) k = y i)) = true then 1 else 0
          rw [HUV.out, decide_eq_false huv, ← HG.out.1]; rfl
        clear huv HG
        go_wp2
        refine wp_region_quiet_below (by kernel_rfl) (by kernel_rfl) ?_
        repeat (go_big_quiet_step (first | (go_at_call 85; exact HC.out _ _)))
        refine wpQuiet_nil ?_
        intro _ hw'
        obtain ⟨⟨dr, osr⟩, hw''⟩ := hw'
        subst hw''
        go_wp2
        go_roundw
        case rel => exact ⟨i + 1, e + 1, by omega, by omega, by go_num, by go_num, by go_num, HV.out, bel_up' HB2.out (below_regrown wr dr osr)⟩
        case measure => simp [intOf]; omega
    · have hib : ¬ (i : Int) < (n : Int) := by omega
      have hie : n = i := by omega
      subst hie
      go_wp2
      go_ret2
      exact ⟨by rw [← HG.out.1]; rfl, bel_up' HF.out.2.2.2.2.2.2.2.2.2.2 HG.out.2⟩
end Go.Proofs.Ytjkncdmbcckcdaa

/- All near messages: the program's Within. -/
namespace Go.Proofs.Ytjkncdmbcckcdaa
open Go.RowKit Go.Sort

/-- Of the first a messages those whose words differ at r places at most. -/
def nrL (D : FD) (k1 n : Nat) (xs y : Nat → Nat) (r : Int) : Nat → List (Nat × (Nat → Nat))
  | 0 => []
  | a + 1 => nrL D k1 n xs y r a ++ if ((ct (fun i => !decide (D.ev (dgs D.q (k1 + 1) a) (xs i) (k1 + 1) = y i)) n : Nat) : Int) ≤ r then [(k1, dgs D.q (k1 + 1) a)] else []
theorem nrL_len {D : FD} {k1 n : Nat} {xs y : Nat → Nat} {r : Int} : ∀ a, (nrL D k1 n xs y r a).length ≤ a
  | 0 => Nat.le_refl _
  | a + 1 => by
    show (nrL D k1 n xs y r a ++ _).length ≤ a + 1
    have := nrL_len (D := D) (k1 := k1) (n := n) (xs := xs) (y := y) (r := r) a
    rw [List.length_append]
    split <;> simp <;> omega
theorem dgs_el {D : FD} (F : Fld D) (k a : Nat) : El D (dgs D.q k a) := fun j => by
  unfold dgs
  split
  · exact Nat.mod_lt _ (zero_lt' F)
  · exact zero_lt' F

set_option maxHeartbeats 8000000 in
set_option maxRecDepth 100000 in
theorem lwithin_any {D : FD} (hD : D ∈ fieldsL) {xo yo : Option Addr} {n cx cy k k1 N : Nat} {xs y : Nat → Nat} (r : Int) {w : World} (hk1 : k = k1 + 1) (hN : N = D.q ^ k) (hN2 : N ≤ 4096) (hn1 : 1 ≤ n) (hn : n ≤ 64) (hcn : n ≤ cx) (hx : ∀ i, i < n → xs i < D.q) (hne : ∀ i j, i < n → j < n → i ≠ j → xs i ≠ xs j) (hX : Sl xo n xs w) (hlx : LtB xo w.heap.size) (hk : k ≤ n) (hY : Sl yo n y w) (hly : LtB yo w.heap.size)
    (hCk : Calls Try.prog 48 #[.int .i64 D.q, .slice xo n cx, .int .i64 (k : Nat), .slice yo n cy] w fun e w' => e = .returned (.int .i64 0) ∧ Below w.heap.size w w') :
    Calls Try.prog 13 #[.int .i64 D.q, .slice xo n cx, .int .i64 (k : Nat), .slice yo n cy, .int .i64 r] w fun e w' => ∃ v, e = .returned (.tuple #[v, .int .i64 0]) ∧ LLs w.heap.size v (nrL D k1 n xs y r N) w' ∧ Below w.heap.size w w' := by
  have h2q := (fld hD).q2
  have h64 := (fld hD).q64
  have HF : Hid (D ∈ fieldsL ∧ (∀ i, i < n → xs i < D.q) ∧ (∀ i j, i < n → j < n → i ≠ j → xs i ≠ xs j) ∧ Sl xo n xs w ∧ LtB xo w.heap.size ∧ Sl yo n y w ∧ LtB yo w.heap.size ∧ k = k1 + 1) := ⟨hD, hx, hne, hX, hlx, hY, hly, hk1⟩
  have HCk : Hid (Calls Try.prog 48 #[.int .i64 D.q, .slice xo n cx, .int .i64 (k : Nat), .slice yo n cy] w fun e w' => e = .returned (.int .i64 0) ∧ Below w.heap.size w w') := hCk
  have HMs : Hid (∀ wx, Calls Try.prog 49 #[.int .i64 D.q, .int .i64 k] wx fun e w' => w' = wx ∧ e = .returned (.tuple #[.int .i64 (N : Nat), .int .i64 0])) := fun wx => by
    refine (messages_any hN h2q h64 (by omega) wx).mono ?_
    rintro e w' ⟨h1, ⟨_, h2⟩ | ⟨h3, _⟩⟩
    · exact ⟨h1, h2⟩
    · omega
  have hk0 : 1 ≤ k := by omega
  clear hD hx hne hX hlx hY hly hCk hN hk1
  go_enter Try.func13, Try.ntmps13
  go_wp2_with fail
  refine HCk.out.mono ?_
  rintro e w1 ⟨rfl, hb1⟩
  have H1 : Hid (Below w.heap.size w w1) := hb1
  clear hb1
  go_wp2_with fail
  refine (HMs.out w1).mono ?_
  rintro e w' ⟨hw, rfl⟩
  have hw := hw.symm
  subst hw
  go_wp2_with fail
  go_loopw [15, 38] (fun vo vi wr => ∃ a : Nat, a ≤ N ∧ vi = .int .i64 a ∧ Hid (LLs w.heap.size vo (nrL D k1 n xs y r a) wr ∧ Below w.heap.size w wr)) (fun _ vi _ => N - (intOf vi).toNat)
  case atStart => exact ⟨0, by omega, rfl, ⟨[], OwnV.nil _ _, Elms.nil _⟩, H1.out⟩
  case round =>
    obtain ⟨a, haN, rfl, HG⟩ := hrel
    rename World => wA
    by_cases hlt : a < N
    · have hib : (a : Int) < (N : Int) := by omega
      go_wp2_with fail
      refine (ldigits_any h2q h64 (by omega) (by omega) wA).mono ?_
      rintro e w2 ⟨rfl, hrow2, hb2⟩
      obtain ⟨g, hg⟩ : ∃ g, g = wA.heap.size := ⟨_, rfl⟩
      have H2 : Hid (Row g k (dgs D.q k a) w2 ∧ Below wA.heap.size wA w2 ∧ Below w.heap.size w w2) := ⟨by rw [hg]; exact hrow2, hb2, bel_up' HG.out.2 hb2⟩
      rw [← hg]
      clear hrow2 hb2 hg
      go_wp2_with fail
      refine (encode_ok HF.out.1 hn1 hn hcn HF.out.2.1 HF.out.2.2.1 (HF.out.2.2.2.1.below H2.out.2.2 HF.out.2.2.2.2.1) (HF.out.2.2.2.2.1.mono H2.out.2.2.size) hk0 hk (dgs_el (fld HF.out.1) k a) (H2.out.1.sl (Nat.le_refl _)) (fun p hp => by cases hp; exact H2.out.1.lt)).mono ?_
      rintro e w3 ⟨g3, rfl, hrow3, hb3⟩
      have H3 : Hid (Row g3 n (fun i => D.ev (dgs D.q k a) (xs i) k) w3 ∧ Row g k (dgs D.q k a) w3 ∧ Below wA.heap.size wA w3 ∧ Below w.heap.size w w3) := ⟨hrow3, H2.out.1.below hb3 H2.out.1.lt, bel_up' H2.out.2.1 hb3, bel_up' H2.out.2.2 hb3⟩
      clear hrow3 hb3
      obtain ⟨ap, hap⟩ : ∃ ap, ap = ct (fun i => !decide (D.ev (dgs D.q k a) (xs i) k = y i)) n := ⟨_, rfl⟩
      have HAp : Hid (Calls Try.prog 52 #[.slice (some ⟨g3, 0, none⟩) n n, .slice yo n cy] w3 fun e w' => e = .returned (.int .i64 (ap : Nat)) ∧ w' = w3) := by
        rw [hap]
        exact apart_any (H3.out.1.sl (Nat.le_refl _)) (HF.out.2.2.2.2.2.1.below H3.out.2.2.2 HF.out.2.2.2.2.2.2.1) (by omega)
      have HNx : Hid (nrL D k1 n xs y r (a + 1) = nrL D k1 n xs y r a ++ if (ap : Int) ≤ r then [(k1, dgs D.q k a)] else []) := by
        show nrL D k1 n xs y r a ++ _ = _
        rw [hap, HF.out.2.2.2.2.2.2.2]
      clear hap
      go_wp2_with fail
      refine HAp.out.mono ?_
      rintro e w' ⟨rfl, hw⟩
      have hw := hw.symm
      subst hw
      obtain ⟨lst, hov, hels⟩ := HG.out.1
      have hll : lst.length ≤ 1000000 := by rw [hels.1]; have := nrL_len (D := D) (k1 := k1) (n := n) (xs := xs) (y := y) (r := r) a; omega
      have HV : Hid (OwnV w.heap.size u15 lst w3 ∧ Elms lst (nrL D k1 n xs y r a) w3 ∧ Elm (.slice (some ⟨g, 0, none⟩) k k) (k1, dgs D.q k a) w3) := by
        refine ⟨hov.below H3.out.2.2.1 (Nat.le_refl _), hels.below H3.out.2.2.1 (Nat.le_refl _), ⟨g, k, by rw [HF.out.2.2.2.2.2.2.2], by rw [HF.out.2.2.2.2.2.2.2]; exact Nat.le_refl _, by omega, ?_⟩⟩
        show Row g (k1 + 1) _ w3
        rw [← HF.out.2.2.2.2.2.2.2]; exact H3.out.2.1
      have hs3 := H3.out.2.2.2.size
      clear hov hels
      by_cases hle : (ap : Int) ≤ r
      · have HN2 : Hid (nrL D k1 n xs y r (a + 1) = nrL D k1 n xs y r a ++ [(k1, dgs D.q k a)]) := by show _ = _; rw [HNx.out, if_pos hle]
        go_wp2_with (at_builtin; refine append_sl rfl _ _ rfl w.heap.size u15 lst rfl (HV.out.1.below ((Below.refl _ _).alloc (Nat.le_refl _) _) (Nat.le_refl _)) ⟨w3.heap.size, 0, none⟩ 1 (.slice (some ⟨g, 0, none⟩) k k) rfl rfl (by rw [cell_of_row _ _ _ _ _ (0, 0) (two_new _)]; rfl) hll (by simp; omega) ?_; intro v' w6 hown6 hg6)
        have hal : Below w3.heap.size w3 (w3.alloc (.cells #[.slice (some ⟨g, 0, none⟩) k k] 22)) := (Below.refl _ _).alloc (Nat.le_refl _) _
        have ho := HV.out.1.below hal (Nat.le_refl _)
        have HR : Hid (LLs w.heap.size v' (nrL D k1 n xs y r (a + 1)) w6 ∧ Below w.heap.size w w6) := by
          refine ⟨⟨_, hown6, ?_⟩, (bel_up' H3.out.2.2.2 hal).grown hg6 (by simp; omega) (fun q hq => ho.open_ge q hq)⟩
          have h := ((HV.out.2.1.below hal (Nat.le_refl _)).snoc (HV.out.2.2.below hal (Nat.le_refl _))).grown ho hg6
          rw [HN2.out]
          exact h
        clear hown6 hg6 ho hal
        go_roundw
        case rel => exact ⟨a + 1, by omega, by go_num, HR.out⟩
        case measure => simp [intOf]; omega
      · have HR : Hid (LLs w.heap.size u15 (nrL D k1 n xs y r (a + 1)) w3 ∧ Below w.heap.size w w3) := by
          refine ⟨⟨lst, HV.out.1, ?_⟩, H3.out.2.2.2⟩
          rw [HNx.out, if_neg hle, List.append_nil]
          exact HV.out.2.1
        go_wp2
        go_roundw
        case rel => exact ⟨a + 1, by omega, by go_num, HR.out⟩
        case measure => simp [intOf]; omega
    · have hib : ¬ (a : Int) < (N : Int) := by omega
      have hae : N = a := by omega
      subst hae
      go_wp2
      go_ret2
      exact ⟨_, rfl, HG.out.1, HG.out.2⟩
end Go.Proofs.Ytjkncdmbcckcdaa

/- All near messages: the reference's Near. -/
namespace Go.Proofs.Ytjkncdmbcckcdaa
open Go.RowKit Go.Sort

theorem dnum_dgs' {q k a : Nat} (hq : 2 ≤ q) (ha : a < q ^ k) : ∀ i, i ≤ k → dnum q (dgs q k a) i = a / q ^ (k - i)
  | 0, _ => by rw [Nat.sub_zero, Nat.div_eq_of_lt ha]; rfl
  | i + 1, hi => by
    rw [dnum, dnum_dgs' hq ha i (by omega)]
    unfold dgs
    rw [if_pos (by omega), show k - 1 - i = k - (i + 1) from by omega]
    obtain ⟨b, hb⟩ : ∃ b, b = a / q ^ (k - (i + 1)) := ⟨_, rfl⟩
    have e : a / q ^ (k - i) = b / q := by
      rw [hb, Nat.div_div_eq_div_mul, ← Nat.pow_succ, show (k - (i + 1)).succ = k - i from by omega]
    rw [e, ← hb, Nat.mul_comm]
    exact Nat.div_add_mod b q
theorem dnum_dgs {q k a : Nat} (hq : 2 ≤ q) (ha : a < q ^ k) : dnum q (dgs q k a) k = a := by
  rw [dnum_dgs' hq ha k (Nat.le_refl _), Nat.sub_self, Nat.pow_zero, Nat.div_one]
theorem dgs_lt {q k a : Nat} (hq : 2 ≤ q) (j : Nat) : dgs q k a j < q := by
  unfold dgs
  split
  · exact Nat.mod_lt _ (by omega)
  · omega
/-- The digits, and a 1 behind them. -/
def dgm (q k a : Nat) : Nat → Nat := fun j => if j = k then 1 else dgs q k a j
theorem dgm_mn {D : FD} (F : Fld D) (k a : Nat) : Mn D k (dgm D.q k a) := by
  refine ⟨fun j => ?_, fun j hj => ?_, if_pos rfl⟩
  · unfold dgm
    split
    · exact one_lt' F
    · exact dgs_lt F.q2 j
  · unfold dgm dgs
    rw [if_neg (by omega), if_neg (by omega)]
theorem dgm_lo {q k a j : Nat} (hj : j < k) : dgm q k a j = dgs q k a j := if_neg (by omega)
theorem dgs_next {D : FD} (F : Fld D) {k a : Nat} {c : Nat → Nat} (ha : a < D.q ^ k) (hc : Mn D k c) (h : Aft D k (dgm D.q k a) k c) : a + 1 < D.q ^ k ∧ ∀ j, j < k → c j = dgs D.q k (a + 1) j := by
  have h1 : dnum D.q c k = a + 1 := by
    rcases h with ⟨_, h⟩ | ⟨h, _⟩
    · rw [h, dnum_congr (e := dgs D.q k a) k (fun j hj => dgm_lo hj), dnum_dgs F.q2 ha]
    · omega
  have h2 : a + 1 < D.q ^ k := by rw [← h1]; exact dnum_lt k (fun i _ => hc.el i)
  exact ⟨h2, dnum_inj k (fun i _ => hc.el i) (fun i _ => dgs_lt F.q2 i) (by rw [h1, dnum_dgs F.q2 h2])⟩
theorem dgs_last {D : FD} (F : Fld D) {k a : Nat} (ha : a < D.q ^ k) (h : ∀ j, 0 ≤ j → j < k → dgm D.q k a j = D.q - 1) : a + 1 = D.q ^ k := by
  have h1 : ∀ i, i ≤ k → dnum D.q (dgs D.q k a) i + 1 = D.q ^ i := fun i => by
    induction i with
    | zero => intro _; rfl
    | succ i ih =>
      intro hi
      have h2 := h i (by omega) (by omega)
      rw [dgm_lo (by omega)] at h2
      have h3 := F.q2
      rw [dnum, h2, Nat.pow_succ, ← ih (by omega), Nat.add_mul]
      omega
  have h2 := h1 k (Nat.le_refl _)
  rw [dnum_dgs F.q2 ha] at h2; exact h2
theorem dgs_zero {q k j : Nat} : dgs q k 0 j = 0 := by
  unfold dgs
  split
  · rw [Nat.zero_div, Nat.zero_mod]
  · rfl
end Go.Proofs.Ytjkncdmbcckcdaa
