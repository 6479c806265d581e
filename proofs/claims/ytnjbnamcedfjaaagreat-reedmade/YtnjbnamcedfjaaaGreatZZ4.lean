/- Texts of ours, one behind the other: Z4 Z5 Z6 Z7 Z8 Z9 Z10 Z11 Z12 Z13 Q1 Q2 W11 Q3 Q4 Q5 Q6 I1 I3 I4 S12. -/
import Derived.Test.YtnjbnamcedfjaaaGreatZZ1
import Derived.Test.YtnjbnamcedfjaaaGreatZX1
import Derived.Test.YtnjbnamcedfjaaaGreatZY1
import Derived.Test.YtnjbnamcedfjaaaGreatZU12
import Derived.Test.YtnjbnamcedfjaaaGreatZT9
import Derived.Test.YtnjbnamcedfjaaaGreatZU22
import Derived.Test.YtnjbnamcedfjaaaGreatZS2
import Derived.Test.YtnjbnamcedfjaaaGreatZW9
import Derived.Deep.RegionHeld3
import Derived.WalkKit
import Derived.Test.YtnjbnamcedfjaaaGreatZX19
import Derived.Test.YtnjbnamcedfjaaaGreatZL10
import Derived.Test.YtnjbnamcedfjaaaGreatZX12
/- A word that came: may it be? The program's Word. -/
namespace Go.Proofs.YtnjbnamcedfjaaaGreat
open Go.RowKit Go.Sort

def anyB (p : Nat → Bool) : Nat → Bool
  | 0 => false
  | n + 1 => anyB p n || p n
theorem anyB_no {p : Nat → Bool} : ∀ n, (∀ j, j < n → p j = false) → anyB p n = false
  | 0, _ => rfl
  | n + 1, h => by
    show (anyB p n || p n) = false
    rw [anyB_no n (fun j hj => h j (by omega)), h n (by omega)]; rfl
theorem anyB_yes {p : Nat → Bool} {i : Nat} (h : p i = true) : ∀ n, i < n → anyB p n = true
  | 0, hi => absurd hi (by omega)
  | n + 1, hi => by
    show (anyB p n || p n) = true
    by_cases e : i = n
    · rw [← e, h, Bool.or_true]
    · rw [anyB_yes h n (by omega), Bool.true_or]

set_option maxHeartbeats 2000000 in
set_option maxRecDepth 100000 in
theorem containsFn_any {gf : Nat} {lb : Array Value} (eg : ∀ args w, (callFunc gf args).run Tryz.prog w = .ok (.enter gf args) w) {ao : Option Addr} {n cap : Nat} {z : Nat → Int} {p : Nat → Bool} {w : World}
    (hs : SlZ ao n z w) (hn : n ≤ 1000000) (hp : ∀ j, j < n → Calls Tryz.prog gf (#[.int .i64 (z j)] ++ lb) w fun e w' => e = .returned (.bool (p j)) ∧ w' = w) :
    Calls Tryz.prog 32 #[.slice ao n cap, .func (.func gf) #[] lb] w fun e w' => e = .returned (.bool (anyB p n)) ∧ w' = w := by
  have HS : Hid (∀ cap, Calls Tryz.prog 44 #[.slice ao n cap, .func (.func gf) #[] lb] w fun e w' => w' = w ∧ ∃ i : Int, e = .returned (.int .i64 i) ∧ decide (0 ≤ i) = anyB p n) := fun cap => by
    refine (indexInts_any (cap := cap) (p := p) eg hs hn hp).mono ?_
    rintro e w' ⟨rfl, ⟨i, hi, hpi, _, rfl⟩ | ⟨ha, rfl⟩⟩
    · refine ⟨rfl, _, rfl, ?_⟩
      rw [anyB_yes hpi n hi]; simp
    · refine ⟨rfl, _, rfl, ?_⟩
      rw [anyB_no n ha]; rfl
  clear hs hp eg
  obtain ⟨y, hy⟩ : ∃ y, y = anyB p n := ⟨_, rfl⟩
  rw [← hy]
  have HY : Hid (y = anyB p n) := hy
  clear hy
  go_enter Tryz.func32, Tryz.ntmps32
  go_wp2_with (go_at_call 44; refine (HS.out _).mono ?_; rintro e w' ⟨hw, i, rfl, hi⟩; rw [← HY.out] at hi; have hw := hw.symm; subst hw)
  go_ret
  exact ⟨by first | rfl | simp_all, rfl⟩

/-- A number of a word: an element, or -1. -/
def FD.wok (D : FD) (x : Int) : Bool := decide (x = -1) || D.has x
def FD.allW (D : FD) (z : Nat → Int) (n : Nat) : Bool := !anyB (fun j => !D.wok (z j)) n
def FD.wchk (D : FD) (n : Nat) (z : Nat → Int) (k : Int) (m : Nat) (y : Nat → Int) : Int := if D.rchk n z k ≠ 0 then D.rchk n z k else if m ≠ n then 6 else if D.allW y m = true then 0 else 2
theorem enters_word : ∀ args w, (callFunc 33 args).run Tryz.prog w = .ok (.enter 33 args) w :=
  enters_of Tryz.func33 (by kernel_rfl) rfl

set_option maxHeartbeats 2000000 in
set_option maxRecDepth 100000 in
theorem word1_any {D : FD} {F T B : Nat} {g : Nat → Value} {w : World} (h : FAt F T D g w) (hc : w.cell? ⟨B, 0, none⟩ = some (.pointer (some ⟨F, 0, none⟩))) (x : Int) :
    Calls Tryz.prog 33 #[.int .i64 x, .pointer (some ⟨B, 0, none⟩)] w fun e w' => e = .returned (.bool (!D.wok x)) ∧ w' = w := by
  have HS : Hid (FAt F T D g w) := h
  clear h
  obtain ⟨y, hy⟩ : ∃ y, y = D.has x := ⟨_, rfl⟩
  have HC : Hid (Calls Tryz.prog 28 #[.pointer (some ⟨F, 0, none⟩), .int .i64 x] w fun e w' => e = .returned (.bool y) ∧ w' = w) := by
    show Calls _ _ _ _ _
    rw [hy]; exact has_any HS.out x
  by_cases e : x = -1
  · have HV : Hid (D.wok x = true) := by show D.wok x = true; unfold FD.wok; rw [decide_eq_true e]; rfl
    have hz : (x != -1) = false := by rw [e]; rfl
    clear hy e
    go_enter Tryz.func33, Tryz.ntmps33
    go_wp2
    go_ret
    exact ⟨by rw [HV.out]; rfl, rfl⟩
  · have HV : Hid (D.wok x = y) := by show D.wok x = y; unfold FD.wok; rw [decide_eq_false e, hy]; rfl
    have hz : (x != -1) = true := by rw [bne_iff_ne]; exact e
    clear hy e
    go_enter Tryz.func33, Tryz.ntmps33
    go_wp2_with (go_at_call 28; refine HC.out.mono ?_; rintro e w' ⟨rfl, hw⟩; have hw := hw.symm; subst hw)
    go_ret
    exact ⟨by rw [HV.out]; rfl, rfl⟩

set_option maxHeartbeats 4000000 in
set_option maxRecDepth 100000 in
theorem word_any {D : FD} (hD : D ∈ fieldsL) {xo yo : Option Addr} {n cx m cy : Nat} {z y : Nat → Int} (k : Int) {w : World} (hX : Arg xo n cx z w) (hY : Arg yo m cy y w) :
    Calls Tryz.prog 19 #[.int .i64 D.q, .slice xo n cx, .int .i64 k, .slice yo m cy] w fun e w' => e = .returned (.int .i64 (D.wchk n z k m y)) ∧ Below w.heap.size w w' := by
  have HF : Hid (D ∈ fieldsL ∧ Arg xo n cx z w ∧ Arg yo m cy y w) := ⟨hD, hX, hY⟩
  obtain ⟨e0, he0⟩ : ∃ e0, e0 = D.rchk n z k := ⟨_, rfl⟩
  have HC : Hid (Calls Tryz.prog 17 #[.int .i64 D.q, .slice xo n cx, .int .i64 k] w fun e w' => e = .returned (.int .i64 e0) ∧ Below w.heap.size w w') := by rw [he0]; exact rcheck_any hD k hX
  have hn6 := hX.few
  have hm6 := hY.few
  have HE : Hid (D.wchk n z k m y = if e0 ≠ 0 then e0 else if m ≠ n then 6 else if D.allW y m = true then 0 else 2) := by show _ = _; rw [he0]; rfl
  clear hD hX hY he0
  by_cases h0 : e0 = 0
  · subst h0
    by_cases hmn : m = n
    · subst hmn
      obtain ⟨ab, hab⟩ : ∃ ab, ab = anyB (fun j => !D.wok (y j)) m := ⟨_, rfl⟩
      have HV : Hid (D.wchk m z k m y = if ab = true then 2 else 0) := by
        show _ = _
        rw [HE.out, if_neg (by simp), if_neg (by simp)]
        show (if (!anyB (fun j => !D.wok (y j)) m) = true then (0 : Int) else 2) = _
        rw [← hab]
        cases ab <;> rfl
      go_enter Tryz.func19, Tryz.ntmps19
      go_wp2_with fail
      refine HC.out.mono ?_
      rintro e w1 ⟨rfl, hb1⟩
      have H1 : Hid (Below w.heap.size w w1) := hb1
      clear hb1
      go_wp2_with fail
      refine (new_any HF.out.1 w1).mono ?_
      rintro e w2 ⟨F, T, g, rfl, hat, hF, hT, hb2⟩
      have hal : Below w2.heap.size w2 (w2.alloc (.cells #[.pointer (some ⟨F, 0, none⟩)] 50)) := (Below.refl _ _).alloc (Nat.le_refl _) _
      have H2 : Hid (FAt F T D g (w2.alloc (.cells #[.pointer (some ⟨F, 0, none⟩)] 50)) ∧ Below w.heap.size w (w2.alloc (.cells #[.pointer (some ⟨F, 0, none⟩)] 50))) := ⟨hat.below hal hat.ltF hat.ltT, bel_up' (bel_up' H1.out hb2) hal⟩
      have HCf : Hid (∀ cap, Calls Tryz.prog 32 #[.slice yo m cap, .func (.func 33) #[] #[.pointer (some ⟨w2.heap.size, 0, none⟩)]] (w2.alloc (.cells #[.pointer (some ⟨F, 0, none⟩)] 50)) fun e w' => e = .returned (.bool ab) ∧ w' = w2.alloc (.cells #[.pointer (some ⟨F, 0, none⟩)] 50)) := fun cap => by
        rw [hab]
        refine containsFn_any enters_word (HF.out.2.2.below H2.out.2).sl hm6 (fun j _ => ?_)
        have e : (#[Value.int .i64 (y j)] ++ #[Value.pointer (some ⟨w2.heap.size, 0, none⟩)] : Array Value) = #[.int .i64 (y j), .pointer (some ⟨w2.heap.size, 0, none⟩)] := rfl
        rw [e]
        exact word1_any H2.out.1 (by simp) (y j)
      clear hat hF hT hb2 hal hab
      cases ab
      · go_wp2_with (go_at_call 32; refine (HCf.out _).mono ?_; rintro e w' ⟨rfl, rfl⟩)
        go_ret
        exact ⟨ret_int (by rw [HV.out]; rfl), H2.out.2⟩
      · go_wp2_with (go_at_call 32; refine (HCf.out _).mono ?_; rintro e w' ⟨rfl, rfl⟩)
        go_ret
        exact ⟨ret_int (by rw [HV.out]; rfl), H2.out.2⟩
    · have HV : Hid (D.wchk n z k m y = 6) := by show _ = _; rw [HE.out, if_neg (by simp), if_pos hmn]
      have hz : (((m : Nat) : Int) != ((n : Nat) : Int)) = true := by rw [bne_iff_ne]; omega
      go_enter Tryz.func19, Tryz.ntmps19
      go_wp2_with fail
      refine HC.out.mono ?_
      rintro e w1 ⟨rfl, hb1⟩
      have H1 : Hid (Below w.heap.size w w1) := hb1
      clear hb1
      go_wp2
      go_ret
      exact ⟨ret_int (by rw [HV.out]), H1.out⟩
  · have HV : Hid (D.wchk n z k m y = e0) := by show _ = _; rw [HE.out, if_pos h0]
    have hz : (e0 != 0) = true := by rw [bne_iff_ne]; exact h0
    clear h0
    go_enter Tryz.func19, Tryz.ntmps19
    go_wp2_with fail
    refine HC.out.mono ?_
    rintro e w1 ⟨rfl, hb1⟩
    have H1 : Hid (Below w.heap.size w w1) := hb1
    clear hb1
    go_wp2
    go_ret
    exact ⟨ret_int (by rw [HV.out]), H1.out⟩
end Go.Proofs.YtnjbnamcedfjaaaGreat

/- A word that came: the reference's ReedWord. -/
namespace Go.Proofs.YtnjbnamcedfjaaaGreat
open Go.RowKit Go.Sort

set_option maxHeartbeats 8000000 in
set_option maxRecDepth 100000 in
theorem reedWord_any {D : FD} (hD : D ∈ fieldsL) {xo yo : Option Addr} {n cx m cy : Nat} {z y : Nat → Int} (k : Int) {w : World} (hX : Arg xo n cx z w) (hY : Arg yo m cy y w) :
    Calls Tryz.prog 20 #[.int .i64 D.q, .slice xo n cx, .int .i64 k, .slice yo m cy] w fun e w' => e = .returned (.int .i64 (D.wchk n z k m y)) ∧ Below w.heap.size w w' := by
  have HF : Hid (D ∈ fieldsL ∧ Arg xo n cx z w ∧ Arg yo m cy y w) := ⟨hD, hX, hY⟩
  obtain ⟨e0, he0⟩ : ∃ e0, e0 = D.rchk n z k := ⟨_, rfl⟩
  have HC : Hid (Calls Tryz.prog 18 #[.int .i64 D.q, .slice xo n cx, .int .i64 k] w fun e w' => e = .returned (.int .i64 e0) ∧ Below w.heap.size w w') := by rw [he0]; exact reedMay_any hD k hX
  have hn6 := hX.few
  have hm6 := hY.few
  have HE : Hid (D.wchk n z k m y = if e0 ≠ 0 then e0 else if m ≠ n then 6 else if D.allW y m = true then 0 else 2) := by show _ = _; rw [he0]; rfl
  clear hD hX hY he0
  by_cases h0 : e0 = 0
  · subst h0
    go_enter Tryz.func20, Tryz.ntmps20
    go_wp2_with fail
    refine HC.out.mono ?_
    rintro e w1 ⟨rfl, hb1⟩
    have H1 : Hid (Below w.heap.size w w1) := hb1
    clear hb1
    go_wp2_with fail
    refine (rfield_sl HF.out.1 w1).mono ?_
    rintro e w2 ⟨gm, cm, rfl, hmod, hb2⟩
    unfold rf
    obtain ⟨wa, hwa⟩ : ∃ wa, wa = w2.alloc (.cells #[.int .i64 D.q, .int .i64 D.p, .int .i64 D.m, .int .i64 D.gen, .slice (some ⟨gm, 0, none⟩) (D.m + 1) cm] 28) := ⟨_, rfl⟩
    have HA : Hid (Box w2.heap.size D D.gen (.slice (some ⟨gm, 0, none⟩) (D.m + 1) cm) wa ∧ wa.heap.size = w2.heap.size + 1 ∧ Below w.heap.size w wa) := by
      have hb : Below w2.heap.size w2 wa := by rw [hwa]; exact (Below.refl _ _).alloc (Nat.le_refl _) _
      exact ⟨by rw [hwa]; exact box_new D D.gen _ w2, by rw [hwa]; simp, bel_up' (bel_up' H1.out hb2) hb⟩
    clear hmod hb2
    by_cases hmn : m = n
    · subst hmn
      have HV : Hid (D.wchk m z k m y = if anyB (fun j => !D.wok (y j)) m = true then 2 else 0) := by
        show _ = _
        rw [HE.out, if_neg (by simp), if_neg (by simp)]
        show (if (!anyB (fun j => !D.wok (y j)) m) = true then (0 : Int) else 2) = _
        cases anyB (fun j => !D.wok (y j)) m <;> rfl
      go_wp2
      rw [← hwa]
      clear hwa
      go_loopw [12] (fun i wr => ∃ r : Nat, r ≤ m ∧ i = .int .i64 r ∧ Hid (anyB (fun j => !D.wok (y j)) r = false ∧ Below wa.heap.size wa wr)) (fun i _ => m - (intOf i).toNat)
      case atStart => exact ⟨0, by omega, rfl, rfl, Below.refl _ _⟩
      case round =>
        obtain ⟨r, hr, rfl, HP⟩ := hrel
        rename World => wr
        by_cases hlt : r < m
        · have hib : (r : Int) < (m : Int) := by omega
          have hib0 : (0 : Int) ≤ (r : Int) := by omega
          have hArg := HF.out.2.2.below (bel_up' HA.out.2.2 HP.out.2)
          obtain ⟨bx, ox, hxo, hcx⟩ := hArg.sl r hlt
          subst hxo
          obtain ⟨x, hx⟩ : ∃ x, x = y r := ⟨_, rfl⟩
          rw [← hx] at hcx
          obtain ⟨hb0, hh0⟩ : ∃ hb0, hb0 = D.has x := ⟨_, rfl⟩
          have HC1 : Hid (∀ d os, Calls Tryz.prog 30 #[.agg #[.int .i64 D.q, .int .i64 D.p, .int .i64 D.m, .int .i64 D.gen, .slice (some ⟨gm, 0, none⟩) (D.m + 1) cm], .int .i64 x] (grow (redrawn wr d) os) fun e w'' => e = .returned (.bool hb0) ∧ ∃ p : Regrown, w'' = grow (redrawn wr p.d) p.os) := fun d os => by
            rw [hh0]
            exact Calls.regrown_of (rhas_any D D.gen _ x _)
          have HN : Hid (anyB (fun j => !D.wok (y j)) (r + 1) = !(decide (x = -1) || hb0)) := by
            show (anyB (fun j => !D.wok (y j)) r || !D.wok (y r)) = _
            rw [HP.out.1, Bool.false_or, hh0, hx]; rfl
          have hbx := HA.out.1.below (B := wa.heap.size) HP.out.2 (by have := HA.out.2.1; omega)
          have k0 := cell_regrown hbx.c0
          have k1 := cell_regrown hbx.c1
          have k2 := cell_regrown hbx.c2
          have k3 := cell_regrown hbx.c3
          have k4 := cell_regrown hbx.c4
          have k5 := cell_regrown hcx
          have HB2 : Hid (Below w.heap.size w wr ∧ Below wa.heap.size wa wr) := ⟨bel_up' HA.out.2.2 HP.out.2, HP.out.2⟩
          clear hx hh0 hArg hbx hcx
          by_cases hx1 : x = -1
          · have hz : (x != -1) = false := by rw [hx1]; rfl
            have HN2 : Hid (anyB (fun j => !D.wok (y j)) (r + 1) = false) := by show _ = _; rw [HN.out, decide_eq_true hx1]; rfl
            clear hx1
            go_wp2
            refine wp_region_quiet_below (by kernel_rfl) (by kernel_rfl) ?_
            repeat (go_big_quiet_step (first | (go_at_call 30; exact HC1.out _ _)))
            refine wpQuiet_nil ?_
            intro _ hw'
            obtain ⟨⟨dr, osr⟩, hw''⟩ := hw'
            subst hw''
            go_wp2
            go_roundw
            case rel => exact ⟨r + 1, by omega, by go_num, HN2.out, bel_up' HB2.out.2 (below_regrown wr dr osr)⟩
            case measure => simp [intOf]; omega
          · have hz : (x != -1) = true := by rw [bne_iff_ne]; exact hx1
            have HN2 : Hid (anyB (fun j => !D.wok (y j)) (r + 1) = !hb0) := by show _ = _; rw [HN.out, decide_eq_false hx1]; rfl
            clear hx1
            cases hb0 with
            | true =>
              go_wp2
              refine wp_region_quiet_below (by kernel_rfl) (by kernel_rfl) ?_
              repeat (go_big_quiet_step (first | (go_at_call 30; exact HC1.out _ _)))
              refine wpQuiet_nil ?_
              intro _ hw'
              obtain ⟨⟨dr, osr⟩, hw''⟩ := hw'
              subst hw''
              go_wp2
              go_roundw
              case rel => exact ⟨r + 1, by omega, by go_num, HN2.out, bel_up' HB2.out.2 (below_regrown wr dr osr)⟩
              case measure => simp [intOf]; omega
            | false =>
              have HV2 : Hid (D.wchk m z k m y = 2) := by
                show _ = _
                have h2 : anyB (fun j => !D.wok (y j)) (r + 1) = true := HN2.out
                have h3 : (fun j => !D.wok (y j)) r = true := by
                  have h4 : (anyB (fun j => !D.wok (y j)) r || !D.wok (y r)) = true := h2
                  rw [HP.out.1, Bool.false_or] at h4; exact h4
                rw [HV.out, anyB_yes h3 m hlt]; rfl
              go_wp2
              refine wp_region_quiet_below (by kernel_rfl) (by kernel_rfl) ?_
              repeat (go_big_quiet_step (first | (go_at_call 30; exact HC1.out _ _)))
              refine wpQuiet_nil ?_
              intro _ hw'
              obtain ⟨⟨dr, osr⟩, hw''⟩ := hw'
              subst hw''
              go_wp2
              go_ret
              exact ⟨ret_int (by rw [HV2.out]), bel_up' HB2.out.1 (below_regrown wr dr osr)⟩
        · have hib : ¬ (r : Int) < (m : Int) := by omega
          have hre : m = r := by omega
          subst hre
          have HV2 : Hid (D.wchk m z k m y = 0) := by show _ = _; rw [HV.out, HP.out.1]; rfl
          have H3 : Hid (Below w.heap.size w wr) := bel_up' HA.out.2.2 HP.out.2
          go_wp2
          go_ret
          exact ⟨ret_int (by rw [HV2.out]), H3.out⟩
    · have HV : Hid (D.wchk n z k m y = 6) := by show _ = _; rw [HE.out, if_neg (by simp), if_pos hmn]
      have hz : (((m : Nat) : Int) != ((n : Nat) : Int)) = true := by rw [bne_iff_ne]; omega
      go_wp2
      go_ret
      rw [← hwa]
      exact ⟨ret_int (by rw [HV.out]), HA.out.2.2⟩
  · have HV : Hid (D.wchk n z k m y = e0) := by show _ = _; rw [HE.out, if_pos h0]
    have hz : (e0 != 0) = true := by rw [bne_iff_ne]; exact h0
    clear h0
    go_enter Tryz.func20, Tryz.ntmps20
    go_wp2_with fail
    refine HC.out.mono ?_
    rintro e w1 ⟨rfl, hb1⟩
    have H1 : Hid (Below w.heap.size w w1) := hb1
    clear hb1
    go_wp2
    go_ret
    exact ⟨ret_int (by rw [HV.out]), H1.out⟩
end Go.Proofs.YtnjbnamcedfjaaaGreat

/- Whole words, and how many messages there are: the program's checkWhole, messages, digits; the law's wholeWord; the reference's Few. -/
namespace Go.Proofs.YtnjbnamcedfjaaaGreat
open Go.RowKit Go.Sort

theorem wchk_ok {D : FD} {n m : Nat} {z y : Nat → Int} {k : Int} (h : D.wchk n z k m y = 0) : D.rchk n z k = 0 ∧ m = n ∧ ∀ j, j < m → D.wok (y j) = true := by
  unfold FD.wchk at h
  by_cases h1 : D.rchk n z k = 0
  · rw [if_neg (fun x => x h1)] at h
    by_cases h2 : m = n
    · rw [if_neg (fun x => x h2)] at h
      refine ⟨h1, h2, fun j hj => ?_⟩
      by_cases h3 : D.allW y m = true
      · unfold FD.allW at h3
        cases e : D.wok (y j) with
        | true => rfl
        | false =>
          rw [anyB_yes (p := fun j => !D.wok (y j)) (i := j) (by show (!D.wok (y j)) = true; rw [e]; rfl) m hj] at h3
          cases h3
      · rw [if_neg h3] at h; cases h
    · rw [if_pos h2] at h; cases h
  · rw [if_pos h1] at h; exact absurd h h1
end Go.Proofs.YtnjbnamcedfjaaaGreat

/- How many messages there are, and each by its number: the reference's Few, the program's messages, digits. -/
namespace Go.Proofs.YtnjbnamcedfjaaaGreat
open Go.RowKit Go.Sort

end Go.Proofs.YtnjbnamcedfjaaaGreat

/- At how many places a message's word differs: the reference's Off, of whole words. -/
namespace Go.Proofs.YtnjbnamcedfjaaaGreat
open Go.RowKit Go.Sort

end Go.Proofs.YtnjbnamcedfjaaaGreat

/- All near messages: the program's Within. -/
namespace Go.Proofs.YtnjbnamcedfjaaaGreat
open Go.RowKit Go.Sort

end Go.Proofs.YtnjbnamcedfjaaaGreat

/- All near messages: the reference's Near. -/
namespace Go.Proofs.YtnjbnamcedfjaaaGreat
open Go.RowKit Go.Sort

end Go.Proofs.YtnjbnamcedfjaaaGreat

/- All near messages: the walk of the reference's Near. -/
namespace Go.Proofs.YtnjbnamcedfjaaaGreat
open Go.RowKit Go.Sort

end Go.Proofs.YtnjbnamcedfjaaaGreat

/- What it says that places, a dimension and a whole word may be; the calls that say no. -/
namespace Go.Proofs.YtnjbnamcedfjaaaGreat
open Go.RowKit Go.Sort

end Go.Proofs.YtnjbnamcedfjaaaGreat

/- Places and words where no field has that many elements. -/
namespace Go.Proofs.YtnjbnamcedfjaaaGreat
open Go.RowKit Go.Sort

end Go.Proofs.YtnjbnamcedfjaaaGreat

/- Sudan's products in their order, and how a list of numbers is parted by them: plain mathematics. -/
namespace Go.Proofs.YtnjbnamcedfjaaaGreat
open Go.RowKit

end Go.Proofs.YtnjbnamcedfjaaaGreat

/- Lists of lists of the call's own that grow at any of their lists. -/
namespace Go.Proofs.YtnjbnamcedfjaaaGreat
open Go.RowKit Go.Sort

/-- Cell j of a list of lists of the call's own is another one now. -/
theorem OwnV.set {base n rc g : Nat} {ro : Option Addr} {vs : Nat → Value} {w1 : World} (hown : OwnV base (.slice ro n rc) (vl n vs) w1) (hg : ro = some ⟨g, 0, none⟩) (j : Nat) (u : Value) : OwnV base (.slice ro n rc) (vl n fun i => if i = j then u else vs i) (w1.setCell ⟨g, j, none⟩ u) := by
  rcases hown.2 with ⟨h1, _⟩ | ⟨g', cap, cur, hv, hb, hh, hle, hcm, hsz, htake⟩
  · rw [hg] at h1; cases h1
  · rw [hg, vl_len] at hv
    cases hv
    have hlt := lt_of_block hh
    have h' : w1.heap[g] = .cells cur 22 (0, 0) := by simpa [Array.getElem?_eq_getElem hlt] using hh
    refine ⟨by rw [vl_len]; omega, Or.inr ⟨g, rc, cur.setIfInBounds j u, by rw [hg, vl_len], hb, ?_, by rw [vl_len]; rw [vl_len] at hle; exact hle, hcm, by rw [Array.size_setIfInBounds]; exact hsz, ?_⟩⟩
    · show (w1.heap.modify g _)[g]? = _
      rw [Array.getElem?_eq_getElem (by simpa using hlt), Array.getElem_modify_self, h']
      rfl
    · rw [vl_len] at htake ⊢
      apply List.ext_getElem?
      intro i
      have h3 : (cur.toList.take (n * 1))[i]? = (vl n vs)[i]? := by rw [htake]
      rw [List.getElem?_take] at h3 ⊢
      by_cases hi : i < n * 1
      · rw [if_pos hi] at h3 ⊢
        have hik : i < n := by omega
        rw [vl_get n vs i hik] at h3
        rw [vl_get n _ i hik, Array.getElem?_toList, Array.getElem?_setIfInBounds]
        rw [Array.getElem?_toList] at h3
        by_cases e : j = i
        · rw [if_pos e, if_pos (by have := (Array.getElem?_eq_some_iff.1 h3).1; omega), if_pos e.symm]
        · rw [if_neg e, if_neg (fun x => e x.symm)]; exact h3
      · rw [if_neg hi, List.getElem?_eq_none (by rw [vl_len]; omega)]
end Go.Proofs.YtnjbnamcedfjaaaGreat

/- A region that draws its order and whose last operation, which waits for all others, writes what another one reads. No Go text here. -/
namespace Go.Proofs.YtnjbnamcedfjaaaGreat
open Go

/-- Does number L wait for number i? -/
def waitsB (ops : Array Oper) (L i : Nat) : Bool := ((ops[L]?).map fun o => o.after.any fun e => Region.binds .any e && e.on == i).getD false
end Go.Proofs.YtnjbnamcedfjaaaGreat

/- The program's products: pairs of powers, two cells each. -/
namespace Go.Proofs.YtnjbnamcedfjaaaGreat
open Go.RowKit Go.Sort

end Go.Proofs.YtnjbnamcedfjaaaGreat

/- The program's valuesAt: all products at an x and a y. -/
namespace Go.Proofs.YtnjbnamcedfjaaaGreat
open Go.RowKit Go.Sort

/-- A power, as an element. -/
def FD.pn (D : FD) (a k : Nat) : Nat := (D.powZ a k).toNat
theorem pn_eq {D : FD} {a : Nat} (ha : a < D.q) (k : Nat) : D.powZ a k = (D.pn a k : Nat) := by
  have hh : D.has (a : Nat) = true := decide_eq_true ⟨by omega, by omega⟩
  have : (0 : Int) ≤ D.powZ a k := by
    unfold FD.powZ
    rw [hh, if_neg (by decide)]
    split
    · omega
    · split
      · rw [if_neg (by omega)]; omega
      · omega
  unfold FD.pn
  omega
end Go.Proofs.YtnjbnamcedfjaaaGreat

/- The program's byPowers: numbers laid by their powers of y. -/
namespace Go.Proofs.YtnjbnamcedfjaaaGreat
open Go.RowKit Go.Sort

theorem OwnI.form {base : Nat} {v : Value} {l : List Int} {w : World} (h : OwnI base v l w) : ∃ ao cap, v = .slice ao l.length cap := by
  rcases h.2 with ⟨h1, h2⟩ | ⟨g, cap, cur, hv, _⟩
  · exact ⟨none, 0, by rw [h1, h2]⟩
  · exact ⟨_, cap, hv⟩
end Go.Proofs.YtnjbnamcedfjaaaGreat

/- The program's Sudan. -/
namespace Go.Proofs.YtnjbnamcedfjaaaGreat
open Go.RowKit Go.Sort

theorem mchk_nat {D : FD} {m P : Nat} {V : Nat → Nat → Nat} (hm : m ≤ 64) (hP : 1 ≤ P) (hP2 : P ≤ 64) (hV : ∀ i, El D (V i)) : D.mchk m (fun _ => P) (fun i j => ((V i j : Nat) : Int)) = 0 := by
  refine mchk_of hm (fun i _ => ?_)
  unfold FD.mrow
  rw [if_neg (by omega), if_neg (by omega), if_pos]
  exact allHas_iff.2 (fun j _ => has_of_lt (hV i j))
end Go.Proofs.YtnjbnamcedfjaaaGreat

/- Codes: what is said of one (the program's code.Check, the reference's CodeMay). -/
namespace Go.Proofs.YtnjbnamcedfjaaaGreat
open Go.RowKit Go.Sort

end Go.Proofs.YtnjbnamcedfjaaaGreat

/- Independent rows: the reduced form has as many; what makes nothing 0 but 0. Plain mathematics. -/
namespace Go.Proofs.YtnjbnamcedfjaaaGreat
open Go.RowKit

end Go.Proofs.YtnjbnamcedfjaaaGreat

/- Codes: one form, and the dual (the program's oneForm, unit, dual). -/
namespace Go.Proofs.YtnjbnamcedfjaaaGreat
open Go.RowKit Go.Sort

/-- The reduced form of what makes m rows 0. -/
def Dul (D : FD) (n m : Nat) (M : Nat → Nat → Nat) (k2 : Nat) (R2 : Nat → Nat → Nat) : Prop := ∃ k R p p2, RRE D n k R p ∧ (∀ v, Spn D (RowsOf k R) v ↔ Spn D (RowsOf m M) v) ∧ RRE D n k2 R2 p2 ∧ (∀ v, Spn D (RowsOf k2 R2) v ↔ Spn D (RowsOf (nct k p n) (nul D R p k n)) v) ∧ k2 = nct k p n
theorem Dul.le {D : FD} {n m k : Nat} {M R : Nat → Nat → Nat} (h : Dul D n m M k R) : k ≤ n := by
  obtain ⟨a, A, q, q2, _, _, _, _, e⟩ := h
  rw [e]; exact nct_le _ _ _
theorem Dul.rows {D : FD} {n m k : Nat} {M R : Nat → Nat → Nat} (h : Dul D n m M k R) : (∀ i, i < k → El D (R i)) ∧ ∀ i, i < k → Bd n (R i) := by
  obtain ⟨a, A, q, q2, _, _, h3, _, e⟩ := h
  exact ⟨h3.el, h3.bd⟩
theorem Mx.less {B G m k j n : Nat} {R : Nat → Nat → Nat} {h : Nat → Nat} {w : World} (H : Mx B G m k n R h w) (hj : j ≤ k) : Mx B G m j n R h w := by
  obtain ⟨f, hf, hf'⟩ := H.outer
  exact ⟨⟨f, hf, fun i hi => hf' i (by omega)⟩, fun i hi => H.row i (by omega), H.geG, fun i hi => H.ge i (by omega), fun i hi j hj => H.inj i (by omega) j (by omega), fun i hi => H.ne i (by omega), by have := H.le; omega⟩

end Go.Proofs.YtnjbnamcedfjaaaGreat

/- Plain mathematics: products of rows; what makes rows 0. No Go text here. -/
namespace Go.Proofs.YtnjbnamcedfjaaaGreat

/-- The sum of the products of the first numbers of two lists. -/
def dot (D : FD) (a b : Nat → Nat) : Nat → Nat
  | 0 => 0
  | j + 1 => D.ad (dot D a b j) (D.mul (a j) (b j))
theorem dot_lt {D : FD} (F : Fld D) (a b : Nat → Nat) : ∀ j, dot D a b j < D.q
  | 0 => zero_lt' F
  | j + 1 => ad_lt F (dot_lt F a b j) (F.mul_lt _ _)
theorem dot_comm {D : FD} (F : Fld D) (a b : Nat → Nat) : ∀ n, dot D a b n = dot D b a n
  | 0 => rfl
  | n + 1 => by
    show D.ad (dot D a b n) (D.mul (a n) (b n)) = D.ad (dot D b a n) (D.mul (b n) (a n))
    rw [dot_comm F a b n, F.mul_comm (a n)]
theorem dot_nil {D : FD} (F : Fld D) (v : Nat → Nat) : ∀ n, dot D pnil v n = 0
  | 0 => rfl
  | n + 1 => by
    show D.ad (dot D pnil v n) (D.mul 0 (v n)) = 0
    rw [dot_nil F v n, zmul F, ad_zero F (zero_lt' F)]
theorem dot_add {D : FD} (F : Fld D) {a b : Nat → Nat} (ha : El D a) (hb : El D b) (v : Nat → Nat) : ∀ n, dot D (padd D a b) v n = D.ad (dot D a v n) (dot D b v n)
  | 0 => (ad_zero F (zero_lt' F)).symm
  | n + 1 => by
    show D.ad (dot D (padd D a b) v n) (D.mul (D.ad (a n) (b n)) (v n)) = D.ad (D.ad (dot D a v n) (D.mul (a n) (v n))) (D.ad (dot D b v n) (D.mul (b n) (v n)))
    rw [dot_add F ha hb v n, ad_mul F (ha n) (hb n), ad4 F (dot_lt F _ _ _) (dot_lt F _ _ _) (F.mul_lt _ _) (F.mul_lt _ _)]
theorem dot_scale {D : FD} (F : Fld D) (s : Nat) (a v : Nat → Nat) : ∀ n, dot D (pscale D s a) v n = D.mul s (dot D a v n)
  | 0 => (mul0 F s).symm
  | n + 1 => by
    show D.ad (dot D (pscale D s a) v n) (D.mul (D.mul s (a n)) (v n)) = D.mul s (D.ad (dot D a v n) (D.mul (a n) (v n)))
    rw [dot_scale F s a v n, mul_ad F (dot_lt F _ _ _) (F.mul_lt _ _), F.mul_assoc]
/-- What makes rows 0 makes all 0 that they span. -/
theorem dot_spn {D : FD} (F : Fld D) {P : (Nat → Nat) → Prop} {u x : Nat → Nat} {n : Nat} (h : Spn D P u) (hP : ∀ v, P v → dot D v x n = 0) : dot D u x n = 0 := by
  obtain ⟨l, hl, rfl⟩ := h
  induction l with
  | nil => exact dot_nil F x n
  | cons y l ih =>
    show dot D (padd D (pscale D y.1 y.2) (lsum D l)) x n = 0
    rw [dot_add F (el_scale F _ _) (lsum_el F l), dot_scale F, hP _ (hl y (List.mem_cons_self ..)), mul0 F, ih (fun z hz => hl z (List.mem_cons_of_mem _ hz)), ad_zero F (zero_lt' F)]
theorem dot_congr {D : FD} {a a' b b' : Nat → Nat} : ∀ n, (∀ j, j < n → a j = a' j ∧ b j = b' j) → dot D a b n = dot D a' b' n
  | 0, _ => rfl
  | n + 1, h => by
    show D.ad (dot D a b n) (D.mul (a n) (b n)) = D.ad (dot D a' b' n) (D.mul (a' n) (b' n))
    rw [dot_congr n (fun j hj => h j (by omega)), (h n (by omega)).1, (h n (by omega)).2]
/-- A number put where 0 was. -/
theorem dot_put {D : FD} (F : Fld D) {a b : Nat → Nat} {j v : Nat} (hb : b j = 0) : ∀ n, j < n → dot D a (fun t => if t = j then v else b t) n = D.ad (dot D a b n) (D.mul (a j) v)
  | 0, h => absurd h (by omega)
  | n + 1, h => by
    show D.ad (dot D a (fun t => if t = j then v else b t) n) (D.mul (a n) (if n = j then v else b n)) = D.ad (D.ad (dot D a b n) (D.mul (a n) (b n))) (D.mul (a j) v)
    by_cases e : n = j
    · subst e
      rw [if_pos rfl, hb, mul0 F, ad_zero F (dot_lt F _ _ _), dot_congr (a' := a) (b' := b) n (fun t ht => ⟨rfl, if_neg (by omega)⟩)]
    · rw [if_neg e, dot_put F hb n (by omega), ad_assoc F (dot_lt F _ _ _) (F.mul_lt _ _) (F.mul_lt _ _), ad_comm F (D.mul (a j) v), ← ad_assoc F (dot_lt F _ _ _) (F.mul_lt _ _) (F.mul_lt _ _)]
theorem dot_unit {D : FD} (F : Fld D) {a : Nat → Nat} {c n : Nat} (ha : a c < D.q) (hc : c < n) : dot D a (fun t => if t = c then 1 else 0) n = a c := by
  have h := dot_put F (a := a) (b := pnil) (j := c) (v := 1) rfl n hc
  rw [mul1 F ha, dot_comm F a pnil, dot_nil F, zero_ad F ha] at h
  exact h
end Go.Proofs.YtnjbnamcedfjaaaGreat
