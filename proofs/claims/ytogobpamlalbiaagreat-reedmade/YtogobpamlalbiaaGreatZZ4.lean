/- Texts of ours, one behind the other: Z4 Z5 Z6 Z7 Z8 Z9 Z10 Z11 Z12 Z13 Q1 Q2 W11 Q3 Q4. -/
import Derived.Test.YtogobpamlalbiaaGreatZZ1
import Derived.Test.YtogobpamlalbiaaGreatZX1
import Derived.Test.YtogobpamlalbiaaGreatZY1
import Derived.Test.YtogobpamlalbiaaGreatZU12
import Derived.Test.YtogobpamlalbiaaGreatZT9
import Derived.Test.YtogobpamlalbiaaGreatZU21
import Derived.Test.YtogobpamlalbiaaGreatZS2
import Derived.Test.YtogobpamlalbiaaGreatZW9
import Derived.Deep.RegionHeld3
import Derived.WalkKit
/- A word that came: may it be? The program's Word. -/
namespace Go.Proofs.YtogobpamlalbiaaGreat
open Go.RowKit Go.Sort

def anyB (p : Nat → Bool) : Nat → Bool
  | 0 => false
  | n + 1 => anyB p n || p n
theorem anyB_no {p : Nat → Bool} : ∀ n, (∀ j, j < n → p j = false) → anyB p n = false
  | 0, _ => rfl
  | n + 1, h => by
    show (anyB p n || p n) = false
    rw [anyB_no n (fun j hj => h j (by omega)), h n (by omega)]; rfl
theorem anyB_yes {p : Nat → Bool} {i : Nat} (h : p i = true) : ∀ n, i < n → anyB p n = true
  | 0, hi => absurd hi (by omega)
  | n + 1, hi => by
    show (anyB p n || p n) = true
    by_cases e : i = n
    · rw [← e, h, Bool.or_true]
    · rw [anyB_yes h n (by omega), Bool.true_or]

set_option maxHeartbeats 2000000 in
set_option maxRecDepth 100000 in
theorem containsFn_any {gf : Nat} {lb : Array Value} (eg : ∀ args w, (callFunc gf args).run Tryz.prog w = .ok (.enter gf args) w) {ao : Option Addr} {n cap : Nat} {z : Nat → Int} {p : Nat → Bool} {w : World}
    (hs : SlZ ao n z w) (hn : n ≤ 1000000) (hp : ∀ j, j < n → Calls Tryz.prog gf (#[.int .i64 (z j)] ++ lb) w fun e w' => e = .returned (.bool (p j)) ∧ w' = w) :
    Calls Tryz.prog 32 #[.slice ao n cap, .func (.func gf) #[] lb] w fun e w' => e = .returned (.bool (anyB p n)) ∧ w' = w := by
  have HS : Hid (∀ cap, Calls Tryz.prog 44 #[.slice ao n cap, .func (.func gf) #[] lb] w fun e w' => w' = w ∧ ∃ i : Int, e = .returned (.int .i64 i) ∧ decide (0 ≤ i) = anyB p n) := fun cap => by
    refine (indexInts_any (cap := cap) (p := p) eg hs hn hp).mono ?_
    rintro e w' ⟨rfl, ⟨i, hi, hpi, _, rfl⟩ | ⟨ha, rfl⟩⟩
    · refine ⟨rfl, _, rfl, ?_⟩
      rw [anyB_yes hpi n hi]; simp
    · refine ⟨rfl, _, rfl, ?_⟩
      rw [anyB_no n ha]; rfl
  clear hs hp eg
  obtain ⟨y, hy⟩ : ∃ y, y = anyB p n := ⟨_, rfl⟩
  rw [← hy]
  have HY : Hid (y = anyB p n) := hy
  clear hy
  go_enter Tryz.func32, Tryz.ntmps32
  go_wp2_with (go_at_call 44; refine (HS.out _).mono ?_; rintro e w' ⟨hw, i, rfl, hi⟩; rw [← HY.out] at hi; have hw := hw.symm; subst hw)
  go_ret
  exact ⟨by first | rfl | simp_all, rfl⟩

/-- A number of a word: an element, or -1. -/
def FD.wok (D : FD) (x : Int) : Bool := decide (x = -1) || D.has x
def FD.allW (D : FD) (z : Nat → Int) (n : Nat) : Bool := !anyB (fun j => !D.wok (z j)) n
def FD.wchk (D : FD) (n : Nat) (z : Nat → Int) (k : Int) (m : Nat) (y : Nat → Int) : Int := if D.rchk n z k ≠ 0 then D.rchk n z k else if m ≠ n then 6 else if D.allW y m = true then 0 else 2
theorem enters_word : ∀ args w, (callFunc 33 args).run Tryz.prog w = .ok (.enter 33 args) w :=
  enters_of Tryz.func33 (by kernel_rfl) rfl

set_option maxHeartbeats 2000000 in
set_option maxRecDepth 100000 in
theorem word1_any {D : FD} {F T B : Nat} {g : Nat → Value} {w : World} (h : FAt F T D g w) (hc : w.cell? ⟨B, 0, none⟩ = some (.pointer (some ⟨F, 0, none⟩))) (x : Int) :
    Calls Tryz.prog 33 #[.int .i64 x, .pointer (some ⟨B, 0, none⟩)] w fun e w' => e = .returned (.bool (!D.wok x)) ∧ w' = w := by
  have HS : Hid (FAt F T D g w) := h
  clear h
  obtain ⟨y, hy⟩ : ∃ y, y = D.has x := ⟨_, rfl⟩
  have HC : Hid (Calls Tryz.prog 28 #[.pointer (some ⟨F, 0, none⟩), .int .i64 x] w fun e w' => e = .returned (.bool y) ∧ w' = w) := by
    show Calls _ _ _ _ _
    rw [hy]; exact has_any HS.out x
  by_cases e : x = -1
  · have HV : Hid (D.wok x = true) := by show D.wok x = true; unfold FD.wok; rw [decide_eq_true e]; rfl
    have hz : (x != -1) = false := by rw [e]; rfl
    clear hy e
    go_enter Tryz.func33, Tryz.ntmps33
    go_wp2
    go_ret
    exact ⟨by rw [HV.out]; rfl, rfl⟩
  · have HV : Hid (D.wok x = y) := by show D.wok x = y; unfold FD.wok; rw [decide_eq_false e, hy]; rfl
    have hz : (x != -1) = true := by rw [bne_iff_ne]; exact e
    clear hy e
    go_enter Tryz.func33, Tryz.ntmps33
    go_wp2_with (go_at_call 28; refine HC.out.mono ?_; rintro e w' ⟨rfl, hw⟩; have hw := hw.symm; subst hw)
    go_ret
    exact ⟨by rw [HV.out]; rfl, rfl⟩

set_option maxHeartbeats 4000000 in
set_option maxRecDepth 100000 in
theorem word_any {D : FD} (hD : D ∈ fieldsL) {xo yo : Option Addr} {n cx m cy : Nat} {z y : Nat → Int} (k : Int) {w : World} (hX : Arg xo n cx z w) (hY : Arg yo m cy y w) :
    Calls Tryz.prog 19 #[.int .i64 D.q, .slice xo n cx, .int .i64 k, .slice yo m cy] w fun e w' => e = .returned (.int .i64 (D.wchk n z k m y)) ∧ Below w.heap.size w w' := by
  have HF : Hid (D ∈ fieldsL ∧ Arg xo n cx z w ∧ Arg yo m cy y w) := ⟨hD, hX, hY⟩
  obtain ⟨e0, he0⟩ : ∃ e0, e0 = D.rchk n z k := ⟨_, rfl⟩
  have HC : Hid (Calls Tryz.prog 17 #[.int .i64 D.q, .slice xo n cx, .int .i64 k] w fun e w' => e = .returned (.int .i64 e0) ∧ Below w.heap.size w w') := by rw [he0]; exact rcheck_any hD k hX
  have hn6 := hX.few
  have hm6 := hY.few
  have HE : Hid (D.wchk n z k m y = if e0 ≠ 0 then e0 else if m ≠ n then 6 else if D.allW y m = true then 0 else 2) := by show _ = _; rw [he0]; rfl
  clear hD hX hY he0
  by_cases h0 : e0 = 0
  · subst h0
    by_cases hmn : m = n
    · subst hmn
      obtain ⟨ab, hab⟩ : ∃ ab, ab = anyB (fun j => !D.wok (y j)) m := ⟨_, rfl⟩
      have HV : Hid (D.wchk m z k m y = if ab = true then 2 else 0) := by
        show _ = _
        rw [HE.out, if_neg (by simp), if_neg (by simp)]
        show (if (!anyB (fun j => !D.wok (y j)) m) = true then (0 : Int) else 2) = _
        rw [← hab]
        cases ab <;> rfl
      go_enter Tryz.func19, Tryz.ntmps19
      go_wp2_with fail
      refine HC.out.mono ?_
      rintro e w1 ⟨rfl, hb1⟩
      have H1 : Hid (Below w.heap.size w w1) := hb1
      clear hb1
      go_wp2_with fail
      refine (new_any HF.out.1 w1).mono ?_
      rintro e w2 ⟨F, T, g, rfl, hat, hF, hT, hb2⟩
      have hal : Below w2.heap.size w2 (w2.alloc (.cells #[.pointer (some ⟨F, 0, none⟩)] 50)) := (Below.refl _ _).alloc (Nat.le_refl _) _
      have H2 : Hid (FAt F T D g (w2.alloc (.cells #[.pointer (some ⟨F, 0, none⟩)] 50)) ∧ Below w.heap.size w (w2.alloc (.cells #[.pointer (some ⟨F, 0, none⟩)] 50))) := ⟨hat.below hal hat.ltF hat.ltT, bel_up' (bel_up' H1.out hb2) hal⟩
      have HCf : Hid (∀ cap, Calls Tryz.prog 32 #[.slice yo m cap, .func (.func 33) #[] #[.pointer (some ⟨w2.heap.size, 0, none⟩)]] (w2.alloc (.cells #[.pointer (some ⟨F, 0, none⟩)] 50)) fun e w' => e = .returned (.bool ab) ∧ w' = w2.alloc (.cells #[.pointer (some ⟨F, 0, none⟩)] 50)) := fun cap => by
        rw [hab]
        refine containsFn_any enters_word (HF.out.2.2.below H2.out.2).sl hm6 (fun j _ => ?_)
        have e : (#[Value.int .i64 (y j)] ++ #[Value.pointer (some ⟨w2.heap.size, 0, none⟩)] : Array Value) = #[.int .i64 (y j), .pointer (some ⟨w2.heap.size, 0, none⟩)] := rfl
        rw [e]
        exact word1_any H2.out.1 (by simp) (y j)
      clear hat hF hT hb2 hal hab
      cases ab
      · go_wp2_with (go_at_call 32; refine (HCf.out _).mono ?_; rintro e w' ⟨rfl, rfl⟩)
        go_ret
        exact ⟨ret_int (by rw [HV.out]; rfl), H2.out.2⟩
      · go_wp2_with (go_at_call 32; refine (HCf.out _).mono ?_; rintro e w' ⟨rfl, rfl⟩)
        go_ret
        exact ⟨ret_int (by rw [HV.out]; rfl), H2.out.2⟩
    · have HV : Hid (D.wchk n z k m y = 6) := by show _ = _; rw [HE.out, if_neg (by simp), if_pos hmn]
      have hz : (((m : Nat) : Int) != ((n : Nat) : Int)) = true := by rw [bne_iff_ne]; omega
      go_enter Tryz.func19, Tryz.ntmps19
      go_wp2_with fail
      refine HC.out.mono ?_
      rintro e w1 ⟨rfl, hb1⟩
      have H1 : Hid (Below w.heap.size w w1) := hb1
      clear hb1
      go_wp2
      go_ret
      exact ⟨ret_int (by rw [HV.out]), H1.out⟩
  · have HV : Hid (D.wchk n z k m y = e0) := by show _ = _; rw [HE.out, if_pos h0]
    have hz : (e0 != 0) = true := by rw [bne_iff_ne]; exact h0
    clear h0
    go_enter Tryz.func19, Tryz.ntmps19
    go_wp2_with fail
    refine HC.out.mono ?_
    rintro e w1 ⟨rfl, hb1⟩
    have H1 : Hid (Below w.heap.size w w1) := hb1
    clear hb1
    go_wp2
    go_ret
    exact ⟨ret_int (by rw [HV.out]), H1.out⟩
end Go.Proofs.YtogobpamlalbiaaGreat

/- A word that came: the reference's ReedWord. -/
namespace Go.Proofs.YtogobpamlalbiaaGreat
open Go.RowKit Go.Sort

set_option maxHeartbeats 8000000 in
set_option maxRecDepth 100000 in
theorem reedWord_any {D : FD} (hD : D ∈ fieldsL) {xo yo : Option Addr} {n cx m cy : Nat} {z y : Nat → Int} (k : Int) {w : World} (hX : Arg xo n cx z w) (hY : Arg yo m cy y w) :
    Calls Tryz.prog 20 #[.int .i64 D.q, .slice xo n cx, .int .i64 k, .slice yo m cy] w fun e w' => e = .returned (.int .i64 (D.wchk n z k m y)) ∧ Below w.heap.size w w' := by
  have HF : Hid (D ∈ fieldsL ∧ Arg xo n cx z w ∧ Arg yo m cy y w) := ⟨hD, hX, hY⟩
  obtain ⟨e0, he0⟩ : ∃ e0, e0 = D.rchk n z k := ⟨_, rfl⟩
  have HC : Hid (Calls Tryz.prog 18 #[.int .i64 D.q, .slice xo n cx, .int .i64 k] w fun e w' => e = .returned (.int .i64 e0) ∧ Below w.heap.size w w') := by rw [he0]; exact reedMay_any hD k hX
  have hn6 := hX.few
  have hm6 := hY.few
  have HE : Hid (D.wchk n z k m y = if e0 ≠ 0 then e0 else if m ≠ n then 6 else if D.allW y m = true then 0 else 2) := by show _ = _; rw [he0]; rfl
  clear hD hX hY he0
  by_cases h0 : e0 = 0
  · subst h0
    go_enter Tryz.func20, Tryz.ntmps20
    go_wp2_with fail
    refine HC.out.mono ?_
    rintro e w1 ⟨rfl, hb1⟩
    have H1 : Hid (Below w.heap.size w w1) := hb1
    clear hb1
    go_wp2_with fail
    refine (rfield_sl HF.out.1 w1).mono ?_
    rintro e w2 ⟨gm, cm, rfl, hmod, hb2⟩
    unfold rf
    obtain ⟨wa, hwa⟩ : ∃ wa, wa = w2.alloc (.cells #[.int .i64 D.q, .int .i64 D.p, .int .i64 D.m, .int .i64 D.gen, .slice (some ⟨gm, 0, none⟩) (D.m + 1) cm] 28) := ⟨_, rfl⟩
    have HA : Hid (Box w2.heap.size D D.gen (.slice (some ⟨gm, 0, none⟩) (D.m + 1) cm) wa ∧ wa.heap.size = w2.heap.size + 1 ∧ Below w.heap.size w wa) := by
      have hb : Below w2.heap.size w2 wa := by rw [hwa]; exact (Below.refl _ _).alloc (Nat.le_refl _) _
      exact ⟨by rw [hwa]; exact box_new D D.gen _ w2, by rw [hwa]; simp, bel_up' (bel_up' H1.out hb2) hb⟩
    clear hmod hb2
    by_cases hmn : m = n
    · subst hmn
      have HV : Hid (D.wchk m z k m y = if anyB (fun j => !D.wok (y j)) m = true then 2 else 0) := by
        show _ = _
        rw [HE.out, if_neg (by simp), if_neg (by simp)]
        show (if (!anyB (fun j => !D.wok (y j)) m) = true then (0 : Int) else 2) = _
        cases anyB (fun j => !D.wok (y j)) m <;> rfl
      go_wp2
      rw [← hwa]
      clear hwa
      go_loopw [12] (fun i wr => ∃ r : Nat, r ≤ m ∧ i = .int .i64 r ∧ Hid (anyB (fun j => !D.wok (y j)) r = false ∧ Below wa.heap.size wa wr)) (fun i _ => m - (intOf i).toNat)
      case atStart => exact ⟨0, by omega, rfl, rfl, Below.refl _ _⟩
      case round =>
        obtain ⟨r, hr, rfl, HP⟩ := hrel
        rename World => wr
        by_cases hlt : r < m
        · have hib : (r : Int) < (m : Int) := by omega
          have hib0 : (0 : Int) ≤ (r : Int) := by omega
          have hArg := HF.out.2.2.below (bel_up' HA.out.2.2 HP.out.2)
          obtain ⟨bx, ox, hxo, hcx⟩ := hArg.sl r hlt
          subst hxo
          obtain ⟨x, hx⟩ : ∃ x, x = y r := ⟨_, rfl⟩
          rw [← hx] at hcx
          obtain ⟨hb0, hh0⟩ : ∃ hb0, hb0 = D.has x := ⟨_, rfl⟩
          have HC1 : Hid (∀ d os, Calls Tryz.prog 30 #[.agg #[.int .i64 D.q, .int .i64 D.p, .int .i64 D.m, .int .i64 D.gen, .slice (some ⟨gm, 0, none⟩) (D.m + 1) cm], .int .i64 x] (grow (redrawn wr d) os) fun e w'' => e = .returned (.bool hb0) ∧ ∃ p : Regrown, w'' = grow (redrawn wr p.d) p.os) := fun d os => by
            rw [hh0]
            exact Calls.regrown_of (rhas_any D D.gen _ x _)
          have HN : Hid (anyB (fun j => !D.wok (y j)) (r + 1) = !(decide (x = -1) || hb0)) := by
            show (anyB (fun j => !D.wok (y j)) r || !D.wok (y r)) = _
            rw [HP.out.1, Bool.false_or, hh0, hx]; rfl
          have hbx := HA.out.1.below (B := wa.heap.size) HP.out.2 (by have := HA.out.2.1; omega)
          have k0 := cell_regrown hbx.c0
          have k1 := cell_regrown hbx.c1
          have k2 := cell_regrown hbx.c2
          have k3 := cell_regrown hbx.c3
          have k4 := cell_regrown hbx.c4
          have k5 := cell_regrown hcx
          have HB2 : Hid (Below w.heap.size w wr ∧ Below wa.heap.size wa wr) := ⟨bel_up' HA.out.2.2 HP.out.2, HP.out.2⟩
          clear hx hh0 hArg hbx hcx
          by_cases hx1 : x = -1
          · have hz : (x != -1) = false := by rw [hx1]; rfl
            have HN2 : Hid (anyB (fun j => !D.wok (y j)) (r + 1) = false) := by show _ = _; rw [HN.out, decide_eq_true hx1]; rfl
            clear hx1
            go_wp2
            refine wp_region_quiet_below (by kernel_rfl) (by kernel_rfl) ?_
            repeat (go_big_quiet_step (first | (go_at_call 30; exact HC1.out _ _)))
            refine wpQuiet_nil ?_
            intro _ hw'
            obtain ⟨⟨dr, osr⟩, hw''⟩ := hw'
            subst hw''
            go_wp2
            go_roundw
            case rel => exact ⟨r + 1, by omega, by go_num, HN2.out, bel_up' HB2.out.2 (below_regrown wr dr osr)⟩
            case measure => simp [intOf]; omega
          · have hz : (x != -1) = true := by rw [bne_iff_ne]; exact hx1
            have HN2 : Hid (anyB (fun j => !D.wok (y j)) (r + 1) = !hb0) := by show _ = _; rw [HN.out, decide_eq_false hx1]; rfl
            clear hx1
            cases hb0 with
            | true =>
              go_wp2
              refine wp_region_quiet_below (by kernel_rfl) (by kernel_rfl) ?_
              repeat (go_big_quiet_step (first | (go_at_call 30; exact HC1.out _ _)))
              refine wpQuiet_nil ?_
              intro _ hw'
              obtain ⟨⟨dr, osr⟩, hw''⟩ := hw'
              subst hw''
              go_wp2
              go_roundw
              case rel => exact ⟨r + 1, by omega, by go_num, HN2.out, bel_up' HB2.out.2 (below_regrown wr dr osr)⟩
              case measure => simp [intOf]; omega
            | false =>
              have HV2 : Hid (D.wchk m z k m y = 2) := by
                show _ = _
                have h2 : anyB (fun j => !D.wok (y j)) (r + 1) = true := HN2.out
                have h3 : (fun j => !D.wok (y j)) r = true := by
                  have h4 : (anyB (fun j => !D.wok (y j)) r || !D.wok (y r)) = true := h2
                  rw [HP.out.1, Bool.false_or] at h4; exact h4
                rw [HV.out, anyB_yes h3 m hlt]; rfl
              go_wp2
              refine wp_region_quiet_below (by kernel_rfl) (by kernel_rfl) ?_
              repeat (go_big_quiet_step (first | (go_at_call 30; exact HC1.out _ _)))
              refine wpQuiet_nil ?_
              intro _ hw'
              obtain ⟨⟨dr, osr⟩, hw''⟩ := hw'
              subst hw''
              go_wp2
              go_ret
              exact ⟨ret_int (by rw [HV2.out]), bel_up' HB2.out.1 (below_regrown wr dr osr)⟩
        · have hib : ¬ (r : Int) < (m : Int) := by omega
          have hre : m = r := by omega
          subst hre
          have HV2 : Hid (D.wchk m z k m y = 0) := by show _ = _; rw [HV.out, HP.out.1]; rfl
          have H3 : Hid (Below w.heap.size w wr) := bel_up' HA.out.2.2 HP.out.2
          go_wp2
          go_ret
          exact ⟨ret_int (by rw [HV2.out]), H3.out⟩
    · have HV : Hid (D.wchk n z k m y = 6) := by show _ = _; rw [HE.out, if_neg (by simp), if_pos hmn]
      have hz : (((m : Nat) : Int) != ((n : Nat) : Int)) = true := by rw [bne_iff_ne]; omega
      go_wp2
      go_ret
      rw [← hwa]
      exact ⟨ret_int (by rw [HV.out]), HA.out.2.2⟩
  · have HV : Hid (D.wchk n z k m y = e0) := by show _ = _; rw [HE.out, if_pos h0]
    have hz : (e0 != 0) = true := by rw [bne_iff_ne]; exact h0
    clear h0
    go_enter Tryz.func20, Tryz.ntmps20
    go_wp2_with fail
    refine HC.out.mono ?_
    rintro e w1 ⟨rfl, hb1⟩
    have H1 : Hid (Below w.heap.size w w1) := hb1
    clear hb1
    go_wp2
    go_ret
    exact ⟨ret_int (by rw [HV.out]), H1.out⟩
end Go.Proofs.YtogobpamlalbiaaGreat

/- Whole words, and how many messages there are: the program's checkWhole, messages, digits; the law's wholeWord; the reference's Few. -/
namespace Go.Proofs.YtogobpamlalbiaaGreat
open Go.RowKit Go.Sort

theorem wchk_ok {D : FD} {n m : Nat} {z y : Nat → Int} {k : Int} (h : D.wchk n z k m y = 0) : D.rchk n z k = 0 ∧ m = n ∧ ∀ j, j < m → D.wok (y j) = true := by
  unfold FD.wchk at h
  by_cases h1 : D.rchk n z k = 0
  · rw [if_neg (fun x => x h1)] at h
    by_cases h2 : m = n
    · rw [if_neg (fun x => x h2)] at h
      refine ⟨h1, h2, fun j hj => ?_⟩
      by_cases h3 : D.allW y m = true
      · unfold FD.allW at h3
        cases e : D.wok (y j) with
        | true => rfl
        | false =>
          rw [anyB_yes (p := fun j => !D.wok (y j)) (i := j) (by show (!D.wok (y j)) = true; rw [e]; rfl) m hj] at h3
          cases h3
      · rw [if_neg h3] at h; cases h
    · rw [if_pos h2] at h; cases h
  · rw [if_pos h1] at h; exact absurd h h1
end Go.Proofs.YtogobpamlalbiaaGreat

/- How many messages there are, and each by its number: the reference's Few, the program's messages, digits. -/
namespace Go.Proofs.YtogobpamlalbiaaGreat
open Go.RowKit Go.Sort

end Go.Proofs.YtogobpamlalbiaaGreat

/- At how many places a message's word differs: the reference's Off, of whole words. -/
namespace Go.Proofs.YtogobpamlalbiaaGreat
open Go.RowKit Go.Sort

end Go.Proofs.YtogobpamlalbiaaGreat

/- All near messages: the program's Within. -/
namespace Go.Proofs.YtogobpamlalbiaaGreat
open Go.RowKit Go.Sort

end Go.Proofs.YtogobpamlalbiaaGreat

/- All near messages: the reference's Near. -/
namespace Go.Proofs.YtogobpamlalbiaaGreat
open Go.RowKit Go.Sort

end Go.Proofs.YtogobpamlalbiaaGreat

/- All near messages: the walk of the reference's Near. -/
namespace Go.Proofs.YtogobpamlalbiaaGreat
open Go.RowKit Go.Sort

theorem LLx.push {g base : Nat} {v v' u : Value} {l : List Value} {L : List (Nat × (Nat → Nat))} {p : Nat × (Nat → Nat)} {w w' : World} (h1 : OwnV base v l w) (h2 : Elms l L w) (h3 : ∀ u ∈ l, u.ownBlock ≠ some g) (hu : Elm u p w) (hne : u.ownBlock ≠ some g) (ho : OwnV base v' (l ++ [u]) w') (hg : w.grownBy w' v.ownBlock) : LLx g base v' (L ++ [p]) w' := by
  refine ⟨_, ho, (h2.snoc hu).grown h1 hg, fun x hx => ?_⟩
  rcases List.mem_append.1 hx with hx | hx
  · exact h3 x hx
  · rw [List.mem_singleton.1 hx]; exact hne

end Go.Proofs.YtogobpamlalbiaaGreat

/- What it says that places, a dimension and a whole word may be; the calls that say no. -/
namespace Go.Proofs.YtogobpamlalbiaaGreat
open Go.RowKit Go.Sort

end Go.Proofs.YtogobpamlalbiaaGreat

/- Places and words where no field has that many elements. -/
namespace Go.Proofs.YtogobpamlalbiaaGreat
open Go.RowKit Go.Sort

end Go.Proofs.YtogobpamlalbiaaGreat

/- Sudan's products in their order, and how a list of numbers is parted by them: plain mathematics. -/
namespace Go.Proofs.YtogobpamlalbiaaGreat
open Go.RowKit

/-- How many lists there are when a numbers have been laid by their powers. -/
def gn (p : Nat → Nat) : Nat → Nat
  | 0 => 0
  | a + 1 => if p a = gn p a then gn p a + 1 else gn p a
/-- The lists when a numbers have been laid. -/
def gz (p : Nat → Nat) (s : Nat → Nat) : Nat → Nat → List Int
  | 0 => fun _ => []
  | a + 1 => fun j => if j = p a then gz p s a j ++ [((s a : Nat) : Int)] else gz p s a j
theorem gz_some {p s : Nat → Nat} : ∀ {a j : Nat}, (∀ b, b < a → p b ≤ gn p b) → j < gn p a → 0 < (gz p s a j).length
  | 0, _, _, hj => absurd hj (by simp [gn])
  | a + 1, j, h, hj => by
    have hj : j < (if p a = gn p a then gn p a + 1 else gn p a) := hj
    show 0 < (if _ then _ else _ : List Int).length
    by_cases e : j = p a
    · rw [if_pos e, List.length_append]
      exact Nat.lt_of_lt_of_le Nat.zero_lt_one (Nat.le_add_left _ _)
    · rw [if_neg e]
      exact gz_some (fun b hb => h b (by omega)) (by split at hj <;> omega)
theorem gz_nat (p s : Nat → Nat) : ∀ a j (x : Int), x ∈ gz p s a j → 0 ≤ x
  | 0, _, x, h => by simp [gz] at h
  | a + 1, j, x, h => by
    have h : x ∈ (if j = p a then gz p s a j ++ [((s a : Nat) : Int)] else gz p s a j) := h
    split at h
    · rcases List.mem_append.1 h with h | h
      · exact gz_nat p s a j x h
      · rw [List.mem_singleton.1 h]; omega
    · exact gz_nat p s a j x h
/-- The lists, each by its greatest place and its numbers. -/
def gL (p s : Nat → Nat) (a : Nat) : List (Nat × (Nat → Nat)) := (List.range (gn p a)).map fun j => ((gz p s a j).length - 1, fun i => ((gz p s a j).getD i 0).toNat)
theorem gL_len (p s : Nat → Nat) (a : Nat) : (gL p s a).length = gn p a := by simp [gL]
end Go.Proofs.YtogobpamlalbiaaGreat

/- Lists of lists of the call's own that grow at any of their lists. -/
namespace Go.Proofs.YtogobpamlalbiaaGreat
open Go.RowKit Go.Sort

/-- The list of lists at ro, made behind block number base: n lists Z, each in a block of its own. -/
structure GrS (base n : Nat) (ro : Option Addr) (rc : Nat) (vs : Nat → Value) (Z : Nat → List Int) (w : World) : Prop where
  own : OwnV base (.slice ro n rc) (vl n vs) w
  row : ∀ j, j < n → OwnI base (vs j) (Z j) w
  inj : ∀ i j, i < n → j < n → i ≠ j → ∀ g, (vs i).ownBlock = some g → (vs j).ownBlock ≠ some g
theorem GrS.nil (base : Nat) (vs : Nat → Value) (Z : Nat → List Int) (w : World) : GrS base 0 none 0 vs Z w :=
  ⟨OwnV.nil _ _, fun j hj => absurd hj (by omega), fun i j hi => absurd hi (by omega)⟩
theorem GrS.below {base n : Nat} {ro : Option Addr} {rc : Nat} {vs : Nat → Value} {Z : Nat → List Int} {w w' : World} (h : GrS base n ro rc vs Z w) (hb : Below w.heap.size w w') : GrS base n ro rc vs Z w' :=
  ⟨h.own.below hb (Nat.le_refl _), fun j hj => (h.row j hj).below hb (fun k hk => ((h.row j hj).lt k hk).2), h.inj⟩
theorem GrS.congr {base n : Nat} {ro : Option Addr} {rc : Nat} {vs : Nat → Value} {Z Z' : Nat → List Int} {w : World} (h : GrS base n ro rc vs Z w) (e : ∀ j, j < n → Z j = Z' j) : GrS base n ro rc vs Z' w :=
  ⟨h.own, fun j hj => by rw [← e j hj]; exact h.row j hj, h.inj⟩
theorem GrS.cell {base n : Nat} {ro : Option Addr} {rc : Nat} {vs : Nat → Value} {Z : Nat → List Int} {w : World} (h : GrS base n ro rc vs Z w) (j : Nat) (hj : j < n) : ∃ g, ro = some ⟨g, 0, none⟩ ∧ w.cell? ⟨g, j, none⟩ = some (vs j) ∧ w.frozen? ⟨g, j, none⟩ = false ∧ base ≤ g ∧ g < w.heap.size := by
  obtain ⟨ro', rc', e, _, hlt, hge, hc⟩ := h.own.open
  rw [vl_len] at e
  cases e
  obtain ⟨g, e, h1, h2⟩ := hc j (vs j) (vl_get n vs j hj)
  exact ⟨g, e, h1, h2, hge _ e, hlt _ e⟩
/-- Cell j of a list of lists of the call's own is another one now. -/
theorem OwnV.set {base n rc g : Nat} {ro : Option Addr} {vs : Nat → Value} {w1 : World} (hown : OwnV base (.slice ro n rc) (vl n vs) w1) (hg : ro = some ⟨g, 0, none⟩) (j : Nat) (u : Value) : OwnV base (.slice ro n rc) (vl n fun i => if i = j then u else vs i) (w1.setCell ⟨g, j, none⟩ u) := by
  rcases hown.2 with ⟨h1, _⟩ | ⟨g', cap, cur, hv, hb, hh, hle, hcm, hsz, htake⟩
  · rw [hg] at h1; cases h1
  · rw [hg, vl_len] at hv
    cases hv
    have hlt := lt_of_block hh
    have h' : w1.heap[g] = .cells cur 22 (0, 0) := by simpa [Array.getElem?_eq_getElem hlt] using hh
    refine ⟨by rw [vl_len]; omega, Or.inr ⟨g, rc, cur.setIfInBounds j u, by rw [hg, vl_len], hb, ?_, by rw [vl_len]; rw [vl_len] at hle; exact hle, hcm, by rw [Array.size_setIfInBounds]; exact hsz, ?_⟩⟩
    · show (w1.heap.modify g _)[g]? = _
      rw [Array.getElem?_eq_getElem (by simpa using hlt), Array.getElem_modify_self, h']
      rfl
    · rw [vl_len] at htake ⊢
      apply List.ext_getElem?
      intro i
      have h3 : (cur.toList.take (n * 1))[i]? = (vl n vs)[i]? := by rw [htake]
      rw [List.getElem?_take] at h3 ⊢
      by_cases hi : i < n * 1
      · rw [if_pos hi] at h3 ⊢
        have hik : i < n := by omega
        rw [vl_get n vs i hik] at h3
        rw [vl_get n _ i hik, Array.getElem?_toList, Array.getElem?_setIfInBounds]
        rw [Array.getElem?_toList] at h3
        by_cases e : j = i
        · rw [if_pos e, if_pos (by have := (Array.getElem?_eq_some_iff.1 h3).1; omega), if_pos e.symm]
        · rw [if_neg e, if_neg (fun x => e x.symm)]; exact h3
      · rw [if_neg hi, List.getElem?_eq_none (by rw [vl_len]; omega)]
/-- One list more, an empty one. -/
theorem GrS.push {base n : Nat} {ro : Option Addr} {rc : Nat} {v' : Value} {vs : Nat → Value} {Z : Nat → List Int} {w w' : World} (h : GrS base n ro rc vs Z w) (ho : OwnV base v' (vl n vs ++ [.slice none 0 0]) w') (hg : w.grownBy w' (Value.slice ro n rc).ownBlock) (hZ : Z n = []) :
    ∃ ro' rc', v' = .slice ro' (n + 1) rc' ∧ GrS base (n + 1) ro' rc' (fun j => if j = n then .slice none 0 0 else vs j) Z w' := by
  obtain ⟨ro', rc', e, _⟩ := ho.open
  rw [List.length_append, vl_len] at e
  refine ⟨ro', rc', e, ?_, fun j hj => ?_, fun i j hi hj hij g hv => ?_⟩
  · have e2 : vl (n + 1) (fun j => if j = n then .slice none 0 0 else vs j) = vl n vs ++ [.slice none 0 0] := by
      unfold vl
      rw [List.range_succ, List.map_append]
      congr 1
      · exact List.map_congr_left (fun j hj => if_neg (by have := List.mem_range.1 hj; omega))
      · simp
    rw [e2]
    rw [e] at ho
    exact ho
  · show OwnI base (if j = n then .slice none 0 0 else vs j) (Z j) w'
    by_cases ej : j = n
    · rw [if_pos ej, ej, hZ]; exact OwnI.nil _ _
    · rw [if_neg ej]
      exact (h.row j (by omega)).kept hg ((h.row j (by omega)).apart h.own)
  · have hv : (if i = n then Value.slice none 0 0 else vs i).ownBlock = some g := hv
    show (if j = n then Value.slice none 0 0 else vs j).ownBlock ≠ some g
    by_cases ei : i = n
    · rw [if_pos ei] at hv; cases hv
    · rw [if_neg ei] at hv
      by_cases ej : j = n
      · rw [if_pos ej]; intro x; cases x
      · rw [if_neg ej]; exact h.inj i j (by omega) (by omega) hij g hv
/-- One number more in list j, which lies at u then. -/
theorem GrS.store {base n : Nat} {ro : Option Addr} {rc : Nat} {vs : Nat → Value} {Z : Nat → List Int} {w w1 : World} (h : GrS base n ro rc vs Z w) {g j : Nat} (hj : j < n) (hg : ro = some ⟨g, 0, none⟩) {u : Value} {x : Int} (hu : OwnI base u (Z j ++ [x]) w1) (hgr : w.grownBy w1 (vs j).ownBlock) (hat : u.ownBlock = (vs j).ownBlock ∨ u.ownBlock = some w.heap.size) :
    GrS base n ro rc (fun i => if i = j then u else vs i) (fun i => if i = j then Z i ++ [x] else Z i) (w1.setCell ⟨g, j, none⟩ u) := by
  have hown : OwnV base (.slice ro n rc) (vl n vs) w1 := h.own.grown hgr ((h.row j hj).apartV h.own)
  have hob : (Value.slice ro n rc).ownBlock = some g := by rw [hg]; rfl
  refine ⟨?_, fun i hi => ?_, fun a b ha hb hab k hv => ?_⟩
  · exact hown.set hg j u
  · show OwnI base (if i = j then u else vs i) (if i = j then Z i ++ [x] else Z i) _
    by_cases e : i = j
    · rw [if_pos e, if_pos e, e]; exact hu.setV hown hob
    · rw [if_neg e, if_neg e]
      refine OwnI.setV ((h.row i hi).kept hgr ?_) hown hob
      cases hv : (vs i).ownBlock with
      | none => exact Or.inl rfl
      | some k => exact Or.inr (fun x => h.inj i j hi hj e k hv x.symm)
  · have hv : (if a = j then u else vs a).ownBlock = some k := hv
    show (if b = j then u else vs b).ownBlock ≠ some k
    have hnew : ∀ c, c < n → (vs c).ownBlock ≠ some w.heap.size := fun c hc hx => by
      have := ((h.row c hc).lt _ hx).2
      omega
    by_cases ea : a = j
    · rw [if_pos ea] at hv
      rw [if_neg (fun x => hab (ea.trans x.symm))]
      rcases hat with hat | hat
      · rw [hat] at hv
        exact h.inj j b hj hb (fun x => hab (ea.trans x)) k hv
      · rw [hat] at hv
        cases hv
        exact hnew b hb
    · rw [if_neg ea] at hv
      by_cases eb : b = j
      · rw [if_pos eb]
        rcases hat with hat | hat
        · rw [hat]
          exact h.inj a j ha hj ea k hv
        · rw [hat]
          intro x
          cases x
          exact hnew a ha hv
      · rw [if_neg eb]
        exact h.inj a b ha hb hab k hv
/-- What they are when all numbers are laid. -/
theorem GrS.lls {base n : Nat} {ro : Option Addr} {rc : Nat} {vs : Nat → Value} {p s : Nat → Nat} {a : Nat} {w : World} (h : GrS base n ro rc vs (gz p s a) w) (hn : n = gn p a) (hp : ∀ b, b < a → p b ≤ gn p b) : LLs base (.slice ro n rc) (gL p s a) w := by
  refine ⟨vl n vs, h.own, by rw [vl_len, gL_len, hn], fun j v y hv hy => ?_⟩
  have hj : j < n := by have := (List.getElem?_eq_some_iff.1 hv).1; rwa [vl_len] at this
  rw [vl_get n vs j hj] at hv
  cases hv
  unfold gL at hy
  rw [List.getElem?_map, List.getElem?_range (by omega)] at hy
  cases hy
  have h0 := gz_some (s := s) hp (show j < gn p a by omega)
  have h1 := (h.row j hj).ownC (fun i => ((gz p s a j).getD i 0).toNat) (fun k hk => by
    have hm : (gz p s a j).getD k 0 ∈ gz p s a j := by
      rw [List.getD_eq_getElem?_getD, List.getElem?_eq_getElem hk]
      exact List.getElem_mem hk
    have := gz_nat p s a j _ hm
    omega)
  rw [show (gz p s a j).length = (gz p s a j).length - 1 + 1 from by omega] at h1
  exact h1.elm
end Go.Proofs.YtogobpamlalbiaaGreat

/- A region that draws its order and whose last operation, which waits for all others, writes what another one reads. No Go text here. -/
namespace Go.Proofs.YtogobpamlalbiaaGreat
open Go

/-- Does number L wait for number i? -/
def waitsB (ops : Array Oper) (L i : Nat) : Bool := ((ops[L]?).map fun o => o.after.any fun e => Region.binds .any e && e.on == i).getD false
end Go.Proofs.YtogobpamlalbiaaGreat

/- The program's products: pairs of powers, two cells each. -/
namespace Go.Proofs.YtogobpamlalbiaaGreat
open Go.RowKit Go.Sort

/-- The cells of pairs. -/
def qc (l : List (Nat × Nat)) : List Value := l.flatMap fun p => [.int .i64 (p.1 : Nat), .int .i64 (p.2 : Nat)]
/-- n pairs of numbers from ao on. -/
def SlQ (ao : Option Addr) (n : Nat) (px py : Nat → Nat) (w : World) : Prop := ∀ j, j < n → ∃ b, ao = some ⟨b, 0, none⟩ ∧ w.cell? ⟨b, j * 2, none⟩ = some (.int .i64 (px j : Nat)) ∧ w.cell? ⟨b, j * 2 + 1, none⟩ = some (.int .i64 (py j : Nat))
theorem SlQ.below {ao : Option Addr} {n : Nat} {px py : Nat → Nat} {w w' : World} (h : SlQ ao n px py w) (hb : Below w.heap.size w w') : SlQ ao n px py w' := fun j hj => by
  obtain ⟨b, e, hc, hd⟩ := h j hj
  have hlt : b < w.heap.size := by
    rcases Nat.lt_or_ge b w.heap.size with e | e
    · exact e
    · exfalso
      have h1 : w.heap[b]? = none := Array.getElem?_eq_none e
      simp [World.cell?, h1] at hc
  exact ⟨b, e, ((bcell hb).1 b (j * 2) hlt).trans hc, ((bcell hb).1 b (j * 2 + 1) hlt).trans hd⟩
end Go.Proofs.YtogobpamlalbiaaGreat

/- The program's valuesAt: all products at an x and a y. -/
namespace Go.Proofs.YtogobpamlalbiaaGreat
open Go.RowKit Go.Sort

/-- A power, as an element. -/
def FD.pn (D : FD) (a k : Nat) : Nat := (D.powZ a k).toNat
theorem pn_eq {D : FD} {a : Nat} (ha : a < D.q) (k : Nat) : D.powZ a k = (D.pn a k : Nat) := by
  have hh : D.has (a : Nat) = true := decide_eq_true ⟨by omega, by omega⟩
  have : (0 : Int) ≤ D.powZ a k := by
    unfold FD.powZ
    rw [hh, if_neg (by decide)]
    split
    · omega
    · split
      · rw [if_neg (by omega)]; omega
      · omega
  unfold FD.pn
  omega
end Go.Proofs.YtogobpamlalbiaaGreat
