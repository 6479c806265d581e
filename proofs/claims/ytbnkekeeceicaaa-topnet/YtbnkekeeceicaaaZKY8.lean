/- Texts of ours, one behind the other: KY8 S98 KY9. -/
import Derived.Test.YtbnkekeeceicaaaZKY7
import Derived.Test.YtbnkekeeceicaaaZX14
import Derived.Test.YtbnkekeeceicaaaZKX7
import Derived.Test.YtbnkekeeceicaaaZS92
/- Nets: which sinks may be asked for (checkSinks). -/
namespace Go.Proofs.Ytbnkekeeceicaaa
open Go.RowKit Go.Sort

/-- What is said of the first sinks. -/
def snks (n : Int) (z : Nat → Int) : Nat → Int
  | 0 => 0
  | i + 1 => if snks n z i ≠ 0 then snks n z i else if z i < 1 ∨ n ≤ z i then 10 else if z i ∈ zl i z then 7 else 0
theorem snks_keep {n : Int} {z : Nat → Int} {i : Nat} (h : snks n z i ≠ 0) : ∀ d, snks n z (i + d) = snks n z i
  | 0 => rfl
  | d + 1 => by
    have ih := snks_keep h d
    show (if snks n z (i + d) ≠ 0 then snks n z (i + d) else _) = _
    rw [if_pos (by rw [ih]; exact h), ih]
theorem snks_end {n : Int} {z : Nat → Int} {i L : Nat} {c : Int} (h : snks n z i = c) (hc : c ≠ 0) (hL : i ≤ L) : snks n z L = c := by
  have := snks_keep (n := n) (z := z) (i := i) (by rw [h]; exact hc) (L - i)
  rw [show i + (L - i) = L by omega] at this
  rw [this, h]
/-- What is said of a net, its sinks, and how many numbers are asked for. -/
def spchk (q n h : Int) (L : Nat) (z : Nat → Int) (E : Int) : Int := if E ≠ 0 then E else if h < 1 ∨ 24 < h then 6 else if (L : Int) < 1 ∨ q < (L : Int) then 4 else snks n z L
set_option maxHeartbeats 4000000 in
set_option maxRecDepth 100000 in
theorem checkSinks_any (q n h : Int) {eo so : Option Addr} {m ec L sc : Nat} {F T z : Nat → Int} {w : World} (hE : EdZ eo m F T w) (hm : m ≤ 1000000) (hS : SlZ so L z w) (hL : L ≤ 1000000) (hc : L ≤ sc) :
    Calls Try.prog 20 #[.int .i64 q, .agg #[.int .i64 n, .slice eo m ec], .slice so L sc, .int .i64 h] w fun e w' => e = .returned (.int .i64 (spchk q n h L z (nchkE n m F T))) ∧ Below w.heap.size w w' := by
  obtain ⟨wa, hwa⟩ : ∃ wa, wa = w.alloc (.cells #[.int .i64 n, .slice eo m ec] 25) := ⟨_, rfl⟩
  obtain ⟨E, hEe⟩ : ∃ E, E = nchkE n m F T := ⟨_, rfl⟩
  have hba : Below w.heap.size w wa := by rw [hwa]; exact (Below.refl _ _).alloc (Nat.le_refl _) _
  have HA : Hid (NB w.heap.size n (.slice eo m ec) wa ∧ Below w.heap.size w wa) := ⟨by rw [hwa]; exact NB.new _ _ _, hba⟩
  have HC : Hid (Calls Try.prog 30 #[.agg #[.int .i64 n, .slice eo m ec]] wa fun e w' => e = .returned (.int .i64 E) ∧ Below wa.heap.size wa w') := by
    rw [hEe]; exact nCheck_any n (hE.below hba) hm
  have HT : Hid (∀ tx wx, Below w.heap.size w wx → Calls Try.prog 17 #[.agg #[.int .i64 n, .slice eo m ec], .int .i64 tx] wx fun e w' => e = .returned (.int .i64 (skchk n tx E)) ∧ Below wx.heap.size wx w') := fun tx wx hx => by rw [hEe]; exact nCheckTo_any n tx (hE.below hx) hm
  have HS : Hid (SlZ so L z w) := hS
  rw [← hEe]
  clear hE hba hEe hS
  go_enter Try.func20, Try.ntmps20
  go_wp2_with fail
  rw [← hwa]
  clear hwa
  refine HC.out.mono ?_
  rintro e w1 ⟨rfl, hb1⟩
  have H1 : Hid (NB w.heap.size n (.slice eo m ec) w1 ∧ Below w.heap.size w w1) := ⟨HA.out.1.keep hb1, bel_up' HA.out.2 hb1⟩
  clear hb1 HC HA
  by_cases h0 : E = 0
  · have z0 : (E != 0) = false := by rw [h0]; rfl
    have HE0 : Hid (E = 0) := h0
    have HV : Hid (spchk q n h L z E = if h < 1 ∨ 24 < h then 6 else if (L : Int) < 1 ∨ q < (L : Int) then 4 else snks n z L) := by show _ = _; unfold spchk; rw [if_neg (fun x => x h0)]
    clear h0
    by_cases a1 : h < 1
    · have d1 : decide (h < 1) = true := decide_eq_true a1
      have HQ : Hid (spchk q n h L z E = 6) := by show _ = _; rw [HV.out, if_pos (Or.inl a1)]
      go_wp2
      go_ret
      exact ⟨by rw [HQ.out]; rfl, H1.out.2⟩
    · have d1 : decide (h < 1) = false := decide_eq_false a1
      by_cases a2 : h > 24
      · have d2 : decide (h > 24) = true := decide_eq_true a2
        have HQ : Hid (spchk q n h L z E = 6) := by show _ = _; rw [HV.out, if_pos (Or.inr a2)]
        go_wp2
        go_ret
        exact ⟨by rw [HQ.out]; rfl, H1.out.2⟩
      · have d2 : decide (h > 24) = false := decide_eq_false a2
        by_cases a3 : (L : Int) < 1
        · have d3 : decide ((L : Int) < 1) = true := decide_eq_true a3
          have HQ : Hid (spchk q n h L z E = 4) := by show _ = _; rw [HV.out, if_neg (by omega), if_pos (Or.inl a3)]
          go_wp2
          go_ret
          exact ⟨by rw [HQ.out]; rfl, H1.out.2⟩
        · have d3 : decide ((L : Int) < 1) = false := decide_eq_false a3
          by_cases a4 : (L : Int) > q
          · have d4 : decide ((L : Int) > q) = true := decide_eq_true a4
            have HQ : Hid (spchk q n h L z E = 4) := by show _ = _; rw [HV.out, if_neg (by omega), if_pos (Or.inr a4)]
            go_wp2
            go_ret
            exact ⟨by rw [HQ.out]; rfl, H1.out.2⟩
          · have d4 : decide ((L : Int) > q) = false := decide_eq_false a4
            have HQ : Hid (spchk q n h L z E = snks n z L) := by show _ = _; rw [HV.out, if_neg (by omega), if_neg (by omega)]
            clear a1 a2 a3 a4
            go_wp2
            clear d1 d2 d3 d4 z0
            go_loopw [35] (fun vi wr => ∃ (i : Nat), i ≤ L ∧ vi = .int .i64 i ∧ Hid (snks n z i = 0 ∧ NB w.heap.size n (.slice eo m ec) wr ∧ Below w.heap.size w wr)) (fun vi _ => L - (RowKit.intOf vi).toNat)
            case atStart => exact ⟨0, by omega, rfl, rfl, H1.out⟩
            case round =>
              obtain ⟨i, hi, rfl, HG⟩ := hrel
              rename World => wr
              by_cases hlt : i < L
              · have hib : (i : Int) < (L : Int) := by omega
                have hib0 : (0 : Int) ≤ (i : Int) := by omega
                have hic : (i : Int) ≤ (sc : Int) := by omega
                obtain ⟨b, off, rfl, hcs⟩ := (slz_below HS.out HG.out.2.2) i hlt
                obtain ⟨x, hx⟩ : ∃ x, x = z i := ⟨_, rfl⟩
                rw [← hx] at hcs
                obtain ⟨c0, c1⟩ := HG.out.2.1
                obtain ⟨t, ht⟩ : ∃ t, t = decide (x ∈ zl i z) := ⟨_, rfl⟩
                have HSn : Hid (snks n z (i + 1) = if x < 1 ∨ n ≤ x then 10 else if t = true then 7 else 0) := by
                  show (if snks n z i ≠ 0 then snks n z i else if z i < 1 ∨ n ≤ z i then 10 else if z i ∈ zl i z then 7 else 0) = _
                  rw [if_neg (fun c => c HG.out.1), ← hx, ht]
                  simp only [decide_eq_true_eq]
                have HCo : Hid (∀ wx cc, Below w.heap.size w wx → Calls Try.prog 33 #[.slice (some ⟨b, off, none⟩) i cc, .int .i64 x] wx fun e w' => e = .returned (.bool t) ∧ w' = wx) := fun wx cc hx2 => by
                  rw [ht]
                  exact contains_any x ((slz_below HS.out hx2).less (by omega)) (by omega)
                by_cases a5 : x < 1 ∨ n ≤ x
                · have HT1 : Hid (Calls Try.prog 17 #[.agg #[.int .i64 n, .slice eo m ec], .int .i64 x] wr fun e w' => e = .returned (.int .i64 10) ∧ Below wr.heap.size wr w') := by
                    have h9 := HT.out x wr HG.out.2.2
                    rw [show skchk n x E = 10 by unfold skchk; rw [if_neg (fun c => c HE0.out), if_pos a5]] at h9
                    exact h9
                  have HS7 : Hid (snks n z L = 10) := snks_end (i := i + 1) (by rw [HSn.out, if_pos a5]) (by decide) (by omega)
                  clear a5 hx ht
                  go_wp2_with (go_at_call 17; refine HT1.out.mono ?_; rintro e w2 ⟨rfl, hb2⟩)
                  go_ret
                  exact ⟨by rw [HQ.out, HS7.out]; rfl, bel_up' HG.out.2.2 hb2⟩
                · have HT1 : Hid (Calls Try.prog 17 #[.agg #[.int .i64 n, .slice eo m ec], .int .i64 x] wr fun e w' => e = .returned (.int .i64 0) ∧ Below wr.heap.size wr w') := by
                    have h9 := HT.out x wr HG.out.2.2
                    rw [show skchk n x E = 0 by unfold skchk; rw [if_neg (fun c => c HE0.out), if_neg a5]] at h9
                    exact h9
                  have HSn2 : Hid (snks n z (i + 1) = if t = true then 7 else 0) := by show _ = _; rw [HSn.out, if_neg a5]
                  clear a5 hx ht HSn
                  cases t with
                  | true =>
                    have HS7 : Hid (snks n z L = 7) := snks_end (i := i + 1) (by rw [HSn2.out]; rfl) (by decide) (by omega)
                    go_wp2_with fail
                    refine HT1.out.mono ?_
                    rintro e w2 ⟨rfl, hb2⟩
                    have H2 : Hid (Below w.heap.size w w2) := bel_up' HG.out.2.2 hb2
                    clear hb2
                    go_wp2_with (go_at_call 33; refine (HCo.out _ _ H2.out).mono ?_; rintro e w' ⟨rfl, hw⟩; have hw := hw.symm; subst hw)
                    go_ret
                    exact ⟨by rw [HQ.out, HS7.out]; rfl, H2.out⟩
                  | false =>
                    go_wp2_with fail
                    refine HT1.out.mono ?_
                    rintro e w2 ⟨rfl, hb2⟩
                    have H2 : Hid (Below w.heap.size w w2 ∧ NB w.heap.size n (.slice eo m ec) w2) := ⟨bel_up' HG.out.2.2 hb2, HG.out.2.1.keep hb2⟩
                    clear hb2
                    go_wp2_with (go_at_call 33; refine (HCo.out _ _ H2.out.1).mono ?_; rintro e w' ⟨rfl, hw⟩; have hw := hw.symm; subst hw)
                    go_roundw
                    case rel => exact ⟨i + 1, by omega, by go_num, by rw [HSn2.out]; rfl, H2.out.2, H2.out.1⟩
                    case measure => simp [RowKit.intOf]; omega
              · have e1 : i = L := by omega
                subst e1
                go_wp2
                go_ret
                exact ⟨by rw [HQ.out, HG.out.1]; rfl, HG.out.2.2⟩
  · have z0 : (E != 0) = true := bne_iff_ne.2 h0
    have HV : Hid (spchk q n h L z E = E) := by show _ = _; unfold spchk; rw [if_pos h0]
    clear h0
    go_wp2
    go_ret
    exact ⟨by rw [HV.out]; rfl, H1.out.2⟩
end Go.Proofs.Ytbnkekeeceicaaa

/- Nets: how the ways' last vectors go on from edge to edge. No Go text here. -/
namespace Go.Proofs.Ytbnkekeeceicaaa

/-- The edges that have come. -/
def dnB (od : Nat → Nat) (r : Nat) (e : Nat) : Bool := decide (∃ i, i < r ∧ od i = e)
theorem dnB_yes {od : Nat → Nat} {r e : Nat} : dnB od r e = true ↔ ∃ i, i < r ∧ od i = e := by unfold dnB; exact decide_eq_true_iff
theorem dnB_no {od : Nat → Nat} {r e : Nat} : dnB od r e = false ↔ ¬ ∃ i, i < r ∧ od i = e := by unfold dnB; exact decide_eq_false_iff_not
/-- A way's last vector. -/
def vcP (V : Nat → Nat → Nat) (D : Nat → Bool) (P : Nat → List Nat) (j : Nat) : Nat → Nat := match lst D (P j) with
  | some a => V a
  | none => uniV j
theorem vcP_some {V : Nat → Nat → Nat} {D : Nat → Bool} {P : Nat → List Nat} {j a : Nat} (h : lst D (P j) = some a) : vcP V D P j = V a := by unfold vcP; rw [h]
theorem vcP_none {V : Nat → Nat → Nat} {D : Nat → Bool} {P : Nat → List Nat} {j : Nat} (h : lst D (P j) = none) : vcP V D P j = uniV j := by unfold vcP; rw [h]
theorem vcP_start (V : Nat → Nat → Nat) (od : Nat → Nat) (P : Nat → List Nat) (j : Nat) : vcP V (dnB od 0) P j = uniV j := vcP_none (lst_none (fun e _ => dnB_no.2 (fun ⟨i, hi, _⟩ => by omega)))
/-- Edges of one way begin at different nodes. -/
theorem Chn.one {m : Nat} {F T : Nat → Nat} (hup : ∀ i, i < m → F i < T i) : ∀ {l : List Nat} {x t : Nat}, (∀ e, e ∈ l → e < m) → Chn F T x l t → ∀ a e, a ∈ l → e ∈ l → F a = F e → a = e
  | [], _, _, _, _, _, _, ha, _, _ => by cases ha
  | b :: l, x, t, hm, h, a, e, ha, he, q => by
    have hlm := fun i hi => hm i (List.mem_cons_of_mem b hi)
    have hge := Chn.ge hup hlm h.2
    have hub := hup b (hm b List.mem_cons_self)
    rcases List.mem_cons.1 ha with c | c
    · rcases List.mem_cons.1 he with d | d
      · rw [c, d]
      · have := hge e d; rw [c] at q; omega
    · rcases List.mem_cons.1 he with d | d
      · have := hge a c; rw [d] at q; omega
      · exact Chn.one hup hlm h.2 a e c d q
/-- The vectors when one more is told. -/
def updV (V : Nat → Nat → Nat) (e : Nat) (o : Nat → Nat) : Nat → Nat → Nat := fun a => if a = e then o else V a
theorem Odr.come {m : Nat} {F od : Nat → Nat} (h : Odr m F od) {r a : Nat} (hr : r < m) (ha : dnB od (r + 1) a = true) (hne : a ≠ od r) : F a ≤ F (od r) := by
  obtain ⟨i, hi, e⟩ := dnB_yes.1 ha
  have hir : i < r := by
    rcases Nat.lt_or_ge i r with q | q
    · exact q
    · have : i = r := by omega
      rw [this] at e
      exact absurd e.symm hne
  rw [← e]
  exact h.up i r (by omega) (by omega) hr
theorem Odr.fresh {m : Nat} {F od : Nat → Nat} (h : Odr m F od) {r : Nat} (hr : r < m) : dnB od r (od r) = false := dnB_no.2 (fun ⟨i, hi, e⟩ => by have := h.inj i r (by omega) hr e; omega)
theorem dnB_next {od : Nat → Nat} {r a : Nat} (h : a ≠ od r) : dnB od (r + 1) a = dnB od r a := by
  cases q : dnB od r a with
  | true =>
    obtain ⟨i, hi, e⟩ := dnB_yes.1 q
    exact dnB_yes.2 ⟨i, by omega, e⟩
  | false =>
    refine dnB_no.2 (fun ⟨i, hi, e⟩ => ?_)
    by_cases c : i = r
    · rw [c] at e; exact h e.symm
    · exact dnB_no.1 q ⟨i, by omega, e⟩
/-- One edge more: the way that takes it has its vector, all others stand. -/
theorem vcP_next {m h : Nat} {F T : Nat → Nat} {us : Nat → Bool} {t : Nat} {A : List Nat} {wy : Nat → Nat} {P : Nat → List Nat} {od : Nat → Nat} {V : Nat → Nat → Nat} {o : Nat → Nat} {r j : Nat} (hup : ∀ i, i < m → F i < T i) (hW : Wys m F T us t h A wy P h) (hO : Odr m F od) (hr : r < m) (hj : j < h) :
    vcP (updV V (od r) o) (dnB od (r + 1)) P j = if od r ∈ A ∧ j = wy (od r) then o else vcP V (dnB od r) P j := by
  have hPm : ∀ e, e ∈ P j → e < m := fun e he => (hW.in' e ((hW.of' e j).1 he).1).1
  by_cases c : od r ∈ A ∧ j = wy (od r)
  · rw [if_pos c]
    have hmem : od r ∈ P j := (hW.of' _ _).2 ⟨c.1, c.2.symm⟩
    have h1 := Chn.now hup (D := dnB od (r + 1)) (e := od r) (dnB_yes.2 ⟨r, by omega, rfl⟩) hPm (hW.ch j hj) hmem (fun a ha hne hF => by
      cases q : dnB od (r + 1) a with
      | false => rfl
      | true =>
        have := hO.come hr q hne
        exact absurd (Chn.one hup hPm (hW.ch j hj) a (od r) ha hmem (by omega)) hne)
    rw [vcP_some h1]
    unfold updV
    rw [if_pos rfl]
  · rw [if_neg c]
    have hno : od r ∉ P j := fun q => c ⟨((hW.of' _ _).1 q).1, ((hW.of' _ _).1 q).2.symm⟩
    have h1 : lst (dnB od (r + 1)) (P j) = lst (dnB od r) (P j) := lst_cg (fun e he => dnB_next (fun q => hno (by rw [← q]; exact he)))
    cases q : lst (dnB od r) (P j) with
    | none => rw [vcP_none (h1.trans q), vcP_none q]
    | some a =>
      rw [vcP_some (h1.trans q), vcP_some q]
      unfold updV
      rw [if_neg (fun e => hno (by rw [← e]; exact (lst_in q).1))]
/-- Where a way stands when its edge comes. -/
theorem vcP_at {m h : Nat} {F T : Nat → Nat} {us : Nat → Bool} {t : Nat} {A : List Nat} {wy : Nat → Nat} {P : Nat → List Nat} {od : Nat → Nat} {V : Nat → Nat → Nat} {r : Nat} (hup : ∀ i, i < m → F i < T i) (hW : Wys m F T us t h A wy P h) (hO : Odr m F od) (hr : r < m) (hin : od r ∈ A) (hj : wy (od r) < h) :
    F (od r) = 0 ∨ ∃ a, a < m ∧ T a = F (od r) ∧ dnB od r a = true ∧ vcP V (dnB od r) P (wy (od r)) = V a := by
  have hPm : ∀ e, e ∈ P (wy (od r)) → e < m := fun e he => (hW.in' e ((hW.of' e _).1 he).1).1
  have hmem : od r ∈ P (wy (od r)) := (hW.of' _ _).2 ⟨hin, rfl⟩
  have h1 := Chn.at' hup (D := dnB od r) (e := od r) hPm (hW.ch _ hj) hmem (fun a ha hlt => by
      obtain ⟨i, hi, e⟩ := hO.all a (hPm a ha)
      refine dnB_yes.2 ⟨i, ?_, e⟩
      rcases Nat.lt_or_ge i r with q | q
      · exact q
      · have : F (od r) ≤ F (od i) := by
          by_cases c : i = r
          · rw [c]; exact Nat.le_refl _
          · exact hO.up r i (by omega) (by omega) hi
        rw [e] at this; omega) (fun a ha hle => by
      cases q : dnB od r a with
      | false => rfl
      | true =>
        obtain ⟨i, hi, e⟩ := dnB_yes.1 q
        have h2 : F a ≤ F (od r) := by rw [← e]; exact hO.up i r (by omega) (by omega) hr
        have h3 := Chn.one hup hPm (hW.ch _ hj) a (od r) ha hmem (by omega)
        rw [h3, hO.fresh hr] at q
        cases q)
  rcases h1 with ⟨h2, _⟩ | ⟨a, h2, h3⟩
  · exact Or.inl h2
  · exact Or.inr ⟨a, hPm a (lst_in h2).1, h3, (lst_in h2).2, vcP_some h2⟩
/-- At the end each way's vector is one of an edge that comes to the sink. -/
theorem vcP_end {m h : Nat} {F T : Nat → Nat} {us : Nat → Bool} {t : Nat} {A : List Nat} {wy : Nat → Nat} {P : Nat → List Nat} {od : Nat → Nat} {V : Nat → Nat → Nat} {j : Nat} (hW : Wys m F T us t h A wy P h) (hO : Odr m F od) (ht : t ≠ 0) (hj : j < h) : ∃ a, a < m ∧ T a = t ∧ vcP V (dnB od m) P j = V a := by
  have hPm : ∀ e, e ∈ P j → e < m := fun e he => (hW.in' e ((hW.of' e j).1 he).1).1
  obtain ⟨a, h1, h2⟩ := (hW.ch j hj).end' (D := dnB od m) (Ne.symm ht) (fun a ha => by
    obtain ⟨i, hi, e⟩ := hO.all a (hPm a ha)
    exact dnB_yes.2 ⟨i, hi, e⟩)
  exact ⟨a, hPm a (lst_in h1).1, h2, vcP_some h1⟩
end Go.Proofs.Ytbnkekeeceicaaa

/- Nets: a list of fronts of the call's own: one front more. -/
namespace Go.Proofs.Ytbnkekeeceicaaa
open Go.RowKit Go.Sort Go.Maps

theorem Try.infoF : (Try.prog.info? 62).map (fun i => (i.zero, i.size, i.bytes)) = some (some (.agg #[.map none, .slice none 0 0]), 2, 32) := by kernel_rfl
/-- The cells of fronts: a map's block, and that of the last vectors. -/
def frc (h : Nat) : List (Nat × Nat) → List Value
  | [] => []
  | p :: l => .map (some p.1) :: .slice (some ⟨p.2, 0, none⟩) h h :: frc h l
theorem frc_app (h : Nat) (p : Nat × Nat) : ∀ l, frc h (l ++ [p]) = frc h l ++ [.map (some p.1), .slice (some ⟨p.2, 0, none⟩) h h]
  | [] => rfl
  | a :: l => by show _ :: _ :: frc h (l ++ [p]) = _; rw [frc_app h p l]; rfl
theorem frc_get (h : Nat) : ∀ (l : List (Nat × Nat)) (j : Nat), j < l.length → (frc h l)[j * 2]? = some (.map (some (l.getD j (0, 0)).1)) ∧ (frc h l)[j * 2 + 1]? = some (.slice (some ⟨(l.getD j (0, 0)).2, 0, none⟩) h h)
  | [], j, hj => absurd hj (by simp)
  | a :: l, 0, _ => ⟨rfl, rfl⟩
  | a :: l, j + 1, hj => by
    have ih := frc_get h l j (by simpa using hj)
    have e1 : (j + 1) * 2 = j * 2 + 1 + 1 := by omega
    rw [e1]
    exact ih
/-- The slice v of fronts, made behind block number base. -/
def OwnR (base h : Nat) (v : Value) (l : List (Nat × Nat)) (w : World) : Prop := w.ownsRow base 62 2 v l.length (frc h l)
theorem OwnR.nil (base h : Nat) (w : World) : OwnR base h (.slice none 0 0) [] w := World.ownsRow_nil _ _ _ _
theorem OwnR.below {base h B : Nat} {v : Value} {l : List (Nat × Nat)} {w w' : World} (H : OwnR base h v l w) (hb : Below B w w') (hB : w.heap.size ≤ B) : OwnR base h v l w' := by
  obtain ⟨h1, h2⟩ := H
  refine ⟨h1, ?_⟩
  rcases h2 with h2 | ⟨g, cap, cur, hv, hg, hh, r⟩
  · exact Or.inl h2
  · exact Or.inr ⟨g, cap, cur, hv, hg, by rw [hb.block g (Nat.lt_of_lt_of_le (lt_of_block hh) hB)]; exact hh, r⟩
theorem OwnR.open {base h : Nat} {v : Value} {l : List (Nat × Nat)} {w : World} (H : OwnR base h v l w) (h0 : 0 < l.length) : ∃ g cap, v = .slice (some ⟨g, 0, none⟩) l.length cap ∧ base ≤ g ∧ (∃ cs, w.heap[g]? = some (.cells cs 62 (0, 0))) ∧ ∀ j, j < l.length → w.cell? ⟨g, j * 2, none⟩ = some (.map (some (l.getD j (0, 0)).1)) ∧ w.cell? ⟨g, j * 2 + 1, none⟩ = some (.slice (some ⟨(l.getD j (0, 0)).2, 0, none⟩) h h) := by
  rcases H.2 with ⟨h1, h2⟩ | ⟨g, cap, cur, hv, hg, hh, hle, hcm, hsz, htake⟩
  · omega
  · refine ⟨g, cap, hv, hg, ⟨_, hh⟩, fun j hj => ⟨?_, ?_⟩⟩
    · rw [cell_of_row w g (j * 2) cur 62 (0, 0) hh, ← Array.getElem?_toList]
      have h3 : (cur.toList.take (l.length * 2))[j * 2]? = (frc h l)[j * 2]? := by rw [htake]
      rw [List.getElem?_take, if_pos (by omega)] at h3
      rw [h3]; exact (frc_get h l j hj).1
    · rw [cell_of_row w g (j * 2 + 1) cur 62 (0, 0) hh, ← Array.getElem?_toList]
      have h3 : (cur.toList.take (l.length * 2))[j * 2 + 1]? = (frc h l)[j * 2 + 1]? := by rw [htake]
      rw [List.getElem?_take, if_pos (by omega)] at h3
      rw [h3]; exact (frc_get h l j hj).2
/-- 'l = append(l, front{..})'. -/
theorem append_fr {ops : Array Oper} {rest : List Oper} {o : Oper} {a : Act} {w : World} {Q : Exit → Act → World → Prop} (hgd : o.guard = none) (s x : Operand)
    (ho : o.op = .call { callee := .builtin .append, args := #[s, x], argTypes := #[57, 57] })
    (base h : Nat) (v : Value) (l : List (Nat × Nat)) (hs : a.eval s = v) (hown : OwnR base h v l w) (g c : Nat) (p : Nat × Nat) (hx : a.eval x = .slice (some ⟨g, 0, none⟩) 1 c) (hc0 : w.cell? ⟨g, 0, none⟩ = some (.map (some p.1))) (hc1 : w.cell? ⟨g, 1, none⟩ = some (.slice (some ⟨p.2, 0, none⟩) h h))
    (hlen : l.length ≤ 1000000) (hbase : base ≤ w.heap.size)
    (hk : ∀ v' w', OwnR base h v' (l ++ [p]) w' → w.grownBy w' v.ownBlock → wpList Try.prog ops Q rest (a.put o.dst v') w') : wpList Try.prog ops Q (o :: rest) a w := by
  obtain ⟨i0, hi, hz0, hz1, hz2⟩ := info_parts Try.infoF
  refine wpList_append_own _ hgd s x 57 ho base 62 i0 (.agg #[.map none, .slice none 0 0]) 2 32 Try.underlying57 hi hz0 hz1 hz2 rfl (by decide) v l.length _ hs hown ⟨g, 0, none⟩ 1 c [.map (some p.1), .slice (some ⟨p.2, 0, none⟩) h h] hx rfl ?_ ?_ ?_ ?_ hbase ?_
  · intro j u hj
    match j, hj with
    | 0, hj =>
      simp at hj; subst hj
      exact hc0
    | 1, hj =>
      simp at hj; subst hj
      exact hc1
  · intro u hu
    simp at hu
    rcases hu with rfl | rfl <;> rfl
  · unfold maxLen; omega
  · omega
  · intro v' w' hown' hgrow _
    refine hk v' w' ?_ hgrow
    unfold OwnR
    rw [List.length_append, frc_app]
    exact hown'
/-- The block of fronts is none of rows, nor a map, nor a row of numbers. -/
theorem OwnR.row {base h G m : Nat} {t : TypeId} {f : Nat → Value} {v : Value} {l : List (Nat × Nat)} {w : World} (H : OwnR base h v l w) (ht : t ≠ 62) (r : RowF G m t f w) : some G ≠ v.ownBlock := by
  intro e
  obtain ⟨cs, h1, _⟩ := r
  rcases H.2 with ⟨h2, _⟩ | ⟨g, cap, cur, hv, _, hh, _⟩
  · rw [h2] at e; cases e
  · rw [hv] at e
    have e : some G = some g := e
    cases e
    rw [h1] at hh
    injection hh with h3
    injection h3 with h4 h5
    exact ht h5
theorem OwnR.map {base h B : Nat} {L : List Nat} {c : Nat → Int} {v : Value} {l : List (Nat × Nat)} {w : World} (H : OwnR base h v l w) (r : MapN B L c w) : some B ≠ v.ownBlock := by
  intro e
  obtain ⟨D, ⟨es, clock, hb, _⟩, _⟩ := r
  rcases H.2 with ⟨h2, _⟩ | ⟨g, cap, cur, hv, _, hh, _⟩
  · rw [h2] at e; cases e
  · rw [hv] at e
    have e : some B = some g := e
    cases e
    rw [hb] at hh
    cases hh
end Go.Proofs.Ytbnkekeeceicaaa
