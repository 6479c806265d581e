/- Texts of ours, one behind the other: KO11 KO12 KO13 KO14 KO15 KO16 W21. -/
import Derived.Test.YtmklnjkallhphaaZKO9
import Derived.Test.YtmklnjkallhphaaZKO3
import Derived.Test.YtmklnjkallhphaaZKL8
import Derived.Test.YtmklnjkallhphaaZS58
import Derived.Test.YtmklnjkallhphaaZK7
import Derived.Test.YtmklnjkallhphaaZI10
import Derived.Test.YtmklnjkallhphaaZZ10
import Derived.Test.YtmklnjkallhphaaZKL5
import Derived.Test.YtmklnjkallhphaaZS28
import Derived.Test.YtmklnjkallhphaaZKE3
import Derived.Test.YtmklnjkallhphaaZR5
import Derived.Test.YtmklnjkallhphaaZT10
/- Muller: the code (the program). -/
namespace Go.Proofs.Ytmklnjkallhphaa
open Go.RowKit Go.Sort Go.Shelf
attribute [local go_sem] Oper.semAt_some

/-- Rows that the call made itself are rows of a code. -/
theorem LLs.cod {D : FD} {base k n : Nat} {v : Value} {R : Nat → Nat → Nat} {w : World} (h : LLs base v (Go.Proofs.Ytmklnjkallhphaa.rl k n R) w) (hn : n + 1 ≤ 64) (hk : k ≤ 64) (he : ∀ i, i < k → El D (R i)) (hb : ∀ i, i < k → Bd (n + 1) (R i)) : ∃ ao cap, v = .slice ao k cap ∧ Cod D (n + 1) ao k R w := by
  obtain ⟨ao, cap, A, C, hv, hz⟩ := h.matZN (by omega)
  refine ⟨ao, cap, hv, A, fun _ => n + 1, C, _, ⟨hz, blw_mchk6 hk (by omega) hn (fun j hj t ht => ?_), fun _ => rfl, by omega, hn⟩, fun i hi => mzc_rows hb i hi⟩
  have := he j hj t
  exact ⟨by omega, by omega⟩
theorem CB.put {b : Nat} {q n : Int} {v : Value} {w : World} (h : CB b q n v w) (ht : RBt b w) (u : Value) : CB b q n u (w.setCell ⟨b, 2, none⟩ u) ∧ RBt b (w.setCell ⟨b, 2, none⟩ u) := by
  obtain ⟨cs, hcs⟩ := ht
  have hf : RowF b cs.size 27 (fun o => cs.getD o undef) w := ⟨cs, hcs, rfl, fun o ho => by simp [Array.getD, ho]⟩
  have e : ∀ o, w.cell? ⟨b, o, none⟩ = cs[o]? := fun o => cell_of_row w b o cs _ (0, 0) hcs
  have h2 : 2 < cs.size := by
    have := h.c2
    rw [e] at this
    exact (Array.getElem?_eq_some_iff.1 this).1
  have hs := hf.store 2 u
  refine ⟨⟨?_, ?_, ?_⟩, ?_⟩
  · rw [hs.cell 0 (by omega)]
    unfold upd
    rw [if_neg (by omega), ← h.c0, hf.cell 0 (by omega)]
  · rw [hs.cell 1 (by omega)]
    unfold upd
    rw [if_neg (by omega), ← h.c1, hf.cell 1 (by omega)]
  · rw [hs.cell 2 (by omega)]
    unfold upd
    rw [if_pos rfl]
  · obtain ⟨cs', h1, _⟩ := hs
    exact ⟨cs', h1⟩
theorem RBt.free {b : Nat} {w : World} (h : RBt b w) (o : Nat) : w.frozen? ⟨b, o, none⟩ = false := by
  obtain ⟨cs, hcs⟩ := h
  exact frozen_of_row w b o cs _ hcs
theorem RBt.other {b : Nat} {w w' : World} (h : RBt b w) (e : w'.heap[b]? = w.heap[b]?) : RBt b w' := by
  obtain ⟨cs, hcs⟩ := h
  exact ⟨cs, e.trans hcs⟩
theorem RB.other {b : Nat} {w w' : World} (h : RB b w) (e : w'.heap[b]? = w.heap[b]?) : RB b w' := by
  have ec : ∀ o, w'.cell? ⟨b, o, none⟩ = w.cell? ⟨b, o, none⟩ := fun o => by simp [World.cell?, e]
  have ef : ∀ o, w'.frozen? ⟨b, o, none⟩ = w.frozen? ⟨b, o, none⟩ := fun o => World.frozen?_of_block e
  exact ⟨by rw [ec]; exact h.c0, by rw [ec]; exact h.c1, by rw [ec]; exact h.c2, by rw [ef]; exact h.f0, by rw [ef]; exact h.f1, by rw [ef]; exact h.f2⟩
theorem RB.lt {b : Nat} {w : World} (h : RB b w) : b < w.heap.size := by
  obtain ⟨⟨x0, c0⟩, _⟩ := h
  exact cell_lt c0
theorem CB.other {b : Nat} {q n : Int} {v : Value} {w w' : World} (h : CB b q n v w) (e : w'.heap[b]? = w.heap[b]?) : CB b q n v w' := by
  have ec : ∀ o, w'.cell? ⟨b, o, none⟩ = w.cell? ⟨b, o, none⟩ := fun o => by simp [World.cell?, e]
  exact ⟨by rw [ec]; exact h.c0, by rw [ec]; exact h.c1, by rw [ec]; exact h.c2⟩
theorem LLs.putCode {base b o : Nat} {v x : Value} {L : List (Nat × (Nat → Nat))} {w : World} (h : LLs base v L w) (ht : RBt b w) : LLs base v L (w.setCell ⟨b, o, none⟩ x) := by
  obtain ⟨l, h1, h2⟩ := h
  refine ⟨l, h1.same (fun g hg => Below.heap_setCell _ _ _ _ (h1.notCode ht g hg)), h2.1, fun j u p hu hp => ?_⟩
  obtain ⟨g, cap, e, a1, a2, hr⟩ := h2.2 j u p hu hp
  exact ⟨g, cap, e, a1, a2, hr.other (Below.heap_setCell _ _ _ _ (hr.notCode ht))⟩
theorem MV.above {B : Nat} {v : Value} {k n : Nat} {R : Nat → Nat → Nat} {w w' : World} (h : MV B v k n R w) (hs : ∀ g, B ≤ g → w'.heap[g]? = w.heap[g]?) : MV B v k n R w' := by
  rcases h with h | ⟨G, mc, m, hh, ev, hm⟩
  · exact Or.inl h
  · exact Or.inr ⟨G, mc, m, hh, ev, hm.keep (hs G hm.geG) (fun i hi => hs _ (hm.ge i hi))⟩
theorem Cod.makeV {D : FD} (hD : D ∈ fieldsL) {n m : Nat} (ca : Nat) {ao : Option Addr} {M : Nat → Nat → Nat} {w : World} (h : Cod D n ao m M w) :
    Calls Try.prog 34 #[.agg #[.int .i64 D.q, .int .i64 (n : Nat), .slice ao m ca]] w fun x w' => ∃ k R ro rc, x = .returned (.tuple #[.agg #[.int .i64 D.q, .int .i64 (n : Nat), .slice ro k rc], .int .i64 0]) ∧ MV w.heap.size (.slice ro k rc) k n R w' ∧ Red D n m M k R ∧ Below w.heap.size w w' := by
  have hc := h.chk hD ca
  obtain ⟨A, N, C, Z, h1, h2⟩ := h
  refine (cMake_ok hD h1 hc).mono ?_
  rintro x w' ⟨k, R, ro, rc, rfl, hmv, hred, hb⟩
  exact ⟨k, R, ro, rc, rfl, hmv, hred.of_eq h2, hb⟩
theorem mad_row {l : List Nat} {P i : Nat} : ∀ x, x < P → mad (l.getD i 0) pnil P x = mrow l P i x := fun x hx => by
  unfold mad mrow mof pnil
  rw [if_pos hx]
  by_cases h : mon (l.getD i 0) x = true
  · rw [if_pos ⟨hx, h⟩, if_pos h]
  · rw [if_neg (fun q => h q.2), if_neg h]

/-- What Code tells. -/
def McP (r m P : Nat) (w : World) (e : Ending) (w' : World) : Prop :=
  ∃ k R ro rc, e = .returned (.tuple #[.agg #[.int .i64 2, .int .i64 (P : Nat), .slice ro k rc], .int .i64 0]) ∧ MV w.heap.size (.slice ro k rc) k P R w' ∧ Red FM P (mnl m (r + 1)).length (mrow (mnl m (r + 1)) P) k R ∧ Below w.heap.size w w'

set_option maxHeartbeats 16000000 in
set_option maxRecDepth 100000 in
theorem mCode_any (r m P : Nat) (h1 : 1 ≤ m) (h : m ≤ 5) (hr : r ≤ m) (hP : P = 2 ^ m) (w : World) :
    Calls Try.prog 9 #[.int .i64 (r : Nat), .int .i64 (m : Nat)] w (McP r m P w) := by
  obtain ⟨l, hl⟩ : ∃ l, l = mnl m (r + 1) := ⟨_, rfl⟩
  have hlen : l.length ≤ 1000 := by have := mnl_len h (r + 1); rw [hl]; omega
  have hl64 : l.length ≤ 64 := by
    obtain ⟨R', p, hR, _⟩ := rre_full FM_in (n := 2 ^ m) (M := mrow l (2 ^ m)) l.length (fun i _ => mrow_el l _ i) (fun i _ => mrow_bd l _ i) (fun j hj => mrow_free h1 h (by rw [hl]; exact mnl_ord h1 h hr) hj)
    have a := (Red.le (M := R') ⟨p, hR, fun _ => Iff.rfl⟩)
    have : 2 ^ m ≤ 2 ^ 5 := Nat.pow_le_pow_right (by omega) h
    omega
  have hPb : P ≤ 32 := by rw [hP]; exact Nat.pow_le_pow_right (by omega) h
  have hP1 : 1 ≤ P := by rw [hP]; exact Nat.pow_pos (by omega)
  obtain ⟨P1, hP1e⟩ : ∃ P1, P = P1 + 1 := ⟨P - 1, by omega⟩
  have hsh : (2 : Int) ^ m = (P : Int) := by rw [hP]; simp
  obtain ⟨w0, hw0⟩ : ∃ w0, w0 = w.alloc (.cells #[.int .i64 0, .int .i64 0, .slice none 0 0] 27) := ⟨_, rfl⟩
  have HC : Hid (Calls Try.prog 10 #[.int .i64 (r : Nat), .int .i64 (m : Nat)] w0 fun e w' => e = .returned (.int .i64 0) ∧ w' = w0) := by
    have := mullCheck_any (r : Int) (m : Int) w0
    rw [mck_fine h1 h hr] at this; exact this
  have HL : Hid (l = mnl m (r + 1) ∧ (∀ i, i < l.length → l.getD i 0 < 32) ∧ P = 2 ^ m ∧ P = P1 + 1 ∧ m ≤ 5 ∧ r ≤ m) := ⟨hl, fun i hi => by
    have hlt := (mnl_ord h1 h hr).1 i (by rw [← hl]; exact hi)
    rw [← hl] at hlt
    have : 2 ^ m ≤ 2 ^ 5 := Nat.pow_le_pow_right (by omega) h
    omega, hP, hP1e, h, hr⟩
  have H0 : Hid (Below w.heap.size w w0 ∧ RB w.heap.size w0 ∧ w0.heap.size = w.heap.size + 1) := by rw [hw0]; exact ⟨(Below.refl _ _).alloc (Nat.le_refl _) _, RB.new _ _ _ _, by simp⟩
  obtain ⟨w1, hw1⟩ : ∃ w1, w1 = w0.alloc (.cells #[.int .i64 2, .int .i64 (P : Nat), .slice none 0 0] 27) := ⟨_, rfl⟩
  have HT1 : Hid (RBt w0.heap.size w1 ∧ RB w.heap.size w1) := by
    rw [hw1]
    exact ⟨RBt.new _ _, RB.other (by rw [hw0]; exact RB.new _ _ _ _) (Below.heap_alloc _ _ _ (by rw [hw0]; simp))⟩
  have H1 : Hid (CB w0.heap.size 2 P (.slice none 0 0) w1 ∧ Below w0.heap.size w0 w1 ∧ w1.heap.size = w0.heap.size + 1) := by rw [hw1]; exact ⟨CB.new _ _ _ _, (Below.refl _ _).alloc (Nat.le_refl _) _, by simp⟩
  unfold McP
  rw [← hl]
  have hm5 := h
  clear hl hP hP1e h
  refine callsIn_wide.1 (callsIn_of_wp_marks (n := 0) Try.func9 rfl trivial ?_ rfl)
  refine wpIn_wide.2 ?_
  simp only [Try.ntmps9, List.size_toArray, List.length_cons, List.length_nil, Nat.reduceAdd, Nat.reduceSub, Array.replicate_succ, Array.replicate_zero, List.push_toArray, List.append_toArray, List.nil_append, List.cons_append]
  go_wp2_with fail
  rw [← hw0]
  clear hw0
  refine HC.out.mono ?_
  rintro e w' ⟨rfl, hw⟩
  have hw := hw.symm
  subst hw
  clear HC
  go_wp2_with fail
  rw [← hw1]
  clear hw1
  refine (monos_any r m w1).mono ?_
  rintro e w2 ⟨b1, b2, rfl, ⟨hg1, hg2⟩, hbx, hb2⟩
  obtain ⟨cb, hcb⟩ : ∃ cb, cb = w0.heap.size := ⟨_, rfl⟩
  rw [← hcb]
  have hl1 := cell_lt hbx.1
  have hl2 := cell_lt hbx.2
  simp only at hl1 hl2
  have hsz2 := hb2.size
  have hs01 := H1.out.2.2
  have hs0 := H0.out.2.2
  have hseq : SeqI Try.prog 51 #[.pointer (some ⟨b1, 0, none⟩), .pointer (some ⟨b2, 0, none⟩)] l.length (MnE l) (fun k => k = cb ∨ w2.heap.size + 2 ≤ k) w2 := by
    rw [HL.out.1]
    exact monos_seq hm5 hr hbx (fun e => by omega) (fun e => by omega)
  have HQ : Hid (SeqI Try.prog 51 #[.pointer (some ⟨b1, 0, none⟩), .pointer (some ⟨b2, 0, none⟩)] l.length (MnE l) (fun k => k = cb ∨ w2.heap.size + 2 ≤ k) w2) := hseq
  have H2 : Hid (CB cb 2 P (.slice none 0 0) w2 ∧ RBt cb w2 ∧ RB w.heap.size w2 ∧ Below w.heap.size w w2 ∧ w.heap.size < cb ∧ cb < w2.heap.size) := by
    have hbw1 : Below w.heap.size w w1 := bel_up' H0.out.1 H1.out.2.1
    have c1 := H1.out.1
    rw [← hcb] at c1
    refine ⟨c1.keep hb2, ?_, ?_, bel_up' hbw1 hb2, by omega, by omega⟩
    · have := HT1.out.1
      rw [← hcb] at this
      exact this.keep hb2
    · exact HT1.out.2.keep hb2
  clear hseq hbx hb2 hl1 hl2 hg1 hg2 hsz2 hs01 hs0 hcb H0 H1
  go_wp2
  refine range_lawG (gf := 51) (lb := #[.pointer (some ⟨b1, 0, none⟩), .pointer (some ⟨b2, 0, none⟩)]) rfl (enters_of Try.func51 (by kernel_rfl) rfl) HQ.out (fun h => by have := H2.out.2.2.2.2; omega) (fun h => by have := H2.out.2.2.2.2; omega) (fun r args X h => by rw [h.2]; rfl)
    (fun i X => ∃ v, CB cb 2 P v X ∧ RBt cb X ∧ RB w.heap.size X ∧ LLs (w2.heap.size + 2) v (rl i P1 (mrow l P)) X ∧ Below w.heap.size w X) ?stable (fun r args X Y h hg => h) ?start
    (fun args => { tmps := #[.int .i64 (r : Nat), .int .i64 (m : Nat), undef, undef, .pointer (some ⟨w.heap.size, 0, none⟩), .int .i64 0, .int .i64 0, .pointer (some ⟨cb, 0, none⟩), args.getD 0 undef, undef, .int .i64 (r : Nat), .int .i64 (m : Nat), .int .i64 0, .int .i64 0, .bool false, undef, undef, .int .i64 (m : Nat), .int .i64 (P : Nat), .agg #[.int .i64 2, .int .i64 (P : Nat), .slice none 0 0], .int .i64 (r : Nat), .int .i64 (m : Nat), .func (.func 51) #[] #[.pointer (some ⟨b1, 0, none⟩), .pointer (some ⟨b2, 0, none⟩)], args.getD 0 undef, undef, undef, undef, undef, undef, undef, undef, undef, undef, undef, undef, undef, undef, undef, undef, undef], defers := [] })
    ?assign ?body ?done
  case stable =>
    rintro i X Y ⟨v, h1, h2, h3, h4, h5⟩ hg
    have hc := H2.out.2.2.2.2
    have e1 : Y.heap[cb]? = X.heap[cb]? := hg.same cb (cell_lt h1.c0) (Or.inl hc.2)
    have e2 : Y.heap[w.heap.size]? = X.heap[w.heap.size]? := hg.same _ h3.lt (Or.inl (by omega))
    exact ⟨v, h1.other e1, h2.other e1, h3.other e2, h4.grc hg, h5.trans ⟨hg.os, hg.tape, hg.output, hg.size, fun i hi => hg.same i (by have := h5.size; omega) (Or.inl (by omega))⟩⟩
  case start => exact ⟨_, H2.out.1, H2.out.2.1, H2.out.2.2.1, LLs.nil _ _, H2.out.2.2.2.1⟩
  case assign =>
    intro lp r args X K he hK
    obtain ⟨_, ha⟩ := he
    obtain ⟨y, hy⟩ : ∃ y, y = l.getD r 0 := ⟨_, rfl⟩
    rw [← hy] at ha
    subst ha
    clear hy
    gi_wp2
    exact hK
  case body =>
    rintro lp i args X hi hX ⟨v, h1, h2, h3, h4, h5⟩ he
    obtain ⟨hrl, ha⟩ := he
    obtain ⟨y, hy⟩ : ∃ y, y = l.getD i 0 := ⟨_, rfl⟩
    rw [← hy] at ha
    subst ha
    have hy32 : y < 32 := by rw [hy]; exact HL.out.2.1 i hrl
    have hc1 := h1.c1
    have hcs := H2.out.2.2.2.2
    have HI : Hid (CB cb 2 P v X ∧ RBt cb X ∧ RB w.heap.size X ∧ LLs (w2.heap.size + 2) v (rl i P1 (mrow l P)) X ∧ Below w.heap.size w X ∧ y = l.getD i 0 ∧ i < l.length ∧ w2.heap.size + 2 ≤ X.heap.size) := ⟨h1, h2, h3, h4, h5, hy, hrl, hX⟩
    clear h1 h2 h3 h4 h5 hy hrl hX hi
    gi_wp2_with (first
      | (gi_at_make; refine make_int_in rfl _ _ rfl P rfl rfl (by omega) ?_; intro X1 hrow1 hb1)
      | gi_in)
    have hrX : Hid (Row X.heap.size P pnil X1 ∧ Below X.heap.size X X1) := ⟨hrow1, hb1⟩
    have HA : Hid (CallsIn Fence.wide 0 Try.prog 33 #[.int .i64 (y : Nat), .slice (some ⟨X.heap.size, 0, none⟩) P P] X1 fun e w' => e = .returned (.tuple #[]) ∧ Row X.heap.size P (mad y pnil P) w' ∧ Below X.heap.size X1 w') :=
      callsIn_wide.2 (monAdd_any y X.heap.size P P X.heap.size (by omega) hPb (Nat.le_refl _) pnil (fun x _ => by show 0 < 2; omega) hrow1)
    clear hrow1 hb1 hc1
    refine ⟨trivial, rfl, (CallsIn.inRound lp HA.out).mono ?_⟩
    rintro e X2 ⟨rfl, hrow2, hb2⟩
    have hbX2 : Below X.heap.size X X2 := hrX.out.2.trans hb2
    have hszX := hbX2.size
    obtain ⟨lst, hov, hels⟩ := HI.out.2.2.2.1.below hbX2 (Nat.le_refl _)
    have hlst : lst.length ≤ 1000 := by have := hels.1; rw [rl_len] at this; have := HI.out.2.2.2.2.2.2.1; omega
    have ht2 : RBt cb X2 := HI.out.2.1.keep hbX2
    have hcb2 : CB cb 2 P v X2 := HI.out.1.keep hbX2
    have hc2 := hcb2.c2
    have hX8 := HI.out.2.2.2.2.2.2.2
    have hEl : Elm (.slice (some ⟨X.heap.size, 0, none⟩) P P) (P1, mrow l P i) X2 := by
      have eP := HL.out.2.2.2.1
      refine ⟨X.heap.size, P, by rw [eP], by show P1 + 1 ≤ P; omega, by omega, ?_⟩
      show Row X.heap.size (P1 + 1) (mrow l P i) X2
      rw [← eP]
      exact hrow2.congr (fun x hx => by rw [HI.out.2.2.2.2.2.1]; exact mad_row x hx)
    have H5 : Hid (OwnV (w2.heap.size + 2) v lst X2 ∧ Elms lst (rl i P1 (mrow l P)) X2 ∧ Elm (.slice (some ⟨X.heap.size, 0, none⟩) P P) (P1, mrow l P i) X2 ∧ RBt cb X2 ∧ CB cb 2 P v X2 ∧ Below X.heap.size X X2) := ⟨hov, hels, hEl, ht2, hcb2, hbX2⟩
    clear hov hels hEl ht2 hcb2 hbX2 hrow2 hb2 hrX HA
    gi_wp2_with (first
      | (gi_at_builtin
         refine append_sl_in rfl _ _ rfl (w2.heap.size + 2) v lst rfl (H5.out.1.below ((Below.refl _ _).alloc (Nat.le_refl _) _) (Nat.le_refl _)) ⟨X2.heap.size, 0, none⟩ 1 (.slice (some ⟨X.heap.size, 0, none⟩) P P) rfl rfl (by rw [cell_of_row _ _ _ _ _ (0, 0) (two_new _)]; rfl) (by omega) (by simp; omega) ?_
         intro v' X4 hov4 hg4
         have hal : Below X2.heap.size X2 (X2.alloc (.cells #[.slice (some ⟨X.heap.size, 0, none⟩) P P] 22)) := (Below.refl _ _).alloc (Nat.le_refl _) _
         have hov3 := H5.out.1.below hal (Nat.le_refl _)
         have ht3 : RBt cb (X2.alloc (.cells #[.slice (some ⟨X.heap.size, 0, none⟩) P P] 22)) := H5.out.2.2.2.1.keep hal
         have hne : some cb ≠ v.ownBlock := fun e => by have := (hov3.lt cb e.symm).1; omega
         have e4 : X4.heap[cb]? = (X2.alloc (.cells #[.slice (some ⟨X.heap.size, 0, none⟩) P P] 22)).heap[cb]? := hg4.block cb (by obtain ⟨cs, q⟩ := ht3; exact lt_of_block q) hne
         have ht4 : RBt cb X4 := ht3.other e4
         have hcb4 : CB cb 2 P v X4 := (H5.out.2.2.2.2.1.keep hal).other e4
         have hc4 := hcb4.c2
         have hf4 := ht4.free 2
         have hll4 : LLs (w2.heap.size + 2) v' (rl (i + 1) P1 (mrow l P)) X4 := by
           rw [rl_next]
           exact LLs.push hov3 (H5.out.2.1.below hal (Nat.le_refl _)) (H5.out.2.2.1.below hal (Nat.le_refl _)) hov4 hg4
         obtain ⟨ao', cap', ev', _⟩ := hov4.open
         subst ev')
      | gi_in)
    have hk4 : KpO (fun k => k = cb ∨ w2.heap.size + 2 ≤ k) X X4 := ((KpO.of_below H5.out.2.2.2.2.2).trans (KpO.of_below hal)).trans (KpO.of_grown hg4 (fun k hk => Or.inr (hov3.lt k hk).1))
    have hbw4 : Below w.heap.size w X4 := (bel_up' (bel_up' HI.out.2.2.2.2.1 H5.out.2.2.2.2.2) hal).grown hg4 (by have := HI.out.2.2.2.2.1.size; simp; omega) (fun k hk => by have := (hov3.lt k hk).1; omega)
    have ht4w : RB w.heap.size X4 := HI.out.2.2.1.other (hk4.same _ HI.out.2.2.1.lt (by omega))
    have el : (lst ++ [Value.slice (some ⟨X.heap.size, 0, none⟩) P P]).length = lst.length + 1 := by simp
    rw [el] at hll4
    refine ⟨hk4.trans (KpO.setCell _ _ _ (Or.inl rfl)), _, (hcb4.put ht4 _).1, (hcb4.put ht4 _).2, ht4w.other (Below.heap_setCell _ _ _ _ (by show w.heap.size ≠ cb; omega)), hll4.putCode ht4, hbw4.setCell (by show w.heap.size ≤ cb; omega) _⟩
  case done =>
    rintro De We hDe ⟨v, h1, h2, h3, h4, h5⟩ hK
    have eP := HL.out.2.2.2.1
    obtain ⟨ao, cap, ev, hco⟩ := h4.cod (D := FM) (by omega) hl64 (fun i _ => mrow_el _ _ _) (fun i _ => by rw [← eP]; exact mrow_bd _ _ _)
    rw [← eP] at hco
    subst ev
    have HMk : Hid (Calls Try.prog 34 #[.agg #[.int .i64 2, .int .i64 (P : Nat), .slice ao l.length cap]] We fun x w' => ∃ k R ro rc, x = .returned (.tuple #[.agg #[.int .i64 2, .int .i64 (P : Nat), .slice ro k rc], .int .i64 0]) ∧ MV We.heap.size (.slice ro k rc) k P R w' ∧ Red FM P l.length (mrow l P) k R ∧ Below We.heap.size We w') := Cod.makeV FM_in cap hco
    have HW : Hid (Below w.heap.size w We ∧ RB w.heap.size We ∧ We.heap[De]? = some (.deferred (some [])) ∧ w.heap.size < De) := ⟨h5, h3, hK, by have := H2.out.2.2.2.2; omega⟩
    obtain ⟨c0, c1, c2⟩ := h1
    clear h2 h3 h4 h5 hK hco hDe eP
    go_wp2_with fail
    refine HMk.out.mono ?_
    rintro x w3 ⟨k, R, ro, rc, rfl, hcd, hred, hb3⟩
    have H3 : Hid (MV We.heap.size (.slice ro k rc) k P R w3 ∧ Red FM P l.length (mrow l P) k R ∧ Below w.heap.size w w3 ∧ RB w.heap.size w3 ∧ w3.heap[De]? = some (.deferred (some [])) ∧ w.heap.size < De ∧ De < We.heap.size) := by
      refine ⟨hcd, hred, bel_up' HW.out.1 hb3, ?_, ?_, HW.out.2.2.2, (Array.getElem?_eq_some_iff.1 HW.out.2.2.1).1⟩
      · exact HW.out.2.1.keep hb3
      · rw [hb3.block De (Array.getElem?_eq_some_iff.1 HW.out.2.2.1).1]; exact HW.out.2.2.1
    clear hcd hred hb3 c0 c1 c2
    obtain ⟨⟨x0, c0⟩, ⟨x1, c1⟩, ⟨x2, c2⟩, f0, f1, f2⟩ := H3.out.2.2.2.1
    go_wp2
    obtain ⟨w4, hw4⟩ : ∃ w4, w4 = laid w3 w.heap.size 2 P (.slice ro k rc) := ⟨_, rfl⟩
    have H4 : Hid (CB w.heap.size 2 P (.slice ro k rc) w4 ∧ Below w.heap.size w w4 ∧ w4.heap[De]? = some (.deferred (some [])) ∧ MV We.heap.size (.slice ro k rc) k P R w4) := by
      have hde := H3.out.2.2.2.2.2
      rw [hw4]
      exact ⟨laid_cb H3.out.2.2.2.1 _ _ _, laid_below H3.out.2.2.1 (Nat.le_refl _) _ _ _, by rw [laid_heap _ _ _ _ _ (by omega)]; exact H3.out.2.2.2.2.1, laid_mv H3.out.1 (by omega) _ _ _⟩
    unfold laid at hw4
    rw [← hw4]
    clear hw4 c0 c1 c2 f0 f1 f2
    obtain ⟨w5, hw5⟩ : ∃ w5, w5 = w4.putObj De (.deferred none) := ⟨_, rfl⟩
    have H5 : Hid (CB w.heap.size 2 P (.slice ro k rc) w5 ∧ Below w.heap.size w w5 ∧ MV w.heap.size (.slice ro k rc) k P R w5) := by
      have hde := H3.out.2.2.2.2.2
      have hwe := HW.out.1.size
      rw [hw5]
      refine ⟨H4.out.1.other (World.putObj_heap_other (by omega)), H4.out.2.1.grown (grownBy_putObj' _ _ _) H4.out.2.1.size (fun k hk => by cases hk; omega), (H4.out.2.2.2.above (fun g hg => World.putObj_heap_other (by omega))).mono (by omega)⟩
    obtain ⟨c0, c1, c2⟩ := H5.out.1
    refine ⟨by simp, .inl ⟨_, _, rfl, run_takeDeferred H4.out.2.2.1, ?_⟩⟩
    rw [← hw5]
    refine ⟨.tuple #[.agg #[.int .i64 2, .int .i64 (P : Nat), .slice ro k rc], .int .i64 0], by simp [results, Try.results9, go_sem, c0, c1, c2], ?_⟩
    exact ⟨k, R, ro, rc, rfl, H5.out.2.2, H3.out.2.1, H5.out.2.1⟩
end Go.Proofs.Ytmklnjkallhphaa

/- Muller: the reference finds no message (MullerNear). -/
namespace Go.Proofs.Ytmklnjkallhphaa
open Go.RowKit Go.Sort

end Go.Proofs.Ytmklnjkallhphaa

/- Muller: the reference's code (printed by make/ko13.py). -/
namespace Go.Proofs.Ytmklnjkallhphaa
open Go.RowKit Go.Sort

end Go.Proofs.Ytmklnjkallhphaa

/- MullerSays: its walk. -/
namespace Go.Proofs.Ytmklnjkallhphaa
open Go.RowKit Go.Sort

end Go.Proofs.Ytmklnjkallhphaa

/- Muller: the monomials from the last to the first (slices.Backward). -/
namespace Go.Proofs.Ytmklnjkallhphaa
open Go.RowKit Go.Shelf Go.Sort
attribute [local go_sem] Oper.semAt_some

/-- The r-th monomial from the end, with its number. -/
def MnB (l : List Nat) (r : Nat) (args : Array Value) (_ : World) : Prop := r < l.length ∧ args = #[.int .i64 ((l.length - 1 - r : Nat) : Int), .int .i64 (l.getD (l.length - 1 - r) 0 : Nat)]
/-- The list that is gone through, in its box. -/
def BkU (bs gM cM : Nat) (l : List Nat) (w : World) : Prop := w.cell? ⟨bs, 0, none⟩ = some (.slice (some ⟨gM, 0, none⟩) l.length cM) ∧ ∀ j, j < l.length → w.cell? ⟨gM, j, none⟩ = some (.int .i64 (l.getD j 0 : Nat))
theorem cell_kpo {own : Nat → Prop} {X Y : World} {b o : Nat} {v : Value} (h : X.cell? ⟨b, o, none⟩ = some v) (hk : KpO own X Y) (hn : ¬ own b) : Y.cell? ⟨b, o, none⟩ = some v := by
  have e := hk.same b (cell_lt h) hn
  unfold World.cell? at *
  rw [e]; exact h
theorem BkU.kpo {bs gM cM : Nat} {l : List Nat} {own : Nat → Prop} {X Y : World} (h : BkU bs gM cM l X) (hk : KpO own X Y) (h1 : ¬ own bs) (h2 : ¬ own gM) : BkU bs gM cM l Y :=
  ⟨cell_kpo h.1 hk h1, fun j hj => cell_kpo (h.2 j hj) hk h2⟩
theorem BkU.below {bs gM cM : Nat} {l : List Nat} {X Y : World} (h : BkU bs gM cM l X) (hb : Below X.heap.size X Y) : BkU bs gM cM l Y :=
  h.kpo (own := fun _ => False) (KpO.of_below hb) (fun h => h) (fun h => h)

set_option maxHeartbeats 8000000 in
set_option maxRecDepth 100000 in
theorem back_seq {bs gM cM : Nat} {l : List Nat} (hl : l.length ≤ 1000) (hl0 : 0 < l.length) {own : Nat → Prop} {w : World} (hP : BkU bs gM cM l w) (h1 : ¬ own bs) (h2 : ¬ own gM) :
    SeqI Try.prog 57 #[.pointer (some ⟨bs, 0, none⟩)] l.length (MnB l) own w := by
  intro lp J W hbW hlp hlW hJ hY hJ0
  have HB : Hid (¬ (own bs ∨ bs = lp) ∧ ¬ (own gM ∨ gM = lp)) := by
    have g1 := cell_lt hP.1
    have g2 := cell_lt (hP.2 0 hl0)
    simp only at g1 g2
    exact ⟨fun h => by rcases h with h | h; exact h1 h; omega, fun h => by rcases h with h | h; exact h2 h; omega⟩
  obtain ⟨K, hK⟩ : ∃ K, K = l.length := ⟨_, rfl⟩
  have HY : Hid (∀ r' args X, r' < K → J r' X → MnB l r' args X → YieldAt Fence.wide 0 Try.prog lp args X fun e Y => e = .returned (.bool true) ∧ J (r' + 1) Y ∧ KpO (fun k => own k ∨ k = lp) X Y) := by rw [hK]; exact hY
  have H0 : Hid (J 0 W ∧ BkU bs gM cM l W) := ⟨hJ0, hP.below hbW⟩
  have HK : Hid (K = l.length) := hK
  have c1 := H0.out.2.1
  rw [← hK] at c1 ⊢
  have hKb : 0 < K ∧ K ≤ 1000 := by omega
  clear hY hJ hJ0 hbW hP hK hl hl0
  refine callsIn_of_wp Try.func57 rfl trivial ?_ rfl
  simp only [Try.ntmps57, List.size_toArray, List.length_cons, List.length_nil, Nat.reduceAdd, Nat.reduceSub, Array.replicate_succ, Array.replicate_zero, List.push_toArray, List.append_toArray, List.nil_append, List.cons_append]
  obtain ⟨K1, hK1⟩ : ∃ K1, K = K1 + 1 := ⟨K - 1, by omega⟩
  have hsb : (K : Int) - 1 = ((K1 : Nat) : Int) := by omega
  gi_wp2
  gi_loopw [3] (fun vi wr => ∃ j : Nat, j ≤ K ∧ vi = .int .i64 ((j : Int) - 1) ∧ Hid (J (K - j) wr ∧ BkU bs gM cM l wr)) (fun vi _ => (intOf vi + 1).toNat)
  case atStart => exact ⟨K, Nat.le_refl _, by rw [hsb], by rw [Nat.sub_self]; exact H0.out.1, H0.out.2⟩
  case round =>
    obtain ⟨j, hj, hv, HG⟩ := hrel
    rename World => wr
    clear c1
    have c1 := HG.out.2.1
    rw [← HK.out] at c1
    cases j with
    | zero =>
      have hv' : u3 = .int .i64 (-1) := by rw [hv]; rfl
      clear hv
      subst hv'
      have HZ : Hid (J K wr) := HG.out.1
      gi_wp2
      exact bodyPost_end (results_none rfl _ _ _) rfl ⟨⟨_, rfl⟩, HZ.out⟩
    | succ t =>
      have hv' : u3 = .int .i64 (t : Int) := by rw [hv]; go_num
      clear hv
      subst hv'
      have hti : (0 : Int) ≤ (t : Int) := by omega
      have htk : (t : Int) < (K : Int) := by omega
      have hc := HG.out.2.2 t (by have := HK.out; omega)
      obtain ⟨y, hy⟩ : ∃ y, y = l.getD t 0 := ⟨_, rfl⟩
      rw [← hy] at hc
      have hYl := HY.out (K - (t + 1)) #[.int .i64 ((t : Nat) : Int), .int .i64 (y : Nat)] wr (by omega) HG.out.1 ⟨by have := HK.out; omega, by
        have e : l.length - 1 - (K - (t + 1)) = t := by have := HK.out; omega
        rw [e, hy]⟩
      obtain ⟨fn, tmps, assign, body, hyy, hR⟩ := hYl
      clear hy
      gi_wp2
      refine ⟨rfl, hR.mono ?_⟩
      rintro e Y ⟨rfl, hS, hk⟩
      have HQ2 : Hid (J (K - t) Y ∧ BkU bs gM cM l Y) := by
        refine ⟨?_, HG.out.2.kpo hk HB.out.1 HB.out.2⟩
        rw [show K - t = K - (t + 1) + 1 by omega]
        exact hS
      clear hR hyy hS hk
      gi_wp2
      exact ⟨⟨t, by omega, by go_num, HQ2⟩, by simp [intOf]; try omega⟩
set_option maxHeartbeats 2000000 in
theorem back_any (v : Value) (w : World) (hv : ∃ a n c, v = .slice a n c) :
    Calls Try.prog 39 #[v] w fun e w' => e = .returned (.func (.func 57) #[] #[.pointer (some ⟨w.heap.size, 0, none⟩)]) ∧ w' = w.alloc (.cells #[v] 63) := by
  obtain ⟨a, n, c, rfl⟩ := hv
  go_enter Try.func39, Try.ntmps39
  go_wp2
  go_ret
  exact ⟨rfl, rfl⟩
end Go.Proofs.Ytmklnjkallhphaa

/- Muller: Decode (the program): what it refuses. -/
namespace Go.Proofs.Ytmklnjkallhphaa
open Go.RowKit Go.Sort Go.Shelf
attribute [local go_sem] Oper.semAt_some

/-- A variable of one list. -/
def BL (b : Nat) (v : Value) (w : World) : Prop := RowF b 1 22 (fun _ => v) w
theorem BL.new (v : Value) (w : World) : BL w.heap.size v (w.alloc (.cells #[v] 22)) := ⟨_, World.alloc_heap_new w _, rfl, fun o ho => by rw [show o = 0 by omega]; rfl⟩
theorem BL.put {b : Nat} {v : Value} {w : World} (h : BL b v w) (u : Value) : BL b u (w.setCell ⟨b, 0, none⟩ u) := (RowF.store h 0 u).congr (fun o ho => by unfold upd; rw [if_pos (by omega)])
theorem BL.keep {b : Nat} {v : Value} {w w' : World} (h : BL b v w) (hb : Below w.heap.size w w') : BL b v w' := RowF.below h hb (RowF.lt h)

end Go.Proofs.Ytmklnjkallhphaa

/- A region that draws its order: one of three operations may come now. No Go text here. -/
namespace Go.Proofs.Ytmklnjkallhphaa
open Go

theorem wpAnyL_at {P : Program} {ops : Array Oper} {Q : Exit → Act → World → Prop} {S : World → Prop} {L : List Nat} {j : Nat} {o : Oper} {f : Nat} {s : Array Bool} {a : Act} {w : World} (ho : ops[j]? = some o)
    (h : ∀ K : Act → World → Prop, (∀ a' w', (j ∉ L → S w') → wpAnyL P ops Q S L f (s.setIfInBounds j true) a' w' → K a' w') → if Region.wanted o (yielded ops a.tmps) = true then Oper.wp P o a w K Q else K (a.put o.dst undef) w) :
    wpOp P ops Q j (fun a' w' => (j ∉ L → S w') ∧ wpAnyL P ops Q S L f (s.setIfInBounds j true) a' w') a w := by
  have h1 := h (fun a' w' => (j ∉ L → S w') ∧ wpAnyL P ops Q S L f (s.setIfInBounds j true) a' w') (fun a' w' h1 h2 => ⟨h1, h2⟩)
  unfold wpOp
  simp only [ho]
  split
  · rename_i hw
    rw [if_pos hw] at h1
    exact Or.inl h1
  · rename_i hw
    rw [if_neg hw] at h1
    exact h1
theorem wpAnyL_three {P : Program} {ops : Array Oper} {Q : Exit → Act → World → Prop} {S : World → Prop} {L : List Nat} {i k m : Nat} {o o' o2 : Oper} {f : Nat} {s : Array Bool} {a : Act} {w : World} (hr : Region.ready .any ops s = [i, k, m]) (ho : ops[i]? = some o) (ho' : ops[k]? = some o') (ho2 : ops[m]? = some o2)
    (h : ∀ K : Act → World → Prop, (∀ a' w', (i ∉ L → S w') → wpAnyL P ops Q S L f (s.setIfInBounds i true) a' w' → K a' w') → if Region.wanted o (yielded ops a.tmps) = true then Oper.wp P o a w K Q else K (a.put o.dst undef) w)
    (h' : ∀ K : Act → World → Prop, (∀ a' w', (k ∉ L → S w') → wpAnyL P ops Q S L f (s.setIfInBounds k true) a' w' → K a' w') → if Region.wanted o' (yielded ops a.tmps) = true then Oper.wp P o' a w K Q else K (a.put o'.dst undef) w)
    (h2 : ∀ K : Act → World → Prop, (∀ a' w', (m ∉ L → S w') → wpAnyL P ops Q S L f (s.setIfInBounds m true) a' w' → K a' w') → if Region.wanted o2 (yielded ops a.tmps) = true then Oper.wp P o2 a w K Q else K (a.put o2.dst undef) w) : wpAnyL P ops Q S L (f + 1) s a w := by
  refine ⟨fun e => (by rw [hr] at e; cases e), fun j hj => ?_⟩
  rw [hr, List.mem_cons, List.mem_cons, List.mem_singleton] at hj
  rcases hj with hj | hj | hj
  · subst hj; exact wpAnyL_at ho h
  · subst hj; exact wpAnyL_at ho' h'
  · subst hj; exact wpAnyL_at ho2 h2
end Go.Proofs.Ytmklnjkallhphaa
