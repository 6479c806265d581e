/- Texts of ours, one behind the other: KO11 KO12. -/
import Derived.Test.YtmklnjkallhphaaZKO9
import Derived.Test.YtmklnjkallhphaaZKO4
import Derived.Test.YtmklnjkallhphaaZKL8
import Derived.Test.YtmklnjkallhphaaZI21
import Derived.Test.YtmklnjkallhphaaZI10
import Derived.Test.YtmklnjkallhphaaZS8
import Derived.Test.YtmklnjkallhphaaZKE21
/- Muller: the code (the program). -/
namespace Go.Proofs.Ytmklnjkallhphaa
open Go.RowKit Go.Sort Go.Shelf
attribute [local go_sem] Oper.semAt_some

/-- Rows that the call made itself are rows of a code. -/
theorem LLs.cod {D : FD} {base k n : Nat} {v : Value} {R : Nat → Nat → Nat} {w : World} (h : LLs base v (Go.Proofs.Ytmklnjkallhphaa.rl k n R) w) (hn : n + 1 ≤ 64) (hk : k ≤ 64) (he : ∀ i, i < k → El D (R i)) (hb : ∀ i, i < k → Bd (n + 1) (R i)) : ∃ ao cap, v = .slice ao k cap ∧ Cod D (n + 1) ao k R w := by
  obtain ⟨ao, cap, A, C, hv, hz⟩ := h.matZN (by omega)
  refine ⟨ao, cap, hv, A, fun _ => n + 1, C, _, ⟨hz, blw_mchk6 hk (by omega) hn (fun j hj t ht => ?_), fun _ => rfl, by omega, hn⟩, fun i hi => mzc_rows hb i hi⟩
  have := he j hj t
  exact ⟨by omega, by omega⟩
theorem Cod.matR {D : FD} (F : Fld D) {n m : Nat} {ao : Option Addr} {M : Nat → Nat → Nat} {w : World} (h : Cod D n ao m M w) : MatR ao m (n - 1) M w := by
  obtain ⟨A, N, C, Z, h1, h2⟩ := h
  obtain ⟨_, _, _, g⟩ := h1.rows F
  intro i hi
  have := g i hi
  rw [h2 i hi] at this
  exact this
theorem CB.put {b : Nat} {q n : Int} {v : Value} {w : World} (h : CB b q n v w) (ht : RBt b w) (u : Value) : CB b q n u (w.setCell ⟨b, 2, none⟩ u) ∧ RBt b (w.setCell ⟨b, 2, none⟩ u) := by
  obtain ⟨cs, hcs⟩ := ht
  have hf : RowF b cs.size 27 (fun o => cs.getD o undef) w := ⟨cs, hcs, rfl, fun o ho => by simp [Array.getD, ho]⟩
  have e : ∀ o, w.cell? ⟨b, o, none⟩ = cs[o]? := fun o => cell_of_row w b o cs _ (0, 0) hcs
  have h2 : 2 < cs.size := by
    have := h.c2
    rw [e] at this
    exact (Array.getElem?_eq_some_iff.1 this).1
  have hs := hf.store 2 u
  refine ⟨⟨?_, ?_, ?_⟩, ?_⟩
  · rw [hs.cell 0 (by omega)]
    unfold upd
    rw [if_neg (by omega), ← h.c0, hf.cell 0 (by omega)]
  · rw [hs.cell 1 (by omega)]
    unfold upd
    rw [if_neg (by omega), ← h.c1, hf.cell 1 (by omega)]
  · rw [hs.cell 2 (by omega)]
    unfold upd
    rw [if_pos rfl]
  · obtain ⟨cs', h1, _⟩ := hs
    exact ⟨cs', h1⟩
theorem RBt.free {b : Nat} {w : World} (h : RBt b w) (o : Nat) : w.frozen? ⟨b, o, none⟩ = false := by
  obtain ⟨cs, hcs⟩ := h
  exact frozen_of_row w b o cs _ hcs
theorem RBt.other {b : Nat} {w w' : World} (h : RBt b w) (e : w'.heap[b]? = w.heap[b]?) : RBt b w' := by
  obtain ⟨cs, hcs⟩ := h
  exact ⟨cs, e.trans hcs⟩
theorem RB.other {b : Nat} {w w' : World} (h : RB b w) (e : w'.heap[b]? = w.heap[b]?) : RB b w' := by
  have ec : ∀ o, w'.cell? ⟨b, o, none⟩ = w.cell? ⟨b, o, none⟩ := fun o => by simp [World.cell?, e]
  have ef : ∀ o, w'.frozen? ⟨b, o, none⟩ = w.frozen? ⟨b, o, none⟩ := fun o => World.frozen?_of_block e
  exact ⟨by rw [ec]; exact h.c0, by rw [ec]; exact h.c1, by rw [ec]; exact h.c2, by rw [ef]; exact h.f0, by rw [ef]; exact h.f1, by rw [ef]; exact h.f2⟩
theorem RB.lt {b : Nat} {w : World} (h : RB b w) : b < w.heap.size := by
  obtain ⟨⟨x0, c0⟩, _⟩ := h
  exact cell_lt c0
theorem CB.other {b : Nat} {q n : Int} {v : Value} {w w' : World} (h : CB b q n v w) (e : w'.heap[b]? = w.heap[b]?) : CB b q n v w' := by
  have ec : ∀ o, w'.cell? ⟨b, o, none⟩ = w.cell? ⟨b, o, none⟩ := fun o => by simp [World.cell?, e]
  exact ⟨by rw [ec]; exact h.c0, by rw [ec]; exact h.c1, by rw [ec]; exact h.c2⟩
theorem LLs.putCode {base b o : Nat} {v x : Value} {L : List (Nat × (Nat → Nat))} {w : World} (h : LLs base v L w) (ht : RBt b w) : LLs base v L (w.setCell ⟨b, o, none⟩ x) := by
  obtain ⟨l, h1, h2⟩ := h
  refine ⟨l, h1.same (fun g hg => Below.heap_setCell _ _ _ _ (h1.notCode ht g hg)), h2.1, fun j u p hu hp => ?_⟩
  obtain ⟨g, cap, e, a1, a2, hr⟩ := h2.2 j u p hu hp
  exact ⟨g, cap, e, a1, a2, hr.other (Below.heap_setCell _ _ _ _ (hr.notCode ht))⟩
theorem MV.above {B : Nat} {v : Value} {k n : Nat} {R : Nat → Nat → Nat} {w w' : World} (h : MV B v k n R w) (hs : ∀ g, B ≤ g → w'.heap[g]? = w.heap[g]?) : MV B v k n R w' := by
  rcases h with h | ⟨G, mc, m, hh, ev, hm⟩
  · exact Or.inl h
  · exact Or.inr ⟨G, mc, m, hh, ev, hm.keep (hs G hm.geG) (fun i hi => hs _ (hm.ge i hi))⟩
theorem Cod.makeV {D : FD} (hD : D ∈ fieldsL) {n m : Nat} (ca : Nat) {ao : Option Addr} {M : Nat → Nat → Nat} {w : World} (h : Cod D n ao m M w) :
    Calls Try.prog 34 #[.agg #[.int .i64 D.q, .int .i64 (n : Nat), .slice ao m ca]] w fun x w' => ∃ k R ro rc, x = .returned (.tuple #[.agg #[.int .i64 D.q, .int .i64 (n : Nat), .slice ro k rc], .int .i64 0]) ∧ MV w.heap.size (.slice ro k rc) k n R w' ∧ Red D n m M k R ∧ Below w.heap.size w w' := by
  have hc := h.chk hD ca
  obtain ⟨A, N, C, Z, h1, h2⟩ := h
  refine (cMake_ok hD h1 hc).mono ?_
  rintro x w' ⟨k, R, ro, rc, rfl, hmv, hred, hb⟩
  exact ⟨k, R, ro, rc, rfl, hmv, hred.of_eq h2, hb⟩
theorem mad_row {l : List Nat} {P i : Nat} : ∀ x, x < P → mad (l.getD i 0) pnil P x = mrow l P i x := fun x hx => by
  unfold mad mrow mof pnil
  rw [if_pos hx]
  by_cases h : mon (l.getD i 0) x = true
  · rw [if_pos ⟨hx, h⟩, if_pos h]
  · rw [if_neg (fun q => h q.2), if_neg h]

/-- What Code tells. -/
def McP (r m P : Nat) (w : World) (e : Ending) (w' : World) : Prop :=
  ∃ k R ro rc, e = .returned (.tuple #[.agg #[.int .i64 2, .int .i64 (P : Nat), .slice ro k rc], .int .i64 0]) ∧ MV w.heap.size (.slice ro k rc) k P R w' ∧ Red FM P (mnl m (r + 1)).length (mrow (mnl m (r + 1)) P) k R ∧ Below w.heap.size w w'

set_option maxHeartbeats 16000000 in
set_option maxRecDepth 100000 in
theorem mCode_any (r m P : Nat) (h1 : 1 ≤ m) (h : m ≤ 5) (hr : r ≤ m) (hP : P = 2 ^ m) (w : World) :
    Calls Try.prog 9 #[.int .i64 (r : Nat), .int .i64 (m : Nat)] w (McP r m P w) := by
  obtain ⟨l, hl⟩ : ∃ l, l = mnl m (r + 1) := ⟨_, rfl⟩
  have hlen : l.length ≤ 1000 := by have := mnl_len h (r + 1); rw [hl]; omega
  have hl64 : l.length ≤ 64 := by
    obtain ⟨R', p, hR, _⟩ := rre_full FM_in (n := 2 ^ m) (M := mrow l (2 ^ m)) l.length (fun i _ => mrow_el l _ i) (fun i _ => mrow_bd l _ i) (fun j hj => mrow_free h1 h (by rw [hl]; exact mnl_ord h1 h hr) hj)
    have a := (Red.le (M := R') ⟨p, hR, fun _ => Iff.rfl⟩)
    have : 2 ^ m ≤ 2 ^ 5 := Nat.pow_le_pow_right (by omega) h
    omega
  have hPb : P ≤ 32 := by rw [hP]; exact Nat.pow_le_pow_right (by omega) h
  have hP1 : 1 ≤ P := by rw [hP]; exact Nat.pow_pos (by omega)
  obtain ⟨P1, hP1e⟩ : ∃ P1, P = P1 + 1 := ⟨P - 1, by omega⟩
  have hsh : (2 : Int) ^ m = (P : Int) := by rw [hP]; simp
  obtain ⟨w0, hw0⟩ : ∃ w0, w0 = w.alloc (.cells #[.int .i64 0, .int .i64 0, .slice none 0 0] 27) := ⟨_, rfl⟩
  have HC : Hid (Calls Try.prog 10 #[.int .i64 (r : Nat), .int .i64 (m : Nat)] w0 fun e w' => e = .returned (.int .i64 0) ∧ w' = w0) := by
    have := mullCheck_any (r : Int) (m : Int) w0
    rw [mck_fine h1 h hr] at this; exact this
  have HL : Hid (l = mnl m (r + 1) ∧ (∀ i, i < l.length → l.getD i 0 < 32) ∧ P = 2 ^ m ∧ P = P1 + 1 ∧ m ≤ 5 ∧ r ≤ m) := ⟨hl, fun i hi => by
    have hlt := (mnl_ord h1 h hr).1 i (by rw [← hl]; exact hi)
    rw [← hl] at hlt
    have : 2 ^ m ≤ 2 ^ 5 := Nat.pow_le_pow_right (by omega) h
    omega, hP, hP1e, h, hr⟩
  have H0 : Hid (Below w.heap.size w w0 ∧ RB w.heap.size w0 ∧ w0.heap.size = w.heap.size + 1) := by rw [hw0]; exact ⟨(Below.refl _ _).alloc (Nat.le_refl _) _, RB.new _ _ _ _, by simp⟩
  obtain ⟨w1, hw1⟩ : ∃ w1, w1 = w0.alloc (.cells #[.int .i64 2, .int .i64 (P : Nat), .slice none 0 0] 27) := ⟨_, rfl⟩
  have HT1 : Hid (RBt w0.heap.size w1 ∧ RB w.heap.size w1) := by
    rw [hw1]
    exact ⟨RBt.new _ _, RB.other (by rw [hw0]; exact RB.new _ _ _ _) (Below.heap_alloc _ _ _ (by rw [hw0]; simp))⟩
  have H1 : Hid (CB w0.heap.size 2 P (.slice none 0 0) w1 ∧ Below w0.heap.size w0 w1 ∧ w1.heap.size = w0.heap.size + 1) := by rw [hw1]; exact ⟨CB.new _ _ _ _, (Below.refl _ _).alloc (Nat.le_refl _) _, by simp⟩
  unfold McP
  rw [← hl]
  have hm5 := h
  clear hl hP hP1e h
  refine callsIn_wide.1 (callsIn_of_wp_marks (n := 0) Try.func9 rfl trivial ?_ rfl)
  refine wpIn_wide.2 ?_
  simp only [Try.ntmps9, List.size_toArray, List.length_cons, List.length_nil, Nat.reduceAdd, Nat.reduceSub, Array.replicate_succ, Array.replicate_zero, List.push_toArray, List.append_toArray, List.nil_append, List.cons_append]
  go_wp2_with fail
  rw [← hw0]
  clear hw0
  refine HC.out.mono ?_
  rintro e w' ⟨rfl, hw⟩
  have hw := hw.symm
  subst hw
  clear HC
  go_wp2_with fail
  rw [← hw1]
  clear hw1
  refine (monos_any r m w1).mono ?_
  rintro e w2 ⟨b1, b2, rfl, ⟨hg1, hg2⟩, hbx, hb2⟩
  obtain ⟨cb, hcb⟩ : ∃ cb, cb = w0.heap.size := ⟨_, rfl⟩
  rw [← hcb]
  have hl1 := cell_lt hbx.1
  have hl2 := cell_lt hbx.2
  simp only at hl1 hl2
  have hsz2 := hb2.size
  have hs01 := H1.out.2.2
  have hs0 := H0.out.2.2
  have hseq : SeqI Try.prog 51 #[.pointer (some ⟨b1, 0, none⟩), .pointer (some ⟨b2, 0, none⟩)] l.length (MnE l) (fun k => k = cb ∨ w2.heap.size + 2 ≤ k) w2 := by
    rw [HL.out.1]
    exact monos_seq hm5 hr hbx (fun e => by omega) (fun e => by omega)
  have HQ : Hid (SeqI Try.prog 51 #[.pointer (some ⟨b1, 0, none⟩), .pointer (some ⟨b2, 0, none⟩)] l.length (MnE l) (fun k => k = cb ∨ w2.heap.size + 2 ≤ k) w2) := hseq
  have H2 : Hid (CB cb 2 P (.slice none 0 0) w2 ∧ RBt cb w2 ∧ RB w.heap.size w2 ∧ Below w.heap.size w w2 ∧ w.heap.size < cb ∧ cb < w2.heap.size) := by
    have hbw1 : Below w.heap.size w w1 := bel_up' H0.out.1 H1.out.2.1
    have c1 := H1.out.1
    rw [← hcb] at c1
    refine ⟨c1.keep hb2, ?_, ?_, bel_up' hbw1 hb2, by omega, by omega⟩
    · have := HT1.out.1
      rw [← hcb] at this
      exact this.keep hb2
    · exact HT1.out.2.keep hb2
  clear hseq hbx hb2 hl1 hl2 hg1 hg2 hsz2 hs01 hs0 hcb H0 H1
  go_wp2
  refine range_lawG (gf := 51) (lb := #[.pointer (some ⟨b1, 0, none⟩), .pointer (some ⟨b2, 0, none⟩)]) rfl (enters_of Try.func51 (by kernel_rfl) rfl) HQ.out (fun h => by have := H2.out.2.2.2.2; omega) (fun h => by have := H2.out.2.2.2.2; omega) (fun r args X h => by rw [h.2]; rfl)
    (fun i X => ∃ v, CB cb 2 P v X ∧ RBt cb X ∧ RB w.heap.size X ∧ LLs (w2.heap.size + 2) v (rl i P1 (mrow l P)) X ∧ Below w.heap.size w X) ?stable (fun r args X Y h hg => h) ?start
    (fun args => { tmps := #[.int .i64 (r : Nat), .int .i64 (m : Nat), undef, undef, .pointer (some ⟨w.heap.size, 0, none⟩), .int .i64 0, .int .i64 0, .pointer (some ⟨cb, 0, none⟩), args.getD 0 undef, undef, .int .i64 (r : Nat), .int .i64 (m : Nat), .int .i64 0, .int .i64 0, .bool false, undef, undef, .int .i64 (m : Nat), .int .i64 (P : Nat), .agg #[.int .i64 2, .int .i64 (P : Nat), .slice none 0 0], .int .i64 (r : Nat), .int .i64 (m : Nat), .func (.func 51) #[] #[.pointer (some ⟨b1, 0, none⟩), .pointer (some ⟨b2, 0, none⟩)], args.getD 0 undef, undef, undef, undef, undef, undef, undef, undef, undef, undef, undef, undef, undef, undef, undef, undef, undef], defers := [] })
    ?assign ?body ?done
  case stable =>
    rintro i X Y ⟨v, h1, h2, h3, h4, h5⟩ hg
    have hc := H2.out.2.2.2.2
    have e1 : Y.heap[cb]? = X.heap[cb]? := hg.same cb (cell_lt h1.c0) (Or.inl hc.2)
    have e2 : Y.heap[w.heap.size]? = X.heap[w.heap.size]? := hg.same _ h3.lt (Or.inl (by omega))
    exact ⟨v, h1.other e1, h2.other e1, h3.other e2, h4.grc hg, h5.trans ⟨hg.os, hg.tape, hg.output, hg.size, fun i hi => hg.same i (by have := h5.size; omega) (Or.inl (by omega))⟩⟩
  case start => exact ⟨_, H2.out.1, H2.out.2.1, H2.out.2.2.1, LLs.nil _ _, H2.out.2.2.2.1⟩
  case assign =>
    intro lp r args X K he hK
    obtain ⟨_, ha⟩ := he
    obtain ⟨y, hy⟩ : ∃ y, y = l.getD r 0 := ⟨_, rfl⟩
    rw [← hy] at ha
    subst ha
    clear hy
    gi_wp2
    exact hK
  case body =>
    rintro lp i args X hi hX ⟨v, h1, h2, h3, h4, h5⟩ he
    obtain ⟨hrl, ha⟩ := he
    obtain ⟨y, hy⟩ : ∃ y, y = l.getD i 0 := ⟨_, rfl⟩
    rw [← hy] at ha
    subst ha
    have hy32 : y < 32 := by rw [hy]; exact HL.out.2.1 i hrl
    have hc1 := h1.c1
    have hcs := H2.out.2.2.2.2
    have HI : Hid (CB cb 2 P v X ∧ RBt cb X ∧ RB w.heap.size X ∧ LLs (w2.heap.size + 2) v (rl i P1 (mrow l P)) X ∧ Below w.heap.size w X ∧ y = l.getD i 0 ∧ i < l.length ∧ w2.heap.size + 2 ≤ X.heap.size) := ⟨h1, h2, h3, h4, h5, hy, hrl, hX⟩
    clear h1 h2 h3 h4 h5 hy hrl hX hi
    gi_wp2_with (first
      | (gi_at_make; refine make_int_in rfl _ _ rfl P rfl rfl (by omega) ?_; intro X1 hrow1 hb1)
      | gi_in)
    have hrX : Hid (Row X.heap.size P pnil X1 ∧ Below X.heap.size X X1) := ⟨hrow1, hb1⟩
    have HA : Hid (CallsIn Fence.wide 0 Try.prog 33 #[.int .i64 (y : Nat), .slice (some ⟨X.heap.size, 0, none⟩) P P] X1 fun e w' => e = .returned (.tuple #[]) ∧ Row X.heap.size P (mad y pnil P) w' ∧ Below X.heap.size X1 w') :=
      callsIn_wide.2 (monAdd_any y X.heap.size P P X.heap.size (by omega) hPb (Nat.le_refl _) pnil (fun x _ => by show 0 < 2; omega) hrow1)
    clear hrow1 hb1 hc1
    refine ⟨trivial, rfl, (CallsIn.inRound lp HA.out).mono ?_⟩
    rintro e X2 ⟨rfl, hrow2, hb2⟩
    have hbX2 : Below X.heap.size X X2 := hrX.out.2.trans hb2
    have hszX := hbX2.size
    obtain ⟨lst, hov, hels⟩ := HI.out.2.2.2.1.below hbX2 (Nat.le_refl _)
    have hlst : lst.length ≤ 1000 := by have := hels.1; rw [rl_len] at this; have := HI.out.2.2.2.2.2.2.1; omega
    have ht2 : RBt cb X2 := HI.out.2.1.keep hbX2
    have hcb2 : CB cb 2 P v X2 := HI.out.1.keep hbX2
    have hc2 := hcb2.c2
    have hX8 := HI.out.2.2.2.2.2.2.2
    have hEl : Elm (.slice (some ⟨X.heap.size, 0, none⟩) P P) (P1, mrow l P i) X2 := by
      have eP := HL.out.2.2.2.1
      refine ⟨X.heap.size, P, by rw [eP], by show P1 + 1 ≤ P; omega, by omega, ?_⟩
      show Row X.heap.size (P1 + 1) (mrow l P i) X2
      rw [← eP]
      exact hrow2.congr (fun x hx => by rw [HI.out.2.2.2.2.2.1]; exact mad_row x hx)
    have H5 : Hid (OwnV (w2.heap.size + 2) v lst X2 ∧ Elms lst (rl i P1 (mrow l P)) X2 ∧ Elm (.slice (some ⟨X.heap.size, 0, none⟩) P P) (P1, mrow l P i) X2 ∧ RBt cb X2 ∧ CB cb 2 P v X2 ∧ Below X.heap.size X X2) := ⟨hov, hels, hEl, ht2, hcb2, hbX2⟩
    clear hov hels hEl ht2 hcb2 hbX2 hrow2 hb2 hrX HA
    gi_wp2_with (first
      | (gi_at_builtin
         refine append_sl_in rfl _ _ rfl (w2.heap.size + 2) v lst rfl (H5.out.1.below ((Below.refl _ _).alloc (Nat.le_refl _) _) (Nat.le_refl _)) ⟨X2.heap.size, 0, none⟩ 1 (.slice (some ⟨X.heap.size, 0, none⟩) P P) rfl rfl (by rw [cell_of_row _ _ _ _ _ (0, 0) (two_new _)]; rfl) (by omega) (by simp; omega) ?_
         intro v' X4 hov4 hg4
         have hal : Below X2.heap.size X2 (X2.alloc (.cells #[.slice (some ⟨X.heap.size, 0, none⟩) P P] 22)) := (Below.refl _ _).alloc (Nat.le_refl _) _
         have hov3 := H5.out.1.below hal (Nat.le_refl _)
         have ht3 : RBt cb (X2.alloc (.cells #[.slice (some ⟨X.heap.size, 0, none⟩) P P] 22)) := H5.out.2.2.2.1.keep hal
         have hne : some cb ≠ v.ownBlock := fun e => by have := (hov3.lt cb e.symm).1; omega
         have e4 : X4.heap[cb]? = (X2.alloc (.cells #[.slice (some ⟨X.heap.size, 0, none⟩) P P] 22)).heap[cb]? := hg4.block cb (by obtain ⟨cs, q⟩ := ht3; exact lt_of_block q) hne
         have ht4 : RBt cb X4 := ht3.other e4
         have hcb4 : CB cb 2 P v X4 := (H5.out.2.2.2.2.1.keep hal).other e4
         have hc4 := hcb4.c2
         have hf4 := ht4.free 2
         have hll4 : LLs (w2.heap.size + 2) v' (rl (i + 1) P1 (mrow l P)) X4 := by
           rw [rl_next]
           exact LLs.push hov3 (H5.out.2.1.below hal (Nat.le_refl _)) (H5.out.2.2.1.below hal (Nat.le_refl _)) hov4 hg4
         obtain ⟨ao', cap', ev', _⟩ := hov4.open
         subst ev')
      | gi_in)
    have hk4 : KpO (fun k => k = cb ∨ w2.heap.size + 2 ≤ k) X X4 := ((KpO.of_below H5.out.2.2.2.2.2).trans (KpO.of_below hal)).trans (KpO.of_grown hg4 (fun k hk => Or.inr (hov3.lt k hk).1))
    have hbw4 : Below w.heap.size w X4 := (bel_up' (bel_up' HI.out.2.2.2.2.1 H5.out.2.2.2.2.2) hal).grown hg4 (by have := HI.out.2.2.2.2.1.size; simp; omega) (fun k hk => by have := (hov3.lt k hk).1; omega)
    have ht4w : RB w.heap.size X4 := HI.out.2.2.1.other (hk4.same _ HI.out.2.2.1.lt (by omega))
    have el : (lst ++ [Value.slice (some ⟨X.heap.size, 0, none⟩) P P]).length = lst.length + 1 := by simp
    rw [el] at hll4
    refine ⟨hk4.trans (KpO.setCell _ _ _ (Or.inl rfl)), _, (hcb4.put ht4 _).1, (hcb4.put ht4 _).2, ht4w.other (Below.heap_setCell _ _ _ _ (by show w.heap.size ≠ cb; omega)), hll4.putCode ht4, hbw4.setCell (by show w.heap.size ≤ cb; omega) _⟩
  case done =>
    rintro De We hDe ⟨v, h1, h2, h3, h4, h5⟩ hK
    have eP := HL.out.2.2.2.1
    obtain ⟨ao, cap, ev, hco⟩ := h4.cod (D := FM) (by omega) hl64 (fun i _ => mrow_el _ _ _) (fun i _ => by rw [← eP]; exact mrow_bd _ _ _)
    rw [← eP] at hco
    subst ev
    have HMk : Hid (Calls Try.prog 34 #[.agg #[.int .i64 2, .int .i64 (P : Nat), .slice ao l.length cap]] We fun x w' => ∃ k R ro rc, x = .returned (.tuple #[.agg #[.int .i64 2, .int .i64 (P : Nat), .slice ro k rc], .int .i64 0]) ∧ MV We.heap.size (.slice ro k rc) k P R w' ∧ Red FM P l.length (mrow l P) k R ∧ Below We.heap.size We w') := Cod.makeV FM_in cap hco
    have HW : Hid (Below w.heap.size w We ∧ RB w.heap.size We ∧ We.heap[De]? = some (.deferred (some [])) ∧ w.heap.size < De) := ⟨h5, h3, hK, by have := H2.out.2.2.2.2; omega⟩
    obtain ⟨c0, c1, c2⟩ := h1
    clear h2 h3 h4 h5 hK hco hDe eP
    go_wp2_with fail
    refine HMk.out.mono ?_
    rintro x w3 ⟨k, R, ro, rc, rfl, hcd, hred, hb3⟩
    have H3 : Hid (MV We.heap.size (.slice ro k rc) k P R w3 ∧ Red FM P l.length (mrow l P) k R ∧ Below w.heap.size w w3 ∧ RB w.heap.size w3 ∧ w3.heap[De]? = some (.deferred (some [])) ∧ w.heap.size < De ∧ De < We.heap.size) := by
      refine ⟨hcd, hred, bel_up' HW.out.1 hb3, ?_, ?_, HW.out.2.2.2, (Array.getElem?_eq_some_iff.1 HW.out.2.2.1).1⟩
      · exact HW.out.2.1.keep hb3
      · rw [hb3.block De (Array.getElem?_eq_some_iff.1 HW.out.2.2.1).1]; exact HW.out.2.2.1
    clear hcd hred hb3 c0 c1 c2
    obtain ⟨⟨x0, c0⟩, ⟨x1, c1⟩, ⟨x2, c2⟩, f0, f1, f2⟩ := H3.out.2.2.2.1
    go_wp2
    obtain ⟨w4, hw4⟩ : ∃ w4, w4 = laid w3 w.heap.size 2 P (.slice ro k rc) := ⟨_, rfl⟩
    have H4 : Hid (CB w.heap.size 2 P (.slice ro k rc) w4 ∧ Below w.heap.size w w4 ∧ w4.heap[De]? = some (.deferred (some [])) ∧ MV We.heap.size (.slice ro k rc) k P R w4) := by
      have hde := H3.out.2.2.2.2.2
      rw [hw4]
      exact ⟨laid_cb H3.out.2.2.2.1 _ _ _, laid_below H3.out.2.2.1 (Nat.le_refl _) _ _ _, by rw [laid_heap _ _ _ _ _ (by omega)]; exact H3.out.2.2.2.2.1, laid_mv H3.out.1 (by omega) _ _ _⟩
    unfold laid at hw4
    rw [← hw4]
    clear hw4 c0 c1 c2 f0 f1 f2
    obtain ⟨w5, hw5⟩ : ∃ w5, w5 = w4.putObj De (.deferred none) := ⟨_, rfl⟩
    have H5 : Hid (CB w.heap.size 2 P (.slice ro k rc) w5 ∧ Below w.heap.size w w5 ∧ MV w.heap.size (.slice ro k rc) k P R w5) := by
      have hde := H3.out.2.2.2.2.2
      have hwe := HW.out.1.size
      rw [hw5]
      refine ⟨H4.out.1.other (World.putObj_heap_other (by omega)), H4.out.2.1.grown (grownBy_putObj' _ _ _) H4.out.2.1.size (fun k hk => by cases hk; omega), (H4.out.2.2.2.above (fun g hg => World.putObj_heap_other (by omega))).mono (by omega)⟩
    obtain ⟨c0, c1, c2⟩ := H5.out.1
    refine ⟨by simp, .inl ⟨_, _, rfl, run_takeDeferred H4.out.2.2.1, ?_⟩⟩
    rw [← hw5]
    refine ⟨.tuple #[.agg #[.int .i64 2, .int .i64 (P : Nat), .slice ro k rc], .int .i64 0], by simp [results, Try.results9, go_sem, c0, c1, c2], ?_⟩
    exact ⟨k, R, ro, rc, rfl, H5.out.2.2, H3.out.2.1, H5.out.2.1⟩
end Go.Proofs.Ytmklnjkallhphaa

/- Muller: the reference finds no message (MullerNear). -/
namespace Go.Proofs.Ytmklnjkallhphaa
open Go.RowKit Go.Sort

theorem rmw_any (r m P : Nat) (h1 : 1 ≤ m) (h : m ≤ 5) (hr : r ≤ m) (hP : P = 2 ^ m) {ao : Option Addr} {k ca : Nat} {g : Nat → Nat} {w : World} (hk : k = (mnl m (r + 1)).length) (hg : ∀ i, i < k → g i < 2) (ha : Arg ao k ca (fun i => ((g i : Nat) : Int)) w) :
    Calls Try.prog 14 #[.int .i64 (r : Nat), .int .i64 (m : Nat), .slice ao k ca] w fun e w' => ∃ G, e = .returned (.slice (some ⟨G, 0, none⟩) P P) ∧ w.heap.size ≤ G ∧ Row G P (fun x => mwv (mnl m (r + 1)) g x (mnl m (r + 1)).length) w' ∧ Below w.heap.size w w' := by
  subst hP
  refine (rmullerWord_any r m h1 h hr hk hg ha).mono ?_
  rintro e w' ⟨G, rfl, hG, hrow, hb⟩
  exact ⟨G, rfl, hG, hrow.congr (fun x hx => by unfold mwf; rw [if_pos hx]), hb⟩
def FTx : FD := ⟨2, 2, 1, 0, 1⟩
theorem FTx_in : FTx ∈ fieldsL := List.Mem.head _

set_option maxHeartbeats 16000000 in
set_option maxRecDepth 100000 in
theorem rmullerNear_none (r m P : Nat) (h1 : 1 ≤ m) (h : m ≤ 5) (hr : r ≤ m) (hP : P = 2 ^ m) (hK : (mnl m (r + 1)).length ≤ 11) {ao : Option Addr} {cap : Nat} {z : Nat → Int} {w : World} (hs : Arg ao P cap z w)
    (hno : ∀ g : Nat → Nat, (∀ i, g i < 2) → ¬ 2 * ct (fun x => !decide (((mwv (mnl m (r + 1)) g x (mnl m (r + 1)).length : Nat) : Int) = z x)) P < 2 ^ (m - r)) :
    Calls Try.prog 18 #[.int .i64 (r : Nat), .int .i64 (m : Nat), .slice ao P cap] w fun e w' => e = .returned (.tuple #[.slice none 0 0, .int .i64 0, .bool false]) ∧ Below w.heap.size w w' := by
  obtain ⟨l, hl⟩ : ∃ l, l = mnl m (r + 1) := ⟨_, rfl⟩
  obtain ⟨n, hn⟩ : ∃ n, n = l.length := ⟨_, rfl⟩
  have hnpos : 0 < n := by rw [hn, hl]; exact mnl_pos h1 h hr
  have hn11 : n ≤ 11 := by rw [hn, hl]; exact hK
  have hPb : P ≤ 32 := by rw [hP]; exact Nat.pow_le_pow_right (by omega) h
  obtain ⟨d, hd⟩ : ∃ d, d = m - r := ⟨_, rfl⟩
  have hdi : (m : Int) - (r : Int) = (d : Int) := by omega
  have hd5 : d ≤ 5 := by omega
  obtain ⟨Q, hQ⟩ : ∃ Q, Q = 2 ^ d := ⟨_, rfl⟩
  have hsh : (2 : Int) ^ d = (Q : Int) := by rw [hQ]; simp
  have hQb : Q ≤ 32 := by rw [hQ]; exact Nat.pow_le_pow_right (by omega) hd5
  obtain ⟨N, hN⟩ : ∃ N, N = 2 ^ n := ⟨_, rfl⟩
  have hN0 : 0 < N := by rw [hN]; exact Nat.pow_pos (by omega)
  rw [← hd, ← hQ, ← hl] at hno
  have HN : Hid (N = 2 ^ n ∧ l = mnl m (r + 1) ∧ n = l.length ∧ P = 2 ^ m ∧ Arg ao P cap z w ∧ (∀ g : Nat → Nat, (∀ i, g i < 2) → ¬ 2 * ct (fun x => !decide (((mwv l g x l.length : Nat) : Int) = z x)) P < Q)) := ⟨hN, hl, hn, hP, hs, hno⟩
  have HM : Hid (Calls Try.prog 12 #[.int .i64 (r : Nat), .int .i64 (m : Nat)] w fun e w' => ∃ v, e = .returned v ∧ OwnI w.heap.size v (nli l) w' ∧ Below w.heap.size w w') := by rw [hl]; exact rmonos_any r m h1 h hr w
  have hm5 := h
  clear hN hl hn hP hs hno hQ hd hK h
  go_enter Try.func18, Try.ntmps18
  go_wp2_with fail
  refine HM.out.mono ?_
  rintro e w1 ⟨v, rfl, hov, hb1⟩
  obtain ⟨gM, cM, hv, _⟩ := hov.at (fun e => by have := nli_len l; rw [e] at this; simp at this; have := HN.out.2.2.1; omega)
  rw [nli_len, ← HN.out.2.2.1] at hv
  subst hv
  have H1 : Hid (Below w.heap.size w w1) := hb1
  clear hov hb1 HM
  go_wp2_with (at_make; refine make_int rfl _ _ rfl _ n rfl rfl rfl (by omega) ?_; intro w2 hown2 hgrow2)
  obtain ⟨g, hg⟩ : ∃ g, g = w1.heap.size := ⟨_, rfl⟩
  have HB1 : Hid (Below w.heap.size w w2 ∧ Row g n pnil w2 ∧ w.heap.size ≤ g) := ⟨bel_up' H1.out (below_grown hgrow2 (Nat.le_refl _) (fun k hk => by simp at hk)), by rw [hg]; exact row_zeros hown2, by have := H1.out.size; omega⟩
  rw [← hg]
  clear hown2 hgrow2 hg
  go_loopg [10] N (fun gk vm wr => ∃ (k : Nat) (mb : Bool), k + gk = N ∧ vm = .bool mb ∧ Hid (mb = decide (0 < gk) ∧ (0 < gk → Row g n (dgs 2 n k) wr) ∧ Below w.heap.size w wr))
  case atStart =>
    exact ⟨0, true, by omega, rfl, by rw [decide_eq_true hN0], fun _ => HB1.out.2.1.congr (fun j _ => dgs_zero.symm), HB1.out.1⟩
  case round =>
    obtain ⟨k, mb, hkN, rfl, HG⟩ := hrel
    rename World => wr
    by_cases hgk : 0 < gk
    · have hmb : mb = true := by rw [HG.out.1, decide_eq_true hgk]
      subst hmb
      have hk2 : k < 2 ^ n := by rw [← HN.out.1]; omega
      have hbit : ∀ j, dgs 2 n k j < 2 := fun j => dgs_lt (q := 2) (k := n) (a := k) (by omega) j
      have HWd : Hid (Calls Try.prog 14 #[.int .i64 (r : Nat), .int .i64 (m : Nat), .slice (some ⟨g, 0, none⟩) n n] wr fun e w' => ∃ G, e = .returned (.slice (some ⟨G, 0, none⟩) P P) ∧ wr.heap.size ≤ G ∧ Row G P (fun x => mwv l (dgs 2 n k) x l.length) w' ∧ Below wr.heap.size wr w') := by
        have hrow := HG.out.2.1 hgk
        rw [HN.out.2.1]
        exact rmw_any r m P h1 hm5 hr HN.out.2.2.2.1 (by rw [← HN.out.2.1]; exact HN.out.2.2.1) (fun i _ => hbit i) ⟨(hrow.sl (Nat.le_refl _)).z, fun x hx => (by cases hx; exact hrow.lt), by omega, fun e => (by cases e), Nat.le_refl _, by omega⟩
      have HNt : Hid (∀ wx, Row g n (dgs 2 n k) wx → Calls Try.prog 42 #[.slice (some ⟨g, 0, none⟩) n n, .int .i64 2] wx fun e w' => ∃ mb', e = .returned (.bool mb') ∧ wx.grownBy w' (some g) ∧ mb' = decide (0 < gk - 1) ∧ (0 < gk - 1 → Row g n (dgs 2 n (k + 1)) w')) := fun wx hrow => by
        refine (rnext_any FTx_in (dgm_mn (fld FTx_in) n k) (by omega) (hrow.congr (fun j hj => (dgm_lo hj).symm))).mono ?_
        rintro e w' ⟨hgr, ⟨rfl, c', hr', hmn, haf⟩ | ⟨rfl, hl, _⟩⟩
        · have h := dgs_next (fld FTx_in) hk2 hmn haf
          have h1 : k + 1 < 2 ^ n := h.1
          rw [← HN.out.1] at h1
          exact ⟨true, rfl, hgr, by rw [decide_eq_true (by omega)], fun _ => hr'.congr h.2⟩
        · have h : k + 1 = 2 ^ n := dgs_last (fld FTx_in) hk2 hl
          rw [← HN.out.1] at h
          exact ⟨false, rfl, hgr, by rw [decide_eq_false (by omega)], fun h2 => absurd h2 (by omega)⟩
      obtain ⟨off, hoff⟩ : ∃ off, off = ct (fun x => !decide (((mwv l (dgs 2 n k) x l.length : Nat) : Int) = z x)) P := ⟨_, rfl⟩
      have hoP : off ≤ P := by rw [hoff]; exact ct_most _ _
      have hfar : ¬ 2 * off < Q := by rw [hoff]; exact HN.out.2.2.2.2.2 _ hbit
      have hfari : ¬ 2 * (off : Int) < (Q : Int) := by omega
      have HAp : Hid (∀ G wx, Row G P (fun x => mwv l (dgs 2 n k) x l.length) wx → Below w.heap.size w wx → Calls Try.prog 19 #[.slice (some ⟨G, 0, none⟩) P P, .slice ao P cap] wx fun e w' => e = .returned (.int .i64 (off : Nat)) ∧ Below wx.heap.size wx w') := fun G wx hrow hb => by
        rw [hoff]
        exact rapart_any (hrow.sl (Nat.le_refl _)).z (HN.out.2.2.2.2.1.below hb).sl (fun x hx => by cases hx; exact hrow.lt) (HN.out.2.2.2.2.1.below hb).lt (by omega)
      clear hoff hk2 hbit hfar
      go_wp2_with fail
      refine HWd.out.mono ?_
      rintro e w3 ⟨G, rfl, hG, hrow3, hb3⟩
      have H3 : Hid (Row G P (fun x => mwv l (dgs 2 n k) x l.length) w3 ∧ Below w.heap.size w w3 ∧ Row g n (dgs 2 n k) w3) := ⟨hrow3, bel_up' HG.out.2.2 hb3, (HG.out.2.1 hgk).below hb3 (HG.out.2.1 hgk).lt⟩
      clear hG hrow3 hb3
      go_wp2_with fail
      refine (HAp.out G w3 H3.out.1 H3.out.2.1).mono ?_
      rintro e w4 ⟨rfl, hb4⟩
      have H4 : Hid (Below w.heap.size w w4 ∧ Row g n (dgs 2 n k) w4) := ⟨bel_up' H3.out.2.1 hb4, H3.out.2.2.below hb4 H3.out.2.2.lt⟩
      clear hb4
      go_wp2_with fail
      refine (HNt.out _ H4.out.2).mono ?_
      rintro e w7 ⟨mb', rfl, hg7, hmb', hrow7⟩
      have H7 : Hid (mb' = decide (0 < gk - 1) ∧ (0 < gk - 1 → Row g n (dgs 2 n (k + 1)) w7) ∧ Below w.heap.size w w7) := ⟨hmb', hrow7, H4.out.1.grown hg7 H4.out.1.size (fun q hq => by cases hq; exact HB1.out.2.2)⟩
      clear hg7 hmb' hrow7
      go_wp2
      go_roundg (gk - 1)
      case measure => omega
      case rel => exact ⟨k + 1, mb', by omega, rfl, H7.out⟩
    · have hmb : mb = false := by rw [HG.out.1, decide_eq_false hgk]
      subst hmb
      go_wp2
      go_ret3
      exact ⟨rfl, HG.out.2.2⟩
end Go.Proofs.Ytmklnjkallhphaa
