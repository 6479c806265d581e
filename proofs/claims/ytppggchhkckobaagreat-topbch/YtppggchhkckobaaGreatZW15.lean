/- Texts of ours, one behind the other: W15 KL1 KL2. -/
import Derived.Test.YtppggchhkckobaaGreatZU2
import Derived.Test.YtppggchhkckobaaGreatZS11
import Derived.Test.YtppggchhkckobaaGreatZS24
import Derived.OrdersIn
import Derived.Test.YtppggchhkckobaaGreatZB2
import Derived.Shelf.Abstract
import Derived.Shelf.RegionOpen
import Derived.OwnWalkIn
import Derived.TacticsInMore
import Derived.LoopNIn
import Derived.LoopIn
import Derived.Test.YtppggchhkckobaaGreatZI18
/- A region that draws its order, in a round of a range over a function: what serves elsewhere serves there. No Go text here. -/
namespace Go.Proofs.YtppggchhkckobaaGreat
open Go

/-- No operation is a 'defer' statement. -/
def noDefer (l : List Oper) : Bool := l.all fun o => match o.op with | .defer _ => false | _ => true
theorem noDefer_at {l : List Oper} (h : noDefer l = true) {o : Oper} (ho : o ∈ l) : ∀ c, o.op ≠ .defer c := fun c e => by
  have := List.all_eq_true.1 h o ho
  rw [e] at this
  cases this
theorem oper_round {P : Program} {o : Oper} {a : Act} {w : World} {K : Act → World → Prop} {Q : Exit → Act → World → Prop} {r : Nat} (hd : ∀ c, o.op ≠ .defer c) (h : o.wp P a w K Q) : o.wpIn (Fence.wide.inRound r) 0 P a w K Q := by
  unfold Oper.wp at h
  refine ⟨fun _ _ => trivial, ?_⟩
  show o.uponIn _ _ _ _ _ _ ((o.semAt (some r) a.eval).run P w)
  rw [Oper.semAt_some r a.eval o hd]
  generalize (execOp a.eval o).run P w = res at h ⊢
  cases res with
  | ok x w' =>
    cases x with
    | value v => exact h
    | skip => exact h
    | defer d => exact h
    | enter f args => exact ⟨fun e => (by cases e), CallsIn.inRound r (callsIn_wide.2 h)⟩
    | row row args => exact ⟨fun e => (by cases e), fun c cs _ => let ⟨v, w', r1, s⟩ := h c cs; ⟨v, w', r1, stepsIn_wide.2 s⟩⟩
    | _ => exact h.elim
  | halt x w' => cases x <;> exact h
theorem any_round {P : Program} {ops : Array Oper} {Q : Exit → Act → World → Prop} {r : Nat} (hQ : ¬ LetsOut Q) (hdf : noDefer ops.toList = true) : ∀ (f : Nat) (s : Array Bool) (a : Act) (w : World), wpAny P .any ops Q f s a w → wpAnyIn (Fence.wide.inRound r) 0 P .any ops Q f s a w
  | 0, _, _, _, h => h
  | f + 1, s, a, w, h => ⟨h.1, fun i hi => by
    have h2 := h.2 i hi
    unfold wpOp at h2
    unfold wpOpIn
    cases ho : ops[i]? with
    | none => rw [ho] at h2; exact any_round hQ hdf f _ _ _ h2
    | some o =>
      rw [ho] at h2
      have hm : o ∈ ops.toList := by
        have := Array.mem_of_getElem? ho
        exact Array.mem_toList_iff.2 this
      show if Region.wanted o (yielded ops a.tmps) then _ else _
      replace h2 : if Region.wanted o (yielded ops a.tmps) = true then o.wp P a w _ Q ∨ (o.asks P a w ∧ LetsOut Q) else _ := h2
      by_cases hw : Region.wanted o (yielded ops a.tmps) = true
      · rw [if_pos hw] at h2 ⊢
        rcases h2 with h3 | h3
        · exact Oper.wpIn_mono (fun a' w' h4 => any_round hQ hdf f _ a' w' h4) (oper_round (noDefer_at hdf hm) h3)
        · exact absurd h3.2 hQ
      · rw [if_neg hw] at h2 ⊢
        exact ⟨fun _ _ => trivial, any_round hQ hdf f _ _ _ h2⟩⟩
theorem region_round {P : Program} {ops : Array Oper} {Q : Exit → Act → World → Prop} {r id : Nat} {a : Act} {w : World} (hQ : ¬ LetsOut Q) (hdf : noDefer ops.toList = true) (hm : P.follows .mixedOrders = true)
    (h : wpAny P .any ops Q ops.size (Array.replicate ops.size false) a { w with drawn := w.drawn + 1 }) : (Code.region id ops true).wpIn (Fence.wide.inRound r) 0 P Q a w :=
  wpIn_region_any hm (any_round hQ hdf _ _ _ _ h)
/-- The first n operations by one walk, all quiet; the others behind them, in order: in a round. -/
theorem quiet_round {P : Program} {r : Nat} {id : Nat} {Q : Exit → Act → World → Prop} {a : Act} {w : World} {l : List Oper} (n : Nat) (hQ : ¬ LetsOut Q) (hdf : noDefer l = true) (hm : P.follows .mixedOrders = true) (hB : Region.lexTailB .any l.toArray n = true)
    (h : wpQuiet P l.toArray (fun w' => ∃ k, w' = w.drewN k) (fun a' => ∀ w', (∃ k, w' = w.drewN k) → wpList P l.toArray Q (l.drop n) a' w') (l.take n) a) : (Code.region id l.toArray true).wpIn (Fence.wide.inRound r) 0 P Q a w := by
  simp only [Region.lexTailB, Bool.and_eq_true, decide_eq_true_eq] at hB
  obtain ⟨⟨⟨⟨hsel, hn⟩, hs⟩, hc⟩, hlex⟩ := hB
  have hn' : n < l.length := by simpa using hn
  have htl : (l.take n).length = n := by simp; omega
  have hdl : (l.drop n).length = l.toArray.size - n := by simp
  have inv0 : HeadInv .any l.toArray n (Array.replicate l.toArray.size false) :=
    ⟨by simp, fun j oj _ hl => (by rw [getD_replicate_false] at hl; cases hl), fun t _ ht => getD_in (by simpa using ht) (getD_replicate_false _ _)⟩
  have H := head_lex (g := l.toArray.size - n) hsel hs hc hn (l.take n) 0 _ a (fun j hj => by
    have hj' : j < n := by rw [htl] at hj; exact hj
    simp [hj']) (by simpa using htl) inv0 (by rw [htl]; exact hlex) h
  refine region_round hQ (by simpa using hdf) hm ?_
  have R := head_any (Q := Q) (g := l.toArray.size - n) (fun s a' w' hw' hL => by
    have := wpAny_of_seq (md := .any) (Q' := Q) (l.drop n) n s a' w' (fun j => by simp [List.getElem?_drop]) (by rw [hdl]; exact hL.1) (hL.2 w' hw')
    rwa [hdl] at this) _ _ _ _ (show ∃ k, { w with drawn := w.drawn + 1 } = w.drewN k from ⟨1, rfl⟩) H
  rw [htl, show n + (l.toArray.size - n) = l.toArray.size by omega] at R
  exact R
end Go.Proofs.YtppggchhkckobaaGreat

/- Ranges over span.Words: the leaf of goThrough (a call of yield). -/


namespace Go.Proofs.YtppggchhkckobaaGreat
open Go.RowKit Go.Shelf
attribute [local go_sem] Oper.semAt_some

set_option maxHeartbeats 4000000 in
set_option maxRecDepth 100000 in
theorem gt_leaf {l rc : Nat} {p : Option Addr} {vw : Value} {ro : Option Addr} {W : World} {S : World → Prop} (hY : YieldAt Fence.wide 0 Tryz.prog l #[vw] W fun e Y => e = .returned (.bool true) ∧ S Y) :
    CallsIn Fence.wide 0 Tryz.prog 128 #[.pointer p, vw, .slice ro 0 rc, .func (.yield l) #[] #[]] W fun e Y => e = .returned (.bool true) ∧ S Y := by
  obtain ⟨fn, tmps, assign, body, hy, hR⟩ := hY
  refine callsIn_of_wp Tryz.func128 rfl trivial ?_ rfl
  simp only [Tryz.ntmps128, List.size_toArray, List.length_cons, List.length_nil, Nat.reduceAdd, Nat.reduceSub, Array.replicate_succ, Array.replicate_zero, List.push_toArray, List.append_toArray, List.nil_append, List.cons_append]
  gi_wp2
  refine ⟨rfl, hR.mono ?_⟩
  rintro e Y ⟨rfl, hS⟩
  gi_wp2
  go_ret
  exact ⟨rfl, hS⟩
end Go.Proofs.YtppggchhkckobaaGreat

/- Codes: the capacity of the rows that Make tells. -/
namespace Go.Proofs.YtppggchhkckobaaGreat
open Go.RowKit Go.Sort

set_option maxHeartbeats 4000000 in
set_option maxRecDepth 100000 in
theorem oneFormC_any {D : FD} (hD : D ∈ fieldsL) {ao : Option Addr} {m n ca : Nat} {A : Nat → Option Addr} {N C : Nat → Nat} {Z : Nat → Nat → Int} {w : World} (h : CdZ D ao m n A N C Z w) :
    Calls Tryz.prog 97 #[.int .i64 D.q, .int .i64 (n : Nat), .slice ao m ca] w fun e w' => ∃ k R ro rc, e = .returned (.agg #[.int .i64 D.q, .int .i64 (n : Nat), .slice ro k rc]) ∧ (k ≤ rc ∧ rc ≤ 1000000) ∧ MV w.heap.size (.slice ro k rc) k n R w' ∧ Red D n m (mzc N Z) k R ∧ Below w.heap.size w w' := by
  obtain ⟨wa, hwa⟩ : ∃ wa, wa = w.alloc (.cells #[.int .i64 0, .int .i64 0, .slice none 0 0] 35) := ⟨_, rfl⟩
  have hba : Below w.heap.size w wa := by rw [hwa]; exact (Below.refl _ _).alloc (Nat.le_refl _) _
  have HA : Hid (D ∈ fieldsL ∧ CdZ D ao m n A N C Z w ∧ Below w.heap.size w wa ∧ RB w.heap.size wa ∧ w.heap.size < wa.heap.size) := ⟨hD, h, hba, by rw [hwa]; exact RB.new _ _ _ _, by rw [hwa]; simp⟩
  have hm := h.few (fld hD)
  clear hD h hba
  go_enter Tryz.func97, Tryz.ntmps97
  go_wp2_with fail
  rw [← hwa]
  clear hwa
  refine (mreduce_any HA.out.1 (HA.out.2.1.mat.below HA.out.2.2.1) hm).mono ?_
  rintro e w1 ⟨hb1, hr⟩
  rcases hr with ⟨h0, _⟩ | ⟨_, G, k, R', p, h', pv, W, rfl, hG, hW, hkm, hmx, hpv, hre, hsp⟩
  · exact absurd HA.out.2.1.chk h0
  · have H1 : Hid (MV wa.heap.size (.slice (some ⟨G, 0, none⟩) k m) k n R' w1 ∧ Red D n m (mzc N Z) k R' ∧ Below w.heap.size w w1 ∧ RB w.heap.size w1) := by
      rcases Nat.eq_zero_or_pos m with e | e
      · have hk0 : k = 0 := by omega
        subst hk0
        exact ⟨Or.inl ⟨rfl, _, _, rfl⟩, ⟨p, rre_none _ _ _ _, hsp⟩, bel_up' HA.out.2.2.1 hb1, HA.out.2.2.2.1.keep hb1⟩
      · have hWn : W = n := by rw [hW e, HA.out.2.1.wd e]
        subst hWn
        exact ⟨Or.inr ⟨G, m, m, h', rfl, hmx.less hkm⟩, ⟨p, hre, hsp⟩, bel_up' HA.out.2.2.1 hb1, HA.out.2.2.2.1.keep hb1⟩
    have HKM : Hid (k ≤ m ∧ m ≤ 1000000) := ⟨hkm, hm⟩
    clear hb1 hG hW hkm hmx hpv hre hsp
    obtain ⟨⟨x0, c0⟩, ⟨x1, c1⟩, ⟨x2, c2⟩, f0, f1, f2⟩ := H1.out.2.2.2
    go_wp2
    obtain ⟨w2, hw2⟩ : ∃ w2, w2 = laid w1 w.heap.size D.q n (.slice (some ⟨G, 0, none⟩) k m) := ⟨_, rfl⟩
    have H2 : Hid (CB w.heap.size D.q n (.slice (some ⟨G, 0, none⟩) k m) w2 ∧ MV w.heap.size (.slice (some ⟨G, 0, none⟩) k m) k n R' w2 ∧ Below w.heap.size w w2) := by
      rw [hw2]
      exact ⟨laid_cb H1.out.2.2.2 _ _ _, (laid_mv H1.out.1 HA.out.2.2.2.2 _ _ _).mono (by have := HA.out.2.2.2.2; omega), laid_below H1.out.2.2.1 (Nat.le_refl _) _ _ _⟩
    unfold laid at hw2
    rw [← hw2]
    clear hw2 c0 c1 c2 f0 f1 f2
    obtain ⟨c0, c1, c2⟩ := H2.out.1
    refine bodyPost_ret (v := .agg #[.int .i64 D.q, .int .i64 (n : Nat), .slice (some ⟨G, 0, none⟩) k m]) (by simp [results, Tryz.results97, go_sem, c0, c1, c2]) rfl ?_
    exact ⟨k, R', _, _, rfl, HKM.out, H2.out.2.1, H1.out.2.1, H2.out.2.2⟩
set_option maxHeartbeats 4000000 in
set_option maxRecDepth 100000 in
theorem cMakeC_ok {D : FD} (hD : D ∈ fieldsL) {ao : Option Addr} {m n ca : Nat} {A : Nat → Option Addr} {N C : Nat → Nat} {Z : Nat → Nat → Int} {w : World} (ha : CdZ D ao m n A N C Z w)
    (hC : ∀ wx, Below w.heap.size w wx → Calls Tryz.prog 96 #[.agg #[.int .i64 D.q, .int .i64 (n : Nat), .slice ao m ca]] wx fun x w' => x = .returned (.int .i64 0) ∧ Below wx.heap.size wx w') :
    Calls Tryz.prog 57 #[.agg #[.int .i64 D.q, .int .i64 (n : Nat), .slice ao m ca]] w fun x w' => ∃ k R ro rc, x = .returned (.tuple #[.agg #[.int .i64 D.q, .int .i64 (n : Nat), .slice ro k rc], .int .i64 0]) ∧ (k ≤ rc ∧ rc ≤ 1000000) ∧ MV w.heap.size (.slice ro k rc) k n R w' ∧ Red D n m (mzc N Z) k R ∧ Below w.heap.size w w' := by
  obtain ⟨w0, hw0⟩ : ∃ w0, w0 = (w.alloc (.cells #[.int .i64 D.q, .int .i64 (n : Nat), .slice ao m ca] 35)).alloc (.cells #[.int .i64 0, .int .i64 0, .slice none 0 0] 35) := ⟨_, rfl⟩
  have HW : Hid (Below w.heap.size w w0 ∧ RB (w.heap.size + 1) w0 ∧ CB w.heap.size D.q n (.slice ao m ca) w0 ∧ w0.heap.size = w.heap.size + 2) := by
    obtain ⟨h1, h2, h3, h4⟩ := two_boxes D.q n 0 0 (.slice ao m ca) (.slice none 0 0) w
    have h6 := RBt.new #[.int .i64 0, .int .i64 0, .slice none 0 0] (w.alloc (.cells #[.int .i64 D.q, .int .i64 (n : Nat), .slice ao m ca] 35))
    rw [show (w.alloc (.cells #[.int .i64 D.q, .int .i64 (n : Nat), .slice ao m ca] 35)).heap.size = w.heap.size + 1 by simp] at h6
    rw [hw0]; exact ⟨h1, RB.of h3 h6, h2, by simp⟩
  have HA : Hid (D ∈ fieldsL ∧ CdZ D ao m n A N C Z w) := ⟨hD, ha⟩
  have HC : Hid _ := hC
  have hn1 := ha.n1
  have hn := ha.n64
  clear hD ha hC
  go_enter Tryz.func57, Tryz.ntmps57
  go_wp2_with fail
  rw [← hw0]
  clear hw0
  refine (HC.out _ HW.out.1).mono ?_
  rintro x w1 ⟨rfl, hb1⟩
  have H1 : Hid (Below w.heap.size w w1 ∧ RB (w.heap.size + 1) w1 ∧ CB w.heap.size D.q n (.slice ao m ca) w1 ∧ w.heap.size + 2 ≤ w1.heap.size) := ⟨bel_up' HW.out.1 hb1, HW.out.2.1.keep hb1, HW.out.2.2.1.keep hb1, by have := hb1.size; have := HW.out.2.2.2; omega⟩
  clear hb1
  have hcb1 := H1.out.2.2.1
  obtain ⟨a0, a1, a2⟩ := hcb1
  go_wp2_with fail
  refine (oneFormC_any HA.out.1 (HA.out.2.below H1.out.1)).mono ?_
  rintro x w2 ⟨k, R, ro, rc, rfl, hkr, hmv, hred, hb2⟩
  have H2 : Hid (MV w1.heap.size (.slice ro k rc) k n R w2 ∧ Red D n m (mzc N Z) k R ∧ Below w.heap.size w w2 ∧ RB (w.heap.size + 1) w2) := ⟨hmv, hred, bel_up' H1.out.1 hb2, H1.out.2.1.keep hb2⟩
  have HKR : Hid (k ≤ rc ∧ rc ≤ 1000000) := hkr
  clear hmv hred hb2 a0 a1 a2 hkr
  obtain ⟨⟨x0, c0⟩, ⟨x1, c1⟩, ⟨x2, c2⟩, f0, f1, f2⟩ := H2.out.2.2.2
  go_wp2
  obtain ⟨w3, hw3⟩ : ∃ w3, w3 = laid w2 (w.heap.size + 1) D.q n (.slice ro k rc) := ⟨_, rfl⟩
  have H3 : Hid (CB (w.heap.size + 1) D.q n (.slice ro k rc) w3 ∧ MV w.heap.size (.slice ro k rc) k n R w3 ∧ Below w.heap.size w w3) := by
    have := H1.out.2.2.2
    rw [hw3]; exact ⟨laid_cb H2.out.2.2.2 _ _ _, (laid_mv H2.out.1 (by omega) _ _ _).mono (by omega), laid_below H2.out.2.2.1 (by omega) _ _ _⟩
  unfold laid at hw3
  rw [← hw3]
  clear hw3 c0 c1 c2 f0 f1 f2
  obtain ⟨c0, c1, c2⟩ := H3.out.1
  refine bodyPost_ret (v := .tuple #[.agg #[.int .i64 D.q, .int .i64 (n : Nat), .slice ro k rc], .int .i64 0]) (by simp [results, Tryz.results57, go_sem, c0, c1, c2]) rfl ?_
  exact ⟨_, R, _, _, rfl, HKR.out, H3.out.2.1, H2.out.2.1, H3.out.2.2⟩
end Go.Proofs.YtppggchhkckobaaGreat
