/- Texts of ours, one behind the other: W15 W18 KM1 KM2 KM3 KM4 KM5. -/
import Derived.Test.YtbofcldmgjeklabZW4
import Derived.Test.YtbofcldmgjeklabZQ2
import Derived.Test.YtbofcldmgjeklabZS27
import Derived.OrdersIn
import Derived.Test.YtbofcldmgjeklabZW9
import Derived.Test.YtbofcldmgjeklabZW6
import Derived.Test.YtbofcldmgjeklabZL1
import Derived.Test.YtbofcldmgjeklabZM3
import Derived.Test.YtbofcldmgjeklabZR5
import Derived.Test.YtbofcldmgjeklabZI12
import Derived.Test.YtbofcldmgjeklabZN4
import Derived.Test.YtbofcldmgjeklabZS4
/- A region that draws its order, in a round of a range over a function: what serves elsewhere serves there. No Go text here. -/
namespace Go.Proofs.Ytbofcldmgjeklab
open Go

/-- No operation is a 'defer' statement. -/
def noDefer (l : List Oper) : Bool := l.all fun o => match o.op with | .defer _ => false | _ => true
theorem noDefer_at {l : List Oper} (h : noDefer l = true) {o : Oper} (ho : o ∈ l) : ∀ c, o.op ≠ .defer c := fun c e => by
  have := List.all_eq_true.1 h o ho
  rw [e] at this
  cases this
theorem oper_round {P : Program} {o : Oper} {a : Act} {w : World} {K : Act → World → Prop} {Q : Exit → Act → World → Prop} {r : Nat} (hd : ∀ c, o.op ≠ .defer c) (h : o.wp P a w K Q) : o.wpIn (Fence.wide.inRound r) 0 P a w K Q := by
  unfold Oper.wp at h
  refine ⟨fun _ _ => trivial, ?_⟩
  show o.uponIn _ _ _ _ _ _ ((o.semAt (some r) a.eval).run P w)
  rw [Oper.semAt_some r a.eval o hd]
  generalize (execOp a.eval o).run P w = res at h ⊢
  cases res with
  | ok x w' =>
    cases x with
    | value v => exact h
    | skip => exact h
    | defer d => exact h
    | enter f args => exact ⟨fun e => (by cases e), CallsIn.inRound r (callsIn_wide.2 h)⟩
    | row row args => exact ⟨fun e => (by cases e), fun c cs _ => let ⟨v, w', r1, s⟩ := h c cs; ⟨v, w', r1, stepsIn_wide.2 s⟩⟩
    | _ => exact h.elim
  | halt x w' => cases x <;> exact h
theorem any_round {P : Program} {ops : Array Oper} {Q : Exit → Act → World → Prop} {r : Nat} (hQ : ¬ LetsOut Q) (hdf : noDefer ops.toList = true) : ∀ (f : Nat) (s : Array Bool) (a : Act) (w : World), wpAny P .any ops Q f s a w → wpAnyIn (Fence.wide.inRound r) 0 P .any ops Q f s a w
  | 0, _, _, _, h => h
  | f + 1, s, a, w, h => ⟨h.1, fun i hi => by
    have h2 := h.2 i hi
    unfold wpOp at h2
    unfold wpOpIn
    cases ho : ops[i]? with
    | none => rw [ho] at h2; exact any_round hQ hdf f _ _ _ h2
    | some o =>
      rw [ho] at h2
      have hm : o ∈ ops.toList := by
        have := Array.mem_of_getElem? ho
        exact Array.mem_toList_iff.2 this
      show if Region.wanted o (yielded ops a.tmps) then _ else _
      replace h2 : if Region.wanted o (yielded ops a.tmps) = true then o.wp P a w _ Q ∨ (o.asks P a w ∧ LetsOut Q) else _ := h2
      by_cases hw : Region.wanted o (yielded ops a.tmps) = true
      · rw [if_pos hw] at h2 ⊢
        rcases h2 with h3 | h3
        · exact Oper.wpIn_mono (fun a' w' h4 => any_round hQ hdf f _ a' w' h4) (oper_round (noDefer_at hdf hm) h3)
        · exact absurd h3.2 hQ
      · rw [if_neg hw] at h2 ⊢
        exact ⟨fun _ _ => trivial, any_round hQ hdf f _ _ _ h2⟩⟩
theorem region_round {P : Program} {ops : Array Oper} {Q : Exit → Act → World → Prop} {r id : Nat} {a : Act} {w : World} (hQ : ¬ LetsOut Q) (hdf : noDefer ops.toList = true) (hm : P.follows .mixedOrders = true)
    (h : wpAny P .any ops Q ops.size (Array.replicate ops.size false) a { w with drawn := w.drawn + 1 }) : (Code.region id ops true).wpIn (Fence.wide.inRound r) 0 P Q a w :=
  wpIn_region_any hm (any_round hQ hdf _ _ _ _ h)
end Go.Proofs.Ytbofcldmgjeklab

/- Lists of lists that the call made itself, to be handed in. -/
namespace Go.Proofs.Ytbofcldmgjeklab
open Go.RowKit Go.Sort

theorem LLs.atE {base n cap : Nat} {ao : Option Addr} {L : List (Nat × (Nat → Nat))} {w : World} (h : LLs base (.slice ao n cap) L w) {j : Nat} {p : Nat × (Nat → Nat)} (hj : L[j]? = some p) : ∃ g b cp, ao = some ⟨g, 0, none⟩ ∧ w.cell? ⟨g, j, none⟩ = some (.slice (some ⟨b, 0, none⟩) (p.1 + 1) cp) ∧ Elm (.slice (some ⟨b, 0, none⟩) (p.1 + 1) cp) p w := by
  obtain ⟨l, h1, h2⟩ := h
  obtain ⟨ao', cap', e, _, _, _, hc⟩ := h1.open
  cases e
  have hjl : j < l.length := by rw [h2.1]; exact (List.getElem?_eq_some_iff.1 hj).1
  obtain ⟨g, e1, e2, _⟩ := hc j l[j] (List.getElem?_eq_getElem hjl)
  have e3 := h2.2 j l[j] p (List.getElem?_eq_getElem hjl) hj
  obtain ⟨b, cp, e4, e5⟩ := e3
  rw [e4] at e2
  exact ⟨g, b, cp, e1, e2, b, cp, rfl, e5⟩
theorem LLs.matZN {base k n : Nat} {v : Value} {R : Nat → Nat → Nat} {w : World} (h : LLs base v (Go.Proofs.Ytbofcldmgjeklab.rl k n R) w) (hn : n + 1 ≤ 1000000) : ∃ ao cap A C, v = .slice ao k cap ∧ MatZ ao k A (fun _ => n + 1) C (fun i j => ((R i j : Nat) : Int)) w := by
  classical
  obtain ⟨ao, cap, hv⟩ := h.slice
  rw [rl_len] at hv
  subst hv
  have key : ∀ i, ∃ p : Nat × Nat, i < k → ∃ g, ao = some ⟨g, 0, none⟩ ∧ w.cell? ⟨g, i, none⟩ = some (.slice (some ⟨p.1, 0, none⟩) (n + 1) p.2) ∧ Elm (.slice (some ⟨p.1, 0, none⟩) (n + 1) p.2) (n, R i) w := fun i => by
    by_cases e : i < k
    · obtain ⟨g, b, cp, h1, h2, h3⟩ := h.atE (rl_get k n R i e)
      exact ⟨(b, cp), fun _ => ⟨g, h1, h2, h3⟩⟩
    · exact ⟨(0, 0), fun x => absurd x e⟩
  obtain ⟨P, hP⟩ : ∃ P : Nat → Nat × Nat, ∀ i, i < k → ∃ g, ao = some ⟨g, 0, none⟩ ∧ w.cell? ⟨g, i, none⟩ = some (.slice (some ⟨(P i).1, 0, none⟩) (n + 1) (P i).2) ∧ Elm (.slice (some ⟨(P i).1, 0, none⟩) (n + 1) (P i).2) (n, R i) w := ⟨fun i => Classical.choose (key i), fun i hi => Classical.choose_spec (key i) hi⟩
  have hE : ∀ i, i < k → n + 1 ≤ (P i).2 ∧ (P i).2 ≤ 9223372036854775807 ∧ Row (P i).1 (n + 1) (R i) w := fun i hi => by
    obtain ⟨g, _, _, g2, c2, e, h1, h2, h3⟩ := hP i hi
    cases e
    exact ⟨h1, h2, h3⟩
  refine ⟨ao, cap, fun i => some ⟨(P i).1, 0, none⟩, fun i => (P i).2, rfl, fun i hi => ?_, fun i hi => ?_, fun i hi => (hE i hi).1, fun i hi => (hE i hi).2.1, fun i hi e => (by cases e), fun i hi => hn⟩
  · obtain ⟨g, h1, h2, _⟩ := hP i hi
    exact ⟨g, 0, h1, by rw [Nat.zero_add]; exact h2⟩
  · exact ((hE i hi).2.2.sl (Nat.le_refl _)).z
end Go.Proofs.Ytbofcldmgjeklab

/- A store's plan: PlanMay, New. -/
namespace Go.Proofs.Ytbofcldmgjeklab
open Go.RowKit Go.Sort

/-- What is wrong with a plan over a field. -/
def FD.plc (D : FD) (n k d : Int) : Int := if n < 2 ∨ 16 < n ∨ (D.q : Int) < n then 4 else if k < 1 ∨ d < k ∨ n ≤ d then 6 else 0

/-- A plan that lies at a place. -/
structure PlA (B F : Nat) (n k d : Int) (w : World) : Prop where
  f : w.cell? ⟨B, 0, none⟩ = some (.pointer (some ⟨F, 0, none⟩))
  n : w.cell? ⟨B, 1, none⟩ = some (.int .i64 n)
  k : w.cell? ⟨B, 2, none⟩ = some (.int .i64 k)
  d : w.cell? ⟨B, 3, none⟩ = some (.int .i64 d)
theorem PlA.below {B F : Nat} {n k d : Int} {w w' : World} (h : PlA B F n k d w) (hb : Below w.heap.size w w') : PlA B F n k d w' :=
  ⟨((bcell hb).1 B 0 (cell_lt h.f)).trans h.f, ((bcell hb).1 B 1 (cell_lt h.f)).trans h.n, ((bcell hb).1 B 2 (cell_lt h.f)).trans h.k, ((bcell hb).1 B 3 (cell_lt h.f)).trans h.d⟩

set_option maxHeartbeats 8000000 in
set_option maxRecDepth 100000 in
theorem snew_any {D : FD} (hD : D ∈ fieldsL) (n k d : Int) (w : World) :
    Calls Try.prog 16 #[.int .i64 D.q, .int .i64 n, .int .i64 k, .int .i64 d] w fun e w' => Below w.heap.size w w' ∧ ((D.plc n k d ≠ 0 ∧ e = .returned (.tuple #[.pointer none, .int .i64 (D.plc n k d)])) ∨ (D.plc n k d = 0 ∧ ∃ B F T g, e = .returned (.tuple #[.pointer (some ⟨B, 0, none⟩), .int .i64 0]) ∧ PlA B F n k d w' ∧ FAt F T D g w' ∧ w.heap.size ≤ B ∧ w.heap.size ≤ F ∧ w.heap.size ≤ T)) := by
  have HD : Hid (D ∈ fieldsL) := hD
  clear hD
  go_enter Try.func16, Try.ntmps16
  go_wp2_with fail
  refine (new_any HD.out w).mono ?_
  rintro x w1 ⟨F, T, g, rfl, hF, hF1, hT1, hb1⟩
  have HB : Hid (Below w.heap.size w w1 ∧ FAt F T D g w1 ∧ w.heap.size ≤ F ∧ w.heap.size ≤ T) := ⟨hb1, hF, hF1, hT1⟩
  clear hF hF1 hT1 hb1
  by_cases c0 : n < 2
  · have e : D.plc n k d = 4 := by unfold FD.plc; rw [if_pos (by omega)]
    go_wp2
    go_ret2
    exact ⟨HB.out.1, Or.inl ⟨by rw [e]; decide, by rw [e]; rfl⟩⟩
  · skip
    by_cases c1 : 16 < n
    · have e : D.plc n k d = 4 := by unfold FD.plc; rw [if_pos (by omega)]
      go_wp2
      go_ret2
      exact ⟨HB.out.1, Or.inl ⟨by rw [e]; decide, by rw [e]; rfl⟩⟩
    · skip
      by_cases c2 : (D.q : Int) < n
      · have e : D.plc n k d = 4 := by unfold FD.plc; rw [if_pos (by omega)]
        go_wp2
        go_ret2
        exact ⟨HB.out.1, Or.inl ⟨by rw [e]; decide, by rw [e]; rfl⟩⟩
      · skip
        by_cases c3 : k < 1
        · have e : D.plc n k d = 6 := by unfold FD.plc; rw [if_neg (by omega), if_pos (by omega)]
          go_wp2
          go_ret2
          exact ⟨HB.out.1, Or.inl ⟨by rw [e]; decide, by rw [e]; rfl⟩⟩
        · skip
          by_cases c4 : d < k
          · have e : D.plc n k d = 6 := by unfold FD.plc; rw [if_neg (by omega), if_pos (by omega)]
            go_wp2
            go_ret2
            exact ⟨HB.out.1, Or.inl ⟨by rw [e]; decide, by rw [e]; rfl⟩⟩
          · skip
            by_cases c5 : n ≤ d
            · have e : D.plc n k d = 6 := by unfold FD.plc; rw [if_neg (by omega), if_pos (by omega)]
              go_wp2
              go_ret2
              exact ⟨HB.out.1, Or.inl ⟨by rw [e]; decide, by rw [e]; rfl⟩⟩
            · skip
              have e : D.plc n k d = 0 := by unfold FD.plc; rw [if_neg (by omega), if_neg (by omega)]
              go_wp2
              go_ret2
              have hb : Below w1.heap.size w1 (w1.alloc (.cells #[.pointer (some ⟨F, 0, none⟩), .int .i64 n, .int .i64 k, .int .i64 d] 90)) := (Below.refl _ _).alloc (Nat.le_refl _) _
              have hc : ∀ j, j < 4 → _ := fun j _ => World.cell?_alloc_new (w := w1) #[.pointer (some ⟨F, 0, none⟩), .int .i64 n, .int .i64 k, .int .i64 d] 90 j
              exact ⟨bel_up' HB.out.1 hb, Or.inr ⟨e, w1.heap.size, F, T, g, rfl, ⟨hc 0 (by omega), hc 1 (by omega), hc 2 (by omega), hc 3 (by omega)⟩, HB.out.2.1.below hb HB.out.2.1.ltF HB.out.2.1.ltT, HB.out.1.size, HB.out.2.2⟩⟩
end Go.Proofs.Ytbofcldmgjeklab

/- How many numbers a file has: Size, FileSize. -/
namespace Go.Proofs.Ytbofcldmgjeklab
open Go.RowKit Go.Sort

def fsz (k d : Nat) : Nat := k * (k + 1) / 2 + k * (d - k)
theorem fsz_le {k d : Nat} (hk : k ≤ d) (hd : d ≤ 15) : k * (k + 1) ≤ 240 ∧ k * (d - k) ≤ 225 := by
  have h1 : k * (k + 1) ≤ 15 * 16 := Nat.mul_le_mul (by omega) (by omega)
  have h2 : k * (d - k) ≤ 15 * 15 := Nat.mul_le_mul (by omega) (by omega)
  omega
theorem fsz_wrap {k d : Nat} (hk : k ≤ d) (hd : d ≤ 15) : wrap64 (wrap64 ((wrap64 ((k : Int) * ((k : Int) + 1))).tdiv 2) + wrap64 ((k : Int) * ((d : Int) - (k : Int)))) = (fsz k d : Nat) := by
  have hle := fsz_le hk hd
  obtain ⟨p, hp⟩ : ∃ p, p = k * (k + 1) := ⟨_, rfl⟩
  obtain ⟨r, hr⟩ : ∃ r, r = k * (d - k) := ⟨_, rfl⟩
  have e1 : (k : Int) * ((k : Int) + 1) = (p : Nat) := by rw [hp]; simp
  have e2 : (k : Int) * ((d : Int) - (k : Int)) = (r : Nat) := by rw [hr, show (d : Int) - (k : Int) = ((d - k : Nat) : Int) by omega]; simp
  have e3 : fsz k d = p / 2 + r := by unfold fsz; rw [hp, hr]
  have w0 : ∀ x : Nat, x ≤ 1000000 → wrap64 (x : Int) = (x : Int) := fun x hx => w_nat x (by omega)
  rw [← hp, ← hr] at hle
  rw [e1, e2, e3, w0 p (by omega), w0 r (by omega)]
  have e4 : ((p : Nat) : Int).tdiv 2 = ((p / 2 : Nat) : Int) := by
    rw [Int.tdiv_eq_ediv_of_nonneg (by omega)]; omega
  rw [e4, w0 (p / 2) (by omega)]
  have e5 : ((p / 2 : Nat) : Int) + (r : Int) = ((p / 2 + r : Nat) : Int) := by omega
  rw [e5, w0 (p / 2 + r) (by omega)]

set_option maxHeartbeats 8000000 in
set_option maxRecDepth 100000 in
theorem psize_any {B F n k d : Nat} {w : World} (hP : PlA B F n k d w) (hk : k ≤ d) (hd : d ≤ 15) :
    Calls Try.prog 18 #[.pointer (some ⟨B, 0, none⟩)] w fun e w' => e = .returned (.int .i64 (fsz k d : Nat)) ∧ ∃ j, w' = w.drewN j := by
  have HV : Hid (wrap64 (wrap64 ((wrap64 ((k : Int) * ((k : Int) + 1))).tdiv 2) + wrap64 ((k : Int) * ((d : Int) - (k : Int)))) = (fsz k d : Nat)) := fsz_wrap hk hd
  obtain ⟨c0, c1, c2, c3⟩ := hP
  go_enter Try.func18, Try.ntmps18
  go_wp2
  go_big_quiet (fail)
  go_wp2
  go_ret
  exact ⟨by rw [← HV.out]; rfl, _, rfl⟩
end Go.Proofs.Ytbofcldmgjeklab

/- checkList: so many numbers, all elements. -/
namespace Go.Proofs.Ytbofcldmgjeklab
open Go.RowKit Go.Sort

theorem enters_checkList1 : ∀ args w, (callFunc 99 args).run Try.prog w = .ok (.enter 99 args) w :=
  enters_of Try.func99 (by kernel_rfl) rfl
set_option maxHeartbeats 1000000 in
theorem checkList1_any {D : FD} {F T B P : Nat} {g : Nat → Value} {w : World} (h : FAt F T D g w) (hc : w.cell? ⟨P, 0, none⟩ = some (.pointer (some ⟨B, 0, none⟩))) (hp : w.cell? ⟨B, 0, none⟩ = some (.pointer (some ⟨F, 0, none⟩))) (x : Int) :
    Calls Try.prog 99 #[.int .i64 x, .pointer (some ⟨P, 0, none⟩)] w fun e w' => e = .returned (.bool (!D.has x)) ∧ w' = w := by
  have HS : Hid (FAt F T D g w) := h
  clear h
  obtain ⟨y, hy⟩ : ∃ y, y = D.has x := ⟨_, rfl⟩
  have HC : Hid (Calls Try.prog 100 #[.pointer (some ⟨F, 0, none⟩), .int .i64 x] w fun e w' => e = .returned (.bool y) ∧ w' = w) := by
    show Calls _ _ _ _ _
    rw [hy]; exact has_any HS.out x
  rw [← hy]
  clear hy
  go_enter Try.func99, Try.ntmps99
  go_wp2_with (go_at_call 100; refine HC.out.mono ?_; rintro e w' ⟨rfl, hw⟩; have hw := hw.symm; subst hw)
  go_ret
  exact ⟨rfl, rfl⟩

set_option maxHeartbeats 4000000 in
set_option maxRecDepth 100000 in
theorem checkList_any {D : FD} {B F T : Nat} {g : Nat → Value} {pn pk pd : Int} {ao : Option Addr} {n ca : Nat} {z : Nat → Int} {w : World} (hP : PlA B F pn pk pd w) (h : FAt F T D g w) (hs : SlZ ao n z w) (hn : n ≤ 1000000) (many : Int) :
    Calls Try.prog 57 #[.pointer (some ⟨B, 0, none⟩), .slice ao n ca, .int .i64 many] w fun e w' => e = .returned (.int .i64 (D.nchk n z many)) ∧ Below w.heap.size w w' := by
  obtain ⟨wa, hwa⟩ : ∃ wa, wa = w.alloc (.cells #[.pointer (some ⟨B, 0, none⟩)] 34) := ⟨_, rfl⟩
  have hba : Below w.heap.size w wa := by rw [hwa]; exact (Below.refl _ _).alloc (Nat.le_refl _) _
  have hc : wa.cell? ⟨w.heap.size, 0, none⟩ = some (.pointer (some ⟨B, 0, none⟩)) := by rw [hwa, cell_of_row _ _ _ _ _ (0, 0) (two_new _)]; rfl
  have HC : Hid (Calls Try.prog 98 #[.slice ao n ca, .func (.func 99) #[] #[.pointer (some ⟨w.heap.size, 0, none⟩)]] wa fun e w' => e = .returned (.bool (anyB (fun j => !D.has (z j)) n)) ∧ w' = wa) := by
    refine containsFn_any (p := fun j => !D.has (z j)) enters_checkList1 (slz_below hs hba) hn (fun j _ => ?_)
    have e : (#[Value.int .i64 (z j)] ++ #[Value.pointer (some ⟨w.heap.size, 0, none⟩)] : Array Value) = #[.int .i64 (z j), .pointer (some ⟨w.heap.size, 0, none⟩)] := rfl
    rw [e]
    exact checkList1_any (h.below hba h.ltF h.ltT) hc (hP.below hba).f (z j)
  have HB : Hid (Below w.heap.size w wa) := hba
  obtain ⟨R, hR⟩ : ∃ R, R = anyB (fun j => !D.has (z j)) n := ⟨_, rfl⟩
  have HN : Hid (D.nchk n z many = if ((n : Nat) : Int) ≠ many then 6 else if R = true then 2 else 0) := by
    show _ = _
    unfold FD.nchk
    rw [← hR]
  rw [← hR] at HC
  clear h hs hc hba hR hP
  go_enter Try.func57, Try.ntmps57
  by_cases hm : ((n : Nat) : Int) = many
  · have hz : (((n : Nat) : Int) != many) = false := by rw [hm]; simp
    go_wp2_with fail
    rw [← hwa]
    clear hwa
    refine HC.out.mono ?_
    rintro e w' ⟨rfl, hw⟩
    have hw := hw.symm
    subst hw
    cases R with
    | true =>
      go_wp2
      go_ret
      exact ⟨by rw [HN.out, if_neg (by omega), if_pos (by trivial)]; rfl, HB.out⟩
    | false =>
      go_wp2
      go_ret
      exact ⟨by rw [HN.out, if_neg (by omega), if_neg (by decide)]; rfl, HB.out⟩
  · have hz : (((n : Nat) : Int) != many) = true := by rw [bne_iff_ne]; exact hm
    go_wp2
    rw [← hwa]
    go_ret
    exact ⟨by rw [HN.out, if_pos hm]; rfl, HB.out⟩
end Go.Proofs.Ytbofcldmgjeklab

/- A plan's value, isNode, the checks of nodes. -/
namespace Go.Proofs.Ytbofcldmgjeklab
open Go.RowKit Go.Sort

set_option maxHeartbeats 4000000 in
set_option maxRecDepth 100000 in
theorem svalue_any {B F T : Nat} {pn pk pd : Int} {D : FD} (hD : D ∈ fieldsL) {g : Nat → Value} {w : World} (h : FAt F T D g w) (hP : PlA B F pn pk pd w) {ao : Option Addr} {n cap x : Nat} {c : Nat → Nat} (hx : x < D.q) (hn : n ≤ 1000) (hc : El D c) (hN : Sl ao n c w) :
    Calls Try.prog 59 #[.pointer (some ⟨B, 0, none⟩), .slice ao n cap, .int .i64 x] w fun e w' => e = .returned (.int .i64 (D.val c n x n : Nat)) ∧ ∃ n, w' = w.drewN n := by
  have HF : Hid (FAt F T D g w ∧ D ∈ fieldsL ∧ Sl ao n c w ∧ El D c) := ⟨h, hD, hN, hc⟩
  have HP : Hid (w.cell? ⟨B, 0, none⟩ = some (.pointer (some ⟨F, 0, none⟩))) := hP.f
  clear h hD hN hc hP
  go_enter Try.func59, Try.ntmps59
  go_wp2
  go_loopw [7, 8] (fun s i wr => ∃ r : Nat, r ≤ n ∧ i = .int .i64 ((r : Int) - 1) ∧ s = .int .i64 (D.val c n x (n - r) : Nat) ∧ ∃ d, wr = w.drewN d) (fun _ i _ => (intOf i + 1).toNat)
  case atStart => exact ⟨n, by omega, rfl, by rw [Nat.sub_self]; rfl, 0, rfl⟩
  case round =>
    obtain ⟨r, hr, hi, rfl, hwr⟩ := hrel
    have HG : Hid (FAt F T D g wr ∧ Sl ao n c wr ∧ ∃ d, wr = w.drewN d) := by
      obtain ⟨d, rfl⟩ := hwr
      exact ⟨HF.out.1.drewN d, HF.out.2.2.1, d, rfl⟩
    have hpf : wr.cell? ⟨B, 0, none⟩ = some (.pointer (some ⟨F, 0, none⟩)) := by obtain ⟨d, rfl⟩ := hwr; exact HP.out
    clear hwr
    cases r with
    | succ s =>
      have hi' : u8 = .int .i64 (s : Int) := by rw [hi]; go_num
      clear hi
      subst hi'
      obtain ⟨y, hy⟩ : ∃ y, y = D.val c n x (n - (s + 1)) := ⟨_, rfl⟩
      have hyq : y < D.q := by rw [hy]; exact val_lt HF.out.2.1 c n x HF.out.2.2.2 _
      have HY : Hid (D.val c n x (n - s) = sumD D.p D.q (D.mul y x) (c s)) := by
        show _ = _
        rw [hy, show n - s = (n - (s + 1)) + 1 from by omega, FD.val, show n - 1 - (n - (s + 1)) = s from by omega]
      rw [← hy]
      clear hy
      obtain ⟨b, off, rfl, hcl⟩ := HG.out.2.1 s (by omega)
      have HC1 : Hid (∀ k, Calls Try.prog 104 #[.pointer (some ⟨F, 0, none⟩), .int .i64 y, .int .i64 x] (wr.drewN k) fun e w' => e = .returned (.int .i64 (D.mul y x : Nat)) ∧ ∃ m, w' = (wr.drewN k).drewN m) := fun k => mul_nat HF.out.2.1 (HG.out.1.drewN k) hyq hx
      have HC2 : Hid (∀ k, Calls Try.prog 103 #[.pointer (some ⟨F, 0, none⟩), .int .i64 (D.mul y x : Nat), .int .i64 (c s : Nat)] (wr.drewN k) fun e w' => e = .returned (.int .i64 (sumD D.p D.q (D.mul y x) (c s) : Nat)) ∧ ∃ m, w' = (wr.drewN k).drewN m) := fun k => add_nat HF.out.2.1 (HG.out.1.drewN k) ((fld HF.out.2.1).mul_lt _ _) (HF.out.2.2.2 s)
      go_wp2
      go_big_quiet (first | (go_at_call 104; exact Calls.quiet_of (HC1.out _)) | (go_at_call 103; exact Calls.quiet_of (HC2.out _)))
      go_wp2
      go_roundw
      case rel =>
        obtain ⟨d, hd⟩ := HG.out.2.2
        exact ⟨s, by omega, by go_num, by rw [HY.out], _, by rw [hd, World.drewN_drewN]⟩
      case measure => simp [intOf]
    | zero =>
      have hi' : u8 = .int .i64 (-1) := by rw [hi]; rfl
      clear hi
      subst hi'
      go_wp2
      go_ret
      exact ⟨rfl, HG.out.2.2⟩


set_option maxHeartbeats 4000000 in
set_option maxRecDepth 100000 in
theorem isNode_any {B F : Nat} {pn pk pd : Int} {w : World} (hP : PlA B F pn pk pd w) (x : Int) :
    Calls Try.prog 64 #[.pointer (some ⟨B, 0, none⟩), .int .i64 x] w fun e w' => e = .returned (.bool (decide (0 ≤ x ∧ x < pn))) ∧ w' = w := by
  have c1 := hP.n
  by_cases h0 : 0 ≤ x
  · by_cases h1 : x < pn
    · go_enter Try.func64, Try.ntmps64
      go_wp2
      go_ret
      exact ⟨by simp [h0, h1], rfl⟩
    · go_enter Try.func64, Try.ntmps64
      go_wp2
      go_ret
      exact ⟨by simp [h1], rfl⟩
  · go_enter Try.func64, Try.ntmps64
    go_wp2
    go_ret
    exact ⟨by simp; omega, rfl⟩
end Go.Proofs.Ytbofcldmgjeklab

/- So many nodes, no two alike: checkNodes, NodesMay. -/
namespace Go.Proofs.Ytbofcldmgjeklab
open Go.RowKit Go.Sort

/-- The first fault of the first nodes. -/
def ndc (n : Int) (z : Nat → Int) : Nat → Int
  | 0 => 0
  | r + 1 => if ndc n z r ≠ 0 then ndc n z r else if ¬ (0 ≤ z r ∧ z r < n) then 10 else if z r ∈ zl r z then 7 else 0
def ndchk (m : Nat) (z : Nat → Int) (n many : Int) : Int := if ((m : Nat) : Int) ≠ many then 6 else ndc n z m
theorem ndc_bad {n : Int} {z : Nat → Int} {r : Nat} (h : ndc n z r ≠ 0) : ∀ m, r ≤ m → ndc n z m = ndc n z r
  | 0, hm => by rw [show r = 0 by omega]
  | m + 1, hm => by
    by_cases e : r = m + 1
    · rw [e]
    · have h1 := ndc_bad h m (by omega)
      show (if ndc n z m ≠ 0 then ndc n z m else _) = _
      rw [h1, if_pos h]

set_option maxHeartbeats 8000000 in
set_option maxRecDepth 100000 in
theorem checkNodes_any {B F : Nat} {pn pk pd : Int} {ao : Option Addr} {m ca : Nat} {z : Nat → Int} {w : World} (hP : PlA B F pn pk pd w) (hA : Arg ao m ca z w) (hm : m ≤ 1000) (many : Int) :
    Calls Try.prog 60 #[.pointer (some ⟨B, 0, none⟩), .slice ao m ca, .int .i64 many] w fun e w' => e = .returned (.int .i64 (ndchk m z pn many)) ∧ w' = w := by
  have HF : Hid (PlA B F pn pk pd w ∧ Arg ao m ca z w) := ⟨hP, hA⟩
  obtain ⟨E, hE⟩ : ∃ E, E = ndchk m z pn many := ⟨_, rfl⟩
  have HE : Hid (E = ndchk m z pn many) := hE
  rw [← hE]
  have hmc : m ≤ ca := hA.le
  clear hP hA hE
  go_enter Try.func60, Try.ntmps60
  by_cases hmm : ((m : Nat) : Int) = many
  · have hz : (((m : Nat) : Int) != many) = false := by rw [hmm]; simp
    have HM : Hid (ndchk m z pn many = ndc pn z m) := by show _ = _; unfold ndchk; rw [if_neg (by omega)]
    go_wp2
    go_loopw [7, 8, 15] (fun _ _ vi wr => ∃ r : Nat, r ≤ m ∧ vi = .int .i64 r ∧ Hid (ndc pn z r = 0) ∧ wr = w) (fun _ _ vi _ => m - (intOf vi).toNat)
    case atStart => exact ⟨0, by omega, rfl, rfl, rfl⟩
    case round =>
      obtain ⟨r, hr, rfl, HG, hw⟩ := hrel
      have hw := hw.symm
      subst hw
      by_cases hlt : r < m
      · have hib : (r : Int) < (m : Int) := by omega
        obtain ⟨b, off, hao, hcl⟩ := HF.out.2.sl r hlt
        subst hao
        obtain ⟨x, hx⟩ : ∃ x, x = z r := ⟨_, rfl⟩
        rw [← hx] at hcl
        have hrc : r ≤ ca := by omega
        obtain ⟨t, ht⟩ : ∃ t, t = decide (0 ≤ x ∧ x < pn) := ⟨_, rfl⟩
        obtain ⟨t2, ht2⟩ : ∃ t2, t2 = decide (x ∈ zl r z) := ⟨_, rfl⟩
        have HIs : Hid (Calls Try.prog 64 #[.pointer (some ⟨B, 0, none⟩), .int .i64 x] w fun e w' => e = .returned (.bool t) ∧ w' = w) := by rw [ht]; exact isNode_any HF.out.1 x
        have HCo : Hid (∀ cc, Calls Try.prog 65 #[.slice (some ⟨b, off, none⟩) r cc, .int .i64 x] w fun e w' => e = .returned (.bool t2) ∧ w' = w) := fun cc => by rw [ht2]; exact contains_any x (fun j hj => HF.out.2.sl j (by omega)) (by omega)
        have HS : Hid (ndc pn z (r + 1) = if ¬ (t = true) then 10 else if t2 = true then 7 else 0) := by
          show (if ndc pn z r ≠ 0 then ndc pn z r else if ¬ (0 ≤ z r ∧ z r < pn) then 10 else if z r ∈ zl r z then 7 else 0) = _
          rw [if_neg (by rw [HG.out]; omega), ht, ht2, ← hx]
          simp only [decide_eq_true_eq]
        clear ht ht2 hx
        go_wp2_with fail
        refine HIs.out.mono ?_
        rintro e w' ⟨rfl, hw⟩
        have hw := hw.symm
        subst hw
        cases t with
        | false =>
          go_wp2
          go_ret
          exact ⟨by rw [HE.out, HM.out, ndc_bad (r := r + 1) (by rw [HS.out, if_pos (by simp)]; decide) m (by omega), HS.out, if_pos (by simp)]; rfl, rfl⟩
        | true =>
          go_wp2_with fail
          refine (HCo.out _).mono ?_
          rintro e w' ⟨rfl, hw⟩
          have hw := hw.symm
          subst hw
          cases t2 with
          | true =>
            go_wp2
            go_ret
            exact ⟨by rw [HE.out, HM.out, ndc_bad (r := r + 1) (by rw [HS.out, if_neg (by simp), if_pos (by trivial)]; decide) m (by omega), HS.out, if_neg (by simp), if_pos (by trivial)]; rfl, rfl⟩
          | false =>
            have HV : Hid (ndc pn z (r + 1) = 0) := by
              have h := HS.out
              simp at h
              exact h
            go_wp2
            go_roundw
            case rel => exact ⟨r + 1, by omega, by go_num, HV, by first | rfl | trivial⟩
            case measure => simp [intOf]; omega
      · have hib : ¬ (r : Int) < (m : Int) := by omega
        have hre : m = r := by omega
        subst hre
        go_wp2
        go_ret
        exact ⟨by rw [HE.out, HM.out, HG.out]; rfl, rfl⟩
  · have hz : (((m : Nat) : Int) != many) = true := by rw [bne_iff_ne]; exact hmm
    have HM : Hid (ndchk m z pn many = 6) := by show _ = _; unfold ndchk; rw [if_pos hmm]
    go_wp2
    go_ret
    exact ⟨by rw [HE.out, HM.out]; rfl, rfl⟩
end Go.Proofs.Ytbofcldmgjeklab
