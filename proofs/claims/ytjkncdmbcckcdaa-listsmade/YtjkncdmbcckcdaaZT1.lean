/- Texts of ours, one behind the other: T1 W9. -/
import Derived.Test.YtjkncdmbcckcdaaZS1
import Derived.Test.YtjkncdmbcckcdaaZL10
/- The reference's matrices: a row less another (less). -/
namespace Go.Proofs.Ytjkncdmbcckcdaa
open Go.RowKit Go.Sort

/-- Numbers that are elements, in a list of the call's own. -/
theorem elm_of_own {base n : Nat} {v : Value} {c : Nat → Nat} {w : World} (h : OwnI base v (zl (n + 1) fun j => ((c j : Nat) : Int)) w) : Elm v (n, c) w ∧ ∀ k, v.ownBlock = some k → base ≤ k := by
  have h2 := h.ownC c (fun k hk => by rw [zl_len] at hk; exact zl_getD _ _ k hk)
  rw [zl_len] at h2
  exact ⟨h2.elm, h2.block⟩

set_option maxHeartbeats 8000000 in
set_option maxRecDepth 100000 in
theorem rless_any {D : FD} (hD : D ∈ fieldsL) (gen gm cm : Nat) {vr vo : Value} {n c : Nat} {r o : Nat → Nat} {w : World} (hn : n ≤ 1000) (hr : El D r) (ho : El D o) (hc : c < D.q) (hvr : Elm vr (n, r) w) (hvo : Elm vo (n, o) w) (hM : ModAt D (.slice (some ⟨gm, 0, none⟩) (D.m + 1) cm) D.md w) :
    Calls Try.prog 123 #[.agg #[.int .i64 D.q, .int .i64 D.p, .int .i64 D.m, .int .i64 gen, .slice (some ⟨gm, 0, none⟩) (D.m + 1) cm], vr, vo, .int .i64 c] w fun e w' => ∃ v, e = .returned v ∧ Elm v (n, plss D r o c) w' ∧ (∀ k, v.ownBlock = some k → w.heap.size ≤ k) ∧ Below w.heap.size w w' := by
  obtain ⟨gr, cr, rfl, _, _, hrr⟩ := hvr
  obtain ⟨go, co, rfl, _, _, hro⟩ := hvo
  have hbl : Below w.heap.size w (w.alloc (.cells #[.int .i64 D.q, .int .i64 D.p, .int .i64 D.m, .int .i64 gen, .slice (some ⟨gm, 0, none⟩) (D.m + 1) cm] 27)) := (Below.refl _ _).alloc (Nat.le_refl _) _
  have HF : Hid (D ∈ fieldsL ∧ El D r ∧ El D o ∧ Row gr (n + 1) r w ∧ Row go (n + 1) o w ∧ ModAt D (.slice (some ⟨gm, 0, none⟩) (D.m + 1) cm) D.md w) := ⟨hD, hr, ho, hrr, hro, hM⟩
  have HB0 : Hid (Box w.heap.size D gen (.slice (some ⟨gm, 0, none⟩) (D.m + 1) cm) (w.alloc (.cells #[.int .i64 D.q, .int .i64 D.p, .int .i64 D.m, .int .i64 gen, .slice (some ⟨gm, 0, none⟩) (D.m + 1) cm] 27)) ∧ Below w.heap.size w (w.alloc (.cells #[.int .i64 D.q, .int .i64 D.p, .int .i64 D.m, .int .i64 gen, .slice (some ⟨gm, 0, none⟩) (D.m + 1) cm] 27))) := ⟨box_new D gen _ w, hbl⟩
  clear hD hr ho hrr hro hM hbl
  go_enter Try.func123, Try.ntmps123
  go_wp2
  go_loopw [9, 10] (fun vl i wr => ∃ j : Nat, j ≤ n + 1 ∧ i = .int .i64 j ∧ Hid (OwnI (w.heap.size + 1) vl (zl j fun k => ((plss D r o c k : Nat) : Int)) wr ∧ Below w.heap.size w wr ∧ Box w.heap.size D gen (.slice (some ⟨gm, 0, none⟩) (D.m + 1) cm) wr) ∧ w.heap.size < wr.heap.size) (fun _ i _ => n + 1 - (intOf i).toNat)
  case atStart => exact ⟨0, by omega, rfl, ⟨OwnI.nil _ _, HB0.out.2, HB0.out.1⟩, by simp⟩
  case round =>
    clear HB0
    obtain ⟨j, hj, rfl, HG, hsz⟩ := hrel
    by_cases hlt : j < n + 1
    · have hib : (j : Int) < (n : Int) + 1 := by omega
      have hib0 : (0 : Int) ≤ (j : Int) := by omega
      obtain ⟨x, hx⟩ : ∃ x, x = r j := ⟨_, rfl⟩
      obtain ⟨y, hy⟩ : ∃ y, y = o j := ⟨_, rfl⟩
      obtain ⟨u, hu⟩ : ∃ u, u = plss D r o c j := ⟨_, rfl⟩
      have hc1 : wr.cell? ⟨gr, j, none⟩ = some (.int .i64 (x : Nat)) := by rw [hx]; exact (HF.out.2.2.2.1.below HG.out.2.1 HF.out.2.2.2.1.lt).cell j hlt
      have hc2 : wr.cell? ⟨go, j, none⟩ = some (.int .i64 (y : Nat)) := by rw [hy]; exact (HF.out.2.2.2.2.1.below HG.out.2.1 HF.out.2.2.2.2.1.lt).cell j hlt
      have HX : Hid (x = r j ∧ y = o j ∧ u = plss D r o c j) := ⟨hx, hy, hu⟩
      clear hx hy hu
      obtain ⟨bz, hbz⟩ : ∃ bz, bz = decide (¬ (c = 0 ∨ y = 0)) := ⟨_, rfl⟩
      have HBZ : Hid (bz = decide (¬ (c = 0 ∨ y = 0))) := hbz
      clear hbz
      go_upto_region 6 with fail
      go_cut [30] (fun vb wx => vb = .bool bz ∧ wx = wr)
      case first =>
        by_cases hz2 : c = 0
        · have hb1 : ((c : Int) != 0) = false := by rw [hz2]; rfl
          have hbz : bz = false := by rw [HBZ.out, decide_eq_false]; intro h; exact h (Or.inl hz2)
          clear hz2
          go_wp2
          go_meet
          case rel => exact ⟨by rw [hbz], rfl⟩
        · have hb1 : ((c : Int) != 0) = true := by rw [bne_iff_ne]; omega
          by_cases hz : y = 0
          · have hb2 : ((y : Int) != 0) = false := by rw [hz]; rfl
            have hbz : bz = false := by rw [HBZ.out, decide_eq_false]; intro h; exact h (Or.inr hz)
            clear hz2 hz
            go_wp2
            go_meet
            case rel => exact ⟨by rw [hbz], rfl⟩
          · have hb2 : ((y : Int) != 0) = true := by rw [bne_iff_ne]; omega
            have hbz : bz = true := by rw [HBZ.out, decide_eq_true]; omega
            clear hz2 hz
            go_wp2
            go_meet
            case rel => exact ⟨by rw [hbz], rfl⟩
      case rest =>
      obtain ⟨hv30, hwx⟩ := hcut
      have hwx := hwx.symm
      subst hv30 hwx
      go_upto_if 30 with fail
      go_cut [11] (fun vx wx => vx = .int .i64 (u : Nat) ∧ Hid (Below wr.heap.size wr wx))
      case first =>
        cases bz with
        | false =>
          have HU : Hid ((x : Int) = (u : Int)) := by
            show _ = _
            have hz : c = 0 ∨ y = 0 := by
              have h := HBZ.out
              exact Classical.byContradiction fun hn => by rw [decide_eq_true hn] at h; cases h
            have h := plss_zero (fld HF.out.1) o HF.out.2.1 (c := c) (k := j) (by rcases hz with h | h; exact Or.inl h; exact Or.inr (by rw [← HX.out.2.1]; exact h))
            rw [← HX.out.2.2, ← HX.out.1] at h
            omega
          go_wp2
          go_meet
          case rel => exact ⟨by rw [HU.out], Below.refl _ _⟩
        | true =>
          obtain ⟨m, hm⟩ : ∃ m, m = D.mul c y := ⟨_, rfl⟩
          have hxq : x < D.q := by rw [HX.out.1]; exact HF.out.2.1 j
          have hyq : y < D.q := by rw [HX.out.2.1]; exact HF.out.2.2.1 j
          have hmq : m < D.q := by rw [hm]; exact (fld HF.out.1).mul_lt _ _
          have k0 := cell_regrown HG.out.2.2.c0
          have k1 := cell_regrown HG.out.2.2.c1
          have k2 := cell_regrown HG.out.2.2.c2
          have k3 := cell_regrown HG.out.2.2.c3
          have k4 := cell_regrown HG.out.2.2.c4
          have k5 := cell_regrown hc2
          have HC1 : Hid (∀ d os, Calls Try.prog 55 #[.agg #[.int .i64 D.q, .int .i64 D.p, .int .i64 D.m, .int .i64 gen, .slice (some ⟨gm, 0, none⟩) (D.m + 1) cm], .int .i64 (c : Nat), .int .i64 (y : Nat)] (grow (redrawn wr d) os) fun e w'' => e = .returned (.int .i64 (m : Nat)) ∧ ∃ p : Regrown, w'' = grow (redrawn wr p.d) p.os) := fun d os => by
            rw [hm]
            exact Calls.regrown_of (rmul_nat HF.out.1 gen HF.out.2.2.2.2.2 c y hc hyq _ (bel_up' HG.out.2.1 (below_regrown wr d os)))
          have HC2 : Hid (∀ d os, Calls Try.prog 110 #[.agg #[.int .i64 D.q, .int .i64 D.p, .int .i64 D.m, .int .i64 gen, .slice (some ⟨gm, 0, none⟩) (D.m + 1) cm], .int .i64 (x : Nat), .int .i64 (m : Nat)] (grow (redrawn wr d) os) fun e w'' => e = .returned (.int .i64 (u : Nat)) ∧ ∃ p : Regrown, w'' = grow (redrawn wr p.d) p.os) := fun d os => by
            have h := rsub_any HF.out.1 gen (.slice (some ⟨gm, 0, none⟩) (D.m + 1) cm) (x : Nat) (m : Nat) (grow (redrawn wr d) os)
            rw [subZ_nat (fld HF.out.1) hxq hmq, show D.sb x m = u from by rw [HX.out.2.2, HX.out.1, hm, HX.out.2.1]; rfl] at h
            exact Calls.regrown_of h
          clear hm hc1 hc2
          go_wp2
          refine wp_region_quiet_below (by kernel_rfl) (by kernel_rfl) ?_
          repeat (go_big_quiet_step (first | (go_at_call 55; exact HC1.out _ _) | (go_at_call 110; exact HC2.out _ _)))
          refine wpQuiet_nil ?_
          intro _ hw'
          obtain ⟨⟨dq, osq⟩, hw''⟩ := hw'
          subst hw''
          have HBQ : Hid (Below wr.heap.size wr (grow (redrawn wr dq) osq)) := below_regrown wr dq osq
          clear k0 k1 k2 k3 k4 k5 HC1 HC2
          go_wp2
          go_meet
          case rel => exact ⟨rfl, HBQ.out⟩
      case rest =>
        obtain ⟨hv11, HBX⟩ := hcut
        subst hv11
        clear hc1 hc2
        have hsx := HBX.out.size
        have HGX : Hid (OwnI (w.heap.size + 1) u9 (zl j fun k => ((plss D r o c k : Nat) : Int)) wc ∧ Below w.heap.size w wc ∧ Box w.heap.size D gen (.slice (some ⟨gm, 0, none⟩) (D.m + 1) cm) wc) := ⟨HG.out.1.below HBX.out (fun k hk => (HG.out.1.lt k hk).2), bel_up' HG.out.2.1 HBX.out, HG.out.2.2.below HBX.out hsz⟩
        go_wp2_with (at_builtin; refine append_int rfl _ _ rfl (w.heap.size + 1) _ (zl j fun k => ((plss D r o c k : Nat) : Int)) rfl (HGX.out.1.alloc _) ⟨_, 0, none⟩ 1 u rfl (by simp) (by rw [zl_len]; omega) (by simp; omega) ?_; intro v2 w4 hown4 hg4)
        have hal : Below wc.heap.size wc (wc.alloc (.cells #[.int .i64 (u : Int)] 3)) := (Below.refl _ _).alloc (Nat.le_refl _) _
        have hs4 := hg4.size
        have HR : Hid (OwnI (w.heap.size + 1) v2 (zl (j + 1) fun k => ((plss D r o c k : Nat) : Int)) w4 ∧ Below w.heap.size w w4 ∧ Box w.heap.size D gen (.slice (some ⟨gm, 0, none⟩) (D.m + 1) cm) w4) := by
          refine ⟨by rw [zl_succ, ← HX.out.2.2]; exact hown4, (bel_up' HGX.out.2.1 hal).grown hg4 (by simp; omega) (fun k hk => by have := (HGX.out.1.lt k hk).1; omega), ?_⟩
          refine (HGX.out.2.2.below hal (by omega)).other (hg4.block w.heap.size (by simp; omega) fun e => ?_)
          have := (HGX.out.1.lt _ e.symm).1
          omega
        simp at hs4
        clear hown4 hg4 hal
        go_roundw
        case rel => exact ⟨j + 1, by omega, by go_num, HR.out, by omega⟩
        case measure => simp [intOf]; omega
    · have hib : ¬ (j : Int) < (n : Int) + 1 := by omega
      have hje : j = n + 1 := by omega
      subst hje
      go_wp2
      go_ret
      have h := elm_of_own HG.out.1
      exact ⟨_, rfl, h.1, fun k hk => by have := h.2 k hk; omega, HG.out.2.1⟩
end Go.Proofs.Ytjkncdmbcckcdaa

/- Lists of lists of the call's own: others' lists laid behind them (append(v, l...)), also at a step of a region that draws its order. -/
namespace Go.Proofs.Ytjkncdmbcckcdaa
open Go.RowKit

/-- The first n cells of the slice that begins at ao are vs. -/
def SlV (ao : Option Addr) (n : Nat) (vs : Nat → Value) (w : World) : Prop := ∀ j, j < n → ∃ b off, ao = some ⟨b, off, none⟩ ∧ w.cell? ⟨b, off + j, none⟩ = some (vs j)
/-- The first n of vs, as a list. -/
def vl (n : Nat) (vs : Nat → Value) : List Value := (List.range n).map vs
theorem vl_len (n : Nat) (vs : Nat → Value) : (vl n vs).length = n := by simp [vl]
theorem vl_get (n : Nat) (vs : Nat → Value) (j : Nat) (hj : j < n) : (vl n vs)[j]? = some (vs j) := by
  unfold vl
  rw [List.getElem?_map, List.getElem?_range hj]; rfl

theorem own_emptyV {base g : Nat} {w : World} (h : w.heap[g]? = some (.cells #[] 22 (0, 0))) (hb : base ≤ g) : OwnV base (.slice (some ⟨g, 0, none⟩) 0 0) [] w :=
  ⟨rfl, Or.inr ⟨g, 0, #[], rfl, hb, h, Nat.le_refl _, by unfold maxLen; omega, rfl, rfl⟩⟩
theorem own_e1 (w : World) {base : Nat} (hb : base ≤ w.heap.size) : OwnV base (.slice (some ⟨w.heap.size, 0, none⟩) 0 0) [] (w.alloc (.cells #[] 22)) := own_emptyV (two_new _) hb
theorem own_e2 (w : World) (o : Obj) {base : Nat} (hb : base ≤ w.heap.size) : OwnV base (.slice (some ⟨w.heap.size, 0, none⟩) 0 0) [] ((w.alloc (.cells #[] 22)).alloc o) := World.ownsRow.alloc (own_e1 w hb) o
theorem own_e3 (w : World) (o : Obj) {base : Nat} (hb : base ≤ w.heap.size) : OwnV base (.slice (some ⟨w.heap.size + 1, 0, none⟩) 0 0) [] ((w.alloc o).alloc (.cells #[] 22)) := by
  have h := own_e1 (w.alloc o) (base := base) (by simp; omega)
  simp at h
  exact h
theorem own_i1 (w : World) {base : Nat} (hb : base ≤ w.heap.size) : OwnI base (.slice (some ⟨w.heap.size, 0, none⟩) 0 0) [] (w.alloc (.cells #[] 3)) := own_empty (two_new _) hb
theorem own_i2 (w : World) (o : Obj) {base : Nat} (hb : base ≤ w.heap.size) : OwnI base (.slice (some ⟨w.heap.size, 0, none⟩) 0 0) [] ((w.alloc (.cells #[] 3)).alloc o) := World.ownsRow.alloc (own_i1 w hb) o
theorem own_i3 (w : World) (o : Obj) {base : Nat} (hb : base ≤ w.heap.size) : OwnI base (.slice (some ⟨w.heap.size + 1, 0, none⟩) 0 0) [] ((w.alloc o).alloc (.cells #[] 3)) := by
  have h := own_i1 (w.alloc o) (base := base) (by simp; omega)
  simp at h
  exact h
theorem OwnV.grown {base : Nat} {v : Value} {l : List Value} {w w' : World} {row : Option Nat} (h : OwnV base v l w) (hg : w.grownBy w' row) (hne : v.ownBlock = none ∨ v.ownBlock ≠ row) : OwnV base v l w' := World.ownsRow.kept h hg hne
theorem OwnV.alloc {base : Nat} {v : Value} {l : List Value} {w : World} (h : OwnV base v l w) (o : Obj) : OwnV base v l (w.alloc o) := World.ownsRow.alloc h o

theorem SlV.below {ao : Option Addr} {n : Nat} {vs : Nat → Value} {w w' : World} (h : SlV ao n vs w) (hb : Below w.heap.size w w') : SlV ao n vs w' := fun j hj => by
  obtain ⟨b, off, e, hc⟩ := h j hj
  have hlt : b < w.heap.size := by
    rcases Nat.lt_or_ge b w.heap.size with e | e
    · exact e
    · exfalso
      have h1 : w.heap[b]? = none := Array.getElem?_eq_none e
      simp [World.cell?, h1] at hc
  exact ⟨b, off, e, ((bcell hb).1 b (off + j) hlt).trans hc⟩
theorem SlV.less {ao : Option Addr} {n m : Nat} {vs : Nat → Value} {w : World} (h : SlV ao n vs w) (hm : m ≤ n) : SlV ao m vs w := fun j hj => h j (by omega)
theorem SlV.shift {g n q : Nat} {vs : Nat → Value} {w : World} (h : SlV (some ⟨g, 0, none⟩) n vs w) (hq : q ≤ n) : SlV (some ⟨g, q, none⟩) (n - q) (fun j => vs (q + j)) w := fun j hj => by
  obtain ⟨b, off, e, hc⟩ := h (q + j) (by omega)
  cases e
  exact ⟨g, q, rfl, by rw [Nat.zero_add] at hc; exact hc⟩
theorem SlV.one {g : Nat} {v : Value} {w : World} (h : w.cell? ⟨g, 0, none⟩ = some v) : SlV (some ⟨g, 0, none⟩) 1 (fun _ => v) w := fun j hj => ⟨g, 0, rfl, by rw [show 0 + j = 0 from by omega]; exact h⟩
theorem SlZ.one {g : Nat} {x : Int} {w : World} (h : w.cell? ⟨g, 0, none⟩ = some (.int .i64 x)) : SlZ (some ⟨g, 0, none⟩) 1 (fun _ => x) w := fun j hj => ⟨g, 0, rfl, by rw [show 0 + j = 0 from by omega]; exact h⟩
theorem SlZ.shift {g o n q : Nat} {z : Nat → Int} {w : World} (h : SlZ (some ⟨g, o, none⟩) n z w) (hq : q ≤ n) : SlZ (some ⟨g, o + q, none⟩) (n - q) (fun j => z (q + j)) w := fun j hj => by
  obtain ⟨b, off, e, hc⟩ := h (q + j) (by omega)
  cases e
  exact ⟨g, o + q, rfl, by rw [Nat.add_assoc]; exact hc⟩
theorem SlZ.less {ao : Option Addr} {n m : Nat} {z : Nat → Int} {w : World} (h : SlZ ao n z w) (hm : m ≤ n) : SlZ ao m z w := fun j hj => h j (by omega)

theorem slz_below {ao : Option Addr} {n : Nat} {z : Nat → Int} {w w' : World} (h : SlZ ao n z w) (hb : Below w.heap.size w w') : SlZ ao n z w' := fun j hj => by
  obtain ⟨b, off, e, hc⟩ := h j hj
  have hlt : b < w.heap.size := by
    rcases Nat.lt_or_ge b w.heap.size with e | e
    · exact e
    · exfalso
      have h1 : w.heap[b]? = none := Array.getElem?_eq_none e
      simp [World.cell?, h1] at hc
  exact ⟨b, off, e, ((bcell hb).1 b (off + j) hlt).trans hc⟩
theorem slz_shift0 {g n q : Nat} {z : Nat → Int} {w : World} (h : SlZ (some ⟨g, 0, none⟩) n z w) (hq : q ≤ n) : SlZ (some ⟨g, q, none⟩) (n - q) (fun j => z (q + j)) w := fun j hj => by
  obtain ⟨b, off, e, hc⟩ := h (q + j) (by omega)
  cases e
  exact ⟨g, q, rfl, by rw [Nat.zero_add] at hc; exact hc⟩
theorem step_append_sls {ops : Array Oper} {o : Oper} {a : Act} {w : World} {K : Act → World → Prop} {Q : Exit → Act → World → Prop} {E : Prop} (hgd : o.guard = none) (s x : Operand)
    (ho : o.op = .call { callee := .builtin .append, args := #[s, x], argTypes := #[30, 30] })
    (base : Nat) (v : Value) (l : List Value) (hs : a.eval s = v) (hown : OwnV base v l w) (ao : Option Addr) (n sc : Nat) (vs : Nat → Value) (hx : a.eval x = .slice ao n sc) (hS : SlV ao n vs w) (hone : ∀ j, j < n → (vs j).oneCell' = true) (hnil : ao = none → sc = 0)
    (hlen : l.length + n ≤ 1000000) (hbase : base ≤ w.heap.size) (w0 : World) (hb0 : Below w0.heap.size w0 w) (hge : w0.heap.size ≤ base)
    (h : ∀ v' w', OwnV base v' (l ++ vl n vs) w' → w.grownBy w' v.ownBlock → Below w0.heap.size w0 w' → K (a.put o.dst v') w') : if Region.wanted o (yielded ops a.tmps) = true then Oper.wp Try.prog o a w K Q else E := by
  have hw : Region.wanted o (yielded ops a.tmps) = true := by simp [Region.wanted, hgd]
  rw [if_pos hw]
  obtain ⟨i0, hi, hz0, hz1, hz2⟩ := info_parts Try.infoSl
  cases ao with
  | none =>
    have h0 : n = 0 := by
      rcases Nat.eq_zero_or_pos n with e | e
      · exact e
      · obtain ⟨b, off, h1, _⟩ := hS 0 e
        cases h1
    subst h0
    rw [hnil rfl] at hx
    have hrun := run_append_owned_none (P := Try.prog) (w := w) base 30 o.type 22 i0 1 Try.underlying30 hi v l.length l hown
    unfold Oper.wp
    simp [execOp, ho, resolve, invoke, builtin, hs, hx, hrun, Result.andThen]
    refine h v w ?_ (grown_refl _ _) hb0
    have e : l ++ vl 0 vs = l := by simp [vl]
    rw [e]; exact hown
  | some ad =>
    refine wp_append_own w s x 30 ho base 22 i0 (.slice none 0 0) 1 24 Try.underlying30 hi hz0 hz1 hz2 rfl (by decide) v l.length _ hs hown ad n sc (vl n vs) hx (by rw [vl_len]; omega) ?_ ?_ ?_ ?_ hbase ?_
    · intro j u hj
      have hj' : j < n := by
        have := (List.getElem?_eq_some_iff.1 hj).1
        rwa [vl_len] at this
      rw [vl_get n vs j hj'] at hj
      cases hj
      obtain ⟨b, off, e, hc⟩ := hS j hj'
      cases e
      rw [add_off]; exact hc
    · intro u hu
      obtain ⟨k, hk, rfl⟩ := List.mem_map.1 hu
      exact hone k (List.mem_range.1 hk)
    · unfold maxLen; omega
    · omega
    · intro v' w' hown' hgrow _
      refine h v' w' ?_ hgrow (hb0.grown hgrow hb0.size (fun k hk => Nat.le_trans hge (World.ownsRow.lt hown k hk).1))
      unfold OwnV
      rw [List.length_append, vl_len]
      exact hown'
theorem step_append_ints {ops : Array Oper} {o : Oper} {a : Act} {w : World} {K : Act → World → Prop} {Q : Exit → Act → World → Prop} {E : Prop} (hgd : o.guard = none) (s x : Operand)
    (ho : o.op = .call { callee := .builtin .append, args := #[s, x], argTypes := #[22, 22] })
    (base : Nat) (v : Value) (l : List Int) (hs : a.eval s = v) (hown : OwnI base v l w) (ao : Option Addr) (n sc : Nat) (z : Nat → Int) (hx : a.eval x = .slice ao n sc) (hS : SlZ ao n z w) (hnil : ao = none → sc = 0)
    (hlen : l.length + n ≤ 1000000) (hbase : base ≤ w.heap.size) (w0 : World) (hb0 : Below w0.heap.size w0 w) (hge : w0.heap.size ≤ base)
    (h : ∀ v' w', OwnI base v' (l ++ zl n z) w' → w.grownBy w' v.ownBlock → Below w0.heap.size w0 w' → K (a.put o.dst v') w') : if Region.wanted o (yielded ops a.tmps) = true then Oper.wp Try.prog o a w K Q else E := by
  have hw : Region.wanted o (yielded ops a.tmps) = true := by simp [Region.wanted, hgd]
  rw [if_pos hw]
  obtain ⟨i0, hi, hz0, hz1, hz2⟩ := info_parts Try.infoInt
  cases ao with
  | none =>
    have h0 : n = 0 := by
      rcases Nat.eq_zero_or_pos n with e | e
      · exact e
      · obtain ⟨b, off, h1, _⟩ := hS 0 e
        cases h1
    subst h0
    rw [hnil rfl] at hx
    have hrun := run_append_owned_none (P := Try.prog) (w := w) base 22 o.type 3 i0 1 Try.underlying22 hi v l.length _ hown
    unfold Oper.wp
    simp [execOp, ho, resolve, invoke, builtin, hs, hx, hrun, Result.andThen]
    refine h v w ?_ (grown_refl _ _) hb0
    have e : l ++ zl 0 z = l := by simp [zl]
    rw [e]; exact hown
  | some ad =>
    refine wp_append_own w s x 22 ho base 3 i0 (.int .i64 0) 1 8 Try.underlying22 hi hz0 hz1 hz2 rfl (by decide) v l.length _ hs hown ad n sc ((zl n z).map (Value.int .i64)) hx (by rw [List.length_map, zl_len]; omega) ?_ ?_ ?_ ?_ hbase ?_
    · intro j u hj
      have hj' : j < n := by
        have := (List.getElem?_eq_some_iff.1 hj).1
        rwa [List.length_map, zl_len] at this
      rw [List.getElem?_map, zl_get n z j hj'] at hj
      cases hj
      obtain ⟨b, off, e, hc⟩ := hS j hj'
      cases e
      rw [add_off]; exact hc
    · intro u hu
      obtain ⟨k, _, rfl⟩ := List.mem_map.1 hu
      rfl
    · unfold maxLen; omega
    · omega
    · intro v' w' hown' hgrow _
      refine h v' w' ?_ hgrow (hb0.grown hgrow hb0.size (fun k hk => Nat.le_trans hge (World.ownsRow.lt hown k hk).1))
      unfold OwnI
      rw [List.map_append, List.length_append, zl_len]
      exact hown'
end Go.Proofs.Ytjkncdmbcckcdaa
