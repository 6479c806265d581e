/- Texts of ours, one behind the other: Y4 W10 Y5 S10 S11. -/
import Derived.Test.YtpccbiinfdppnadZY2
import Derived.Maps.AppendAt
import Derived.Deep.AppendLies
import Derived.Test.YtpccbiinfdppnadZT1
import Derived.Test.YtpccbiinfdppnadZH3
import Derived.Test.YtpccbiinfdppnadZS5
import Derived.Test.YtpccbiinfdppnadZN3
/- The reference's Rules: does the rule hold? -/
namespace Go.Proofs.Ytpccbiinfdppnad
open Go.RowKit Go.Sort

set_option maxHeartbeats 8000000 in
set_option maxRecDepth 100000 in
theorem rrules_any {D : FD} (hD : D ∈ fieldsL) (gen gm cm : Nat) {so ro : Option Addr} {n sc lr rc L : Nat} {s C : Nat → Nat} {w : World} (hn : n ≤ 128) (hS : Sl so n s w) (hlS : LtB so w.heap.size) (hR : Sl ro lr C w) (hlR : LtB ro w.heap.size) (hs : El D s) (hC : El D C)
    (h1 : 1 ≤ lr) (hone : C 0 = 1) (hlr : lr ≤ L + 1) (hL : L ≤ n) (hlast : C (lr - 1) ≠ 0) (hgen : ∀ t, L ≤ t → t < n → pmul D lr C s t = 0) (hM : ModAt D (.slice (some ⟨gm, 0, none⟩) (D.m + 1) cm) D.md w) :
    Calls Try.prog 12 #[.agg #[.int .i64 D.q, .int .i64 D.p, .int .i64 D.m, .int .i64 gen, .slice (some ⟨gm, 0, none⟩) (D.m + 1) cm], .slice so n sc, .slice ro lr rc, .int .i64 (L : Nat)] w fun e w' => e = .returned (.bool true) ∧ Below w.heap.size w w' := by
  obtain ⟨l1, hl1⟩ : ∃ l1, lr = l1 + 1 := ⟨lr - 1, by omega⟩
  subst hl1
  obtain ⟨wa, hwa⟩ : ∃ wa, wa = w.alloc (.cells #[.int .i64 D.q, .int .i64 D.p, .int .i64 D.m, .int .i64 gen, .slice (some ⟨gm, 0, none⟩) (D.m + 1) cm] 28) := ⟨_, rfl⟩
  have hba : Below w.heap.size w wa := by rw [hwa]; exact (Below.refl _ _).alloc (Nat.le_refl _) _
  have HF : Hid (D ∈ fieldsL ∧ Sl so n s wa ∧ LtB so wa.heap.size ∧ Sl ro (l1 + 1) C wa ∧ LtB ro wa.heap.size ∧ El D s ∧ El D C ∧ (∀ t, L ≤ t → t < n → pmul D (l1 + 1) C s t = 0) ∧ ModAt D (.slice (some ⟨gm, 0, none⟩) (D.m + 1) cm) D.md wa ∧ Below w.heap.size w wa) := ⟨hD, hS.below hba hlS, hlS.mono hba.size, hR.below hba hlR, hlR.mono hba.size, hs, hC, hgen, hM.below hba, hba⟩
  have HX : Hid (Box w.heap.size D gen (.slice (some ⟨gm, 0, none⟩) (D.m + 1) cm) wa ∧ wa.heap.size = w.heap.size + 1) := ⟨by rw [hwa]; exact box_new D gen _ w, by rw [hwa]; simp⟩
  obtain ⟨bC, oC, rfl, hc0⟩ := HF.out.2.2.2.1 0 (by omega)
  obtain ⟨_, _, e2, hcl⟩ := HF.out.2.2.2.1 l1 (by omega)
  cases e2
  rw [hone] at hc0
  rw [show oC + 0 = oC from rfl] at hc0
  obtain ⟨x, hx⟩ : ∃ x, x = C l1 := ⟨_, rfl⟩
  rw [← hx] at hcl
  have hx0 : (((x : Nat) : Int) == 0) = false := by rw [beq_eq_false_iff_ne]; rw [hx]; have h : C l1 ≠ 0 := hlast; omega
  have hw1 : IntKind.i64.wrap ((L : Int) + 1) = ((L + 1 : Nat) : Int) := wrap_to (by omega) (by omega)
  have hw2 : IntKind.i64.wrap (((l1 + 1 : Nat) : Int) - 1) = (l1 : Int) := wrap_to (by omega) (by omega)
  have hw3 : ¬ ((L : Int) + 1 < ((l1 + 1 : Nat) : Int)) := by omega
  have hw4 : (((l1 + 1 : Nat) : Int) == 0) = false := by rw [beq_eq_false_iff_ne]; omega
  have hw5 : (0 : Int) < ((l1 + 1 : Nat) : Int) := by omega
  have hw6 : (l1 : Int) < ((l1 + 1 : Nat) : Int) := by omega
  have hw7 : ¬ (((L + 1 : Nat) : Int) < ((l1 + 1 : Nat) : Int)) := by omega
  obtain ⟨lr, hlr'⟩ : ∃ lr, lr = l1 + 1 := ⟨_, rfl⟩
  have HL : Hid (lr = l1 + 1) := hlr'
  rw [← hlr'] at hw2 hw3 hw4 hw5 hw6 hw7 ⊢
  clear hD hS hlS hR hlR hs hC hgen hM hba hlast hx hone hlr' h1
  subst hwa
  go_enter Try.func12, Try.ntmps12
  go_wp2_with fail
  obtain ⟨wa, hwa⟩ : ∃ wa, wa = w.alloc (.cells #[.int .i64 D.q, .int .i64 D.p, .int .i64 D.m, .int .i64 gen, .slice (some ⟨gm, 0, none⟩) (D.m + 1) cm] 28) := ⟨_, rfl⟩
  rw [← hwa] at HF HX
  rw [← hwa]
  clear hwa hc0 hcl
  go_loopw [9] (fun vi wr => ∃ i : Nat, L ≤ i ∧ i ≤ n ∧ vi = .int .i64 i ∧ Hid (Below wa.heap.size wa wr)) (fun vi _ => n - (intOf vi).toNat)
  case atStart => exact ⟨L, Nat.le_refl _, hL, rfl, Below.refl _ _⟩
  case round =>
    obtain ⟨i, hLi, hi, rfl, HB⟩ := hrel
    rename World => w1
    by_cases hlt : i < n
    · have hib : (i : Int) < (n : Int) := by omega
      go_wp2_with fail
      go_loopw [10, 11] (fun vd vk wr => ∃ (k d : Nat), k ≤ lr ∧ vd = .int .i64 (d : Nat) ∧ vk = .int .i64 k ∧ Hid (d = pmul D k C s i ∧ Below wa.heap.size wa wr)) (fun _ vk _ => lr - (intOf vk).toNat)
      case atStart => exact ⟨0, 0, by omega, rfl, rfl, rfl, HB.out⟩
      case round =>
        obtain ⟨k, d, hk, rfl, rfl, HG⟩ := hrel
        rename World => wr
        by_cases hkl : k < lr
        · have hkb : (k : Int) < (lr : Int) := by omega
          obtain ⟨ik, hik⟩ : ∃ ik, ik = i - k := ⟨_, rfl⟩
          have hl1 := HL.out
          obtain ⟨_, _, e3, hcC⟩ := (HF.out.2.2.2.1.below HG.out.2 HF.out.2.2.2.2.1) k (by omega)
          cases e3
          obtain ⟨bS, oS, rfl, hcS⟩ := (HF.out.2.1.below HG.out.2 HF.out.2.2.1) ik (by omega)
          have hw8 : IntKind.i64.wrap ((i : Int) - (k : Int)) = (ik : Int) := wrap_to (by omega) (by omega)
          have hw9 : (ik : Int) < (n : Int) := by omega
          obtain ⟨cx, hcx⟩ : ∃ cx, cx = C k := ⟨_, rfl⟩
          obtain ⟨sx, hsx⟩ : ∃ sx, sx = s ik := ⟨_, rfl⟩
          rw [← hcx] at hcC
          rw [← hsx] at hcS
          obtain ⟨y, hy⟩ : ∃ y, y = D.mul cx sx := ⟨_, rfl⟩
          obtain ⟨u, hu⟩ : ∃ u, u = D.ad d y := ⟨_, rfl⟩
          have F' := fld HF.out.1
          have hbx := HX.out.1.below (B := wa.heap.size) HG.out.2 (by have := HX.out.2; omega)
          have k0 := cell_regrown hbx.c0
          have k1 := cell_regrown hbx.c1
          have k2 := cell_regrown hbx.c2
          have k3 := cell_regrown hbx.c3
          have k4 := cell_regrown hbx.c4
          have k5 := cell_regrown hcC
          have k6 := cell_regrown hcS
          have HC1 : Hid (∀ d os, Calls Try.prog 37 #[.agg #[.int .i64 D.q, .int .i64 D.p, .int .i64 D.m, .int .i64 gen, .slice (some ⟨gm, 0, none⟩) (D.m + 1) cm], .int .i64 (cx : Nat), .int .i64 (sx : Nat)] (grow (redrawn wr d) os) fun e w'' => e = .returned (.int .i64 (y : Nat)) ∧ ∃ p : Regrown, w'' = grow (redrawn wr p.d) p.os) := by
            intro d os
            rw [hy]
            exact Calls.regrown_of (rmul_nat HF.out.1 gen HF.out.2.2.2.2.2.2.2.2.1 cx sx (by rw [hcx]; exact HF.out.2.2.2.2.2.2.1 k) (by rw [hsx]; exact HF.out.2.2.2.2.2.1 ik) _ (bel_up' HG.out.2 (below_regrown wr d os)))
          have HC2 : Hid (∀ d' os, Calls Try.prog 36 #[.agg #[.int .i64 D.q, .int .i64 D.p, .int .i64 D.m, .int .i64 gen, .slice (some ⟨gm, 0, none⟩) (D.m + 1) cm], .int .i64 (d : Nat), .int .i64 (y : Nat)] (grow (redrawn wr d') os) fun e w'' => e = .returned (.int .i64 (u : Nat)) ∧ ∃ p : Regrown, w'' = grow (redrawn wr p.d) p.os) := by
            intro d' os
            rw [hu]
            exact Calls.regrown_of (radd_nat HF.out.1 gen (.slice (some ⟨gm, 0, none⟩) (D.m + 1) cm) d y (by rw [HG.out.1]; exact el_mul F' _ _ _ _) (by rw [hy]; exact F'.mul_lt _ _) (grow (redrawn wr d') os))
          have HV : Hid (u = pmul D (k + 1) C s i) := by
            show u = D.ad (pmul D k C s i) (psh k (pscale D (C k) s) i)
            rw [hu, hy, HG.out.1, hcx, hsx, hik]
            unfold psh
            rw [if_pos (by omega)]; rfl
          have HB2 : Hid (Below wa.heap.size wa wr) := HG.out.2
          clear hik hl1 hcC hcS hcx hsx hy hu F' hbx HG
          go_wp2
          refine wp_region_quiet_below (by kernel_rfl) (by kernel_rfl) ?_
          repeat (go_big_quiet_step (first | (go_at_call 37; exact HC1.out _ _) | (go_at_call 36; exact HC2.out _ _)))
          refine wpQuiet_nil ?_
          intro _ hw'
          obtain ⟨⟨dr, osr⟩, hw''⟩ := hw'
          subst hw''
          go_wp2
          go_roundw
          case rel => exact ⟨k + 1, u, by omega, rfl, by go_num, HV.out, bel_up' HB2.out (below_regrown wr dr osr)⟩
          case measure => simp [intOf]; omega
        · have hkb : ¬ (k : Int) < (lr : Int) := by omega
          have hd0 : d = 0 := by rw [HG.out.1, show k = l1 + 1 from by have := HL.out; omega]; exact HF.out.2.2.2.2.2.2.2.1 i hLi hlt
          subst hd0
          go_wp2
          go_roundw
          case rel => exact ⟨i + 1, by omega, by omega, by go_num, HG.out.2⟩
          case measure => simp [intOf]; omega
    · have hib : ¬ (i : Int) < (n : Int) := by omega
      go_wp2
      go_ret
      exact ⟨rfl, bel_up' HF.out.2.2.2.2.2.2.2.2.2 HB.out⟩
end Go.Proofs.Ytpccbiinfdppnad

/- 'append' of one number, and where its list lies then. -/
namespace Go.Proofs.Ytpccbiinfdppnad
open Go.RowKit Go.Sort

theorem append_int_at {ops : Array Oper} {rest : List Oper} {o : Oper} {a : Act} {w : World} {Q : Exit → Act → World → Prop} (hgd : o.guard = none) (s x : Operand)
    (ho : o.op = .call { callee := .builtin .append, args := #[s, x], argTypes := #[22, 22] })
    (base : Nat) (v : Value) (l : List Int) (hs : a.eval s = v) (hown : OwnI base v l w) (ad : Addr) (c : Nat) (y : Int) (hx : a.eval x = .slice (some ad) 1 c) (hcell : w.cell? ad = some (.int .i64 y))
    (hlen : l.length ≤ 1000000) (hbase : base ≤ w.heap.size)
    (h : ∀ v' w', OwnI base v' (l ++ [y]) w' → w.grownBy w' v.ownBlock → (v'.ownBlock = v.ownBlock ∨ v'.ownBlock = some w.heap.size) → wpList Try.prog ops Q rest (a.put o.dst v') w') : wpList Try.prog ops Q (o :: rest) a w := by
  obtain ⟨i0, hi, hz0, hz1, hz2⟩ := info_parts Try.infoInt
  refine wpList_append_own_at _ hgd s x 22 ho base 3 i0 (.int .i64 0) 1 8 Try.underlying22 hi hz0 hz1 hz2 rfl (by decide) v l.length _ hs hown ad 1 c [.int .i64 y] hx rfl ?_ ?_ ?_ ?_ hbase ?_
  · intro j u hj
    match j, hj with
    | 0, hj =>
      simp at hj; subst hj
      have : ad.add 0 = ad := by cases ad with | mk b o s => cases s <;> simp [Addr.add]
      rw [this]; exact hcell
  · intro u hu; simp at hu; subst hu; rfl
  · unfold maxLen; omega
  · omega
  · intro v' w' hown' hgrow _ hat
    refine h v' w' ?_ hgrow hat
    unfold OwnI
    rw [List.map_append, List.length_append]
    exact hown'
/-- The same, at a step of a region that draws its order. -/
theorem step_append_int_at {ops : Array Oper} {o : Oper} {a : Act} {w : World} {K : Act → World → Prop} {Q : Exit → Act → World → Prop} {E : Prop} (hgd : o.guard = none) (s x : Operand)
    (ho : o.op = .call { callee := .builtin .append, args := #[s, x], argTypes := #[22, 22] })
    (base : Nat) (v : Value) (l : List Int) (hs : a.eval s = v) (hown : OwnI base v l w) (ad : Addr) (c : Nat) (y : Int) (hx : a.eval x = .slice (some ad) 1 c) (hcell : w.cell? ad = some (.int .i64 y))
    (hlen : l.length ≤ 1000000) (hbase : base ≤ w.heap.size)
    (h : ∀ g cap w', OwnI base (.slice (some ⟨g, 0, none⟩) (l.length + 1) cap) (l ++ [y]) w' → w.grownBy w' v.ownBlock → (Value.ownBlock (.slice (some ⟨g, 0, none⟩) (l.length + 1) cap) = v.ownBlock ∨ Value.ownBlock (.slice (some ⟨g, 0, none⟩) (l.length + 1) cap) = some w.heap.size) → K (a.put o.dst (.slice (some ⟨g, 0, none⟩) (l.length + 1) cap)) w') :
    if Region.wanted o (yielded ops a.tmps) = true then Oper.wp Try.prog o a w K Q else E := by
  obtain ⟨i0, hi, hz0, hz1, hz2⟩ := info_parts Try.infoInt
  refine step_append_lies w hgd s x 22 ho base 3 i0 (.int .i64 0) 1 8 Try.underlying22 hi hz0 hz1 hz2 rfl (by decide) v l.length _ hs hown ad 1 c [.int .i64 y] hx rfl ?_ ?_ (by omega) ?_ ?_ hbase _ rfl ?_
  · intro j u hj
    match j, hj with
    | 0, hj =>
      simp at hj; subst hj
      have : ad.add 0 = ad := by cases ad with | mk b o s => cases s <;> simp [Addr.add]
      rw [this]; exact hcell
  · intro u hu; simp at hu; subst hu; rfl
  · unfold maxLen; omega
  · omega
  · intro g cap w' hown' hgrow hat _
    refine h g cap w' ?_ hgrow ?_
    · unfold OwnI
      rw [List.map_append, List.length_append]
      exact hown'
    · rcases hat with e | e
      · exact Or.inl e.symm
      · exact Or.inr (by rw [e]; rfl)
end Go.Proofs.Ytpccbiinfdppnad

/- The reference's Shortest: is there no shorter rule? What it keeps. -/
namespace Go.Proofs.Ytpccbiinfdppnad
open Go.RowKit Go.Sort

/-- The rows of the equations for length c (a of them), and what they are to give (d of them). -/
structure ShS (D : FD) (s : Nat → Nat) (base c a d : Nat) (vm : Value) (vs : Nat → Value) (vb : Value) (w : World) : Prop where
  mks : MkS base D.q c a vm vs (fun j t => ((s (c + j - 1 - t) : Nat) : Int)) w
  ob : OwnI base vb (zl d fun t => ((D.ng (s (c + t)) : Nat) : Int)) w
  ap : ∀ j, j < a → ∀ g, (vs j).ownBlock = some g → vb.ownBlock ≠ some g
theorem ShS.below {D : FD} {s : Nat → Nat} {base c a d : Nat} {vm vb : Value} {vs : Nat → Value} {w w' : World} (h : ShS D s base c a d vm vs vb w) (hb : Below w.heap.size w w') : ShS D s base c a d vm vs vb w' :=
  ⟨h.mks.below hb, h.ob.below hb (fun k hk => (h.ob.lt k hk).2), h.ap⟩
theorem OwnI.apartV {base base' : Nat} {u v : Value} {l : List Int} {l' : List Value} {w : World} (h : OwnI base u l w) (h' : OwnV base' v l' w) : v.ownBlock = none ∨ v.ownBlock ≠ u.ownBlock := by
  rcases h.apart h' with e | e
  · cases hv : v.ownBlock with
    | none => exact Or.inl rfl
    | some g => exact Or.inr (by rw [e]; exact fun x => by cases x)
  · exact Or.inr (fun x => e x.symm)
theorem ShS.push {D : FD} {s : Nat → Nat} {base c a d W : Nat} {vm vm' vb u : Value} {vs : Nat → Value} {w w' : World} (hs : El D s) (h : ShS D s base c a d vm vs vb w) (hu : OwnI W u (zl c fun t => ((s (c + a - 1 - t) : Nat) : Int)) w) (hW : base ≤ W) (hlt : ∀ k, vb.ownBlock = some k → k < W)
    (ho : OwnV base vm' (vl a vs ++ [u]) w') (hg : w.grownBy w' vm.ownBlock) : ShS D s base c (a + 1) d vm' (fun j => if j = a then u else vs j) vb w' := by
  have e : (fun j => if j = a then (fun t => ((s (c + a - 1 - t) : Nat) : Int)) else fun t => ((s (c + j - 1 - t) : Nat) : Int)) = fun j t => ((s (c + j - 1 - t) : Nat) : Int) := by
    funext j t
    by_cases e : j = a
    · rw [if_pos e, e]
    · rw [if_neg e]
  refine ⟨?_, h.ob.kept hg (h.ob.apart h.mks.own), fun j hj g hv => ?_⟩
  · have k := h.mks.push (hu.mono hW) (fun t _ => ⟨by omega, by have := hs (c + a - 1 - t); omega⟩) ho hg
    rw [e] at k; exact k
  · by_cases e : j = a
    · simp only [if_pos e] at hv
      have h1 := (hu.lt g hv).1
      intro h2
      have := hlt g h2
      omega
    · simp only [if_neg e] at hv
      exact h.ap j (by omega) g hv
theorem ShS.more {D : FD} {s : Nat → Nat} {base c a d : Nat} {vm vb vb' : Value} {vs : Nat → Value} {w w' : World} (h : ShS D s base c a d vm vs vb w) (ho : OwnI base vb' (zl d (fun t => ((D.ng (s (c + t)) : Nat) : Int)) ++ [((D.ng (s (c + d)) : Nat) : Int)]) w') (hg : w.grownBy w' vb.ownBlock) (hat : vb'.ownBlock = vb.ownBlock ∨ vb'.ownBlock = some w.heap.size) : ShS D s base c a (d + 1) vm vs vb' w' := by
  refine ⟨⟨h.mks.own.grown hg (h.ob.apartV h.mks.own), fun j hj => (h.mks.row j hj).kept hg ?_, h.mks.blw⟩, by rw [zl_succ]; exact ho, fun j hj g hv => ?_⟩
  · cases hv : (vs j).ownBlock with
    | none => exact Or.inl rfl
    | some g => exact Or.inr (fun x => h.ap j hj g hv x.symm)
  · rcases hat with e | e
    · rw [e]; exact h.ap j hj g hv
    · rw [e]
      have h1 := ((h.mks.row j hj).lt g hv).2
      intro h2
      cases h2
      omega
theorem MkS.matR {base q c n i : Nat} {v : Value} {vs : Nat → Value} {Z : Nat → Nat → Int} {M : Nat → Nat → Nat} {w : World} (h : MkS base q c i v vs Z w) (hc : c = n + 1) (hZ : ∀ j, j < i → ∀ t, t < c → Z j t = ((M j t : Nat) : Int)) : ∃ mo mc, v = .slice mo i mc ∧ MatR mo i n M w := by
  subst hc
  obtain ⟨mo, mc, hv, _, _, _, hcell⟩ := h.own.open
  rw [vl_len] at hv
  refine ⟨mo, mc, hv, fun j hj => ?_⟩
  obtain ⟨g, e, hc, _⟩ := hcell j (vs j) (vl_get i vs j hj)
  obtain ⟨so, sc, e2, ha⟩ := (h.row j hj).argL
  refine ⟨g, 0, vs j, e, by rw [Nat.zero_add]; exact hc, so, sc, e2, fun t ht => ?_, ha.lt, ha.nil, ha.le, ha.cap⟩
  obtain ⟨b, off, e3, hc3⟩ := ha.sl t ht
  exact ⟨b, off, e3, by rw [hc3, hZ j hj t ht]⟩
/-- Are the numbers from c on noughts, r of them? -/
def azr (s : Nat → Nat) (c : Nat) : Nat → Bool
  | 0 => true
  | r + 1 => azr s c r && decide (s (c + r) = 0)
theorem azr_iff {s : Nat → Nat} {c : Nat} : ∀ {r}, azr s c r = true → ∀ j, j < r → s (c + j) = 0
  | 0, _, j, hj => absurd hj (by omega)
  | r + 1, h, j, hj => by
    have h : (azr s c r && decide (s (c + r) = 0)) = true := h
    rw [Bool.and_eq_true] at h
    by_cases e : j = r
    · rw [e]; exact of_decide_eq_true h.2
    · exact azr_iff h.1 j (by omega)
end Go.Proofs.Ytpccbiinfdppnad

/- Lists that a rule makes: the shortest rule of enough of them makes the rest. -/
namespace Go.Proofs.Ytpccbiinfdppnad
open Go.RowKit Go.Sort

theorem ng_ad {D : FD} (F : Fld D) {a b : Nat} (ha : a < D.q) (hb : b < D.q) : D.ng (D.ad a b) = D.ad (D.ng a) (D.ng b) := by
  have h1 : D.ad (D.ad a b) (D.ad (D.ng a) (D.ng b)) = 0 := by
    rw [ad4 F ha hb (ng_lt F ha) (ng_lt F hb), ad_ng F ha, ad_ng F hb, ad_zero F (zero_lt' F)]
  exact (ad_cancel F (ad_lt F ha hb) (ad_lt F (ng_lt F ha) (ng_lt F hb)) (ng_lt F (ad_lt F ha hb)) (h1.trans (ad_ng F (ad_lt F ha hb)).symm)).symm
theorem sb_ad2 {D : FD} (F : Fld D) {a b c : Nat} (ha : a < D.q) (hb : b < D.q) (hc : c < D.q) : D.sb a (D.ad b c) = D.sb (D.sb a b) c := by
  unfold FD.sb
  rw [ng_ad F hb hc, ad_assoc F ha (ng_lt F hb) (ng_lt F hc)]
theorem dt_ng {D : FD} (F : Fld D) (u : Nat → Nat) {x : Nat → Nat} (hx : El D x) : ∀ n, dt D u (fun j => D.ng (x j)) n = D.ng (dt D u x n)
  | 0 => (ng_zero F).symm
  | n + 1 => by
    show D.ad (dt D u (fun j => D.ng (x j)) n) (D.mul (u n) (D.ng (x n))) = D.ng (D.ad (dt D u x n) (D.mul (u n) (x n)))
    rw [dt_ng F u hx n, mul_ng F (hx n), ng_ad F (dt_lt F _ _ _) (F.mul_lt _ _)]
theorem dt_comm {D : FD} (F : Fld D) (u v : Nat → Nat) : ∀ n, dt D u v n = dt D v u n
  | 0 => rfl
  | n + 1 => by
    show D.ad (dt D u v n) (D.mul (u n) (v n)) = D.ad (dt D v u n) (D.mul (v n) (u n))
    rw [dt_comm F u v n, F.mul_comm]
/-- Each number from the place n on is that sum of those ahead. -/
def Made (D : FD) (c : Nat → Nat) (n : Nat) (s : Nat → Nat) (N : Nat) : Prop := ∀ t, n ≤ t → t < N → s t = dt D c (fun k => s (t - 1 - k)) n
theorem made_gen {D : FD} (F : Fld D) {c s : Nat → Nat} {n N : Nat} (hc : El D c) (hs : El D s) (h : Made D c n s N) : Gen D s (rulx n fun k => D.ng (c k)) n N := fun t h1 h2 => by
  rw [rulx_mul F hs h1 n (Nat.le_refl _), dt_ng F _ hc, dt_comm F, ← h t h1 h2]
  exact ad_ng F (hs t)
theorem pmul_low {D : FD} {C s s' : Nat → Nat} {t : Nat} (h : ∀ j, j ≤ t → s j = s' j) : ∀ n, pmul D n C s t = pmul D n C s' t
  | 0 => rfl
  | n + 1 => by
    show D.ad (pmul D n C s t) (psh n (pscale D (C n) s) t) = D.ad (pmul D n C s' t) (psh n (pscale D (C n) s') t)
    rw [pmul_low h n]
    unfold psh pscale
    split
    · rw [h (t - n) (by omega)]
    · rfl
theorem gen_low {D : FD} {C s s' : Nat → Nat} {L N : Nat} (h : ∀ j, j < N → s j = s' j) (hg : Gen D s C L N) : Gen D s' C L N := fun t h1 h2 => by
  rw [← pmul_low (s := s) (fun j hj => h j (by omega))]; exact hg t h1 h2
theorem gen_more {D : FD} (F : Fld D) {s C C' : Nat → Nat} {L L' N : Nat} (hs : El D s) (hC : Rul D C L) (hC' : Rul D C' L') (h : Gen D s C L N) (hL : L + L' ≤ N) : ∀ k, Gen D s C' L' (N + k) → Gen D s C L (N + k)
  | 0, _ => h
  | k + 1, h' => fun t h1 h2 => by
    have ih := gen_more F hs hC hC' h hL k (gen_less h')
    by_cases e : t = N + k
    · rw [e]; exact massey F hs hC hC' ih h' (by omega)
    · exact ih t h1 (by omega)
/-- The shortest rule of 2 n numbers and more, made by a rule of length n, is no longer than n, and makes those behind, too. -/
theorem bms_made {D : FD} (hD : D ∈ fieldsL) {c y C O : Nat → Nat} {n N lc L lo b k : Nat} (hc : El D c) (hy : El D y) (h : BMS D (fun j => if j < N then y j else 0) N C lc L O lo b) (hm : Made D c n y (N + k)) (hN : 2 * n ≤ N) : L ≤ n ∧ Gen D y C L (N + k) := by
  have F := fld hD
  have hr : Rul D (rulx n fun k => D.ng (c k)) n := rulx_rul F n (fun j => ng_lt F (hc j))
  have hg := made_gen F hc hy hm
  have hlow : ∀ j, j < N → y j = (fun j => if j < N then y j else 0) j := fun j hj => (if_pos hj).symm
  have hL := h.min _ n hr (gen_low hlow (fun t h1 h2 => hg t h1 (by omega)))
  exact ⟨hL, gen_more F hy h.rul hr (gen_low (fun j hj => (hlow j hj).symm) h.gen) (by omega) k hg⟩
end Go.Proofs.Ytpccbiinfdppnad

/- A polynomial that is not nought has fewer roots than coefficients; words of few coefficients are far apart. -/
namespace Go.Proofs.Ytpccbiinfdppnad
open Go.RowKit Go.Sort

/-- How many of the first n. -/
def ct (p : Nat → Bool) : Nat → Nat
  | 0 => 0
  | n + 1 => ct p n + if p n = true then 1 else 0
theorem ct_none {p : Nat → Bool} : ∀ n, (∀ i, i < n → p i = false) → ct p n = 0
  | 0, _ => rfl
  | n + 1, h => by
    show ct p n + (if p n = true then 1 else 0) = 0
    rw [ct_none n (fun i hi => h i (by omega)), h n (by omega)]; rfl
theorem ct_one1 {p p' : Nat → Bool} (i0 : Nat) : ∀ n, (∀ i, i < n → i ≠ i0 → p i = true → p' i = true) → ct p n ≤ ct p' n + if i0 < n then 1 else 0
  | 0, _ => by simp [ct]
  | n + 1, h => by
    show ct p n + (if p n = true then 1 else 0) ≤ ct p' n + (if p' n = true then 1 else 0) + if i0 < n + 1 then 1 else 0
    have ih := ct_one1 i0 n (fun i hi => h i (by omega))
    by_cases e : i0 = n
    · rw [if_neg (by omega)] at ih
      rw [if_pos (show i0 < n + 1 by omega)]
      split <;> split <;> omega
    · have h1 := h n (by omega) (fun x => e x.symm)
      by_cases hp : p n = true
      · rw [if_pos hp, if_pos (h1 hp)]
        by_cases hi : i0 < n
        · rw [if_pos hi] at ih; rw [if_pos (show i0 < n + 1 by omega)]; omega
        · rw [if_neg hi] at ih; split <;> omega
      · rw [if_neg hp]
        by_cases hi : i0 < n
        · rw [if_pos hi] at ih; rw [if_pos (show i0 < n + 1 by omega)]; omega
        · rw [if_neg hi] at ih; omega
theorem ct_not (p : Nat → Bool) : ∀ n, ct p n + ct (fun i => !p i) n = n
  | 0 => rfl
  | n + 1 => by
    show ct p n + (if p n = true then 1 else 0) + (ct (fun i => !p i) n + if (!p n) = true then 1 else 0) = n + 1
    have := ct_not p n
    cases p n <;> simp <;> omega
theorem ev_sub {D : FD} (F : Fld D) {a b : Nat → Nat} (x : Nat) (ha : El D a) (hb : El D b) : ∀ n, D.ev (psub D a b) x n = D.sb (D.ev a x n) (D.ev b x n)
  | 0 => (sb_self F (zero_lt' F)).symm
  | n + 1 => by
    show D.ad (D.ev (psub D a b) x n) (D.mul (D.sb (a n) (b n)) (D.xp x n)) = D.sb (D.ad (D.ev a x n) (D.mul (a n) (D.xp x n))) (D.ad (D.ev b x n) (D.mul (b n) (D.xp x n)))
    rw [ev_sub F x ha hb n, sb_mul F (ha n) (hb n)]
    have h1 := ev_lt F a x n
    have h2 := ev_lt F b x n
    have h3 := F.mul_lt (a n) (D.xp x n)
    have h4 := F.mul_lt (b n) (D.xp x n)
    unfold FD.sb
    rw [ng_ad F h2 h4, ad4 F h1 (ng_lt F h2) h3 (ng_lt F h4)]
/-- X - r. -/
def xmr (D : FD) (r : Nat) : Nat → Nat := fun j => if j = 0 then D.ng r else if j = 1 then 1 else 0
theorem xmr_el {D : FD} (F : Fld D) {r : Nat} (hr : r < D.q) : El D (xmr D r) := fun j => by
  unfold xmr
  split
  · exact ng_lt F hr
  · split
    · exact one_lt' F
    · exact zero_lt' F
theorem xmr_bd {D : FD} (r : Nat) : Bd 2 (xmr D r) := fun j hj => by
  unfold xmr
  rw [if_neg (by omega), if_neg (by omega)]
theorem xmr_ev {D : FD} (F : Fld D) {r x : Nat} (hr : r < D.q) (hx : x < D.q) : D.ev (xmr D r) x 2 = D.sb x r := by
  show D.ad (D.ad 0 (D.mul (D.ng r) 1)) (D.mul 1 (D.mul 1 x)) = D.ad x (D.ng r)
  rw [mul1 F (ng_lt F hr), omul F (F.mul_lt _ _), omul F hx, zero_ad F (ng_lt F hr), ad_comm F]
/-- A root goes out as a factor. -/
theorem root_out {D : FD} (F : Fld D) {d : Nat → Nat} {k r : Nat} (hd : El D d) (hb : Bd (k + 1) d) (hr : r < D.q) (h0 : D.ev d r (k + 1) = 0) : ∃ Q, El D Q ∧ Bd k Q ∧ d = pmul D k Q (xmr D r) := by
  have hi : D.mul (xmr D r 1) 1 = 1 := mul1 F (one_lt' F)
  have h1 := div_is F (b := xmr D r) (l := 1) (inv := 1) k hd
  have hR := divR_bd F (xmr_el F hr) (xmr_bd r) hi k hd hb
  obtain ⟨Q, hQ⟩ : ∃ Q, Q = divQ D (xmr D r) 1 1 k d := ⟨_, rfl⟩
  obtain ⟨R, hRe⟩ : ∃ R, R = divR D (xmr D r) 1 1 k d := ⟨_, rfl⟩
  rw [← hQ, ← hRe] at h1
  rw [← hRe] at hR
  have eQ : El D Q := by rw [hQ]; exact el_divQ F k d
  have bQ : Bd k Q := by rw [hQ]; exact divQ_bd k d
  have eR : El D R := by rw [hRe]; exact el_divR F k hd
  have h2 : D.ev d r (k + 2) = 0 := by rw [ev_from F r hb (by omega)]; exact h0
  rw [← h1, ev_add F r (el_mul F _ _ _) eR, ev_mul F r (xmr_bd r) (xmr_el F hr) k (k + 2) (Nat.le_refl _), xmr_ev F hr hr, sb_self F hr, mul0 F, zero_ad F (ev_lt F _ _ _), ev_from F r hR (by omega)] at h2
  have h3 : R 0 = 0 := by
    have h2 : D.ad 0 (D.mul (R 0) 1) = 0 := h2
    rw [zero_ad F (F.mul_lt _ _), mul1 F (eR 0)] at h2; exact h2
  have h4 : R = pnil := by
    funext j
    cases j with
    | zero => exact h3
    | succ j => exact hR _ (by omega)
  refine ⟨Q, eQ, bQ, ?_⟩
  rw [h4] at h1
  rw [← h1]
  funext j
  exact ad_zero F (el_mul F _ _ _ _)
theorem few_roots {D : FD} (F : Fld D) {xs : Nat → Nat} {n : Nat} (hx : ∀ i, i < n → xs i < D.q) (hne : ∀ i j, i < n → j < n → i ≠ j → xs i ≠ xs j) : ∀ k {d : Nat → Nat}, El D d → Bd k d → d ≠ pnil → ct (fun i => decide (D.ev d (xs i) k = 0)) n < k
  | 0, d, _, hb, h0 => absurd (bd_nil_of hb) h0
  | k + 1, d, hd, hb, h0 => by
    by_cases h : ∃ i, i < n ∧ D.ev d (xs i) (k + 1) = 0
    · obtain ⟨i0, hi0, hr⟩ := h
      obtain ⟨Q, eQ, bQ, hQ⟩ := root_out F hd hb (hx i0 hi0) hr
      have hQ0 : Q ≠ pnil := fun e => h0 (by
        rw [hQ, e]
        funext j
        have : ∀ m, pmul D m pnil (xmr D (xs i0)) j = 0 := fun m => by
          induction m with
          | zero => rfl
          | succ m ih =>
            show D.ad (pmul D m pnil (xmr D (xs i0)) j) (psh m (pscale D 0 (xmr D (xs i0))) j) = 0
            rw [ih]
            unfold psh pscale
            split
            · rw [zmul F, ad_zero F (zero_lt' F)]
            · rw [ad_zero F (zero_lt' F)]
        exact this k)
      have ih := few_roots F hx hne k eQ bQ hQ0
      have h1 := ct_one1 (p := fun i => decide (D.ev d (xs i) (k + 1) = 0)) (p' := fun i => decide (D.ev Q (xs i) k = 0)) i0 n (fun i hi hne' hp => by
        have hp : D.ev d (xs i) (k + 1) = 0 := of_decide_eq_true hp
        refine decide_eq_true ?_
        have h2 : D.ev d (xs i) (k + 2) = 0 := by rw [ev_from F _ hb (by omega)]; exact hp
        rw [hQ, ev_mul F _ (xmr_bd _) (xmr_el F (hx i0 hi0)) k (k + 2) (Nat.le_refl _), xmr_ev F (hx i0 hi0) (hx i hi)] at h2
        by_cases e : D.ev Q (xs i) k = 0
        · exact e
        · exfalso
          have h3 : D.sb (xs i) (xs i0) = 0 := mul_cancel F e (sb_lt F (hx i hi) (hx i0 hi0)) (zero_lt' F) (h2.trans (mul0 F _).symm)
          exact hne i i0 hi hi0 hne' (sb_eq_zero F (hx i hi) (hx i0 hi0) h3))
      rw [if_pos hi0] at h1
      omega
    · rw [ct_none n (fun i hi => decide_eq_false (fun e => h ⟨i, hi, e⟩))]
      omega
/-- Words of two messages of k numbers: apart at more than n - k places. -/
theorem far_apart {D : FD} (F : Fld D) {xs a b : Nat → Nat} {n k : Nat} (hx : ∀ i, i < n → xs i < D.q) (hne : ∀ i j, i < n → j < n → i ≠ j → xs i ≠ xs j) (ha : El D a) (hb : El D b) (hba : Bd k a) (hbb : Bd k b) (h : a ≠ b) : n < k + ct (fun i => !decide (D.ev a (xs i) k = D.ev b (xs i) k)) n := by
  have h1 := few_roots F hx hne k (el_sub F ha hb) (fun j hj => by show D.sb (a j) (b j) = 0; rw [hba j hj, hbb j hj, sb_self F (zero_lt' F)]) (fun e => h (by
    funext j
    exact sb_eq_zero F (ha j) (hb j) (congrFun e j)))
  have h2 := ct_not (fun i => decide (D.ev a (xs i) k = D.ev b (xs i) k)) n
  have e : (fun i => decide (D.ev (psub D a b) (xs i) k = 0)) = fun i => decide (D.ev a (xs i) k = D.ev b (xs i) k) := by
    funext i
    rw [ev_sub F _ ha hb]
    refine decide_eq_decide.2 ⟨fun e => sb_eq_zero F (ev_lt F _ _ _) (ev_lt F _ _ _) e, fun e => by rw [e, sb_self F (ev_lt F _ _ _)]⟩
  rw [e] at h1
  omega
end Go.Proofs.Ytpccbiinfdppnad
