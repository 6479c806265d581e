/- Texts of ours, one behind the other: Y4 W10 Y5 Y6. -/
import Derived.Test.YthmjdcajaoilgadZY2
import Derived.Maps.AppendAt
import Derived.Deep.AppendLies
import Derived.Test.YthmjdcajaoilgadZT1
import Derived.Test.YthmjdcajaoilgadZH3
import Derived.Test.YthmjdcajaoilgadZS5
/- The reference's Rules: does the rule hold? -/
namespace Go.Proofs.Ythmjdcajaoilgad
open Go.RowKit Go.Sort

set_option maxHeartbeats 8000000 in
set_option maxRecDepth 100000 in
theorem rrules_any {D : FD} (hD : D ∈ fieldsL) (gen gm cm : Nat) {so ro : Option Addr} {n sc lr rc L : Nat} {s C : Nat → Nat} {w : World} (hn : n ≤ 128) (hS : Sl so n s w) (hlS : LtB so w.heap.size) (hR : Sl ro lr C w) (hlR : LtB ro w.heap.size) (hs : El D s) (hC : El D C)
    (h1 : 1 ≤ lr) (hone : C 0 = 1) (hlr : lr ≤ L + 1) (hL : L ≤ n) (hlast : C (lr - 1) ≠ 0) (hgen : ∀ t, L ≤ t → t < n → pmul D lr C s t = 0) (hM : ModAt D (.slice (some ⟨gm, 0, none⟩) (D.m + 1) cm) D.md w) :
    Calls Try.prog 12 #[.agg #[.int .i64 D.q, .int .i64 D.p, .int .i64 D.m, .int .i64 gen, .slice (some ⟨gm, 0, none⟩) (D.m + 1) cm], .slice so n sc, .slice ro lr rc, .int .i64 (L : Nat)] w fun e w' => e = .returned (.bool true) ∧ Below w.heap.size w w' := by
  obtain ⟨l1, hl1⟩ : ∃ l1, lr = l1 + 1 := ⟨lr - 1, by omega⟩
  subst hl1
  obtain ⟨wa, hwa⟩ : ∃ wa, wa = w.alloc (.cells #[.int .i64 D.q, .int .i64 D.p, .int .i64 D.m, .int .i64 gen, .slice (some ⟨gm, 0, none⟩) (D.m + 1) cm] 28) := ⟨_, rfl⟩
  have hba : Below w.heap.size w wa := by rw [hwa]; exact (Below.refl _ _).alloc (Nat.le_refl _) _
  have HF : Hid (D ∈ fieldsL ∧ Sl so n s wa ∧ LtB so wa.heap.size ∧ Sl ro (l1 + 1) C wa ∧ LtB ro wa.heap.size ∧ El D s ∧ El D C ∧ (∀ t, L ≤ t → t < n → pmul D (l1 + 1) C s t = 0) ∧ ModAt D (.slice (some ⟨gm, 0, none⟩) (D.m + 1) cm) D.md wa ∧ Below w.heap.size w wa) := ⟨hD, hS.below hba hlS, hlS.mono hba.size, hR.below hba hlR, hlR.mono hba.size, hs, hC, hgen, hM.below hba, hba⟩
  have HX : Hid (Box w.heap.size D gen (.slice (some ⟨gm, 0, none⟩) (D.m + 1) cm) wa ∧ wa.heap.size = w.heap.size + 1) := ⟨by rw [hwa]; exact box_new D gen _ w, by rw [hwa]; simp⟩
  obtain ⟨bC, oC, rfl, hc0⟩ := HF.out.2.2.2.1 0 (by omega)
  obtain ⟨_, _, e2, hcl⟩ := HF.out.2.2.2.1 l1 (by omega)
  cases e2
  rw [hone] at hc0
  rw [show oC + 0 = oC from rfl] at hc0
  obtain ⟨x, hx⟩ : ∃ x, x = C l1 := ⟨_, rfl⟩
  rw [← hx] at hcl
  have hx0 : (((x : Nat) : Int) == 0) = false := by rw [beq_eq_false_iff_ne]; rw [hx]; have h : C l1 ≠ 0 := hlast; omega
  have hw1 : IntKind.i64.wrap ((L : Int) + 1) = ((L + 1 : Nat) : Int) := wrap_to (by omega) (by omega)
  have hw2 : IntKind.i64.wrap (((l1 + 1 : Nat) : Int) - 1) = (l1 : Int) := wrap_to (by omega) (by omega)
  have hw3 : ¬ ((L : Int) + 1 < ((l1 + 1 : Nat) : Int)) := by omega
  have hw4 : (((l1 + 1 : Nat) : Int) == 0) = false := by rw [beq_eq_false_iff_ne]; omega
  have hw5 : (0 : Int) < ((l1 + 1 : Nat) : Int) := by omega
  have hw6 : (l1 : Int) < ((l1 + 1 : Nat) : Int) := by omega
  have hw7 : ¬ (((L + 1 : Nat) : Int) < ((l1 + 1 : Nat) : Int)) := by omega
  obtain ⟨lr, hlr'⟩ : ∃ lr, lr = l1 + 1 := ⟨_, rfl⟩
  have HL : Hid (lr = l1 + 1) := hlr'
  rw [← hlr'] at hw2 hw3 hw4 hw5 hw6 hw7 ⊢
  clear hD hS hlS hR hlR hs hC hgen hM hba hlast hx hone hlr' h1
  subst hwa
  go_enter Try.func12, Try.ntmps12
  go_wp2_with fail
  obtain ⟨wa, hwa⟩ : ∃ wa, wa = w.alloc (.cells #[.int .i64 D.q, .int .i64 D.p, .int .i64 D.m, .int .i64 gen, .slice (some ⟨gm, 0, none⟩) (D.m + 1) cm] 28) := ⟨_, rfl⟩
  rw [← hwa] at HF HX
  rw [← hwa]
  clear hwa hc0 hcl
  go_loopw [9] (fun vi wr => ∃ i : Nat, L ≤ i ∧ i ≤ n ∧ vi = .int .i64 i ∧ Hid (Below wa.heap.size wa wr)) (fun vi _ => n - (intOf vi).toNat)
  case atStart => exact ⟨L, Nat.le_refl _, hL, rfl, Below.refl _ _⟩
  case round =>
    obtain ⟨i, hLi, hi, rfl, HB⟩ := hrel
    rename World => w1
    by_cases hlt : i < n
    · have hib : (i : Int) < (n : Int) := by omega
      go_wp2_with fail
      go_loopw [10, 11] (fun vd vk wr => ∃ (k d : Nat), k ≤ lr ∧ vd = .int .i64 (d : Nat) ∧ vk = .int .i64 k ∧ Hid (d = pmul D k C s i ∧ Below wa.heap.size wa wr)) (fun _ vk _ => lr - (intOf vk).toNat)
      case atStart => exact ⟨0, 0, by omega, rfl, rfl, rfl, HB.out⟩
      case round =>
        obtain ⟨k, d, hk, rfl, rfl, HG⟩ := hrel
        rename World => wr
        by_cases hkl : k < lr
        · have hkb : (k : Int) < (lr : Int) := by omega
          obtain ⟨ik, hik⟩ : ∃ ik, ik = i - k := ⟨_, rfl⟩
          have hl1 := HL.out
          obtain ⟨_, _, e3, hcC⟩ := (HF.out.2.2.2.1.below HG.out.2 HF.out.2.2.2.2.1) k (by omega)
          cases e3
          obtain ⟨bS, oS, rfl, hcS⟩ := (HF.out.2.1.below HG.out.2 HF.out.2.2.1) ik (by omega)
          have hw8 : IntKind.i64.wrap ((i : Int) - (k : Int)) = (ik : Int) := wrap_to (by omega) (by omega)
          have hw9 : (ik : Int) < (n : Int) := by omega
          obtain ⟨cx, hcx⟩ : ∃ cx, cx = C k := ⟨_, rfl⟩
          obtain ⟨sx, hsx⟩ : ∃ sx, sx = s ik := ⟨_, rfl⟩
          rw [← hcx] at hcC
          rw [← hsx] at hcS
          obtain ⟨y, hy⟩ : ∃ y, y = D.mul cx sx := ⟨_, rfl⟩
          obtain ⟨u, hu⟩ : ∃ u, u = D.ad d y := ⟨_, rfl⟩
          have F' := fld HF.out.1
          have hbx := HX.out.1.below (B := wa.heap.size) HG.out.2 (by have := HX.out.2; omega)
          have k0 := cell_regrown hbx.c0
          have k1 := cell_regrown hbx.c1
          have k2 := cell_regrown hbx.c2
          have k3 := cell_regrown hbx.c3
          have k4 := cell_regrown hbx.c4
          have k5 := cell_regrown hcC
          have k6 := cell_regrown hcS
          have HC1 : Hid (∀ d os, Calls Try.prog 37 #[.agg #[.int .i64 D.q, .int .i64 D.p, .int .i64 D.m, .int .i64 gen, .slice (some ⟨gm, 0, none⟩) (D.m + 1) cm], .int .i64 (cx : Nat), .int .i64 (sx : Nat)] (grow (redrawn wr d) os) fun e w'' => e = .returned (.int .i64 (y : Nat)) ∧ ∃ p : Regrown, w'' = grow (redrawn wr p.d) p.os) := by
            intro d os
            rw [hy]
            exact Calls.regrown_of (rmul_nat HF.out.1 gen HF.out.2.2.2.2.2.2.2.2.1 cx sx (by rw [hcx]; exact HF.out.2.2.2.2.2.2.1 k) (by rw [hsx]; exact HF.out.2.2.2.2.2.1 ik) _ (bel_up' HG.out.2 (below_regrown wr d os)))
          have HC2 : Hid (∀ d' os, Calls Try.prog 36 #[.agg #[.int .i64 D.q, .int .i64 D.p, .int .i64 D.m, .int .i64 gen, .slice (some ⟨gm, 0, none⟩) (D.m + 1) cm], .int .i64 (d : Nat), .int .i64 (y : Nat)] (grow (redrawn wr d') os) fun e w'' => e = .returned (.int .i64 (u : Nat)) ∧ ∃ p : Regrown, w'' = grow (redrawn wr p.d) p.os) := by
            intro d' os
            rw [hu]
            exact Calls.regrown_of (radd_nat HF.out.1 gen (.slice (some ⟨gm, 0, none⟩) (D.m + 1) cm) d y (by rw [HG.out.1]; exact el_mul F' _ _ _ _) (by rw [hy]; exact F'.mul_lt _ _) (grow (redrawn wr d') os))
          have HV : Hid (u = pmul D (k + 1) C s i) := by
            show u = D.ad (pmul D k C s i) (psh k (pscale D (C k) s) i)
            rw [hu, hy, HG.out.1, hcx, hsx, hik]
            unfold psh
            rw [if_pos (by omega)]; rfl
          have HB2 : Hid (Below wa.heap.size wa wr) := HG.out.2
          clear hik hl1 hcC hcS hcx hsx hy hu F' hbx HG
          go_wp2
          refine wp_region_quiet_below (by kernel_rfl) (by kernel_rfl) ?_
          repeat (go_big_quiet_step (first | (go_at_call 37; exact HC1.out _ _) | (go_at_call 36; exact HC2.out _ _)))
          refine wpQuiet_nil ?_
          intro _ hw'
          obtain ⟨⟨dr, osr⟩, hw''⟩ := hw'
          subst hw''
          go_wp2
          go_roundw
          case rel => exact ⟨k + 1, u, by omega, rfl, by go_num, HV.out, bel_up' HB2.out (below_regrown wr dr osr)⟩
          case measure => simp [intOf]; omega
        · have hkb : ¬ (k : Int) < (lr : Int) := by omega
          have hd0 : d = 0 := by rw [HG.out.1, show k = l1 + 1 from by have := HL.out; omega]; exact HF.out.2.2.2.2.2.2.2.1 i hLi hlt
          subst hd0
          go_wp2
          go_roundw
          case rel => exact ⟨i + 1, by omega, by omega, by go_num, HG.out.2⟩
          case measure => simp [intOf]; omega
    · have hib : ¬ (i : Int) < (n : Int) := by omega
      go_wp2
      go_ret
      exact ⟨rfl, bel_up' HF.out.2.2.2.2.2.2.2.2.2 HB.out⟩
end Go.Proofs.Ythmjdcajaoilgad

/- 'append' of one number, and where its list lies then. -/
namespace Go.Proofs.Ythmjdcajaoilgad
open Go.RowKit Go.Sort

theorem append_int_at {ops : Array Oper} {rest : List Oper} {o : Oper} {a : Act} {w : World} {Q : Exit → Act → World → Prop} (hgd : o.guard = none) (s x : Operand)
    (ho : o.op = .call { callee := .builtin .append, args := #[s, x], argTypes := #[22, 22] })
    (base : Nat) (v : Value) (l : List Int) (hs : a.eval s = v) (hown : OwnI base v l w) (ad : Addr) (c : Nat) (y : Int) (hx : a.eval x = .slice (some ad) 1 c) (hcell : w.cell? ad = some (.int .i64 y))
    (hlen : l.length ≤ 1000000) (hbase : base ≤ w.heap.size)
    (h : ∀ v' w', OwnI base v' (l ++ [y]) w' → w.grownBy w' v.ownBlock → (v'.ownBlock = v.ownBlock ∨ v'.ownBlock = some w.heap.size) → wpList Try.prog ops Q rest (a.put o.dst v') w') : wpList Try.prog ops Q (o :: rest) a w := by
  obtain ⟨i0, hi, hz0, hz1, hz2⟩ := info_parts Try.infoInt
  refine wpList_append_own_at _ hgd s x 22 ho base 3 i0 (.int .i64 0) 1 8 Try.underlying22 hi hz0 hz1 hz2 rfl (by decide) v l.length _ hs hown ad 1 c [.int .i64 y] hx rfl ?_ ?_ ?_ ?_ hbase ?_
  · intro j u hj
    match j, hj with
    | 0, hj =>
      simp at hj; subst hj
      have : ad.add 0 = ad := by cases ad with | mk b o s => cases s <;> simp [Addr.add]
      rw [this]; exact hcell
  · intro u hu; simp at hu; subst hu; rfl
  · unfold maxLen; omega
  · omega
  · intro v' w' hown' hgrow _ hat
    refine h v' w' ?_ hgrow hat
    unfold OwnI
    rw [List.map_append, List.length_append]
    exact hown'
/-- The same, at a step of a region that draws its order. -/
theorem step_append_int_at {ops : Array Oper} {o : Oper} {a : Act} {w : World} {K : Act → World → Prop} {Q : Exit → Act → World → Prop} {E : Prop} (hgd : o.guard = none) (s x : Operand)
    (ho : o.op = .call { callee := .builtin .append, args := #[s, x], argTypes := #[22, 22] })
    (base : Nat) (v : Value) (l : List Int) (hs : a.eval s = v) (hown : OwnI base v l w) (ad : Addr) (c : Nat) (y : Int) (hx : a.eval x = .slice (some ad) 1 c) (hcell : w.cell? ad = some (.int .i64 y))
    (hlen : l.length ≤ 1000000) (hbase : base ≤ w.heap.size)
    (h : ∀ g cap w', OwnI base (.slice (some ⟨g, 0, none⟩) (l.length + 1) cap) (l ++ [y]) w' → w.grownBy w' v.ownBlock → (Value.ownBlock (.slice (some ⟨g, 0, none⟩) (l.length + 1) cap) = v.ownBlock ∨ Value.ownBlock (.slice (some ⟨g, 0, none⟩) (l.length + 1) cap) = some w.heap.size) → K (a.put o.dst (.slice (some ⟨g, 0, none⟩) (l.length + 1) cap)) w') :
    if Region.wanted o (yielded ops a.tmps) = true then Oper.wp Try.prog o a w K Q else E := by
  obtain ⟨i0, hi, hz0, hz1, hz2⟩ := info_parts Try.infoInt
  refine step_append_lies w hgd s x 22 ho base 3 i0 (.int .i64 0) 1 8 Try.underlying22 hi hz0 hz1 hz2 rfl (by decide) v l.length _ hs hown ad 1 c [.int .i64 y] hx rfl ?_ ?_ (by omega) ?_ ?_ hbase _ rfl ?_
  · intro j u hj
    match j, hj with
    | 0, hj =>
      simp at hj; subst hj
      have : ad.add 0 = ad := by cases ad with | mk b o s => cases s <;> simp [Addr.add]
      rw [this]; exact hcell
  · intro u hu; simp at hu; subst hu; rfl
  · unfold maxLen; omega
  · omega
  · intro g cap w' hown' hgrow hat _
    refine h g cap w' ?_ hgrow ?_
    · unfold OwnI
      rw [List.map_append, List.length_append]
      exact hown'
    · rcases hat with e | e
      · exact Or.inl e.symm
      · exact Or.inr (by rw [e]; rfl)
end Go.Proofs.Ythmjdcajaoilgad

/- The reference's Shortest: is there no shorter rule? What it keeps. -/
namespace Go.Proofs.Ythmjdcajaoilgad
open Go.RowKit Go.Sort

/-- The rows of the equations for length c (a of them), and what they are to give (d of them). -/
structure ShS (D : FD) (s : Nat → Nat) (base c a d : Nat) (vm : Value) (vs : Nat → Value) (vb : Value) (w : World) : Prop where
  mks : MkS base D.q c a vm vs (fun j t => ((s (c + j - 1 - t) : Nat) : Int)) w
  ob : OwnI base vb (zl d fun t => ((D.ng (s (c + t)) : Nat) : Int)) w
  ap : ∀ j, j < a → ∀ g, (vs j).ownBlock = some g → vb.ownBlock ≠ some g
theorem ShS.below {D : FD} {s : Nat → Nat} {base c a d : Nat} {vm vb : Value} {vs : Nat → Value} {w w' : World} (h : ShS D s base c a d vm vs vb w) (hb : Below w.heap.size w w') : ShS D s base c a d vm vs vb w' :=
  ⟨h.mks.below hb, h.ob.below hb (fun k hk => (h.ob.lt k hk).2), h.ap⟩
theorem OwnI.apartV {base base' : Nat} {u v : Value} {l : List Int} {l' : List Value} {w : World} (h : OwnI base u l w) (h' : OwnV base' v l' w) : v.ownBlock = none ∨ v.ownBlock ≠ u.ownBlock := by
  rcases h.apart h' with e | e
  · cases hv : v.ownBlock with
    | none => exact Or.inl rfl
    | some g => exact Or.inr (by rw [e]; exact fun x => by cases x)
  · exact Or.inr (fun x => e x.symm)
theorem ShS.push {D : FD} {s : Nat → Nat} {base c a d W : Nat} {vm vm' vb u : Value} {vs : Nat → Value} {w w' : World} (hs : El D s) (h : ShS D s base c a d vm vs vb w) (hu : OwnI W u (zl c fun t => ((s (c + a - 1 - t) : Nat) : Int)) w) (hW : base ≤ W) (hlt : ∀ k, vb.ownBlock = some k → k < W)
    (ho : OwnV base vm' (vl a vs ++ [u]) w') (hg : w.grownBy w' vm.ownBlock) : ShS D s base c (a + 1) d vm' (fun j => if j = a then u else vs j) vb w' := by
  have e : (fun j => if j = a then (fun t => ((s (c + a - 1 - t) : Nat) : Int)) else fun t => ((s (c + j - 1 - t) : Nat) : Int)) = fun j t => ((s (c + j - 1 - t) : Nat) : Int) := by
    funext j t
    by_cases e : j = a
    · rw [if_pos e, e]
    · rw [if_neg e]
  refine ⟨?_, h.ob.kept hg (h.ob.apart h.mks.own), fun j hj g hv => ?_⟩
  · have k := h.mks.push (hu.mono hW) (fun t _ => ⟨by omega, by have := hs (c + a - 1 - t); omega⟩) ho hg
    rw [e] at k; exact k
  · by_cases e : j = a
    · simp only [if_pos e] at hv
      have h1 := (hu.lt g hv).1
      intro h2
      have := hlt g h2
      omega
    · simp only [if_neg e] at hv
      exact h.ap j (by omega) g hv
theorem ShS.more {D : FD} {s : Nat → Nat} {base c a d : Nat} {vm vb vb' : Value} {vs : Nat → Value} {w w' : World} (h : ShS D s base c a d vm vs vb w) (ho : OwnI base vb' (zl d (fun t => ((D.ng (s (c + t)) : Nat) : Int)) ++ [((D.ng (s (c + d)) : Nat) : Int)]) w') (hg : w.grownBy w' vb.ownBlock) (hat : vb'.ownBlock = vb.ownBlock ∨ vb'.ownBlock = some w.heap.size) : ShS D s base c a (d + 1) vm vs vb' w' := by
  refine ⟨⟨h.mks.own.grown hg (h.ob.apartV h.mks.own), fun j hj => (h.mks.row j hj).kept hg ?_, h.mks.blw⟩, by rw [zl_succ]; exact ho, fun j hj g hv => ?_⟩
  · cases hv : (vs j).ownBlock with
    | none => exact Or.inl rfl
    | some g => exact Or.inr (fun x => h.ap j hj g hv x.symm)
  · rcases hat with e | e
    · rw [e]; exact h.ap j hj g hv
    · rw [e]
      have h1 := ((h.mks.row j hj).lt g hv).2
      intro h2
      cases h2
      omega
theorem MkS.matR {base q c n i : Nat} {v : Value} {vs : Nat → Value} {Z : Nat → Nat → Int} {M : Nat → Nat → Nat} {w : World} (h : MkS base q c i v vs Z w) (hc : c = n + 1) (hZ : ∀ j, j < i → ∀ t, t < c → Z j t = ((M j t : Nat) : Int)) : ∃ mo mc, v = .slice mo i mc ∧ MatR mo i n M w := by
  subst hc
  obtain ⟨mo, mc, hv, _, _, _, hcell⟩ := h.own.open
  rw [vl_len] at hv
  refine ⟨mo, mc, hv, fun j hj => ?_⟩
  obtain ⟨g, e, hc, _⟩ := hcell j (vs j) (vl_get i vs j hj)
  obtain ⟨so, sc, e2, ha⟩ := (h.row j hj).argL
  refine ⟨g, 0, vs j, e, by rw [Nat.zero_add]; exact hc, so, sc, e2, fun t ht => ?_, ha.lt, ha.nil, ha.le, ha.cap⟩
  obtain ⟨b, off, e3, hc3⟩ := ha.sl t ht
  exact ⟨b, off, e3, by rw [hc3, hZ j hj t ht]⟩
/-- Are the numbers from c on noughts, r of them? -/
def azr (s : Nat → Nat) (c : Nat) : Nat → Bool
  | 0 => true
  | r + 1 => azr s c r && decide (s (c + r) = 0)
theorem azr_iff {s : Nat → Nat} {c : Nat} : ∀ {r}, azr s c r = true → ∀ j, j < r → s (c + j) = 0
  | 0, _, j, hj => absurd hj (by omega)
  | r + 1, h, j, hj => by
    have h : (azr s c r && decide (s (c + r) = 0)) = true := h
    rw [Bool.and_eq_true] at h
    by_cases e : j = r
    · rw [e]; exact of_decide_eq_true h.2
    · exact azr_iff h.1 j (by omega)
end Go.Proofs.Ythmjdcajaoilgad

/- The reference's Shortest. -/
namespace Go.Proofs.Ythmjdcajaoilgad
open Go.RowKit Go.Sort

set_option maxHeartbeats 16000000 in
set_option maxRecDepth 100000 in
theorem rshortest_any {D : FD} (hD : D ∈ fieldsL) (gen gm cm : Nat) {so : Option Addr} {n sc L : Nat} {s : Nat → Nat} {w : World} (hn : n ≤ 128) (hS : Sl so n s w) (hlS : LtB so w.heap.size) (hs : El D s) (hL : L ≤ n)
    (hmin : ∀ C' L', Rul D C' L' → Gen D s C' L' n → L ≤ L') (hM : ModAt D (.slice (some ⟨gm, 0, none⟩) (D.m + 1) cm) D.md w) :
    Calls Try.prog 13 #[.agg #[.int .i64 D.q, .int .i64 D.p, .int .i64 D.m, .int .i64 gen, .slice (some ⟨gm, 0, none⟩) (D.m + 1) cm], .slice so n sc, .int .i64 (L : Nat)] w fun e w' => e = .returned (.bool true) ∧ Below w.heap.size w w' := by
  obtain ⟨wa, hwa⟩ : ∃ wa, wa = w.alloc (.cells #[.int .i64 D.q, .int .i64 D.p, .int .i64 D.m, .int .i64 gen, .slice (some ⟨gm, 0, none⟩) (D.m + 1) cm] 28) := ⟨_, rfl⟩
  have hba : Below w.heap.size w wa := by rw [hwa]; exact (Below.refl _ _).alloc (Nat.le_refl _) _
  have HF : Hid (D ∈ fieldsL ∧ Sl so n s wa ∧ LtB so wa.heap.size ∧ El D s ∧ (∀ C' L', Rul D C' L' → Gen D s C' L' n → L ≤ L') ∧ ModAt D (.slice (some ⟨gm, 0, none⟩) (D.m + 1) cm) D.md wa ∧ Below w.heap.size w wa) := ⟨hD, hS.below hba hlS, hlS.mono hba.size, hs, hmin, hM.below hba, hba⟩
  have HX : Hid (Box w.heap.size D gen (.slice (some ⟨gm, 0, none⟩) (D.m + 1) cm) wa ∧ wa.heap.size = w.heap.size + 1) := ⟨by rw [hwa]; exact box_new D gen _ w, by rw [hwa]; simp⟩
  clear hD hS hlS hs hmin hM hba
  go_enter Try.func13, Try.ntmps13
  go_wp2_with fail
  rw [← hwa]
  clear hwa
  go_loopw [7] (fun vc wr => ∃ c : Nat, c ≤ L ∧ vc = .int .i64 c ∧ Hid (Below wa.heap.size wa wr)) (fun vc _ => L - (intOf vc).toNat)
  case atStart => exact ⟨0, by omega, rfl, Below.refl _ _⟩
  case round =>
    obtain ⟨c, hc, rfl, HB⟩ := hrel
    rename World => w1
    by_cases hlt : c < L
    · have hcb : (c : Int) < (L : Int) := by omega
      go_wp2_with fail
      go_loopw [8, 9, 10, 11] (fun vm vb vz vi wr => ∃ (i r : Nat) (vs : Nat → Value) (bz : Bool), i ≤ n ∧ vz = .bool bz ∧ vi = .int .i64 i ∧ Hid (i = c + r ∧ bz = azr s c r ∧ ShS D s w1.heap.size c r r vm vs vb wr ∧ Below w1.heap.size w1 wr)) (fun _ _ _ vi _ => n - (intOf vi).toNat)
      case atStart => exact ⟨c, 0, fun _ => undef, true, by omega, rfl, rfl, rfl, rfl, ⟨⟨OwnV.nil _ _, fun j hj => absurd hj (by omega), fun j hj => absurd hj (by omega)⟩, OwnI.nil _ _, fun j hj => absurd hj (by omega)⟩, Below.refl _ _⟩
      case round =>
        obtain ⟨i, r, vs, bz, hi, rfl, rfl, HG⟩ := hrel
        rename World => wA
        by_cases hin : i < n
        · have hib : (i : Int) < (n : Int) := by omega
          obtain ⟨bS, oS, rfl, hcS0⟩ := (HF.out.2.1.below (bel_up' HB.out HG.out.2.2.2) HF.out.2.2.1) i (by omega)
          clear hcS0
          go_wp2_with fail
          go_loopw [12, 13] (fun vr vk wr => ∃ (k t : Nat), k ≤ c + 1 ∧ vk = .int .i64 k ∧ Hid (k = t + 1 ∧ OwnI wA.heap.size vr (zl t fun j => ((s (c + r - 1 - j) : Nat) : Int)) wr ∧ Below wA.heap.size wA wr)) (fun _ vk _ => c + 1 - (intOf vk).toNat)
          case atStart => exact ⟨1, 0, by omega, rfl, rfl, OwnI.nil _ _, Below.refl _ _⟩
          case round =>
            obtain ⟨k, t, hk, rfl, HK⟩ := hrel
            rename World => wB
            have hszB := HK.out.2.2.size
            by_cases hkc : k ≤ c
            · have hkb : (k : Int) ≤ (c : Int) := by omega
              have hkt := HK.out.1
              have hir := HG.out.1
              obtain ⟨q, hq⟩ : ∃ q, q = c + r - 1 - t := ⟨_, rfl⟩
              obtain ⟨_, _, e3, hcS⟩ := (HF.out.2.1.below (bel_up' HB.out (bel_up' HG.out.2.2.2 HK.out.2.2)) HF.out.2.2.1) q (by omega)
              cases e3
              have hw1 : IntKind.i64.wrap ((i : Int) - (k : Int)) = (q : Int) := wrap_to (by omega) (by omega)
              have hqn : (q : Int) < (n : Int) := by omega
              have ht : t ≤ 128 := by omega
              obtain ⟨x, hx⟩ : ∃ x, x = s q := ⟨_, rfl⟩
              rw [← hx] at hcS
              have HQ : Hid (k = t + 1 ∧ i = c + r ∧ q = c + r - 1 - t ∧ x = s q) := ⟨hkt, hir, hq, hx⟩
              clear hkt hir hq hx
              go_wp2_with (at_builtin; refine append_int rfl _ _ rfl wA.heap.size _ (zl t fun j => ((s (c + r - 1 - j) : Nat) : Int)) rfl (HK.out.2.1.alloc _) ⟨_, 0, none⟩ 1 (x : Int) rfl (by simp) (by rw [zl_len]; omega) (by simp; omega) ?_; intro v2 w3 hown3 hgrow3)
              have HR : Hid (OwnI wA.heap.size v2 (zl (t + 1) fun j => ((s (c + r - 1 - j) : Nat) : Int)) w3 ∧ Below wA.heap.size wA w3) := by
                refine ⟨?_, (HK.out.2.2.alloc hszB _).grown hgrow3 (by simp; omega) (fun k hk => (HK.out.2.1.lt k hk).1)⟩
                rw [zl_succ]
                rw [HQ.out.2.2.2, HQ.out.2.2.1] at hown3
                exact hown3
              clear hown3 hgrow3
              go_roundw
              case rel => exact ⟨k + 1, t + 1, by omega, by go_num, by rw [HQ.out.1], HR.out⟩
              case measure => simp [intOf]; omega
            · have hkb : ¬ (k : Int) ≤ (c : Int) := by omega
              have hkt := HK.out.1
              have htc : t = c := by omega
              subst htc
              obtain ⟨bo, cb, hbo, _⟩ := HK.out.2.1.argL
              subst hbo
              obtain ⟨_, _, e3, hcS⟩ := (HF.out.2.1.below (bel_up' HB.out (bel_up' HG.out.2.2.2 HK.out.2.2)) HF.out.2.2.1) i hin
              cases e3
              obtain ⟨x, hx⟩ : ∃ x, x = s i := ⟨_, rfl⟩
              rw [← hx] at hcS
              obtain ⟨zb, hz⟩ : ∃ zb, (((x : Nat) : Int) == 0) = zb := ⟨_, rfl⟩
              have hszA := HG.out.2.2.2.size
              have hir := HG.out.1
              have HQ : Hid (i = t + r ∧ x = s i ∧ zb = decide (s (t + r) = 0) ∧ x < D.q) := by
                refine ⟨hir, hx, ?_, by rw [hx]; exact HF.out.2.2.2.1 i⟩
                rw [← hz, hx, hir]
                by_cases e : s (t + r) = 0
                · rw [e]; rfl
                · rw [decide_eq_false e, beq_eq_false_iff_ne]; omega
              have hr128 : r ≤ 128 := by omega
              have H2 : Hid (ShS D s w1.heap.size t r r u8 vs u9 wB ∧ OwnI wA.heap.size (.slice bo t cb) (zl t fun j => ((s (t + r - 1 - j) : Nat) : Int)) wB ∧ Below w1.heap.size w1 wB ∧ (∀ k, u9.ownBlock = some k → k < wA.heap.size) ∧ bz = azr s t r) := ⟨HG.out.2.2.1.below HK.out.2.2, HK.out.2.1, bel_up' HG.out.2.2.2 HK.out.2.2, fun k hk => (HG.out.2.2.1.ob.lt k hk).2, HG.out.2.1⟩
              have hll : (vl r vs).length ≤ 1000000 := by rw [vl_len]; omega
              clear hx hkt hir HG HK
              go_wp2_with (at_builtin; refine append_sl rfl _ _ rfl w1.heap.size u8 (vl r vs) rfl (H2.out.1.mks.own.below ((Below.refl _ _).alloc (Nat.le_refl _) _) (Nat.le_refl _)) ⟨wB.heap.size, 0, none⟩ 1 (.slice bo t cb) rfl rfl (by rw [cell_of_row _ _ _ _ _ (0, 0) (two_new _)]; rfl) hll (by simp; omega) ?_; intro v' w6 hown6 hg6)
              have hal : Below wB.heap.size wB (wB.alloc (.cells #[.slice bo t cb] 22)) := (Below.refl _ _).alloc (Nat.le_refl _) _
              have H3 : Hid (ShS D s w1.heap.size t (r + 1) r v' (fun j => if j = r then .slice bo t cb else vs j) u9 w6 ∧ Below w1.heap.size w1 w6) := by
                have ho := H2.out.1.below hal
                exact ⟨ho.push HF.out.2.2.2.1 (H2.out.2.1.below hal (fun k hk => (H2.out.2.1.lt k hk).2)) hszA H2.out.2.2.2.1 hown6 hg6, (bel_up' H2.out.2.2.1 hal).grown hg6 (by simp; omega) (fun k hk => ho.mks.own.open_ge k hk)⟩
              clear hown6 hg6 hal
              have HK6 : Hid (∀ wx, Below w1.heap.size w1 wx → wx.cell? ⟨bS, oS + i, none⟩ = some (.int .i64 (x : Nat)) ∧ wx.cell? ⟨w.heap.size, 0, none⟩ = some (.int .i64 D.q) ∧ wx.cell? ⟨w.heap.size, 1, none⟩ = some (.int .i64 D.p) ∧ wx.cell? ⟨w.heap.size, 2, none⟩ = some (.int .i64 D.m) ∧ wx.cell? ⟨w.heap.size, 3, none⟩ = some (.int .i64 gen) ∧ wx.cell? ⟨w.heap.size, 4, none⟩ = some (.slice (some ⟨gm, 0, none⟩) (D.m + 1) cm)) := fun wx hx => by
                have hb6 := bel_up' HB.out hx
                obtain ⟨_, _, e4, hc⟩ := (HF.out.2.1.below hb6 HF.out.2.2.1) i hin
                cases e4
                have hbx := HX.out.1.below (B := wa.heap.size) hb6 (by have := HX.out.2; omega)
                exact ⟨by rw [HQ.out.2.1]; exact hc, hbx.c0, hbx.c1, hbx.c2, hbx.c3, hbx.c4⟩
              obtain ⟨y, hy⟩ : ∃ y, y = D.ng x := ⟨_, rfl⟩
              have HC1 : Hid (∀ wx, Calls Try.prog 38 #[.agg #[.int .i64 D.q, .int .i64 D.p, .int .i64 D.m, .int .i64 gen, .slice (some ⟨gm, 0, none⟩) (D.m + 1) cm], .int .i64 (x : Nat)] wx fun e w'' => e = .returned (.int .i64 (y : Nat)) ∧ Below wx.heap.size wx w'') := fun wx => by
                rw [hy]
                exact rneg_nat HF.out.1 gen _ x HQ.out.2.2.2 wx
              have HY : Hid (y = D.ng (s (t + r))) := by show y = _; rw [hy, HQ.out.2.1, HQ.out.1]
              have hsz6 := H3.out.2.size
              have hzl : (zl r fun t_1 => ((D.ng (s (t + t_1)) : Nat) : Int)).length ≤ 1000000 := by rw [zl_len]; omega
              clear hy hcS
              have hbc : Below w6.heap.size w6 w6 := Below.refl _ _
              have hz : Below w1.heap.size w1 w6 := H3.out.2
              have htest := HK6.out _ hz.drew
              refine wp_region_noPanic ?_
              go_region_held3 (fun wx => wx.cell? ⟨bS, oS + i, none⟩ = some (.int .i64 (x : Nat)) ∧ wx.cell? ⟨w.heap.size, 0, none⟩ = some (.int .i64 D.q) ∧ wx.cell? ⟨w.heap.size, 1, none⟩ = some (.int .i64 D.p) ∧ wx.cell? ⟨w.heap.size, 2, none⟩ = some (.int .i64 D.m) ∧ wx.cell? ⟨w.heap.size, 3, none⟩ = some (.int .i64 gen) ∧ wx.cell? ⟨w.heap.size, 4, none⟩ = some (.slice (some ⟨gm, 0, none⟩) (D.m + 1) cm))
                (first | go_keep | exact HK6.out _ (by first | exact hz | exact hz.drew | exact hz.alloc hz.size _ | exact hz.drew.alloc hz.size _))
                (first
                  | (go_at_call 38; refine (HC1.out _).mono ?_; rintro e w2 ⟨rfl, hb2⟩; replace hbc : Below w6.heap.size w6 w2 := bel_up' (by first | exact hbc | exact hbc.drew | exact hbc.alloc hbc.size _ | exact hbc.drew.alloc hbc.size _) hb2; replace hz : Below w1.heap.size w1 w2 := bel_up' H3.out.2 hbc)
                  | (refine step_append_int_at (by rfl) _ _ (by rfl) w1.heap.size u9 (zl r fun t_1 => ((D.ng (s (t + t_1)) : Nat) : Int)) (by rfl) ((H3.out.1.below (by first | exact hbc | exact hbc.drew | exact hbc.alloc hbc.size _ | exact hbc.drew.alloc hbc.size _)).ob) ⟨_, 0, none⟩ 1 (y : Int) (by rfl) (by simp) hzl (by have := hbc.size; first | omega | (simp; omega)) ?_; intro g9 c9 w9 hown9 hgrow9 hat9; replace hz : Below w1.heap.size w1 w9 := Below.grown (by first | exact hz | exact hz.drew | exact hz.alloc hz.size _ | exact hz.drew.alloc hz.size _) hgrow9 (by have := hbc.size; first | omega | (simp; omega)) (fun k hk => (H3.out.1.ob.lt k hk).1))
                  | fail)
              all_goals
                have HR : Hid (ShS D s w1.heap.size t (r + 1) (r + 1) v' (fun j => if j = r then .slice bo t cb else vs j) (.slice (some ⟨g9, 0, none⟩) ((zl r fun t_1 => ((D.ng (s (t + t_1)) : Nat) : Int)).length + 1) c9) w9 ∧ Below w1.heap.size w1 w9) := by
                  refine ⟨ShS.more (H3.out.1.below (by first | exact hbc.alloc hbc.size _ | exact hbc.drew.alloc hbc.size _)) ?_ hgrow9 hat9, hz⟩
                  rw [← HY.out]; exact hown9
                have hcS9 := (HK6.out _ hz).1
                clear hown9 hgrow9 hat9 hz hbc htest hb2
                refine NoPanic.normal ?_
                cases bz with
                | false =>
                  have HZ : Hid (false = azr s t (r + 1)) := by show false = (azr s t r && decide (s (t + r) = 0)); rw [← H2.out.2.2.2.2]; rfl
                  go_wp2
                  go_roundw
                  case rel => exact ⟨i + 1, r + 1, _, false, by omega, rfl, by go_num, by rw [HQ.out.1]; rfl, HZ.out, HR.out⟩
                  case measure => simp [intOf]; omega
                | true =>
                  have HZ : Hid (zb = azr s t (r + 1)) := by show zb = (azr s t r && decide (s (t + r) = 0)); rw [← H2.out.2.2.2.2, HQ.out.2.2.1]; rfl
                  go_wp2
                  go_roundw
                  case rel => exact ⟨i + 1, r + 1, _, zb, by omega, rfl, by go_num, by rw [HQ.out.1]; rfl, HZ.out, HR.out⟩
                  case measure => simp [intOf]; omega
        · have hib : ¬ (i : Int) < (n : Int) := by omega
          have hir := HG.out.1
          have hrn : r = n - c := by omega
          have HB2 : Hid (Below wa.heap.size wa wA) := bel_up' HB.out HG.out.2.2.2
          by_cases hc0 : c = 0
          · subst hc0
            have hbz : bz = false := by
              rw [HG.out.2.1]
              cases e : azr s 0 r with
              | false => rfl
              | true =>
                obtain ⟨j, hj, hne⟩ := short_zero (fld HF.out.1) HF.out.2.2.2.2.1 hlt
                have := azr_iff e j (by omega)
                rw [Nat.zero_add] at this
                exact absurd this hne
            subst hbz
            clear hir hrn
            go_wp2
            go_roundw
            case rel => exact ⟨1, by omega, by go_num, HB2.out⟩
            case measure => simp [intOf]; omega
          · obtain ⟨c1, hc1⟩ : ∃ c1, c = c1 + 1 := ⟨c - 1, by omega⟩
            obtain ⟨mo, mc, hmv, hMat⟩ := HG.out.2.2.1.mks.matR (M := fun i => cutN c fun j => s (c + i - 1 - j)) hc1 (fun j _ t ht => by unfold cutN; rw [if_pos ht])
            obtain ⟨bo, cb, hbv, hArg⟩ := HG.out.2.2.1.ob.argL
            subst hmv
            subst hbv
            have hr0 : 0 < r := by omega
            have HC : Hid (Calls Try.prog 39 #[.agg #[.int .i64 D.q, .int .i64 D.p, .int .i64 D.m, .int .i64 gen, .slice (some ⟨gm, 0, none⟩) (D.m + 1) cm], .slice mo r mc, .slice bo r cb] wA fun e w' => e = .returned (.tuple #[.slice none 0 0, .bool false]) ∧ Below wA.heap.size wA w') := by
              have F' := fld HF.out.1
              refine (rsolve_any HF.out.1 gen gm cm (b := fun i => D.ng (s (c + i))) hc1 hr0 (by omega) (by omega) (fun i _ => ⟨fun j => by unfold cutN; split; exact HF.out.2.2.2.1 _; exact zero_lt' F', fun j hj => by unfold cutN; rw [if_neg (by omega)]⟩) hMat (fun j hj => hArg.sl j hj) (fun i _ => ng_lt F' (HF.out.2.2.2.1 _)) (HF.out.2.2.2.2.2.1.below HB2.out)).mono ?_
              rintro e w' ⟨hb, k, R, p, _, hR, hsp, hres⟩
              rcases hres with ⟨_, rfl⟩ | ⟨hp, _⟩
              · exact ⟨rfl, hb⟩
              · rw [hrn] at hsp
                exact absurd hp (short_no F' HF.out.2.2.2.1 HF.out.2.2.2.2.1 hlt hR hsp)
            have hbx := HX.out.1.below (B := wa.heap.size) HB2.out (by have := HX.out.2; omega)
            obtain ⟨k0, k1, k2, k3, k4⟩ := hbx
            have hcz : (((c : Nat) : Int) == 0) = false := by rw [beq_eq_false_iff_ne]; omega
            have hrz : (((r : Nat) : Int) == 0) = false := by rw [beq_eq_false_iff_ne]; omega
            clear hir hrn hMat hArg hc1 HG
            go_wp2_with fail
            refine HC.out.mono ?_
            rintro e w5 ⟨rfl, hb5⟩
            have H5 : Hid (Below wa.heap.size wa w5) := bel_up' HB2.out hb5
            clear hb5 k0 k1 k2 k3 k4
            go_wp2
            go_roundw
            case rel => exact ⟨c + 1, by omega, by go_num, H5.out⟩
            case measure => simp [intOf]; omega
    · have hcb : ¬ (c : Int) < (L : Int) := by omega
      go_wp2
      go_ret
      exact ⟨rfl, bel_up' HF.out.2.2.2.2.2.2 HB.out⟩
end Go.Proofs.Ythmjdcajaoilgad
