/- Texts of ours, one behind the other: Y4 W10. -/
import Derived.Test.YtnjbnamcedfjaaaZY3
import Derived.Maps.AppendAt
import Derived.Deep.AppendLies
import Derived.Test.YtnjbnamcedfjaaaZW9
/- The reference's Rules: does the rule hold? -/
namespace Go.Proofs.Ytnjbnamcedfjaaa
open Go.RowKit Go.Sort

set_option maxHeartbeats 8000000 in
set_option maxRecDepth 100000 in
theorem rrules_any {D : FD} (hD : D ∈ fieldsL) (gen gm cm : Nat) {so ro : Option Addr} {n sc lr rc L : Nat} {s C : Nat → Nat} {w : World} (hn : n ≤ 128) (hS : Sl so n s w) (hlS : LtB so w.heap.size) (hR : Sl ro lr C w) (hlR : LtB ro w.heap.size) (hs : El D s) (hC : El D C)
    (h1 : 1 ≤ lr) (hone : C 0 = 1) (hlr : lr ≤ L + 1) (hL : L ≤ n) (hlast : C (lr - 1) ≠ 0) (hgen : ∀ t, L ≤ t → t < n → pmul D lr C s t = 0) (hM : ModAt D (.slice (some ⟨gm, 0, none⟩) (D.m + 1) cm) D.md w) :
    Calls Try.prog 29 #[.agg #[.int .i64 D.q, .int .i64 D.p, .int .i64 D.m, .int .i64 gen, .slice (some ⟨gm, 0, none⟩) (D.m + 1) cm], .slice so n sc, .slice ro lr rc, .int .i64 (L : Nat)] w fun e w' => e = .returned (.bool true) ∧ Below w.heap.size w w' := by
  obtain ⟨l1, hl1⟩ : ∃ l1, lr = l1 + 1 := ⟨lr - 1, by omega⟩
  subst hl1
  obtain ⟨wa, hwa⟩ : ∃ wa, wa = w.alloc (.cells #[.int .i64 D.q, .int .i64 D.p, .int .i64 D.m, .int .i64 gen, .slice (some ⟨gm, 0, none⟩) (D.m + 1) cm] 40) := ⟨_, rfl⟩
  have hba : Below w.heap.size w wa := by rw [hwa]; exact (Below.refl _ _).alloc (Nat.le_refl _) _
  have HF : Hid (D ∈ fieldsL ∧ Sl so n s wa ∧ LtB so wa.heap.size ∧ Sl ro (l1 + 1) C wa ∧ LtB ro wa.heap.size ∧ El D s ∧ El D C ∧ (∀ t, L ≤ t → t < n → pmul D (l1 + 1) C s t = 0) ∧ ModAt D (.slice (some ⟨gm, 0, none⟩) (D.m + 1) cm) D.md wa ∧ Below w.heap.size w wa) := ⟨hD, hS.below hba hlS, hlS.mono hba.size, hR.below hba hlR, hlR.mono hba.size, hs, hC, hgen, hM.below hba, hba⟩
  have HX : Hid (Box w.heap.size D gen (.slice (some ⟨gm, 0, none⟩) (D.m + 1) cm) wa ∧ wa.heap.size = w.heap.size + 1) := ⟨by rw [hwa]; exact box_new D gen _ w, by rw [hwa]; simp⟩
  obtain ⟨bC, oC, rfl, hc0⟩ := HF.out.2.2.2.1 0 (by omega)
  obtain ⟨_, _, e2, hcl⟩ := HF.out.2.2.2.1 l1 (by omega)
  cases e2
  rw [hone] at hc0
  rw [show oC + 0 = oC from rfl] at hc0
  obtain ⟨x, hx⟩ : ∃ x, x = C l1 := ⟨_, rfl⟩
  rw [← hx] at hcl
  have hx0 : (((x : Nat) : Int) == 0) = false := by rw [beq_eq_false_iff_ne]; rw [hx]; have h : C l1 ≠ 0 := hlast; omega
  have hw1 : IntKind.i64.wrap ((L : Int) + 1) = ((L + 1 : Nat) : Int) := wrap_to (by omega) (by omega)
  have hw2 : IntKind.i64.wrap (((l1 + 1 : Nat) : Int) - 1) = (l1 : Int) := wrap_to (by omega) (by omega)
  have hw3 : ¬ ((L : Int) + 1 < ((l1 + 1 : Nat) : Int)) := by omega
  have hw4 : (((l1 + 1 : Nat) : Int) == 0) = false := by rw [beq_eq_false_iff_ne]; omega
  have hw5 : (0 : Int) < ((l1 + 1 : Nat) : Int) := by omega
  have hw6 : (l1 : Int) < ((l1 + 1 : Nat) : Int) := by omega
  have hw7 : ¬ (((L + 1 : Nat) : Int) < ((l1 + 1 : Nat) : Int)) := by omega
  obtain ⟨lr, hlr'⟩ : ∃ lr, lr = l1 + 1 := ⟨_, rfl⟩
  have HL : Hid (lr = l1 + 1) := hlr'
  rw [← hlr'] at hw2 hw3 hw4 hw5 hw6 hw7 ⊢
  clear hD hS hlS hR hlR hs hC hgen hM hba hlast hx hone hlr' h1
  subst hwa
  go_enter Try.func29, Try.ntmps29
  go_wp2_with fail
  obtain ⟨wa, hwa⟩ : ∃ wa, wa = w.alloc (.cells #[.int .i64 D.q, .int .i64 D.p, .int .i64 D.m, .int .i64 gen, .slice (some ⟨gm, 0, none⟩) (D.m + 1) cm] 40) := ⟨_, rfl⟩
  rw [← hwa] at HF HX
  rw [← hwa]
  clear hwa hc0 hcl
  go_loopw [9] (fun vi wr => ∃ i : Nat, L ≤ i ∧ i ≤ n ∧ vi = .int .i64 i ∧ Hid (Below wa.heap.size wa wr)) (fun vi _ => n - (intOf vi).toNat)
  case atStart => exact ⟨L, Nat.le_refl _, hL, rfl, Below.refl _ _⟩
  case round =>
    obtain ⟨i, hLi, hi, rfl, HB⟩ := hrel
    rename World => w1
    by_cases hlt : i < n
    · have hib : (i : Int) < (n : Int) := by omega
      go_wp2_with fail
      go_loopw [10, 11] (fun vd vk wr => ∃ (k d : Nat), k ≤ lr ∧ vd = .int .i64 (d : Nat) ∧ vk = .int .i64 k ∧ Hid (d = pmul D k C s i ∧ Below wa.heap.size wa wr)) (fun _ vk _ => lr - (intOf vk).toNat)
      case atStart => exact ⟨0, 0, by omega, rfl, rfl, rfl, HB.out⟩
      case round =>
        obtain ⟨k, d, hk, rfl, rfl, HG⟩ := hrel
        rename World => wr
        by_cases hkl : k < lr
        · have hkb : (k : Int) < (lr : Int) := by omega
          obtain ⟨ik, hik⟩ : ∃ ik, ik = i - k := ⟨_, rfl⟩
          have hl1 := HL.out
          obtain ⟨_, _, e3, hcC⟩ := (HF.out.2.2.2.1.below HG.out.2 HF.out.2.2.2.2.1) k (by omega)
          cases e3
          obtain ⟨bS, oS, rfl, hcS⟩ := (HF.out.2.1.below HG.out.2 HF.out.2.2.1) ik (by omega)
          have hw8 : IntKind.i64.wrap ((i : Int) - (k : Int)) = (ik : Int) := wrap_to (by omega) (by omega)
          have hw9 : (ik : Int) < (n : Int) := by omega
          obtain ⟨cx, hcx⟩ : ∃ cx, cx = C k := ⟨_, rfl⟩
          obtain ⟨sx, hsx⟩ : ∃ sx, sx = s ik := ⟨_, rfl⟩
          rw [← hcx] at hcC
          rw [← hsx] at hcS
          obtain ⟨y, hy⟩ : ∃ y, y = D.mul cx sx := ⟨_, rfl⟩
          obtain ⟨u, hu⟩ : ∃ u, u = D.ad d y := ⟨_, rfl⟩
          have F' := fld HF.out.1
          have hbx := HX.out.1.below (B := wa.heap.size) HG.out.2 (by have := HX.out.2; omega)
          have k0 := cell_regrown hbx.c0
          have k1 := cell_regrown hbx.c1
          have k2 := cell_regrown hbx.c2
          have k3 := cell_regrown hbx.c3
          have k4 := cell_regrown hbx.c4
          have k5 := cell_regrown hcC
          have k6 := cell_regrown hcS
          have HC1 : Hid (∀ d os, Calls Try.prog 72 #[.agg #[.int .i64 D.q, .int .i64 D.p, .int .i64 D.m, .int .i64 gen, .slice (some ⟨gm, 0, none⟩) (D.m + 1) cm], .int .i64 (cx : Nat), .int .i64 (sx : Nat)] (grow (redrawn wr d) os) fun e w'' => e = .returned (.int .i64 (y : Nat)) ∧ ∃ p : Regrown, w'' = grow (redrawn wr p.d) p.os) := by
            intro d os
            rw [hy]
            exact Calls.regrown_of (rmul_nat HF.out.1 gen HF.out.2.2.2.2.2.2.2.2.1 cx sx (by rw [hcx]; exact HF.out.2.2.2.2.2.2.1 k) (by rw [hsx]; exact HF.out.2.2.2.2.2.1 ik) _ (bel_up' HG.out.2 (below_regrown wr d os)))
          have HC2 : Hid (∀ d' os, Calls Try.prog 71 #[.agg #[.int .i64 D.q, .int .i64 D.p, .int .i64 D.m, .int .i64 gen, .slice (some ⟨gm, 0, none⟩) (D.m + 1) cm], .int .i64 (d : Nat), .int .i64 (y : Nat)] (grow (redrawn wr d') os) fun e w'' => e = .returned (.int .i64 (u : Nat)) ∧ ∃ p : Regrown, w'' = grow (redrawn wr p.d) p.os) := by
            intro d' os
            rw [hu]
            exact Calls.regrown_of (radd_nat HF.out.1 gen (.slice (some ⟨gm, 0, none⟩) (D.m + 1) cm) d y (by rw [HG.out.1]; exact el_mul F' _ _ _ _) (by rw [hy]; exact F'.mul_lt _ _) (grow (redrawn wr d') os))
          have HV : Hid (u = pmul D (k + 1) C s i) := by
            show u = D.ad (pmul D k C s i) (psh k (pscale D (C k) s) i)
            rw [hu, hy, HG.out.1, hcx, hsx, hik]
            unfold psh
            rw [if_pos (by omega)]; rfl
          have HB2 : Hid (Below wa.heap.size wa wr) := HG.out.2
          clear hik hl1 hcC hcS hcx hsx hy hu F' hbx HG
          go_wp2
          refine wp_region_quiet_below (by kernel_rfl) (by kernel_rfl) ?_
          repeat (go_big_quiet_step (first | (go_at_call 72; exact HC1.out _ _) | (go_at_call 71; exact HC2.out _ _)))
          refine wpQuiet_nil ?_
          intro _ hw'
          obtain ⟨⟨dr, osr⟩, hw''⟩ := hw'
          subst hw''
          go_wp2
          go_roundw
          case rel => exact ⟨k + 1, u, by omega, rfl, by go_num, HV.out, bel_up' HB2.out (below_regrown wr dr osr)⟩
          case measure => simp [intOf]; omega
        · have hkb : ¬ (k : Int) < (lr : Int) := by omega
          have hd0 : d = 0 := by rw [HG.out.1, show k = l1 + 1 from by have := HL.out; omega]; exact HF.out.2.2.2.2.2.2.2.1 i hLi hlt
          subst hd0
          go_wp2
          go_roundw
          case rel => exact ⟨i + 1, by omega, by omega, by go_num, HG.out.2⟩
          case measure => simp [intOf]; omega
    · have hib : ¬ (i : Int) < (n : Int) := by omega
      go_wp2
      go_ret
      exact ⟨rfl, bel_up' HF.out.2.2.2.2.2.2.2.2.2 HB.out⟩
end Go.Proofs.Ytnjbnamcedfjaaa

/- 'append' of one number, and where its list lies then. -/
namespace Go.Proofs.Ytnjbnamcedfjaaa
open Go.RowKit Go.Sort

/-- The same, at a step of a region that draws its order. -/
theorem step_append_int_at {ops : Array Oper} {o : Oper} {a : Act} {w : World} {K : Act → World → Prop} {Q : Exit → Act → World → Prop} {E : Prop} (hgd : o.guard = none) (s x : Operand)
    (ho : o.op = .call { callee := .builtin .append, args := #[s, x], argTypes := #[22, 22] })
    (base : Nat) (v : Value) (l : List Int) (hs : a.eval s = v) (hown : OwnI base v l w) (ad : Addr) (c : Nat) (y : Int) (hx : a.eval x = .slice (some ad) 1 c) (hcell : w.cell? ad = some (.int .i64 y))
    (hlen : l.length ≤ 1000000) (hbase : base ≤ w.heap.size)
    (h : ∀ g cap w', OwnI base (.slice (some ⟨g, 0, none⟩) (l.length + 1) cap) (l ++ [y]) w' → w.grownBy w' v.ownBlock → (Value.ownBlock (.slice (some ⟨g, 0, none⟩) (l.length + 1) cap) = v.ownBlock ∨ Value.ownBlock (.slice (some ⟨g, 0, none⟩) (l.length + 1) cap) = some w.heap.size) → K (a.put o.dst (.slice (some ⟨g, 0, none⟩) (l.length + 1) cap)) w') :
    if Region.wanted o (yielded ops a.tmps) = true then Oper.wp Try.prog o a w K Q else E := by
  obtain ⟨i0, hi, hz0, hz1, hz2⟩ := info_parts Try.infoInt
  refine step_append_lies w hgd s x 22 ho base 3 i0 (.int .i64 0) 1 8 Try.underlying22 hi hz0 hz1 hz2 rfl (by decide) v l.length _ hs hown ad 1 c [.int .i64 y] hx rfl ?_ ?_ (by omega) ?_ ?_ hbase _ rfl ?_
  · intro j u hj
    match j, hj with
    | 0, hj =>
      simp at hj; subst hj
      have : ad.add 0 = ad := by cases ad with | mk b o s => cases s <;> simp [Addr.add]
      rw [this]; exact hcell
  · intro u hu; simp at hu; subst hu; rfl
  · unfold maxLen; omega
  · omega
  · intro g cap w' hown' hgrow hat _
    refine h g cap w' ?_ hgrow ?_
    · unfold OwnI
      rw [List.map_append, List.length_append]
      exact hown'
    · rcases hat with e | e
      · exact Or.inl e.symm
      · exact Or.inr (by rw [e]; rfl)
end Go.Proofs.Ytnjbnamcedfjaaa
