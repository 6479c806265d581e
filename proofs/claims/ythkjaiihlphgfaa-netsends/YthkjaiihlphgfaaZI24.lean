/- Texts of ours, one behind the other: I24 W12 S20 KA1 KA2 KA3. -/
import Derived.Test.YthkjaiihlphgfaaZH1
import Derived.Test.YthkjaiihlphgfaaZA1
import Derived.Test.YthkjaiihlphgfaaZR3
import Derived.Test.YthkjaiihlphgfaaZM3
import Derived.Test.YthkjaiihlphgfaaZR14
import Derived.Deep.CutBlock
import Derived.Deep.DeepCutAuto
/- WordMay and Dot of the reference. -/
namespace Go.Proofs.Ythkjaiihlphgfaa
open Go.RowKit Go.Sort

set_option maxHeartbeats 8000000 in
set_option maxRecDepth 100000 in
theorem rdot_any {D : FD} (hD : D ∈ fieldsL) (gen gm cm : Nat) {ao bo : Option Addr} {n ca cb : Nat} {a b : Nat → Nat} {w : World} (hn : n ≤ 1000) (ha : ∀ i, i < n → a i < D.q) (hb : ∀ i, i < n → b i < D.q) (hA : Sl ao n a w) (hla : LtB ao w.heap.size) (hB : Sl bo n b w) (hlb : LtB bo w.heap.size) (hM : ModAt D (.slice (some ⟨gm, 0, none⟩) (D.m + 1) cm) D.md w) :
    Calls Try.prog 13 #[.agg #[.int .i64 D.q, .int .i64 D.p, .int .i64 D.m, .int .i64 gen, .slice (some ⟨gm, 0, none⟩) (D.m + 1) cm], .slice ao n ca, .slice bo n cb] w fun e w' => e = .returned (.int .i64 (dot D a b n : Nat)) ∧ Below w.heap.size w w' := by
  obtain ⟨wa, hwa⟩ : ∃ wa, wa = w.alloc (.cells #[.int .i64 D.q, .int .i64 D.p, .int .i64 D.m, .int .i64 gen, .slice (some ⟨gm, 0, none⟩) (D.m + 1) cm] 31) := ⟨_, rfl⟩
  have hba : Below w.heap.size w wa := by rw [hwa]; exact (Below.refl _ _).alloc (Nat.le_refl _) _
  have HF : Hid (D ∈ fieldsL ∧ Sl ao n a wa ∧ Sl bo n b wa ∧ LtB ao wa.heap.size ∧ LtB bo wa.heap.size ∧ (∀ i, i < n → a i < D.q) ∧ (∀ i, i < n → b i < D.q) ∧ ModAt D (.slice (some ⟨gm, 0, none⟩) (D.m + 1) cm) D.md w ∧ Below w.heap.size w wa) := ⟨hD, hA.below hba hla, hB.below hba hlb, fun x hx => Nat.lt_of_lt_of_le (hla x hx) hba.size, fun x hx => Nat.lt_of_lt_of_le (hlb x hx) hba.size, ha, hb, hM, hba⟩
  have HX : Hid (Box w.heap.size D gen (.slice (some ⟨gm, 0, none⟩) (D.m + 1) cm) wa ∧ wa.heap.size = w.heap.size + 1) := ⟨by rw [hwa]; exact box_new D gen _ w, by rw [hwa]; simp⟩
  clear hD ha hb hA hla hB hlb hM hba
  go_enter Try.func13, Try.ntmps13
  go_wp2
  rw [← hwa]
  clear hwa
  go_loopw [7, 8] (fun vs vi wr => ∃ i s : Nat, i ≤ n ∧ vs = .int .i64 (s : Nat) ∧ vi = .int .i64 i ∧ Hid (s = dot D a b i ∧ Below wa.heap.size wa wr)) (fun _ vi _ => n - (intOf vi).toNat)
  case atStart => exact ⟨0, 0, by omega, rfl, rfl, rfl, Below.refl _ _⟩
  case round =>
    obtain ⟨i, s, hi, rfl, rfl, HG⟩ := hrel
    rename World => wr
    by_cases hlt : i < n
    · have hib : (i : Int) < (n : Int) := by omega
      have hib0 : (0 : Int) ≤ (i : Int) := by omega
      obtain ⟨bx, ox, hxo, hcx⟩ := (HF.out.2.1.below HG.out.2 HF.out.2.2.2.1) i hlt
      subst hxo
      obtain ⟨bY, oY, hyo, hcy⟩ := (HF.out.2.2.1.below HG.out.2 HF.out.2.2.2.2.1) i hlt
      subst hyo
      obtain ⟨x, hx⟩ : ∃ x, x = a i := ⟨_, rfl⟩
      obtain ⟨y, hy⟩ : ∃ y, y = b i := ⟨_, rfl⟩
      rw [← hx] at hcx
      rw [← hy] at hcy
      have F := fld HF.out.1
      obtain ⟨p, hp⟩ : ∃ p, p = D.mul x y := ⟨_, rfl⟩
      obtain ⟨u, hu⟩ : ∃ u, u = D.ad s p := ⟨_, rfl⟩
      have hxq : x < D.q := by rw [hx]; exact HF.out.2.2.2.2.2.1 i hlt
      have hyq : y < D.q := by rw [hy]; exact HF.out.2.2.2.2.2.2.1 i hlt
      have hsq : s < D.q := by rw [HG.out.1]; exact dot_lt F _ _ _
      have hpq : p < D.q := by rw [hp]; exact F.mul_lt _ _
      have hbx := HX.out.1.below HG.out.2 (by have := HX.out.2; omega)
      have k0 := cell_regrown hbx.c0
      have k1 := cell_regrown hbx.c1
      have k2 := cell_regrown hbx.c2
      have k3 := cell_regrown hbx.c3
      have k4 := cell_regrown hbx.c4
      have k5 := cell_regrown hcx
      have k6 := cell_regrown hcy
      have hbw : Below w.heap.size w wr := bel_up' HF.out.2.2.2.2.2.2.2.2 HG.out.2
      have HC1 : Hid (∀ d os, Calls Try.prog 54 #[.agg #[.int .i64 D.q, .int .i64 D.p, .int .i64 D.m, .int .i64 gen, .slice (some ⟨gm, 0, none⟩) (D.m + 1) cm], .int .i64 (x : Nat), .int .i64 (y : Nat)] (grow (redrawn wr d) os) fun e w'' => e = .returned (.int .i64 (p : Nat)) ∧ ∃ p : Regrown, w'' = grow (redrawn wr p.d) p.os) := fun d os => by
        rw [hp]
        exact Calls.regrown_of (rmul_nat HF.out.1 gen HF.out.2.2.2.2.2.2.2.1 x y hxq hyq _ (bel_up' hbw (below_regrown wr d os)))
      have HC2 : Hid (∀ d os, Calls Try.prog 53 #[.agg #[.int .i64 D.q, .int .i64 D.p, .int .i64 D.m, .int .i64 gen, .slice (some ⟨gm, 0, none⟩) (D.m + 1) cm], .int .i64 (s : Nat), .int .i64 (p : Nat)] (grow (redrawn wr d) os) fun e w'' => e = .returned (.int .i64 (u : Nat)) ∧ ∃ p : Regrown, w'' = grow (redrawn wr p.d) p.os) := fun d os => by
        have h := radd_nat HF.out.1 gen (.slice (some ⟨gm, 0, none⟩) (D.m + 1) cm) s p hsq hpq (grow (redrawn wr d) os)
        rw [hu]
        exact Calls.regrown_of h
      have HV : Hid (u = dot D a b (i + 1) ∧ Below wa.heap.size wa wr) := ⟨by rw [hu, hp, hx, hy, HG.out.1]; rfl, HG.out.2⟩
      clear hx hy hp hu hbx hbw F hcx hcy HG
      go_wp2
      refine wp_region_quiet_below (by kernel_rfl) (by kernel_rfl) ?_
      repeat (go_big_quiet_step (first | (go_at_call 54; exact HC1.out _ _) | (go_at_call 53; exact HC2.out _ _)))
      refine wpQuiet_nil ?_
      intro _ hw'
      obtain ⟨⟨dr, osr⟩, hw''⟩ := hw'
      subst hw''
      go_wp2
      go_roundw
      case rel => exact ⟨i + 1, u, by omega, rfl, by go_num, HV.out.1, bel_up' HV.out.2 (below_regrown wr dr osr)⟩
      case measure => simp [intOf]; omega
    · have hib : ¬ (i : Int) < (n : Int) := by omega
      have hre : n = i := by omega
      subst hre
      have H3 : Hid (Below w.heap.size w wr) := bel_up' HF.out.2.2.2.2.2.2.2.2 HG.out.2
      go_wp2
      go_ret
      exact ⟨by rw [HG.out.1]; rfl, H3.out⟩
end Go.Proofs.Ythkjaiihlphgfaa

/- A region that draws its order: one of two operations comes next. No Go text here. -/
namespace Go.Proofs.Ythkjaiihlphgfaa
open Go

/-- One of two may come now. -/
theorem wpAnyX_two {P : Program} {ops : Array Oper} {Q : Exit → Act → World → Prop} {S : World → Prop} {L i k : Nat} {o o' : Oper} {f : Nat} {s : Array Bool} {a : Act} {w : World} (hr : Region.ready .any ops s = [i, k]) (ho : ops[i]? = some o) (ho' : ops[k]? = some o')
    (h : ∀ K : Act → World → Prop, (∀ a' w', (i ≠ L → S w') → wpAnyX P ops Q S L f (s.setIfInBounds i true) a' w' → K a' w') → if Region.wanted o (yielded ops a.tmps) = true then Oper.wp P o a w K Q else K (a.put o.dst undef) w)
    (h' : ∀ K : Act → World → Prop, (∀ a' w', (k ≠ L → S w') → wpAnyX P ops Q S L f (s.setIfInBounds k true) a' w' → K a' w') → if Region.wanted o' (yielded ops a.tmps) = true then Oper.wp P o' a w K Q else K (a.put o'.dst undef) w) : wpAnyX P ops Q S L (f + 1) s a w := by
  refine ⟨fun e => (by rw [hr] at e; cases e), fun j hj => ?_⟩
  rw [hr, List.mem_cons, List.mem_singleton] at hj
  rcases hj with hj | hj
  · subst hj
    have h1 := h (fun a' w' => (j ≠ L → S w') ∧ wpAnyX P ops Q S L f (s.setIfInBounds j true) a' w') (fun a' w' h1 h2 => ⟨h1, h2⟩)
    unfold wpOp
    simp only [ho]
    split
    · rename_i hw
      rw [if_pos hw] at h1
      exact Or.inl h1
    · rename_i hw
      rw [if_neg hw] at h1
      exact h1
  · subst hj
    have h1 := h' (fun a' w' => (j ≠ L → S w') ∧ wpAnyX P ops Q S L f (s.setIfInBounds j true) a' w') (fun a' w' h1 h2 => ⟨h1, h2⟩)
    unfold wpOp
    simp only [ho']
    split
    · rename_i hw
      rw [if_pos hw] at h1
      exact Or.inl h1
    · rename_i hw
      rw [if_neg hw] at h1
      exact h1
end Go.Proofs.Ythkjaiihlphgfaa

/- Plain mathematics: how many sets there are; Krawtchouk's numbers. No Go text here. -/
namespace Go.Proofs.Ythkjaiihlphgfaa

end Go.Proofs.Ythkjaiihlphgfaa

/- Weights: powers and numbers of sets (the program's power, over). -/
namespace Go.Proofs.Ythkjaiihlphgfaa
open Go.RowKit

end Go.Proofs.Ythkjaiihlphgfaa

/- Weights: Krawtchouk's numbers (the program's krawtchouk). -/
namespace Go.Proofs.Ythkjaiihlphgfaa
open Go.RowKit

end Go.Proofs.Ythkjaiihlphgfaa

/- Weights: Krawtchouk's numbers (the reference's Kraw). -/
namespace Go.Proofs.Ythkjaiihlphgfaa
open Go.RowKit

end Go.Proofs.Ythkjaiihlphgfaa
