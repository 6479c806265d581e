/- Texts of ours, one behind the other: I6 I7 I8 I9 I10 I11 I12 I13 I14 I15 I16 I17 I18 I19 I20 I21. -/
import Derived.Test.YtdfneklnpghhmaaGreatDoorZW11
import Derived.Test.YtdfneklnpghhmaaGreatDoorZU2
import Derived.Test.YtdfneklnpghhmaaGreatDoorZX12
import Derived.Test.YtdfneklnpghhmaaGreatDoorZO2
/- Codes: a word, and another one so many times (span.Plus). -/
namespace Go.Proofs.YtdfneklnpghhmaaGreatDoor
open Go.RowKit Go.Sort

/-- The first r numbers have been added to. -/
def pup (D : FD) (a b : Nat → Nat) (x r : Nat) : Nat → Nat := fun j => if j < r then D.ad (a j) (D.mul x (b j)) else a j

set_option maxHeartbeats 4000000 in
set_option maxRecDepth 100000 in
theorem plus_any {F T : Nat} {D : FD} (hD : D ∈ fieldsL) {g : Nat → Value} {w : World} (hat : FAt F T D g w) {ao bo : Option Addr} {n ca cb x : Nat} {a b : Nat → Nat} (hn1 : 1 ≤ n) (hn : n ≤ 1000) (hx : x < D.q) (ha : El D a) (hb : El D b) (hA : Sl ao n a w) (hla : LtB ao w.heap.size) (hna : ao = none → ca = 0) (hB : Sl bo n b w) (hlb : LtB bo w.heap.size) :
    Calls Tryz.prog 73 #[.pointer (some ⟨F, 0, none⟩), .slice ao n ca, .int .i64 (x : Nat), .slice bo n cb] w fun e w' => ∃ gr c, e = .returned (.slice (some ⟨gr, 0, none⟩) n c) ∧ w.heap.size ≤ gr ∧ n ≤ c ∧ c ≤ 9223372036854775807 ∧ Row gr n (padd D a (pscale D x b)) w' ∧ Below w.heap.size w w' := by
  have HF : Hid (D ∈ fieldsL ∧ FAt F T D g w ∧ x < D.q ∧ El D a ∧ El D b ∧ Sl ao n a w ∧ LtB ao w.heap.size ∧ (ao = none → ca = 0) ∧ Sl bo n b w ∧ LtB bo w.heap.size) := ⟨hD, hat, hx, ha, hb, hA, hla, hna, hB, hlb⟩
  clear hD hat hx ha hb hA hla hna hB hlb
  go_enter Tryz.func73, Tryz.ntmps73
  go_wp2_with fail
  refine (clone_any HF.out.2.2.2.2.2.1 (by omega) HF.out.2.2.2.2.2.2.2.1 HF.out.2.2.2.2.2.2.1).mono ?_
  rintro e w1 ⟨v, rfl, hov, hb1⟩
  obtain ⟨vo, vc, hv, hc1, hc2, hge, hlt, _, hrow⟩ := hov
  obtain ⟨gr, hgr, hrw⟩ := hrow (by omega)
  clear hrow
  subst hgr
  subst hv
  have hG := hge _ rfl
  have H1 : Hid (Row gr n a w1 ∧ Below w.heap.size w w1 ∧ w.heap.size ≤ gr) := ⟨hrw, hb1, hG⟩
  have hG' : w.heap.size ≤ gr := hG
  clear hge hlt hrw hb1 hG
  go_wp2
  go_loopw [16] (fun i wr => ∃ r : Nat, r ≤ n ∧ i = .int .i64 r ∧ Hid (Row gr n (pup D a b x r) wr ∧ Below w.heap.size w wr)) (fun i _ => n - (intOf i).toNat)
  case atStart => exact ⟨0, by omega, rfl, H1.out.1.congr (fun j _ => by unfold pup; rw [if_neg (by omega)]), H1.out.2.1⟩
  case round =>
    obtain ⟨r, hr, rfl, HG⟩ := hrel
    rename World => wA
    by_cases hlt : r < n
    · have hib : (r : Int) < (n : Int) := by omega
      obtain ⟨bb, ob, hbo, hcb⟩ := (HF.out.2.2.2.2.2.2.2.2.1.below HG.out.2 HF.out.2.2.2.2.2.2.2.2.2) r hlt
      subst hbo
      obtain ⟨y, hy⟩ : ∃ y, y = b r := ⟨_, rfl⟩
      rw [← hy] at hcb
      have hco : wA.cell? ⟨gr, r, none⟩ = some (.int .i64 (a r : Nat)) := by
        have h := HG.out.1.cell r hlt
        unfold pup at h
        rw [if_neg (by omega)] at h; exact h
      have hfo := HG.out.1.free r
      obtain ⟨u, hu⟩ : ∃ u, u = a r := ⟨_, rfl⟩
      rw [← hu] at hco
      obtain ⟨p, hp⟩ : ∃ p, p = D.mul x y := ⟨_, rfl⟩
      obtain ⟨z, hz⟩ : ∃ z, z = D.ad u p := ⟨_, rfl⟩
      have hatA := HF.out.2.1.below HG.out.2 HF.out.2.1.ltF HF.out.2.1.ltT
      have HC1 : Hid (∀ d, Calls Tryz.prog 99 #[.pointer (some ⟨F, 0, none⟩), .int .i64 (x : Nat), .int .i64 (y : Nat)] (wA.drewN d) fun e w' => e = .returned (.int .i64 (p : Nat)) ∧ ∃ k, w' = (wA.drewN d).drewN k) := fun d => by
        rw [hp]
        exact mul_nat HF.out.1 (hatA.drewN d) HF.out.2.2.1 (by rw [hy]; exact HF.out.2.2.2.2.1 r)
      have HC2 : Hid (∀ d, Calls Tryz.prog 98 #[.pointer (some ⟨F, 0, none⟩), .int .i64 (u : Nat), .int .i64 (p : Nat)] (wA.drewN d) fun e w' => e = .returned (.int .i64 (z : Nat)) ∧ ∃ k, w' = (wA.drewN d).drewN k) := fun d => by
        rw [hz]
        exact add_nat HF.out.1 (hatA.drewN d) (by rw [hu]; exact HF.out.2.2.2.1 r) (by rw [hp]; exact (fld HF.out.1).mul_lt _ _)
      have HV : Hid (Row gr n (pup D a b x r) wA ∧ Below w.heap.size w wA ∧ z = D.ad (a r) (D.mul x (b r))) := ⟨HG.out.1, HG.out.2, by rw [hz, hp, hu, hy]⟩
      clear hy hu hp hz hatA HG
      go_wp2
      refine quiet_tail 13 (by kernel_rfl) (by kernel_rfl) ?_
      simp only [List.take_succ_cons, List.take_zero, List.drop_succ_cons, List.drop_zero]
      repeat (go_big_quiet_step (first | (go_at_call 99; exact Calls.quiet_of (HC1.out _)) | (go_at_call 98; exact Calls.quiet_of (HC2.out _))))
      refine wpQuiet_nil ?_
      intro _ hw'
      obtain ⟨nq, hw''⟩ := hw'
      subst hw''
      go_wp2
      go_roundw
      case rel =>
        refine ⟨r + 1, by omega, by go_num, (HV.out.1.drewN nq).store r z (fun k _ => ?_), (below_drewN2 HV.out.2.1 nq).setCell (by omega) _⟩
        unfold pup
        by_cases e : k = r
        · rw [if_pos (by omega), if_pos e, e]; exact HV.out.2.2.symm
        · rw [if_neg e]
          by_cases e2 : k < r
          · rw [if_pos (by omega), if_pos e2]
          · rw [if_neg (by omega), if_neg e2]
      case measure => simp [intOf]; omega
    · have hib : ¬ (r : Int) < (n : Int) := by omega
      have hrn : r = n := by omega
      subst hrn
      have HE : Hid (Row gr r (padd D a (pscale D x b)) wA ∧ Below w.heap.size w wA) := ⟨HG.out.1.congr (fun j hj => by unfold pup; rw [if_pos hj]; rfl), HG.out.2⟩
      go_wp2
      go_ret
      exact ⟨_, _, rfl, hG', hc1, hc2, HE.out⟩
end Go.Proofs.YtdfneklnpghhmaaGreatDoor

/- Sums of codes: plain mathematics. -/
namespace Go.Proofs.YtdfneklnpghhmaaGreatDoor
open Go.RowKit

end Go.Proofs.YtdfneklnpghhmaaGreatDoor

/- Sums of codes: what is left of rows (the program's sum), its state. -/
namespace Go.Proofs.YtdfneklnpghhmaaGreatDoor
open Go.RowKit Go.Sort

/-- A row that a matrix has, told as it lies. -/
theorem CdZ.row {D : FD} (F : Fld D) {ao : Option Addr} {m n : Nat} {A : Nat → Option Addr} {N C : Nat → Nat} {Z : Nat → Nat → Int} {w : World} (h : CdZ D ao m n A N C Z w) (i : Nat) (hi : i < m) : ∃ b off c, ao = some ⟨b, off, none⟩ ∧ w.cell? ⟨b, off + i, none⟩ = some (.slice (A i) n c) ∧ Sl (A i) n (mzc N Z i) w ∧ LtB (A i) w.heap.size ∧ (A i = none → c = 0) ∧ n ≤ c ∧ c ≤ 9223372036854775807 := by
  obtain ⟨_, _, _, hm⟩ := h.rows F
  have hn := h.n1
  obtain ⟨b, off, u, e, hc, A', ca', eu, hs, hl, h1, h2, h3⟩ := hm i hi
  obtain ⟨b', off', e', hc'⟩ := h.mat.cell i hi
  rw [e] at e'
  cases e'
  rw [hc, eu] at hc'
  have hc2 := Option.some.inj hc'
  simp only [Value.slice.injEq] at hc2
  obtain ⟨rfl, _, _⟩ := hc2
  rw [show n - 1 + 1 = n from by omega] at eu hs h2
  exact ⟨b, off, ca', e, by rw [hc, eu], hs, hl, h1, h2, h3⟩
end Go.Proofs.YtdfneklnpghhmaaGreatDoor

/- Sums of codes: the program's sum. -/
namespace Go.Proofs.YtdfneklnpghhmaaGreatDoor
open Go.RowKit Go.Sort

end Go.Proofs.YtdfneklnpghhmaaGreatDoor

/- Sums of codes and what both have: the program's checkBoth, Sum, Meet. -/
namespace Go.Proofs.YtdfneklnpghhmaaGreatDoor
open Go.RowKit Go.Sort

theorem two_boxes (qa na qb nb : Int) (va vb : Value) (w : World) : Below w.heap.size w ((w.alloc (.cells #[.int .i64 qa, .int .i64 na, va] 24)).alloc (.cells #[.int .i64 qb, .int .i64 nb, vb] 24)) ∧ CB w.heap.size qa na va ((w.alloc (.cells #[.int .i64 qa, .int .i64 na, va] 24)).alloc (.cells #[.int .i64 qb, .int .i64 nb, vb] 24)) ∧ CB (w.heap.size + 1) qb nb vb ((w.alloc (.cells #[.int .i64 qa, .int .i64 na, va] 24)).alloc (.cells #[.int .i64 qb, .int .i64 nb, vb] 24)) ∧ ((w.alloc (.cells #[.int .i64 qa, .int .i64 na, va] 24)).alloc (.cells #[.int .i64 qb, .int .i64 nb, vb] 24)).heap.size = w.heap.size + 2 := by
  have hs1 : (w.alloc (.cells #[.int .i64 qa, .int .i64 na, va] 24)).heap.size = w.heap.size + 1 := by simp
  have h1 := CB.new qa na va w
  have h2 := CB.new qb nb vb (w.alloc (.cells #[.int .i64 qa, .int .i64 na, va] 24))
  have b1 : Below (w.alloc (.cells #[.int .i64 qa, .int .i64 na, va] 24)).heap.size (w.alloc (.cells #[.int .i64 qa, .int .i64 na, va] 24)) ((w.alloc (.cells #[.int .i64 qa, .int .i64 na, va] 24)).alloc (.cells #[.int .i64 qb, .int .i64 nb, vb] 24)) := (Below.refl _ _).alloc (Nat.le_refl _) _
  rw [hs1] at h2
  exact ⟨bel_up' ((Below.refl _ _).alloc (Nat.le_refl _) _) b1, h1.keep b1, h2, by simp⟩

end Go.Proofs.YtdfneklnpghhmaaGreatDoor

/- Sums of codes and what both have: the program's Sum and Meet of codes that may be. -/
namespace Go.Proofs.YtdfneklnpghhmaaGreatDoor
open Go.RowKit Go.Sort

end Go.Proofs.YtdfneklnpghhmaaGreatDoor

/- Codes: one form and the dual, of the reference (Made, DualOf). -/
namespace Go.Proofs.YtdfneklnpghhmaaGreatDoor
open Go.RowKit Go.Sort

/-- Block b holds a code's cells. -/
def RBt (b : Nat) (w : World) : Prop := ∃ cs, w.heap[b]? = some (.cells cs 24 (0, 0))
theorem RBt.new (cs : Array Value) (w : World) : RBt w.heap.size (w.alloc (.cells cs 24)) := ⟨cs, two_new _⟩
theorem RBt.keep {b : Nat} {w w' : World} (h : RBt b w) (hb : Below w.heap.size w w') : RBt b w' := by
  obtain ⟨cs, h⟩ := h
  exact ⟨cs, by rw [hb.block b (lt_of_block h)]; exact h⟩
theorem Row.notCode {g N b : Nat} {c : Nat → Nat} {w : World} (h : Row g N c w) (ht : RBt b w) : g ≠ b := by
  obtain ⟨cap, f, ⟨cs, h1, _⟩, _⟩ := h
  obtain ⟨ds, h2⟩ := ht
  intro e
  rw [e, h2] at h1
  simp at h1
theorem OwnV.notCode {base b : Nat} {v : Value} {l : List Value} {w : World} (h : OwnV base v l w) (ht : RBt b w) : ∀ g, v.ownBlock = some g → g ≠ b := by
  intro g hg e
  rcases h.2 with ⟨h1, _⟩ | ⟨g', cap, cur, hv, _, hh, _⟩
  · rw [h1] at hg; cases hg
  · rw [hv] at hg
    have hg : some g' = some g := hg
    cases hg
    obtain ⟨ds, h2⟩ := ht
    rw [e, h2] at hh
    simp at hh
theorem OwnV.same {base : Nat} {v : Value} {l : List Value} {w w' : World} (h : OwnV base v l w) (hb : ∀ g, v.ownBlock = some g → w'.heap[g]? = w.heap[g]?) : OwnV base v l w' := by
  obtain ⟨h1, h2⟩ := h
  refine ⟨h1, ?_⟩
  rcases h2 with h2 | ⟨g, cap, cur, hv, hg, hh, r⟩
  · exact Or.inl h2
  · exact Or.inr ⟨g, cap, cur, hv, hg, by rw [hb g (by rw [hv]; rfl)]; exact hh, r⟩
theorem LLs.slc {base : Nat} {v : Value} {L : List (Nat × (Nat → Nat))} {w : World} (h : LLs base v L w) : ∃ ao cap, v = .slice ao L.length cap := by
  obtain ⟨l, h1, h2⟩ := h
  obtain ⟨ao, cap, e, _⟩ := h1.open
  rw [h2.1] at e
  exact ⟨ao, cap, e⟩
theorem LLs.laid {base b : Nat} {v : Value} {L : List (Nat × (Nat → Nat))} {w : World} (h : LLs base v L w) (ht : RBt b w) (q n : Int) (u : Value) : LLs base v L (laid w b q n u) := by
  obtain ⟨l, h1, h2⟩ := h
  refine ⟨l, h1.same (fun g hg => laid_heap w b q n u (h1.notCode ht g hg)), h2.1, fun j x p hx hp => ?_⟩
  obtain ⟨g, cap, e, a1, a2, hr⟩ := h2.2 j x p hx hp
  exact ⟨g, cap, e, a1, a2, hr.other (laid_heap w b q n u (hr.notCode ht))⟩

set_option maxHeartbeats 4000000 in
set_option maxRecDepth 100000 in
theorem made_any {D : FD} (hD : D ∈ fieldsL) {ao : Option Addr} {m n n1 ca : Nat} {M : Nat → Nat → Nat} {w : World} (hm : m ≤ 1000) (hn : n ≤ 64) (hnn : n = n1 + 1) (hel : ∀ i, i < m → El D (M i) ∧ Bd (n1 + 1) (M i)) (hA : MatR ao m n1 M w) :
    Calls Tryz.prog 12 #[.agg #[.int .i64 D.q, .int .i64 (n : Nat), .slice ao m ca]] w fun e w' => ∃ k R ro rc, e = .returned (.agg #[.int .i64 D.q, .int .i64 (n : Nat), .slice ro k rc]) ∧ LLs w.heap.size (.slice ro k rc) (rl k n1 R) w' ∧ Red D n m M k R ∧ Below w.heap.size w w' := by
  obtain ⟨w0, hw0⟩ : ∃ w0, w0 = (w.alloc (.cells #[.int .i64 D.q, .int .i64 (n : Nat), .slice ao m ca] 24)).alloc (.cells #[.int .i64 0, .int .i64 0, .slice none 0 0] 24) := ⟨_, rfl⟩
  have HW : Hid (Below w.heap.size w w0 ∧ CB w.heap.size D.q n (.slice ao m ca) w0 ∧ RB (w.heap.size + 1) w0 ∧ RBt (w.heap.size + 1) w0 ∧ w0.heap.size = w.heap.size + 2) := by
    obtain ⟨h1, h2, _, h4⟩ := two_boxes D.q n 0 0 (.slice ao m ca) (.slice none 0 0) w
    have hs1 : (w.alloc (.cells #[.int .i64 D.q, .int .i64 (n : Nat), .slice ao m ca] 24)).heap.size = w.heap.size + 1 := by simp
    have h5 := RB.new (.int .i64 0) (.int .i64 0) (.slice none 0 0) (w.alloc (.cells #[.int .i64 D.q, .int .i64 (n : Nat), .slice ao m ca] 24))
    have h6 := RBt.new #[.int .i64 0, .int .i64 0, .slice none 0 0] (w.alloc (.cells #[.int .i64 D.q, .int .i64 (n : Nat), .slice ao m ca] 24))
    rw [hs1] at h5 h6
    rw [hw0]; exact ⟨h1, h2, h5, h6, h4⟩
  have HA : Hid (D ∈ fieldsL ∧ (∀ i, i < m → El D (M i) ∧ Bd (n1 + 1) (M i)) ∧ MatR ao m n1 M w ∧ n = n1 + 1) := ⟨hD, hel, hA, hnn⟩
  have hn1 : n1 ≤ 900 := by omega
  clear hD hel hA hnn
  go_enter Tryz.func12, Tryz.ntmps12
  go_wp2_with fail
  rw [← hw0]
  clear hw0
  refine (rfield_sl HA.out.1 w0).mono ?_
  rintro e w1 ⟨gm, cm, rfl, hmod, hb1⟩
  unfold rf
  obtain ⟨wb, hwb⟩ : ∃ wb, wb = w1.alloc (.cells #[.int .i64 D.q, .int .i64 D.p, .int .i64 D.m, .int .i64 D.gen, .slice (some ⟨gm, 0, none⟩) (D.m + 1) cm] 65) := ⟨_, rfl⟩
  have hbb : Below w1.heap.size w1 wb := by rw [hwb]; exact (Below.refl _ _).alloc (Nat.le_refl _) _
  have H1 : Hid (Below w.heap.size w wb ∧ CB w.heap.size D.q n (.slice ao m ca) wb ∧ RB (w.heap.size + 1) wb ∧ RBt (w.heap.size + 1) wb ∧ ModAt D (.slice (some ⟨gm, 0, none⟩) (D.m + 1) cm) D.md wb ∧ w.heap.size + 2 ≤ wb.heap.size) := by
    have hb2 := bel_up' hb1 hbb
    exact ⟨bel_up' HW.out.1 hb2, HW.out.2.1.keep hb2, HW.out.2.2.1.keep hb2, HW.out.2.2.2.1.keep hb2, hmod.below hbb, by have := hb2.size; have := HW.out.2.2.2.2; omega⟩
  have hcb1 := HW.out.2.1.keep hb1
  obtain ⟨a0, a1, a2⟩ := hcb1
  have hlt := cell_lt a0
  have hlt : w.heap.size < w1.heap.size := hlt
  clear hmod hb1 hbb
  go_wp2_with fail
  rw [← hwb]
  clear hwb a0 a1 a2
  refine (rreduce_any HA.out.1 D.gen gm cm hm (by omega) HA.out.2.1 (HA.out.2.2.1.below H1.out.1) H1.out.2.2.2.2.1).mono ?_
  rintro e w2 ⟨vr, vp, k, R, p, rfl, hk, hvr, hvp, hre, hsp, _, hb2⟩
  obtain ⟨ro, rc, hv⟩ := hvr.slc
  rw [rl_len] at hv
  subst hv
  have H2 : Hid (LLs wb.heap.size (.slice ro k rc) (rl k n1 R) w2 ∧ Red D n m M k R ∧ Below w.heap.size w w2 ∧ CB w.heap.size D.q n (.slice ao m ca) w2 ∧ RB (w.heap.size + 1) w2 ∧ RBt (w.heap.size + 1) w2) := by
    refine ⟨hvr, ⟨p, ?_, hsp⟩, bel_up' H1.out.1 hb2, H1.out.2.1.keep hb2, H1.out.2.2.1.keep hb2, H1.out.2.2.2.1.keep hb2⟩
    rw [HA.out.2.2.2]; exact hre
  clear hk hvr hvp hre hsp hb2
  have hcb2 := H2.out.2.2.2.1
  obtain ⟨a0, a1, a2⟩ := hcb2
  obtain ⟨⟨x0, c0⟩, ⟨x1, c1⟩, ⟨x2, c2⟩, f0, f1, f2⟩ := H2.out.2.2.2.2.1
  go_wp2
  obtain ⟨w3, hw3⟩ : ∃ w3, w3 = laid w2 (w.heap.size + 1) D.q n (.slice ro k rc) := ⟨_, rfl⟩
  have H3 : Hid (CB (w.heap.size + 1) D.q n (.slice ro k rc) w3 ∧ LLs w.heap.size (.slice ro k rc) (rl k n1 R) w3 ∧ Below w.heap.size w w3) := by
    have := H1.out.2.2.2.2.2
    rw [hw3]; exact ⟨laid_cb H2.out.2.2.2.2.1 _ _ _, (H2.out.1.laid H2.out.2.2.2.2.2 _ _ _).mono (by omega), laid_below H2.out.2.2.1 (by omega) _ _ _⟩
  unfold laid at hw3
  rw [← hw3]
  clear hw3 c0 c1 c2 f0 f1 f2 a0 a1 a2
  obtain ⟨c0, c1, c2⟩ := H3.out.1
  refine bodyPost_ret (v := .agg #[.int .i64 D.q, .int .i64 (n : Nat), .slice ro k rc]) (by simp [results, Tryz.results12, go_sem, c0, c1, c2]) rfl ?_
  exact ⟨_, R, _, _, rfl, H3.out.2.1, H2.out.2.1, H3.out.2.2⟩
end Go.Proofs.YtdfneklnpghhmaaGreatDoor

/- Codes: rows of two codes in one list; what both have, of the reference (Both). -/
namespace Go.Proofs.YtdfneklnpghhmaaGreatDoor
open Go.RowKit Go.Sort

theorem Rwv.keep {u : Value} {n : Nat} {c : Nat → Nat} {w w' : World} (h : Rwv u n c w) (hb : Below w.heap.size w w') : Rwv u n c w' := by
  obtain ⟨A, ca, e, hs, hl, h1, h2, h3⟩ := h
  exact ⟨A, ca, e, hs.below hb hl, hl.mono hb.size, h1, h2, h3⟩
end Go.Proofs.YtdfneklnpghhmaaGreatDoor

/- CodePairs: codes held against one another; the ways on which there is nothing. -/
namespace Go.Proofs.YtdfneklnpghhmaaGreatDoor
open Go.RowKit Go.Sort

end Go.Proofs.YtdfneklnpghhmaaGreatDoor

/- CodePairs: the way of an error. -/
namespace Go.Proofs.YtdfneklnpghhmaaGreatDoor
open Go.RowKit Go.Sort

end Go.Proofs.YtdfneklnpghhmaaGreatDoor

/- CodePairs: two codes that may be. -/
namespace Go.Proofs.YtdfneklnpghhmaaGreatDoor
open Go.RowKit Go.Sort

theorem RB.of {b : Nat} {q n : Int} {v : Value} {w : World} (h : CB b q n v w) (ht : RBt b w) : RB b w := by
  obtain ⟨cs, hh⟩ := ht
  exact ⟨⟨_, h.c0⟩, ⟨_, h.c1⟩, ⟨_, h.c2⟩, frozen_of_row _ _ _ _ _ hh, frozen_of_row _ _ _ _ _ hh, frozen_of_row _ _ _ _ _ hh⟩
end Go.Proofs.YtdfneklnpghhmaaGreatDoor

/- CodePairs: whatever is handed in. -/
namespace Go.Proofs.YtdfneklnpghhmaaGreatDoor
open Go.RowKit Go.Sort

theorem heavy_below {ao : Option Addr} {m ca : Nat} {A : Nat → Option Addr} {N C : Nat → Nat} {Z : Nat → Nat → Int} {w : World} (h : MatO ao m A N C Z w) (hm : m ≤ 17592186044416) (hN : ∀ i, i < m → N i ≤ 17592186044416) (wx : World) (hx : Below w.heap.size w wx) :
    Calls Tryz.prog 5 #[.slice ao m ca] wx fun r w' => r = .returned (.bool (decide (6000 < hvs N m m))) ∧ w' = wx :=
  heavy_any (A := A) (C := C) (fun i hi => by
    obtain ⟨b, off, e, hc⟩ := h.cell i hi
    exact ⟨b, off, e, ((bcell hx).1 b (off + i) (cell_lt hc)).trans hc⟩) hm hN

/-- What both sides say of a code, and what it is if they say 0. -/
theorem code_may (q n : Int) {ao : Option Addr} {m : Nat} (ca : Nat) {A : Nat → Option Addr} {N C : Nat → Nat} {Z : Nat → Nat → Int} {w : World} (hA : MatZ ao m A N C Z w) (hm : m ≤ 1000000) :
    ∃ ea : Int, (∀ wx, Below w.heap.size w wx → Calls Tryz.prog 47 #[.agg #[.int .i64 q, .int .i64 n, .slice ao m ca]] wx fun e w' => e = .returned (.int .i64 ea) ∧ Below wx.heap.size wx w') ∧
      (∀ wx, Below w.heap.size w wx → Calls Tryz.prog 19 #[.agg #[.int .i64 q, .int .i64 n, .slice ao m ca]] wx fun e w' => e = .returned (.int .i64 ea) ∧ Below wx.heap.size wx w') ∧
      (ea = 0 → ∃ D ∈ fieldsL, q = (D.q : Int) ∧ ∃ n' : Nat, n = (n' : Int) ∧ CdZ D ao m n' A N C Z w) := by
  by_cases h : ∃ D ∈ fieldsL, (D.q : Int) = q
  · obtain ⟨D, hD, rfl⟩ := h
    refine ⟨D.cchk n m N Z, fun wx hx => ccheck_any hD n (hA.below hx) hm, fun wx hx => rcodeMay_any hD n (hA.below hx) hm, fun e => ⟨D, hD, rfl, n.toNat, ?_, hA, ?_, ?_, ?_, ?_⟩⟩
    all_goals
      unfold FD.cchk at e
      split at e
      · omega
      · split at e
        · first | contradiction | omega
        · split at e
          · omega
          · first | omega | (intro h0; have : ¬ (0 < m ∧ ((N 0 : Nat) : Int) ≠ n) := by assumption
                             have h1 : ((N 0 : Nat) : Int) = n := Classical.byContradiction (fun hc => this ⟨h0, hc⟩)
                             omega) | (have : ¬ (D.mchk m N Z ≠ 0) := by assumption
                                       exact Classical.byContradiction this)
  · have h' : ∀ D ∈ fieldsL, (D.q : Int) ≠ q := fun D hD e => h ⟨D, hD, e⟩
    exact ⟨1, fun wx _ => ccheck_none q h' n ao m ca wx, fun wx _ => rcodeMay_none q h' n ao m ca wx, fun e => by omega⟩

end Go.Proofs.YtdfneklnpghhmaaGreatDoor

/- Make and Dual, with their checks. -/
namespace Go.Proofs.YtdfneklnpghhmaaGreatDoor
open Go.RowKit Go.Sort

set_option maxHeartbeats 4000000 in
set_option maxRecDepth 100000 in
theorem cMake_err (e : Int) (he : e ≠ 0) (q n : Int) {ao : Option Addr} {m ca : Nat} {w : World}
    (hC : ∀ wx, Below w.heap.size w wx → Calls Tryz.prog 47 #[.agg #[.int .i64 q, .int .i64 n, .slice ao m ca]] wx fun x w' => x = .returned (.int .i64 e) ∧ Below wx.heap.size wx w') :
    Calls Tryz.prog 26 #[.agg #[.int .i64 q, .int .i64 n, .slice ao m ca]] w fun x w' => x = .returned (.tuple #[.agg #[.int .i64 0, .int .i64 0, .slice none 0 0], .int .i64 e]) ∧ Below w.heap.size w w' := by
  have HC : Hid _ := hC
  have hz : (e != 0) = true := by rw [bne_iff_ne]; exact he
  clear hC he
  obtain ⟨w0, hw0⟩ : ∃ w0, w0 = (w.alloc (.cells #[.int .i64 q, .int .i64 n, .slice ao m ca] 24)).alloc (.cells #[.int .i64 0, .int .i64 0, .slice none 0 0] 24) := ⟨_, rfl⟩
  have HW : Hid (Below w.heap.size w w0 ∧ RB (w.heap.size + 1) w0) := by
    obtain ⟨h1, _, h3, h4⟩ := two_boxes q n 0 0 (.slice ao m ca) (.slice none 0 0) w
    have h6 := RBt.new #[.int .i64 0, .int .i64 0, .slice none 0 0] (w.alloc (.cells #[.int .i64 q, .int .i64 n, .slice ao m ca] 24))
    rw [show (w.alloc (.cells #[.int .i64 q, .int .i64 n, .slice ao m ca] 24)).heap.size = w.heap.size + 1 by simp] at h6
    rw [hw0]; exact ⟨h1, RB.of h3 h6⟩
  go_enter Tryz.func26, Tryz.ntmps26
  go_wp2_with fail
  rw [← hw0]
  clear hw0
  refine (HC.out _ HW.out.1).mono ?_
  rintro x w1 ⟨rfl, hb1⟩
  have H1 : Hid (Below w.heap.size w w1 ∧ RB (w.heap.size + 1) w1) := ⟨bel_up' HW.out.1 hb1, HW.out.2.keep hb1⟩
  clear hb1
  obtain ⟨⟨x0, c0⟩, ⟨x1, c1⟩, ⟨x2, c2⟩, f0, f1, f2⟩ := H1.out.2
  go_wp2
  obtain ⟨w2, hw2⟩ : ∃ w2, w2 = laid w1 (w.heap.size + 1) 0 0 (.slice none 0 0) := ⟨_, rfl⟩
  have H2 : Hid (CB (w.heap.size + 1) 0 0 (.slice none 0 0) w2 ∧ Below w.heap.size w w2) := by
    rw [hw2]; exact ⟨laid_cb H1.out.2 _ _ _, laid_below H1.out.1 (by omega) _ _ _⟩
  unfold laid at hw2
  rw [← hw2]
  clear hw2 c0 c1 c2 f0 f1 f2
  obtain ⟨c0, c1, c2⟩ := H2.out.1
  refine bodyPost_ret (v := .tuple #[.agg #[.int .i64 0, .int .i64 0, .slice none 0 0], .int .i64 e]) (by simp [results, Tryz.results26, go_sem, c0, c1, c2]) rfl ?_
  exact ⟨rfl, H2.out.2⟩
end Go.Proofs.YtdfneklnpghhmaaGreatDoor

/- Weights and distances of words, on both sides. -/
namespace Go.Proofs.YtdfneklnpghhmaaGreatDoor
open Go.RowKit Go.Sort

set_option maxHeartbeats 4000000 in
set_option maxRecDepth 100000 in
theorem rweight_any {ao : Option Addr} {n ca : Nat} {a : Nat → Int} {w : World} (hA : SlZ ao n a w) (hla : LtB ao w.heap.size) (hn : n ≤ 1000) :
    Calls Tryz.prog 22 #[.slice ao n ca] w fun e w' => e = .returned (.int .i64 (ct (fun i => !decide (a i = 0)) n : Nat)) ∧ Below w.heap.size w w' := by
  have HF : Hid (SlZ ao n a w ∧ LtB ao w.heap.size) := ⟨hA, hla⟩
  clear hA hla
  go_enter Tryz.func22, Tryz.ntmps22
  go_wp2
  go_loopw [3, 4] (fun vm vi wr => ∃ (r m : Nat), r ≤ n ∧ m ≤ r ∧ vm = .int .i64 (m : Nat) ∧ vi = .int .i64 r ∧ Hid (m = ct (fun i => !decide (a i = 0)) r ∧ Below w.heap.size w wr)) (fun _ vi _ => n - (intOf vi).toNat)
  case atStart => exact ⟨0, 0, by omega, by omega, rfl, rfl, rfl, Below.refl _ _⟩
  case round =>
    obtain ⟨r, m, hr, hmr, rfl, rfl, HG⟩ := hrel
    rename World => wr
    by_cases hlt : r < n
    · have hib : (r : Int) < (n : Int) := by omega
      obtain ⟨ba, oa, hao, hca⟩ := (HF.out.1.below HG.out.2 HF.out.2) r hlt
      subst hao
      obtain ⟨x, hx⟩ : ∃ x, x = a r := ⟨_, rfl⟩
      rw [← hx] at hca
      by_cases e : x = 0
      · have hz : (x != 0) = false := by rw [e]; simp
        have HV : Hid (m = ct (fun i => !decide (a i = 0)) (r + 1)) := by
          show m = ct (fun i => !decide (a i = 0)) r + if (!decide (a r = 0)) = true then 1 else 0
          rw [← HG.out.1, decide_eq_true (by rw [← hx]; exact e)]; rfl
        clear e hx
        go_wp2
        go_roundw
        case rel => exact ⟨r + 1, m, by omega, by omega, rfl, by go_num, HV.out, by first | exact HG.out.2 | exact HG.out.2.drew | exact below_drewN2 HG.out.2 _⟩
        case measure => simp [intOf]; omega
      · have hz : (x != 0) = true := by rw [bne_iff_ne]; exact e
        have HV : Hid (m + 1 = ct (fun i => !decide (a i = 0)) (r + 1)) := by
          show m + 1 = ct (fun i => !decide (a i = 0)) r + if (!decide (a r = 0)) = true then 1 else 0
          rw [← HG.out.1, decide_eq_false (by rw [← hx]; exact e)]; rfl
        clear e hx
        go_wp2
        go_roundw
        case rel => exact ⟨r + 1, m + 1, by omega, by omega, by go_num, by go_num, HV.out, by first | exact HG.out.2 | exact HG.out.2.drew | exact below_drewN2 HG.out.2 _⟩
        case measure => simp [intOf]; omega
    · have hib : ¬ (r : Int) < (n : Int) := by omega
      have hre : n = r := by omega
      subst hre
      go_wp2
      go_ret
      exact ⟨by rw [HG.out.1]; rfl, by first | exact HG.out.2 | exact HG.out.2.drew | exact below_drewN2 HG.out.2 _⟩
end Go.Proofs.YtdfneklnpghhmaaGreatDoor

/- Numbers of a word: may they be? The program's numbers. -/
namespace Go.Proofs.YtdfneklnpghhmaaGreatDoor
open Go.RowKit Go.Sort

end Go.Proofs.YtdfneklnpghhmaaGreatDoor

/- Encode: the sum of the rows of the one form. -/
namespace Go.Proofs.YtdfneklnpghhmaaGreatDoor
open Go.RowKit Go.Sort

/-- The sum of the first rows, each so many times. -/
def enw (D : FD) (R : Nat → Nat → Nat) (z : Nat → Nat) : Nat → Nat → Nat
  | 0 => pnil
  | k + 1 => padd D (enw D R z k) (pscale D (z k) (R k))
theorem enw_el {D : FD} (F : Fld D) {R : Nat → Nat → Nat} {z : Nat → Nat} : ∀ k, El D (enw D R z k)
  | 0 => el_nil F
  | k + 1 => el_add F (enw_el F k) (el_scale F _ _)
theorem enw_congr {D : FD} {R R' : Nat → Nat → Nat} {z : Nat → Nat} : ∀ {k : Nat}, (∀ i, i < k → R i = R' i) → enw D R z k = enw D R' z k
  | 0, _ => rfl
  | k + 1, h => by
    show padd D (enw D R z k) _ = padd D (enw D R' z k) _
    rw [enw_congr (fun i hi => h i (by omega)), h k (by omega)]
end Go.Proofs.YtdfneklnpghhmaaGreatDoor
