/- Texts of ours, one behind the other: I8 I9 I10 I11 I12 I13 I14 I15 I16 I18 I19 I20 I21 I22 I23 S12 I24 W12 S20 KA1 KA2 KA3. -/
import Derived.Test.YtcmejniljbjloaaZS8
import Derived.Test.YtcmejniljbjloaaZX16
import Derived.Test.YtcmejniljbjloaaZO3
import Derived.Test.YtcmejniljbjloaaZA1
import Derived.Test.YtcmejniljbjloaaZR3
import Derived.Test.YtcmejniljbjloaaZM3
import Derived.Test.YtcmejniljbjloaaZU2
import Derived.Deep.CutBlock
import Derived.Deep.DeepCutAuto
/- Sums of codes: what is left of rows (the program's sum), its state. -/
namespace Go.Proofs.Ytcmejniljbjloaa
open Go.RowKit Go.Sort

/-- Of the M lists in block G the first i are the rows V, of n elements, wherever they lie. -/
structure RS (D : FD) (G M n i : Nat) (V : Nat → Nat → Nat) (X : Nat → Option Addr) (C : Nat → Nat) (w : World) : Prop where
  outer : ∃ f, RowF G M 26 f w ∧ ∀ a, a < i → f a = .slice (X a) n (C a)
  sl : ∀ a, a < i → Sl (X a) n (V a) w
  lt : ∀ a, a < i → LtB (X a) w.heap.size
  nil : ∀ a, a < i → X a = none → C a = 0
  le : ∀ a, a < i → n ≤ C a
  cap : ∀ a, a < i → C a ≤ 9223372036854775807
  ne : ∀ a, a < i → ∀ x, X a = some x → x.block ≠ G
  el : ∀ a, a < i → El D (V a)
theorem RS.below {D : FD} {G M n i : Nat} {V : Nat → Nat → Nat} {X : Nat → Option Addr} {C : Nat → Nat} {w w' : World} (h : RS D G M n i V X C w) (hb : Below w.heap.size w w') : RS D G M n i V X C w' := by
  obtain ⟨f, hf, hf'⟩ := h.outer
  exact ⟨⟨f, hf.below hb hf.lt, hf'⟩, fun a ha => (h.sl a ha).below hb (h.lt a ha), fun a ha => (h.lt a ha).mono hb.size, h.nil, h.le, h.cap, h.ne, h.el⟩
theorem RS.cell {D : FD} {G M n i : Nat} {V : Nat → Nat → Nat} {X : Nat → Option Addr} {C : Nat → Nat} {w : World} (h : RS D G M n i V X C w) (a : Nat) (ha : a < i) (hM : i ≤ M) : w.cell? ⟨G, a, none⟩ = some (.slice (X a) n (C a)) ∧ w.frozen? ⟨G, a, none⟩ = false := by
  obtain ⟨f, hf, hf'⟩ := h.outer
  exact ⟨by rw [hf.cell a (by omega), hf' a ha], hf.free a⟩
theorem RS.free {D : FD} {G M n i : Nat} {V : Nat → Nat → Nat} {X : Nat → Option Addr} {C : Nat → Nat} {w : World} (h : RS D G M n i V X C w) (a : Nat) (ha : a < M) : (∃ u, w.cell? ⟨G, a, none⟩ = some u) ∧ w.frozen? ⟨G, a, none⟩ = false := by
  obtain ⟨f, hf, hf'⟩ := h.outer
  exact ⟨⟨_, hf.cell a ha⟩, hf.free a⟩
theorem RS.ltG {D : FD} {G M n i : Nat} {V : Nat → Nat → Nat} {X : Nat → Option Addr} {C : Nat → Nat} {w : World} (h : RS D G M n i V X C w) : G < w.heap.size := by
  obtain ⟨f, hf, _⟩ := h.outer
  exact hf.lt
theorem sl_set {ao : Option Addr} {n : Nat} {c : Nat → Nat} {w : World} {G a : Nat} {u : Value} (h : Sl ao n c w) (hne : ∀ x, ao = some x → x.block ≠ G) : Sl ao n c (w.setCell ⟨G, a, none⟩ u) := fun j hj => by
  obtain ⟨b, off, e, hc⟩ := h j hj
  refine ⟨b, off, e, ?_⟩
  have hb : b ≠ G := hne _ e
  have := Below.heap_setCell w ⟨G, a, none⟩ u b hb
  have e2 : (w.setCell ⟨G, a, none⟩ u).cell? ⟨b, off + j, none⟩ = w.cell? ⟨b, off + j, none⟩ := by simp [World.cell?, this]
  exact e2.trans hc
/-- List a0 is another one now. -/
theorem RS.put {D : FD} {G M n i i' a0 : Nat} {V : Nat → Nat → Nat} {X : Nat → Option Addr} {C : Nat → Nat} {w : World} (h : RS D G M n i V X C w) (hi : ∀ a, a < i' → a ≠ a0 → a < i) {x : Option Addr} {cc : Nat} {v : Nat → Nat} (hsl : Sl x n v w) (hlt : LtB x w.heap.size) (hnil : x = none → cc = 0) (hle : n ≤ cc) (hcap : cc ≤ 9223372036854775807) (hne : ∀ y, x = some y → y.block ≠ G) (hel : El D v) :
    RS D G M n i' (fun a => if a = a0 then v else V a) (fun a => if a = a0 then x else X a) (fun a => if a = a0 then cc else C a) (w.setCell ⟨G, a0, none⟩ (.slice x n cc)) := by
  obtain ⟨f, hf, hf'⟩ := h.outer
  have hsz : (w.setCell ⟨G, a0, none⟩ (.slice x n cc)).heap.size = w.heap.size := by simp
  refine ⟨⟨_, hf.store a0 (.slice x n cc), fun a ha => ?_⟩, fun a ha => ?_, fun a ha => ?_, fun a ha => ?_, fun a ha => ?_, fun a ha => ?_, fun a ha => ?_, fun a ha => ?_⟩
  · by_cases e : a = a0
    · rw [e, upd_at]; simp only [if_true]
    · simp only [if_neg e]
      rw [upd_ne _ _ _ e]; exact hf' a (hi a ha e)
  · by_cases e : a = a0
    · simp only [if_pos e]; exact sl_set hsl hne
    · simp only [if_neg e]; exact sl_set (h.sl a (hi a ha e)) (h.ne a (hi a ha e))
  · by_cases e : a = a0
    · simp only [if_pos e]; rw [hsz]; exact hlt
    · simp only [if_neg e]; rw [hsz]; exact h.lt a (hi a ha e)
  · by_cases e : a = a0
    · simp only [if_pos e]; exact hnil
    · simp only [if_neg e]; exact h.nil a (hi a ha e)
  · by_cases e : a = a0
    · simp only [if_pos e]; exact hle
    · simp only [if_neg e]; exact h.le a (hi a ha e)
  · by_cases e : a = a0
    · simp only [if_pos e]; exact hcap
    · simp only [if_neg e]; exact h.cap a (hi a ha e)
  · by_cases e : a = a0
    · simp only [if_pos e]; exact hne
    · simp only [if_neg e]; exact h.ne a (hi a ha e)
  · by_cases e : a = a0
    · simp only [if_pos e]; exact hel
    · simp only [if_neg e]; exact h.el a (hi a ha e)
theorem RS.matZ {D : FD} {G M n : Nat} {V : Nat → Nat → Nat} {X : Nat → Option Addr} {C : Nat → Nat} {w : World} (h : RS D G M n M V X C w) (hn : n ≤ 64) : MatZ (some ⟨G, 0, none⟩) M X (fun _ => n) C (fun i j => ((V i j : Nat) : Int)) w :=
  ⟨fun i hi => ⟨G, 0, rfl, by rw [Nat.zero_add]; exact (h.cell i hi (Nat.le_refl _)).1⟩, h.sl, h.le, h.cap, h.nil, fun _ _ => by omega⟩
/-- A row that a matrix has, told as it lies. -/
theorem CdZ.row {D : FD} (F : Fld D) {ao : Option Addr} {m n : Nat} {A : Nat → Option Addr} {N C : Nat → Nat} {Z : Nat → Nat → Int} {w : World} (h : CdZ D ao m n A N C Z w) (i : Nat) (hi : i < m) : ∃ b off c, ao = some ⟨b, off, none⟩ ∧ w.cell? ⟨b, off + i, none⟩ = some (.slice (A i) n c) ∧ Sl (A i) n (mzc N Z i) w ∧ LtB (A i) w.heap.size ∧ (A i = none → c = 0) ∧ n ≤ c ∧ c ≤ 9223372036854775807 := by
  obtain ⟨_, _, _, hm⟩ := h.rows F
  have hn := h.n1
  obtain ⟨b, off, u, e, hc, A', ca', eu, hs, hl, h1, h2, h3⟩ := hm i hi
  obtain ⟨b', off', e', hc'⟩ := h.mat.cell i hi
  rw [e] at e'
  cases e'
  rw [hc, eu] at hc'
  have hc2 := Option.some.inj hc'
  simp only [Value.slice.injEq] at hc2
  obtain ⟨rfl, _, _⟩ := hc2
  rw [show n - 1 + 1 = n from by omega] at eu hs h2
  exact ⟨b, off, ca', e, by rw [hc, eu], hs, hl, h1, h2, h3⟩
end Go.Proofs.Ytcmejniljbjloaa

/- Sums of codes: the program's sum. -/
namespace Go.Proofs.Ytcmejniljbjloaa
open Go.RowKit Go.Sort

/-- What a step of the sum reads. -/
def smF (G2 i bx ox pj G j hj n cc y : Nat) (wx : World) : Prop := wx.cell? ⟨G2, i, none⟩ = some (.slice (some ⟨bx, ox, none⟩) n cc) ∧ wx.frozen? ⟨G2, i, none⟩ = false ∧ wx.cell? ⟨bx, ox + pj, none⟩ = some (.int .i64 (y : Nat)) ∧ wx.cell? ⟨G, j, none⟩ = some (.slice (some ⟨hj, 0, none⟩) n n)
theorem smF.below {G2 i bx ox pj G j hj n cc y : Nat} {w w' : World} (h : smF G2 i bx ox pj G j hj n cc y w) (hb : Below w.heap.size w w') : smF G2 i bx ox pj G j hj n cc y w' := by
  obtain ⟨h1, h2, h3, h4⟩ := h
  have e1 := hb.block _ (cell_lt h1)
  have f : w'.frozen? ⟨G2, i, none⟩ = w.frozen? ⟨G2, i, none⟩ := by simp [World.frozen?, e1]
  exact ⟨((bcell hb).1 _ _ (cell_lt h1)).trans h1, f.trans h2, ((bcell hb).1 _ _ (cell_lt h3)).trans h3, ((bcell hb).1 _ _ (cell_lt h4)).trans h4⟩

end Go.Proofs.Ytcmejniljbjloaa

/- Sums of codes and what both have: the program's checkBoth, Sum, Meet. -/
namespace Go.Proofs.Ytcmejniljbjloaa
open Go.RowKit Go.Sort

end Go.Proofs.Ytcmejniljbjloaa

/- Sums of codes and what both have: the program's Sum and Meet of codes that may be. -/
namespace Go.Proofs.Ytcmejniljbjloaa
open Go.RowKit Go.Sort

end Go.Proofs.Ytcmejniljbjloaa

/- Codes: one form and the dual, of the reference (Made, DualOf). -/
namespace Go.Proofs.Ytcmejniljbjloaa
open Go.RowKit Go.Sort

theorem OwnV.same {base : Nat} {v : Value} {l : List Value} {w w' : World} (h : OwnV base v l w) (hb : ∀ g, v.ownBlock = some g → w'.heap[g]? = w.heap[g]?) : OwnV base v l w' := by
  obtain ⟨h1, h2⟩ := h
  refine ⟨h1, ?_⟩
  rcases h2 with h2 | ⟨g, cap, cur, hv, hg, hh, r⟩
  · exact Or.inl h2
  · exact Or.inr ⟨g, cap, cur, hv, hg, by rw [hb g (by rw [hv]; rfl)]; exact hh, r⟩
end Go.Proofs.Ytcmejniljbjloaa

/- Codes: rows of two codes in one list; what both have, of the reference (Both). -/
namespace Go.Proofs.Ytcmejniljbjloaa
open Go.RowKit Go.Sort

theorem Rwv.keep {u : Value} {n : Nat} {c : Nat → Nat} {w w' : World} (h : Rwv u n c w) (hb : Below w.heap.size w w') : Rwv u n c w' := by
  obtain ⟨A, ca, e, hs, hl, h1, h2, h3⟩ := h
  exact ⟨A, ca, e, hs.below hb hl, hl.mono hb.size, h1, h2, h3⟩
end Go.Proofs.Ytcmejniljbjloaa

/- CodePairs: codes held against one another; the ways on which there is nothing. -/
namespace Go.Proofs.Ytcmejniljbjloaa
open Go.RowKit Go.Sort

end Go.Proofs.Ytcmejniljbjloaa

/- CodePairs: the way of an error. -/
namespace Go.Proofs.Ytcmejniljbjloaa
open Go.RowKit Go.Sort

end Go.Proofs.Ytcmejniljbjloaa

/- CodePairs: two codes that may be. -/
namespace Go.Proofs.Ytcmejniljbjloaa
open Go.RowKit Go.Sort

end Go.Proofs.Ytcmejniljbjloaa

/- Make and Dual, with their checks. -/
namespace Go.Proofs.Ytcmejniljbjloaa
open Go.RowKit Go.Sort

end Go.Proofs.Ytcmejniljbjloaa

/- Weights and distances of words, on both sides. -/
namespace Go.Proofs.Ytcmejniljbjloaa
open Go.RowKit Go.Sort

end Go.Proofs.Ytcmejniljbjloaa

/- Numbers of a word: may they be? The program's numbers. -/
namespace Go.Proofs.Ytcmejniljbjloaa
open Go.RowKit Go.Sort

end Go.Proofs.Ytcmejniljbjloaa

/- Encode: the sum of the rows of the one form. -/
namespace Go.Proofs.Ytcmejniljbjloaa
open Go.RowKit Go.Sort

theorem rl_lt {ao : Option Addr} {n : Nat} {a : Nat → Nat} {w : World} (h : Sl ao n a w) (hn : 1 ≤ n) : LtB ao w.heap.size := fun x hx => by
  obtain ⟨b, off, e, hc⟩ := h 0 (by omega)
  rw [hx] at e
  cases e
  exact cell_lt hc

end Go.Proofs.Ytcmejniljbjloaa

/- Encoded: the reference's sum of rows. -/
namespace Go.Proofs.Ytcmejniljbjloaa
open Go.RowKit Go.Sort

end Go.Proofs.Ytcmejniljbjloaa

/- Encode: where there is nothing to tell. -/
namespace Go.Proofs.Ytcmejniljbjloaa
open Go.RowKit Go.Sort

end Go.Proofs.Ytcmejniljbjloaa

/- Plain mathematics: products of rows; what makes rows 0. No Go text here. -/
namespace Go.Proofs.Ytcmejniljbjloaa

/-- The sum of the products of the first numbers of two lists. -/
def dot (D : FD) (a b : Nat → Nat) : Nat → Nat
  | 0 => 0
  | j + 1 => D.ad (dot D a b j) (D.mul (a j) (b j))
theorem dot_lt {D : FD} (F : Fld D) (a b : Nat → Nat) : ∀ j, dot D a b j < D.q
  | 0 => zero_lt' F
  | j + 1 => ad_lt F (dot_lt F a b j) (F.mul_lt _ _)
end Go.Proofs.Ytcmejniljbjloaa

/- WordMay and Dot of the reference. -/
namespace Go.Proofs.Ytcmejniljbjloaa
open Go.RowKit Go.Sort

set_option maxHeartbeats 8000000 in
set_option maxRecDepth 100000 in
theorem rdot_any {D : FD} (hD : D ∈ fieldsL) (gen gm cm : Nat) {ao bo : Option Addr} {n ca cb : Nat} {a b : Nat → Nat} {w : World} (hn : n ≤ 1000) (ha : ∀ i, i < n → a i < D.q) (hb : ∀ i, i < n → b i < D.q) (hA : Sl ao n a w) (hla : LtB ao w.heap.size) (hB : Sl bo n b w) (hlb : LtB bo w.heap.size) (hM : ModAt D (.slice (some ⟨gm, 0, none⟩) (D.m + 1) cm) D.md w) :
    Calls Try.prog 9 #[.agg #[.int .i64 D.q, .int .i64 D.p, .int .i64 D.m, .int .i64 gen, .slice (some ⟨gm, 0, none⟩) (D.m + 1) cm], .slice ao n ca, .slice bo n cb] w fun e w' => e = .returned (.int .i64 (dot D a b n : Nat)) ∧ Below w.heap.size w w' := by
  obtain ⟨wa, hwa⟩ : ∃ wa, wa = w.alloc (.cells #[.int .i64 D.q, .int .i64 D.p, .int .i64 D.m, .int .i64 gen, .slice (some ⟨gm, 0, none⟩) (D.m + 1) cm] 31) := ⟨_, rfl⟩
  have hba : Below w.heap.size w wa := by rw [hwa]; exact (Below.refl _ _).alloc (Nat.le_refl _) _
  have HF : Hid (D ∈ fieldsL ∧ Sl ao n a wa ∧ Sl bo n b wa ∧ LtB ao wa.heap.size ∧ LtB bo wa.heap.size ∧ (∀ i, i < n → a i < D.q) ∧ (∀ i, i < n → b i < D.q) ∧ ModAt D (.slice (some ⟨gm, 0, none⟩) (D.m + 1) cm) D.md w ∧ Below w.heap.size w wa) := ⟨hD, hA.below hba hla, hB.below hba hlb, fun x hx => Nat.lt_of_lt_of_le (hla x hx) hba.size, fun x hx => Nat.lt_of_lt_of_le (hlb x hx) hba.size, ha, hb, hM, hba⟩
  have HX : Hid (Box w.heap.size D gen (.slice (some ⟨gm, 0, none⟩) (D.m + 1) cm) wa ∧ wa.heap.size = w.heap.size + 1) := ⟨by rw [hwa]; exact box_new D gen _ w, by rw [hwa]; simp⟩
  clear hD ha hb hA hla hB hlb hM hba
  go_enter Try.func9, Try.ntmps9
  go_wp2
  rw [← hwa]
  clear hwa
  go_loopw [7, 8] (fun vs vi wr => ∃ i s : Nat, i ≤ n ∧ vs = .int .i64 (s : Nat) ∧ vi = .int .i64 i ∧ Hid (s = dot D a b i ∧ Below wa.heap.size wa wr)) (fun _ vi _ => n - (intOf vi).toNat)
  case atStart => exact ⟨0, 0, by omega, rfl, rfl, rfl, Below.refl _ _⟩
  case round =>
    obtain ⟨i, s, hi, rfl, rfl, HG⟩ := hrel
    rename World => wr
    by_cases hlt : i < n
    · have hib : (i : Int) < (n : Int) := by omega
      have hib0 : (0 : Int) ≤ (i : Int) := by omega
      obtain ⟨bx, ox, hxo, hcx⟩ := (HF.out.2.1.below HG.out.2 HF.out.2.2.2.1) i hlt
      subst hxo
      obtain ⟨bY, oY, hyo, hcy⟩ := (HF.out.2.2.1.below HG.out.2 HF.out.2.2.2.2.1) i hlt
      subst hyo
      obtain ⟨x, hx⟩ : ∃ x, x = a i := ⟨_, rfl⟩
      obtain ⟨y, hy⟩ : ∃ y, y = b i := ⟨_, rfl⟩
      rw [← hx] at hcx
      rw [← hy] at hcy
      have F := fld HF.out.1
      obtain ⟨p, hp⟩ : ∃ p, p = D.mul x y := ⟨_, rfl⟩
      obtain ⟨u, hu⟩ : ∃ u, u = D.ad s p := ⟨_, rfl⟩
      have hxq : x < D.q := by rw [hx]; exact HF.out.2.2.2.2.2.1 i hlt
      have hyq : y < D.q := by rw [hy]; exact HF.out.2.2.2.2.2.2.1 i hlt
      have hsq : s < D.q := by rw [HG.out.1]; exact dot_lt F _ _ _
      have hpq : p < D.q := by rw [hp]; exact F.mul_lt _ _
      have hbx := HX.out.1.below HG.out.2 (by have := HX.out.2; omega)
      have k0 := cell_regrown hbx.c0
      have k1 := cell_regrown hbx.c1
      have k2 := cell_regrown hbx.c2
      have k3 := cell_regrown hbx.c3
      have k4 := cell_regrown hbx.c4
      have k5 := cell_regrown hcx
      have k6 := cell_regrown hcy
      have hbw : Below w.heap.size w wr := bel_up' HF.out.2.2.2.2.2.2.2.2 HG.out.2
      have HC1 : Hid (∀ d os, Calls Try.prog 26 #[.agg #[.int .i64 D.q, .int .i64 D.p, .int .i64 D.m, .int .i64 gen, .slice (some ⟨gm, 0, none⟩) (D.m + 1) cm], .int .i64 (x : Nat), .int .i64 (y : Nat)] (grow (redrawn wr d) os) fun e w'' => e = .returned (.int .i64 (p : Nat)) ∧ ∃ p : Regrown, w'' = grow (redrawn wr p.d) p.os) := fun d os => by
        rw [hp]
        exact Calls.regrown_of (rmul_nat HF.out.1 gen HF.out.2.2.2.2.2.2.2.1 x y hxq hyq _ (bel_up' hbw (below_regrown wr d os)))
      have HC2 : Hid (∀ d os, Calls Try.prog 25 #[.agg #[.int .i64 D.q, .int .i64 D.p, .int .i64 D.m, .int .i64 gen, .slice (some ⟨gm, 0, none⟩) (D.m + 1) cm], .int .i64 (s : Nat), .int .i64 (p : Nat)] (grow (redrawn wr d) os) fun e w'' => e = .returned (.int .i64 (u : Nat)) ∧ ∃ p : Regrown, w'' = grow (redrawn wr p.d) p.os) := fun d os => by
        have h := radd_nat HF.out.1 gen (.slice (some ⟨gm, 0, none⟩) (D.m + 1) cm) s p hsq hpq (grow (redrawn wr d) os)
        rw [hu]
        exact Calls.regrown_of h
      have HV : Hid (u = dot D a b (i + 1) ∧ Below wa.heap.size wa wr) := ⟨by rw [hu, hp, hx, hy, HG.out.1]; rfl, HG.out.2⟩
      clear hx hy hp hu hbx hbw F hcx hcy HG
      go_wp2
      refine wp_region_quiet_below (by kernel_rfl) (by kernel_rfl) ?_
      repeat (go_big_quiet_step (first | (go_at_call 26; exact HC1.out _ _) | (go_at_call 25; exact HC2.out _ _)))
      refine wpQuiet_nil ?_
      intro _ hw'
      obtain ⟨⟨dr, osr⟩, hw''⟩ := hw'
      subst hw''
      go_wp2
      go_roundw
      case rel => exact ⟨i + 1, u, by omega, rfl, by go_num, HV.out.1, bel_up' HV.out.2 (below_regrown wr dr osr)⟩
      case measure => simp [intOf]; omega
    · have hib : ¬ (i : Int) < (n : Int) := by omega
      have hre : n = i := by omega
      subst hre
      have H3 : Hid (Below w.heap.size w wr) := bel_up' HF.out.2.2.2.2.2.2.2.2 HG.out.2
      go_wp2
      go_ret
      exact ⟨by rw [HG.out.1]; rfl, H3.out⟩
end Go.Proofs.Ytcmejniljbjloaa

/- A region that draws its order: one of two operations comes next. No Go text here. -/
namespace Go.Proofs.Ytcmejniljbjloaa
open Go

/-- One of two may come now. -/
theorem wpAnyX_two {P : Program} {ops : Array Oper} {Q : Exit → Act → World → Prop} {S : World → Prop} {L i k : Nat} {o o' : Oper} {f : Nat} {s : Array Bool} {a : Act} {w : World} (hr : Region.ready .any ops s = [i, k]) (ho : ops[i]? = some o) (ho' : ops[k]? = some o')
    (h : ∀ K : Act → World → Prop, (∀ a' w', (i ≠ L → S w') → wpAnyX P ops Q S L f (s.setIfInBounds i true) a' w' → K a' w') → if Region.wanted o (yielded ops a.tmps) = true then Oper.wp P o a w K Q else K (a.put o.dst undef) w)
    (h' : ∀ K : Act → World → Prop, (∀ a' w', (k ≠ L → S w') → wpAnyX P ops Q S L f (s.setIfInBounds k true) a' w' → K a' w') → if Region.wanted o' (yielded ops a.tmps) = true then Oper.wp P o' a w K Q else K (a.put o'.dst undef) w) : wpAnyX P ops Q S L (f + 1) s a w := by
  refine ⟨fun e => (by rw [hr] at e; cases e), fun j hj => ?_⟩
  rw [hr, List.mem_cons, List.mem_singleton] at hj
  rcases hj with hj | hj
  · subst hj
    have h1 := h (fun a' w' => (j ≠ L → S w') ∧ wpAnyX P ops Q S L f (s.setIfInBounds j true) a' w') (fun a' w' h1 h2 => ⟨h1, h2⟩)
    unfold wpOp
    simp only [ho]
    split
    · rename_i hw
      rw [if_pos hw] at h1
      exact Or.inl h1
    · rename_i hw
      rw [if_neg hw] at h1
      exact h1
  · subst hj
    have h1 := h' (fun a' w' => (j ≠ L → S w') ∧ wpAnyX P ops Q S L f (s.setIfInBounds j true) a' w') (fun a' w' h1 h2 => ⟨h1, h2⟩)
    unfold wpOp
    simp only [ho']
    split
    · rename_i hw
      rw [if_pos hw] at h1
      exact Or.inl h1
    · rename_i hw
      rw [if_neg hw] at h1
      exact h1
end Go.Proofs.Ytcmejniljbjloaa

/- Plain mathematics: how many sets there are; Krawtchouk's numbers. No Go text here. -/
namespace Go.Proofs.Ytcmejniljbjloaa

end Go.Proofs.Ytcmejniljbjloaa

/- Weights: powers and numbers of sets (the program's power, over). -/
namespace Go.Proofs.Ytcmejniljbjloaa
open Go.RowKit

end Go.Proofs.Ytcmejniljbjloaa

/- Weights: Krawtchouk's numbers (the program's krawtchouk). -/
namespace Go.Proofs.Ytcmejniljbjloaa
open Go.RowKit

end Go.Proofs.Ytcmejniljbjloaa

/- Weights: Krawtchouk's numbers (the reference's Kraw). -/
namespace Go.Proofs.Ytcmejniljbjloaa
open Go.RowKit

/-- Whole numbers, below 0 too, in a row of the call's own. -/
def RowZ (g N : Nat) (z : Nat → Int) (w : World) : Prop := ∃ cap f, RowF g cap 3 f w ∧ N ≤ cap ∧ ∀ k, k < N → f k = .int .i64 (z k)
theorem RowZ.of {g N : Nat} {c : Nat → Nat} {w : World} (h : Row g N c w) : RowZ g N (fun k => ((c k : Nat) : Int)) w := by
  obtain ⟨cap, f, h1, h2, h3⟩ := h
  exact ⟨cap, f, h1, h2, h3⟩
theorem RowZ.cell {g N : Nat} {z : Nat → Int} {w : World} (h : RowZ g N z w) (k : Nat) (hk : k < N) : w.cell? ⟨g, k, none⟩ = some (.int .i64 (z k)) := by
  obtain ⟨cap, f, h1, h2, h3⟩ := h
  rw [h1.cell k (by omega), h3 k hk]
theorem RowZ.free {g N : Nat} {z : Nat → Int} {w : World} (h : RowZ g N z w) (k : Nat) : w.frozen? ⟨g, k, none⟩ = false := by
  obtain ⟨cap, f, h1, h2, h3⟩ := h
  exact h1.free k
theorem RowZ.store {g N : Nat} {z y : Nat → Int} {w : World} (h : RowZ g N z w) (k : Nat) (v : Int) (hd : ∀ j, j < N → y j = if j = k then v else z j) : RowZ g N y (w.setCell ⟨g, k, none⟩ (.int .i64 v)) := by
  obtain ⟨cap, f, h1, h2, h3⟩ := h
  refine ⟨cap, _, h1.store k _, h2, fun j hj => ?_⟩
  unfold upd
  rw [hd j hj]
  by_cases e : j = k
  · rw [if_pos e, if_pos e]
  · rw [if_neg e, if_neg e, h3 j hj]
theorem RowZ.congr {g N : Nat} {z y : Nat → Int} {w : World} (h : RowZ g N z w) (e : ∀ k, k < N → z k = y k) : RowZ g N y w := by
  obtain ⟨cap, f, h1, h2, h3⟩ := h
  exact ⟨cap, f, h1, h2, fun k hk => by rw [h3 k hk, e k hk]⟩
theorem RowZ.below {g N B : Nat} {z : Nat → Int} {w w' : World} (h : RowZ g N z w) (hb : Below B w w') (hB : g < B) : RowZ g N z w' := by
  obtain ⟨cap, f, h1, h2, h3⟩ := h
  exact ⟨cap, f, h1.below hb hB, h2, h3⟩
end Go.Proofs.Ytcmejniljbjloaa
