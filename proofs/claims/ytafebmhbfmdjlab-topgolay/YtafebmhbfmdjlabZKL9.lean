/- code.Nearest: the first word that differs least. -/
import Derived.Test.YtafebmhbfmdjlabZKL7
import Derived.Test.YtafebmhbfmdjlabZI20
namespace Go.Proofs.Ytafebmhbfmdjlab
open Go.RowKit Go.Sort Go.Shelf
attribute [local go_sem] Oper.semAt_some

/-- The first of N numbers that is least. -/
def Bst (f : Nat → Nat) (N b : Nat) : Prop := b < N ∧ (∀ r, r < N → f b ≤ f r) ∧ ∀ r, r < b → f b < f r
theorem Bst.uniq {f : Nat → Nat} {N a b : Nat} (h : Bst f N a) (h' : Bst f N b) : a = b := by
  rcases Nat.lt_trichotomy a b with c | c | c
  · have h1 := h'.2.2 a c; have h2 := h.2.1 b h'.1; omega
  · exact c
  · have h1 := h.2.2 b c; have h2 := h'.2.1 a h.1; omega
theorem Bst.keep {f : Nat → Nat} {N b : Nat} (h : Bst f N b) (hn : ¬ f N < f b) : Bst f (N + 1) b := ⟨by have := h.1; omega, fun r hr => by
  by_cases e : r = N
  · rw [e]; omega
  · exact h.2.1 r (by omega), h.2.2⟩
theorem Bst.new {f : Nat → Nat} {N : Nat} (hn : ∀ r, r < N → f N < f r) : Bst f (N + 1) N := ⟨by omega, fun r hr => by
  by_cases e : r = N
  · rw [e]; exact Nat.le_refl _
  · exact Nat.le_of_lt (hn r (by omega)), hn⟩
/-- At how many places the r-th word differs from another. -/
def apr' (D : FD) (R : Nat → Nat → Nat) (n K : Nat) (y : Nat → Int) (r : Nat) : Nat := ct (fun i => !decide (((wdr D R K r i : Nat) : Int) = y i)) n
set_option maxHeartbeats 4000000 in
set_option maxRecDepth 100000 in
theorem capartS_any {ao bo : Option Addr} {n ca cb : Nat} {a b : Nat → Int} {w : World} (hA : SlZ ao n a w) (hB : SlZ bo n b w) (hn : n ≤ 1000) :
    Calls Try.prog 17 #[.slice ao n ca, .slice bo n cb] w fun e w' => e = .returned (.int .i64 (ct (fun i => !decide (a i = b i)) n : Nat)) ∧ w' = w := by
  have HF : Hid (SlZ ao n a w ∧ SlZ bo n b w) := ⟨hA, hB⟩
  clear hA hB
  go_enter Try.func17, Try.ntmps17
  go_wp2
  go_loopw [5, 15] (fun vm vi wr => ∃ (r m : Nat), r ≤ n ∧ m ≤ r ∧ vm = .int .i64 (m : Nat) ∧ vi = .int .i64 r ∧ Hid (m = ct (fun i => !decide (a i = b i)) r ∧ wr = w)) (fun _ vi _ => n - (intOf vi).toNat)
  case atStart => exact ⟨0, 0, by omega, by omega, rfl, rfl, rfl, rfl⟩
  case round =>
    obtain ⟨r, m, hr, hmr, rfl, rfl, HG⟩ := hrel
    rename World => wr
    by_cases hlt : r < n
    · have hib : (r : Int) < (n : Int) := by omega
      obtain ⟨ba, oa, hao, hca⟩ := HF.out.1 r hlt
      rw [← HG.out.2] at hca
      subst hao
      obtain ⟨bb, ob, hbo, hcb⟩ := HF.out.2 r hlt
      rw [← HG.out.2] at hcb
      subst hbo
      obtain ⟨x, hx⟩ : ∃ x, x = a r := ⟨_, rfl⟩
      obtain ⟨y, hy⟩ : ∃ y, y = b r := ⟨_, rfl⟩
      rw [← hx] at hca
      rw [← hy] at hcb
      by_cases e : x = y
      · have hz : (x != y) = false := by rw [e]; simp
        have HV : Hid (m = ct (fun i => !decide (a i = b i)) (r + 1)) := by
          show m = ct (fun i => !decide (a i = b i)) r + if (!decide (a r = b r)) = true then 1 else 0
          rw [← HG.out.1, decide_eq_true (by rw [← hx, ← hy]; exact e)]; rfl
        clear e hx hy
        go_wp2
        go_roundw
        case rel => exact ⟨r + 1, m, by omega, by omega, rfl, by go_num, HV.out, HG.out.2⟩
        case measure => simp [intOf]; omega
      · have hz : (x != y) = true := by rw [bne_iff_ne]; exact e
        have HV : Hid (m + 1 = ct (fun i => !decide (a i = b i)) (r + 1)) := by
          show m + 1 = ct (fun i => !decide (a i = b i)) r + if (!decide (a r = b r)) = true then 1 else 0
          rw [← HG.out.1, decide_eq_false (by rw [← hx, ← hy]; exact e)]; rfl
        clear e hx hy
        go_wp2
        go_roundw
        case rel => exact ⟨r + 1, m + 1, by omega, by omega, by go_num, by go_num, HV.out, HG.out.2⟩
        case measure => simp [intOf]; omega
    · have hib : ¬ (r : Int) < (n : Int) := by omega
      have hre : n = r := by omega
      subst hre
      go_wp2
      go_ret
      exact ⟨by rw [HG.out.1]; rfl, HG.out.2⟩

/-- What Nearest tells of a code that may be and a word that may be. -/
def NeP (D : FD) (n m : Nat) (M : Nat → Nat → Nat) (y : Nat → Int) (w : World) (x : Ending) (w' : World) : Prop :=
  ∃ k R, Red D n m M k R ∧ Below w.heap.size w w' ∧ ((D.q ^ k ≤ 4096 ∧ ∃ b g c, Bst (apr' D R n k y) (D.q ^ k) b ∧ w.heap.size ≤ g ∧ n ≤ c ∧ c ≤ 9223372036854775807 ∧ Row g n (wdr D R k b) w' ∧ x = .returned (.tuple #[.slice (some ⟨g, 0, none⟩) n c, .int .i64 (apr' D R n k y b : Nat), .int .i64 0])) ∨
    (¬ D.q ^ k ≤ 4096 ∧ x = .returned (.tuple #[.slice none 0 0, .int .i64 0, .int .i64 4])))

theorem setbox {W : World} {B : Nat} {v : Value} {t : TypeId} (v' : Value) (h : W.heap[B]? = some (.cells #[v] t (0, 0))) : (W.setCell ⟨B, 0, none⟩ v').heap[B]? = some (.cells #[v'] t (0, 0)) := by
  have hlt : B < W.heap.size := (Array.getElem?_eq_some_iff.1 h).1
  show (W.heap.modify B _)[B]? = _
  rw [Array.getElem?_modify, if_pos rfl, h]
  rfl
/-- What holds between two rounds. -/
def NeI (D : FD) (R : Nat → Nat → Nat) (n k : Nat) (f : Nat → Nat) (bB bL n1 : Nat) (w : World) (B5 : Nat) (r : Nat) (X : World) : Prop :=
  ∃ (vb : Value) (lv : Nat), X.heap[bB]? = some (.cells #[vb] 22 (0, 0)) ∧ X.heap[bL]? = some (.cells #[.int .i64 (lv : Nat)] 3 (0, 0)) ∧
    ((r = 0 ∧ vb = .slice none 0 0 ∧ lv = n1) ∨ ∃ b g c, Bst f r b ∧ vb = .slice (some ⟨g, 0, none⟩) n c ∧ lv = f b ∧ Row g n (wdr D R k b) X ∧ B5 ≤ g ∧ n ≤ c ∧ c ≤ 9223372036854775807) ∧ Below w.heap.size w X ∧ B5 ≤ X.heap.size
theorem NeI.grc {D : FD} {R : Nat → Nat → Nat} {n k : Nat} {f : Nat → Nat} {bB bL n1 B5 r : Nat} {w X Y : World} (h : NeI D R n k f bB bL n1 w B5 r X) (hg : GrC B5 X Y) (h1 : bB < B5) (h2 : bL < B5) (h3 : w.heap.size ≤ B5) : NeI D R n k f bB bL n1 w B5 r Y := by
  obtain ⟨vb, lv, a1, a2, a3, a4, a5⟩ := h
  refine ⟨vb, lv, (hg.same bB (by omega) (Or.inl h1)).trans a1, (hg.same bL (by omega) (Or.inl h2)).trans a2, ?_, a4.trans ⟨hg.os, hg.tape, hg.output, hg.size, fun i hi => hg.same i (by omega) (Or.inl (by omega))⟩, by have := hg.size; omega⟩
  rcases a3 with h | ⟨b, g, c, h⟩
  · exact Or.inl h
  · exact Or.inr ⟨b, g, c, h.1, h.2.1, h.2.2.1, h.2.2.2.1.grc hg, h.2.2.2.2⟩

set_option maxHeartbeats 8000000 in
set_option maxRecDepth 100000 in
theorem nearest_ok {D : FD} (hD : D ∈ fieldsL) {ao yo : Option Addr} {m n ca cy : Nat} {M : Nat → Nat → Nat} {y : Nat → Int} {w : World} (hn1 : 1 ≤ n) (hn : n ≤ 64) (hA : Arg yo n cy y w) (hN : D.nchk n y n = 0)
    (hS : ∀ wx, Below w.heap.size w wx → Calls Try.prog 31 #[.agg #[.int .i64 D.q, .int .i64 (n : Nat), .slice ao m ca]] wx (SmP D n m M wx)) :
    Calls Try.prog 15 #[.agg #[.int .i64 D.q, .int .i64 (n : Nat), .slice ao m ca], .slice yo n cy] w (NeP D n m M y w) := by
  obtain ⟨w0, hw0⟩ : ∃ w0, w0 = (w.alloc (.cells #[.int .i64 D.q, .int .i64 (n : Nat), .slice ao m ca] 25)).alloc (.cells #[.slice yo n cy] 22) := ⟨_, rfl⟩
  have hb0 : Below w.heap.size w w0 := by rw [hw0]; exact ((Below.refl _ _).alloc (Nat.le_refl _) _).alloc (by simp) _
  have HS : Hid (Calls Try.prog 31 #[.agg #[.int .i64 D.q, .int .i64 (n : Nat), .slice ao m ca]] w0 (SmP D n m M w0)) := hS w0 hb0
  have hrb0 : RB w.heap.size w0 := by
    rw [hw0]
    have h := (RB.new (.int .i64 D.q) (.int .i64 (n : Nat)) (.slice ao m ca) w).keep ((Below.refl _ _).alloc (Nat.le_refl _) (.cells #[.slice yo n cy] 22))
    exact h
  have hyb0 : w0.cell? ⟨w.heap.size + 1, 0, none⟩ = some (.slice yo n cy) := by
    have h := World.cell?_alloc_new (w := w.alloc (.cells #[.int .i64 D.q, .int .i64 (n : Nat), .slice ao m ca] 25)) #[.slice yo n cy] 22 0
    rw [show (w.alloc (.cells #[.int .i64 D.q, .int .i64 (n : Nat), .slice ao m ca] 25)).heap.size = w.heap.size + 1 by simp] at h
    rw [hw0]; exact h
  have HB0 : Hid (Below w.heap.size w w0 ∧ RB w.heap.size w0 ∧ w0.cell? ⟨w.heap.size + 1, 0, none⟩ = some (.slice yo n cy) ∧ w0.heap.size = w.heap.size + 2) := ⟨hb0, hrb0, hyb0, by rw [hw0]; simp⟩
  have HA : Hid (D ∈ fieldsL ∧ Arg yo n cy y w ∧ D.nchk n y n = 0) := ⟨hD, hA, hN⟩
  have hFl := fld hD
  clear hS hA hN hrb0 hyb0
  refine callsIn_wide.1 (callsIn_of_wp_marks (n := 0) Try.func15 rfl trivial ?_ rfl)
  refine wpIn_wide.2 ?_
  simp only [Try.ntmps15, List.size_toArray, List.length_cons, List.length_nil, Nat.reduceAdd, Nat.reduceSub, Array.replicate_succ, Array.replicate_zero, List.push_toArray, List.append_toArray, List.nil_append, List.cons_append]
  go_wp2_with fail
  rw [← hw0]
  clear hw0 hb0
  refine HS.out.mono ?_
  rintro x w1 ⟨k, R, hred, hb1, hx⟩
  have H1 : Hid (Below w.heap.size w w1 ∧ RB w.heap.size w1 ∧ Red D n m M k R ∧ w0.heap.size ≤ w1.heap.size ∧ w1.cell? ⟨w.heap.size + 1, 0, none⟩ = some (.slice yo n cy)) := ⟨below_two' HB0.out.1 hb1, HB0.out.2.1.keep hb1, hred, hb1.size, ((bcell hb1).1 _ 0 (cell_lt HB0.out.2.2.1)).trans HB0.out.2.2.1⟩
  clear hred hb1
  obtain ⟨⟨x0, c0⟩, ⟨x1, c1⟩, ⟨x2, c2⟩, f0, f1, f2⟩ := H1.out.2.1
  rcases hx with ⟨hfew, ro, rc, hkr, hmv, rfl⟩ | ⟨hmany, rfl⟩
  · obtain ⟨w2, hw2⟩ : ∃ w2, w2 = laid w1 w.heap.size D.q n (.slice ro k rc) := ⟨_, rfl⟩
    have H2 : Hid (CB w.heap.size D.q n (.slice ro k rc) w2 ∧ MV w0.heap.size (.slice ro k rc) k n R w2 ∧ Below w.heap.size w w2 ∧ w2.cell? ⟨w.heap.size + 1, 0, none⟩ = some (.slice yo n cy) ∧ w2.heap.size = w1.heap.size) := by
      have h9 := HB0.out.2.2.2
      rw [hw2]
      refine ⟨laid_cb H1.out.2.1 _ _ _, laid_mv hmv (by omega) _ _ _, laid_below H1.out.1 (Nat.le_refl _) _ _ _, ?_, by simp [laid, World.setCell]⟩
      have e := laid_heap w1 w.heap.size D.q n (.slice ro k rc) (g := w.heap.size + 1) (by omega)
      have h8 := H1.out.2.2.2.2
      unfold World.cell? at h8 ⊢
      rw [e]; exact h8
    have HKR : Hid (D.q ^ k ≤ 4096 ∧ k ≤ rc ∧ rc ≤ 1000000) := ⟨hfew, hkr⟩
    obtain ⟨e0, e1, e2⟩ := H2.out.1
    have e3 := H2.out.2.2.2.1
    rw [hw2] at e0 e1 e2 e3
    unfold laid at e0 e1 e2 e3 hw2
    have HNm : Hid (Calls Try.prog 29 #[.int .i64 D.q, .slice yo n cy, .int .i64 (n : Nat)] w2 fun e w' => ∃ F T g, e = .returned (.tuple #[.pointer (some ⟨F, 0, none⟩), .int .i64 0]) ∧ FAt F T D g w' ∧ w2.heap.size ≤ F ∧ w2.heap.size ≤ T ∧ Below w2.heap.size w2 w') := cnum_ok HA.out.1 (HA.out.2.1.below H2.out.2.2.1) HA.out.2.2
    clear hmv hfew hkr
    go_wp2_with fail
    rw [← hw2]
    clear hw2 e0 e1 e2 e3 c0 c1 c2 f0 f1 f2
    refine HNm.out.mono ?_
    rintro x w3 ⟨F, T, g, rfl, _, _, _, hb3⟩
    have hcb3 := H2.out.1.keep hb3
    obtain ⟨a0, a1, a2⟩ := hcb3
    obtain ⟨n1, hn1e⟩ : ∃ n1, n1 = n + 1 := ⟨_, rfl⟩
    have wn1 : IntKind.i64.wrap ((n : Int) + 1) = (n1 : Int) := wrap_to (by omega) (by omega)
    have HN1 : Hid (n1 = n + 1) := hn1e
    have hn1b : n1 ≤ 65 := by omega
    clear hn1e
    have hlt3 : w.heap.size < w3.heap.size := cell_lt a0
    have hlt4 : w.heap.size < w3.heap.size + 1 := by omega
    have hne3 : ¬ w.heap.size = w3.heap.size := by omega
    have hne4 : ¬ w.heap.size = w3.heap.size + 1 := by omega
    go_wp2
    go_region
    · have hsx : (w3.alloc (.cells #[.slice none 0 0] 22)).heap.size = w3.heap.size + 1 := by simp
      have hbx1 : Below w3.heap.size w3 (w3.alloc (.cells #[.slice none 0 0] 22)) := (Below.refl _ _).alloc (Nat.le_refl _) _
      obtain ⟨w4, hw4⟩ : ∃ w4, w4 = ((w3.alloc (.cells #[.slice none 0 0] 22)).alloc (.cells #[.int .i64 (n1 : Nat)] 3)).drew := ⟨_, rfl⟩
      have hq1 : w4.heap[w3.heap.size]? = some (.cells #[.slice none 0 0] 22 (0, 0)) := by rw [hw4]; show ((w3.alloc (.cells #[.slice none 0 0] 22)).alloc (.cells #[.int .i64 (n1 : Nat)] 3)).heap[w3.heap.size]? = _; rw [Below.heap_alloc _ _ _ (by simp)]; exact two_new _
      have hq2 : w4.heap[w3.heap.size + 1]? = some (.cells #[.int .i64 (n1 : Nat)] 3 (0, 0)) := by rw [hw4]; show ((w3.alloc (.cells #[.slice none 0 0] 22)).alloc (.cells #[.int .i64 (n1 : Nat)] 3)).heap[w3.heap.size + 1]? = _; rw [← hsx]; exact two_new _
      have hb4 : Below w3.heap.size w3 w4 := by rw [hw4]; exact (hbx1.alloc (by simp) _).drew
      have hs4 : w4.heap.size = w3.heap.size + 2 := by rw [hw4]; show ((w3.alloc (.cells #[.slice none 0 0] 22)).alloc (.cells #[.int .i64 (n1 : Nat)] 3)).heap.size = _; simp
      rw [← hw4]
      obtain ⟨bB, hbB⟩ : ∃ bB, bB = w3.heap.size := ⟨_, rfl⟩
      obtain ⟨bL, hbL⟩ : ∃ bL, bL = w3.heap.size + 1 := ⟨_, rfl⟩
      have HX : Hid (w4.heap[bB]? = some (.cells #[.slice none 0 0] 22 (0, 0)) ∧ w4.heap[bL]? = some (.cells #[.int .i64 (n1 : Nat)] 3 (0, 0)) ∧ bB ≠ bL ∧ w3.heap.size ≤ bB ∧ w3.heap.size ≤ bL ∧ bB < w4.heap.size ∧ bL < w4.heap.size ∧ Below w3.heap.size w3 w4) := ⟨by rw [hbB]; exact hq1, by rw [hbL]; exact hq2, by omega, by omega, by omega, by omega, by omega, hb4⟩
      rw [← hbL, ← hbB]
      clear hq1 hq2 hb4 hs4 hw4 hbB hbL hbx1 hsx
      have hcb4 := (H2.out.1.keep hb3).keep HX.out.2.2.2.2.2.2.2
      obtain ⟨a0, a1, a2⟩ := hcb4
      have HB3 : Hid (Below w2.heap.size w2 w3) := hb3
      clear hb3 hlt3 hlt4 hne3 hne4
      go_wp2_with fail
      refine (words_any D.q n (.slice ro k rc) w4).mono ?_
      rintro e w5 ⟨rfl, he5⟩
      obtain ⟨Gm, mm, hm, hWR2, hGl2, hhl2⟩ := H2.out.2.1.wdr
      have hb5 : Below w4.heap.size w4 w5 := by rw [he5]; exact (Below.refl _ _).alloc (Nat.le_refl _) _
      have hcb5 : CB w4.heap.size D.q n (.slice ro k rc) w5 := by rw [he5]; exact CB.new _ _ _ _
      have hs5 : w5.heap.size = w4.heap.size + 1 := by rw [he5]; simp
      have h24 : Below w2.heap.size w2 w4 := below_two' HB3.out HX.out.2.2.2.2.2.2.2
      have h25 : Below w2.heap.size w2 w5 := below_two' h24 hb5
      have hw25 := H2.out.2.2.1
      have hs24 := h24.size
      have hs3 := HB3.out.size
      have hyc5 : w5.cell? ⟨w.heap.size + 1, 0, none⟩ = some (.slice yo n cy) := ((bcell h25).1 _ 0 (cell_lt H2.out.2.2.2.1)).trans H2.out.2.2.2.1
      have hyA5 : Arg yo n cy y w5 := HA.out.2.1.below (below_two' hw25 h25)
      obtain ⟨cb, hcbe⟩ : ∃ cb, cb = w4.heap.size := ⟨_, rfl⟩
      rw [← hcbe] at hcb5 ⊢
      have hw25s := hw25.size
      have HO : Hid (w.heap.size + 1 < bB ∧ w.heap.size + 1 < bL ∧ bB < cb ∧ bL < cb ∧ cb < w5.heap.size ∧ bB ≠ bL) := by
        have h1 := HX.out
        have h2 := HB0.out.2.2.2
        have h3 := H1.out.2.2.2.1
        have h4 := H2.out.2.2.2.2
        exact ⟨by omega, by omega, by omega, by omega, by omega, h1.2.2.1⟩
      have HW : Hid (WdR ro n k w0.heap.size Gm mm R hm w5 ∧ (0 < k → Gm < w2.heap.size) ∧ (∀ i, i < k → hm i < w2.heap.size) ∧ w2.heap.size ≤ bB ∧ w2.heap.size ≤ bL) := by
        have h1 := HX.out
        exact ⟨fun hk => ⟨(hWR2 hk).1, (hWR2 hk).2.below h25⟩, hGl2, hhl2, by omega, by omega⟩
      have HY : Hid (CB cb D.q n (.slice ro k rc) w5 ∧ w5.heap[bB]? = some (.cells #[.slice none 0 0] 22 (0, 0)) ∧ w5.heap[bL]? = some (.cells #[.int .i64 (n1 : Nat)] 3 (0, 0)) ∧ w5.cell? ⟨w.heap.size + 1, 0, none⟩ = some (.slice yo n cy) ∧ Arg yo n cy y w5 ∧ Below w.heap.size w w5) := ⟨hcb5, (hb5.block _ HX.out.2.2.2.2.2.1).trans HX.out.1, (hb5.block _ HX.out.2.2.2.2.2.2.1).trans HX.out.2.1, hyc5, hyA5, below_two' hw25 h25⟩
      clear hcbe hcb5 hs5 h24 h25 hw25 hs24 hs3 hyc5 hyA5 hb5 he5 hWR2 hGl2 hhl2 a0 a1 a2 hw25s
      have HRel : Hid (∀ i, i < k → El D (R i)) := H1.out.2.2.1.rows.1
      have hseq := words_seq (own := fun x => x = bB ∨ x = bL) HA.out.1 HY.out.1 HW.out.1 hn1 (by omega) HKR.out.2.1 HKR.out.2.2 (by have := HKR.out.1; omega) HRel.out (fun x e => by have := HO.out; omega) (fun e => by have := HO.out; omega) (fun hk e => by have := HW.out.2.1 hk; have := HW.out.2.2.2; omega) (fun i hi e => by have := HW.out.2.2.1 i hi; have := HW.out.2.2.2; omega)
      have HQ : Hid (SeqI Try.prog 50 #[.pointer (some ⟨cb, 0, none⟩)] (D.q ^ k) (WdE D R n k w5.heap.size) (fun x => x = bB ∨ x = bL) w5) := hseq
      clear hseq
      obtain ⟨f, hf⟩ : ∃ f, f = apr' D R n k y := ⟨_, rfl⟩
      have HFn : Hid (f = apr' D R n k y ∧ ∀ r, f r ≤ n) := ⟨hf, fun r => by rw [hf]; exact ct_most _ _⟩
      clear hf
      go_wp2
      refine range_law (gf := 50) (lb := #[.pointer (some ⟨cb, 0, none⟩)]) rfl (enters_of Try.func50 (by kernel_rfl) rfl) HQ.out (fun x e => by have := HO.out; omega) (fun r args X h => by obtain ⟨z, g, c, _, _, ha, _⟩ := h; rw [ha]; rfl)
        (fun r X => NeI D R n k f bB bL n1 w w5.heap.size r X ∧ X.cell? ⟨w.heap.size + 1, 0, none⟩ = some (.slice yo n cy)) ?stable (fun r args X Y h hg => h.grc hg) ?start
        (fun args => { tmps := #[.agg #[.int .i64 D.q, .int .i64 (n : Nat), .slice ao m ca], .slice yo n cy, .pointer (some ⟨w.heap.size, 0, none⟩), .pointer (some ⟨w.heap.size + 1, 0, none⟩), .slice none 0 0, .int .i64 0, .int .i64 0, .int .i64 0, .pointer (some ⟨F, 0, none⟩), .int .i64 0, .pointer (some ⟨bB, 0, none⟩), .pointer (some ⟨bL, 0, none⟩), args.getD 0 undef, undef, .tuple #[.agg #[.int .i64 D.q, .int .i64 (n : Nat), .slice ro k rc], .int .i64 0], .agg #[.int .i64 D.q, .int .i64 (n : Nat), .slice ao m ca], .tuple #[.agg #[.int .i64 D.q, .int .i64 (n : Nat), .slice ro k rc], .int .i64 0], .agg #[.int .i64 D.q, .int .i64 (n : Nat), .slice ro k rc], .int .i64 0, .int .i64 0, .bool false, undef, .tuple #[.pointer (some ⟨F, 0, none⟩), .int .i64 0], .pointer (some ⟨w.heap.size, 0, none⟩), .int .i64 D.q, .slice yo n cy, .pointer (some ⟨w.heap.size, 1, none⟩), .int .i64 (n : Nat), .tuple #[.pointer (some ⟨F, 0, none⟩), .int .i64 0], .pointer (some ⟨F, 0, none⟩), .int .i64 0, .int .i64 0, .bool false, undef, .pointer (some ⟨w.heap.size, 1, none⟩), .int .i64 (n : Nat), .int .i64 (n1 : Nat), .agg #[.int .i64 D.q, .int .i64 (n : Nat), .slice ro k rc], .func (.func 50) #[] #[.pointer (some ⟨cb, 0, none⟩)], args.getD 0 undef, undef, undef, undef, undef, undef, undef, undef, undef, undef, undef], defers := [] })
        ?assign ?body ?done
      case stable =>
        rintro r X Y ⟨h1, h2⟩ hg
        refine ⟨h1.grc hg (by have := HO.out; omega) (by have := HO.out; omega) (by have := HO.out; omega), ?_⟩
        have e := hg.same (w.heap.size + 1) (cell_lt h2) (Or.inl (by have := HO.out; omega))
        unfold World.cell? at h2 ⊢
        rw [e]; exact h2
      case start => exact ⟨⟨_, n1, HY.out.2.1, HY.out.2.2.1, Or.inl ⟨rfl, rfl, rfl⟩, HY.out.2.2.2.2.2, Nat.le_refl _⟩, HY.out.2.2.2.1⟩
      case assign =>
        intro l r args X K he hK
        obtain ⟨g, c, ha, _⟩ := he.word hFl
        subst ha
        gi_wp2
        exact hK
      case body =>
        rintro l r args X hr ⟨hI, h2⟩ he
        obtain ⟨g, c, ha, hc1, hc2, hrow, hge⟩ := he.word hFl
        subst ha
        obtain ⟨vb, lv, hvb, hvl, hcase, hbel, hsz⟩ := hI
        have cB := cell_of_row X bB 0 _ _ (0, 0) hvb
        have cL := cell_of_row X bL 0 _ _ (0, 0) hvl
        have fB := frozen_of_row X bB 0 _ _ hvb
        have fL := frozen_of_row X bL 0 _ _ hvl
        replace cB : X.cell? ⟨bB, 0, none⟩ = some vb := cB
        replace cL : X.cell? ⟨bL, 0, none⟩ = some (.int .i64 (lv : Nat)) := cL
        obtain ⟨t, ht⟩ : ∃ t, t = f r := ⟨_, rfl⟩
        have HAp : Hid (Calls Try.prog 17 #[.slice (some ⟨g, 0, none⟩) n c, .slice yo n cy] X fun e w' => e = .returned (.int .i64 (t : Nat)) ∧ w' = X) := by
          rw [ht, HFn.out.1]; exact capartS_any (a := fun i => ((wdr D R k r i : Nat) : Int)) (hrow.sl (Nat.le_refl _)).z (HA.out.2.1.below hbel).sl (by omega)
        have HI : Hid (X.heap[bB]? = some (.cells #[vb] 22 (0, 0)) ∧ X.heap[bL]? = some (.cells #[.int .i64 (lv : Nat)] 3 (0, 0)) ∧ ((r = 0 ∧ vb = .slice none 0 0 ∧ lv = n1) ∨ ∃ b g c, Bst f r b ∧ vb = .slice (some ⟨g, 0, none⟩) n c ∧ lv = f b ∧ Row g n (wdr D R k b) X ∧ w5.heap.size ≤ g ∧ n ≤ c ∧ c ≤ 9223372036854775807) ∧ Below w.heap.size w X ∧ w5.heap.size ≤ X.heap.size ∧ Row g n (wdr D R k r) X ∧ X.cell? ⟨w.heap.size + 1, 0, none⟩ = some (.slice yo n cy) ∧ t = f r) := ⟨hvb, hvl, hcase, hbel, hsz, hrow, h2, ht⟩
        clear hvb hvl hcase hbel hsz hrow he ht
        have HD : Hid (bB ≠ bL ∧ w.heap.size + 1 < bB ∧ w.heap.size + 1 < bL ∧ bB < g ∧ bL < g) := by
          have h1 := HO.out
          exact ⟨h1.2.2.2.2.2, h1.1, h1.2.1, by omega, by omega⟩
        by_cases hlt : t < lv
        · have hz : (t : Int) < (lv : Int) := by omega
          have hvl2 : (X.setCell ⟨bB, 0, none⟩ (.slice (some ⟨g, 0, none⟩) n c)).heap[bL]? = some (.cells #[.int .i64 (lv : Nat)] 3 (0, 0)) := (Below.heap_setCell X ⟨bB, 0, none⟩ _ bL (fun e => HD.out.1 e.symm)).trans HI.out.2.1
          have cL2 := cell_of_row _ bL 0 _ _ (0, 0) hvl2
          have fL2 := frozen_of_row _ bL 0 _ _ hvl2
          replace cL2 : (X.setCell ⟨bB, 0, none⟩ (.slice (some ⟨g, 0, none⟩) n c)).cell? ⟨bL, 0, none⟩ = some (.int .i64 (lv : Nat)) := cL2
          have HV2 : Hid ((X.setCell ⟨bB, 0, none⟩ (.slice (some ⟨g, 0, none⟩) n c)).heap[bL]? = some (.cells #[.int .i64 (lv : Nat)] 3 (0, 0))) := hvl2
          clear hvl2
          gi_wp2
          refine ⟨trivial, rfl, (CallsIn.inRound l (callsIn_wide.2 HAp.out)).mono ?_⟩
          rintro e w' ⟨rfl, hw⟩
          subst hw
          gi_wp2
          have hd := HD.out
          have hv1 := setbox (.slice (some ⟨g, 0, none⟩) n c) HI.out.1
          have hv2 := setbox (.int .i64 (t : Nat)) HV2.out
          have ht := HI.out.2.2.2.2.2.2.2
          refine ⟨⟨rfl, rfl, rfl, by simp [World.setCell], fun x _ hx => (Below.heap_setCell _ _ _ _ (fun e => hx (Or.inr e))).trans (Below.heap_setCell _ _ _ _ (fun e => hx (Or.inl e)))⟩, ⟨_, t, (Below.heap_setCell _ ⟨bL, 0, none⟩ _ bB hd.1).trans hv1, hv2, Or.inr ⟨r, g, c, ?_, rfl, ht, ?_, hge, hc1, hc2⟩, ?_, ?_⟩, ?_⟩
          · refine Bst.new fun s hs => ?_
            rcases HI.out.2.2.1 with ⟨h0, _⟩ | ⟨b, _, _, h1, _, h4, _⟩
            · omega
            · have := h1.2.1 s hs; omega
          · exact HI.out.2.2.2.2.2.1.other ((Below.heap_setCell _ ⟨bL, 0, none⟩ _ g (by show g ≠ bL; omega)).trans (Below.heap_setCell _ ⟨bB, 0, none⟩ _ g (by show g ≠ bB; omega)))
          · exact (HI.out.2.2.2.1.setCell (by show w.heap.size ≤ bB; omega) _).setCell (by show w.heap.size ≤ bL; omega) _
          · have h9 := HI.out.2.2.2.2.1
            simp [World.setCell]; exact h9
          · have e := (Below.heap_setCell (w'.setCell ⟨bB, 0, none⟩ (.slice (some ⟨g, 0, none⟩) n c)) ⟨bL, 0, none⟩ (.int .i64 (t : Nat)) (w.heap.size + 1) (by show w.heap.size + 1 ≠ bL; omega)).trans (Below.heap_setCell w' ⟨bB, 0, none⟩ (.slice (some ⟨g, 0, none⟩) n c) (w.heap.size + 1) (by show w.heap.size + 1 ≠ bB; omega))
            have h9 := HI.out.2.2.2.2.2.2.1
            unfold World.cell? at h9 ⊢
            rw [e]; exact h9
        · have hz : ¬ (t : Int) < (lv : Int) := by omega
          gi_wp2
          refine ⟨trivial, rfl, (CallsIn.inRound l (callsIn_wide.2 HAp.out)).mono ?_⟩
          rintro e w' ⟨rfl, hw⟩
          subst hw
          gi_wp2
          refine ⟨⟨rfl, rfl, rfl, Nat.le_refl _, fun _ _ _ => rfl⟩, vb, lv, HI.out.1, HI.out.2.1, ?_, HI.out.2.2.2.1, HI.out.2.2.2.2.1⟩
          have e := HI.out.2.2.2.2.2.2.2
          rcases HI.out.2.2.1 with ⟨_, _, h3⟩ | ⟨b, g, c, h1, h3, h4, h5⟩
          · have h6 := HFn.out.2 r
            have h7 := HN1.out
            omega
          · exact Or.inr ⟨b, g, c, h1.keep (by omega), h3, h4, h5⟩
      case done =>
        rintro De We hDe ⟨hI, h2⟩ hK
        obtain ⟨vb, lv, hvb, hvl, hcase, hbel, hsz⟩ := hI
        have hqk : 0 < D.q ^ k := Nat.pow_pos (by have := hFl.q2; omega)
        rcases hcase with ⟨h3, _, _⟩ | ⟨b, g, c, h3, rfl, h4, h5, h6, h7, h8⟩
        · omega
        have HE : Hid (Row g n (wdr D R k b) (We.putObj De (.deferred none)) ∧ Below w.heap.size w (We.putObj De (.deferred none)) ∧ Bst f (D.q ^ k) b ∧ lv = f b ∧ w.heap.size ≤ g) := by
          have hO := HO.out
          refine ⟨h5.other (World.putObj_heap_other (fun e => ?_)), hbel.grown (grownBy_putObj' _ _ _) hbel.size (fun k hk => by cases hk; omega), h3, h4, by omega⟩
          have h9 := h5.cell 0 (by omega)
          unfold World.cell? at h9
          simp only [e, hK] at h9
          cases h9
        have cB := cell_of_row We bB 0 _ _ (0, 0) hvb
        have cL := cell_of_row We bL 0 _ _ (0, 0) hvl
        replace cB : We.cell? ⟨bB, 0, none⟩ = some (.slice (some ⟨g, 0, none⟩) n c) := cB
        replace cL : We.cell? ⟨bL, 0, none⟩ = some (.int .i64 (lv : Nat)) := cL
        clear hvb hvl hbel h5 h3 h4
        go_wp2
        go_big_quiet (fail)
        go_wp2
        have hK' : (We.drewN nq).heap[De]? = some (.deferred (some [])) := hK
        refine ⟨by simp, .inl ⟨_, _, rfl, run_takeDeferred hK', ?_⟩⟩
        refine ⟨.tuple #[.slice (some ⟨g, 0, none⟩) n c, .int .i64 (lv : Nat), .int .i64 0], by simp [results, Try.results15, go_sem], ?_⟩
        have h9 := HE.out.2.1
        refine ⟨k, R, H1.out.2.2.1, ⟨h9.os, h9.tape, h9.output, h9.size, h9.block⟩, Or.inl ⟨HKR.out.1, b, g, c, ?_, HE.out.2.2.2.2, h7, h8, HE.out.1.other rfl, ?_⟩⟩
        · rw [← HFn.out.1]; exact HE.out.2.2.1
        · rw [← HFn.out.1, ← HE.out.2.2.2.1]
    · have hsx : (w3.alloc (.cells #[.int .i64 (n1 : Nat)] 3)).heap.size = w3.heap.size + 1 := by simp
      have hbx1 : Below w3.heap.size w3 (w3.alloc (.cells #[.int .i64 (n1 : Nat)] 3)) := (Below.refl _ _).alloc (Nat.le_refl _) _
      obtain ⟨w4, hw4⟩ : ∃ w4, w4 = ((w3.alloc (.cells #[.int .i64 (n1 : Nat)] 3)).alloc (.cells #[.slice none 0 0] 22)).drew := ⟨_, rfl⟩
      have hq1 : w4.heap[w3.heap.size]? = some (.cells #[.int .i64 (n1 : Nat)] 3 (0, 0)) := by rw [hw4]; show ((w3.alloc (.cells #[.int .i64 (n1 : Nat)] 3)).alloc (.cells #[.slice none 0 0] 22)).heap[w3.heap.size]? = _; rw [Below.heap_alloc _ _ _ (by simp)]; exact two_new _
      have hq2 : w4.heap[w3.heap.size + 1]? = some (.cells #[.slice none 0 0] 22 (0, 0)) := by rw [hw4]; show ((w3.alloc (.cells #[.int .i64 (n1 : Nat)] 3)).alloc (.cells #[.slice none 0 0] 22)).heap[w3.heap.size + 1]? = _; rw [← hsx]; exact two_new _
      have hb4 : Below w3.heap.size w3 w4 := by rw [hw4]; exact (hbx1.alloc (by simp) _).drew
      have hs4 : w4.heap.size = w3.heap.size + 2 := by rw [hw4]; show ((w3.alloc (.cells #[.int .i64 (n1 : Nat)] 3)).alloc (.cells #[.slice none 0 0] 22)).heap.size = _; simp
      rw [← hw4]
      obtain ⟨bB, hbB⟩ : ∃ bB, bB = w3.heap.size + 1 := ⟨_, rfl⟩
      obtain ⟨bL, hbL⟩ : ∃ bL, bL = w3.heap.size := ⟨_, rfl⟩
      have HX : Hid (w4.heap[bB]? = some (.cells #[.slice none 0 0] 22 (0, 0)) ∧ w4.heap[bL]? = some (.cells #[.int .i64 (n1 : Nat)] 3 (0, 0)) ∧ bB ≠ bL ∧ w3.heap.size ≤ bB ∧ w3.heap.size ≤ bL ∧ bB < w4.heap.size ∧ bL < w4.heap.size ∧ Below w3.heap.size w3 w4) := ⟨by rw [hbB]; exact hq2, by rw [hbL]; exact hq1, by omega, by omega, by omega, by omega, by omega, hb4⟩
      rw [← hbB, ← hbL]
      clear hq1 hq2 hb4 hs4 hw4 hbB hbL hbx1 hsx
      have hcb4 := (H2.out.1.keep hb3).keep HX.out.2.2.2.2.2.2.2
      obtain ⟨a0, a1, a2⟩ := hcb4
      have HB3 : Hid (Below w2.heap.size w2 w3) := hb3
      clear hb3 hlt3 hlt4 hne3 hne4
      go_wp2_with fail
      refine (words_any D.q n (.slice ro k rc) w4).mono ?_
      rintro e w5 ⟨rfl, he5⟩
      obtain ⟨Gm, mm, hm, hWR2, hGl2, hhl2⟩ := H2.out.2.1.wdr
      have hb5 : Below w4.heap.size w4 w5 := by rw [he5]; exact (Below.refl _ _).alloc (Nat.le_refl _) _
      have hcb5 : CB w4.heap.size D.q n (.slice ro k rc) w5 := by rw [he5]; exact CB.new _ _ _ _
      have hs5 : w5.heap.size = w4.heap.size + 1 := by rw [he5]; simp
      have h24 : Below w2.heap.size w2 w4 := below_two' HB3.out HX.out.2.2.2.2.2.2.2
      have h25 : Below w2.heap.size w2 w5 := below_two' h24 hb5
      have hw25 := H2.out.2.2.1
      have hs24 := h24.size
      have hs3 := HB3.out.size
      have hyc5 : w5.cell? ⟨w.heap.size + 1, 0, none⟩ = some (.slice yo n cy) := ((bcell h25).1 _ 0 (cell_lt H2.out.2.2.2.1)).trans H2.out.2.2.2.1
      have hyA5 : Arg yo n cy y w5 := HA.out.2.1.below (below_two' hw25 h25)
      obtain ⟨cb, hcbe⟩ : ∃ cb, cb = w4.heap.size := ⟨_, rfl⟩
      rw [← hcbe] at hcb5 ⊢
      have hw25s := hw25.size
      have HO : Hid (w.heap.size + 1 < bB ∧ w.heap.size + 1 < bL ∧ bB < cb ∧ bL < cb ∧ cb < w5.heap.size ∧ bB ≠ bL) := by
        have h1 := HX.out
        have h2 := HB0.out.2.2.2
        have h3 := H1.out.2.2.2.1
        have h4 := H2.out.2.2.2.2
        exact ⟨by omega, by omega, by omega, by omega, by omega, h1.2.2.1⟩
      have HW : Hid (WdR ro n k w0.heap.size Gm mm R hm w5 ∧ (0 < k → Gm < w2.heap.size) ∧ (∀ i, i < k → hm i < w2.heap.size) ∧ w2.heap.size ≤ bB ∧ w2.heap.size ≤ bL) := by
        have h1 := HX.out
        exact ⟨fun hk => ⟨(hWR2 hk).1, (hWR2 hk).2.below h25⟩, hGl2, hhl2, by omega, by omega⟩
      have HY : Hid (CB cb D.q n (.slice ro k rc) w5 ∧ w5.heap[bB]? = some (.cells #[.slice none 0 0] 22 (0, 0)) ∧ w5.heap[bL]? = some (.cells #[.int .i64 (n1 : Nat)] 3 (0, 0)) ∧ w5.cell? ⟨w.heap.size + 1, 0, none⟩ = some (.slice yo n cy) ∧ Arg yo n cy y w5 ∧ Below w.heap.size w w5) := ⟨hcb5, (hb5.block _ HX.out.2.2.2.2.2.1).trans HX.out.1, (hb5.block _ HX.out.2.2.2.2.2.2.1).trans HX.out.2.1, hyc5, hyA5, below_two' hw25 h25⟩
      clear hcbe hcb5 hs5 h24 h25 hw25 hs24 hs3 hyc5 hyA5 hb5 he5 hWR2 hGl2 hhl2 a0 a1 a2 hw25s
      have HRel : Hid (∀ i, i < k → El D (R i)) := H1.out.2.2.1.rows.1
      have hseq := words_seq (own := fun x => x = bB ∨ x = bL) HA.out.1 HY.out.1 HW.out.1 hn1 (by omega) HKR.out.2.1 HKR.out.2.2 (by have := HKR.out.1; omega) HRel.out (fun x e => by have := HO.out; omega) (fun e => by have := HO.out; omega) (fun hk e => by have := HW.out.2.1 hk; have := HW.out.2.2.2; omega) (fun i hi e => by have := HW.out.2.2.1 i hi; have := HW.out.2.2.2; omega)
      have HQ : Hid (SeqI Try.prog 50 #[.pointer (some ⟨cb, 0, none⟩)] (D.q ^ k) (WdE D R n k w5.heap.size) (fun x => x = bB ∨ x = bL) w5) := hseq
      clear hseq
      obtain ⟨f, hf⟩ : ∃ f, f = apr' D R n k y := ⟨_, rfl⟩
      have HFn : Hid (f = apr' D R n k y ∧ ∀ r, f r ≤ n) := ⟨hf, fun r => by rw [hf]; exact ct_most _ _⟩
      clear hf
      go_wp2
      refine range_law (gf := 50) (lb := #[.pointer (some ⟨cb, 0, none⟩)]) rfl (enters_of Try.func50 (by kernel_rfl) rfl) HQ.out (fun x e => by have := HO.out; omega) (fun r args X h => by obtain ⟨z, g, c, _, _, ha, _⟩ := h; rw [ha]; rfl)
        (fun r X => NeI D R n k f bB bL n1 w w5.heap.size r X ∧ X.cell? ⟨w.heap.size + 1, 0, none⟩ = some (.slice yo n cy)) ?stable (fun r args X Y h hg => h.grc hg) ?start
        (fun args => { tmps := #[.agg #[.int .i64 D.q, .int .i64 (n : Nat), .slice ao m ca], .slice yo n cy, .pointer (some ⟨w.heap.size, 0, none⟩), .pointer (some ⟨w.heap.size + 1, 0, none⟩), .slice none 0 0, .int .i64 0, .int .i64 0, .int .i64 0, .pointer (some ⟨F, 0, none⟩), .int .i64 0, .pointer (some ⟨bB, 0, none⟩), .pointer (some ⟨bL, 0, none⟩), args.getD 0 undef, undef, .tuple #[.agg #[.int .i64 D.q, .int .i64 (n : Nat), .slice ro k rc], .int .i64 0], .agg #[.int .i64 D.q, .int .i64 (n : Nat), .slice ao m ca], .tuple #[.agg #[.int .i64 D.q, .int .i64 (n : Nat), .slice ro k rc], .int .i64 0], .agg #[.int .i64 D.q, .int .i64 (n : Nat), .slice ro k rc], .int .i64 0, .int .i64 0, .bool false, undef, .tuple #[.pointer (some ⟨F, 0, none⟩), .int .i64 0], .pointer (some ⟨w.heap.size, 0, none⟩), .int .i64 D.q, .slice yo n cy, .pointer (some ⟨w.heap.size, 1, none⟩), .int .i64 (n : Nat), .tuple #[.pointer (some ⟨F, 0, none⟩), .int .i64 0], .pointer (some ⟨F, 0, none⟩), .int .i64 0, .int .i64 0, .bool false, undef, .pointer (some ⟨w.heap.size, 1, none⟩), .int .i64 (n : Nat), .int .i64 (n1 : Nat), .agg #[.int .i64 D.q, .int .i64 (n : Nat), .slice ro k rc], .func (.func 50) #[] #[.pointer (some ⟨cb, 0, none⟩)], args.getD 0 undef, undef, undef, undef, undef, undef, undef, undef, undef, undef, undef], defers := [] })
        ?assign ?body ?done
      case stable =>
        rintro r X Y ⟨h1, h2⟩ hg
        refine ⟨h1.grc hg (by have := HO.out; omega) (by have := HO.out; omega) (by have := HO.out; omega), ?_⟩
        have e := hg.same (w.heap.size + 1) (cell_lt h2) (Or.inl (by have := HO.out; omega))
        unfold World.cell? at h2 ⊢
        rw [e]; exact h2
      case start => exact ⟨⟨_, n1, HY.out.2.1, HY.out.2.2.1, Or.inl ⟨rfl, rfl, rfl⟩, HY.out.2.2.2.2.2, Nat.le_refl _⟩, HY.out.2.2.2.1⟩
      case assign =>
        intro l r args X K he hK
        obtain ⟨g, c, ha, _⟩ := he.word hFl
        subst ha
        gi_wp2
        exact hK
      case body =>
        rintro l r args X hr ⟨hI, h2⟩ he
        obtain ⟨g, c, ha, hc1, hc2, hrow, hge⟩ := he.word hFl
        subst ha
        obtain ⟨vb, lv, hvb, hvl, hcase, hbel, hsz⟩ := hI
        have cB := cell_of_row X bB 0 _ _ (0, 0) hvb
        have cL := cell_of_row X bL 0 _ _ (0, 0) hvl
        have fB := frozen_of_row X bB 0 _ _ hvb
        have fL := frozen_of_row X bL 0 _ _ hvl
        replace cB : X.cell? ⟨bB, 0, none⟩ = some vb := cB
        replace cL : X.cell? ⟨bL, 0, none⟩ = some (.int .i64 (lv : Nat)) := cL
        obtain ⟨t, ht⟩ : ∃ t, t = f r := ⟨_, rfl⟩
        have HAp : Hid (Calls Try.prog 17 #[.slice (some ⟨g, 0, none⟩) n c, .slice yo n cy] X fun e w' => e = .returned (.int .i64 (t : Nat)) ∧ w' = X) := by
          rw [ht, HFn.out.1]; exact capartS_any (a := fun i => ((wdr D R k r i : Nat) : Int)) (hrow.sl (Nat.le_refl _)).z (HA.out.2.1.below hbel).sl (by omega)
        have HI : Hid (X.heap[bB]? = some (.cells #[vb] 22 (0, 0)) ∧ X.heap[bL]? = some (.cells #[.int .i64 (lv : Nat)] 3 (0, 0)) ∧ ((r = 0 ∧ vb = .slice none 0 0 ∧ lv = n1) ∨ ∃ b g c, Bst f r b ∧ vb = .slice (some ⟨g, 0, none⟩) n c ∧ lv = f b ∧ Row g n (wdr D R k b) X ∧ w5.heap.size ≤ g ∧ n ≤ c ∧ c ≤ 9223372036854775807) ∧ Below w.heap.size w X ∧ w5.heap.size ≤ X.heap.size ∧ Row g n (wdr D R k r) X ∧ X.cell? ⟨w.heap.size + 1, 0, none⟩ = some (.slice yo n cy) ∧ t = f r) := ⟨hvb, hvl, hcase, hbel, hsz, hrow, h2, ht⟩
        clear hvb hvl hcase hbel hsz hrow he ht
        have HD : Hid (bB ≠ bL ∧ w.heap.size + 1 < bB ∧ w.heap.size + 1 < bL ∧ bB < g ∧ bL < g) := by
          have h1 := HO.out
          exact ⟨h1.2.2.2.2.2, h1.1, h1.2.1, by omega, by omega⟩
        by_cases hlt : t < lv
        · have hz : (t : Int) < (lv : Int) := by omega
          have hvl2 : (X.setCell ⟨bB, 0, none⟩ (.slice (some ⟨g, 0, none⟩) n c)).heap[bL]? = some (.cells #[.int .i64 (lv : Nat)] 3 (0, 0)) := (Below.heap_setCell X ⟨bB, 0, none⟩ _ bL (fun e => HD.out.1 e.symm)).trans HI.out.2.1
          have cL2 := cell_of_row _ bL 0 _ _ (0, 0) hvl2
          have fL2 := frozen_of_row _ bL 0 _ _ hvl2
          replace cL2 : (X.setCell ⟨bB, 0, none⟩ (.slice (some ⟨g, 0, none⟩) n c)).cell? ⟨bL, 0, none⟩ = some (.int .i64 (lv : Nat)) := cL2
          have HV2 : Hid ((X.setCell ⟨bB, 0, none⟩ (.slice (some ⟨g, 0, none⟩) n c)).heap[bL]? = some (.cells #[.int .i64 (lv : Nat)] 3 (0, 0))) := hvl2
          clear hvl2
          gi_wp2
          refine ⟨trivial, rfl, (CallsIn.inRound l (callsIn_wide.2 HAp.out)).mono ?_⟩
          rintro e w' ⟨rfl, hw⟩
          subst hw
          gi_wp2
          have hd := HD.out
          have hv1 := setbox (.slice (some ⟨g, 0, none⟩) n c) HI.out.1
          have hv2 := setbox (.int .i64 (t : Nat)) HV2.out
          have ht := HI.out.2.2.2.2.2.2.2
          refine ⟨⟨rfl, rfl, rfl, by simp [World.setCell], fun x _ hx => (Below.heap_setCell _ _ _ _ (fun e => hx (Or.inr e))).trans (Below.heap_setCell _ _ _ _ (fun e => hx (Or.inl e)))⟩, ⟨_, t, (Below.heap_setCell _ ⟨bL, 0, none⟩ _ bB hd.1).trans hv1, hv2, Or.inr ⟨r, g, c, ?_, rfl, ht, ?_, hge, hc1, hc2⟩, ?_, ?_⟩, ?_⟩
          · refine Bst.new fun s hs => ?_
            rcases HI.out.2.2.1 with ⟨h0, _⟩ | ⟨b, _, _, h1, _, h4, _⟩
            · omega
            · have := h1.2.1 s hs; omega
          · exact HI.out.2.2.2.2.2.1.other ((Below.heap_setCell _ ⟨bL, 0, none⟩ _ g (by show g ≠ bL; omega)).trans (Below.heap_setCell _ ⟨bB, 0, none⟩ _ g (by show g ≠ bB; omega)))
          · exact (HI.out.2.2.2.1.setCell (by show w.heap.size ≤ bB; omega) _).setCell (by show w.heap.size ≤ bL; omega) _
          · have h9 := HI.out.2.2.2.2.1
            simp [World.setCell]; exact h9
          · have e := (Below.heap_setCell (w'.setCell ⟨bB, 0, none⟩ (.slice (some ⟨g, 0, none⟩) n c)) ⟨bL, 0, none⟩ (.int .i64 (t : Nat)) (w.heap.size + 1) (by show w.heap.size + 1 ≠ bL; omega)).trans (Below.heap_setCell w' ⟨bB, 0, none⟩ (.slice (some ⟨g, 0, none⟩) n c) (w.heap.size + 1) (by show w.heap.size + 1 ≠ bB; omega))
            have h9 := HI.out.2.2.2.2.2.2.1
            unfold World.cell? at h9 ⊢
            rw [e]; exact h9
        · have hz : ¬ (t : Int) < (lv : Int) := by omega
          gi_wp2
          refine ⟨trivial, rfl, (CallsIn.inRound l (callsIn_wide.2 HAp.out)).mono ?_⟩
          rintro e w' ⟨rfl, hw⟩
          subst hw
          gi_wp2
          refine ⟨⟨rfl, rfl, rfl, Nat.le_refl _, fun _ _ _ => rfl⟩, vb, lv, HI.out.1, HI.out.2.1, ?_, HI.out.2.2.2.1, HI.out.2.2.2.2.1⟩
          have e := HI.out.2.2.2.2.2.2.2
          rcases HI.out.2.2.1 with ⟨_, _, h3⟩ | ⟨b, g, c, h1, h3, h4, h5⟩
          · have h6 := HFn.out.2 r
            have h7 := HN1.out
            omega
          · exact Or.inr ⟨b, g, c, h1.keep (by omega), h3, h4, h5⟩
      case done =>
        rintro De We hDe ⟨hI, h2⟩ hK
        obtain ⟨vb, lv, hvb, hvl, hcase, hbel, hsz⟩ := hI
        have hqk : 0 < D.q ^ k := Nat.pow_pos (by have := hFl.q2; omega)
        rcases hcase with ⟨h3, _, _⟩ | ⟨b, g, c, h3, rfl, h4, h5, h6, h7, h8⟩
        · omega
        have HE : Hid (Row g n (wdr D R k b) (We.putObj De (.deferred none)) ∧ Below w.heap.size w (We.putObj De (.deferred none)) ∧ Bst f (D.q ^ k) b ∧ lv = f b ∧ w.heap.size ≤ g) := by
          have hO := HO.out
          refine ⟨h5.other (World.putObj_heap_other (fun e => ?_)), hbel.grown (grownBy_putObj' _ _ _) hbel.size (fun k hk => by cases hk; omega), h3, h4, by omega⟩
          have h9 := h5.cell 0 (by omega)
          unfold World.cell? at h9
          simp only [e, hK] at h9
          cases h9
        have cB := cell_of_row We bB 0 _ _ (0, 0) hvb
        have cL := cell_of_row We bL 0 _ _ (0, 0) hvl
        replace cB : We.cell? ⟨bB, 0, none⟩ = some (.slice (some ⟨g, 0, none⟩) n c) := cB
        replace cL : We.cell? ⟨bL, 0, none⟩ = some (.int .i64 (lv : Nat)) := cL
        clear hvb hvl hbel h5 h3 h4
        go_wp2
        go_big_quiet (fail)
        go_wp2
        have hK' : (We.drewN nq).heap[De]? = some (.deferred (some [])) := hK
        refine ⟨by simp, .inl ⟨_, _, rfl, run_takeDeferred hK', ?_⟩⟩
        refine ⟨.tuple #[.slice (some ⟨g, 0, none⟩) n c, .int .i64 (lv : Nat), .int .i64 0], by simp [results, Try.results15, go_sem], ?_⟩
        have h9 := HE.out.2.1
        refine ⟨k, R, H1.out.2.2.1, ⟨h9.os, h9.tape, h9.output, h9.size, h9.block⟩, Or.inl ⟨HKR.out.1, b, g, c, ?_, HE.out.2.2.2.2, h7, h8, HE.out.1.other rfl, ?_⟩⟩
        · rw [← HFn.out.1]; exact HE.out.2.2.1
        · rw [← HFn.out.1, ← HE.out.2.2.2.1]
  · have HM : Hid (¬ D.q ^ k ≤ 4096) := hmany
    obtain ⟨w2, hw2⟩ : ∃ w2, w2 = laid w1 w.heap.size 0 0 (.slice none 0 0) := ⟨_, rfl⟩
    have HB : Hid (Below w.heap.size w w2) := by rw [hw2]; exact laid_below H1.out.1 (Nat.le_refl _) _ _ _
    unfold laid at hw2
    go_wp2
    rw [← hw2]
    refine ⟨.tuple #[.slice none 0 0, .int .i64 0, .int .i64 4], by simp [results, Try.results15, go_sem], ?_⟩
    exact ⟨k, R, H1.out.2.2.1, HB.out, Or.inr ⟨HM.out, rfl⟩⟩
end Go.Proofs.Ytafebmhbfmdjlab
