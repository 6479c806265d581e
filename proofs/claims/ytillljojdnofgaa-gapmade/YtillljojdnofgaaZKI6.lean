/- Words that may lose a bit: how far apart two are (the reference's Steps). -/
import Derived.Test.YtillljojdnofgaaZKI5
import Derived.Test.YtillljojdnofgaaZW9
import Derived.Test.YtillljojdnofgaaZW11
namespace Go.Proofs.Ytillljojdnofgaa
open Go.RowKit Go.Sort

/-- A table of numbers, row by row, each in a block of its own. -/
structure TbL (base : Nat) (v : Value) (k n : Nat) (hd : Nat → Nat) (Z : Nat → Nat → Nat) (w : World) : Prop where
  own : OwnV base v (vl k fun i => .slice (some ⟨hd i, 0, none⟩) n n) w
  row : ∀ i, i < k → Row (hd i) n (Z i) w
  ge : ∀ i, i < k → base ≤ hd i
  inj : ∀ i, i < k → ∀ j, j < k → hd i = hd j → i = j
theorem TbL.nil (base n : Nat) (hd : Nat → Nat) (Z : Nat → Nat → Nat) (w : World) : TbL base (.slice none 0 0) 0 n hd Z w := ⟨OwnV.nil _ _, fun i hi => absurd hi (by omega), fun i hi => absurd hi (by omega), fun i hi => absurd hi (by omega)⟩
theorem TbL.below {base k n : Nat} {v : Value} {hd : Nat → Nat} {Z : Nat → Nat → Nat} {w w' : World} (h : TbL base v k n hd Z w) (hb : Below w.heap.size w w') : TbL base v k n hd Z w' := ⟨h.own.below hb (Nat.le_refl _), fun i hi => (h.row i hi).below hb (h.row i hi).lt, h.ge, h.inj⟩
theorem TbL.drewN {base k n : Nat} {v : Value} {hd : Nat → Nat} {Z : Nat → Nat → Nat} {w : World} (h : TbL base v k n hd Z w) (d : Nat) : TbL base v k n hd Z (w.drewN d) := h.below (below_drewN2 (Below.refl _ _) d)
theorem TbL.push {base k n g : Nat} {v v' : Value} {hd : Nat → Nat} {Z : Nat → Nat → Nat} {w w' : World} (h : TbL base v k n hd Z w) (hr : Row g n (fun _ => 0) w) (hg : base ≤ g) (hne : ∀ i, i < k → hd i ≠ g) (ho : OwnV base v' ((vl k fun i => .slice (some ⟨hd i, 0, none⟩) n n) ++ [.slice (some ⟨g, 0, none⟩) n n]) w') (hgr : w.grownBy w' v.ownBlock) :
    TbL base v' (k + 1) n (fun i => if i = k then g else hd i) (fun i => if i = k then fun _ => 0 else Z i) w' := by
  refine ⟨?_, fun i hi => ?_, fun i hi => ?_, fun i hi j hj e => ?_⟩
  · have e : vl (k + 1) (fun i => .slice (some ⟨if i = k then g else hd i, 0, none⟩) n n) = (vl k fun i => .slice (some ⟨hd i, 0, none⟩) n n) ++ [.slice (some ⟨g, 0, none⟩) n n] := by
      unfold vl
      rw [List.range_succ, List.map_append]
      congr 1
      · exact List.map_congr_left (fun j hj => by rw [if_neg (by have := List.mem_range.1 hj; omega)])
      · simp
    rw [e]; exact ho
  · by_cases e : i = k
    · simp only [if_pos e]; exact hr.other (hgr.block g hr.lt (hr.apart h.own))
    · simp only [if_neg e]; exact (h.row i (by omega)).other (hgr.block _ (h.row i (by omega)).lt ((h.row i (by omega)).apart h.own))
  · by_cases e : i = k
    · simp only [if_pos e]; exact hg
    · simp only [if_neg e]; exact h.ge i (by omega)
  · by_cases e1 : i = k
    · by_cases e2 : j = k
      · omega
      · simp only [if_pos e1, if_neg e2] at e; exact absurd e.symm (hne j (by omega))
    · by_cases e2 : j = k
      · simp only [if_neg e1, if_pos e2] at e; exact absurd e (hne i (by omega))
      · simp only [if_neg e1, if_neg e2] at e; exact h.inj i (by omega) j (by omega) e
theorem TbL.put {base k n : Nat} {v : Value} {hd : Nat → Nat} {Z : Nat → Nat → Nat} {w : World} (h : TbL base v k n hd Z w) {i : Nat} (hi : i < k) (j x : Nat) : TbL base v k n hd (fun a b => if a = i ∧ b = j then x else Z a b) (w.setCell ⟨hd i, j, none⟩ (.int .i64 (x : Nat))) := by
  refine ⟨h.own.same fun g hg => Below.heap_setCell _ _ _ _ (fun e => (h.row i hi).apart h.own (by rw [hg, e])), fun a ha => ?_, h.ge, h.inj⟩
  by_cases e : a = i
  · subst e
    refine (h.row a ha).store j x fun b _ => ?_
    by_cases e2 : b = j
    · rw [if_pos ⟨rfl, e2⟩, if_pos e2]
    · rw [if_neg (fun x => e2 x.2), if_neg e2]
  · refine ((h.row a ha).other (Below.heap_setCell _ _ _ _ (fun x => e (h.inj a ha i hi x)))).congr fun b _ => ?_
    rw [if_neg (fun x => e x.1)]
theorem TbL.head {base k n cap G : Nat} {hd : Nat → Nat} {Z : Nat → Nat → Nat} {w : World} (h : TbL base (.slice (some ⟨G, 0, none⟩) k cap) k n hd Z w) {i : Nat} (hi : i < k) : w.cell? ⟨G, i, none⟩ = some (.slice (some ⟨hd i, 0, none⟩) n n) := by
  obtain ⟨ao, cap2, e, _, _, _, hc⟩ := h.own.open
  rw [vl_len] at e
  obtain ⟨g, e2, h2, _⟩ := hc i _ (vl_get k _ i hi)
  subst e2
  cases e
  exact h2
/-- The rows ahead of i, and of row i the numbers ahead of j, are told. -/
def SrI (x y : Nat → Int) (m : Nat) (Z : Nat → Nat → Nat) (i j : Nat) : Prop := (∀ a b, a < i → b ≤ m → Z a b = lvd x y a b) ∧ ∀ b, b < j → Z i b = lvd x y i b
theorem SrI.next {x y : Nat → Int} {m : Nat} {Z : Nat → Nat → Nat} {i j : Nat} (h : SrI x y m Z i j) {v : Nat} (hv : v = lvd x y i j) : SrI x y m (fun a b => if a = i ∧ b = j then v else Z a b) i (j + 1) := by
  refine ⟨fun a b ha hb => ?_, fun b hb => ?_⟩
  · show (if a = i ∧ b = j then v else Z a b) = _
    rw [if_neg (by omega)]; exact h.1 a b ha hb
  · show (if i = i ∧ b = j then v else Z i b) = _
    by_cases e : b = j
    · rw [if_pos ⟨rfl, e⟩, e]; exact hv
    · rw [if_neg (fun x => e x.2)]; exact h.2 b (by omega)
theorem SrI.row {x y : Nat → Int} {m : Nat} {Z : Nat → Nat → Nat} {i : Nat} (h : SrI x y m Z i (m + 1)) : SrI x y m Z (i + 1) 0 := by
  refine ⟨fun a b ha hb => ?_, fun b hb => absurd hb (by omega)⟩
  by_cases e : a = i
  · rw [e]; exact h.2 b (by omega)
  · exact h.1 a b (by omega) hb

set_option maxHeartbeats 16000000 in
set_option maxRecDepth 100000 in
theorem rsteps_any {ao bo : Option Addr} {n m ca cb : Nat} {x y : Nat → Int} {w : World} (hX : SlZ ao n x w) (hY : SlZ bo m y w) (hn : n ≤ 13) (hm : m ≤ 13) :
    Calls Try.prog 20 #[.slice ao n ca, .slice bo m cb] w fun e w' => e = .returned (.int .i64 (lvd x y n m : Nat)) ∧ Below w.heap.size w w' := by
  have HF : Hid (SlZ ao n x w ∧ SlZ bo m y w) := ⟨hX, hY⟩
  obtain ⟨m1, hm1⟩ : ∃ m1, m1 = m + 1 := ⟨_, rfl⟩
  have wm : IntKind.i64.wrap ((m : Int) + 1) = (m1 : Int) := wrap_to (by omega) (by omega)
  have hm1a : m < m1 := by omega
  have hm1b : m1 ≤ m + 1 := by omega
  clear hX hY hm1
  go_enter Try.func20, Try.ntmps20
  go_wp2
  go_loopw [5, 6] (fun vt vi wr => ∃ (k : Nat) (hd : Nat → Nat), k ≤ n + 1 ∧ vi = .int .i64 (k : Nat) ∧ Hid (TbL w.heap.size vt k m1 hd (fun _ _ => 0) wr ∧ Below w.heap.size w wr ∧ ∀ i, i < k → hd i < wr.heap.size)) (fun _ vi _ => n + 1 - (intOf vi).toNat)
  case atStart => exact ⟨0, fun _ => 0, by omega, rfl, TbL.nil _ _ _ _ _, Below.refl _ _, fun i hi => absurd hi (by omega)⟩
  case round =>
    obtain ⟨k, hd, hk, rfl, HG⟩ := hrel
    rename World => wr
    by_cases hlt : k ≤ n
    · have hib : (k : Int) ≤ (n : Int) := by omega
      have hszr := HG.out.2.1.size
      have hll : (vl k fun i => Value.slice (some ⟨hd i, 0, none⟩) m1 m1).length ≤ 1000000 := by rw [vl_len]; omega
      go_wp2_with (first
        | (at_make; refine make_int rfl _ _ rfl _ m1 rfl rfl (by omega) (by omega) ?_; intro w1 hown1 hgrow1; have hrz : Row wr.heap.size m1 (fun _ => 0) w1 := row_zeros hown1; have hb1 : Below wr.heap.size wr w1 := below_grown hgrow1 (Nat.le_refl _) (fun k hk => by cases hk); have H1 : Hid (TbL w.heap.size u5 k m1 hd (fun _ _ => 0) w1 ∧ Row wr.heap.size m1 (fun _ => 0) w1 ∧ Below w.heap.size w w1) := ⟨HG.out.1.below hb1, hrz, bel_up' HG.out.2.1 hb1⟩; have hs1 := hb1.size; clear hown1 hgrow1 hrz hb1)
        | (at_builtin; refine append_sl rfl _ _ rfl w.heap.size u5 _ rfl (H1.out.1.own.below ((Below.refl _ _).alloc (Nat.le_refl _) _) (Nat.le_refl _)) ⟨w1.heap.size, 0, none⟩ 1 (.slice (some ⟨wr.heap.size, 0, none⟩) m1 m1) rfl rfl (by rw [cell_of_row _ _ _ _ _ (0, 0) (two_new _)]; rfl) hll (by simp; omega) ?_; intro v' w6 hown6 hg6))
      have hal : Below w1.heap.size w1 (w1.alloc (.cells #[.slice (some ⟨wr.heap.size, 0, none⟩) m1 m1] 22)) := (Below.refl _ _).alloc (Nat.le_refl _) _
      have HR : Hid (TbL w.heap.size v' (k + 1) m1 (fun i => if i = k then wr.heap.size else hd i) (fun _ _ => 0) w6 ∧ Below w.heap.size w w6 ∧ ∀ i, i < k + 1 → (if i = k then wr.heap.size else hd i) < w6.heap.size) := by
        have ho := H1.out.1.below hal
        have hb6 : Below w.heap.size w w6 := (bel_up' H1.out.2.2 hal).grown hg6 (by simp; omega) (fun k hk => ho.own.open_ge k hk)
        have hp := ho.push (H1.out.2.1.below hal (H1.out.2.1.lt)) hszr (fun i hi e => by have := HG.out.2.2 i hi; omega) hown6 hg6
        have ez : (fun i => if i = k then fun _ : Nat => 0 else (fun _ _ : Nat => (0 : Nat)) i) = fun _ _ => 0 := by funext i; split <;> rfl
        rw [ez] at hp
        exact ⟨hp, hb6, fun i hi => (hp.row i hi).lt⟩
      clear hown6 hg6 hal
      try go_wp2
      go_roundw
      case rel => exact ⟨k + 1, _, by omega, by go_num, HR.out⟩
      case measure => simp [intOf]; omega
    · have hib : ¬ (k : Int) ≤ (n : Int) := by omega
      have hk1 : n < k := by omega
      obtain ⟨ta, tc, ht, _, _, _, hcell⟩ := HG.out.1.own.open
      rw [vl_len] at ht
      obtain ⟨G, hG, _⟩ := hcell 0 _ (vl_get k _ 0 (by omega))
      rw [hG] at ht
      subst ht
      clear hcell hG
      have hnk : (n : Int) < (k : Int) := by omega
      go_wp2
      go_loopw [7] (fun vi wx => ∃ (i : Nat) (Z : Nat → Nat → Nat), i ≤ k ∧ vi = .int .i64 (i : Nat) ∧ Hid (TbL w.heap.size (.slice (some ⟨G, 0, none⟩) k tc) k m1 hd Z wx ∧ SrI x y m Z i 0 ∧ Below w.heap.size w wx)) (fun vi _ => k - (intOf vi).toNat)
      case atStart => exact ⟨0, _, by omega, rfl, HG.out.1, ⟨fun a b ha _ => absurd ha (by omega), fun b hb => absurd hb (by omega)⟩, HG.out.2.1⟩
      case round =>
        obtain ⟨i, Z, hi, rfl, HI⟩ := hrel
        rename World => wy
        by_cases hil : i ≤ n
        · have hib2 : (i : Int) ≤ (n : Int) := by omega
          go_wp2
          go_loopw [8] (fun vj wx => ∃ (j : Nat) (Z : Nat → Nat → Nat), j ≤ m1 ∧ vj = .int .i64 (j : Nat) ∧ Hid (TbL w.heap.size (.slice (some ⟨G, 0, none⟩) k tc) k m1 hd Z wx ∧ SrI x y m Z i j ∧ Below w.heap.size w wx)) (fun vj _ => m1 - (intOf vj).toNat)
          case atStart => exact ⟨0, Z, by omega, rfl, HI.out⟩
          case round =>
            obtain ⟨j, Z2, hj, rfl, HJ⟩ := hrel
            rename World => wx
            by_cases hjl : j ≤ m
            · have hjb : (j : Int) ≤ (m : Int) := by omega
              have hik : (i : Int) < (k : Int) := by omega
              have hjm : (j : Int) < (m1 : Int) := by omega
              have hib0 : (0 : Int) ≤ (i : Int) := by omega
              have hjb0 : (0 : Int) ≤ (j : Int) := by omega
              obtain ⟨hi', hhi'⟩ : ∃ h, h = hd i := ⟨_, rfl⟩
              have hcg := HJ.out.1.head (i := i) (by omega)
              have hcr := (HJ.out.1.row i (by omega)).cell j (by omega)
              have hfr := (HJ.out.1.row i (by omega)).free j
              obtain ⟨o0, ho0⟩ : ∃ o0, o0 = Z2 i j := ⟨_, rfl⟩
              rw [← ho0] at hcr
              rw [← hhi'] at hcg hcr hfr
              have HS : Hid (∀ (wz : World) (v : Nat), (∃ d, wz = wx.drewN d) → v = lvd x y i j → TbL w.heap.size (.slice (some ⟨G, 0, none⟩) k tc) k m1 hd (fun a b => if a = i ∧ b = j then v else Z2 a b) (wz.setCell ⟨hi', j, none⟩ (.int .i64 (v : Nat))) ∧ SrI x y m (fun a b => if a = i ∧ b = j then v else Z2 a b) i (j + 1) ∧ Below w.heap.size w (wz.setCell ⟨hi', j, none⟩ (.int .i64 (v : Nat)))) := fun wz v hz hv => by
                obtain ⟨d, rfl⟩ := hz
                rw [hhi']
                exact ⟨(HJ.out.1.drewN d).put (by omega) j v, HJ.out.2.1.next hv, setO_bel (below_drewN2 HJ.out.2.2 d) (HJ.out.1.ge i (by omega)) _⟩
              have HH : Hid (hi' = hd i) := hhi'
              clear ho0 hhi'
              by_cases h0 : i = 0
              · have zi : ((i : Int) == 0) = true := by rw [h0]; rfl
                have HV : Hid (j = lvd x y i j) := by show j = lvd x y i j; rw [h0, lvd_front]
                clear h0
                go_wp2
                go_roundw
                case rel => exact ⟨j + 1, _, by omega, by go_num, HS.out _ _ ⟨0, rfl⟩ HV.out⟩
                case measure => simp [intOf]; omega
              have zi : ((i : Int) == 0) = false := beq_eq_false_iff_ne.2 (by omega)
              by_cases hj0 : j = 0
              · have zj : ((j : Int) == 0) = true := by rw [hj0]; rfl
                have HV : Hid (i = lvd x y i j) := by show i = lvd x y i j; rw [hj0, lvd_side]
                clear h0 hj0
                go_wp2
                go_roundw
                case rel => exact ⟨j + 1, _, by omega, by go_num, HS.out _ _ ⟨0, rfl⟩ HV.out⟩
                case measure => simp [intOf]; omega
              have zj : ((j : Int) == 0) = false := beq_eq_false_iff_ne.2 (by omega)
              obtain ⟨i1, hi1⟩ : ∃ i1, i = i1 + 1 := ⟨i - 1, by omega⟩
              obtain ⟨j1, hj1⟩ : ∃ j1, j = j1 + 1 := ⟨j - 1, by omega⟩
              have wi1 : IntKind.i64.wrap ((i : Int) - 1) = (i1 : Int) := wrap_to (by omega) (by omega)
              have wj1 : IntKind.i64.wrap ((j : Int) - 1) = (j1 : Int) := wrap_to (by omega) (by omega)
              have hi1n : (i1 : Int) < (n : Int) := by omega
              have hi1k : (i1 : Int) < (k : Int) := by omega
              have hj1m : (j1 : Int) < (m : Int) := by omega
              have hj1k : (j1 : Int) < (m1 : Int) := by omega
              have hi10 : (0 : Int) ≤ (i1 : Int) := by omega
              have hj10 : (0 : Int) ≤ (j1 : Int) := by omega
              obtain ⟨ba, oa, hao, hca⟩ := (slz_below HF.out.1 HJ.out.2.2) i1 (by omega)
              obtain ⟨bb, ob, hbo, hcb⟩ := (slz_below HF.out.2 HJ.out.2.2) j1 (by omega)
              obtain ⟨xv, hxv⟩ : ∃ xv, xv = x i1 := ⟨_, rfl⟩
              obtain ⟨yv, hyv⟩ : ∃ yv, yv = y j1 := ⟨_, rfl⟩
              rw [← hxv] at hca
              rw [← hyv] at hcb
              subst hao
              subst hbo
              have hstep := lvd_step x y i1 j1
              rw [← hxv, ← hyv, ← hi1, ← hj1] at hstep
              clear hxv hyv
              have hcg1 := HJ.out.1.head (i := i1) (by omega)
              have hc11 := (HJ.out.1.row i1 (by omega)).cell j1 (by omega)
              have hc10 := (HJ.out.1.row i1 (by omega)).cell j (by omega)
              have hc01 := (HJ.out.1.row i (by omega)).cell j1 (by omega)
              obtain ⟨h1, hh1⟩ : ∃ h1, h1 = hd i1 := ⟨_, rfl⟩
              rw [← hh1] at hcg1 hc11 hc10
              rw [← HH.out] at hc01
              have e11 := HJ.out.2.1.1 i1 j1 (by omega) (by omega)
              have e10 := HJ.out.2.1.1 i1 j (by omega) (by omega)
              have e01 := HJ.out.2.1.2 j1 (by omega)
              rw [e11] at hc11
              rw [e10] at hc10
              rw [e01] at hc01
              obtain ⟨r, hr⟩ : ∃ r, r = lvd x y i1 j1 := ⟨_, rfl⟩
              obtain ⟨p, hp⟩ : ∃ p, p = lvd x y i1 j := ⟨_, rfl⟩
              obtain ⟨q, hq⟩ : ∃ q, q = lvd x y i j1 := ⟨_, rfl⟩
              rw [← hr] at hc11
              rw [← hp] at hc10
              rw [← hq] at hc01
              rw [← hr, ← hp, ← hq] at hstep
              have hp26 : p ≤ 26 := by rw [hp]; have := lvd_few x y i1 j; omega
              have hq26 : q ≤ 26 := by rw [hq]; have := lvd_few x y i j1; omega
              clear hr hp hq e11 e10 e01 hh1 h0 hj0 hi1 hj1
              by_cases hxy : xv = yv
              · have zxy : (xv == yv) = true := beq_iff_eq.2 hxy
                rw [if_pos hxy] at hstep
                have HV : Hid (r = lvd x y i j) := hstep.symm
                clear hstep hxy
                go_wp2
                go_quiet (fail)
                go_wp2
                refine quiet_tail 15 (by kernel_rfl) (by kernel_rfl) ?_
                simp only [List.take_succ_cons, List.take_zero, List.drop_succ_cons, List.drop_zero]
                repeat (go_big_quiet_step (fail))
                refine wpQuiet_nil ?_
                intro _ hw'
                obtain ⟨nd, hw''⟩ := hw'
                subst hw''
                go_wp2
                go_roundw
                case rel => exact ⟨j + 1, _, by omega, by first | rfl | go_num, HS.out _ r ⟨_, by first | rfl | rw [World.drewN_drewN] | rw [World.drewN_drewN, World.drewN_drewN]⟩ HV.out⟩
                case measure => simp [intOf]; omega
              · have zxy : (xv == yv) = false := beq_eq_false_iff_ne.2 hxy
                rw [if_neg hxy] at hstep
                by_cases hpq : p < q
                · have zpq : (p : Int) < (q : Int) := by omega
                  obtain ⟨v, hv⟩ : ∃ v, v = p + 1 := ⟨_, rfl⟩
                  have wv : IntKind.i64.wrap ((p : Int) + 1) = (v : Int) := wrap_to (by omega) (by omega)
                  have HV : Hid (v = lvd x y i j) := by show v = lvd x y i j; rw [hstep, hv]; omega
                  clear hstep hxy hpq hv
                  go_wp2
                  go_quiet (fail)
                  go_wp2
                  go_quiet (fail)
                  go_wp2
                  refine quiet_tail 15 (by kernel_rfl) (by kernel_rfl) ?_
                  simp only [List.take_succ_cons, List.take_zero, List.drop_succ_cons, List.drop_zero]
                  repeat (go_big_quiet_step (fail))
                  refine wpQuiet_nil ?_
                  intro _ hw'
                  obtain ⟨nd, hw''⟩ := hw'
                  subst hw''
                  go_wp2
                  go_roundw
                  case rel => exact ⟨j + 1, _, by omega, by first | rfl | go_num, HS.out _ v ⟨_, by first | rfl | rw [World.drewN_drewN] | rw [World.drewN_drewN, World.drewN_drewN]⟩ HV.out⟩
                  case measure => simp [intOf]; omega
                · have zpq : ¬ (p : Int) < (q : Int) := by omega
                  obtain ⟨v, hv⟩ : ∃ v, v = q + 1 := ⟨_, rfl⟩
                  have wv : IntKind.i64.wrap ((q : Int) + 1) = (v : Int) := wrap_to (by omega) (by omega)
                  have HV : Hid (v = lvd x y i j) := by show v = lvd x y i j; rw [hstep, hv]; omega
                  clear hstep hxy hpq hv
                  go_wp2
                  go_quiet (fail)
                  go_wp2
                  go_quiet (fail)
                  go_wp2
                  refine quiet_tail 15 (by kernel_rfl) (by kernel_rfl) ?_
                  simp only [List.take_succ_cons, List.take_zero, List.drop_succ_cons, List.drop_zero]
                  repeat (go_big_quiet_step (fail))
                  refine wpQuiet_nil ?_
                  intro _ hw'
                  obtain ⟨nd, hw''⟩ := hw'
                  subst hw''
                  go_wp2
                  go_roundw
                  case rel => exact ⟨j + 1, _, by omega, by first | rfl | go_num, HS.out _ v ⟨_, by first | rfl | rw [World.drewN_drewN] | rw [World.drewN_drewN, World.drewN_drewN]⟩ HV.out⟩
                  case measure => simp [intOf]; omega
            · have hjb : ¬ (j : Int) ≤ (m : Int) := by omega
              have HE : Hid (TbL w.heap.size (.slice (some ⟨G, 0, none⟩) k tc) k m1 hd Z2 wx ∧ SrI x y m Z2 (i + 1) 0 ∧ Below w.heap.size w wx) := by
                refine ⟨HJ.out.1, SrI.row ?_, HJ.out.2.2⟩
                have h := HJ.out.2.1
                rw [show j = m + 1 by omega] at h; exact h
              go_wp2
              go_roundw
              case rel => exact ⟨i + 1, Z2, by omega, by go_num, HE.out⟩
              case measure => simp [intOf]; omega
        · have hib2 : ¬ (i : Int) ≤ (n : Int) := by omega
          have hcg := HI.out.1.head (i := n) (by omega)
          have hcr := (HI.out.1.row n (by omega)).cell m (by omega)
          obtain ⟨v, hv⟩ : ∃ v, v = Z n m := ⟨_, rfl⟩
          rw [← hv] at hcr
          have HV : Hid (v = lvd x y n m) := by rw [hv]; exact HI.out.2.1.1 n m (by omega) (Nat.le_refl _)
          obtain ⟨h1, hh1⟩ : ∃ h1, h1 = hd n := ⟨_, rfl⟩
          rw [← hh1] at hcg hcr
          have hmk : (m : Int) < (m1 : Int) := by omega
          clear hv hh1
          go_wp2
          go_ret
          exact ⟨by rw [HV.out]; rfl, HI.out.2.2⟩
end Go.Proofs.Ytillljojdnofgaa
