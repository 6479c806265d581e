/- Polar: the reference's BestOf. -/
import Derived.Test.YtbfkacnpbelmlaaZKS5
import Derived.Test.YtbfkacnpbelmlaaZR5
namespace Go.Proofs.Ytbfkacnpbelmlaa
open Go.RowKit Go.Sort

/-- The place so far, as a number. -/
def atI : Option Nat → Int
  | none => -1
  | some z => ((z : Nat) : Int)
theorem lsI_nat (m i : Nat) : (lsI m).getD i 0 = (((lss m).getD i 0 : Nat) : Int) := by
  unfold lsI
  simp only [List.getD_eq_getElem?_getD, List.getElem?_map]
  cases (lss m)[i]? <;> rfl
def flt (t : List Nat) (J : Nat) : List Int := ((List.range J).filter fun j => t.contains j).map fun j => ((j : Nat) : Int)
theorem flt_succ (t : List Nat) (J : Nat) : flt t (J + 1) = flt t J ++ if t.contains J = true then [((J : Nat) : Int)] else [] := by
  unfold flt
  rw [List.range_succ, List.filter_append, List.map_append]
  by_cases c : t.contains J = true
  · rw [if_pos c, List.filter_cons_of_pos (p := fun j => t.contains j) c]; rfl
  · rw [if_neg c, List.filter_cons_of_neg (p := fun j => t.contains j) c]; rfl
theorem flt_len (t : List Nat) (J : Nat) : (flt t J).length ≤ J := by
  unfold flt
  rw [List.length_map]
  exact Nat.le_trans (List.length_filter_le _ _) (by rw [List.length_range]; exact Nat.le_refl _)

set_option maxHeartbeats 16000000 in
set_option maxRecDepth 100000 in
theorem bestOf_any {m k : Nat} (hm : m ≤ 5) (hk : k ≤ 2 ^ m) (w : World) :
    Calls Try.prog 8 #[.int .i64 (m : Nat), .int .i64 (k : Nat)] w fun e w' => ∃ v, e = .returned v ∧ OwnI w.heap.size v (flt (srt m k) (2 ^ m)) w' ∧ Below w.heap.size w w' := by
  have HL : Hid (Calls Try.prog 6 #[.int .i64 (m : Nat)] w fun e w' => ∃ v, e = .returned v ∧ OwnI w.heap.size v (lsI m) w' ∧ Below w.heap.size w w') := losses_any hm w
  have hlen := lsI_len hm
  have hn32 : 2 ^ m ≤ 32 := Nat.le_trans (Nat.pow_le_pow_right (by omega) hm) (by decide)
  have hnx := fun i (hi : i < 2 ^ m) => srt_next hm hi
  have hst0 : srt m 0 = [] := rfl
  have hnat := lsI_nat m
  obtain ⟨l, hl⟩ : ∃ l, l = lsI m := ⟨_, rfl⟩
  obtain ⟨ls, hls⟩ : ∃ ls, ls = lss m := ⟨_, rfl⟩
  obtain ⟨st, hst⟩ : ∃ st : Nat → List Nat, st = srt m := ⟨_, rfl⟩
  obtain ⟨N, hN⟩ : ∃ N, N = 2 ^ m := ⟨_, rfl⟩
  rw [← hl] at HL hlen hnat
  rw [← hls] at hnat
  rw [← hN] at hlen hn32 hk ⊢
  rw [← hst] at hst0 ⊢
  have HX : Hid ((∀ i, i < N → ∃ x, nxb ls (st i) N none = some x ∧ x < N ∧ st (i + 1) = st i ++ [x]) ∧ (∀ i, l.getD i 0 = ((ls.getD i 0 : Nat) : Int)) ∧ l.length = N ∧ st 0 = []) := ⟨fun i hi => by rw [hls, hst, hN]; exact hnx i (by rw [← hN]; exact hi), hnat, hlen, hst0⟩
  clear hl hls hst hN hnx hst0 hnat hlen
  go_enter Try.func8, Try.ntmps8
  go_wp2_with fail
  refine HL.out.mono ?_
  rintro e w1 ⟨v1, rfl, ho1, hb1⟩
  obtain ⟨ao, ca, hv, hA1⟩ := ho1.argOf HX.out.2.2.1
  subst hv
  have H1 : Hid (ArgL ao N ca (fun i => l.getD i 0) w1 ∧ Below w.heap.size w w1) := ⟨hA1, hb1⟩
  clear ho1 hA1 hb1 HL
  go_wp2_with (at_make; refine make_bool rfl _ _ rfl _ N rfl rfl rfl (by omega) ?_; intro w2 hrow2 hgrow2)
  obtain ⟨g, hg⟩ : ∃ g, g = w1.heap.size := ⟨_, rfl⟩
  rw [← hg] at hrow2
  try rw [← hg]
  have H2 : Hid (RowF g N 4 (fun j => .bool ((st 0).contains j)) w2 ∧ Below w1.heap.size w1 w2 ∧ g = w1.heap.size) := ⟨hrow2.congr (fun j _ => by rw [HX.out.2.2.2]; rfl), below_grown hgrow2 (Nat.le_refl _) (fun k hk => by cases hk), hg⟩
  clear hrow2 hgrow2 hg
  go_loopw [7] (fun vi wr => ∃ i : Nat, i ≤ k ∧ vi = .int .i64 (i : Nat) ∧ Hid (RowF g N 4 (fun j => .bool ((st i).contains j)) wr ∧ Below w1.heap.size w1 wr)) (fun vi _ => k - (intOf vi).toNat)
  case atStart => exact ⟨0, by omega, rfl, H2.out.1, H2.out.2.1⟩
  case round =>
    obtain ⟨i, hi, rfl, HG⟩ := hrel
    rename World => wr
    by_cases hlt : i < k
    · have hib : (i : Int) < (k : Int) := by omega
      obtain ⟨x, hx1, hx2, hx3⟩ := HX.out.1 i (by omega)
      have HT : Hid (nxb ls (st i) N none = some x ∧ st (i + 1) = st i ++ [x]) := ⟨hx1, hx3⟩
      clear hx1 hx3
      go_wp2
      go_loopw [8, 9] (fun va vj wq => ∃ (J : Nat) (a : Option Nat), J ≤ N ∧ vj = .int .i64 ((J : Int) - 1) ∧ va = .int .i64 (atI a) ∧ (∀ z, a = some z → z < N) ∧ Hid (nxb ls (st i) J a = some x ∧ RowF g N 4 (fun j => .bool ((st i).contains j)) wq ∧ Below w1.heap.size w1 wq)) (fun _ vj _ => (intOf vj + 1).toNat)
      case atStart => exact ⟨N, none, by omega, by first | rfl | go_num, rfl, fun z hz => (by cases hz), HT.out.1, HG.out.1, HG.out.2⟩
      case round =>
        obtain ⟨J, a, hJ, rfl, rfl, haz, HJ⟩ := hrel
        rename World => wq
        cases J with
        | zero =>
          have hax : a = some x := HJ.out.1
          subst hax
          have hneg : ¬ (0 : Int) ≤ ((0 : Nat) : Int) - 1 := by omega
          have hneg2 : ¬ ((0 : Nat) : Int) - 1 ≥ 0 := by omega
          have hm1 : ((0 : Nat) : Int) - 1 = -1 := rfl
          rw [hm1]
          have hxi : (x : Int) < (N : Int) := by omega
          have hxi0 : (0 : Int) ≤ (x : Int) := by omega
          have hc0 := HJ.out.2.1.cell x hx2
          have hf0 := HJ.out.2.1.free x
          have hat : atI (some x) = ((x : Nat) : Int) := rfl
          rw [hat]
          have HN : Hid (RowF g N 4 (fun j => .bool ((st (i + 1)).contains j)) (wq.setCell ⟨g, x, none⟩ (.bool true)) ∧ Below w1.heap.size w1 (wq.setCell ⟨g, x, none⟩ (.bool true))) := by
            refine ⟨(HJ.out.2.1.store x (.bool true)).congr (fun j _ => ?_), HJ.out.2.2.setCell (by have := H2.out.2.2; show w1.heap.size ≤ g; omega) _⟩
            unfold upd
            rw [HT.out.2]
            by_cases e : j = x
            · rw [if_pos e, e]; simp
            · rw [if_neg e]; simp [e]
          clear HJ
          go_wp2
          go_roundw
          case rel => exact ⟨i + 1, by omega, by go_num, HN⟩
          case measure => simp [intOf]; omega
        | succ j =>
          have HD : Hid (∀ d, RowF g N 4 (fun j => .bool ((st i).contains j)) (wq.drewN d) ∧ Below w1.heap.size w1 (wq.drewN d)) := fun d => ⟨HJ.out.2.1.drewN d, below_drewN2 HJ.out.2.2 d⟩
          have hjI : ((j + 1 : Nat) : Int) - 1 = ((j : Nat) : Int) := by omega
          rw [hjI]
          have hjN : j < N := by omega
          have hjb : (j : Int) < (N : Int) := by omega
          have hjb0 : (0 : Int) ≤ (j : Int) := by omega
          have hjg : (j : Int) ≥ 0 := by omega
          have hc0 := HJ.out.2.1.cell j hjN
          obtain ⟨b1, o1, e1, q1⟩ := H1.out.1.sl j hjN
          have l1 := H1.out.1.lt _ e1
          obtain ⟨y, hy⟩ : ∃ y, y = ls.getD j 0 := ⟨_, rfl⟩
          have c1 : wq.cell? ⟨b1, o1 + j, none⟩ = some (.int .i64 (y : Nat)) := by
            have q2 : wq.cell? ⟨b1, o1 + j, none⟩ = some (.int .i64 (l.getD j 0)) := (HJ.out.2.2.cell (p := ⟨b1, o1 + j, none⟩) l1).trans q1
            rw [HX.out.2.1 j, ← hy] at q2; exact q2
          cases hct : (st i).contains j with
          | true =>
            rw [hct] at hc0
            have HN : Hid (nxb ls (st i) j a = some x) := by
              have h := HJ.out.1
              unfold nxb at h
              rw [if_pos hct] at h; exact h
            clear HJ hct hy q1
            subst e1
            go_wp2
            go_big_quiet (fail)
            go_wp2
            go_roundw
            case rel => exact ⟨j, a, by omega, by first | rfl | go_num, rfl, haz, HN.out, HD.out _⟩
            case measure => simp [intOf]
          | false =>
            rw [hct] at hc0
            cases a with
            | none =>
              have HN : Hid (nxb ls (st i) j (some j) = some x) := by
                have h := HJ.out.1
                unfold nxb at h
                rw [if_neg (by rw [hct]; simp)] at h; exact h
              have hat : atI none = -1 := rfl
              rw [hat]
              clear HJ hct hy q1
              subst e1
              go_wp2
              go_big_quiet (fail)
              go_wp2
              go_roundw
              case rel => exact ⟨j, some j, by omega, by first | rfl | go_num, rfl, fun z hz => (by cases hz; exact hjN), HN.out, HD.out _⟩
              case measure => simp [intOf]
            | some z =>
              have hzN := haz z rfl
              have hat : atI (some z) = ((z : Nat) : Int) := rfl
              rw [hat]
              have hzb : (z : Int) < (N : Int) := by omega
              have hzb0 : (0 : Int) ≤ (z : Int) := by omega
              have hzn : ¬ (z : Int) < 0 := by omega
              have hzd : decide ((z : Int) < 0) = false := decide_eq_false hzn
              obtain ⟨b2, o2, e2, q2⟩ := H1.out.1.sl z hzN
              obtain ⟨u, hu⟩ : ∃ u, u = ls.getD z 0 := ⟨_, rfl⟩
              have c2 : wq.cell? ⟨b2, o2 + z, none⟩ = some (.int .i64 (u : Nat)) := by
                have q3 : wq.cell? ⟨b2, o2 + z, none⟩ = some (.int .i64 (l.getD z 0)) := (HJ.out.2.2.cell (p := ⟨b2, o2 + z, none⟩) (show b2 < w1.heap.size from H1.out.1.lt _ e2)).trans q2
                rw [HX.out.2.1 z, ← hu] at q3; exact q3
              rw [e1] at e2
              cases e2
              by_cases hyu : y < u
              · have hyi : (y : Int) < (u : Int) := by omega
                have HN : Hid (nxb ls (st i) j (some j) = some x) := by
                  have h := HJ.out.1
                  unfold nxb at h
                  rw [if_neg (by rw [hct]; simp)] at h
                  have h2 : nxb ls (st i) j (if ls.getD j 0 < ls.getD z 0 then some j else some z) = some x := h
                  rw [if_pos (by rw [← hy, ← hu]; exact hyu)] at h2; exact h2
                clear HJ hct hy hu q1 q2
                subst e1
                go_wp2
                go_big_quiet (fail)
                go_wp2
                go_roundw
                case rel => exact ⟨j, some j, by omega, by first | rfl | go_num, rfl, fun z hz => (by cases hz; exact hjN), HN.out, HD.out _⟩
                case measure => simp [intOf]
              · have hyi : ¬ (y : Int) < (u : Int) := by omega
                have HN : Hid (nxb ls (st i) j (some z) = some x) := by
                  have h := HJ.out.1
                  unfold nxb at h
                  rw [if_neg (by rw [hct]; simp)] at h
                  have h2 : nxb ls (st i) j (if ls.getD j 0 < ls.getD z 0 then some j else some z) = some x := h
                  rw [if_neg (by rw [← hy, ← hu]; exact hyu)] at h2; exact h2
                clear HJ hct hy hu q1 q2
                subst e1
                go_wp2
                go_big_quiet (fail)
                go_wp2
                go_roundw
                case rel => exact ⟨j, some z, by omega, by first | rfl | go_num, rfl, haz, HN.out, HD.out _⟩
                case measure => simp [intOf]
    · have hib : ¬ (i : Int) < (k : Int) := by omega
      have hik : i = k := by omega
      subst hik
      go_wp2
      go_loopw [10, 11] (fun vs vj wq => ∃ J : Nat, J ≤ N ∧ vj = .int .i64 (J : Nat) ∧ Hid (OwnI wr.heap.size vs (flt (st i) J) wq ∧ Below wr.heap.size wr wq)) (fun _ vj _ => N - (intOf vj).toNat)
      case atStart => exact ⟨0, by omega, rfl, OwnI.nil _ _, Below.refl _ _⟩
      case round =>
        obtain ⟨J, hJ, rfl, HJ⟩ := hrel
        rename World => wq
        have hsz := HJ.out.2.size
        by_cases hjl : J < N
        · have hjb : (J : Int) < (N : Int) := by omega
          have hjb0 : (0 : Int) ≤ (J : Int) := by omega
          have hrq := HG.out.1.below HJ.out.2 HG.out.1.lt
          have hc0 := hrq.cell J hjl
          have HF := flt_succ (st i) J
          have HFl := flt_len (st i) J
          cases hct : (st i).contains J with
          | true =>
            rw [hct] at hc0
            have HE : Hid (flt (st i) (J + 1) = flt (st i) J ++ [((J : Nat) : Int)] ∧ (flt (st i) J).length ≤ 32) := by
              rw [if_pos hct] at HF; exact ⟨HF, by omega⟩
            clear hct HF HFl hrq
            go_wp2_with (at_builtin; refine append_int rfl _ _ rfl wr.heap.size _ (flt (st i) J) rfl (HJ.out.1.alloc _) ⟨_, 0, none⟩ 1 (J : Int) rfl (by simp) (by have := HE.out.2; omega) (by simp; omega) ?_; intro v3 w3 hown3 hgrow3)
            have HY : Hid (OwnI wr.heap.size v3 (flt (st i) (J + 1)) w3 ∧ Below wr.heap.size wr w3) := by
              refine ⟨by rw [HE.out.1]; exact hown3, (HJ.out.2.alloc hsz _).grown hgrow3 (by simp; omega) (fun k hk => (HJ.out.1.lt k hk).1)⟩
            clear hown3 hgrow3 hc0
            go_wp2
            go_roundw
            case rel => exact ⟨J + 1, by omega, by go_num, HY.out⟩
            case measure => simp [intOf]; omega
          | false =>
            rw [hct] at hc0
            have HY : Hid (OwnI wr.heap.size u10 (flt (st i) (J + 1)) wq ∧ Below wr.heap.size wr wq) := by
              rw [if_neg (by rw [hct]; simp), List.append_nil] at HF
              rw [HF]; exact HJ.out
            clear hct HF HFl hrq
            go_wp2
            go_roundw
            case rel => exact ⟨J + 1, by omega, by go_num, HY.out⟩
            case measure => simp [intOf]; omega
        · have hjb : ¬ (J : Int) < (N : Int) := by omega
          have hJe : J = N := by omega
          subst hJe
          have HY : Hid (OwnI w.heap.size u10 (flt (st i) J) wq ∧ Below w.heap.size w wq) := ⟨HJ.out.1.mono (Nat.le_trans H1.out.2.size HG.out.2.size), bel_up' H1.out.2 (bel_up' HG.out.2 HJ.out.2)⟩
          go_wp2
          go_ret
          exact ⟨_, rfl, HY.out⟩
end Go.Proofs.Ytbfkacnpbelmlaa
