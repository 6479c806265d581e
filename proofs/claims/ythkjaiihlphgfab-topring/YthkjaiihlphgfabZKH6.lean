/- Rings: the word behind a word (digits.next). -/
import Derived.Test.YthkjaiihlphgfabZS35
import Derived.Test.YthkjaiihlphgfabZKH2
namespace Go.Proofs.Ythkjaiihlphgfab
open Go.RowKit Go.Sort

/-- A list of numbers as whole numbers. -/
def nzl (l : List Nat) : Nat → Int := fun j => ((l.getD j 0 : Nat) : Int)
theorem nxt_get (q n : Nat) (l : List Nat) (j : Nat) (hj : j < stl q (rpt l) n) : (nxt q n l).getD j 0 = if j + 1 = stl q (rpt l) n then rpt l j + 1 else rpt l j := by
  unfold nxt
  rw [List.getD_eq_getElem?_getD, List.getElem?_map, List.getElem?_range hj]; rfl
theorem nxt_len (q n : Nat) (l : List Nat) : (nxt q n l).length = stl q (rpt l) n := by
  unfold nxt
  rw [List.length_map, List.length_range]

set_option maxHeartbeats 8000000 in
set_option maxRecDepth 100000 in
theorem next_any {wo : Option Addr} {cw q n : Nat} {l : List Nat} {w : World} (hS : SlZ wo l.length (nzl l) w) (hl : 0 < l.length) (hl2 : l.length ≤ 1000) (hn : n ≤ 10) (hq : 2 ≤ q) (hq2 : q ≤ 10) (hlq : ∀ j, rpt l j ≤ 1000) :
    Calls Try.prog 27 #[.slice wo l.length cw, .int .i64 (q : Nat), .int .i64 (n : Nat)] w fun e w' => ∃ g z, e = .returned (.slice (some ⟨g, 0, none⟩) (nxt q n l).length n) ∧ RowZ g n z w' ∧ (∀ j, j < (nxt q n l).length → z j = nzl (nxt q n l) j) ∧ w.heap.size ≤ g ∧ Below w.heap.size w w' := by
  obtain ⟨L, hL⟩ : ∃ L, L = l.length := ⟨_, rfl⟩
  obtain ⟨q1, hq1⟩ : ∃ q1, q1 = q - 1 := ⟨_, rfl⟩
  have hwq : IntKind.i64.wrap ((q : Int) - 1) = (q1 : Int) := wrap_to (by omega) (by omega)
  rw [← hL] at hS hl hl2 ⊢
  have HF : Hid (SlZ wo L (nzl l) w ∧ L = l.length ∧ (∀ j, rpt l j ≤ 1000) ∧ q1 + 1 = q) := ⟨hS, hL, hlq, by omega⟩
  have hL0 : ¬ (L : Int) = 0 := by omega
  clear hS hL hlq hq1
  go_enter Try.func27, Try.ntmps27
  go_wp2_with (at_make; refine make_int rfl _ _ rfl _ n rfl rfl (by omega) (by omega) ?_; intro w1 hown1 hgrow1)
  have hrz0 := RowZ.of (row_zeros hown1)
  obtain ⟨g, hg⟩ : ∃ g, g = w.heap.size := ⟨_, rfl⟩
  rw [← hg] at hrz0
  try rw [← hg]
  have HI0 : Hid (RowZ g n (fun k => ((pnil k : Nat) : Int)) w1 ∧ Below w.heap.size w w1 ∧ g = w.heap.size) := ⟨hrz0, below_grown hgrow1 (Nat.le_refl _) (fun k hk => by cases hk), hg⟩
  clear hown1 hgrow1 hrz0 hg
  go_loopw [13] (fun vi wr => ∃ (t : Nat) (o : Nat → Int), t ≤ n ∧ vi = .int .i64 (t : Nat) ∧ Hid (RowZ g n o wr ∧ (∀ j, j < t → o j = ((rpt l j : Nat) : Int)) ∧ Below w.heap.size w wr)) (fun vi _ => n - (intOf vi).toNat)
  case atStart => exact ⟨0, _, by omega, rfl, HI0.out.1, fun j hj => absurd hj (by omega), HI0.out.2.1⟩
  case round =>
    obtain ⟨t, o, ht, rfl, HG⟩ := hrel
    rename World => wr
    by_cases hlt : t < n
    · have hib : (t : Int) < (n : Int) := by omega
      have hib0 : (0 : Int) ≤ (t : Int) := by omega
      obtain ⟨r, hr⟩ : ∃ r, r = t % L := ⟨_, rfl⟩
      have hrL : r < L := by rw [hr]; exact Nat.mod_lt _ (by omega)
      have d3 : (t : Int).tmod (L : Int) = (r : Int) := by rw [Int.tmod_eq_emod_of_nonneg (by omega), hr]; rfl
      have hrb : (r : Int) < (L : Int) := by omega
      have hrb0 : (0 : Int) ≤ (r : Int) := by omega
      obtain ⟨bw, ow, hwo, hcw⟩ := (slz_below HF.out.1 HG.out.2.2) r hrL
      obtain ⟨x, hx⟩ : ∃ x : Nat, x = rpt l t := ⟨_, rfl⟩
      have hxz : nzl l r = (x : Int) := by rw [hx, hr]; show ((l.getD (t % L) 0 : Nat) : Int) = _; unfold rpt; rw [HF.out.2.1]
      rw [hxz] at hcw
      subst hwo
      have hc0 := HG.out.1.cell t hlt
      have hf0 := HG.out.1.free t
      obtain ⟨o0, ho0⟩ : ∃ o0, o0 = o t := ⟨_, rfl⟩
      rw [← ho0] at hc0
      obtain ⟨ws, hws⟩ : ∃ ws, ws = wr.setCell ⟨g, t, none⟩ (.int .i64 (x : Nat)) := ⟨_, rfl⟩
      have HS2 : Hid (RowZ g n (fun j => if j = t then (x : Int) else o j) ws ∧ (∀ j, j < t + 1 → (fun j => if j = t then (x : Int) else o j) j = ((rpt l j : Nat) : Int)) ∧ Below w.heap.size w ws) := by
        refine ⟨by rw [hws]; exact HG.out.1.store t (x : Int) fun j _ => rfl, fun j hj => ?_, by rw [hws]; exact setO_bel HG.out.2.2 (by have := HI0.out.2.2; omega) _⟩
        show (if j = t then (x : Int) else o j) = _
        by_cases e : j = t
        · rw [if_pos e, hx, e]
        · rw [if_neg e]; exact HG.out.2.1 j (by omega)
      clear hr hx hxz ho0
      go_wp2
      try rw [← hws]
      clear hws hc0 hf0 hcw
      go_roundw
      case rel => exact ⟨t + 1, _, by omega, by go_num, HS2.out⟩
      case measure => simp [intOf]; omega
    · have hib : ¬ (t : Int) < (n : Int) := by omega
      obtain ⟨M, hM⟩ : ∃ M, M = stl q (rpt l) n := ⟨_, rfl⟩
      have HZ : Hid (RowZ g n o wr ∧ (∀ j, j < n → o j = ((rpt l j : Nat) : Int)) ∧ Below w.heap.size w wr ∧ M = stl q (rpt l) n ∧ M ≤ n) := ⟨HG.out.1, fun j hj => HG.out.2.1 j (by omega), HG.out.2.2, hM, by rw [hM]; exact stl_le _ _ _⟩
      clear hM
      go_wp2
      go_loopw [7] (fun vo wx => ∃ (m : Nat), m ≤ n ∧ vo = .slice (some ⟨g, 0, none⟩) m n ∧ Hid (M = stl q (rpt l) m ∧ wx = wr)) (fun vo _ => match vo with | .slice _ m _ => m | _ => 0)
      case atStart => exact ⟨n, Nat.le_refl _, rfl, HZ.out.2.2.2.1, rfl⟩
      case round =>
        obtain ⟨m, hm, rfl, HJ⟩ := hrel
        rename World => wx
        have hwx : wx = wr := HJ.out.2
        subst hwx
        cases m with
        | zero =>
          have hM0 : M = 0 := HJ.out.1
          have HR : Hid ((nxt q n l).length = 0) := by show (nxt q n l).length = 0; rw [nxt_len, ← HZ.out.2.2.2.1, hM0]
          clear hM0
          have HQ : Hid (w.heap.size ≤ g) := by have := HI0.out.2.2; show w.heap.size ≤ g; omega
          go_wp2
          go_ret
          refine ⟨g, ?_, o, HZ.out.1, fun j hj => absurd hj (by rw [HR.out]; omega), HQ.out, HZ.out.2.2.1⟩
          rw [HR.out]; rfl
        | succ m =>
          have hp0 : (0 : Int) < ((m + 1 : Nat) : Int) := by omega
          have hw1 : IntKind.i64.wrap (((m + 1 : Nat) : Int) - 1) = (m : Int) := wrap_to (by omega) (by omega)
          have hmb : (m : Int) < ((m + 1 : Nat) : Int) := by omega
          have hmb0 : (0 : Int) ≤ (m : Int) := by omega
          have hcm := HZ.out.1.cell m (by omega)
          rw [HZ.out.2.1 m (by omega)] at hcm
          obtain ⟨x, hx⟩ : ∃ x : Nat, x = rpt l m := ⟨_, rfl⟩
          rw [← hx] at hcm
          have hst : stl q (rpt l) (m + 1) = if x + 1 = q then stl q (rpt l) m else m + 1 := by rw [hx]; rfl
          by_cases e : x + 1 = q
          · have hz : ((x : Int) == (q1 : Int)) = true := by rw [beq_iff_eq]; have := HF.out.2.2.2; omega
            have HV : Hid (M = stl q (rpt l) m) := by show M = stl q (rpt l) m; rw [HJ.out.1, hst, if_pos e]
            clear e hst hx
            go_wp2
            go_roundw
            case rel => exact ⟨m, by omega, by first | rfl | go_num, HV.out, by first | rfl | trivial⟩
            case measure => simp
          · have hz : ((x : Int) == (q1 : Int)) = false := by rw [beq_eq_false_iff_ne]; have := HF.out.2.2.2; omega
            have HV : Hid (M = m + 1) := by show M = m + 1; rw [HJ.out.1, hst, if_neg e]
            obtain ⟨x2, hx2⟩ : ∃ x2 : Nat, x2 = x + 1 := ⟨_, rfl⟩
            have hxb : x ≤ 1000 := by rw [hx]; exact HF.out.2.2.1 m
            have hw2 : IntKind.i64.wrap ((x : Int) + 1) = (x2 : Int) := wrap_to (by omega) (by omega)
            have hfm := HZ.out.1.free m
            obtain ⟨ws, hws⟩ : ∃ ws, ws = wx.setCell ⟨g, m, none⟩ (.int .i64 (x2 : Nat)) := ⟨_, rfl⟩
            have HE : Hid ((nxt q n l).length = m + 1 ∧ RowZ g n (fun j => if j = m then (x2 : Int) else o j) ws ∧ (∀ j, j < m + 1 → (fun j => if j = m then (x2 : Int) else o j) j = nzl (nxt q n l) j) ∧ w.heap.size ≤ g ∧ Below w.heap.size w ws) := by
              have hM1 : stl q (rpt l) n = m + 1 := by rw [← HZ.out.2.2.2.1, HV.out]
              have hgw : w.heap.size ≤ g := by have := HI0.out.2.2; omega
              refine ⟨by rw [nxt_len, hM1], by rw [hws]; exact HZ.out.1.store m (x2 : Int) fun j _ => rfl, fun j hj => ?_, hgw, by rw [hws]; exact setO_bel HZ.out.2.2.1 hgw _⟩
              show (if j = m then (x2 : Int) else o j) = ((((nxt q n l).getD j 0 : Nat)) : Int)
              rw [nxt_get q n l j (by rw [hM1]; exact hj), hM1]
              by_cases e2 : j = m
              · rw [if_pos e2, if_pos (by omega), hx2, hx, e2]
              · rw [if_neg e2, if_neg (by omega), HZ.out.2.1 j (by omega)]
            clear e hst hx hx2
            go_wp2
            try rw [← hws]
            clear hws hcm hfm
            go_ret
            refine ⟨g, ?_, fun j => if j = m then (x2 : Int) else o j, HE.out.2.1, ?_, HE.out.2.2.2.1, HE.out.2.2.2.2⟩
            · rw [HE.out.1]; rfl
            · rw [HE.out.1]; exact HE.out.2.2.1
end Go.Proofs.Ythkjaiihlphgfab
