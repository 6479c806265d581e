/- Weights: the reference's Turned (printed by make/kb6.py). -/
import Derived.Test.YtnjbnamcedfjaaaZKB5
import Derived.Test.YtnjbnamcedfjaaaZV1
import Derived.Test.YtnjbnamcedfjaaaZKA7
namespace Go.Proofs.Ytnjbnamcedfjaaa
open Go.RowKit Go.Sort

/-- What Turned tells of numbers that may be. -/
def TuP (n : Nat) (m : Nat → Int) (A : Int) (w : World) (e : Ending) (w' : World) : Prop := Below w.heap.size w w' ∧ (((∀ k, k ≤ n → dgd (m k) A) ∧ ∃ v, e = .returned (.tuple #[v, .bool true]) ∧ OwnI w.heap.size v (zl (n + 1) fun k => (m k).tdiv A) w') ∨ ((∃ k, k ≤ n ∧ ¬ dgd (m k) A) ∧ e = .returned (.tuple #[.slice none 0 0, .bool false])))
def TuI (N : Nat) (m : Nat → Int) (A : Int) (w : World) (vo vk : Value) (wr : World) : Prop := ∃ k : Nat, k ≤ N ∧ vk = .int .i64 (k : Nat) ∧ Hid ((∀ j, j < k → dgd (m j) A) ∧ OwnI w.heap.size vo (zl k fun j => (m j).tdiv A) wr ∧ Below w.heap.size w wr)
def TuJ (N : Nat) (f K : Nat → Int) (wA : World) (vh vl vx : Value) (wx : World) : Prop := ∃ (x : Nat) (h l : Int), x ≤ N ∧ vh = .int .i64 h ∧ vl = .int .i64 l ∧ vx = .int .i64 (x : Nat) ∧ Hid (h = vsm (fun j => f j / 32768) K x ∧ l = vsm (fun j => f j % 32768) K x) ∧ Hid (Below wA.heap.size wA wx)
/-- Both sides say the same of a sum. -/
theorem turn_parts {S H L A rest : Int} (hA : 0 < A) (hS : S = 32768 * H + L) (hrest : rest = H.tmod A * 32768 + L) :
    (rest.tmod A ≠ 0 → ¬ dgd S A) ∧ (rest.tmod A = 0 → H.tdiv A * 32768 + rest.tdiv A < 0 → ¬ dgd S A) ∧ (rest.tmod A = 0 → ¬ H.tdiv A * 32768 + rest.tdiv A < 0 → dgd S A ∧ S.tdiv A = H.tdiv A * 32768 + rest.tdiv A) := by
  have hh : H = A * H.tdiv A + H.tmod A := (Int.mul_tdiv_add_tmod H A).symm
  have hr2 : rest = A * rest.tdiv A + rest.tmod A := (Int.mul_tdiv_add_tmod rest A).symm
  refine ⟨fun h0 hd => split_no hS hh hrest h0 hd.2, fun h0 hv hd => ?_, fun h0 hv => ?_⟩
  · obtain ⟨e1, e2, e3⟩ := split_div hA hS hh hrest hr2 rfl h0
    have h1 := Int.tdiv_nonneg hd.1 (Int.le_of_lt hA)
    omega
  · obtain ⟨e1, e2, e3⟩ := split_div hA hS hh hrest hr2 rfl h0
    refine ⟨⟨?_, e2⟩, e3⟩
    rw [e1]
    exact Int.mul_nonneg (Int.le_of_lt hA) (by omega)

set_option maxHeartbeats 8000000 in
set_option maxRecDepth 100000 in
theorem rT_any {q n : Nat} (hq : 2 ≤ q) (hq2 : q ≤ 64) (hp : q ^ n ≤ 1073741824) {ao : Option Addr} {cap : Nat} {f : Nat → Int} (hE : tge f (q ^ n) (n + 1) = 0) {w : World} (hX : Arg ao (n + 1) cap f w) :
    Calls Try.prog 44 #[.int .i64 (q : Nat), .slice ao (n + 1 : Nat) cap, .int .i64 (tsm f (n + 1))] w (TuP n (dlm q n f) (tsm f (n + 1)) w) := by
  have HT0 : Hid (∀ k, Trn f (fun x => kv q n k x) (n + 1) (tsm f (n + 1))) := trn_of hq hp hE
  obtain ⟨N, hN0⟩ : ∃ N, N = n + 1 := ⟨_, rfl⟩
  obtain ⟨A, hA⟩ : ∃ A, A = tsm f (n + 1) := ⟨_, rfl⟩
  have HT : Hid (∀ k, Trn f (fun x => kv q n k x) N A) := by
    show ∀ k, Trn _ _ _ _
    rw [hA, hN0]; exact HT0.out
  rw [← hA, ← hN0]
  rw [← hN0] at hX
  have hn1 : (N : Int) - 1 = (n : Int) := by omega
  have hn30 : n ≤ 30 := pow30 hq hp
  have hN31 : N ≤ 31 := by omega
  have HN : Hid (N = n + 1) := hN0
  have HP : Hid (q ^ n ≤ 1073741824) := hp
  have HX : Hid (Arg ao N cap f w) := hX
  have hAp := (HT.out 0).pos
  have hAb := (HT.out 0).le
  have hAne : A ≠ 0 := by omega
  clear hE hA HT0 hp hX hN0
  go_enter Try.func44, Try.ntmps44
  go_wp2
  go_loopw [9, 10] (fun vo vk wr => TuI N (dlm q n f) A w vo vk wr) (fun _ vk _ => N - (intOf vk).toNat)
  case atStart => exact ⟨0, by omega, rfl, fun j hj => absurd hj (by omega), OwnI.nil _ _, Below.refl _ _⟩
  case round =>
    obtain ⟨k, hk, rfl, HI⟩ := hrel
    rename World => wA
    by_cases hlt : k < N
    · have hkb : (k : Int) ≤ (n : Int) := by have := HN.out; omega
      have hkn : k ≤ n := by have := HN.out; omega
      go_wp2
      go_loopw [11, 12, 13] (fun vh vl vx wx => TuJ N f (fun x => kv q n k x) wA vh vl vx wx) (fun _ _ vx _ => N - (intOf vx).toNat)
      case atStart => exact ⟨0, 0, 0, by omega, rfl, rfl, rfl, ⟨rfl, rfl⟩, Below.refl _ _⟩
      case round =>
        obtain ⟨x, h, l, hx, rfl, rfl, rfl, HS, HW⟩ := hrel
        rename World => wx
        have hhb : h.natAbs ≤ 1152921504606846976 := by rw [HS.out.1]; exact (HT.out k).any (fun j hj => by have := (HT.out k).nn j hj; omega) x hx
        have hlb : l.natAbs ≤ 1152921504606846976 := by rw [HS.out.2]; exact (HT.out k).any (fun j hj => by have := (HT.out k).nn j hj; omega) x hx
        have hhb2 : -1152921504606846976 ≤ h ∧ h ≤ 1152921504606846976 := by omega
        have hlb2 : -1152921504606846976 ≤ l ∧ l ≤ 1152921504606846976 := by omega
        clear hhb hlb
        by_cases hxl : x < N
        · have hxb : (x : Int) ≤ (n : Int) := by have := HN.out; omega
          have hxN : (x : Int) < (N : Int) := by omega
          have hx0 : (0 : Int) ≤ (x : Int) := by omega
          obtain ⟨y, hy⟩ : ∃ y, y = f x := ⟨_, rfl⟩
          obtain ⟨z, hz⟩ : ∃ z, z = kv q n k x := ⟨_, rfl⟩
          obtain ⟨y1, hy1⟩ : ∃ y1, y1 = f x / 32768 := ⟨_, rfl⟩
          obtain ⟨y2, hy2⟩ : ∃ y2, y2 = f x % 32768 := ⟨_, rfl⟩
          obtain ⟨P1, hP1⟩ : ∃ P1 : Int, P1 = z * y1 := ⟨_, rfl⟩
          obtain ⟨P2, hP2⟩ : ∃ P2 : Int, P2 = z * y2 := ⟨_, rfl⟩
          have hfi := (HT.out k).item hxl
          have hP1b : P1.natAbs ≤ 1152921504606846976 := by
            rw [hP1, hz, hy1, Int.mul_comm]; exact (HT.out k).term hxl (by omega)
          have hP2b : P2.natAbs ≤ 1152921504606846976 := by
            rw [hP2, hz, hy2, Int.mul_comm]; exact (HT.out k).term hxl (by omega)
          have hP1c : -1152921504606846976 ≤ P1 ∧ P1 ≤ 1152921504606846976 := by omega
          have hP2c : -1152921504606846976 ≤ P2 ∧ P2 ≤ 1152921504606846976 := by omega
          have hd1 : Int.tdiv y 32768 = y1 := by rw [hy, hy1]; exact Int.tdiv_eq_ediv_of_nonneg hfi.1
          have hm1 : Int.tmod y 32768 = y2 := by rw [hy, hy2]; exact Int.tmod_eq_emod_of_nonneg hfi.1
          have hw1 : IntKind.i64.wrap (z * y1) = P1 := by rw [← hP1]; exact wrap_ka (by omega) (by omega)
          have hw2 : IntKind.i64.wrap (z * y2) = P2 := by rw [← hP2]; exact wrap_ka (by omega) (by omega)
          have hyb : 0 ≤ y ∧ y ≤ 1073741824 := by rw [hy]; exact hfi
          have hy1b : 0 ≤ y1 ∧ y1 ≤ 32768 := by rw [hy1]; omega
          have hy2b : 0 ≤ y2 ∧ y2 ≤ 32768 := by rw [hy2]; omega
          have HR : Hid (h + P1 = vsm (fun j => f j / 32768) (fun x => kv q n k x) (x + 1) ∧ l + P2 = vsm (fun j => f j % 32768) (fun x => kv q n k x) (x + 1)) := by
            refine ⟨?_, ?_⟩
            · show h + P1 = vsm (fun j => f j / 32768) (fun x => kv q n k x) x + f x / 32768 * kv q n k x
              rw [HS.out.1, hP1, hz, hy1, Int.mul_comm]
            · show l + P2 = vsm (fun j => f j % 32768) (fun x => kv q n k x) x + f x % 32768 * kv q n k x
              rw [HS.out.2, hP2, hz, hy2, Int.mul_comm (kv q n k x)]
          have HC : Hid (∀ ww : World, Calls Try.prog 9 #[.int .i64 (q : Nat), .int .i64 (n : Nat), .int .i64 (k : Nat), .int .i64 (x : Nat)] ww fun e w' => e = .returned (.int .i64 z) ∧ Below ww.heap.size ww w') := fun ww => by
            rw [hz]; exact rkraw_any q n k x hq hq2 HP.out hkn ww
          have HY : Hid (y = f x) := hy
          clear hP1 hP2 hy1 hy2 hy hz hP1b hP2b hfi HS
          go_wp2_with fail
          refine (HC.out _).mono ?_
          rintro e w2 ⟨rfl, hb⟩
          have H2 : Hid (Below wA.heap.size wA w2) := bel_up' HW.out hb
          clear hb
          obtain ⟨b, off, hao, c0⟩ := (HX.out.below (bel_up' HI.out.2.2 H2.out)).sl x hxl
          subst hao
          rw [← HY.out] at c0
          go_wp2
          go_roundw
          case rel => exact ⟨x + 1, h + P1, l + P2, by omega, by first | rfl | simp [hd1, hw1], by first | rfl | simp [hm1, hw2], by go_num, HR.out, H2.out⟩
          case measure => simp [intOf]; omega
        · have hxb : ¬ (x : Int) ≤ (n : Int) := by have := HN.out; omega
          have hxe : x = N := by omega
          subst hxe
          obtain ⟨hr, hhr⟩ : ∃ hr, hr = h.tmod A := ⟨_, rfl⟩
          obtain ⟨hq', hhq⟩ : ∃ hq', hq' = h.tdiv A := ⟨_, rfl⟩
          have m1 : Int.tmod h A = hr := hhr.symm
          have d1 : Int.tdiv h A = hq' := hhq.symm
          have hrb : hr.natAbs ≤ 1073741824 := by
            rw [hhr, Int.natAbs_tmod]
            exact Nat.le_trans (Nat.le_of_lt (Nat.mod_lt _ (by omega))) (by omega)
          have hrb2 : -1073741824 ≤ hr ∧ hr ≤ 1073741824 := by omega
          have hqb : (hq' * 32768).natAbs ≤ 1073741824 := by
            rw [hhq, HS.out.1]; exact (HT.out k).high
          have hqb2 : -1073741824 ≤ hq' ∧ hq' ≤ 1073741824 := by omega
          have hqb3 : -1073741824 ≤ hq' * 32768 ∧ hq' * 32768 ≤ 1073741824 := by omega
          obtain ⟨rest, hrest⟩ : ∃ rest, rest = hr * 32768 + l := ⟨_, rfl⟩
          have hrs : hr * 32768 + l = rest := hrest.symm
          have hrsb : -1153000000000000000 ≤ rest ∧ rest ≤ 1153000000000000000 := by omega
          obtain ⟨rq, hrq⟩ : ∃ rq, rq = rest.tdiv A := ⟨_, rfl⟩
          obtain ⟨rr, hrr⟩ : ∃ rr, rr = rest.tmod A := ⟨_, rfl⟩
          have d2 : Int.tdiv rest A = rq := hrq.symm
          have m2 : Int.tmod rest A = rr := hrr.symm
          have hrqb : rq.natAbs ≤ rest.natAbs := by rw [hrq, Int.natAbs_tdiv]; exact Nat.div_le_self _ _
          have hrqb2 : -1153000000000000000 ≤ rq ∧ rq ≤ 1153000000000000000 := by omega
          have hw1 : IntKind.i64.wrap (hr * 32768) = hr * 32768 := wrap_ka (by omega) (by omega)
          have hw2 : IntKind.i64.wrap (hr * 32768 + l) = rest := by rw [hrs]; exact wrap_ka (by omega) (by omega)
          obtain ⟨T, hT2⟩ : ∃ T, T = hq' * 32768 := ⟨_, rfl⟩
          have hw3 : IntKind.i64.wrap (hq' * 32768) = T := by rw [← hT2]; exact wrap_ka (by omega) (by omega)
          have hTb : -1073741824 ≤ T ∧ T ≤ 1073741824 := by omega
          have HPt := turn_parts (S := dlm q n f k) (H := h) (L := l) (A := A) (rest := rest) hAp (by
            unfold dlm
            rw [← HN.out, HS.out.1, HS.out.2]; exact vsm_split _ _ _) (by rw [hrest, hhr])
          rw [← hhq, ← hrq, ← hrr, ← hT2] at HPt
          have HQ : Hid ((rr ≠ 0 → ¬ dgd (dlm q n f k) A) ∧ (rr = 0 → T + rq < 0 → ¬ dgd (dlm q n f k) A) ∧ (rr = 0 → ¬ T + rq < 0 → dgd (dlm q n f k) A ∧ (dlm q n f k).tdiv A = T + rq)) := HPt
          have H3 : Hid (OwnI w.heap.size u9 (zl k fun j => (dlm q n f j).tdiv A) wx ∧ Below w.heap.size w wx) := ⟨HI.out.2.1.below HW.out (fun b hb => (HI.out.2.1.lt b hb).2), bel_up' HI.out.2.2 HW.out⟩
          clear HPt hhr hhq hrest hrq hrr hrb hqb hrqb hrs HS hqb3 hT2
          by_cases hr0 : rr = 0
          · subst hr0
            by_cases hv : T + rq < 0
            · have HB : Hid (∃ k, k ≤ n ∧ ¬ dgd (dlm q n f k) A) := ⟨k, hkn, HQ.out.2.1 rfl hv⟩
              go_wp2
              go_quiet (fail)
              go_wp2
              go_ret2
              exact ⟨below_drewN2 H3.out.2 _, Or.inr ⟨HB.out, rfl⟩⟩
            · have HG := HQ.out.2.2 rfl hv
              have HG2 : Hid ((∀ j, j < k + 1 → dgd (dlm q n f j) A) ∧ (dlm q n f k).tdiv A = T + rq) := ⟨fun j hj => by
                by_cases e : j = k
                · rw [e]; exact HG.1
                · exact HI.out.1 j (by omega), HG.2⟩
              clear HG HQ
              go_wp2
              go_quiet (fail)
              obtain ⟨wq, hwq⟩ : ∃ wq, wq = wx.drewN nq := ⟨_, rfl⟩
              have H4 : Hid (OwnI w.heap.size u9 (zl k fun j => (dlm q n f j).tdiv A) wq ∧ Below w.heap.size w wq) := by rw [hwq]; exact ⟨H3.out.1.drewN nq, below_drewN2 H3.out.2 nq⟩
              rw [← hwq]
              clear hwq H3
              have hsr := H4.out.2.size
              go_wp2_with (at_builtin; refine append_int rfl _ _ rfl w.heap.size _ (zl k fun j => (dlm q n f j).tdiv A) rfl (H4.out.1.alloc _) ⟨_, 0, none⟩ 1 (T + rq) rfl (by simp) (by rw [zl_len]; omega) (by simp; omega) ?_; intro v5 w5 hown5 hgrow5)
              have HR : Hid (OwnI w.heap.size v5 (zl (k + 1) fun j => (dlm q n f j).tdiv A) w5 ∧ Below w.heap.size w w5) := by
                refine ⟨?_, (H4.out.2.alloc hsr _).grown hgrow5 (by simp; omega) (fun b hb => (H4.out.1.lt b hb).1)⟩
                rw [zl_succ, HG2.out.2]; exact hown5
              clear hown5 hgrow5
              go_roundw
              case rel => exact ⟨k + 1, by omega, by go_num, HG2.out.1, HR.out.1, HR.out.2⟩
              case measure => simp [intOf]; omega
          · have hrz : (rr != 0) = true := bne_iff_ne.2 hr0
            have HB : Hid (∃ k, k ≤ n ∧ ¬ dgd (dlm q n f k) A) := ⟨k, hkn, HQ.out.1 hr0⟩
            go_wp2
            go_quiet (fail)
            go_wp2
            go_ret2
            exact ⟨below_drewN2 H3.out.2 _, Or.inr ⟨HB.out, rfl⟩⟩
    · have hkb : ¬ (k : Int) ≤ (n : Int) := by have := HN.out; omega
      have hke : k = N := by omega
      subst hke
      go_wp2
      go_ret2
      refine ⟨HI.out.2.2, Or.inl ⟨fun j hj => HI.out.1 j (by have := HN.out; omega), _, rfl, ?_⟩⟩
      rw [← HN.out]
      exact HI.out.2.1
end Go.Proofs.Ytnjbnamcedfjaaa
