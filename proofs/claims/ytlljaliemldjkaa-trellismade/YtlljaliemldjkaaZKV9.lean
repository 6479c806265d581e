/- Trellises: a step of Viterbi's. -/
import Derived.Test.YtlljaliemldjkaaZKV7
namespace Go.Proofs.Ytlljaliemldjkaa
open Go.RowKit Go.Sort

/-- What a step needs. -/
structure VsC (b1 b2 b3 : Nat) (ao so : Option Addr) (R ca l sc n : Nat) (z : Nat → Nat) (y : Nat → Int) (w : World) : Prop where
  c1 : w.cell? ⟨b1, 0, none⟩ = some (.slice ao R ca)
  c2 : w.cell? ⟨b2, 0, none⟩ = some (.slice so l sc)
  c3 : w.cell? ⟨b3, 0, none⟩ = some (.int .i64 (n : Nat))
  rl : RlA ao R z w
  sl : SlZ so l y w
  lt : LtB so w.heap.size
theorem VsC.below {b1 b2 b3 : Nat} {ao so : Option Addr} {R ca l sc n : Nat} {z : Nat → Nat} {y : Nat → Int} {w w' : World} (h : VsC b1 b2 b3 ao so R ca l sc n z y w) (hb : Below w.heap.size w w') : VsC b1 b2 b3 ao so R ca l sc n z y w' :=
  ⟨(hb.cell (p := ⟨b1, 0, none⟩) (cell_lt h.c1)).trans h.c1, (hb.cell (p := ⟨b2, 0, none⟩) (cell_lt h.c2)).trans h.c2, (hb.cell (p := ⟨b3, 0, none⟩) (cell_lt h.c3)).trans h.c3, h.rl.below hb, h.sl.below hb h.lt, h.lt.mono hb.size⟩

set_option maxHeartbeats 8000000 in
set_option maxRecDepth 100000 in
theorem vstep_any {b1 b2 b3 : Nat} {ao so : Option Addr} {R ca l sc n : Nat} {z : Nat → Nat} {y : Nat → Int} {k x : Nat} {p : Nat × Nat} {w : World} (h : VsC b1 b2 b3 ao so R ca l sc n z y w) (hl : l ≤ 1000) (hk : (k + 1) * R ≤ l) (hx : x < 1073741824) (hp1 : p.1 ≤ 1000000) (hp2 : p.2 < 1048576) :
    Calls Try.prog 35 #[.int .i64 (k : Nat), .int .i64 (x : Nat), wyV p, .pointer (some ⟨b1, 0, none⟩), .pointer (some ⟨b2, 0, none⟩), .pointer (some ⟨b3, 0, none⟩)] w fun e w' => e = .returned (wyV (wyS z R y n k x p)) ∧ Below w.heap.size w w' := by
  obtain ⟨a, b⟩ := p
  replace hp1 : a ≤ 1000000 := hp1
  replace hp2 : b < 1048576 := hp2
  obtain ⟨t, ht⟩ : ∃ t, t = trn z R y k x := ⟨_, rfl⟩
  have hR3 := h.rl.rz.few
  have ht3 : t ≤ 3 := by rw [ht]; exact Nat.le_trans (trn_le z R y k x) hR3
  obtain ⟨w2, hw2⟩ : ∃ w2, w2 = (w.alloc (.cells #[.int .i64 (a : Nat), .int .i64 (b : Nat)] 59)).alloc (.cells #[.int .i64 0, .int .i64 0] 59) := ⟨_, rfl⟩
  have H2 : Hid (W2 w.heap.size a b w2 ∧ W2 (w.heap.size + 1) 0 0 w2 ∧ Below w.heap.size w w2) := by
    rw [hw2]
    have h1 := W2.new (a : Int) (b : Int) w
    have h2 := W2.new 0 0 (w.alloc (.cells #[.int .i64 (a : Nat), .int .i64 (b : Nat)] 59))
    rw [World.size_alloc] at h2
    exact ⟨h1.alloc _, h2, ((Below.refl _ _).alloc (Nat.le_refl _) _).alloc (by simp) _⟩
  have h2 := h.below H2.out.2.2
  have HT : Hid (∀ d, Calls Try.prog 36 #[.slice ao R ca, .slice so l sc, .int .i64 (k : Nat), .int .i64 (x : Nat)] (w2.drewN d) fun e w' => e = .returned (.int .i64 (t : Nat)) ∧ ∃ j, w' = (w2.drewN d).drewN j) := fun d => by
    rw [ht]
    exact tturn_any (⟨fun i hi => h2.rl.rz.sl i hi, h2.rl.rz.one, h2.rl.rz.few, h2.rl.rz.lo, h2.rl.rz.hi⟩ : RlZ ao R z (w2.drewN d)) (fun i hi => h2.sl i hi) hl hk hx
  obtain ⟨B, hB⟩ : ∃ B, B = w.heap.size := ⟨_, rfl⟩
  have e1 := h2.c1
  have e2 := h2.c2
  have e3 := h2.c3
  obtain ⟨a1, ha1⟩ : ∃ a1, a1 = a + t := ⟨_, rfl⟩
  have haw : IntKind.i64.wrap ((a : Int) + (t : Int)) = (a1 : Int) := wrap_to (by omega) (by omega)
  have HLt : Hid (b1 < B ∧ b2 < B ∧ b3 < B) := by rw [hB]; exact ⟨cell_lt h.c1, cell_lt h.c2, cell_lt h.c3⟩
  obtain ⟨r, hr⟩ : ∃ r, r = wyS z R y n k x (a, b) := ⟨_, rfl⟩
  have HR : Hid (r = (a1, if k < n then 2 * b + x % 2 else b)) := by show r = _; rw [hr, ha1, ht]; rfl
  rw [← hr]
  clear ht ha1 hr h h2
  show Calls Try.prog 35 #[.int .i64 (k : Nat), .int .i64 (x : Nat), .agg #[.int .i64 (a : Nat), .int .i64 (b : Nat)], .pointer (some ⟨b1, 0, none⟩), .pointer (some ⟨b2, 0, none⟩), .pointer (some ⟨b3, 0, none⟩)] w _
  go_enter Try.func35, Try.ntmps35
  go_wp2
  rw [← hw2, ← hB]
  rw [← hB] at H2
  have HB : Hid (B = w.heap.size) := hB
  clear hw2 hB
  have p0 := H2.out.1.c0
  have p1 := H2.out.1.c1
  have pf := H2.out.1.free 0
  refine quiet_tail 9 (by kernel_rfl) (by kernel_rfl) ?_
  simp only [List.take_succ_cons, List.take_zero, List.drop_succ_cons, List.drop_zero]
  repeat (go_big_quiet_step ((go_at_call 36; exact Calls.quiet_of (HT.out _))))
  refine wpQuiet_nil ?_
  intro wq hw'
  obtain ⟨nq, hwq⟩ := hw'
  have HQ : Hid (W2 B a b wq ∧ W2 (B + 1) 0 0 wq ∧ Below B w wq) := by rw [hwq]; exact ⟨H2.out.1, H2.out.2.1, below_drewN2 H2.out.2.2 nq⟩
  have g3 : wq.cell? ⟨b3, 0, none⟩ = some (.int .i64 (n : Nat)) := by rw [hwq]; exact e3
  clear hwq p0 p1 pf e1 e2 e3
  have p0 := HQ.out.1.c0
  have p1 := HQ.out.1.c1
  have pf := HQ.out.1.free 0
  by_cases hkn : k < n
  · have hki : (k : Int) < (n : Int) := by omega
    obtain ⟨x2, hx2⟩ : ∃ x2, x2 = x % 2 := ⟨_, rfl⟩
    have hand : bits BinOp.and IntKind.i64 (x : Int) 1 = (x2 : Int) := by rw [hx2]; exact and_one x (by omega)
    obtain ⟨b2v, hb2⟩ : ∃ b2v, b2v = 2 * b + x2 := ⟨_, rfl⟩
    have hor : bits BinOp.or IntKind.i64 ((b : Int) * 2) (x2 : Int) = (b2v : Int) := by
      have e : (b : Int) * 2 = ((b * 2 : Nat) : Int) := by omega
      rw [e, or_i64n (by omega) (by omega), two_or (by omega), hb2]
    have HV : Hid (r = (a1, b2v)) := by show r = _; rw [HR.out, if_pos hkn, hb2, hx2]
    obtain ⟨s2, hs2⟩ : ∃ s2, s2 = (wq.setCell ⟨B, 0, none⟩ (.int .i64 (a1 : Nat))).setCell ⟨B, 1, none⟩ (.int .i64 (b2v : Nat)) := ⟨_, rfl⟩
    have HS2 : Hid (W2 B a1 b2v s2 ∧ W2 (B + 1) 0 0 s2 ∧ Below B w s2) := by
      rw [hs2]
      exact ⟨(HQ.out.1.put0 _).put1 _, (HQ.out.2.1.oth (by omega) _ _).oth (by omega) _ _, (HQ.out.2.2.setCell (Nat.le_refl _) _).setCell (Nat.le_refl _) _⟩
    obtain ⟨s3, hs3⟩ : ∃ s3, s3 = (s2.setCell ⟨B + 1, 0, none⟩ (.int .i64 (a1 : Nat))).setCell ⟨B + 1, 1, none⟩ (.int .i64 (b2v : Nat)) := ⟨_, rfl⟩
    have HS3 : Hid (W2 (B + 1) a1 b2v s3 ∧ Below B w s3) := by
      rw [hs3]
      exact ⟨(HS2.out.2.1.put0 _).put1 _, (HS2.out.2.2.setCell (by show B ≤ B + 1; omega) _).setCell (by show B ≤ B + 1; omega) _⟩
    have k0 := HS2.out.1.c0
    have k1 := HS2.out.1.c1
    have m0 := HS2.out.2.1.c0
    have m1 := HS2.out.2.1.c1
    have mf0 := HS2.out.2.1.free 0
    have mf1 := HS2.out.2.1.free 1
    have n1 := (HS2.out.2.1.put0 (a1 : Int)).c1
    have nf1 := (HS2.out.2.1.put0 (a1 : Int)).free 1
    rw [hs2] at k0 k1 m0 m1 mf0 mf1 n1 nf1
    have j3 : (wq.setCell ⟨B, 0, none⟩ (.int .i64 (a1 : Nat))).cell? ⟨b3, 0, none⟩ = some (.int .i64 (n : Nat)) := by
      have e := Below.heap_setCell wq ⟨B, 0, none⟩ (.int .i64 (a1 : Nat)) b3 (by have := HLt.out; show b3 ≠ B; omega)
      unfold World.cell? at g3 ⊢
      rw [e]; exact g3
    have i1 := (HQ.out.1.put0 (a1 : Int)).c1
    have if1 := (HQ.out.1.put0 (a1 : Int)).free 1
    clear HQ HR hb2 hx2
    go_wp2
    rw [← hs2, ← hs3]
    clear hs2 hs3
    have t0 := HS3.out.1.c0
    have t1 := HS3.out.1.c1
    refine bodyPost_ret (v := .agg #[.int .i64 (a1 : Nat), .int .i64 (b2v : Nat)]) (by simp [results, Try.results35, go_sem, t0, t1]) rfl ?_
    exact ⟨by rw [HV.out]; rfl, by rw [← HB.out]; exact HS3.out.2⟩
  · have hki : ¬ (k : Int) < (n : Int) := by omega
    have HV : Hid (r = (a1, b)) := by show r = _; rw [HR.out, if_neg hkn]
    obtain ⟨s2, hs2⟩ : ∃ s2, s2 = wq.setCell ⟨B, 0, none⟩ (.int .i64 (a1 : Nat)) := ⟨_, rfl⟩
    have HS2 : Hid (W2 B a1 b s2 ∧ W2 (B + 1) 0 0 s2 ∧ Below B w s2) := by
      rw [hs2]
      exact ⟨HQ.out.1.put0 _, HQ.out.2.1.oth (by omega) _ _, HQ.out.2.2.setCell (Nat.le_refl _) _⟩
    obtain ⟨s3, hs3⟩ : ∃ s3, s3 = (s2.setCell ⟨B + 1, 0, none⟩ (.int .i64 (a1 : Nat))).setCell ⟨B + 1, 1, none⟩ (.int .i64 (b : Nat)) := ⟨_, rfl⟩
    have HS3 : Hid (W2 (B + 1) a1 b s3 ∧ Below B w s3) := by
      rw [hs3]
      exact ⟨(HS2.out.2.1.put0 _).put1 _, (HS2.out.2.2.setCell (by show B ≤ B + 1; omega) _).setCell (by show B ≤ B + 1; omega) _⟩
    have k0 := HS2.out.1.c0
    have k1 := HS2.out.1.c1
    have m0 := HS2.out.2.1.c0
    have m1 := HS2.out.2.1.c1
    have mf0 := HS2.out.2.1.free 0
    have mf1 := HS2.out.2.1.free 1
    have n1 := (HS2.out.2.1.put0 (a1 : Int)).c1
    have nf1 := (HS2.out.2.1.put0 (a1 : Int)).free 1
    rw [hs2] at k0 k1 m0 m1 mf0 mf1 n1 nf1
    have j3 : (wq.setCell ⟨B, 0, none⟩ (.int .i64 (a1 : Nat))).cell? ⟨b3, 0, none⟩ = some (.int .i64 (n : Nat)) := by
      have e := Below.heap_setCell wq ⟨B, 0, none⟩ (.int .i64 (a1 : Nat)) b3 (by have := HLt.out; show b3 ≠ B; omega)
      unfold World.cell? at g3 ⊢
      rw [e]; exact g3
    have i1 := (HQ.out.1.put0 (a1 : Int)).c1
    have if1 := (HQ.out.1.put0 (a1 : Int)).free 1
    clear HQ HR
    go_wp2
    rw [← hs2, ← hs3]
    clear hs2 hs3
    have t0 := HS3.out.1.c0
    have t1 := HS3.out.1.c1
    refine bodyPost_ret (v := .agg #[.int .i64 (a1 : Nat), .int .i64 (b : Nat)]) (by simp [results, Try.results35, go_sem, t0, t1]) rfl ?_
    exact ⟨by rw [HV.out]; rfl, by rw [← HB.out]; exact HS3.out.2⟩
end Go.Proofs.Ytlljaliemldjkaa
