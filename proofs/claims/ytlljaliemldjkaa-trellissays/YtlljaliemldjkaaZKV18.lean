/- Trellises: a step of the chances. -/
import Derived.Test.YtlljaliemldjkaaZKV17
namespace Go.Proofs.Ytlljaliemldjkaa
open Go.RowKit Go.Sort

/-- A variable of several cells is read, in a region whose order is drawn. -/
theorem quiet_load_row {P : Program} {o : Oper} {a : Act} {C : World → Prop} {K : Act → Prop} (ty : TypeId) (x : Operand) (ho : o.op = .load ty x) (g : Nat) (hx : a.eval x = .pointer (some ⟨g, 0, none⟩)) (t : TypeId) (cs : Array Value) (fr : Nat × Nat) (d : TypeDesc) (hC : ∀ w, C w → w.heap[g]? = some (.cells cs t fr))
    (hu : P.underlying ty = some d) (hd : (match d with | .struct _ | .array _ _ => true | _ => false) = true) (hi : (P.info? ty).map (·.size) = some cs.size) (hk : K (a.put o.dst (.agg cs))) : o.quiet P a C K :=
  ⟨_, fun w hw => by
    unfold Oper.quietAt execOp
    simp only [ho, hx, Instr.loadAt, Instr.sureAddr, Sem.run_bind, Sem.run_pure, Result.andThen_ok, run_loadVar_row w g t ty cs fr d (hC w hw) hu hd hi]
    exact ⟨rfl, rfl⟩, hk⟩
/-- How much a step counts. -/
def cpw (z : Nat → Nat) (R : Nat) (y : Nat → Int) (a b k x : Nat) : Nat := a ^ trn z R y k x * (b - a) ^ (R - trn z R y k x)
theorem cpw_le {z : Nat → Nat} {R : Nat} {y : Nat → Int} {a b : Nat} (hab : a ≤ b) (hb : b ≤ 4) (k x : Nat) : cpw z R y a b k x ≤ 4 ^ R := by
  unfold cpw
  have h := trn_le z R y k x
  have e : 4 ^ R = 4 ^ trn z R y k x * 4 ^ (R - trn z R y k x) := by rw [← Nat.pow_add]; congr 1; omega
  rw [e]
  exact Nat.mul_le_mul (Nat.pow_le_pow_left (by omega) _) (Nat.pow_le_pow_left (by omega) _)
/-- What a step makes of a share. -/
def chW (z : Nat → Nat) (R : Nat) (y : Nat → Int) (a b k x : Nat) (s : Nat → Nat) : Nat → Nat := fun j => if x % 2 = 1 ∧ j = 1 + k then s 0 * cpw z R y a b k x else s j * cpw z R y a b k x
/-- What a step needs. -/
structure ChC (b1 b2 b3 b4 : Nat) (ao so : Option Addr) (R ca l sc a b : Nat) (z : Nat → Nat) (y : Nat → Int) (w : World) : Prop where
  c1 : w.cell? ⟨b1, 0, none⟩ = some (.slice ao R ca)
  c2 : w.cell? ⟨b2, 0, none⟩ = some (.slice so l sc)
  c3 : w.cell? ⟨b3, 0, none⟩ = some (.int .i64 (a : Nat))
  c4 : w.cell? ⟨b4, 0, none⟩ = some (.int .i64 (b : Nat))
  rl : RlA ao R z w
  sl : SlZ so l y w
  lt : LtB so w.heap.size
theorem ChC.below {b1 b2 b3 b4 : Nat} {ao so : Option Addr} {R ca l sc a b : Nat} {z : Nat → Nat} {y : Nat → Int} {w w' : World} (h : ChC b1 b2 b3 b4 ao so R ca l sc a b z y w) (hb : Below w.heap.size w w') : ChC b1 b2 b3 b4 ao so R ca l sc a b z y w' :=
  ⟨(hb.cell (p := ⟨b1, 0, none⟩) (cell_lt h.c1)).trans h.c1, (hb.cell (p := ⟨b2, 0, none⟩) (cell_lt h.c2)).trans h.c2, (hb.cell (p := ⟨b3, 0, none⟩) (cell_lt h.c3)).trans h.c3, (hb.cell (p := ⟨b4, 0, none⟩) (cell_lt h.c4)).trans h.c4, h.rl.below hb, h.sl.below hb h.lt, h.lt.mono hb.size⟩

set_option maxHeartbeats 8000000 in
set_option maxRecDepth 100000 in
theorem cstep_any {b1 b2 b3 b4 : Nat} {ao so : Option Addr} {R ca l sc a b : Nat} {z : Nat → Nat} {y : Nat → Int} {k x : Nat} {s : Nat → Nat} {w : World} (h : ChC b1 b2 b3 b4 ao so R ca l sc a b z y w) (hl : l ≤ 1000) (hk : (k + 1) * R ≤ l) (hx : x < 1073741824) (hab : a ≤ b) (hb4 : b ≤ 4) (hk20 : x % 2 = 1 → k < 20) (hs : ∀ i, i < 21 → s i * cpw z R y a b k x < 4611686018427387904) :
    Calls Try.prog 40 #[.int .i64 (k : Nat), .int .i64 (x : Nat), shV s, .pointer (some ⟨b1, 0, none⟩), .pointer (some ⟨b2, 0, none⟩), .pointer (some ⟨b3, 0, none⟩), .pointer (some ⟨b4, 0, none⟩)] w fun e w' => e = .returned (shV (chW z R y a b k x s)) ∧ Below w.heap.size w w' := by
  obtain ⟨d, hu⟩ := und_sh
  obtain ⟨t, ht⟩ : ∃ t, t = trn z R y k x := ⟨_, rfl⟩
  have hR3 := h.rl.rz.few
  have htR : t ≤ R := by rw [ht]; exact trn_le z R y k x
  obtain ⟨q, hq⟩ : ∃ q, q = cpw z R y a b k x := ⟨_, rfl⟩
  have hq64 : q ≤ 64 := by rw [hq]; exact Nat.le_trans (cpw_le hab hb4 k x) (Nat.le_trans (Nat.pow_le_pow_right (n := 4) (by omega) hR3) (by decide))
  obtain ⟨B, hB⟩ : ∃ B, B = w.heap.size := ⟨_, rfl⟩
  obtain ⟨w2, hw2⟩ : ∃ w2, w2 = (w.alloc (.cells (shA s) 68)).alloc (.cells (shA fun _ => 0) 68) := ⟨_, rfl⟩
  have H2 : Hid (Sh B s w2 ∧ Sh (B + 1) (fun _ => 0) w2 ∧ Below B w w2) := by
    rw [hw2, hB]
    have h1 := Sh.new s w
    have h2 := Sh.new (fun _ => 0) (w.alloc (.cells (shA s) 68))
    rw [World.size_alloc] at h2
    exact ⟨h1.alloc _, h2, ((Below.refl _ _).alloc (Nat.le_refl _) _).alloc (by simp) _⟩
  have h2 := h.below (w' := w2) (by rw [← hB]; exact H2.out.2.2)
  have HT : Hid (Calls Try.prog 36 #[.slice ao R ca, .slice so l sc, .int .i64 (k : Nat), .int .i64 (x : Nat)] w2 fun e w' => e = .returned (.int .i64 (t : Nat)) ∧ ∃ j, w' = w2.drewN j) := by
    rw [ht]
    exact tturn_any h2.rl.rz h2.sl hl hk hx
  obtain ⟨ba, hba⟩ : ∃ ba, ba = b - a := ⟨_, rfl⟩
  have hbw : IntKind.i64.wrap ((b : Int) - (a : Int)) = (ba : Int) := by rw [show (b : Int) - (a : Int) = (ba : Int) by omega]; exact wrap_to (by omega) (by omega)
  obtain ⟨Rt, hRt⟩ : ∃ Rt, Rt = R - t := ⟨_, rfl⟩
  have hRw : IntKind.i64.wrap ((R : Int) - (t : Int)) = (Rt : Int) := by rw [show (R : Int) - (t : Int) = (Rt : Int) by omega]; exact wrap_to (by omega) (by omega)
  obtain ⟨q1, hq1⟩ : ∃ q1, q1 = a ^ t := ⟨_, rfl⟩
  obtain ⟨q2, hq2⟩ : ∃ q2, q2 = ba ^ Rt := ⟨_, rfl⟩
  have hqq : q = q1 * q2 := by rw [hq, hq1, hq2, hba, hRt, ht]; rfl
  have hqw : IntKind.i64.wrap ((q1 : Int) * (q2 : Int)) = (q : Int) := by rw [← Int.natCast_mul, ← hqq]; exact wrap_to (by omega) (by omega)
  have HP1 : Hid (∀ wx, Calls Try.prog 42 #[.int .i64 (a : Nat), .int .i64 (t : Nat)] wx fun e w' => e = .returned (.int .i64 (q1 : Nat)) ∧ w' = wx) := fun wx => by rw [hq1]; exact shpow_any (by omega) (by omega) wx
  have HP2 : Hid (∀ wx, Calls Try.prog 42 #[.int .i64 (ba : Nat), .int .i64 (Rt : Nat)] wx fun e w' => e = .returned (.int .i64 (q2 : Nat)) ∧ w' = wx) := fun wx => by rw [hq2]; exact shpow_any (by omega) (by omega) wx
  have HTm : Hid (∀ wx, Calls Try.prog 41 #[.agg (shA s), .int .i64 (q : Nat)] wx fun e w' => e = .returned (.agg (shA fun i => s i * q)) ∧ Below wx.heap.size wx w') := fun wx => shtimes_any (by rw [hq]; exact hs) wx
  have HR : Hid (∀ j, chW z R y a b k x s j = if x % 2 = 1 ∧ j = 1 + k then s 0 * q else s j * q) := fun j => by rw [hq]; rfl
  have HSx : Hid (ChC b1 b2 b3 b4 ao so R ca l sc a b z y w2) := h2
  have e1 := h2.c1
  have e2 := h2.c2
  have hz := shA_zero
  have HB : Hid (B = w.heap.size) := hB
  show Calls Try.prog 40 #[.int .i64 (k : Nat), .int .i64 (x : Nat), .agg (shA s), .pointer (some ⟨b1, 0, none⟩), .pointer (some ⟨b2, 0, none⟩), .pointer (some ⟨b3, 0, none⟩), .pointer (some ⟨b4, 0, none⟩)] w _
  rw [hw2] at e1 e2
  clear ht hq hba hRt hq1 hq2 hqq h h2 hs
  go_enter Try.func40, Try.ntmps40
  go_wp2_with fail
  rw [← hw2, ← hB]
  clear hw2 hB e1 e2
  refine HT.out.mono ?_
  rintro e w3 ⟨rfl, d3, hw3⟩
  have H3 : Hid (Sh B s w3 ∧ Sh (B + 1) (fun _ => 0) w3 ∧ Below B w w3) := by rw [hw3]; exact ⟨H2.out.1, H2.out.2.1, below_drewN2 H2.out.2.2 d3⟩
  have e1 : w3.cell? ⟨b1, 0, none⟩ = some (.slice ao R ca) := by rw [hw3]; exact HSx.out.c1
  have e3 : w3.cell? ⟨b3, 0, none⟩ = some (.int .i64 (a : Nat)) := by rw [hw3]; exact HSx.out.c3
  have e4 : w3.cell? ⟨b4, 0, none⟩ = some (.int .i64 (b : Nat)) := by rw [hw3]; exact HSx.out.c4
  clear hw3 HSx HT
  go_wp2_with fail
  refine quiet_tail 13 (by kernel_rfl) (by kernel_rfl) ?_
  simp only [List.take_succ_cons, List.take_zero, List.drop_succ_cons, List.drop_zero]
  go_big_quiet_want
  refine quiet_load_row 68 _ rfl B rfl 68 (shA s) (0, 0) (.struct d) (fun wx hwx => by obtain ⟨j, hj⟩ := hwx; rw [hj]; exact H3.out.1) hu rfl (inf_sh s) ?_
  go_frame
  go_big_quiet_on
  iterate 10 (go_big_quiet_step ((go_at_call 42; exact Calls.quiet_of ((HP1.out _).mono fun e w' he => ⟨he.1, 0, he.2⟩))))
  go_big_quiet_step ((go_at_call 42; exact Calls.quiet_of ((HP2.out _).mono fun e w' he => ⟨he.1, 0, he.2⟩)))
  repeat (go_big_quiet_step (fail))
  refine wpQuiet_nil ?_
  intro wq hw'
  obtain ⟨nq, hwq⟩ := hw'
  have HQ : Hid (Sh B s wq ∧ Sh (B + 1) (fun _ => 0) wq ∧ Below B w wq) := by rw [hwq]; exact ⟨H3.out.1, H3.out.2.1, below_drewN2 H3.out.2.2 nq⟩
  clear hwq e1 e3 e4
  go_wp2_with fail
  refine (HTm.out wq).mono ?_
  rintro e w4 ⟨rfl, hb4'⟩
  have H4 : Hid (Sh B s w4 ∧ Sh (B + 1) (fun _ => 0) w4 ∧ Below B w w4) := ⟨HQ.out.1.below hb4', HQ.out.2.1.below hb4', HQ.out.2.2.trans (hb4'.mono (by have := lt_of_block HQ.out.1; omega))⟩
  clear hb4'
  have hst := sh_store w4 B s (fun i => s i * q) H4.out.1
  obtain ⟨w5, hw5⟩ : ∃ w5, w5 = w4.setRow B (shA fun i => s i * q) := ⟨_, rfl⟩
  rw [← hw5] at hst
  have H5 : Hid (Sh B (fun i => s i * q) w5 ∧ Sh (B + 1) (fun _ => 0) w5 ∧ Below B w w5) := by rw [hw5]; exact ⟨H4.out.1.row _, H4.out.2.1.rowO (by omega) _, setRow_bel H4.out.2.2 (Nat.le_refl _) _⟩
  clear hw5
  obtain ⟨x2, hx2⟩ : ∃ x2, x2 = x % 2 := ⟨_, rfl⟩
  have hand : bits BinOp.and IntKind.i64 (x : Int) 1 = (x2 : Int) := by rw [hx2]; exact and_one x (by omega)
  by_cases h1 : x2 = 1
  · have h1z : ((x2 : Int) == 1) = true := by rw [h1]; rfl
    have hk2 : k < 20 := hk20 (by omega)
    have hkz : (k : Int) < 20 := by omega
    have hkz0 : (0 : Int) ≤ (k : Int) := by omega
    obtain ⟨v0, hv0⟩ : ∃ v0, v0 = s 0 * q := ⟨_, rfl⟩
    have c0 : w5.cell? ⟨B, 0, none⟩ = some (.int .i64 (v0 : Nat)) := by rw [hv0]; exact H5.out.1.cell (by omega)
    have cf := H5.out.1.free (1 + k)
    obtain ⟨vk, hvk⟩ : ∃ vk, vk = s (1 + k) * q := ⟨_, rfl⟩
    have ck : w5.cell? ⟨B, 1 + k, none⟩ = some (.int .i64 (vk : Nat)) := by rw [hvk]; exact H5.out.1.cell (i := 1 + k) (by omega)
    obtain ⟨w6, hw6⟩ : ∃ w6, w6 = w5.setCell ⟨B, 1 + k, none⟩ (.int .i64 (v0 : Nat)) := ⟨_, rfl⟩
    have H6 : Hid (Sh B (chW z R y a b k x s) w6 ∧ Sh (B + 1) (fun _ => 0) w6 ∧ Below B w w6) := by
      rw [hw6]
      refine ⟨(H5.out.1.put (1 + k) v0).congr (fun j hj => ?_), H5.out.2.1.oth (by omega) _ _, H5.out.2.2.setCell (Nat.le_refl _) _⟩
      rw [HR.out j, hv0]
      by_cases e : j = 1 + k
      · rw [if_pos e, if_pos ⟨by omega, e⟩]
      · rw [if_neg e, if_neg (fun c => e c.2)]
    have hs6 := sh_store w6 (B + 1) (fun _ => 0) (chW z R y a b k x s) H6.out.2.1
    have hsz := inf_sh (chW z R y a b k x s)
    have HE : Hid (Sh (B + 1) (chW z R y a b k x s) (w6.setRow (B + 1) (shA (chW z R y a b k x s))) ∧ Below B w (w6.setRow (B + 1) (shA (chW z R y a b k x s)))) := ⟨H6.out.2.1.row _, setRow_bel H6.out.2.2 (by omega) _⟩
    have h61 : w6.heap[B]? = some (.cells (shA (chW z R y a b k x s)) 68 (0, 0)) := H6.out.1
    rw [hw6] at hs6 h61
    clear hx2 h1 hk20 hv0 hvk
    go_wp2_with (refine wpList_load_row rfl 68 _ rfl B rfl 68 (shA (chW z R y a b k x s)) (0, 0) (.struct d) h61 hu rfl hsz ?_)
    rw [← hw6]
    refine bodyPost_ret (results_cell_row rfl _ _ (B + 1) 68 (shA (chW z R y a b k x s)) (0, 0) (.struct d) rfl HE.out.1 hu rfl hsz) rfl ?_
    exact ⟨rfl, by rw [← HB.out]; exact HE.out.2⟩
  · have h1z : ((x2 : Int) == 1) = false := beq_eq_false_iff_ne.2 (by omega)
    have H6 : Hid (Sh B (chW z R y a b k x s) w5) := H5.out.1.congr (fun j hj => by rw [HR.out j, if_neg (fun c => h1 (by omega))])
    have hs6 := sh_store w5 (B + 1) (fun _ => 0) (chW z R y a b k x s) H5.out.2.1
    have hsz := inf_sh (chW z R y a b k x s)
    have HE : Hid (Sh (B + 1) (chW z R y a b k x s) (w5.setRow (B + 1) (shA (chW z R y a b k x s))) ∧ Below B w (w5.setRow (B + 1) (shA (chW z R y a b k x s)))) := ⟨H5.out.2.1.row _, setRow_bel H5.out.2.2 (by omega) _⟩
    clear hx2 h1 hk20
    go_wp2_with (refine wpList_load_row rfl 68 _ rfl B rfl 68 (shA (chW z R y a b k x s)) (0, 0) (.struct d) H6.out hu rfl hsz ?_)
    refine bodyPost_ret (results_cell_row rfl _ _ (B + 1) 68 (shA (chW z R y a b k x s)) (0, 0) (.struct d) rfl HE.out.1 hu rfl hsz) rfl ?_
    exact ⟨rfl, by rw [← HB.out]; exact HE.out.2⟩
end Go.Proofs.Ytlljaliemldjkaa
