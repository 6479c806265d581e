/- The program's matrices: no field (over); adding a multiple of a row to another, in place (addTo). -/
import Derived.Test.YtbpeahhhkcljeaaZX5
namespace Go.Proofs.Ytbpeahhhkcljeaa
open Go.RowKit

/-- Of w's blocks only g has been written into; none is new. -/
structure Tch (g : Nat) (w w' : World) : Prop where
  os : w'.os = w.os
  tape : w'.tape = w.tape
  output : w'.output = w.output
  size : w'.heap.size = w.heap.size
  block : ∀ k, k ≠ g → w'.heap[k]? = w.heap[k]?
theorem Tch.refl (g : Nat) (w : World) : Tch g w w := ⟨rfl, rfl, rfl, rfl, fun _ _ => rfl⟩
theorem Tch.trans {g : Nat} {w w1 w2 : World} (h : Tch g w w1) (h' : Tch g w1 w2) : Tch g w w2 :=
  ⟨h'.os.trans h.os, h'.tape.trans h.tape, h'.output.trans h.output, h'.size.trans h.size, fun k hk => (h'.block k hk).trans (h.block k hk)⟩
theorem Tch.drewN {g : Nat} {w w' : World} (h : Tch g w w') (n : Nat) : Tch g w (w'.drewN n) := ⟨h.os, h.tape, h.output, h.size, h.block⟩
theorem Tch.setCell {g : Nat} {w w' : World} (h : Tch g w w') (j : Nat) (u : Value) : Tch g w (w'.setCell ⟨g, j, none⟩ u) :=
  h.trans ⟨rfl, rfl, rfl, by simp [World.setCell], fun k hk => Below.heap_setCell _ _ _ _ hk⟩
theorem Tch.below {g B : Nat} {w w' : World} (h : Tch g w w') (hB : B ≤ g) : Below B w w' := ⟨h.os, h.tape, h.output, by rw [h.size]; exact Nat.le_refl _, fun k hk => h.block k (by omega)⟩
theorem Tch.cell {g b o : Nat} {w w' : World} (h : Tch g w w') (hb : b ≠ g) : w'.cell? ⟨b, o, none⟩ = w.cell? ⟨b, o, none⟩ := by
  have h1 := h.block b hb
  simp [World.cell?, h1]
theorem Tch.sl {g n : Nat} {bo : Option Addr} {b : Nat → Nat} {w w' : World} (h : Tch g w w') (hs : Sl bo n b w) (hne : ∀ a, bo = some a → a.block ≠ g) : Sl bo n b w' := fun j hj => by
  obtain ⟨bb, off, e, hc⟩ := hs j hj
  exact ⟨bb, off, e, (h.cell (hne _ e)).trans hc⟩
theorem Tch.row {g g' n : Nat} {c : Nat → Nat} {w w' : World} (h : Tch g w w') (hr : Row g' n c w) (hne : g' ≠ g) : Row g' n c w' := hr.other (h.block g' hne)

set_option maxHeartbeats 4000000 in
set_option maxRecDepth 100000 in
theorem addTo_any {F T B gr : Nat} {D : FD} (hD : D ∈ fieldsL) {g : Nat → Value} {w : World} (h : FAt F T D g w) (hF : F < B) (hT : T < B) (hB : B ≤ gr) {n cr cb : Nat} {c b : Nat → Nat} {t : Nat} {bo : Option Addr} (hn : n ≤ 1000) (hr : Row gr n c w) (hs : Sl bo n b w) (hne : ∀ a, bo = some a → a.block ≠ gr) (hc : El D c) (hb : El D b) (ht : t < D.q) :
    Calls Try.prog 53 #[.pointer (some ⟨F, 0, none⟩), .slice (some ⟨gr, 0, none⟩) n cr, .int .i64 t, .slice bo n cb] w fun e w' => e = .returned (.tuple #[]) ∧ Row gr n (padd D c (pscale D t b)) w' ∧ Tch gr w w' := by
  have HF : Hid (FAt F T D g w ∧ D ∈ fieldsL ∧ Row gr n c w ∧ Sl bo n b w ∧ El D c ∧ El D b ∧ (∀ a, bo = some a → a.block ≠ gr) ∧ F < B ∧ T < B ∧ B ≤ gr ∧ t < D.q) := ⟨h, hD, hr, hs, hc, hb, hne, hF, hT, hB, ht⟩
  clear h hD hr hs hc hb hne hF hT hB ht
  go_enter Try.func53, Try.ntmps53
  by_cases h0 : t = 0
  · subst h0
    have HV : Hid (Row gr n (padd D c (pscale D 0 b)) w) := HF.out.2.2.1.congr (fun k _ => by
      show c k = D.ad (c k) (D.mul 0 (b k))
      rw [zero_mul', ad_zero (fld HF.out.2.1) (HF.out.2.2.2.2.1 k)])
    go_wp2
    refine bodyPost_ret (results_none rfl _ _ _) rfl ?_
    exact ⟨rfl, HV.out, Tch.refl _ _⟩
  · have hz : ((t : Int) == 0) = false := by rw [beq_eq_false_iff_ne]; omega
    go_wp2
    go_loopw [14] (fun i wr => ∃ r : Nat, r ≤ n ∧ i = .int .i64 r ∧ Hid (Row gr n (fun k => if k < r then D.ad (c k) (D.mul t (b k)) else c k) wr ∧ Tch gr w wr)) (fun i _ => n - (intOf i).toNat)
    case atStart => exact ⟨0, by omega, rfl, HF.out.2.2.1.congr (fun k _ => by rw [if_neg (by omega)]), Tch.refl _ _⟩
    case round =>
      obtain ⟨r, hr, rfl, HG⟩ := hrel
      by_cases hlt : r < n
      · obtain ⟨bb, offb, rfl, hcb⟩ := (HG.out.2.sl HF.out.2.2.2.1 HF.out.2.2.2.2.2.2.1) r hlt
        have hco : wr.cell? ⟨gr, r, none⟩ = some (.int .i64 (c r : Nat)) := by
          have h := HG.out.1.cell r hlt
          rw [if_neg (by omega)] at h; exact h
        have hfo := HG.out.1.free r
        have hat : FAt F T D g wr := HF.out.1.below (HG.out.2.below HF.out.2.2.2.2.2.2.2.2.2.1) HF.out.2.2.2.2.2.2.2.1 HF.out.2.2.2.2.2.2.2.2.1
        obtain ⟨y, hy⟩ : ∃ y, y = D.mul t (b r) := ⟨_, rfl⟩
        obtain ⟨z, hz'⟩ : ∃ z, z = D.ad (c r) y := ⟨_, rfl⟩
        have HC1 : Hid (∀ d, Calls Try.prog 89 #[.pointer (some ⟨F, 0, none⟩), .int .i64 (t : Nat), .int .i64 (b r : Nat)] (wr.drewN d) fun e w' => e = .returned (.int .i64 (y : Nat)) ∧ ∃ k, w' = (wr.drewN d).drewN k) := by
          intro d; rw [hy]; exact mul_nat HF.out.2.1 (hat.drewN d) HF.out.2.2.2.2.2.2.2.2.2.2 (HF.out.2.2.2.2.2.1 r)
        have HC2 : Hid (∀ d, Calls Try.prog 88 #[.pointer (some ⟨F, 0, none⟩), .int .i64 (c r : Nat), .int .i64 (y : Nat)] (wr.drewN d) fun e w' => e = .returned (.int .i64 (z : Nat)) ∧ ∃ k, w' = (wr.drewN d).drewN k) := by
          intro d
          rw [hz']
          exact add_nat HF.out.2.1 (hat.drewN d) (HF.out.2.2.2.2.1 r) (by rw [hy]; exact (fld HF.out.2.1).mul_lt t (b r))
        have HV : Hid (∀ k, k < n → (if k < r + 1 then D.ad (c k) (D.mul t (b k)) else c k) = if k = r then z else if k < r then D.ad (c k) (D.mul t (b k)) else c k) := fun k _ => by
          rw [hz', hy]
          by_cases e : k = r
          · rw [if_pos e, if_pos (by omega), e]
          · rw [if_neg e]
            by_cases e2 : k < r
            · rw [if_pos e2, if_pos (by omega)]
            · rw [if_neg e2, if_neg (by omega)]
        clear hy hz' hat
        have hib : (r : Int) < (n : Int) := by omega
        go_wp2
        refine quiet_tail 13 (by kernel_rfl) (by kernel_rfl) ?_
        simp only [List.take_succ_cons, List.take_zero, List.drop_succ_cons, List.drop_zero]
        repeat (go_big_quiet_step (first | (go_at_call 89; exact Calls.quiet_of (HC1.out _)) | (go_at_call 88; exact Calls.quiet_of (HC2.out _))))
        refine wpQuiet_nil ?_
        intro _ hw'
        obtain ⟨nq, hw''⟩ := hw'
        subst hw''
        go_wp2
        go_roundw
        case rel => exact ⟨r + 1, by omega, by go_num, (HG.out.1.drewN nq).store r z (fun k hk => HV.out k hk), (HG.out.2.drewN nq).setCell _ _⟩
        case measure => simp [intOf]; omega
      · have HE : Hid (Row gr n (padd D c (pscale D t b)) wr) := HG.out.1.congr (fun k hk => by
          show (if k < r then D.ad (c k) (D.mul t (b k)) else c k) = D.ad (c k) (D.mul t (b k))
          rw [if_pos (by omega)])
        go_wp2
        refine bodyPost_end (results_none rfl _ _ _) rfl ?_
        exact ⟨rfl, HE.out, HG.out.2⟩
end Go.Proofs.Ytbpeahhhkcljeaa
