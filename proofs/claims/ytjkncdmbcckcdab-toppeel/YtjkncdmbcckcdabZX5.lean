/- Texts of ours, one behind the other: X5 X6. -/
import Derived.Test.YtjkncdmbcckcdabZT5
/- The program's matrices: which may be (Check), and over which field (over). -/
namespace Go.Proofs.Ytjkncdmbcckcdab
open Go.RowKit

set_option maxHeartbeats 4000000 in
set_option maxRecDepth 100000 in
theorem mcheck_any {D : FD} (hD : D ∈ fieldsL) {ao : Option Addr} {m ca : Nat} {A : Nat → Option Addr} {N C : Nat → Nat} {Z : Nat → Nat → Int} {w : World} (hA : MatZ ao m A N C Z w) (hm : m ≤ 1000000) :
    Calls Try.prog 32 #[.int .i64 D.q, .slice ao m ca] w fun e w' => e = .returned (.int .i64 (D.mchk m N Z)) ∧ Below w.heap.size w w' := by
  have HS : Hid (D ∈ fieldsL ∧ MatZ ao m A N C Z w) := ⟨hD, hA⟩
  clear hD hA
  go_enter Try.func32, Try.ntmps32
  go_wp2_with fail
  refine (new_any HS.out.1 w).mono ?_
  rintro e w1 ⟨F, T, g, rfl, hat, hF, hT, hb1⟩
  have HA : Hid (FAt F T D g w1 ∧ Below w.heap.size w w1) := ⟨hat, hb1⟩
  clear hat hF hT hb1
  by_cases h64 : 64 < m
  · have HV : Hid (D.mchk m N Z = 4) := by show _ = _; unfold FD.mchk; rw [if_pos h64]
    have hz : (64 : Int) < (m : Int) := by omega
    go_wp2
    go_ret
    exact ⟨ret_int (by rw [HV.out]), HA.out.2⟩
  · have hz : ¬ (64 : Int) < (m : Int) := by omega
    go_wp2
    go_loopw [23] (fun i wr => ∃ r : Nat, r ≤ m ∧ i = .int .i64 r ∧ Hid (D.mchks N Z r = 0 ∧ FAt F T D g wr ∧ Below w.heap.size w wr)) (fun i _ => m - (intOf i).toNat)
    case atStart => exact ⟨0, by omega, rfl, rfl, HA.out.1, HA.out.2⟩
    case round =>
      clear HA
      obtain ⟨r, hr, rfl, HG⟩ := hrel
      rename World => wA
      by_cases hlt : r < m
      · have hib : (r : Int) < (m : Int) := by omega
        have hm0 : (0 : Int) < (m : Int) := by omega
        obtain ⟨b, off, rfl, hci⟩ := (HS.out.2.below HG.out.2.2).cell r hlt
        obtain ⟨b', off', e', hc0⟩ := (HS.out.2.below HG.out.2.2).cell 0 (by omega)
        cases e'
        rw [Nat.add_zero] at hc0
        obtain ⟨Nr, hNr⟩ : ∃ Nr, Nr = N r := ⟨_, rfl⟩
        obtain ⟨N0, hN0⟩ : ∃ N0, N0 = N 0 := ⟨_, rfl⟩
        obtain ⟨e, he⟩ : ∃ e, e = D.mrow N0 Nr (Z r) := ⟨_, rfl⟩
        have hf0 : N0 ≤ 1000000 := by rw [hN0]; exact HS.out.2.few 0 (by omega)
        have hfr : Nr ≤ 1000000 := by rw [hNr]; exact HS.out.2.few r hlt
        have HC : Hid (∀ cap, Calls Try.prog 48 #[.pointer (some ⟨F, 0, none⟩), .slice (A r) Nr cap, .int .i64 N0] wA fun x w' => x = .returned (.int .i64 e) ∧ Below wA.heap.size wA w') := fun cap => by
          rw [he]
          exact checkRow_any HG.out.2.1 HG.out.2.1.row.lt (by rw [hNr]; exact (HS.out.2.below HG.out.2.2).sl r hlt) hfr hf0
        have HE : Hid (D.mrow (N 0) (N r) (Z r) = e) := by show _ = _; rw [he, hN0, hNr]
        rw [← hNr] at hci
        rw [← hN0] at hc0
        clear he hNr hN0
        by_cases h0 : e = 0
        · have hz0 : (e != 0) = false := by rw [h0]; rfl
          have HE2 : Hid (D.mchks N Z (r + 1) = 0) := by show _ = _; rw [FD.mchks, if_pos HG.out.1, HE.out, h0]
          clear h0
          go_wp2_with (go_at_call 48; refine (HC.out _).mono ?_; rintro x w' ⟨rfl, hb'⟩)
          go_roundw
          case rel => exact ⟨r + 1, by omega, by go_num, HE2.out, HG.out.2.1.below hb' HG.out.2.1.ltF HG.out.2.1.row.lt, bel_up HG.out.2.2 hb'⟩
          case measure => simp [intOf]; omega
        · have hz0 : (e != 0) = true := by rw [bne_iff_ne]; exact h0
          have HE2 : Hid (D.mchk m N Z = e) := mchks_to h0 HG.out.1 hlt h64 HE.out
          clear h0
          go_wp2_with (go_at_call 48; refine (HC.out _).mono ?_; rintro x w' ⟨rfl, hb'⟩)
          go_ret
          exact ⟨ret_int (by rw [HE2.out]), bel_up HG.out.2.2 hb'⟩
      · have HV : Hid (D.mchk m N Z = 0) := by
          show _ = _
          unfold FD.mchk
          rw [if_neg h64, ← show r = m from by omega]
          exact HG.out.1
        go_wp2
        go_ret
        exact ⟨ret_int (by rw [HV.out]), HG.out.2.2⟩

/-- Matrices that are handed in, all of them in one slice. -/
structure ManyM (g k : Nat) (AO : Nat → Option Addr) (M CA : Nat → Nat) (A : Nat → Nat → Option Addr) (N C : Nat → Nat → Nat) (Z : Nat → Nat → Nat → Int) (w : World) : Prop where
  cell : ∀ j, j < k → w.cell? ⟨g, j, none⟩ = some (.slice (AO j) (M j) (CA j))
  mz : ∀ j, j < k → MatZ (AO j) (M j) (A j) (N j) (C j) (Z j) w
  few : ∀ j, j < k → M j ≤ 1000000
  ltg : g < w.heap.size
theorem ManyM.below {g k : Nat} {AO : Nat → Option Addr} {M CA : Nat → Nat} {A : Nat → Nat → Option Addr} {N C : Nat → Nat → Nat} {Z : Nat → Nat → Nat → Int} {w w' : World} (h : ManyM g k AO M CA A N C Z w) (hb : Below w.heap.size w w') : ManyM g k AO M CA A N C Z w' :=
  ⟨fun j hj => ((bcell hb).1 g j h.ltg).trans (h.cell j hj), fun j hj => (h.mz j hj).below hb, h.few, Nat.lt_of_lt_of_le h.ltg hb.size⟩
/-- What Check says of the first of k matrices of which it says anything. -/
def FD.mmchk (D : FD) (M : Nat → Nat) (N : Nat → Nat → Nat) (Z : Nat → Nat → Nat → Int) : Nat → Int
  | 0 => 0
  | k + 1 => if D.mmchk M N Z k = 0 then D.mchk (M k) (N k) (Z k) else D.mmchk M N Z k
theorem mmchk_keep {D : FD} {M : Nat → Nat} {N : Nat → Nat → Nat} {Z : Nat → Nat → Nat → Int} {e : Int} (he : e ≠ 0) {r : Nat} (h : D.mmchk M N Z r = e) : ∀ d, D.mmchk M N Z (r + d) = e
  | 0 => h
  | d + 1 => by rw [← Nat.add_assoc, FD.mmchk, mmchk_keep he h d, if_neg he]

set_option maxHeartbeats 2000000 in
set_option maxRecDepth 100000 in
theorem mover_any {D : FD} (hD : D ∈ fieldsL) {g k cap : Nat} {AO : Nat → Option Addr} {M CA : Nat → Nat} {A : Nat → Nat → Option Addr} {N C : Nat → Nat → Nat} {Z : Nat → Nat → Nat → Int} {w : World} (h : ManyM g k AO M CA A N C Z w) (hk : k ≤ 1000) :
    Calls Try.prog 49 #[.int .i64 D.q, .slice (some ⟨g, 0, none⟩) k cap] w fun e w' => Below w.heap.size w w' ∧
      ((D.mmchk M N Z k = 0 ∧ ∃ F T f, e = .returned (.tuple #[.pointer (some ⟨F, 0, none⟩), .int .i64 0]) ∧ FAt F T D f w' ∧ w.heap.size ≤ F ∧ w.heap.size ≤ T) ∨ (D.mmchk M N Z k ≠ 0 ∧ e = .returned (.tuple #[.pointer none, .int .i64 (D.mmchk M N Z k)]))) := by
  have HM : Hid (ManyM g k AO M CA A N C Z w ∧ D ∈ fieldsL) := ⟨h, hD⟩
  clear h hD
  go_enter Try.func49, Try.ntmps49
  go_wp2
  go_loopw [11] (fun i wr => ∃ r : Nat, r ≤ k ∧ i = .int .i64 r ∧ Hid (D.mmchk M N Z r = 0) ∧ ManyM g k AO M CA A N C Z wr ∧ Below w.heap.size w wr) (fun i _ => k - (intOf i).toNat)
  case atStart => exact ⟨0, by omega, rfl, rfl, HM.out.1, Below.refl _ _⟩
  case round =>
    obtain ⟨r, hr, rfl, HH, hmany, hbel⟩ := hrel
    have HG : Hid (ManyM g k AO M CA A N C Z wr ∧ Below w.heap.size w wr) := ⟨hmany, hbel⟩
    clear hmany hbel
    by_cases hlt : r < k
    · have hc := HG.out.1.cell r hlt
      have hib : (r : Int) < (k : Int) := by omega
      obtain ⟨e, he⟩ : ∃ e, e = D.mchk (M r) (N r) (Z r) := ⟨_, rfl⟩
      have HC : Hid (Calls Try.prog 32 #[.int .i64 D.q, .slice (AO r) (M r) (CA r)] wr fun x w' => x = .returned (.int .i64 e) ∧ Below wr.heap.size wr w') := by
        show Calls _ _ _ _ _
        rw [he]; exact mcheck_any HM.out.2 (HG.out.1.mz r hlt) (HG.out.1.few r hlt)
      have HE : Hid (D.mmchk M N Z (r + 1) = e) := by show D.mmchk M N Z (r + 1) = e; rw [FD.mmchk, if_pos HH.out, he]
      clear he
      by_cases h0 : e = 0
      · have hz : (e != 0) = false := by rw [h0]; rfl
        have HE2 : Hid (D.mmchk M N Z (r + 1) = 0) := by show _ = _; rw [HE.out, h0]
        clear h0
        go_wp2_with (go_at_call 32; refine HC.out.mono ?_; rintro x w' ⟨rfl, hb'⟩)
        go_roundw
        case rel => exact ⟨r + 1, by omega, by go_num, HE2.out, HG.out.1.below hb', bel_up HG.out.2 hb'⟩
        case measure => simp [intOf]; omega
      · have hz : (e != 0) = true := by rw [bne_iff_ne]; exact h0
        have HE2 : Hid (D.mmchk M N Z k = e ∧ e ≠ 0) := by
          have h := mmchk_keep h0 HE.out (k - (r + 1))
          rw [show r + 1 + (k - (r + 1)) = k from by omega] at h
          exact ⟨h, h0⟩
        clear h0
        go_wp2_with (go_at_call 32; refine HC.out.mono ?_; rintro x w' ⟨rfl, hb'⟩)
        go_ret2
        exact ⟨bel_up HG.out.2 hb', Or.inr ⟨by rw [HE2.out.1]; exact HE2.out.2, by rw [HE2.out.1]; rfl⟩⟩
    · have HE : Hid (D.mmchk M N Z k = 0) := by show _ = _; rw [← show r = k from by omega]; exact HH.out
      go_wp2_with fail
      refine (new_any HM.out.2 wr).mono ?_
      rintro x w1 ⟨F, T, f, rfl, hat, hF, hT, hb1⟩
      have HA : Hid (FAt F T D f w1 ∧ wr.heap.size ≤ F ∧ wr.heap.size ≤ T ∧ Below wr.heap.size wr w1) := ⟨hat, hF, hT, hb1⟩
      clear hat hF hT hb1
      go_wp2
      go_ret2
      have hs := HG.out.2.size
      exact ⟨bel_up HG.out.2 HA.out.2.2.2, Or.inl ⟨HE.out, F, T, f, rfl, HA.out.1, by have := HA.out.2.1; omega, by have := HA.out.2.2.1; omega⟩⟩
end Go.Proofs.Ytjkncdmbcckcdab

/- The program's matrices: no field (over); adding a multiple of a row to another, in place (addTo). -/
namespace Go.Proofs.Ytjkncdmbcckcdab
open Go.RowKit

/-- Of w's blocks only g has been written into; none is new. -/
structure Tch (g : Nat) (w w' : World) : Prop where
  os : w'.os = w.os
  tape : w'.tape = w.tape
  output : w'.output = w.output
  size : w'.heap.size = w.heap.size
  block : ∀ k, k ≠ g → w'.heap[k]? = w.heap[k]?
theorem Tch.refl (g : Nat) (w : World) : Tch g w w := ⟨rfl, rfl, rfl, rfl, fun _ _ => rfl⟩
theorem Tch.trans {g : Nat} {w w1 w2 : World} (h : Tch g w w1) (h' : Tch g w1 w2) : Tch g w w2 :=
  ⟨h'.os.trans h.os, h'.tape.trans h.tape, h'.output.trans h.output, h'.size.trans h.size, fun k hk => (h'.block k hk).trans (h.block k hk)⟩
theorem Tch.drewN {g : Nat} {w w' : World} (h : Tch g w w') (n : Nat) : Tch g w (w'.drewN n) := ⟨h.os, h.tape, h.output, h.size, h.block⟩
theorem Tch.setCell {g : Nat} {w w' : World} (h : Tch g w w') (j : Nat) (u : Value) : Tch g w (w'.setCell ⟨g, j, none⟩ u) :=
  h.trans ⟨rfl, rfl, rfl, by simp [World.setCell], fun k hk => Below.heap_setCell _ _ _ _ hk⟩
theorem Tch.below {g B : Nat} {w w' : World} (h : Tch g w w') (hB : B ≤ g) : Below B w w' := ⟨h.os, h.tape, h.output, by rw [h.size]; exact Nat.le_refl _, fun k hk => h.block k (by omega)⟩
theorem Tch.cell {g b o : Nat} {w w' : World} (h : Tch g w w') (hb : b ≠ g) : w'.cell? ⟨b, o, none⟩ = w.cell? ⟨b, o, none⟩ := by
  have h1 := h.block b hb
  simp [World.cell?, h1]
theorem Tch.sl {g n : Nat} {bo : Option Addr} {b : Nat → Nat} {w w' : World} (h : Tch g w w') (hs : Sl bo n b w) (hne : ∀ a, bo = some a → a.block ≠ g) : Sl bo n b w' := fun j hj => by
  obtain ⟨bb, off, e, hc⟩ := hs j hj
  exact ⟨bb, off, e, (h.cell (hne _ e)).trans hc⟩
theorem Tch.row {g g' n : Nat} {c : Nat → Nat} {w w' : World} (h : Tch g w w') (hr : Row g' n c w) (hne : g' ≠ g) : Row g' n c w' := hr.other (h.block g' hne)

set_option maxHeartbeats 4000000 in
set_option maxRecDepth 100000 in
theorem addTo_any {F T B gr : Nat} {D : FD} (hD : D ∈ fieldsL) {g : Nat → Value} {w : World} (h : FAt F T D g w) (hF : F < B) (hT : T < B) (hB : B ≤ gr) {n cr cb : Nat} {c b : Nat → Nat} {t : Nat} {bo : Option Addr} (hn : n ≤ 1000) (hr : Row gr n c w) (hs : Sl bo n b w) (hne : ∀ a, bo = some a → a.block ≠ gr) (hc : El D c) (hb : El D b) (ht : t < D.q) :
    Calls Try.prog 75 #[.pointer (some ⟨F, 0, none⟩), .slice (some ⟨gr, 0, none⟩) n cr, .int .i64 t, .slice bo n cb] w fun e w' => e = .returned (.tuple #[]) ∧ Row gr n (padd D c (pscale D t b)) w' ∧ Tch gr w w' := by
  have HF : Hid (FAt F T D g w ∧ D ∈ fieldsL ∧ Row gr n c w ∧ Sl bo n b w ∧ El D c ∧ El D b ∧ (∀ a, bo = some a → a.block ≠ gr) ∧ F < B ∧ T < B ∧ B ≤ gr ∧ t < D.q) := ⟨h, hD, hr, hs, hc, hb, hne, hF, hT, hB, ht⟩
  clear h hD hr hs hc hb hne hF hT hB ht
  go_enter Try.func75, Try.ntmps75
  by_cases h0 : t = 0
  · subst h0
    have HV : Hid (Row gr n (padd D c (pscale D 0 b)) w) := HF.out.2.2.1.congr (fun k _ => by
      show c k = D.ad (c k) (D.mul 0 (b k))
      rw [zero_mul', ad_zero (fld HF.out.2.1) (HF.out.2.2.2.2.1 k)])
    go_wp2
    refine bodyPost_ret (results_none rfl _ _ _) rfl ?_
    exact ⟨rfl, HV.out, Tch.refl _ _⟩
  · have hz : ((t : Int) == 0) = false := by rw [beq_eq_false_iff_ne]; omega
    go_wp2
    go_loopw [14] (fun i wr => ∃ r : Nat, r ≤ n ∧ i = .int .i64 r ∧ Hid (Row gr n (fun k => if k < r then D.ad (c k) (D.mul t (b k)) else c k) wr ∧ Tch gr w wr)) (fun i _ => n - (intOf i).toNat)
    case atStart => exact ⟨0, by omega, rfl, HF.out.2.2.1.congr (fun k _ => by rw [if_neg (by omega)]), Tch.refl _ _⟩
    case round =>
      obtain ⟨r, hr, rfl, HG⟩ := hrel
      by_cases hlt : r < n
      · obtain ⟨bb, offb, rfl, hcb⟩ := (HG.out.2.sl HF.out.2.2.2.1 HF.out.2.2.2.2.2.2.1) r hlt
        have hco : wr.cell? ⟨gr, r, none⟩ = some (.int .i64 (c r : Nat)) := by
          have h := HG.out.1.cell r hlt
          rw [if_neg (by omega)] at h; exact h
        have hfo := HG.out.1.free r
        have hat : FAt F T D g wr := HF.out.1.below (HG.out.2.below HF.out.2.2.2.2.2.2.2.2.2.1) HF.out.2.2.2.2.2.2.2.1 HF.out.2.2.2.2.2.2.2.2.1
        obtain ⟨y, hy⟩ : ∃ y, y = D.mul t (b r) := ⟨_, rfl⟩
        obtain ⟨z, hz'⟩ : ∃ z, z = D.ad (c r) y := ⟨_, rfl⟩
        have HC1 : Hid (∀ d, Calls Try.prog 40 #[.pointer (some ⟨F, 0, none⟩), .int .i64 (t : Nat), .int .i64 (b r : Nat)] (wr.drewN d) fun e w' => e = .returned (.int .i64 (y : Nat)) ∧ ∃ k, w' = (wr.drewN d).drewN k) := by
          intro d; rw [hy]; exact mul_nat HF.out.2.1 (hat.drewN d) HF.out.2.2.2.2.2.2.2.2.2.2 (HF.out.2.2.2.2.2.1 r)
        have HC2 : Hid (∀ d, Calls Try.prog 39 #[.pointer (some ⟨F, 0, none⟩), .int .i64 (c r : Nat), .int .i64 (y : Nat)] (wr.drewN d) fun e w' => e = .returned (.int .i64 (z : Nat)) ∧ ∃ k, w' = (wr.drewN d).drewN k) := by
          intro d
          rw [hz']
          exact add_nat HF.out.2.1 (hat.drewN d) (HF.out.2.2.2.2.1 r) (by rw [hy]; exact (fld HF.out.2.1).mul_lt t (b r))
        have HV : Hid (∀ k, k < n → (if k < r + 1 then D.ad (c k) (D.mul t (b k)) else c k) = if k = r then z else if k < r then D.ad (c k) (D.mul t (b k)) else c k) := fun k _ => by
          rw [hz', hy]
          by_cases e : k = r
          · rw [if_pos e, if_pos (by omega), e]
          · rw [if_neg e]
            by_cases e2 : k < r
            · rw [if_pos e2, if_pos (by omega)]
            · rw [if_neg e2, if_neg (by omega)]
        clear hy hz' hat
        have hib : (r : Int) < (n : Int) := by omega
        go_wp2
        refine quiet_tail 13 (by kernel_rfl) (by kernel_rfl) ?_
        simp only [List.take_succ_cons, List.take_zero, List.drop_succ_cons, List.drop_zero]
        repeat (go_big_quiet_step (first | (go_at_call 40; exact Calls.quiet_of (HC1.out _)) | (go_at_call 39; exact Calls.quiet_of (HC2.out _))))
        refine wpQuiet_nil ?_
        intro _ hw'
        obtain ⟨nq, hw''⟩ := hw'
        subst hw''
        go_wp2
        go_roundw
        case rel => exact ⟨r + 1, by omega, by go_num, (HG.out.1.drewN nq).store r z (fun k hk => HV.out k hk), (HG.out.2.drewN nq).setCell _ _⟩
        case measure => simp [intOf]; omega
      · have HE : Hid (Row gr n (padd D c (pscale D t b)) wr) := HG.out.1.congr (fun k hk => by
          show (if k < r then D.ad (c k) (D.mul t (b k)) else c k) = D.ad (c k) (D.mul t (b k))
          rw [if_pos (by omega)])
        go_wp2
        refine bodyPost_end (results_none rfl _ _ _) rfl ?_
        exact ⟨rfl, HE.out, HG.out.2⟩
end Go.Proofs.Ytjkncdmbcckcdab
