/- The reference's polynomials: which may be (PolyMay). -/
import Derived.Test.YtjkncdmbcckcdaaZU11
namespace Go.Proofs.Ytjkncdmbcckcdaa
open Go.RowKit

set_option maxHeartbeats 1000000 in
set_option maxRecDepth 100000 in
theorem polyMay_none (q : Int) (h : ∀ D ∈ fieldsL, (D.q : Int) ≠ q) (ao : Option Addr) (n cap : Nat) (w : World) :
    Calls Try.prog 66 #[.int .i64 q, .slice ao n cap] w fun e w' => e = .returned (.int .i64 1) ∧ Below w.heap.size w w' := by
  have HB : Hid (∀ D ∈ fieldsL, (D.q : Int) ≠ q) := h
  clear h
  go_enter Try.func66, Try.ntmps66
  go_wp2_with fail
  refine (rfield_none q w HB.out).mono ?_
  rintro e w1 ⟨rfl, hb1⟩
  have HW : Hid (Below w.heap.size w w1) := hb1
  clear hb1
  unfold rf0
  go_wp2
  go_ret
  exact ⟨rfl, by first | exact HW.out | exact HW.out.alloc HW.out.size _⟩

set_option maxHeartbeats 2000000 in
set_option maxRecDepth 100000 in
theorem polyMay_any {D : FD} (hD : D ∈ fieldsL) {ao : Option Addr} {n cap : Nat} {z : Nat → Int} {w : World} (h : SlZ ao n z w) (hl : LtB ao w.heap.size) (hn : n ≤ 1000000) :
    Calls Try.prog 66 #[.int .i64 D.q, .slice ao n cap] w fun e w' => e = .returned (.int .i64 (D.chk n z)) ∧ Below w.heap.size w w' := by
  have HS : Hid (SlZ ao n z w ∧ LtB ao w.heap.size ∧ D ∈ fieldsL) := ⟨h, hl, hD⟩
  clear h hl hD
  go_enter Try.func66, Try.ntmps66
  go_wp2_with fail
  refine (rfield_any HS.out.2.2 w).mono ?_
  rintro e w1 ⟨vm, rfl, hown, _, hb1⟩
  have hm6 := (fld HS.out.2.2).m6
  obtain ⟨gm, cm, fm, hvm, hgm⟩ := hown.row (D.m + 1) modL_len' (by omega)
  subst hvm
  have HA : Hid (Below w.heap.size w w1) := hb1
  have hs1 := hb1.size
  clear hb1 hown hgm
  unfold rf
  obtain ⟨vm, hvm⟩ : ∃ vm, vm = Value.slice (some ⟨gm, 0, none⟩) (D.m + 1) cm := ⟨_, rfl⟩
  have HB0 : Hid (Box w1.heap.size D D.gen (.slice (some ⟨gm, 0, none⟩) (D.m + 1) cm) (w1.alloc (.cells #[.int .i64 D.q, .int .i64 D.p, .int .i64 D.m, .int .i64 D.gen, .slice (some ⟨gm, 0, none⟩) (D.m + 1) cm] 27))) := box_new D D.gen _ w1
  clear hvm
  by_cases h128 : 128 < n
  · have HV : Hid (D.chk n z = 4) := by show D.chk n z = 4; rw [FD.chk, if_pos h128]
    go_wp2
    go_ret
    exact ⟨ret_int (by rw [HV.out]), by first | exact HA.out | exact HA.out.alloc HA.out.size _⟩
  · go_wp2
    go_loopw [7] (fun i wr => ∃ r : Nat, r ≤ n ∧ i = .int .i64 r ∧ Hid (D.allHas z r = true) ∧ Box w1.heap.size D D.gen (.slice (some ⟨gm, 0, none⟩) (D.m + 1) cm) wr ∧ Below w.heap.size w wr ∧ w1.heap.size < wr.heap.size) (fun i _ => n - (intOf i).toNat)
    case atStart => exact ⟨0, by omega, rfl, rfl, HB0.out, HA.out.alloc HA.out.size _, by simp⟩
    case round =>
      obtain ⟨r, hr, rfl, HH, hbox, hbel, hlt1⟩ := hrel
      obtain ⟨c0, c1, c2, c3, c4⟩ := hbox
      have HG : Hid (Box w1.heap.size D D.gen (.slice (some ⟨gm, 0, none⟩) (D.m + 1) cm) wr ∧ Below w.heap.size w wr) := ⟨⟨c0, c1, c2, c3, c4⟩, hbel⟩
      clear hbel
      by_cases hlt : r < n
      · obtain ⟨b, off, rfl, hc⟩ := (HS.out.1.below HG.out.2 HS.out.2.1) r hlt
        obtain ⟨x, hx⟩ : ∃ x, x = z r := ⟨_, rfl⟩
        rw [← hx] at hc
        have z1 : (0 : Int) ≤ (r : Int) := by omega
        have z2 : (r : Int) < (n : Int) := by omega
        have HX : Hid (x = z r) := hx
        clear hx
        obtain ⟨hb0, hhb⟩ : ∃ hb0, hb0 = D.has x := ⟨_, rfl⟩
        have HC : Hid (∀ w3 : World, Calls Try.prog 84 #[.agg #[.int .i64 D.q, .int .i64 D.p, .int .i64 D.m, .int .i64 D.gen, .slice (some ⟨gm, 0, none⟩) (D.m + 1) cm], .int .i64 x] w3 fun e w' => e = .returned (.bool hb0) ∧ Below w3.heap.size w3 w') := by
          intro w3; rw [hhb]; exact rhas_any D D.gen _ x w3
        have HHB : Hid (hb0 = D.has x) := hhb
        clear hhb
        have HK : Hid (∀ w3 : World, Below wr.heap.size wr w3 → w3.cell? ⟨w1.heap.size, 0, none⟩ = some (.int .i64 (D.q : Nat)) ∧ w3.cell? ⟨w1.heap.size, 1, none⟩ = some (.int .i64 (D.p : Nat)) ∧ w3.cell? ⟨w1.heap.size, 2, none⟩ = some (.int .i64 (D.m : Nat)) ∧ w3.cell? ⟨w1.heap.size, 3, none⟩ = some (.int .i64 (D.gen : Nat)) ∧ w3.cell? ⟨w1.heap.size, 4, none⟩ = some (.slice (some ⟨gm, 0, none⟩) (D.m + 1) cm) ∧ w3.cell? ⟨b, off + r, none⟩ = some (.int .i64 x)) := by
          intro w3 h3
          have hB := HG.out.1.below (B := wr.heap.size) h3 hlt1
          refine ⟨hB.c0, hB.c1, hB.c2, hB.c3, hB.c4, ?_⟩
          rw [(bcell h3).1 b (off + r) (Nat.lt_of_lt_of_le (HS.out.2.1 _ rfl) HG.out.2.size)]
          exact hc
        have hbc : Below wr.heap.size wr wr := Below.refl _ _
        go_wp2_with fail
        go_region_held3 (fun w' => w'.cell? ⟨w1.heap.size, 0, none⟩ = some (.int .i64 (D.q : Nat)) ∧ w'.cell? ⟨w1.heap.size, 1, none⟩ = some (.int .i64 (D.p : Nat)) ∧ w'.cell? ⟨w1.heap.size, 2, none⟩ = some (.int .i64 (D.m : Nat)) ∧ w'.cell? ⟨w1.heap.size, 3, none⟩ = some (.int .i64 (D.gen : Nat)) ∧ w'.cell? ⟨w1.heap.size, 4, none⟩ = some (.slice (some ⟨gm, 0, none⟩) (D.m + 1) cm) ∧ w'.cell? ⟨b, off + r, none⟩ = some (.int .i64 x))
          (first | go_keep | exact HK.out _ (by first | exact hbc | exact hbc.drew))
          (first | (go_at_call 84; refine (HC.out _).mono ?_; rintro e w' ⟨rfl, hb'⟩; replace hbc := bel_up' (by first | exact hbc | exact hbc.drew) hb'; clear hb'))
        have HR : Hid (Box w1.heap.size D D.gen (.slice (some ⟨gm, 0, none⟩) (D.m + 1) cm) w' ∧ Below w.heap.size w w' ∧ w1.heap.size < w'.heap.size) := ⟨HG.out.1.below hbc hlt1, bel_up' HG.out.2 hbc, by have := hbc.size; omega⟩
        clear c0 c1 c2 c3 c4 HC hc hbc HK
        cases hb0 with
        | true =>
          have HH2 : Hid (D.allHas z (r + 1) = true) := by show D.allHas z (r + 1) = true; rw [FD.allHas, HH.out, ← HX.out, ← HHB.out]; rfl
          go_wp2
          go_roundw
          case rel => exact ⟨r + 1, by omega, by go_num, HH2.out, HR.out⟩
          case measure => simp [intOf]; omega
        | false =>
          have HV : Hid (D.chk n z = 2) := by
            show D.chk n z = 2
            rw [FD.chk, if_neg h128, if_neg]
            intro e
            have h := allHas_iff.1 e r hlt
            rw [← HX.out, ← HHB.out] at h
            cases h
          go_wp2
          go_ret
          exact ⟨ret_int (by rw [HV.out]), HR.out.2.1⟩
      · have HV : Hid (D.chk n z = 0) := by
          show D.chk n z = 0
          have e : r = n := by omega
          rw [FD.chk, if_neg h128, if_pos (e ▸ HH.out)]
        go_wp2
        go_ret
        exact ⟨ret_int (by rw [HV.out]), HG.out.2⟩
end Go.Proofs.Ytjkncdmbcckcdaa
