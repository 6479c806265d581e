/- The reference's polynomials: values of a polynomial that came in (value, PAt). -/
import Derived.Test.YtjkncdmbcckcdaaZU4
namespace Go.Proofs.Ytjkncdmbcckcdaa
open Go.RowKit

set_option maxHeartbeats 4000000 in
theorem rvalueS_any {D : FD} (hD : D ∈ fieldsL) (gen : Nat) {v : Value} {ao : Option Addr} {cap n x : Nat} {c : Nat → Nat} {w : World} (hx : x < D.q) (hn : n ≤ 1000) (hc : ∀ j, c j < D.q) (hgl : LtB ao w.heap.size) (hN : Sl ao n c w) (hM : ModAt D v D.md w) :
    Calls Try.prog 118 #[rf D.q D.p D.m gen v, .slice ao n cap, .int .i64 x] w fun e w' => e = .returned (.int .i64 (D.val c n x n : Nat)) ∧ Below w.heap.size w w' := by
  have HM : Hid (ModAt D v D.md w ∧ D ∈ fieldsL ∧ Sl ao n c w ∧ ∀ j, c j < D.q) := ⟨hM, hD, hN, hc⟩
  clear hM hD hN hc
  have HB0 : Hid (Box w.heap.size D gen v (w.alloc (.cells #[.int .i64 D.q, .int .i64 D.p, .int .i64 D.m, .int .i64 gen, v] 27))) := box_new D gen v w
  unfold rf
  go_enter Try.func118, Try.ntmps118
  go_wp2
  go_loopw [7, 8] (fun s i wr => ∃ r : Nat, r ≤ n ∧ i = .int .i64 ((r : Int) - 1) ∧ s = .int .i64 (D.val c n x (n - r) : Nat) ∧ Box w.heap.size D gen v wr ∧ Below w.heap.size w wr ∧ w.heap.size < wr.heap.size) (fun _ i _ => (intOf i + 1).toNat)
  case atStart => exact ⟨n, by omega, rfl, by rw [Nat.sub_self]; rfl, HB0.out, (Below.refl _ _).alloc (Nat.le_refl _) _, by simp⟩
  case round =>
    obtain ⟨r, hr, hi, rfl, hbox, hbel, hlt⟩ := hrel
    obtain ⟨c0, c1, c2, c3, c4⟩ := hbox
    have HG : Hid (Box w.heap.size D gen v wr ∧ Below w.heap.size w wr) := ⟨⟨c0, c1, c2, c3, c4⟩, hbel⟩
    clear hbel
    cases r with
    | succ s =>
      have hi' : u8 = .int .i64 (s : Int) := by rw [hi]; go_num
      clear hi
      subst hi'
      obtain ⟨y, hy⟩ : ∃ y, y = D.val c n x (n - (s + 1)) := ⟨_, rfl⟩
      have hyq : y < D.q := by rw [hy]; exact val_lt HM.out.2.1 c n x HM.out.2.2.2 _
      have HY : Hid (D.val c n x (n - s) = sumD D.p D.q (D.mul y x) (c s)) := by
        show _ = _
        rw [hy, show n - s = (n - (s + 1)) + 1 from by omega, FD.val, show n - 1 - (n - (s + 1)) = s from by omega]
      rw [← hy]
      clear hy
      have HC : Hid (Calls Try.prog 55 #[.agg #[.int .i64 D.q, .int .i64 D.p, .int .i64 D.m, .int .i64 gen, v], .int .i64 y, .int .i64 x] wr fun e w' => e = .returned (.int .i64 (D.mul y x : Nat)) ∧ Below wr.heap.size wr w') :=
        rmul_nat HM.out.2.1 gen HM.out.1 y x hyq hx wr HG.out.2
      go_wp2_with fail
      refine HC.out.mono ?_
      rintro e w2 ⟨rfl, hb2⟩
      have HR2 : Hid (Box w.heap.size D gen v w2 ∧ Below w.heap.size w w2) := ⟨HG.out.1.below hb2 hlt, HG.out.2.trans (hb2.mono (by omega))⟩
      have hlt2 : w.heap.size < w2.heap.size := by have := hb2.size; omega
      clear hb2 c0 c1 c2 c3 c4 HC
      obtain ⟨c0, c1, c2, c3, c4⟩ := HR2.out.1
      obtain ⟨bl, off, rfl, hc0⟩ := HM.out.2.2.1 s (by omega)
      have HK : Hid (∀ w3 : World, Below w.heap.size w w3 → w3.cell? ⟨bl, off + s, none⟩ = some (.int .i64 (c s : Nat))) := fun w3 h3 => ((bcell h3).1 bl (off + s) (hgl _ rfl)).trans hc0
      have hcl : w2.cell? ⟨bl, off + s, none⟩ = some (.int .i64 (c s : Nat)) := HK.out _ HR2.out.2
      clear hc0
      have z1 : (0 : Int) ≤ (s : Int) := by omega
      have z2 : (s : Int) < (n : Int) := by omega
      have HC2 : Hid (∀ w3 : World, Calls Try.prog 107 #[.agg #[.int .i64 D.q, .int .i64 D.p, .int .i64 D.m, .int .i64 gen, v], .int .i64 (D.mul y x : Nat), .int .i64 (c s : Nat)] w3 fun e w' => e = .returned (.int .i64 (sumD D.p D.q (D.mul y x) (c s) : Nat)) ∧ Below w3.heap.size w3 w') :=
        fun w3 => radd_nat HM.out.2.1 gen v _ _ ((fld HM.out.2.1).mul_lt _ _) (HM.out.2.2.2 s) w3
      have hbc : Below w2.heap.size w2 w2 := Below.refl _ _
      go_wp2_with fail
      go_region_held3 (fun w' => w'.cell? ⟨w.heap.size, 0, none⟩ = some (.int .i64 (D.q : Nat)) ∧ w'.cell? ⟨w.heap.size, 1, none⟩ = some (.int .i64 (D.p : Nat)) ∧ w'.cell? ⟨w.heap.size, 2, none⟩ = some (.int .i64 (D.m : Nat)) ∧ w'.cell? ⟨w.heap.size, 3, none⟩ = some (.int .i64 (gen : Nat)) ∧ w'.cell? ⟨w.heap.size, 4, none⟩ = some v ∧ w'.cell? ⟨bl, off + s, none⟩ = some (.int .i64 (c s : Nat)))
        (first | go_keep | exact ⟨(HR2.out.1.below (B := w2.heap.size) hbc hlt2).c0, (HR2.out.1.below (B := w2.heap.size) hbc hlt2).c1, (HR2.out.1.below (B := w2.heap.size) hbc hlt2).c2, (HR2.out.1.below (B := w2.heap.size) hbc hlt2).c3, (HR2.out.1.below (B := w2.heap.size) hbc hlt2).c4, HK.out _ (bel_up' HR2.out.2 hbc)⟩)
        (first | (go_at_call 107; refine (HC2.out _).mono ?_; rintro e w' ⟨rfl, hb'⟩; replace hbc := bel_up' (by first | exact hbc | exact hbc.drew) hb'; clear hb'))
      have HR3 : Hid (Box w.heap.size D gen v w' ∧ Below w.heap.size w w' ∧ w.heap.size < w'.heap.size) := ⟨HR2.out.1.below hbc hlt2, bel_up' HR2.out.2 hbc, by have := hbc.size; omega⟩
      clear c0 c1 c2 c3 c4 HC2 hcl hbc
      go_wp2
      go_roundw
      case rel => exact ⟨s, by omega, by go_num, by rw [HY.out], HR3.out⟩
      case measure => simp [intOf]
    | zero =>
      have hi' : u8 = .int .i64 (-1) := by rw [hi]; rfl
      clear hi
      subst hi'
      go_wp2
      go_ret
      exact ⟨rfl, HG.out.2⟩

set_option maxHeartbeats 1000000 in
theorem rpat_any {D : FD} (hD : D ∈ fieldsL) (gen gm cm : Nat) {ao : Option Addr} {cap n x : Nat} {c : Nat → Nat} {w : World} (hx : x < D.q) (hn : n ≤ 1000) (hc : El D c) (hgl : LtB ao w.heap.size) (hN : Sl ao n c w) (hM : ModAt D (.slice (some ⟨gm, 0, none⟩) (D.m + 1) cm) D.md w) :
    Calls Try.prog 85 #[rf D.q D.p D.m gen (.slice (some ⟨gm, 0, none⟩) (D.m + 1) cm), .slice ao n cap, .int .i64 x] w fun e w' => e = .returned (.int .i64 (D.val c n x n : Nat)) ∧ Below w.heap.size w w' := by
  have hbl : Below w.heap.size w (w.alloc (.cells #[.int .i64 D.q, .int .i64 D.p, .int .i64 D.m, .int .i64 gen, .slice (some ⟨gm, 0, none⟩) (D.m + 1) cm] 27)) := (Below.refl _ _).alloc (Nat.le_refl _) _
  have HV : Hid (Calls Try.prog 118 #[rf D.q D.p D.m gen (.slice (some ⟨gm, 0, none⟩) (D.m + 1) cm), .slice ao n cap, .int .i64 x] (w.alloc (.cells #[.int .i64 D.q, .int .i64 D.p, .int .i64 D.m, .int .i64 gen, .slice (some ⟨gm, 0, none⟩) (D.m + 1) cm] 27)) fun e w' => e = .returned (.int .i64 (D.val c n x n : Nat)) ∧ Below w.heap.size w w') :=
    (rvalueS_any hD gen (cap := cap) hx hn hc (hgl.mono hbl.size) (hN.below hbl hgl) (hM.below hbl)).mono fun e w' ⟨h1, h2⟩ => ⟨h1, bel_up' hbl h2⟩
  clear hbl hN hM hc hgl hD
  unfold rf at *
  go_enter Try.func85, Try.ntmps85
  go_wp2_with fail
  refine HV.out.mono ?_
  rintro e w' ⟨rfl, hb⟩
  have HB : Hid (Below w.heap.size w w') := hb
  clear hb
  go_wp2
  go_ret
  exact ⟨rfl, HB.out⟩
end Go.Proofs.Ytjkncdmbcckcdaa
