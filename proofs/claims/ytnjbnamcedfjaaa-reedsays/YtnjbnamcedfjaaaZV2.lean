/- Texts of ours, one behind the other: V2 V3 W5 V4 V5. -/
import Derived.Test.YtnjbnamcedfjaaaZU9
import Derived.Test.YtnjbnamcedfjaaaZU1
import Derived.Lib.QuietBelow
/- The reference's polynomials: which may be (PolyMay). -/
namespace Go.Proofs.Ytnjbnamcedfjaaa
open Go.RowKit

set_option maxHeartbeats 2000000 in
set_option maxRecDepth 100000 in
theorem polyMay_any {D : FD} (hD : D ∈ fieldsL) {ao : Option Addr} {n cap : Nat} {z : Nat → Int} {w : World} (h : SlZ ao n z w) (hl : LtB ao w.heap.size) (hn : n ≤ 1000000) :
    Calls Try.prog 21 #[.int .i64 D.q, .slice ao n cap] w fun e w' => e = .returned (.int .i64 (D.chk n z)) ∧ Below w.heap.size w w' := by
  have HS : Hid (SlZ ao n z w ∧ LtB ao w.heap.size ∧ D ∈ fieldsL) := ⟨h, hl, hD⟩
  clear h hl hD
  go_enter Try.func21, Try.ntmps21
  go_wp2_with fail
  refine (rfield_any HS.out.2.2 w).mono ?_
  rintro e w1 ⟨vm, rfl, hown, _, hb1⟩
  have hm6 := (fld HS.out.2.2).m6
  obtain ⟨gm, cm, fm, hvm, hgm⟩ := hown.row (D.m + 1) modL_len' (by omega)
  subst hvm
  have HA : Hid (Below w.heap.size w w1) := hb1
  have hs1 := hb1.size
  clear hb1 hown hgm
  unfold rf
  obtain ⟨vm, hvm⟩ : ∃ vm, vm = Value.slice (some ⟨gm, 0, none⟩) (D.m + 1) cm := ⟨_, rfl⟩
  have HB0 : Hid (Box w1.heap.size D D.gen (.slice (some ⟨gm, 0, none⟩) (D.m + 1) cm) (w1.alloc (.cells #[.int .i64 D.q, .int .i64 D.p, .int .i64 D.m, .int .i64 D.gen, .slice (some ⟨gm, 0, none⟩) (D.m + 1) cm] 40))) := box_new D D.gen _ w1
  clear hvm
  by_cases h128 : 128 < n
  · have HV : Hid (D.chk n z = 4) := by show D.chk n z = 4; rw [FD.chk, if_pos h128]
    go_wp2
    go_ret
    exact ⟨ret_int (by rw [HV.out]), by first | exact HA.out | exact HA.out.alloc HA.out.size _⟩
  · go_wp2
    go_loopw [7] (fun i wr => ∃ r : Nat, r ≤ n ∧ i = .int .i64 r ∧ Hid (D.allHas z r = true) ∧ Box w1.heap.size D D.gen (.slice (some ⟨gm, 0, none⟩) (D.m + 1) cm) wr ∧ Below w.heap.size w wr ∧ w1.heap.size < wr.heap.size) (fun i _ => n - (intOf i).toNat)
    case atStart => exact ⟨0, by omega, rfl, rfl, HB0.out, HA.out.alloc HA.out.size _, by simp⟩
    case round =>
      obtain ⟨r, hr, rfl, HH, hbox, hbel, hlt1⟩ := hrel
      obtain ⟨c0, c1, c2, c3, c4⟩ := hbox
      have HG : Hid (Box w1.heap.size D D.gen (.slice (some ⟨gm, 0, none⟩) (D.m + 1) cm) wr ∧ Below w.heap.size w wr) := ⟨⟨c0, c1, c2, c3, c4⟩, hbel⟩
      clear hbel
      by_cases hlt : r < n
      · obtain ⟨b, off, rfl, hc⟩ := (HS.out.1.below HG.out.2 HS.out.2.1) r hlt
        obtain ⟨x, hx⟩ : ∃ x, x = z r := ⟨_, rfl⟩
        rw [← hx] at hc
        have z1 : (0 : Int) ≤ (r : Int) := by omega
        have z2 : (r : Int) < (n : Int) := by omega
        have HX : Hid (x = z r) := hx
        clear hx
        obtain ⟨hb0, hhb⟩ : ∃ hb0, hb0 = D.has x := ⟨_, rfl⟩
        have HC : Hid (∀ w3 : World, Calls Try.prog 56 #[.agg #[.int .i64 D.q, .int .i64 D.p, .int .i64 D.m, .int .i64 D.gen, .slice (some ⟨gm, 0, none⟩) (D.m + 1) cm], .int .i64 x] w3 fun e w' => e = .returned (.bool hb0) ∧ Below w3.heap.size w3 w') := by
          intro w3; rw [hhb]; exact rhas_any D D.gen _ x w3
        have HHB : Hid (hb0 = D.has x) := hhb
        clear hhb
        have HK : Hid (∀ w3 : World, Below wr.heap.size wr w3 → w3.cell? ⟨w1.heap.size, 0, none⟩ = some (.int .i64 (D.q : Nat)) ∧ w3.cell? ⟨w1.heap.size, 1, none⟩ = some (.int .i64 (D.p : Nat)) ∧ w3.cell? ⟨w1.heap.size, 2, none⟩ = some (.int .i64 (D.m : Nat)) ∧ w3.cell? ⟨w1.heap.size, 3, none⟩ = some (.int .i64 (D.gen : Nat)) ∧ w3.cell? ⟨w1.heap.size, 4, none⟩ = some (.slice (some ⟨gm, 0, none⟩) (D.m + 1) cm) ∧ w3.cell? ⟨b, off + r, none⟩ = some (.int .i64 x)) := by
          intro w3 h3
          have hB := HG.out.1.below (B := wr.heap.size) h3 hlt1
          refine ⟨hB.c0, hB.c1, hB.c2, hB.c3, hB.c4, ?_⟩
          rw [(bcell h3).1 b (off + r) (Nat.lt_of_lt_of_le (HS.out.2.1 _ rfl) HG.out.2.size)]
          exact hc
        have hbc : Below wr.heap.size wr wr := Below.refl _ _
        go_wp2_with fail
        go_region_held3 (fun w' => w'.cell? ⟨w1.heap.size, 0, none⟩ = some (.int .i64 (D.q : Nat)) ∧ w'.cell? ⟨w1.heap.size, 1, none⟩ = some (.int .i64 (D.p : Nat)) ∧ w'.cell? ⟨w1.heap.size, 2, none⟩ = some (.int .i64 (D.m : Nat)) ∧ w'.cell? ⟨w1.heap.size, 3, none⟩ = some (.int .i64 (D.gen : Nat)) ∧ w'.cell? ⟨w1.heap.size, 4, none⟩ = some (.slice (some ⟨gm, 0, none⟩) (D.m + 1) cm) ∧ w'.cell? ⟨b, off + r, none⟩ = some (.int .i64 x))
          (first | go_keep | exact HK.out _ (by first | exact hbc | exact hbc.drew))
          (first | (go_at_call 56; refine (HC.out _).mono ?_; rintro e w' ⟨rfl, hb'⟩; replace hbc := bel_up' (by first | exact hbc | exact hbc.drew) hb'; clear hb'))
        have HR : Hid (Box w1.heap.size D D.gen (.slice (some ⟨gm, 0, none⟩) (D.m + 1) cm) w' ∧ Below w.heap.size w w' ∧ w1.heap.size < w'.heap.size) := ⟨HG.out.1.below hbc hlt1, bel_up' HG.out.2 hbc, by have := hbc.size; omega⟩
        clear c0 c1 c2 c3 c4 HC hc hbc HK
        cases hb0 with
        | true =>
          have HH2 : Hid (D.allHas z (r + 1) = true) := by show D.allHas z (r + 1) = true; rw [FD.allHas, HH.out, ← HX.out, ← HHB.out]; rfl
          go_wp2
          go_roundw
          case rel => exact ⟨r + 1, by omega, by go_num, HH2.out, HR.out⟩
          case measure => simp [intOf]; omega
        | false =>
          have HV : Hid (D.chk n z = 2) := by
            show D.chk n z = 2
            rw [FD.chk, if_neg h128, if_neg]
            intro e
            have h := allHas_iff.1 e r hlt
            rw [← HX.out, ← HHB.out] at h
            cases h
          go_wp2
          go_ret
          exact ⟨ret_int (by rw [HV.out]), HR.out.2.1⟩
      · have HV : Hid (D.chk n z = 0) := by
          show D.chk n z = 0
          have e : r = n := by omega
          rw [FD.chk, if_neg h128, if_pos (e ▸ HH.out)]
        go_wp2
        go_ret
        exact ⟨ret_int (by rw [HV.out]), HG.out.2⟩
end Go.Proofs.Ytnjbnamcedfjaaa

/- The reference's polynomials: sums (PAdd). -/
namespace Go.Proofs.Ytnjbnamcedfjaaa
open Go.RowKit

end Go.Proofs.Ytnjbnamcedfjaaa

/- The same where the calls lay blocks: the worlds in which nothing that was there has turned. No Go text here. -/
namespace Go.Proofs.Ytnjbnamcedfjaaa
open Go Go.Sort Go.RowKit

theorem quiet_tail_of {P : Program} {C : World → Prop} {id : Nat} {Q : Exit → Act → World → Prop} {a : Act} {w : World} {l : List Oper} (n : Nat) (hm : P.follows .mixedOrders = true) (hB : Region.lexTailB .any l.toArray n = true) (hC : C { w with drawn := w.drawn + 1 })
    (h : wpQuiet P l.toArray C (fun a' => ∀ w', C w' → wpList P l.toArray Q (l.drop n) a' w') (l.take n) a) : (Code.region id l.toArray true).wp P Q a w := by
  simp only [Region.lexTailB, Bool.and_eq_true, decide_eq_true_eq] at hB
  obtain ⟨⟨⟨⟨hsel, hn⟩, hs⟩, hc⟩, hlex⟩ := hB
  have hn' : n < l.length := by simpa using hn
  have htl : (l.take n).length = n := by simp; omega
  have hdl : (l.drop n).length = l.toArray.size - n := by simp
  have inv0 : HeadInv .any l.toArray n (Array.replicate l.toArray.size false) :=
    ⟨by simp, fun j oj _ hl => (by rw [getD_replicate_false] at hl; cases hl), fun t _ ht => getD_in (by simpa using ht) (getD_replicate_false _ _)⟩
  have H := head_lex (g := l.toArray.size - n) hsel hs hc hn (l.take n) 0 _ a (fun j hj => by
    have hj' : j < n := by rw [htl] at hj; exact hj
    simp [hj']) (by simpa using htl) inv0 (by rw [htl]; exact hlex) h
  refine wp_region_any hm ?_
  have R := head_any (Q := Q) (g := l.toArray.size - n) (fun s a' w' hw' hL => by
    have := wpAny_of_seq (md := .any) (Q' := Q) (l.drop n) n s a' w' (fun j => by simp [List.getElem?_drop]) (by rw [hdl]; exact hL.1) (hL.2 w' hw')
    rwa [hdl] at this) _ _ _ _ hC H
  rw [htl, show n + (l.toArray.size - n) = l.toArray.size by omega] at R
  exact R
theorem below_tail {P : Program} {id : Nat} {Q : Exit → Act → World → Prop} {a : Act} {w : World} {l : List Oper} (n : Nat) (hm : P.follows .mixedOrders = true) (hB : Region.lexTailB .any l.toArray n = true)
    (h : wpQuiet P l.toArray (fun w' => ∃ p : Regrown, w' = grow (redrawn w p.d) p.os) (fun a' => ∀ w', (∃ p : Regrown, w' = grow (redrawn w p.d) p.os) → wpList P l.toArray Q (l.drop n) a' w') (l.take n) a) : (Code.region id l.toArray true).wp P Q a w :=
  quiet_tail_of (C := fun w' => ∃ p : Regrown, w' = grow (redrawn w p.d) p.os) n hm hB ⟨⟨w.drawn + 1, #[]⟩, by rw [grow_empty]; rfl⟩ h
theorem free_regrown {w : World} {a : Addr} (ha : a.block < w.heap.size) (h : w.frozen? a = false) (d : Nat) (os : Array Obj) : (grow (redrawn w d) os).frozen? a = false := by
  rw [World.frozen?_of_block (w := w) ((below_regrown w d os).block _ ha)]; exact h
end Go.Proofs.Ytnjbnamcedfjaaa

/- The reference's polynomials: products (PMul). -/
namespace Go.Proofs.Ytnjbnamcedfjaaa
open Go.RowKit Go.Sort

end Go.Proofs.Ytnjbnamcedfjaaa

/- The reference's polynomials: values of a polynomial that came in (value, PAt). -/
namespace Go.Proofs.Ytnjbnamcedfjaaa
open Go.RowKit

set_option maxHeartbeats 4000000 in
theorem rvalueS_any {D : FD} (hD : D ∈ fieldsL) (gen : Nat) {v : Value} {ao : Option Addr} {cap n x : Nat} {c : Nat → Nat} {w : World} (hx : x < D.q) (hn : n ≤ 1000) (hc : ∀ j, c j < D.q) (hgl : LtB ao w.heap.size) (hN : Sl ao n c w) (hM : ModAt D v D.md w) :
    Calls Try.prog 87 #[rf D.q D.p D.m gen v, .slice ao n cap, .int .i64 x] w fun e w' => e = .returned (.int .i64 (D.val c n x n : Nat)) ∧ Below w.heap.size w w' := by
  have HM : Hid (ModAt D v D.md w ∧ D ∈ fieldsL ∧ Sl ao n c w ∧ ∀ j, c j < D.q) := ⟨hM, hD, hN, hc⟩
  clear hM hD hN hc
  have HB0 : Hid (Box w.heap.size D gen v (w.alloc (.cells #[.int .i64 D.q, .int .i64 D.p, .int .i64 D.m, .int .i64 gen, v] 40))) := box_new D gen v w
  unfold rf
  go_enter Try.func87, Try.ntmps87
  go_wp2
  go_loopw [7, 8] (fun s i wr => ∃ r : Nat, r ≤ n ∧ i = .int .i64 ((r : Int) - 1) ∧ s = .int .i64 (D.val c n x (n - r) : Nat) ∧ Box w.heap.size D gen v wr ∧ Below w.heap.size w wr ∧ w.heap.size < wr.heap.size) (fun _ i _ => (intOf i + 1).toNat)
  case atStart => exact ⟨n, by omega, rfl, by rw [Nat.sub_self]; rfl, HB0.out, (Below.refl _ _).alloc (Nat.le_refl _) _, by simp⟩
  case round =>
    obtain ⟨r, hr, hi, rfl, hbox, hbel, hlt⟩ := hrel
    obtain ⟨c0, c1, c2, c3, c4⟩ := hbox
    have HG : Hid (Box w.heap.size D gen v wr ∧ Below w.heap.size w wr) := ⟨⟨c0, c1, c2, c3, c4⟩, hbel⟩
    clear hbel
    cases r with
    | succ s =>
      have hi' : u8 = .int .i64 (s : Int) := by rw [hi]; go_num
      clear hi
      subst hi'
      obtain ⟨y, hy⟩ : ∃ y, y = D.val c n x (n - (s + 1)) := ⟨_, rfl⟩
      have hyq : y < D.q := by rw [hy]; exact val_lt HM.out.2.1 c n x HM.out.2.2.2 _
      have HY : Hid (D.val c n x (n - s) = sumD D.p D.q (D.mul y x) (c s)) := by
        show _ = _
        rw [hy, show n - s = (n - (s + 1)) + 1 from by omega, FD.val, show n - 1 - (n - (s + 1)) = s from by omega]
      rw [← hy]
      clear hy
      have HC : Hid (Calls Try.prog 72 #[.agg #[.int .i64 D.q, .int .i64 D.p, .int .i64 D.m, .int .i64 gen, v], .int .i64 y, .int .i64 x] wr fun e w' => e = .returned (.int .i64 (D.mul y x : Nat)) ∧ Below wr.heap.size wr w') :=
        rmul_nat HM.out.2.1 gen HM.out.1 y x hyq hx wr HG.out.2
      go_wp2_with fail
      refine HC.out.mono ?_
      rintro e w2 ⟨rfl, hb2⟩
      have HR2 : Hid (Box w.heap.size D gen v w2 ∧ Below w.heap.size w w2) := ⟨HG.out.1.below hb2 hlt, HG.out.2.trans (hb2.mono (by omega))⟩
      have hlt2 : w.heap.size < w2.heap.size := by have := hb2.size; omega
      clear hb2 c0 c1 c2 c3 c4 HC
      obtain ⟨c0, c1, c2, c3, c4⟩ := HR2.out.1
      obtain ⟨bl, off, rfl, hc0⟩ := HM.out.2.2.1 s (by omega)
      have HK : Hid (∀ w3 : World, Below w.heap.size w w3 → w3.cell? ⟨bl, off + s, none⟩ = some (.int .i64 (c s : Nat))) := fun w3 h3 => ((bcell h3).1 bl (off + s) (hgl _ rfl)).trans hc0
      have hcl : w2.cell? ⟨bl, off + s, none⟩ = some (.int .i64 (c s : Nat)) := HK.out _ HR2.out.2
      clear hc0
      have z1 : (0 : Int) ≤ (s : Int) := by omega
      have z2 : (s : Int) < (n : Int) := by omega
      have HC2 : Hid (∀ w3 : World, Calls Try.prog 71 #[.agg #[.int .i64 D.q, .int .i64 D.p, .int .i64 D.m, .int .i64 gen, v], .int .i64 (D.mul y x : Nat), .int .i64 (c s : Nat)] w3 fun e w' => e = .returned (.int .i64 (sumD D.p D.q (D.mul y x) (c s) : Nat)) ∧ Below w3.heap.size w3 w') :=
        fun w3 => radd_nat HM.out.2.1 gen v _ _ ((fld HM.out.2.1).mul_lt _ _) (HM.out.2.2.2 s) w3
      have hbc : Below w2.heap.size w2 w2 := Below.refl _ _
      go_wp2_with fail
      go_region_held3 (fun w' => w'.cell? ⟨w.heap.size, 0, none⟩ = some (.int .i64 (D.q : Nat)) ∧ w'.cell? ⟨w.heap.size, 1, none⟩ = some (.int .i64 (D.p : Nat)) ∧ w'.cell? ⟨w.heap.size, 2, none⟩ = some (.int .i64 (D.m : Nat)) ∧ w'.cell? ⟨w.heap.size, 3, none⟩ = some (.int .i64 (gen : Nat)) ∧ w'.cell? ⟨w.heap.size, 4, none⟩ = some v ∧ w'.cell? ⟨bl, off + s, none⟩ = some (.int .i64 (c s : Nat)))
        (first | go_keep | exact ⟨(HR2.out.1.below (B := w2.heap.size) hbc hlt2).c0, (HR2.out.1.below (B := w2.heap.size) hbc hlt2).c1, (HR2.out.1.below (B := w2.heap.size) hbc hlt2).c2, (HR2.out.1.below (B := w2.heap.size) hbc hlt2).c3, (HR2.out.1.below (B := w2.heap.size) hbc hlt2).c4, HK.out _ (bel_up' HR2.out.2 hbc)⟩)
        (first | (go_at_call 71; refine (HC2.out _).mono ?_; rintro e w' ⟨rfl, hb'⟩; replace hbc := bel_up' (by first | exact hbc | exact hbc.drew) hb'; clear hb'))
      have HR3 : Hid (Box w.heap.size D gen v w' ∧ Below w.heap.size w w' ∧ w.heap.size < w'.heap.size) := ⟨HR2.out.1.below hbc hlt2, bel_up' HR2.out.2 hbc, by have := hbc.size; omega⟩
      clear c0 c1 c2 c3 c4 HC2 hcl hbc
      go_wp2
      go_roundw
      case rel => exact ⟨s, by omega, by go_num, by rw [HY.out], HR3.out⟩
      case measure => simp [intOf]
    | zero =>
      have hi' : u8 = .int .i64 (-1) := by rw [hi]; rfl
      clear hi
      subst hi'
      go_wp2
      go_ret
      exact ⟨rfl, HG.out.2⟩

set_option maxHeartbeats 1000000 in
theorem rpat_any {D : FD} (hD : D ∈ fieldsL) (gen gm cm : Nat) {ao : Option Addr} {cap n x : Nat} {c : Nat → Nat} {w : World} (hx : x < D.q) (hn : n ≤ 1000) (hc : El D c) (hgl : LtB ao w.heap.size) (hN : Sl ao n c w) (hM : ModAt D (.slice (some ⟨gm, 0, none⟩) (D.m + 1) cm) D.md w) :
    Calls Try.prog 63 #[rf D.q D.p D.m gen (.slice (some ⟨gm, 0, none⟩) (D.m + 1) cm), .slice ao n cap, .int .i64 x] w fun e w' => e = .returned (.int .i64 (D.val c n x n : Nat)) ∧ Below w.heap.size w w' := by
  have hbl : Below w.heap.size w (w.alloc (.cells #[.int .i64 D.q, .int .i64 D.p, .int .i64 D.m, .int .i64 gen, .slice (some ⟨gm, 0, none⟩) (D.m + 1) cm] 40)) := (Below.refl _ _).alloc (Nat.le_refl _) _
  have HV : Hid (Calls Try.prog 87 #[rf D.q D.p D.m gen (.slice (some ⟨gm, 0, none⟩) (D.m + 1) cm), .slice ao n cap, .int .i64 x] (w.alloc (.cells #[.int .i64 D.q, .int .i64 D.p, .int .i64 D.m, .int .i64 gen, .slice (some ⟨gm, 0, none⟩) (D.m + 1) cm] 40)) fun e w' => e = .returned (.int .i64 (D.val c n x n : Nat)) ∧ Below w.heap.size w w') :=
    (rvalueS_any hD gen (cap := cap) hx hn hc (hgl.mono hbl.size) (hN.below hbl hgl) (hM.below hbl)).mono fun e w' ⟨h1, h2⟩ => ⟨h1, bel_up' hbl h2⟩
  clear hbl hN hM hc hgl hD
  unfold rf at *
  go_enter Try.func63, Try.ntmps63
  go_wp2_with fail
  refine HV.out.mono ?_
  rintro e w' ⟨rfl, hb⟩
  have HB : Hid (Below w.heap.size w w') := hb
  clear hb
  go_wp2
  go_ret
  exact ⟨rfl, HB.out⟩
end Go.Proofs.Ytnjbnamcedfjaaa
