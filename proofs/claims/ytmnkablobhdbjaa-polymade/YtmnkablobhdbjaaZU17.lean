/- Texts of ours, one behind the other: U17 V1 V2. -/
import Derived.Test.YtmnkablobhdbjaaZU15
import Derived.Test.YtmnkablobhdbjaaZB5
/- Does an element stand twice in a list (hasTwice)? -/
namespace Go.Proofs.Ytmnkablobhdbjaa
open Go.RowKit

/-- Some number stands twice among the first n. -/
def Twice (c : Nat → Nat) (n : Nat) : Prop := ∃ i j, i < j ∧ j < n ∧ c i = c j

set_option maxHeartbeats 2000000 in
set_option maxRecDepth 100000 in
theorem hasTwice_any {ao : Option Addr} {n cap : Nat} {c : Nat → Nat} {w : World} (h : Sl ao n c w) (hn : n ≤ 1000) (hl : LtB ao w.heap.size) (hc : ∀ j, c j < 64) :
    Calls Try.prog 109 #[.slice ao n cap] w fun e w' => (∃ b, e = .returned (.bool b) ∧ (b = true ↔ Twice c n)) ∧ Below w.heap.size w w' := by
  have HS : Hid (Sl ao n c w ∧ LtB ao w.heap.size ∧ ∀ j, c j < 64) := ⟨h, hl, hc⟩
  clear h hl hc
  go_enter Try.func109, Try.ntmps109
  go_wp2
  change Code.wp _ _ _ _ (w.alloc (.cells (Array.replicate 64 (.bool false)) 100))
  obtain ⟨w1, hw1⟩ : ∃ w1 : World, w1 = w.alloc (.cells (Array.replicate 64 (.bool false)) 100) := ⟨_, rfl⟩
  have HR1 : Hid (RowF w.heap.size 64 100 (fun _ => .bool false) w1 ∧ Below w.heap.size w w1) := by
    rw [hw1]
    refine ⟨⟨_, two_new _, by simp, fun o ho => by simp [ho]⟩, (Below.refl _ _).alloc (Nat.le_refl _) _⟩
  rw [← hw1]
  clear hw1
  go_loopw [8] (fun i wr => ∃ (r : Nat) (f : Nat → Value), r ≤ n ∧ i = .int .i64 r ∧ RowF w.heap.size 64 100 f wr ∧ (∀ x, x < 64 → f x = .bool (decide (∃ i, i < r ∧ c i = x))) ∧ ¬ Twice c r ∧ Below w.heap.size w wr) (fun i _ => n - (intOf i).toNat)
  case atStart => exact ⟨0, _, by omega, rfl, HR1.out.1, fun x _ => by rw [decide_eq_false (by rintro ⟨i, hi, _⟩; omega)], by rintro ⟨i, j, h1, h2, _⟩; omega, HR1.out.2⟩
  case round =>
    obtain ⟨r, f, hr, rfl, hrow, hf, hnt, hbel⟩ := hrel
    have HG : Hid (RowF w.heap.size 64 100 f wr ∧ (∀ x, x < 64 → f x = .bool (decide (∃ i, i < r ∧ c i = x))) ∧ ¬ Twice c r ∧ Below w.heap.size w wr) := ⟨hrow, hf, hnt, hbel⟩
    clear hrow hf hnt hbel
    by_cases hlt : r < n
    · obtain ⟨b, off, rfl, hcx⟩ := (HS.out.1.below HG.out.2.2.2 HS.out.2.1) r hlt
      obtain ⟨x, hx⟩ : ∃ x, x = c r := ⟨_, rfl⟩
      have hx64 : x < 64 := by rw [hx]; exact HS.out.2.2 r
      rw [← hx] at hcx
      have hfr := HG.out.1.free x
      by_cases hseen : ∃ i, i < r ∧ c i = x
      · have hcs : wr.cell? ⟨w.heap.size, x, none⟩ = some (.bool true) := by rw [HG.out.1.cell x (by omega), HG.out.2.1 x hx64, decide_eq_true hseen]
        have HT : Hid (Twice c n) := by
          obtain ⟨i, hi, e⟩ := hseen
          exact ⟨i, r, hi, hlt, by rw [e, hx]⟩
        clear hseen hx
        go_wp2
        go_ret
        exact ⟨⟨true, rfl, fun _ => HT.out, fun _ => rfl⟩, HG.out.2.2.2⟩
      · have hcs : wr.cell? ⟨w.heap.size, x, none⟩ = some (.bool false) := by rw [HG.out.1.cell x (by omega), HG.out.2.1 x hx64, decide_eq_false hseen]
        have HN : Hid (¬ Twice c (r + 1) ∧ ∀ y, y < 64 → upd f x (.bool true) y = .bool (decide (∃ i, i < r + 1 ∧ c i = y))) := by
          refine ⟨?_, fun y hy => ?_⟩
          · rintro ⟨i, j, h1, h2, e⟩
            by_cases ej : j = r
            · exact hseen ⟨i, by omega, by rw [e, ej, hx]⟩
            · exact HG.out.2.2.1 ⟨i, j, h1, by omega, e⟩
          · by_cases ey : y = x
            · rw [ey, upd_at, decide_eq_true ⟨r, by omega, hx.symm⟩]
            · rw [upd_ne _ _ _ ey, HG.out.2.1 y hy]
              congr 1
              rw [decide_eq_decide]
              constructor
              · rintro ⟨i, hi, e⟩; exact ⟨i, by omega, e⟩
              · rintro ⟨i, hi, e⟩
                by_cases ei : i = r
                · exact absurd (by rw [← e, ei, hx]) ey
                · exact ⟨i, by omega, e⟩
        clear hseen hx
        go_wp2
        go_roundw
        case rel => exact ⟨r + 1, _, by omega, by go_num, HG.out.1.store x _, HN.out.2, HN.out.1, HG.out.2.2.2.setCell (by simp) _⟩
        case measure => simp [intOf]; omega
    · have HT : Hid (¬ Twice c n) := by have h := HG.out.2.2.1; rw [show r = n from by omega] at h; exact h
      go_wp2
      go_ret
      exact ⟨⟨false, rfl, fun e => (by cases e), fun e => absurd e HT.out⟩, HG.out.2.2.2⟩
end Go.Proofs.Ytmnkablobhdbjaa

/- The reference's polynomials: without noughts at the end (Trim); which may be (PolyMay). -/
namespace Go.Proofs.Ytmnkablobhdbjaa
open Go.RowKit

set_option maxHeartbeats 2000000 in
set_option maxRecDepth 100000 in
theorem rtrim_any {ao : Option Addr} {n cap : Nat} {c : Nat → Nat} {w : World} (h : Sl ao n c w) (hn : n ≤ cap) (_hcap : cap ≤ 9223372036854775807) (hnil : ao = none → cap = 0) (hl : LtB ao w.heap.size) (hn6 : n ≤ 1000000) :
    Calls Try.prog 51 #[.slice ao n cap] w fun e w' => ∃ v, e = .returned v ∧ OwnP w.heap.size v (dgn c n) c w' ∧ Below w.heap.size w w' := by
  have HS : Hid (Sl ao n c w ∧ (ao = none → cap = 0) ∧ LtB ao w.heap.size) := ⟨h, hnil, hl⟩
  clear h hnil hl
  have hd := dgn_le c n
  go_enter Try.func51, Try.ntmps51
  go_wp2
  go_loopw [3] (fun i wr => ∃ m : Nat, m ≤ n ∧ i = .int .i64 m ∧ Hid (dgn c n = dgn c m) ∧ ∃ d, wr = w.drewN d) (fun i _ => (intOf i).toNat)
  case atStart => exact ⟨n, Nat.le_refl _, rfl, rfl, 0, rfl⟩
  case round =>
    obtain ⟨m, hm, rfl, HD, d, rfl⟩ := hrel
    have HC : Hid (Calls Try.prog 79 #[.slice ao (dgn c n) cap] (w.drewN d) fun e w' => ∃ v, e = .returned v ∧ OwnP w.heap.size v (dgn c n) c w' ∧ Below w.heap.size (w.drewN d) w') :=
      copy_any (w := w.drewN d) (HS.out.1.less hd) (by omega) HS.out.2.1 HS.out.2.2
    cases m with
    | zero =>
      have HE : Hid (dgn c n = 0) := HD.out
      have HC0 : Hid (Calls Try.prog 79 #[.slice ao 0 cap] (w.drewN d) fun e w' => ∃ v, e = .returned v ∧ OwnP w.heap.size v (dgn c n) c w' ∧ Below w.heap.size (w.drewN d) w') := by
        have h := HC.out
        rw [HE.out] at h ⊢; exact h
      cases ao with
      | none =>
        go_wp2_with (go_at_call 79; refine HC0.out.mono ?_; rintro e w' ⟨v, rfl, hown, hb⟩)
        go_ret
        exact ⟨v, rfl, hown, below_drewN2 (Below.refl _ _) d |>.trans hb⟩
      | some x =>
        go_wp2_with (go_at_call 79; refine HC0.out.mono ?_; rintro e w' ⟨v, rfl, hown, hb⟩)
        go_ret
        exact ⟨v, rfl, hown, below_drewN2 (Below.refl _ _) d |>.trans hb⟩
    | succ m =>
      obtain ⟨b, off, rfl, hc⟩ := HS.out.1 m (by omega)
      by_cases h0 : c m = 0
      · have HE : Hid (dgn c n = dgn c m) := by show _ = _; rw [HD.out, dgn, if_pos h0]
        have hz : (((c m : Nat) : Int) == 0) = true := by rw [h0]; rfl
        clear h0
        go_wp2
        go_roundw
        case rel => exact ⟨m, by omega, by go_num, HE.out, _, rfl⟩
        case measure => simp [intOf]
      · have HE : Hid (dgn c n = m + 1) := by show _ = _; rw [HD.out, dgn, if_neg h0]
        have hz : (((c m : Nat) : Int) == 0) = false := by rw [beq_eq_false_iff_ne]; omega
        have HC1 : Hid (Calls Try.prog 79 #[.slice (some ⟨b, off, none⟩) (m + 1) cap] (w.drewN d) fun e w' => ∃ v, e = .returned v ∧ OwnP w.heap.size v (dgn c n) c w' ∧ Below w.heap.size (w.drewN d) w') := by
          have h := HC.out
          rw [HE.out] at h ⊢; exact h
        clear h0
        go_wp2_with (go_at_call 79; refine HC1.out.mono ?_; rintro e w' ⟨v, rfl, hown, hb⟩)
        go_ret
        exact ⟨v, rfl, hown, below_drewN2 (Below.refl _ _) d |>.trans hb⟩
end Go.Proofs.Ytmnkablobhdbjaa

/- The reference's polynomials: which may be (PolyMay). -/
namespace Go.Proofs.Ytmnkablobhdbjaa
open Go.RowKit

set_option maxHeartbeats 1000000 in
set_option maxRecDepth 100000 in
theorem polyMay_none (q : Int) (h : ∀ D ∈ fieldsL, (D.q : Int) ≠ q) (ao : Option Addr) (n cap : Nat) (w : World) :
    Calls Try.prog 46 #[.int .i64 q, .slice ao n cap] w fun e w' => e = .returned (.int .i64 1) ∧ Below w.heap.size w w' := by
  have HB : Hid (∀ D ∈ fieldsL, (D.q : Int) ≠ q) := h
  clear h
  go_enter Try.func46, Try.ntmps46
  go_wp2_with fail
  refine (rfield_none q w HB.out).mono ?_
  rintro e w1 ⟨rfl, hb1⟩
  have HW : Hid (Below w.heap.size w w1) := hb1
  clear hb1
  unfold rf0
  go_wp2
  go_ret
  exact ⟨rfl, by first | exact HW.out | exact HW.out.alloc HW.out.size _⟩

set_option maxHeartbeats 2000000 in
set_option maxRecDepth 100000 in
theorem polyMay_any {D : FD} (hD : D ∈ fieldsL) {ao : Option Addr} {n cap : Nat} {z : Nat → Int} {w : World} (h : SlZ ao n z w) (hl : LtB ao w.heap.size) (hn : n ≤ 1000000) :
    Calls Try.prog 46 #[.int .i64 D.q, .slice ao n cap] w fun e w' => e = .returned (.int .i64 (D.chk n z)) ∧ Below w.heap.size w w' := by
  have HS : Hid (SlZ ao n z w ∧ LtB ao w.heap.size ∧ D ∈ fieldsL) := ⟨h, hl, hD⟩
  clear h hl hD
  go_enter Try.func46, Try.ntmps46
  go_wp2_with fail
  refine (rfield_any HS.out.2.2 w).mono ?_
  rintro e w1 ⟨vm, rfl, hown, _, hb1⟩
  have hm6 := (fld HS.out.2.2).m6
  obtain ⟨gm, cm, fm, hvm, hgm⟩ := hown.row (D.m + 1) modL_len' (by omega)
  subst hvm
  have HA : Hid (Below w.heap.size w w1) := hb1
  have hs1 := hb1.size
  clear hb1 hown hgm
  unfold rf
  obtain ⟨vm, hvm⟩ : ∃ vm, vm = Value.slice (some ⟨gm, 0, none⟩) (D.m + 1) cm := ⟨_, rfl⟩
  have HB0 : Hid (Box w1.heap.size D D.gen (.slice (some ⟨gm, 0, none⟩) (D.m + 1) cm) (w1.alloc (.cells #[.int .i64 D.q, .int .i64 D.p, .int .i64 D.m, .int .i64 D.gen, .slice (some ⟨gm, 0, none⟩) (D.m + 1) cm] 28))) := box_new D D.gen _ w1
  clear hvm
  by_cases h128 : 128 < n
  · have HV : Hid (D.chk n z = 4) := by show D.chk n z = 4; rw [FD.chk, if_pos h128]
    go_wp2
    go_ret
    exact ⟨ret_int (by rw [HV.out]), by first | exact HA.out | exact HA.out.alloc HA.out.size _⟩
  · go_wp2
    go_loopw [7] (fun i wr => ∃ r : Nat, r ≤ n ∧ i = .int .i64 r ∧ Hid (D.allHas z r = true) ∧ Box w1.heap.size D D.gen (.slice (some ⟨gm, 0, none⟩) (D.m + 1) cm) wr ∧ Below w.heap.size w wr ∧ w1.heap.size < wr.heap.size) (fun i _ => n - (intOf i).toNat)
    case atStart => exact ⟨0, by omega, rfl, rfl, HB0.out, HA.out.alloc HA.out.size _, by simp⟩
    case round =>
      obtain ⟨r, hr, rfl, HH, hbox, hbel, hlt1⟩ := hrel
      obtain ⟨c0, c1, c2, c3, c4⟩ := hbox
      have HG : Hid (Box w1.heap.size D D.gen (.slice (some ⟨gm, 0, none⟩) (D.m + 1) cm) wr ∧ Below w.heap.size w wr) := ⟨⟨c0, c1, c2, c3, c4⟩, hbel⟩
      clear hbel
      by_cases hlt : r < n
      · obtain ⟨b, off, rfl, hc⟩ := (HS.out.1.below HG.out.2 HS.out.2.1) r hlt
        obtain ⟨x, hx⟩ : ∃ x, x = z r := ⟨_, rfl⟩
        rw [← hx] at hc
        have z1 : (0 : Int) ≤ (r : Int) := by omega
        have z2 : (r : Int) < (n : Int) := by omega
        have HX : Hid (x = z r) := hx
        clear hx
        obtain ⟨hb0, hhb⟩ : ∃ hb0, hb0 = D.has x := ⟨_, rfl⟩
        have HC : Hid (∀ w3 : World, Calls Try.prog 18 #[.agg #[.int .i64 D.q, .int .i64 D.p, .int .i64 D.m, .int .i64 D.gen, .slice (some ⟨gm, 0, none⟩) (D.m + 1) cm], .int .i64 x] w3 fun e w' => e = .returned (.bool hb0) ∧ Below w3.heap.size w3 w') := by
          intro w3; rw [hhb]; exact rhas_any D D.gen _ x w3
        have HHB : Hid (hb0 = D.has x) := hhb
        clear hhb
        have HK : Hid (∀ w3 : World, Below wr.heap.size wr w3 → w3.cell? ⟨w1.heap.size, 0, none⟩ = some (.int .i64 (D.q : Nat)) ∧ w3.cell? ⟨w1.heap.size, 1, none⟩ = some (.int .i64 (D.p : Nat)) ∧ w3.cell? ⟨w1.heap.size, 2, none⟩ = some (.int .i64 (D.m : Nat)) ∧ w3.cell? ⟨w1.heap.size, 3, none⟩ = some (.int .i64 (D.gen : Nat)) ∧ w3.cell? ⟨w1.heap.size, 4, none⟩ = some (.slice (some ⟨gm, 0, none⟩) (D.m + 1) cm) ∧ w3.cell? ⟨b, off + r, none⟩ = some (.int .i64 x)) := by
          intro w3 h3
          have hB := HG.out.1.below (B := wr.heap.size) h3 hlt1
          refine ⟨hB.c0, hB.c1, hB.c2, hB.c3, hB.c4, ?_⟩
          rw [(bcell h3).1 b (off + r) (Nat.lt_of_lt_of_le (HS.out.2.1 _ rfl) HG.out.2.size)]
          exact hc
        have hbc : Below wr.heap.size wr wr := Below.refl _ _
        go_wp2_with fail
        go_region_held3 (fun w' => w'.cell? ⟨w1.heap.size, 0, none⟩ = some (.int .i64 (D.q : Nat)) ∧ w'.cell? ⟨w1.heap.size, 1, none⟩ = some (.int .i64 (D.p : Nat)) ∧ w'.cell? ⟨w1.heap.size, 2, none⟩ = some (.int .i64 (D.m : Nat)) ∧ w'.cell? ⟨w1.heap.size, 3, none⟩ = some (.int .i64 (D.gen : Nat)) ∧ w'.cell? ⟨w1.heap.size, 4, none⟩ = some (.slice (some ⟨gm, 0, none⟩) (D.m + 1) cm) ∧ w'.cell? ⟨b, off + r, none⟩ = some (.int .i64 x))
          (first | go_keep | exact HK.out _ (by first | exact hbc | exact hbc.drew))
          (first | (go_at_call 18; refine (HC.out _).mono ?_; rintro e w' ⟨rfl, hb'⟩; replace hbc := bel_up' (by first | exact hbc | exact hbc.drew) hb'; clear hb'))
        have HR : Hid (Box w1.heap.size D D.gen (.slice (some ⟨gm, 0, none⟩) (D.m + 1) cm) w' ∧ Below w.heap.size w w' ∧ w1.heap.size < w'.heap.size) := ⟨HG.out.1.below hbc hlt1, bel_up' HG.out.2 hbc, by have := hbc.size; omega⟩
        clear c0 c1 c2 c3 c4 HC hc hbc HK
        cases hb0 with
        | true =>
          have HH2 : Hid (D.allHas z (r + 1) = true) := by show D.allHas z (r + 1) = true; rw [FD.allHas, HH.out, ← HX.out, ← HHB.out]; rfl
          go_wp2
          go_roundw
          case rel => exact ⟨r + 1, by omega, by go_num, HH2.out, HR.out⟩
          case measure => simp [intOf]; omega
        | false =>
          have HV : Hid (D.chk n z = 2) := by
            show D.chk n z = 2
            rw [FD.chk, if_neg h128, if_neg]
            intro e
            have h := allHas_iff.1 e r hlt
            rw [← HX.out, ← HHB.out] at h
            cases h
          go_wp2
          go_ret
          exact ⟨ret_int (by rw [HV.out]), HR.out.2.1⟩
      · have HV : Hid (D.chk n z = 0) := by
          show D.chk n z = 0
          have e : r = n := by omega
          rw [FD.chk, if_neg h128, if_pos (e ▸ HH.out)]
        go_wp2
        go_ret
        exact ⟨ret_int (by rw [HV.out]), HG.out.2⟩
end Go.Proofs.Ytmnkablobhdbjaa
