/- Texts of ours, one behind the other: KP14 KP15 KP16. -/
import Derived.Test.YtaliaikahohemaaGreatDoorZKP11
import Derived.Test.YtaliaikahohemaaGreatDoorZI18
import Derived.Test.YtaliaikahohemaaGreatDoorZX17
import Derived.Test.YtaliaikahohemaaGreatDoorZKP5
import Derived.Test.YtaliaikahohemaaGreatDoorZI2
import Derived.Test.YtaliaikahohemaaGreatDoorZL11
import Derived.Test.YtaliaikahohemaaGreatDoorZK6
import Derived.Test.YtaliaikahohemaaGreatDoorZI6
/- The program's text of a code (package code: Print). -/
namespace Go.Proofs.YtaliaikahohemaaGreatDoor
open Go.RowKit Go.Sort

/-- Block b is a builder that holds these bytes; it and its bytes lie from b on. -/
def BU (b : Nat) (l : List UInt8) (w : World) : Prop := Lib.IsBuilder (lay156_ren.t 72) (lay156_ren.t 5) b b (Lib.byteCells l) w
theorem bu_new (w : World) : BU w.heap.size [] (w.alloc (.cells #[.pointer none, .slice none 0 0] 100)) := Lib.fresh_isBuilder _ _ w
theorem bat_keep {T e : TypeId} {B b : Nat} {p : Value} {bs : List Value} {w w' : World} (h : Lib.BuilderAt T e B b p bs w) (hb : Below w.heap.size w w') : Lib.BuilderAt T e B b p bs w' := by
  have hlt := h.lt
  obtain ⟨h1, v, h2, h3, h4⟩ := h
  refine ⟨h1, v, by rw [hb.block b hlt]; exact h2, ?_, h4⟩
  obtain ⟨k1, k2⟩ := h3
  refine ⟨k1, ?_⟩
  rcases k2 with k2 | ⟨g, cap, cur, hv, hg, hh, r⟩
  · exact Or.inl k2
  · exact Or.inr ⟨g, cap, cur, hv, hg, by rw [hb.block g (lt_of_block hh)]; exact hh, r⟩
theorem BU.keep {b : Nat} {l : List UInt8} {w w' : World} (h : BU b l w) (hb : Below w.heap.size w w') : BU b l w' := by
  rcases h with h | h
  · exact Or.inl (bat_keep h hb)
  · exact Or.inr (bat_keep h hb)
theorem BU.lt {b : Nat} {l : List UInt8} {w : World} (h : BU b l w) : b < w.heap.size := by
  rcases h with h | h
  · exact h.lt
  · exact h.lt
theorem write_at {b : Nat} {l : List UInt8} {s : ByteArray} {w : World} (h : BU b l w) (hs : l.length + s.size ≤ 1000000) :
    Calls Tryz.prog 74 #[.pointer (some ⟨b, 0, none⟩), .string s] w fun e w' => e = .returned (.tuple #[.int .i64 s.size, .nilIface]) ∧ BU b (l ++ s.data.toList) w' ∧ Below b w w' := by
  refine (Any.Builder_WriteString { lay156 with } bex156 b b (Lib.byteCells l) s w h (by rw [Lib.byteCells_length]; omega) (Nat.le_of_lt h.lt)).mono ?_
  rintro e w' ⟨rfl, h1, h2⟩
  refine ⟨rfl, Or.inr ?_, h2⟩
  have e1 : Lib.byteCells (l ++ s.data.toList) = Lib.byteCells l ++ Lib.strCells s := Lib.byteCells_append _ _
  rw [e1]
  exact h1
theorem string_at {b : Nat} {l : List UInt8} {w : World} (h : BU b l w) :
    Calls Tryz.prog 76 #[.pointer (some ⟨b, 0, none⟩)] w fun e w' => e = .returned (.string (tob l)) ∧ Below b w w' :=
  Any.Builder_String_any { lay156 with } bex156 b b l w h (Nat.le_of_lt h.lt)
theorem line_at {ao : Option Addr} {n ca : Nat} {z : Nat → Int} {l : List Nat} {y : ByteArray} {w : World} (hs : SlZ ao n z w) (hl : l.length = n) (hz : ∀ j, j < n → z j = ((l.getD j 0 : Nat) : Int)) (hv : ∀ v ∈ l, v < 100) (hn : n ≤ 1000) (hy : y = tob (tlL l ++ [10])) :
    Calls Tryz.prog 75 #[.slice ao n ca] w fun e w' => e = .returned (.string y) ∧ Below w.heap.size w w' := by
  rw [hy]; exact line_any hs hl hz hv hn
theorem tob_list (l : List UInt8) : (tob l).data.toList = l := by
  show l.toArray.toList = l
  simp
/-- What Print tells. -/
def PrP (D : FD) (n m : Nat) (M : Nat → Nat → Nat) (e : Ending) : Prop := ∃ k R, e = .returned (.tuple #[.string (tob (txL (cdL D.q n k R))), .int .i64 0]) ∧ Red D n m M k R
set_option maxHeartbeats 8000000 in
set_option maxRecDepth 100000 in
theorem print_any {D : FD} (hD : D ∈ fieldsL) {ao : Option Addr} {m n ca : Nat} {A : Nat → Option Addr} {N C : Nat → Nat} {Z : Nat → Nat → Int} {w : World} (ha : CdZ D ao m n A N C Z w)
    (hC : ∀ wx, Below w.heap.size w wx → Calls Tryz.prog 19 #[.agg #[.int .i64 D.q, .int .i64 (n : Nat), .slice ao m ca]] wx fun x w' => x = .returned (.int .i64 0) ∧ Below wx.heap.size wx w') :
    Calls Tryz.prog 40 #[.agg #[.int .i64 D.q, .int .i64 (n : Nat), .slice ao m ca]] w fun e w' => PrP D n m (mzc N Z) e ∧ Below w.heap.size w w' := by
  have hn1 := ha.n1
  have hn := ha.n64
  have hq : D.q < 100 := by
    have : ∀ D ∈ fieldsL, D.q < 100 := by decide +kernel
    exact this D hD
  obtain ⟨w0, hw0⟩ : ∃ w0, w0 = w.alloc (.cells #[.int .i64 D.q, .int .i64 (n : Nat), .slice ao m ca] 25) := ⟨_, rfl⟩
  obtain ⟨b, hbe⟩ : ∃ b, b = w.heap.size := ⟨_, rfl⟩
  have HW : Hid (Below w.heap.size w w0 ∧ CB b D.q n (.slice ao m ca) w0 ∧ RB b w0 ∧ w0.heap.size = b + 1 ∧ b = w.heap.size) := by
    rw [hw0, hbe]; exact ⟨(Below.refl _ _).alloc (Nat.le_refl _) _, CB.new _ _ _ w, RB.new _ _ _ w, by simp, rfl⟩
  have HMk : Hid (Calls Tryz.prog 17 #[.agg #[.int .i64 D.q, .int .i64 (n : Nat), .slice ao m ca]] w0 fun x w' => ∃ k R ro rc, x = .returned (.tuple #[.agg #[.int .i64 D.q, .int .i64 (n : Nat), .slice ro k rc], .int .i64 0]) ∧ MV w0.heap.size (.slice ro k rc) k n R w' ∧ Red D n m (mzc N Z) k R ∧ Below w0.heap.size w0 w') :=
    cMake_ok hD (ha.below HW.out.1) (fun wx hx => hC wx (bel_up' HW.out.1 hx))
  clear ha hC
  go_enter Tryz.func40, Tryz.ntmps40
  go_wp2_with fail
  rw [← hw0, ← hbe]
  clear hw0 hbe
  refine HMk.out.mono ?_
  rintro x w1 ⟨k, R, ro, rc, rfl, hmv, hred, hb1⟩
  have H1 : Hid (MV w0.heap.size (.slice ro k rc) k n R w1 ∧ Red D n m (mzc N Z) k R ∧ Below w.heap.size w w1 ∧ RB b w1 ∧ b < w1.heap.size) := ⟨hmv, hred, bel_up' HW.out.1 hb1, HW.out.2.2.1.keep hb1, by have := hb1.size; have := HW.out.2.2.2.1; omega⟩
  clear hmv hred hb1
  have hk : k ≤ 64 := by have := H1.out.2.1.le; omega
  have HR : Hid (∀ i, i < k → ∀ j, j < n → R i j < 100) := fun i hi j _ => by
    have := H1.out.2.1.rows.1 i hi j
    omega
  obtain ⟨⟨x0, c0⟩, ⟨x1, c1⟩, ⟨x2, c2⟩, f0, f1, f2⟩ := H1.out.2.2.2.1
  obtain ⟨wA, hwA⟩ : ∃ wA, wA = laid w1 b D.q n (.slice ro k rc) := ⟨_, rfl⟩
  have HA : Hid (CB b D.q n (.slice ro k rc) wA ∧ RLz (.slice ro k rc) k n R wA ∧ Below w.heap.size w wA ∧ b < wA.heap.size) := by
    have h1 := HW.out.2.2.2
    rw [hwA]
    refine ⟨laid_cb H1.out.2.2.2.1 _ _ _, (laid_mv H1.out.1 (by omega) _ _ _).rlz (by omega), laid_below H1.out.2.2.1 (by omega) _ _ _, ?_⟩
    unfold laid
    simp
    exact H1.out.2.2.2.2
  obtain ⟨b2, hb2⟩ : ∃ b2, b2 = w1.heap.size := ⟨_, rfl⟩
  have hsA : wA.heap.size = b2 := by rw [hwA, hb2]; unfold laid; simp
  have HsA : Hid (wA.heap.size = b2) := hsA
  obtain ⟨wB, hwB⟩ : ∃ wB, wB = wA.alloc (.cells #[.pointer none, .slice none 0 0] 100) := ⟨_, rfl⟩
  have hal : Below wA.heap.size wA wB := by rw [hwB]; exact (Below.refl _ _).alloc (Nat.le_refl _) _
  obtain ⟨y, hy⟩ : ∃ y, y = tob (tlL [D.q, n] ++ [10]) := ⟨_, rfl⟩
  have hys : y.size ≤ 7 := by
    rw [hy, tob_size, List.length_append]
    have := tlL_len [D.q, n] (fun v hv => by simp at hv; omega)
    simp only [List.length_cons, List.length_nil] at this ⊢
    omega
  have HB : Hid (BU b2 [] wB ∧ Below b2 wA wB ∧ CB b D.q n (.slice ro k rc) wB ∧ b < b2 ∧ b2 = wA.heap.size ∧ y = tob (tlL [D.q, n] ++ [10])) := by
    rw [← hsA]
    exact ⟨by rw [hwB]; exact bu_new wA, hal, HA.out.1.keep hal, HA.out.2.2.2, rfl, hy⟩
  have HLn : Hid (Calls Tryz.prog 75 #[.slice (some ⟨b2 + 1, 0, none⟩) 2 2] (wB.alloc (.cells #[.int .i64 (D.q : Nat), .int .i64 (n : Nat)] 3)) fun e w' => e = .returned (.string y) ∧ Below wB.heap.size wB w') := by
    have hal2 : Below wB.heap.size wB (wB.alloc (.cells #[.int .i64 (D.q : Nat), .int .i64 (n : Nat)] 3)) := (Below.refl _ _).alloc (Nat.le_refl _) _
    have hsB : wB.heap.size = b2 + 1 := by rw [hwB, ← hsA]; simp
    have h2 := two_slz D.q n wB
    rw [hsB] at h2
    refine (line_at h2 rfl (fun j _ => rfl) (fun v hv => by simp at hv; omega) (by omega) hy).mono ?_
    rintro e w' ⟨he, hb⟩
    exact ⟨he, bel_up' hal2 hb⟩
  obtain ⟨e0, e1, e2⟩ := HB.out.2.2.1
  rw [hwB] at e0 e1
  unfold laid at hwA
  rw [hwA] at e0 e1
  clear hal hy hsA
  go_wp2_with fail
  rw [← hwA, ← hb2, ← hwB]
  clear hwA hb2 hwB e0 e1 e2 c0 c1 c2 f0 f1 f2
  refine HLn.out.mono ?_
  rintro e w3 ⟨rfl, hb3⟩
  have H3 : Hid (BU b2 [] w3 ∧ Below b2 wA w3) := ⟨HB.out.1.keep hb3, HB.out.2.1.trans (hb3.mono (by have := HB.out.1.lt; omega))⟩
  clear hb3
  go_wp2_with fail
  refine (write_at H3.out.1 (by simp; omega)).mono ?_
  rintro e w4 ⟨rfl, hbu4, hb4⟩
  have H4 : Hid (BU b2 (txL (cdL D.q n 0 R)) w4 ∧ Below b2 wA w4) := by
    refine ⟨?_, H3.out.2.trans hb4⟩
    have h := hbu4
    rw [HB.out.2.2.2.2.2, tob_list, List.nil_append] at h
    exact h
  clear hbu4 hb4
  obtain ⟨e0, e1, e2⟩ := HA.out.1.below H4.out.2 HB.out.2.2.2.1
  go_wp2
  clear e0 e1 e2
  go_loopw [26] (fun vi wr => ∃ (i : Nat), i ≤ k ∧ vi = .int .i64 (i : Nat) ∧ Hid (BU b2 (txL (cdL D.q n i R)) wr ∧ Below b2 wA wr)) (fun vi _ => k - (intOf vi).toNat)
  case atStart => exact ⟨0, by omega, rfl, H4.out⟩
  case round =>
    obtain ⟨i, hi, rfl, HI⟩ := hrel
    rename World => wr
    by_cases hlt : i < k
    · have hib : (i : Int) < (k : Int) := by omega
      have hib0 : (0 : Int) ≤ (i : Int) := by omega
      obtain ⟨ao', ca', A', C', hv, hmat⟩ := HA.out.2.1
      cases hv
      have hmr := hmat.below (w' := wr) (by rw [← HB.out.2.2.2.2.1]; exact HI.out.2)
      obtain ⟨ba, oa, hro, hc0⟩ := hmr.cell i hlt
      subst hro
      have HS : Hid (SlZ (A' i) n (fun j => ((R i j : Nat) : Int)) wr) := hmr.sl i hlt
      obtain ⟨d, hd⟩ : ∃ d, d = tob (tlL (rowL n (R i)) ++ [10]) := ⟨_, rfl⟩
      have HD : Hid (d = tob (tlL (rowL n (R i)) ++ [10])) := hd
      clear hd
      have hds : d.size ≤ 200 := by
        rw [HD.out, tob_size, List.length_append]
        have := tlL_len (rowL n (R i)) (rowL_lt (HR.out i hlt))
        rw [rowL_len] at this
        simp only [List.length_cons, List.length_nil]
        omega
      have HL2 : Hid ((txL (cdL D.q n i R)).length ≤ 20000) := by
        have := cdL_len hq hn i (fun i' hi' => HR.out i' (by omega))
        show (txL (cdL D.q n i R)).length ≤ 20000
        omega
      clear hmat hmr
      go_wp2_with fail
      refine (line_at HS.out (rowL_len n (R i)) (fun j hj => by rw [rowL_at (R i) hj]) (rowL_lt (HR.out i hlt)) (by omega) HD.out).mono ?_
      rintro e w5 ⟨rfl, hb5⟩
      have H5 : Hid (BU b2 (txL (cdL D.q n i R)) w5 ∧ Below b2 wA w5) := ⟨HI.out.1.keep hb5, HI.out.2.trans (hb5.mono (Nat.le_of_lt HI.out.1.lt))⟩
      clear hb5 hc0
      go_wp2_with fail
      refine (write_at H5.out.1 (by have := HL2.out; omega)).mono ?_
      rintro e w6 ⟨rfl, hbu6, hb6⟩
      have H6 : Hid (BU b2 (txL (cdL D.q n (i + 1) R)) w6 ∧ Below b2 wA w6) := by
        refine ⟨?_, H5.out.2.trans hb6⟩
        have h := hbu6
        rw [HD.out, tob_list, ← cdL_next] at h
        exact h
      clear hbu6 hb6
      go_wp2
      go_roundw
      case rel => exact ⟨i + 1, by omega, by go_num, H6.out⟩
      case measure => simp [intOf]; omega
    · have hib : ¬ (i : Int) < (k : Int) := by omega
      have HE : Hid (BU b2 (txL (cdL D.q n k R)) wr) := by
        have h := HI.out.1
        rw [show i = k by omega] at h
        exact h
      obtain ⟨s, hsx⟩ : ∃ s, s = tob (txL (cdL D.q n k R)) := ⟨_, rfl⟩
      have HSx : Hid (s = tob (txL (cdL D.q n k R))) := hsx
      clear hsx
      go_wp2_with fail
      refine (string_at HE.out).mono ?_
      rintro e w7 ⟨rfl, hb7⟩
      rw [← HSx.out]
      have H7 : Hid (Below w.heap.size w w7) := by
        have h1 := HB.out.2.2.2
        have h2 := HW.out.2.2.2.2
        exact HA.out.2.2.1.trans ((HI.out.2.trans hb7).mono (by omega))
      clear hb7
      go_wp2
      go_ret2
      exact ⟨⟨k, R, by rw [HSx.out]; rfl, H1.out.2.1⟩, H7.out⟩
end Go.Proofs.YtaliaikahohemaaGreatDoor

/- A code's text, read again. -/
namespace Go.Proofs.YtaliaikahohemaaGreatDoor
open Go.RowKit Go.Sort

theorem cchk_cdz {D : FD} {ao : Option Addr} {m n : Nat} {A : Nat → Option Addr} {N C : Nat → Nat} {Z : Nat → Nat → Int} {w : World} (h : CdZ D ao m n A N C Z w) : D.cchk n m N Z = 0 := by
  have h1 := h.n1
  have h2 := h.n64
  unfold FD.cchk
  rw [if_neg (by omega), h.chk, if_neg (fun e => e rfl), if_neg]
  rintro ⟨h3, h4⟩
  exact h4 (by rw [h.wd h3])
theorem MatZ.turn {ao : Option Addr} {m n : Nat} {A : Nat → Option Addr} {N C : Nat → Nat} {Z Y : Nat → Nat → Int} {w : World} (h : MatZ ao m A N C Z w) (hN : ∀ i, i < m → N i = n) (hZ : ∀ i, i < m → ∀ j, j < n → Z i j = Y i j) : MatZ ao m A (fun _ => n) C Y w := by
  refine ⟨fun i hi => ?_, fun i hi => ?_, fun i hi => ?_, h.cap, h.nil, fun i hi => ?_⟩
  · have := h.cell i hi
    rw [hN i hi] at this
    exact this
  · have h1 := h.sl i hi
    rw [hN i hi] at h1
    intro j hj
    obtain ⟨b, o, e, hc⟩ := h1 j hj
    exact ⟨b, o, e, by rw [hc, hZ i hi j hj]⟩
  · have := h.le i hi
    rw [hN i hi] at this
    exact this
  · have := h.few i hi
    rw [hN i hi] at this
    exact this
theorem cdL_at {q n k : Nat} {R : Nat → Nat → Nat} {i : Nat} (hi : i < k) : (cdL q n k R).getD (i + 1) [] = rowL n (R i) := by
  unfold cdL
  show ((List.range k).map fun i => rowL n (R i)).getD i [] = _
  rw [List.getD_eq_getElem?_getD, List.getElem?_map, List.getElem?_range hi]; rfl
theorem cdL_num {q n k : Nat} {R : Nat → Nat → Nat} (hq : q < 100) (hn : n < 100) (hR : ∀ i, i < k → ∀ j, j < n → R i j < 100) : ∀ l ∈ cdL q n k R, ∀ v ∈ l, v < 100 := by
  intro l hl v hv
  rcases List.mem_cons.1 hl with e | e
  · subst e
    simp at hv
    omega
  · obtain ⟨i, hi, rfl⟩ := List.mem_map.1 e
    exact rowL_lt (hR i (List.mem_range.1 hi)) v hv
/-- What reading a code's text comes to. -/
theorem text_read {s : ByteArray} {q n k : Nat} {R : Nat → Nat → Nat} (hs : s = tob (txL (cdL q n k R))) (hq : q < 100) (hn1 : 1 ≤ n) (hn : n ≤ 64) (hk : k ≤ 19) (hR : ∀ i, i < k → ∀ j, j < n → R i j < 100) :
    s.size ≤ 4000 ∧ txe s = 0 ∧ lcN s = k + 1 ∧ lnz (lcS s 0) 0 = (q : Int) ∧ lnz (lcS s 0) 1 = (n : Int) ∧ (∀ i, i < k → tN s i = n) ∧ ∀ i, i < k → ∀ j, j < n → tZ s i j = ((R i j : Nat) : Int) := by
  have hnum := cdL_num (k := k) hq (show n < 100 by omega) hR
  have hlen := cdL_len hq hn k hR
  have hsz : s.size ≤ 4000 := by rw [hs, tob_size]; omega
  have hs0 : s.size ≠ 0 := by
    rw [hs, tob_size]
    unfold cdL txL
    simp
  have hl : s.data.toList = txL (cdL q n k R) := by
    rw [hs]
    show (txL (cdL q n k R)).toArray.toList = _
    simp
  obtain ⟨h1, h2⟩ := txL_lines hl hnum
  have hL : (cdL q n k R).length = k + 1 := by simp [cdL]
  rw [hL] at h1 h2
  have e0 : lcS s 0 = tob (tlL [q, n]) := h2 0 (by omega)
  obtain ⟨a1, a2, a3⟩ := tlL_line (l := [q, n]) (by simp) (fun v hv => by simp at hv; omega)
  have key : ∀ i, i < k → pcN 32 (lcS s (i + 1)) = n ∧ lne (lcS s (i + 1)) = 0 ∧ ∀ j, j < n → lnz (lcS s (i + 1)) j = ((R i j : Nat) : Int) := fun i hi => by
    have e := h2 (i + 1) (by omega)
    rw [cdL_at hi] at e
    have hne : rowL n (R i) ≠ [] := by
      intro h
      have := rowL_len n (R i)
      rw [h] at this
      simp at this
      omega
    obtain ⟨b1, b2, b3⟩ := tlL_line hne (rowL_lt (hR i hi))
    rw [rowL_len] at b1 b3
    rw [e]
    exact ⟨b1, b2, fun j hj => by rw [b3 j hj, rowL_at (R i) hj]⟩
  refine ⟨hsz, ?_, h1, by rw [e0]; exact a3 0 (by simp), by rw [e0]; exact a3 1 (by simp), fun i hi => (key i hi).1, fun i hi j hj => (key i hi).2.2 j hj⟩
  unfold txe
  rw [if_neg (by omega), if_neg hs0, h1]
  refine fer_all _ (fun i hi => ?_)
  rcases i with _ | i
  · exact pqe_two (by rw [e0]; exact a2) (by rw [e0]; exact a1)
  · exact pqe_more (key i (by omega)).2.1 (by omega)
/-- The program reads its own text. -/
theorem parse_text {D : FD} (hD : D ∈ fieldsL) {n k : Nat} {R : Nat → Nat → Nat} {s : ByteArray} (mx : Int) {w : World} (hm : w.cell? ⟨mxl, 0, none⟩ = some (.int .i64 mx)) (hs : s = tob (txL (cdL D.q n k R))) (hn1 : 1 ≤ n) (hn : n ≤ 64) (hk : k ≤ 19) (hel : ∀ i, i < k → El D (R i)) (hbd : ∀ i, i < k → Bd n (R i)) :
    Calls Tryz.prog 41 #[.string s] w fun e w' => (∃ k' R' ro rc, e = .returned (.tuple #[.agg #[.int .i64 D.q, .int .i64 (n : Nat), .slice ro k' rc], .int .i64 0]) ∧ MV w.heap.size (.slice ro k' rc) k' n R' w' ∧ Red D n k R k' R') ∧ Below w.heap.size w w' := by
  have hq : D.q < 100 := by
    have : ∀ D ∈ fieldsL, D.q < 100 := by decide +kernel
    exact this D hD
  obtain ⟨t1, t2, t3, t4, t5, t6, t7⟩ := text_read hs hq hn1 hn hk (fun i hi j _ => by have := hel i hi j; omega)
  refine (parse_any s mx (by omega) hm 0 D.q n (fun B v w' => ∃ k' R' ro rc, v = .slice ro k' rc ∧ MV B v k' n R' w' ∧ Red D n k R k' R') ?_ ?_ ?_).mono ?_
  · rintro B b v wx x y u ⟨k', R', ro, rc, hv, hmv, hr⟩ hb _
    exact ⟨k', R', ro, rc, hv, laid_mv hmv hb _ _ _, hr⟩
  · rintro B B' v wx ⟨k', R', ro, rc, hv, hmv, hr⟩ hB
    exact ⟨k', R', ro, rc, hv, hmv.mono hB, hr⟩
  · intro ao A C ca wx hA
    rw [t3, Nat.add_sub_cancel] at hA ⊢
    rw [t4, t5]
    have hM := hA.turn t6 t7
    obtain ⟨A', C', hz⟩ := RLz.cdz (D := D) (ca := ca) ⟨ao, ca, A, C, rfl, hM⟩ hn1 hn (by omega) hel
    refine (cMake_ok (ca := ca) hD hz (fun wy hy => ?_)).mono ?_
    · have h := ccheck_any (ca := ca) hD n (hz.mat.below hy) (by omega)
      rw [cchk_cdz hz] at h
      exact h
    · rintro e w' ⟨k', R', ro, rc, rfl, hmv, hr, hb⟩
      exact ⟨⟨ro, k', rc, rfl, k', R', ro, rc, rfl, hmv, hr.of_eq (fun i hi => mzc_rows hbd i hi)⟩, hb⟩
  · rintro e w' ⟨hP, hb⟩
    refine ⟨?_, hb⟩
    rcases hP with ⟨h0, _⟩ | ⟨_, ro, k0, rc, rfl, k', R', ro', rc', hv, hmv, hr⟩
    · exact absurd t2 h0
    · cases hv
      exact ⟨k0, R', ro, rc, rfl, hmv, hr⟩
end Go.Proofs.YtaliaikahohemaaGreatDoor

/- The law CodeMade's part on texts (codeText). -/
namespace Go.Proofs.YtaliaikahohemaaGreatDoor
open Go.RowKit Go.Sort

theorem cdL_congr {q n k : Nat} {R R' : Nat → Nat → Nat} (h : ∀ i, i < k → R i = R' i) : cdL q n k R = cdL q n k R' := by
  unfold cdL
  congr 1
  exact List.map_congr_left (fun i hi => by rw [h i (List.mem_range.1 hi)])
theorem cdz_check {D : FD} (hD : D ∈ fieldsL) {ao : Option Addr} {m n ca : Nat} {A : Nat → Option Addr} {N C : Nat → Nat} {Z : Nat → Nat → Int} {w : World} (h : CdZ D ao m n A N C Z w) (hm : m ≤ 1000000) :
    Calls Tryz.prog 19 #[.agg #[.int .i64 D.q, .int .i64 (n : Nat), .slice ao m ca]] w fun x w' => x = .returned (.int .i64 0) ∧ Below w.heap.size w w' := by
  have := ccheck_any (ca := ca) hD n h.mat hm
  rw [cchk_cdz h] at this
  exact this
theorem codePrint_at {D : FD} {ao : Option Addr} {n k rc : Nat} {R R' : Nat → Nat → Nat} {s : ByteArray} {w : World} (hA : RLz (.slice ao k rc) k n R w) (hk : k ≤ 64) (hn : n ≤ 64) (hq : D.q < 100) (hR : ∀ i, i < k → ∀ j, j < n → R i j < 100) (he : ∀ i, i < k → R i = R' i) (hs : s = tob (txL (cdL D.q n k R'))) :
    Calls Tryz.prog 42 #[.agg #[.int .i64 D.q, .int .i64 (n : Nat), .slice ao k rc]] w fun e w' => e = .returned (.string s) ∧ Below w.heap.size w w' := by
  obtain ⟨ao', ca', A, C, hv, hM⟩ := hA
  cases hv
  rw [hs, ← cdL_congr he]
  exact codePrint_any hM hk hn hq hR

set_option maxHeartbeats 8000000 in
set_option maxRecDepth 100000 in
theorem codeText_any {D : FD} (hD : D ∈ fieldsL) {mo : Option Addr} {m n mc : Nat} {A : Nat → Option Addr} {N C : Nat → Nat} {Z : Nat → Nat → Int} {w : World} (hz : CdZ D mo m n A N C Z w) (hn19 : n ≤ 19) (mx : Int) (hmx : w.cell? ⟨mxl, 0, none⟩ = some (.int .i64 mx)) :
    Calls Tryz.prog 10 #[.agg #[.int .i64 D.q, .int .i64 (n : Nat), .slice mo m mc]] w fun e w' => e = .returned (.bool true) ∧ Below w.heap.size w w' := by
  have F := fld hD
  have hn1 := hz.n1
  obtain ⟨hm64, hel, hbd, hmr⟩ := hz.rows F
  have hq : D.q < 100 := by
    have : ∀ D ∈ fieldsL, D.q < 100 := by decide +kernel
    exact this D hD
  obtain ⟨w0, hw0⟩ : ∃ w0, w0 = w.alloc (.cells #[.int .i64 D.q, .int .i64 (n : Nat), .slice mo m mc] 25) := ⟨_, rfl⟩
  obtain ⟨b, hbe⟩ : ∃ b, b = w.heap.size := ⟨_, rfl⟩
  have HW : Hid (Below w.heap.size w w0 ∧ CB b D.q n (.slice mo m mc) w0 ∧ CdZ D mo m n A N C Z w0 ∧ D ∈ fieldsL) := by
    have hal : Below w.heap.size w w0 := by rw [hw0]; exact (Below.refl _ _).alloc (Nat.le_refl _) _
    refine ⟨hal, ?_, hz.below hal, hD⟩
    rw [hw0, hbe]; exact CB.new _ _ _ w
  have HX : Hid ((∀ i, i < m → El D (mzc N Z i)) ∧ (∀ i, i < m → Bd n (mzc N Z i)) ∧ m ≤ 64 ∧ w.cell? ⟨mxl, 0, none⟩ = some (.int .i64 mx)) := ⟨hel, hbd, hm64, hmx⟩
  clear hz hel hbd hmr hm64 hmx
  go_enter Tryz.func10, Tryz.ntmps10
  go_wp2_with fail
  rw [← hw0, ← hbe]
  clear hw0 hbe
  refine (print_any HW.out.2.2.2 HW.out.2.2.1 (fun wx hx => cdz_check HW.out.2.2.2 (HW.out.2.2.1.below hx) (by have := HX.out.2.2.1; omega))).mono ?_
  rintro e w1 ⟨⟨k, R, rfl, hred⟩, hb1⟩
  obtain ⟨s, hs⟩ : ∃ s, s = tob (txL (cdL D.q n k R)) := ⟨_, rfl⟩
  rw [← hs]
  have H1 : Hid (s = tob (txL (cdL D.q n k R)) ∧ Red D n m (mzc N Z) k R ∧ Below w0.heap.size w0 w1 ∧ k ≤ 19) := ⟨hs, hred, hb1, by have := hred.le; omega⟩
  clear hs hred hb1
  have HM1 : Hid (w1.cell? ⟨mxl, 0, none⟩ = some (.int .i64 mx)) := ((bel_up' HW.out.1 H1.out.2.2.1).cell (p := ⟨mxl, 0, none⟩) (cell_lt HX.out.2.2.2)).trans HX.out.2.2.2
  go_wp2_with fail
  refine (parse_text HW.out.2.2.2 mx HM1.out H1.out.1 hn1 (by omega) H1.out.2.2.2 H1.out.2.1.rows.1 H1.out.2.1.rows.2).mono ?_
  rintro e w2 ⟨⟨k2, R2, ro2, rc2, rfl, hmv2, hred2⟩, hb2⟩
  have H2 : Hid (MV w1.heap.size (.slice ro2 k2 rc2) k2 n R2 w2 ∧ Red D n k R k2 R2 ∧ Below w1.heap.size w1 w2) := ⟨hmv2, hred2, hb2⟩
  clear hmv2 hred2 hb2
  obtain ⟨b5, hb5⟩ : ∃ b5, b5 = w2.heap.size := ⟨_, rfl⟩
  obtain ⟨w3, hw3⟩ : ∃ w3, w3 = w2.alloc (.cells #[.int .i64 D.q, .int .i64 (n : Nat), .slice ro2 k2 rc2] 25) := ⟨_, rfl⟩
  have H3 : Hid (CB b5 D.q n (.slice ro2 k2 rc2) w3 ∧ Below w0.heap.size w0 w3 ∧ Below w2.heap.size w2 w3 ∧ CB b D.q n (.slice mo m mc) w3) := by
    have hal : Below w2.heap.size w2 w3 := by rw [hw3]; exact (Below.refl _ _).alloc (Nat.le_refl _) _
    have h02 : Below w0.heap.size w0 w3 := bel_up' (bel_up' H1.out.2.2.1 H2.out.2.2) hal
    refine ⟨?_, h02, hal, HW.out.2.1.keep h02⟩
    rw [hw3, hb5]; exact CB.new _ _ _ w2
  obtain ⟨d0, d1, d2⟩ := H3.out.2.2.2
  rw [hw3] at d0 d1 d2
  go_wp2_with fail
  rw [← hw3, ← hb5]
  clear hw3 hb5 d0 d1 d2
  have hzr := (HW.out.2.2.1.below H3.out.2.1).rows (fld HW.out.2.2.2)
  have e1 : n - 1 + 1 = n := by omega
  refine (made_any (n1 := n - 1) HW.out.2.2.2 (by have := HX.out.2.2.1; omega) (by omega) (by omega) (fun i hi => ⟨HX.out.1 i hi, by rw [e1]; exact HX.out.2.1 i hi⟩) hzr.2.2.2).mono ?_
  rintro e w4 ⟨k3, R3, ro3, rc3, rfl, hll, hred3, hb4⟩
  obtain ⟨ek, eR⟩ := H1.out.2.1.uniq (fld HW.out.2.2.2) hred3 (fun v => Iff.rfl)
  have hsp : ∀ v, Spn D (RowsOf k R) v ↔ Spn D (RowsOf m (mzc N Z)) v := by
    obtain ⟨p, _, h2⟩ := H1.out.2.1
    exact h2
  obtain ⟨ek2, eR2⟩ := H2.out.2.1.uniq (fld HW.out.2.2.2) H1.out.2.1 hsp
  have hrl := hll.rlz (by omega)
  rw [e1] at hrl
  subst ek
  subst ek2
  have H4 : Hid (RLz (.slice ro3 k2 rc3) k2 n R3 w4 ∧ Below w3.heap.size w3 w4 ∧ (∀ i, i < k2 → R3 i = R i) ∧ (∀ i, i < k2 → R2 i = R3 i)) := ⟨hrl, hb4, fun i hi => (eR i hi).symm, fun i hi => (eR2 i hi).trans (eR i hi)⟩
  clear hll hred3 hb4 eR eR2 hsp hrl hzr e1
  have HR3 : Hid (∀ i, i < k2 → ∀ j, j < n → R3 i j < 100) := fun i hi j _ => by
    rw [H4.out.2.2.1 i hi]
    have := H1.out.2.1.rows.1 i hi j
    omega
  obtain ⟨b7, hb7⟩ : ∃ b7, b7 = w4.heap.size := ⟨_, rfl⟩
  obtain ⟨w5, hw5⟩ : ∃ w5, w5 = w4.alloc (.cells #[.int .i64 D.q, .int .i64 (n : Nat), .slice ro3 k2 rc3] 25) := ⟨_, rfl⟩
  have H5 : Hid (CB b7 D.q n (.slice ro3 k2 rc3) w5 ∧ Below w4.heap.size w4 w5 ∧ CB b5 D.q n (.slice ro2 k2 rc2) w5 ∧ RLz (.slice ro3 k2 rc3) k2 n R3 w5) := by
    have hal : Below w4.heap.size w4 w5 := by rw [hw5]; exact (Below.refl _ _).alloc (Nat.le_refl _) _
    refine ⟨?_, hal, (H3.out.1.keep H4.out.2.1).keep hal, H4.out.1.below hal⟩
    rw [hw5, hb7]; exact CB.new _ _ _ w4
  obtain ⟨d0, d1, d2⟩ := H5.out.1
  rw [hw5, hb7] at d0 d1 d2
  go_wp2_with fail
  rw [← hw5]
  clear hw5 d0 d1 d2
  refine (codePrint_at H5.out.2.2.2 (by have := H1.out.2.2.2; omega) (by omega) hq HR3.out H4.out.2.2.1 H1.out.1).mono ?_
  rintro e w6 ⟨rfl, hb6⟩
  have H6 : Hid (CB b7 D.q n (.slice ro3 k2 rc3) w6 ∧ CB b5 D.q n (.slice ro2 k2 rc2) w6 ∧ RL (.slice ro3 k2 rc3) k2 n R3 w6 ∧ RL (.slice ro2 k2 rc2) k2 n R3 w6 ∧ Below w.heap.size w w6) := by
    have h26 : Below w2.heap.size w2 w6 := bel_up' (bel_up' (bel_up' H3.out.2.2.1 H4.out.2.1) H5.out.2.1) hb6
    have hr2 := (H2.out.1.below h26).rl.congr H4.out.2.2.2
    exact ⟨H5.out.1.keep hb6, H5.out.2.2.1.keep hb6, (H5.out.2.2.2.below hb6).rl, hr2, bel_up' (bel_up' HW.out.1 H1.out.2.2.1) (bel_up' H2.out.2.2 h26)⟩
  clear hb6
  obtain ⟨d0, d1, d2⟩ := H6.out.1
  obtain ⟨f0, f1, f2⟩ := H6.out.2.1
  rw [hb7] at d0 d1 d2
  go_wp2_with fail
  clear d0 d1 d2 f0 f1 f2 hb7
  refine (rsameCode_any D.q n H6.out.2.2.2.1 H6.out.2.2.1 (by have := H1.out.2.2.2; omega) (by omega)).mono ?_
  rintro e w7 ⟨rfl, hb8⟩
  have H7 : Hid (Below w.heap.size w w7) := bel_up' H6.out.2.2.2.2 hb8
  clear hb8
  go_wp2
  go_ret
  exact ⟨rfl, H7.out⟩
end Go.Proofs.YtaliaikahohemaaGreatDoor
