/- Texts of ours, one behind the other: KO9 KO10. -/
import Derived.Test.YtmklnjkallhphaaZKO8
import Derived.Test.YtmklnjkallhphaaZW9
import Derived.Test.YtmklnjkallhphaaZKE3
/- Muller: a monomial by majority (the program). -/
namespace Go.Proofs.Ytmklnjkallhphaa
open Go.RowKit Go.Sort

theorem andnot_all : alb (fun a => alb (fun b => bits BinOp.andNot IntKind.i64 (a : Int) (b : Int) == ((rmv b a : Nat) : Int)) 32) 32 = true := by decide +kernel
theorem andnot_nat {a b : Nat} (ha : a < 32) (hb : b < 32) : bits BinOp.andNot IntKind.i64 (a : Int) (b : Int) = ((rmv b a : Nat) : Int) :=
  eq_of_beq (alb_at (alb_at andnot_all a ha) b hb)
theorem xor_all : alb (fun a => alb (fun b => bits BinOp.xor IntKind.i64 (a : Int) (b : Int) == (((a + b) % 2 : Nat) : Int)) 2) 2 = true := by decide +kernel
theorem xor_nat {a b : Nat} (ha : a < 2) (hb : b < 2) : bits BinOp.xor IntKind.i64 (a : Int) (b : Int) = (((a + b) % 2 : Nat) : Int) :=
  eq_of_beq (alb_at (alb_at xor_all a ha) b hb)
/-- 32 noughts. -/
def smz : Array Value := #[.int .i64 0, .int .i64 0, .int .i64 0, .int .i64 0, .int .i64 0, .int .i64 0, .int .i64 0, .int .i64 0, .int .i64 0, .int .i64 0, .int .i64 0, .int .i64 0, .int .i64 0, .int .i64 0, .int .i64 0, .int .i64 0, .int .i64 0, .int .i64 0, .int .i64 0, .int .i64 0, .int .i64 0, .int .i64 0, .int .i64 0, .int .i64 0, .int .i64 0, .int .i64 0, .int .i64 0, .int .i64 0, .int .i64 0, .int .i64 0, .int .i64 0, .int .i64 0]
set_option maxRecDepth 1000000 in
theorem smz_is : smz = Array.replicate 32 (.int .i64 0) := by kernel_rfl
/-- The sums' array. -/
def SmR (T : Nat) (c : Nat → Nat) (w : World) : Prop := RowF T 32 91 (fun o => .int .i64 (c o : Nat)) w
theorem smr_new (w : World) : SmR w.heap.size (fun _ => 0) (w.alloc (.cells smz 91)) := by
  rw [smz_is]
  refine ⟨_, two_new _, by simp, fun o ho => ?_⟩
  rw [Array.getElem?_replicate, if_pos ho]
  rfl
theorem SmR.put {T x v : Nat} {c d : Nat → Nat} {w : World} (h : SmR T c w) (hd : ∀ y, y < 32 → d y = if y = x then v else c y) : SmR T d (w.setCell ⟨T, x, none⟩ (.int .i64 (v : Nat))) := by
  refine (RowF.store h x (.int .i64 (v : Nat))).congr (fun o ho => ?_)
  unfold upd
  rw [hd o ho]
  split <;> rfl
theorem rmv_le (s x : Nat) : rmv s x ≤ x := Nat.sub_le _ _

set_option maxHeartbeats 8000000 in
set_option maxRecDepth 100000 in
theorem byMaj_any (s G P cap : Nat) (hs : s < 32) (hP : P ≤ 32) (c : Nat → Nat) (hc : ∀ x, x < P → c x < 2) {w : World} (hR : Row G P c w) :
    Calls Try.prog 40 #[.int .i64 (s : Nat), .slice (some ⟨G, 0, none⟩) P cap] w fun e w' => e = .returned (.bool (maj s c P)) ∧ Below w.heap.size w w' := by
  have HR : Hid (Row G P c w ∧ (∀ x, x < P → c x < 2)) := ⟨hR, hc⟩
  clear hR hc
  obtain ⟨MJ, hMJ⟩ : ∃ MJ, MJ = maj s c P := ⟨_, rfl⟩
  have HM : Hid (MJ = maj s c P) := hMJ
  rw [← hMJ]
  clear hMJ
  have H0 : Hid (SmR w.heap.size (fun _ => 0) (w.alloc (.cells smz 91)) ∧ Below w.heap.size w (w.alloc (.cells smz 91))) := ⟨smr_new w, (Below.refl _ _).alloc (Nat.le_refl _) _⟩
  go_enter Try.func40, Try.ntmps40
  go_wp2
  obtain ⟨T, hT⟩ : ∃ T, T = w.heap.size := ⟨_, rfl⟩
  rw [← hT]
  have HG : Hid (T = w.heap.size) := hT
  clear hT
  go_loopw [13] (fun vi wx => ∃ t : Nat, t ≤ P ∧ vi = .int .i64 (t : Nat) ∧ Hid (SmR T (fun y => csm s y c t) wx ∧ Below w.heap.size w wx)) (fun vi _ => P - (intOf vi).toNat)
  case atStart => exact ⟨0, by omega, rfl, by rw [HG.out]; exact H0.out.1, H0.out.2⟩
  case round =>
    clear H0
    obtain ⟨t, ht, rfl, HI⟩ := hrel
    rename World => wA
    by_cases hlt : t < P
    · have hib : (t : Int) < (P : Int) := by omega
      have hib0 : (0 : Int) ≤ (t : Int) := by omega
      have hcell : wA.cell? ⟨G, t, none⟩ = some (.int .i64 (c t : Nat)) := (HR.out.1.below HI.out.2 HR.out.1.lt).cell t hlt
      obtain ⟨b, hb⟩ : ∃ b, b = c t := ⟨_, rfl⟩
      rw [← hb] at hcell
      have hb2 : b < 2 := by rw [hb]; exact HR.out.2 t hlt
      obtain ⟨y, hy⟩ : ∃ y, y = rmv s t := ⟨_, rfl⟩
      have hyt : y ≤ t := by rw [hy]; exact rmv_le s t
      have hand : bits BinOp.andNot IntKind.i64 (t : Int) (s : Int) = (y : Int) := by rw [hy]; exact andnot_nat (by omega) hs
      obtain ⟨q, hq⟩ : ∃ q, q = csm s y c t := ⟨_, rfl⟩
      have hq2 : q < 2 := by rw [hq]; exact csm_lt s y t
      have hsc : wA.cell? ⟨T, y, none⟩ = some (.int .i64 (q : Nat)) := by rw [hq]; exact RowF.cell HI.out.1 y (by omega)
      have hsf := RowF.free HI.out.1 y
      obtain ⟨z, hz⟩ : ∃ z, z = (q + b) % 2 := ⟨_, rfl⟩
      have hxor : bits BinOp.xor IntKind.i64 (q : Int) (b : Int) = (z : Int) := by rw [hz]; exact xor_nat hq2 hb2
      have hy0 : (0 : Int) ≤ (y : Int) := by omega
      have hy32 : (y : Int) < 32 := by omega
      have hy33 : y < 32 := by omega
      have HX : Hid (SmR T (fun y => csm s y c (t + 1)) (wA.setCell ⟨T, y, none⟩ (.int .i64 (z : Nat))) ∧ Below w.heap.size w (wA.setCell ⟨T, y, none⟩ (.int .i64 (z : Nat)))) := by
        refine ⟨HI.out.1.put (fun o _ => ?_), HI.out.2.setCell (by show w.heap.size ≤ T; rw [HG.out]; exact Nat.le_refl _) _⟩
        show (if rmv s t = o then (csm s o c t + c t) % 2 else csm s o c t) = _
        by_cases e : o = y
        · rw [if_pos (by rw [← hy]; exact e.symm), if_pos e, hz, hq, hb, e]
        · rw [if_neg (by rw [← hy]; exact fun h => e h.symm), if_neg e]
      clear hb hy hq hz
      go_wp2
      go_roundw
      case rel => exact ⟨t + 1, by omega, by go_num, HX.out⟩
      case measure => simp [intOf]; omega
    · have hib : ¬ (t : Int) < (P : Int) := by omega
      have HX : Hid (SmR T (fun y => csm s y c P) wA ∧ Below w.heap.size w wA) := by
        have h := HI.out
        rw [show t = P by omega] at h
        exact h
      clear HI
      go_wp2
      go_loopw [8, 9, 29] (fun vy vn vi wx => ∃ i a b : Nat, i ≤ P ∧ vi = .int .i64 (i : Nat) ∧ vy = .int .i64 (a : Nat) ∧ vn = .int .i64 (b : Nat) ∧ a ≤ i ∧ b ≤ i ∧ Hid (a = cnu (yes s c P) i ∧ b = cnu (nos s c P) i ∧ wx = wA)) (fun _ _ vi _ => P - (intOf vi).toNat)
      case atStart => exact ⟨0, 0, 0, by omega, rfl, rfl, rfl, by omega, by omega, rfl, rfl, rfl⟩
      case round =>
        obtain ⟨i, a, b, hi, rfl, rfl, rfl, hai, hbi, HJ⟩ := hrel
        rename World => wB
        have HB : Hid (a = cnu (yes s c P) i ∧ b = cnu (nos s c P) i) := ⟨HJ.out.1, HJ.out.2.1⟩
        have hwB := HJ.out.2.2
        have hwB := hwB.symm
        subst hwB
        clear HJ
        by_cases hli : i < P
        · have hjb : (i : Int) < (P : Int) := by omega
          have hjb0 : (0 : Int) ≤ (i : Int) := by omega
          obtain ⟨d, hd⟩ : ∃ d, d = i &&& s := ⟨_, rfl⟩
          have hand : bits BinOp.and IntKind.i64 (i : Int) (s : Int) = (d : Int) := by rw [hd]; exact and_nat i s (by omega) (by omega)
          obtain ⟨q, hq⟩ : ∃ q, q = csm s i c P := ⟨_, rfl⟩
          have hsc : wA.cell? ⟨T, i, none⟩ = some (.int .i64 (q : Nat)) := by rw [hq]; exact RowF.cell HX.out.1 i (by omega)
          have hi32 : (i : Int) < 32 := by omega
          have hi33 : i < 32 := by omega
          have ey : cnu (yes s c P) (i + 1) = cnu (yes s c P) i + if yes s c P i = true then 1 else 0 := rfl
          have en : cnu (nos s c P) (i + 1) = cnu (nos s c P) i + if nos s c P i = true then 1 else 0 := rfl
          by_cases h0 : d = 0
          · have hdb : ((d : Int) != 0) = false := by rw [h0]; rfl
            by_cases h1 : q = 1
            · have hqb : ((q : Int) == 1) = true := by rw [h1]; rfl
              have HV : Hid (a + 1 = cnu (yes s c P) (i + 1) ∧ b = cnu (nos s c P) (i + 1)) := by
                have y1 : yes s c P i = true := by unfold yes; rw [← hd, ← hq, h0, h1]; rfl
                have n1 : nos s c P i = false := by unfold nos; rw [← hd, ← hq, h0, h1]; rfl
                rw [ey, en, y1, n1, HB.out.1, HB.out.2]
                exact ⟨rfl, rfl⟩
              clear ey en h0 h1 hd hq
              go_wp2
              go_roundw
              case rel => exact ⟨i + 1, a + 1, b, by omega, by go_num, by go_num, rfl, by omega, by omega, HV.out.1, HV.out.2, by first | rfl | trivial⟩
              case measure => simp [intOf]; omega
            · have hqb : ((q : Int) == 1) = false := by rw [beq_eq_false_iff_ne]; omega
              have HV : Hid (a = cnu (yes s c P) (i + 1) ∧ b + 1 = cnu (nos s c P) (i + 1)) := by
                have e1 : (csm s i c P == 1) = false := by rw [← hq, beq_eq_false_iff_ne]; exact h1
                have y1 : yes s c P i = false := by unfold yes; rw [e1, Bool.and_false]
                have n1 : nos s c P i = true := by unfold nos; rw [e1, ← hd, h0]; rfl
                rw [ey, en, y1, n1, HB.out.1, HB.out.2]
                exact ⟨rfl, rfl⟩
              clear ey en h0 h1 hd hq
              go_wp2
              go_roundw
              case rel => exact ⟨i + 1, a, b + 1, by omega, by go_num, rfl, by go_num, by omega, by omega, HV.out.1, HV.out.2, by first | rfl | trivial⟩
              case measure => simp [intOf]; omega
          · have hdb : ((d : Int) != 0) = true := by rw [bne_iff_ne]; omega
            have HV : Hid (a = cnu (yes s c P) (i + 1) ∧ b = cnu (nos s c P) (i + 1)) := by
              have e1 : decide (i &&& s = 0) = false := decide_eq_false (by rw [← hd]; exact h0)
              have y1 : yes s c P i = false := by unfold yes; rw [e1]; rfl
              have n1 : nos s c P i = false := by unfold nos; rw [e1]; rfl
              rw [ey, en, y1, n1, HB.out.1, HB.out.2]
              exact ⟨rfl, rfl⟩
            clear ey en h0 hd hq
            go_wp2
            go_roundw
            case rel => exact ⟨i + 1, a, b, by omega, by go_num, rfl, rfl, by omega, by omega, HV.out.1, HV.out.2, by first | rfl | trivial⟩
            case measure => simp [intOf]; omega
        · have hjb : ¬ (i : Int) < (P : Int) := by omega
          have HE : Hid (MJ = decide (b < a)) := by
            have h := HB.out
            rw [show i = P by omega] at h
            show MJ = _
            rw [HM.out, h.1, h.2]
            unfold maj
            exact decide_eq_decide.2 (by omega)
          go_wp2
          go_ret
          exact ⟨by rw [HE.out]; rfl, HX.out.2⟩
end Go.Proofs.Ytmklnjkallhphaa

/- Muller: Encode (the program). -/
namespace Go.Proofs.Ytmklnjkallhphaa
open Go.RowKit Go.Sort

set_option maxHeartbeats 2000000 in
theorem collectM_any {b1 b2 r m : Nat} (hm : m ≤ 5) (hr : r ≤ m) {w : World} (hP : BxU b1 b2 r m w) :
    Calls Try.prog 36 #[.func (.func 51) #[] #[.pointer (some ⟨b1, 0, none⟩), .pointer (some ⟨b2, 0, none⟩)]] w fun e w' => ∃ v, e = .returned v ∧ OwnM w.heap.size v (nli (mnl m (r + 1))) w' ∧ Below w.heap.size w w' := by
  have HC : Hid (Calls Try.prog 54 #[.slice none 0 0, .func (.func 51) #[] #[.pointer (some ⟨b1, 0, none⟩), .pointer (some ⟨b2, 0, none⟩)]] w fun e w' => ∃ v, e = .returned v ∧ OwnM w.heap.size v (nli (mnl m (r + 1))) w' ∧ Below w.heap.size w w') := appendSeqM_any hm hr hP
  clear hP
  go_enter Try.func36, Try.ntmps36
  go_wp2_with fail
  refine HC.out.mono ?_
  rintro e w1 ⟨v, rfl, h1, h2⟩
  have H1 : Hid (OwnM w.heap.size v (nli (mnl m (r + 1))) w1 ∧ Below w.heap.size w w1) := ⟨h1, h2⟩
  clear h1 h2 HC
  go_wp2
  go_ret
  exact ⟨_, rfl, H1.out⟩
def clp (m : Nat) : Bool := alb (fun r => Nat.blt 0 (mnl m (r + 1)).length) (m + 1)
theorem mnl_pos {m r : Nat} (h1 : 1 ≤ m) (h : m ≤ 5) (hr : r ≤ m) : 0 < (mnl m (r + 1)).length := by
  have hc : clp m = true := by
    have : m = 1 ∨ m = 2 ∨ m = 3 ∨ m = 4 ∨ m = 5 := by omega
    rcases this with rfl | rfl | rfl | rfl | rfl <;> decide +kernel
  have := alb_at hc r (by omega)
  simp [Nat.blt] at this
  omega
theorem mwv_mad {l : List Nat} {g : Nat → Nat} {i P : Nat} (hg : g i = 1) : ∀ x, x < P → mad (l.getD i 0) (fun x => mwv l g x i) P x = mwv l g x (i + 1) := fun x hx => by
  unfold mad
  show _ = (if g i = 1 ∧ mon (l.getD i 0) x = true then 1 - mwv l g x i else mwv l g x i)
  by_cases h : mon (l.getD i 0) x = true
  · rw [if_pos ⟨hx, h⟩, if_pos ⟨hg, h⟩]
  · rw [if_neg (fun q => h q.2), if_neg (fun q => h q.2)]
theorem mwv_same {l : List Nat} {g : Nat → Nat} {i x : Nat} (hg : g i ≠ 1) : mwv l g x (i + 1) = mwv l g x i := if_neg (fun h => hg h.1)
theorem mck_fine {r m : Nat} (h1 : 1 ≤ m) (h : m ≤ 5) (hr : r ≤ m) : mck (r : Int) (m : Int) = 0 := by
  unfold mck
  rw [if_neg (by omega), if_neg (by omega)]

/-- What Encode tells of a message. -/
def EnP (r m P k : Nat) (z : Nat → Int) (w : World) (e : Ending) (w' : World) : Prop :=
  Below w.heap.size w w' ∧ ((bchk isbt k z ((mnl m (r + 1)).length : Nat) = 0 ∧ ∃ G, e = .returned (.tuple #[.slice (some ⟨G, 0, none⟩) P P, .int .i64 0]) ∧ w.heap.size ≤ G ∧ Row G P (fun x => mwv (mnl m (r + 1)) (fun j => (z j).toNat) x (mnl m (r + 1)).length) w') ∨
    (bchk isbt k z ((mnl m (r + 1)).length : Nat) ≠ 0 ∧ e = .returned (.tuple #[.slice none 0 0, .int .i64 (bchk isbt k z ((mnl m (r + 1)).length : Nat))])))

set_option maxHeartbeats 8000000 in
set_option maxRecDepth 100000 in
theorem mEncode_any (r m P : Nat) (h1 : 1 ≤ m) (h : m ≤ 5) (hr : r ≤ m) (hP : P = 2 ^ m) {ao : Option Addr} {k cap : Nat} {z : Nat → Int} {w : World} (hs : SlZ ao k z w) (hk : k ≤ 100000) :
    Calls Try.prog 15 #[.int .i64 (r : Nat), .int .i64 (m : Nat), .slice ao k cap] w (EnP r m P k z w) := by
  obtain ⟨l, hl⟩ : ∃ l, l = mnl m (r + 1) := ⟨_, rfl⟩
  obtain ⟨E, hE⟩ : ∃ E, E = bchk isbt k z (l.length : Nat) := ⟨_, rfl⟩
  have hlen : l.length ≤ 1000 := by have := mnl_len h (r + 1); rw [hl]; omega
  have hpos : 0 < l.length := by rw [hl]; exact mnl_pos h1 h hr
  have hPb : P ≤ 32 := by rw [hP]; exact Nat.pow_le_pow_right (by omega) h
  have hsh : (2 : Int) ^ m = (P : Int) := by rw [hP]; simp
  have HC : Hid (Calls Try.prog 10 #[.int .i64 (r : Nat), .int .i64 (m : Nat)] w fun e w' => e = .returned (.int .i64 0) ∧ w' = w) := by
    have := mullCheck_any (r : Int) (m : Int) w
    rw [mck_fine h1 h hr] at this; exact this
  have HL : Hid (SlZ ao k z w ∧ l = mnl m (r + 1) ∧ E = bchk isbt k z (l.length : Nat) ∧ ∀ i, i < l.length → l.getD i 0 < 32) := ⟨hs, hl, hE, fun i hi => by
    have hlt := (mnl_ord h1 h hr).1 i (by rw [← hl]; exact hi)
    rw [← hl] at hlt
    have : 2 ^ m ≤ 2 ^ 5 := Nat.pow_le_pow_right (by omega) h
    omega⟩
  clear hs hl hE hP
  have hm5 := h
  go_enter Try.func15, Try.ntmps15
  go_wp2_with fail
  refine HC.out.mono ?_
  rintro e w' ⟨rfl, hw⟩
  have hw := hw.symm
  subst hw
  clear HC
  go_wp2_with fail
  refine (monos_any r m w).mono ?_
  rintro e w1 ⟨b1, b2, rfl, hbb, hbx, hb1⟩
  have HC2 : Hid (Calls Try.prog 36 #[.func (.func 51) #[] #[.pointer (some ⟨b1, 0, none⟩), .pointer (some ⟨b2, 0, none⟩)]] w1 fun e w' => ∃ v, e = .returned v ∧ OwnM w1.heap.size v (nli (mnl m (r + 1))) w' ∧ Below w1.heap.size w1 w') := collectM_any hm5 hr hbx
  have H1 : Hid (Below w.heap.size w w1) := hb1
  clear hbb hbx hb1
  go_wp2_with fail
  refine HC2.out.mono ?_
  rintro e w2 ⟨v, rfl, hov, hb2⟩
  rw [← HL.out.2.1] at hov
  obtain ⟨gM, cM, rfl, ⟨hc1, hc2⟩, hgM, hgM2, hcl, hfr⟩ := hov.at (fun e => by have := nli_len l; rw [e] at this; simp at this; omega)
  rw [nli_len] at hcl hc1
  obtain ⟨K, hK⟩ : ∃ K, K = l.length := ⟨_, rfl⟩
  have hKe : (nli l).length = K := by rw [nli_len, hK]
  rw [hKe]
  have H2 : Hid (Below w.heap.size w w2 ∧ gM < w2.heap.size ∧ (∀ j, j < K → w2.cell? ⟨gM, j, none⟩ = some (.int .i64 (l.getD j 0 : Nat))) ∧ SlZ ao k z w2 ∧ K = l.length) := by
    have hbw := bel_up' H1.out hb2
    refine ⟨hbw, hgM2, fun j hj => ?_, slz_below HL.out.1 hbw, hK⟩
    rw [hcl j (by omega)]
    have e := congrArg (fun q : List Int => q.getD j 0) (nli_zl l)
    rw [e, zl_getD _ _ _ (by omega)]
  have HCk : Hid (Calls Try.prog 37 #[.slice ao k cap, .int .i64 (K : Nat)] w2 fun e w' => e = .returned (.int .i64 E) ∧ w' = w2) := by rw [HL.out.2.2.1, ← hK]; exact bCheck_any (K : Nat) H2.out.2.2.2.1 (by omega)
  have hKb : 0 < K ∧ K ≤ 1000 := by omega
  clear hK hov hb2 hcl hfr hgM hgM2 hKe hc1 hc2 HC2 hlen hpos
  by_cases hE0 : E = 0
  · have hz : (E != 0) = false := by rw [hE0]; rfl
    have HE : Hid (E = 0) := hE0
    clear hE0
    go_wp2_with fail
    refine HCk.out.mono ?_
    rintro e w' ⟨rfl, hw⟩
    have hw := hw.symm
    subst hw
    clear HCk
    go_wp2_with (at_make; refine make_int rfl _ _ rfl _ P rfl rfl rfl (by omega) ?_; intro w3 hown3 hgrow3)
    have hrow3 := row_zeros hown3
    obtain ⟨G, hG⟩ : ∃ G, G = w2.heap.size := ⟨_, rfl⟩
    rw [← hG] at hrow3
    rw [← hG]
    have hb3 : Below w2.heap.size w2 w3 := below_grown hgrow3 (Nat.le_refl _) (fun k hk => by cases hk)
    have H3 : Hid (Row G P pnil w3 ∧ Below w2.heap.size w2 w3 ∧ G = w2.heap.size) := ⟨hrow3, hb3, hG⟩
    clear hrow3 hb3 hown3 hgrow3 hG
    go_wp2
    go_loopw [36] (fun vi wr => ∃ i : Nat, i ≤ K ∧ vi = .int .i64 (i : Nat) ∧ Hid (Row G P (fun x => mwv l (fun j => (z j).toNat) x i) wr ∧ Below w2.heap.size w2 wr)) (fun vi _ => K - (intOf vi).toNat)
    case atStart => exact ⟨0, by omega, rfl, H3.out.1, H3.out.2.1⟩
    case round =>
      obtain ⟨i, hi, rfl, HI⟩ := hrel
      rename World => wr
      by_cases hlt : i < K
      · have hib : (i : Int) < (K : Int) := by omega
        have hib0 : (0 : Int) ≤ (i : Int) := by omega
        have hmc : wr.cell? ⟨gM, i, none⟩ = some (.int .i64 (l.getD i 0 : Nat)) := ((bcell HI.out.2).1 gM i H2.out.2.1).trans (H2.out.2.2.1 i hlt)
        obtain ⟨s, hse⟩ : ∃ s, s = l.getD i 0 := ⟨_, rfl⟩
        rw [← hse] at hmc
        have hs32 : s < 32 := by rw [hse]; exact HL.out.2.2.2 i (by have := H2.out.2.2.2.2; omega)
        have hk : k = K ∧ ∀ j, j < k → z j = 0 ∨ z j = 1 := by
          have e := HL.out.2.2.1
          rw [HE.out] at e
          unfold bchk at e
          have hK := H2.out.2.2.2.2
          by_cases c : (k : Int) ≠ (l.length : Nat)
          · rw [if_pos c] at e; cases e
          · rw [if_neg c] at e
            by_cases c2 : allP isbt z k = true
            · exact ⟨by omega, fun j hj => of_decide_eq_true (allP_iff k c2 j hj)⟩
            · rw [if_neg c2] at e; cases e
        obtain ⟨bb, off, hao, hci⟩ := (slz_below H2.out.2.2.2.1 HI.out.2) i (by omega)
        subst hao
        have hzi := hk.2 i (by omega)
        obtain ⟨y, hy⟩ : ∃ y, y = z i := ⟨_, rfl⟩
        rw [← hy] at hci hzi
        have hik : i < k := by omega
        have hikb : (i : Int) < (k : Int) := by omega
        clear hk
        by_cases hy1 : y = 1
        · have hyb : (y == 1) = true := by rw [hy1]; rfl
          have HA : Hid (Calls Try.prog 33 #[.int .i64 (s : Nat), .slice (some ⟨G, 0, none⟩) P P] wr fun e w' => e = .returned (.tuple #[]) ∧ Row G P (fun x => mwv l (fun j => (z j).toNat) x (i + 1)) w' ∧ Below w2.heap.size wr w') := by
            refine (monAdd_any s G P P w2.heap.size (by omega) hPb (by have := H3.out.2.2; omega) _ (fun x _ => mwv_lt _ _ _ _) HI.out.1).mono ?_
            rintro e w' ⟨rfl, hr2, hb⟩
            refine ⟨rfl, hr2.congr (fun x hx => ?_), hb⟩
            rw [hse]
            exact mwv_mad (by show (z i).toNat = 1; rw [← hy, hy1]; rfl) x hx
          clear hy1 hy hse hzi
          go_wp2_with fail
          refine HA.out.mono ?_
          rintro e w4 ⟨rfl, hr4, hb4⟩
          have H4 : Hid (Row G P (fun x => mwv l (fun j => (z j).toNat) x (i + 1)) w4 ∧ Below w2.heap.size w2 w4) := ⟨hr4, HI.out.2.trans hb4⟩
          clear hr4 hb4 HA
          go_wp2
          go_roundw
          case rel => exact ⟨i + 1, by omega, by go_num, H4.out⟩
          case measure => simp [intOf]; omega
        · have hyb : (y == 1) = false := by rw [beq_eq_false_iff_ne]; exact hy1
          have HX : Hid (Row G P (fun x => mwv l (fun j => (z j).toNat) x (i + 1)) wr ∧ Below w2.heap.size w2 wr) := ⟨HI.out.1.congr (fun x _ => (mwv_same (by show (z i).toNat ≠ 1; rw [← hy]; omega)).symm), HI.out.2⟩
          clear hy1 hy hse hzi
          go_wp2
          go_roundw
          case rel => exact ⟨i + 1, by omega, by go_num, HX.out⟩
          case measure => simp [intOf]; omega
      · have hib : ¬ (i : Int) < (K : Int) := by omega
        have HX : Hid (Row G P (fun x => mwv l (fun j => (z j).toNat) x l.length) wr ∧ Below w.heap.size w wr ∧ w.heap.size ≤ G) := by
          have hh := HI.out
          rw [show i = l.length by have := H2.out.2.2.2.2; omega] at hh
          exact ⟨hh.1, bel_up' H2.out.1 hh.2, by have := H2.out.1.size; have := H3.out.2.2; omega⟩
        go_wp2
        go_ret2
        have e1 := HL.out.2.1
        have e2 := HL.out.2.2.1
        unfold EnP
        rw [← e1, ← e2]
        exact ⟨HX.out.2.1, Or.inl ⟨HE.out, G, rfl, HX.out.2.2, HX.out.1⟩⟩
  · have hz : (E != 0) = true := by rw [bne_iff_ne]; exact hE0
    have HE : Hid (E ≠ 0) := hE0
    clear hE0
    go_wp2_with fail
    refine HCk.out.mono ?_
    rintro e w' ⟨rfl, hw⟩
    have hw := hw.symm
    subst hw
    clear HCk
    go_wp2
    go_ret2
    have e1 := HL.out.2.1
    have e2 := HL.out.2.2.1
    unfold EnP
    rw [← e1, ← e2]
    exact ⟨H2.out.1, Or.inr ⟨HE.out, rfl⟩⟩
end Go.Proofs.Ytmklnjkallhphaa
