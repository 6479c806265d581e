/- TopPeel: the walk of the statement, whatever raw numbers it is given (printed by make/ke24.py). -/
import Derived.Test.YtjkncdmbcckcdabZKE22
import Derived.Test.YtjkncdmbcckcdabZS13
namespace Go.Proofs.Ytjkncdmbcckcdab
open Go.RowKit Go.Sort

theorem Dul.redP {D : FD} {n m k : Nat} {M R : Nat → Nat → Nat} (h : Dul D n m M k R) : Red D n k R k R := by
  obtain ⟨_, _, _, p, _, _, q1, _⟩ := h
  exact ⟨p, q1, fun _ => Iff.rfl⟩
/-- A code's variable, cell by cell. -/
def cbf (q n : Int) (v : Value) : Nat → Value
  | 0 => .int .i64 q
  | 1 => .int .i64 n
  | _ => v
theorem cbf_new (q n : Int) (v : Value) (w : World) : RowF w.heap.size 3 27 (cbf q n v) (w.alloc (.cells #[.int .i64 q, .int .i64 n, v] 27)) := by
  refine ⟨_, two_new _, rfl, fun o ho => ?_⟩
  match o, ho with
  | 0, _ => rfl
  | 1, _ => rfl
  | 2, _ => rfl
theorem cbf_put {B : Nat} {q n : Int} {v : Value} {w : World} (h : RowF B 3 27 (cbf q n v) w) (v' : Value) : RowF B 3 27 (cbf q n v') (w.setCell ⟨B, 2, none⟩ v') := by
  refine (RowF.store h 2 v').congr (fun o ho => ?_)
  match o, ho with
  | 0, _ => rfl
  | 1, _ => rfl
  | 2, _ => rfl
theorem cbf_cb {B : Nat} {q n : Int} {v : Value} {w : World} (h : RowF B 3 27 (cbf q n v) w) : CB B q n v w := ⟨RowF.cell h 0 (by omega), RowF.cell h 1 (by omega), RowF.cell h 2 (by omega)⟩
theorem MkS.set {base q c i B : Nat} {v : Value} {vs : Nat → Value} {Z : Nat → Nat → Int} {w : World} (h : MkS base q c i v vs Z w) (hB : B < base) (o : Nat) (x : Value) : MkS base q c i v vs Z (w.setCell ⟨B, o, none⟩ x) := by
  have hg : w.grownBy (w.setCell ⟨B, o, none⟩ x) (some B) := grown_set (grown_refl _ _) o x
  refine ⟨World.ownsRow.kept h.own hg ?_, fun j hj => (h.row j hj).kept hg ?_, h.blw⟩
  · right; intro e; have := h.own.open_ge B e; omega
  · right; intro e; have := ((h.row j hj).lt B e).1; omega
theorem crows_zero {n : Int} {N : Nat → Nat} {Z : Nat → Nat → Int} : ∀ m, (∀ i, i < m → crow n (Z i) (N i) = 0) → crows n N Z m = 0
  | 0, _ => rfl
  | m + 1, h => by
    show (if crows n N Z m ≠ 0 then crows n N Z m else crow n (Z m) (N m)) = 0
    rw [crows_zero m (fun i hi => h i (by omega)), if_neg (fun x => x rfl)]
    exact h m (by omega)
theorem allP_of {p : Int → Bool} {z : Nat → Int} : ∀ n, (∀ j, j < n → p (z j) = true) → allP p z n = true
  | 0, _ => rfl
  | n + 1, h => by
    show (allP p z n && p (z n)) = true
    rw [allP_of n (fun j hj => h j (by omega)), h n (by omega)]; rfl
theorem list_zl (l : List Int) : l = zl l.length (fun j => l.getD j 0) := by
  apply List.ext_getElem
  · rw [zl_len]
  · intro i h1 h2
    have h3 := zl_get l.length (fun j => l.getD j 0) i h1
    rw [List.getElem?_eq_getElem h2] at h3
    rw [Option.some.inj h3, List.getD_eq_getElem?_getD, List.getElem?_eq_getElem h1]
    rfl

set_option maxHeartbeats 1000000 in
set_option maxRecDepth 100000 in
theorem topPeel_long {ro eo lo uo : Option Addr} {rn rc en ec ln lc un uc : Nat} (k many : Int) (w : World) (hn : ¬ rn + en + ln + un ≤ 256) (h1 : rn ≤ 17592186044416) (h2 : en ≤ 17592186044416) (h3 : ln ≤ 17592186044416) (h4 : un ≤ 17592186044416) :
    Calls Try.prog 3 #[.slice ro rn rc, .int .i64 k, .int .i64 many, .slice eo en ec, .slice lo ln lc, .slice uo un uc] w fun r w' => r = .returned (.bool true) ∧ Below w.heap.size w w' := by
  have hz : (256 : Int) < (rn : Int) + (en : Int) + (ln : Int) + (un : Int) := by omega
  go_enter Try.func3, Try.ntmps3
  go_wp2
  go_ret
  exact ⟨rfl, Below.refl _ _⟩

set_option maxHeartbeats 32000000 in
set_option maxRecDepth 100000 in
theorem topPeel_walk {ro eo lo uo : Option Addr} {rn rc en ec ln lc un uc : Nat} {rz ez lz uz : Nat → Int} (k many : Int) {w : World} (hR : Arg ro rn rc rz w) (hE : Arg eo en ec ez w) (hL : Arg lo ln lc lz w) (hU : Arg uo un uc uz w) (hn : rn + en + ln + un ≤ 256) (hk : I64 k) (hmany : I64 many) (hlz : ∀ j, j < ln → I64 (lz j)) :
    Calls Try.prog 3 #[.slice ro rn rc, .int .i64 k, .int .i64 many, .slice eo en ec, .slice lo ln lc, .slice uo un uc] w fun r w' => r = .returned (.bool true) ∧ Below w.heap.size w w' := by
  have HPi : Hid (∀ (x : Int) (q : Nat), I64 x → 1 ≤ q → q ≤ 100 → ∃ M : Nat, M < q ∧ ∀ w : World, Calls Try.prog 4 #[.int .i64 x, .int .i64 (q : Nat)] w fun e w' => e = .returned (.int .i64 (M : Nat)) ∧ w' = w) := fun x q hx h1 h2 => by
    have h3 := pick_lo x (q : Int) (by omega)
    have h4 := pick_hi x (q : Int) (by omega)
    exact ⟨(pick x (q : Int)).toNat, by omega, fun w => by rw [Int.toNat_of_nonneg h3]; exact pick_any x q w hx.1 hx.2 (by omega) (by omega)⟩
  obtain ⟨N0, hN0, hp1⟩ := HPi.out k 20 hk (by omega) (by omega)
  obtain ⟨m, hm14, hp2⟩ := HPi.out many 14 hmany (by omega) (by omega)
  obtain ⟨K, hKe⟩ : ∃ K, K = 1 + N0 := ⟨_, rfl⟩
  have hwN : IntKind.i64.wrap (1 + (N0 : Int)) = (K : Int) := wrap_to (by omega) (by omega)
  have hK1 : 1 ≤ K := by omega
  have hK20 : K ≤ 20 := by omega
  have H1 : Hid (∀ w : World, Calls Try.prog 4 #[.int .i64 k, .int .i64 20] w fun e w' => e = .returned (.int .i64 (N0 : Nat)) ∧ w' = w) := hp1
  have H2 : Hid (∀ w : World, Calls Try.prog 4 #[.int .i64 many, .int .i64 14] w fun e w' => e = .returned (.int .i64 (m : Nat)) ∧ w' = w) := hp2
  have HA : Hid (Arg ro rn rc rz w ∧ Arg eo en ec ez w ∧ Arg lo ln lc lz w ∧ Arg uo un uc uz w ∧ ∀ j, j < ln → I64 (lz j)) := ⟨hR, hE, hL, hU, hlz⟩
  have hnb : ¬ (256 : Int) < (rn : Int) + (en : Int) + (ln : Int) + (un : Int) := by omega
  have HCo : Hid (Calls Try.prog 5 #[.slice ro rn rc, .int .i64 (K : Nat), .int .i64 (m : Nat)] w fun e w' => ∃ mo mc A N C Z, e = .returned (.slice mo m mc) ∧ MatZ mo m A N C Z w' ∧ (∀ j, j < m → RsL K K (N j) (Z j)) ∧ Below w.heap.size w w') := by
    refine (checksOf_any HA.out.1 (by omega) K m (by omega) (by omega)).mono ?_
    rintro e w' ⟨v, vs, N, Z, rfl, hm, hb'⟩
    obtain ⟨mo, mc, rfl, hmz⟩ := hm.matZ (by omega)
    exact ⟨mo, mc, _, _, _, _, rfl, hmz, hm.ris, hb'⟩
  clear hR hE hL hU hk hmany hlz hp1 hp2 hKe
  go_enter Try.func3, Try.ntmps3
  go_wp2_with fail
  refine (H1.out w).mono ?_
  rintro e w' ⟨rfl, hw⟩
  have hw := hw.symm
  subst hw
  go_wp2_with fail
  refine (H2.out w).mono ?_
  rintro e w' ⟨rfl, hw⟩
  have hw := hw.symm
  subst hw
  go_wp2_with fail
  refine HCo.out.mono ?_
  rintro e w1 ⟨mo, mc, A, N, C, Z, rfl, hmz, hris, hb1⟩
  have G1 : Hid (MatZ mo m A N C Z w1 ∧ (∀ j, j < m → RsL K K (N j) (Z j)) ∧ Below w.heap.size w w1 ∧ (∀ i, i < m → ∀ j, j < N i → 0 ≤ Z i j ∧ Z i j < (K : Int)) ∧ schk (K : Int) m N Z = 0 ∧ ∀ i, i < m → N i ≤ 6000) := by
    refine ⟨hmz, hris, hb1, fun i hi j hj => (hris i hi).at' j hj, ?_, fun i hi => by have := (hris i hi).few; omega⟩
    unfold schk
    rw [if_neg (by omega)]
    exact crows_zero m (fun i hi => (hris i hi).ok)
  clear hmz hris hb1 H1 H2 HCo
  obtain ⟨w2, hw2⟩ : ∃ w2, w2 = w1.alloc (.cells #[.int .i64 2, .int .i64 (K : Nat), .slice none 0 0] 27) := ⟨_, rfl⟩
  have G2 : Hid (RowF w1.heap.size 3 27 (cbf 2 (K : Nat) (.slice none 0 0)) w2 ∧ Below w1.heap.size w1 w2) := by
    rw [hw2]; exact ⟨cbf_new _ _ _ _, (Below.refl _ _).alloc (Nat.le_refl _) _⟩
  go_wp2
  rw [← hw2]
  obtain ⟨Bx, hBx⟩ : ∃ Bx, Bx = w1.heap.size := ⟨_, rfl⟩
  rw [← hBx]
  have HB : Hid (Bx = w1.heap.size) := hBx
  clear hw2 hBx
  go_loopw [15] (fun vi wx => ∃ (i : Nat) (v : Value) (vs : Nat → Value), i ≤ m ∧ vi = .int .i64 (i : Nat) ∧ Hid (MkS (Bx + 1) 2 K i v vs (fun j p => ((rowI (Z j) (N j) p : Nat) : Int)) wx ∧ RowF Bx 3 27 (cbf 2 (K : Nat) v) wx ∧ Below w1.heap.size w1 wx)) (fun vi _ => m - (intOf vi).toNat)
  case atStart => exact ⟨0, .slice none 0 0, fun _ => undef, by omega, rfl, ⟨OwnV.nil _ _, fun j hj => absurd hj (by omega), fun j hj => absurd hj (by omega)⟩, by rw [HB.out]; exact G2.out.1, G2.out.2⟩
  case round =>
    clear G2
    obtain ⟨i, v, vs, hi, rfl, HI⟩ := hrel
    rename World => wA
    have hBA : Bx < wA.heap.size := RowF.lt HI.out.2.1
    by_cases hlt : i < m
    · have hib : (i : Int) < (m : Int) := by omega
      have hib0 : (0 : Int) ≤ (i : Int) := by omega
      obtain ⟨b, off, rfl, _⟩ := (G1.out.1.below HI.out.2.2).cell i hlt
      have hlen := (vl_len i vs)
      have hNi := (G1.out.2.1 i hlt).few
      have HZ : Hid (∀ wx, Below wA.heap.size wA wx → wx.cell? ⟨b, off + i, none⟩ = some (.slice (A i) (N i) (C i)) ∧ SlZ (A i) (N i) (Z i) wx) := fun wx hx => by
        have h := G1.out.1.below (bel_up' HI.out.2.2 hx)
        obtain ⟨b', off', e, hc⟩ := h.cell i hlt
        cases e
        exact ⟨hc, h.sl i hlt⟩
      obtain ⟨Ni, hNie⟩ : ∃ Ni, Ni = N i := ⟨_, rfl⟩
      obtain ⟨Ai, hAie⟩ : ∃ Ai, Ai = A i := ⟨_, rfl⟩
      obtain ⟨Ci, hCie⟩ : ∃ Ci, Ci = C i := ⟨_, rfl⟩
      rw [← hNie, ← hAie, ← hCie] at HZ
      rw [← hNie] at hNi
      have HN : Hid (Ni = N i ∧ ∀ j, j < Ni → 0 ≤ Z i j ∧ Z i j < (K : Int)) := ⟨hNie, fun j hj => G1.out.2.2.2.1 i hlt j (by rw [← hNie]; exact hj)⟩
      clear hNie hAie hCie
      go_wp2_with (at_make; refine make_int rfl _ _ rfl _ K rfl rfl rfl (by omega) ?_; intro w3 hown3 hgrow3)
      have H3 : Hid (RowF wA.heap.size K 3 (fun p => .int .i64 ((rowI (Z i) 0 p : Nat) : Int)) w3 ∧ Below wA.heap.size wA w3) := by
        refine ⟨?_, below_grown hgrow3 (Nat.le_refl _) (fun k hk => by simp at hk)⟩
        obtain ⟨g, cap, f, e, _, _, _, _, g5, g6⟩ := hown3.row K (by simp) (by omega)
        cases e
        refine g5.congr (fun o ho => ?_)
        rw [g6 o ho, list_getD_replicate]; rfl
      obtain ⟨gR, hgR⟩ : ∃ gR, gR = wA.heap.size := ⟨_, rfl⟩
      rw [← hgR]
      have HGR : Hid (gR = wA.heap.size) := hgR
      clear hown3 hgrow3 hgR
      go_loopw [17] (fun vj wx => ∃ j : Nat, j ≤ Ni ∧ vj = .int .i64 (j : Nat) ∧ Hid (RowF gR K 3 (fun p => .int .i64 ((rowI (Z i) j p : Nat) : Int)) wx ∧ Below wA.heap.size wA wx)) (fun vj _ => Ni - (intOf vj).toNat)
      case atStart => exact ⟨0, by omega, rfl, by rw [HGR.out]; exact H3.out.1, H3.out.2⟩
      case round =>
        clear H3
        obtain ⟨j, hj, rfl, HJ⟩ := hrel
        rename World => wC
        have hcr := (HZ.out wC HJ.out.2).1
        by_cases hlj : j < Ni
        · have hjb : (j : Int) < (Ni : Int) := by omega
          have hjb0 : (0 : Int) ≤ (j : Int) := by omega
          obtain ⟨bx, ox, rfl, hcx⟩ := (HZ.out wC HJ.out.2).2 j hlj
          have hxr := HN.out.2 j hlj
          obtain ⟨X, hX⟩ : ∃ X : Nat, Z i j = (X : Int) := ⟨(Z i j).toNat, by omega⟩
          rw [hX] at hcx hxr
          have hXn : X < K := by omega
          have hXb : (X : Int) < (K : Int) := by omega
          have hX0 : (0 : Int) ≤ (X : Int) := by omega
          have hcc := RowF.cell HJ.out.1 X hXn
          have hff := RowF.free HJ.out.1 X
          have HS : Hid (RowF gR K 3 (fun p => .int .i64 ((rowI (Z i) (j + 1) p : Nat) : Int)) (wC.setCell ⟨gR, X, none⟩ (.int .i64 1)) ∧ Below wA.heap.size wA (wC.setCell ⟨gR, X, none⟩ (.int .i64 1))) := by
            refine ⟨(RowF.store HJ.out.1 X _).congr (fun o _ => ?_), HJ.out.2.setCell (by show wA.heap.size ≤ gR; rw [HGR.out]; exact Nat.le_refl _) _⟩
            unfold upd
            show (if o = X then _ else _) = Value.int .i64 (((if o = (Z i j).toNat then 1 else rowI (Z i) j o : Nat) : Nat) : Int)
            rw [hX, Int.toNat_natCast]
            by_cases e : o = X
            · rw [if_pos e, if_pos e]; rfl
            · rw [if_neg e, if_neg e]
          clear hX
          go_wp2
          go_roundw
          case rel => exact ⟨j + 1, by omega, by go_num, HS.out⟩
          case measure => simp [intOf]; omega
        · have hjb : ¬ (j : Int) < (Ni : Int) := by omega
          have hje : Ni = j := by omega
          subst hje
          have HO : Hid (OwnI (Bx + 1) (.slice (some ⟨gR, 0, none⟩) K K) (zl K (fun p => ((rowI (Z i) (N i) p : Nat) : Int))) wC ∧ Blw 2 K (fun p => ((rowI (Z i) (N i) p : Nat) : Int))) := by
            refine ⟨RowF.own HJ.out.1 (zl_len _ _) (fun p hp => ?_) (by rw [HGR.out]; omega) (by omega), fun p _ => ⟨Int.natCast_nonneg _, ?_⟩⟩
            · rw [zl_getD K _ p hp, HN.out.1]
            · have h : rowI (Z i) (N i) p < 2 := rowI_el (N i) p
              show ((rowI (Z i) (N i) p : Nat) : Int) < ((2 : Nat) : Int)
              omega
          have HM : Hid (MkS (Bx + 1) 2 K i v vs (fun j p => ((rowI (Z j) (N j) p : Nat) : Int)) wC ∧ RowF Bx 3 27 (cbf 2 (K : Nat) v) wC ∧ Below w1.heap.size w1 wC) := ⟨HI.out.1.below HJ.out.2, RowF.below HI.out.2.1 HJ.out.2 hBA, bel_up' HI.out.2.2 HJ.out.2⟩
          have hcB : wC.cell? ⟨Bx, 2, none⟩ = some v := RowF.cell HM.out.2.1 2 (by omega)
          have hll : (vl i vs).length ≤ 1000000 := by omega
          have hsC := HJ.out.2.size
          have hBC : Bx + 1 ≤ wC.heap.size := by omega
          have hBw : w1.heap.size ≤ wC.heap.size := HM.out.2.2.size
          go_wp2_with (at_builtin; refine append_sl rfl _ _ rfl (Bx + 1) v (vl i vs) rfl (HM.out.1.own.below ((Below.refl _ _).alloc (Nat.le_refl _) _) (Nat.le_refl _)) ⟨wC.heap.size, 0, none⟩ 1 (.slice (some ⟨gR, 0, none⟩) K K) rfl rfl (by rw [cell_of_row _ _ _ _ _ (0, 0) (two_new _)]; rfl) hll (by simp; omega) ?_; intro v' w6 hown6 hg6; obtain ⟨va, vb, vc', rfl⟩ : ∃ a b c, v' = Value.slice a b c := (by obtain ⟨a, c, e, _⟩ := hown6.open; exact ⟨a, _, c, e⟩); have hR6 : RowF Bx 3 27 (cbf 2 (K : Nat) v) w6 := (RowF.alloc HM.out.2.1 _).grown hg6 (fun e => (by have := HM.out.1.own.open_ge Bx e.symm; omega)); have hc6 : w6.cell? ⟨Bx, 2, none⟩ = some v := RowF.cell hR6 2 (by omega); have hf6 := RowF.free hR6 2)
          have hal : Below wC.heap.size wC (wC.alloc (.cells #[.slice (some ⟨gR, 0, none⟩) K K] 22)) := (Below.refl _ _).alloc (Nat.le_refl _) _
          have HR : Hid (MkS (Bx + 1) 2 K (i + 1) (.slice va vb vc') (fun j => if j = i then .slice (some ⟨gR, 0, none⟩) K K else vs j) (fun j p => ((rowI (Z j) (N j) p : Nat) : Int)) (w6.setCell ⟨Bx, 2, none⟩ (.slice va vb vc')) ∧ RowF Bx 3 27 (cbf 2 (K : Nat) (.slice va vb vc')) (w6.setCell ⟨Bx, 2, none⟩ (.slice va vb vc')) ∧ Below w1.heap.size w1 (w6.setCell ⟨Bx, 2, none⟩ (.slice va vb vc'))) := by
            have ho := HM.out.1.below hal
            have h6 := ho.push (HO.out.1.below hal (fun k hk => (HO.out.1.lt k hk).2)) HO.out.2 hown6 hg6
            have h7 : MkS (Bx + 1) 2 K (i + 1) (.slice va vb vc') (fun j => if j = i then .slice (some ⟨gR, 0, none⟩) K K else vs j) (fun j p => ((rowI (Z j) (N j) p : Nat) : Int)) w6 := by
              refine ⟨h6.own, fun j hj => ?_, fun j hj => ?_⟩
              · have := h6.row j hj
                by_cases e : j = i
                · simp only [if_pos e] at this ⊢; rw [e]; exact this
                · simp only [if_neg e] at this ⊢; exact this
              · have := h6.blw j hj
                by_cases e : j = i
                · simp only [if_pos e] at this; rw [e]; exact this
                · simp only [if_neg e] at this; exact this
            refine ⟨h7.set (by omega) 2 _, cbf_put hR6 _, ?_⟩
            exact ((bel_up' HM.out.2.2 hal).grown hg6 (by simp; omega) (fun k hk => (by have := ho.own.open_ge k hk; have := HB.out; omega))).setCell (by show w1.heap.size ≤ Bx; rw [HB.out]; exact Nat.le_refl _) _
          clear hown6 hg6 hal hR6 hc6 hf6
          go_roundw
          case rel => exact ⟨i + 1, _, _, by omega, by go_num, HR.out⟩
          case measure => simp [intOf]; omega
    · have hib : ¬ (i : Int) < (m : Int) := by omega
      have hie : m = i := by omega
      subst hie
      have hnil : m ≤ 64 := by omega
      obtain ⟨do', dc, hvv, hcdz⟩ := MkS.cdz (D := FB) HI.out.1 (by omega) hK1 (by omega)
      subst hvv
      have G3 : Hid (Cod FB K do' m (fun j => rowI (Z j) (N j)) wA ∧ CB Bx 2 (K : Nat) (.slice do' m dc) wA ∧ Below w1.heap.size w1 wA) := by
        refine ⟨⟨_, _, _, _, hcdz, fun j hj => ?_⟩, cbf_cb HI.out.2.1, HI.out.2.2⟩
        exact mzc_rows (n := K) (k := m) (fun j hj => rowI_bd (N j) (fun t ht => G1.out.2.2.2.1 j hj t ht)) j hj
      have HDu : Hid (Calls Try.prog 6 #[.agg #[.int .i64 2, .int .i64 (K : Nat), .slice do' m dc]] wA fun x w' => ∃ k R ro rc, x = .returned (.tuple #[.agg #[.int .i64 2, .int .i64 (K : Nat), .slice ro k rc], .int .i64 0]) ∧ (Cod FB K ro k R w' ∧ RL (.slice ro k rc) k K R w') ∧ Dul FB K m (fun j => rowI (Z j) (N j)) k R ∧ Below wA.heap.size wA w') := Cod.dual FB_in dc G3.out.1
      clear hcdz HI
      have hqc := G3.out.2.1
      obtain ⟨qc0, qc1, qc2⟩ := hqc
      go_wp2_with fail
      clear qc0 qc1 qc2
      refine HDu.out.mono ?_
      rintro e w4 ⟨kd, Rd, od, cd, rfl, ⟨hcod, _⟩, hdul, hb4⟩
      obtain ⟨w5, hw5⟩ : ∃ w5, w5 = w4.alloc (.cells #[.int .i64 2, .int .i64 (K : Nat), .slice od kd cd] 27) := ⟨_, rfl⟩
      obtain ⟨g1, g2, g3⟩ := box_at 2 (K : Nat) (.slice od kd cd) w4
      rw [← hw5] at g1 g2 g3
      have hkd := hdul.le
      have G5 : Hid (Cod FB K od kd Rd w5 ∧ Dul FB K m (fun j => rowI (Z j) (N j)) kd Rd ∧ CB w4.heap.size 2 (K : Nat) (.slice od kd cd) w5 ∧ Below w.heap.size w w5 ∧ MatZ mo m A N C Z w5) := ⟨hcod.below g1, hdul, g2, bel_up' G1.out.2.2.1 (bel_up' G3.out.2.2 (bel_up' hb4 g1)), G1.out.1.below (bel_up' G3.out.2.2 (bel_up' hb4 g1))⟩
      clear hcod hdul hb4 g1 g2 g3 G3 HDu
      have HEn : Hid (∀ (wx : World) (yo : Option Addr) (cy : Nat) (yy : Nat → Int), Below w5.heap.size w5 wx → Arg yo kd cy yy wx → FB.nchk kd yy (kd : Nat) = 0 → Calls Try.prog 7 #[.agg #[.int .i64 2, .int .i64 (K : Nat), .slice od kd cd], .slice yo kd cy] wx fun x w' => ∃ v gr c, x = .returned (.tuple #[.slice (some ⟨gr, 0, none⟩) K c, .int .i64 0]) ∧ Wrd K v gr c w' ∧ (El FB v ∧ Spn FB (RowsOf kd Rd) v) ∧ Below wx.heap.size wx w') := fun wx yo cy yy hx hA hk => (G5.out.1.below hx).encode FB_in cd hA G5.out.2.1.redP hk
      have hqc := G5.out.2.2.1
      obtain ⟨qc0, qc1, qc2⟩ := hqc
      go_upto_region 18 with fail
      rw [← hw5]
      clear hw5 qc0 qc1 qc2
      go_cut [20, 19] (fun vd ve wx => ∃ (v : Nat → Nat) (gr c : Nat), vd = .slice (some ⟨gr, 0, none⟩) K c ∧ ve = .int .i64 0 ∧ Hid (Wrd K v gr c wx ∧ (El FB v ∧ Spn FB (RowsOf kd Rd) v) ∧ Below w5.heap.size w5 wx))
      case first =>
        have HK5 : Hid (∀ wx, Below w5.heap.size w5 wx → (fun wx => CB w4.heap.size 2 (K : Nat) (.slice od kd cd) wx) wx) := fun wx hx => G5.out.2.2.1.keep hx
        have hS5 := HK5.out _ (Below.refl w5.heap.size w5).drew
        refine wp_region_noPanic ?_
        refine wp_region_X (S := (fun wx => CB w4.heap.size 2 (K : Nat) (.slice od kd cd) wx)) 11 (by kernel_rfl) ?_
        refine wpAnyX_take (i := 0) (v := ?_) (by rw [List.getElem?_toArray]; rfl) (by kernel_rfl) (by kernel_rfl) (by kernel_rfl) (by kernel_rfl) (fun _ _ _ h => h) hS5 (Or.inl ⟨by rfl, ?_⟩) ?_
        rotate_left
        · intro wz hSz; obtain ⟨z0, z1, z2⟩ := hSz; go_simp; first | done | with_reducible rfl
        try simp only [Act.put, List.setIfInBounds_toArray, List.set_cons_zero, List.set_cons_succ]
        refine wpAnyX_take (i := 1) (v := ?_) (by rw [List.getElem?_toArray]; rfl) (by kernel_rfl) (by kernel_rfl) (by kernel_rfl) (by kernel_rfl) (fun _ _ _ h => h) hS5 (Or.inl ⟨by rfl, ?_⟩) ?_
        rotate_left
        · intro wz hSz; obtain ⟨z0, z1, z2⟩ := hSz; go_simp; first | done | with_reducible rfl
        try simp only [Act.put, List.setIfInBounds_toArray, List.set_cons_zero, List.set_cons_succ]
        refine wpAnyX_take (i := 2) (v := ?_) (by rw [List.getElem?_toArray]; rfl) (by kernel_rfl) (by kernel_rfl) (by kernel_rfl) (by kernel_rfl) (fun _ _ _ h => h) hS5 (Or.inl ⟨by rfl, ?_⟩) ?_
        rotate_left
        · intro wz hSz; obtain ⟨z0, z1, z2⟩ := hSz; go_simp; first | done | with_reducible rfl
        try simp only [Act.put, List.setIfInBounds_toArray, List.set_cons_zero, List.set_cons_succ]
        refine wpAnyX_take (i := 3) (v := ?_) (by rw [List.getElem?_toArray]; rfl) (by kernel_rfl) (by kernel_rfl) (by kernel_rfl) (by kernel_rfl) (fun _ _ _ h => h) hS5 (Or.inl ⟨by rfl, ?_⟩) ?_
        rotate_left
        · intro wz hSz; obtain ⟨z0, z1, z2⟩ := hSz; go_simp; first | done | with_reducible rfl
        try simp only [Act.put, List.setIfInBounds_toArray, List.set_cons_zero, List.set_cons_succ]
        refine wpAnyX_take (i := 4) (v := ?_) (by rw [List.getElem?_toArray]; rfl) (by kernel_rfl) (by kernel_rfl) (by kernel_rfl) (by kernel_rfl) (fun _ _ _ h => h) hS5 (Or.inl ⟨by rfl, ?_⟩) ?_
        rotate_left
        · intro wz hSz; obtain ⟨z0, z1, z2⟩ := hSz; go_simp; first | done | with_reducible rfl
        try simp only [Act.put, List.setIfInBounds_toArray, List.set_cons_zero, List.set_cons_succ]
        refine wpAnyX_one (i := 5) (by kernel_rfl) (by rw [List.getElem?_toArray]; rfl) (fun KK hK => ?_)
        have HK : Hid _ := hK
        clear hK
        go_simp
        refine (wordOf_any (HA.out.2.1.below (bel_up' G5.out.2.2.2.1 (Below.refl w5.heap.size w5).drew)) (by omega) 0 kd false (by omega) (by omega)).mono ?_
        rintro e w10 ⟨v10, y10, rfl, ho10, hwd10, hb10⟩
        obtain ⟨yo, cy, rfl, hA10⟩ := ho10.argL
        have H10 : Hid (Arg yo kd cy y10 w10 ∧ FB.nchk kd y10 (kd : Nat) = 0 ∧ Below w5.heap.size w5 w10) := by
          refine ⟨hA10.arg (by omega), blw_nchk (D := FB) (fun j hj => ?_), bel_up' (Below.refl w5.heap.size w5).drew hb10⟩
          show 0 ≤ y10 j ∧ y10 j < 2
          rcases hwd10 j hj with h | h
          · omega
          · exact absurd h.1 (by decide)
        clear ho10 hwd10 hb10 hA10
        refine HK.out _ _ (fun _ => HK5.out _ H10.out.2.2) ?_
        clear HK KK
        try simp only [Act.put, List.setIfInBounds_toArray, List.set_cons_zero, List.set_cons_succ]
        refine wpAnyX_one (i := 6) (by kernel_rfl) (by rw [List.getElem?_toArray]; rfl) (fun KK hK => ?_)
        have HK : Hid _ := hK
        clear hK
        go_simp
        refine (HEn.out w10 yo cy y10 H10.out.2.2 H10.out.1 H10.out.2.1).mono ?_
        rintro e w11 ⟨v, gr, c, rfl, hw, hv, hb⟩
        have H11 : Hid (Wrd K v gr c w11 ∧ (El FB v ∧ Spn FB (RowsOf kd Rd) v) ∧ Below w5.heap.size w5 w11) := ⟨hw, hv, bel_up' H10.out.2.2 hb⟩
        clear hw hv hb
        refine HK.out _ _ (fun _ => HK5.out _ H11.out.2.2) ?_
        clear HK KK
        try simp only [Act.put, List.setIfInBounds_toArray, List.set_cons_zero, List.set_cons_succ]
        refine wpAnyX_one (i := 7) (by kernel_rfl) (by rw [List.getElem?_toArray]; rfl) (fun KK hK => ?_)
        have HK : Hid _ := hK
        clear hK
        go_simp
        refine HK.out _ _ (fun _ => HK5.out _ H11.out.2.2) ?_
        clear HK KK
        try simp only [Act.put, List.setIfInBounds_toArray, List.set_cons_zero, List.set_cons_succ]
        have hS11 := HK5.out _ H11.out.2.2
        refine wpAnyX_take (i := 8) (v := ?_) (by rw [List.getElem?_toArray]; rfl) (by kernel_rfl) (by kernel_rfl) (by kernel_rfl) (by kernel_rfl) (fun _ _ _ h => h) hS11 (Or.inl ⟨by rfl, ?_⟩) ?_
        rotate_left
        · intro wz hSz; obtain ⟨z0, z1, z2⟩ := hSz; go_simp; first | done | with_reducible rfl
        try simp only [Act.put, List.setIfInBounds_toArray, List.set_cons_zero, List.set_cons_succ]
        refine wpAnyX_take (i := 9) (v := ?_) (by rw [List.getElem?_toArray]; rfl) (by kernel_rfl) (by kernel_rfl) (by kernel_rfl) (by kernel_rfl) (fun _ _ _ h => h) hS11 (Or.inl ⟨by rfl, ?_⟩) ?_
        rotate_left
        · intro wz hSz; obtain ⟨z0, z1, z2⟩ := hSz; go_simp; first | done | with_reducible rfl
        try simp only [Act.put, List.setIfInBounds_toArray, List.set_cons_zero, List.set_cons_succ]
        refine wpAnyX_one (i := 10) (by kernel_rfl) (by rw [List.getElem?_toArray]; rfl) (fun KK hK => ?_)
        have HK : Hid _ := hK
        clear hK
        go_simp
        refine HK.out _ _ (fun _ => HK5.out _ H11.out.2.2) ?_
        clear HK KK
        try simp only [Act.put, List.setIfInBounds_toArray, List.set_cons_zero, List.set_cons_succ]
        refine wpAnyX_one (i := 11) (by kernel_rfl) (by rw [List.getElem?_toArray]; rfl) (fun KK hK => ?_)
        have HK : Hid _ := hK
        clear hK
        go_simp
        refine HK.out _ _ (fun h => absurd rfl h) ?_
        clear HK KK
        try simp only [Act.put, List.setIfInBounds_toArray, List.set_cons_zero, List.set_cons_succ]
        refine wpAnyX_done (by kernel_rfl) (NoPanic.normal ?_)
        go_wp2
        go_meet
        case rel => exact ⟨v, gr, c, rfl, rfl, H11.out⟩
      case rest =>
        rename World => w6
        obtain ⟨v, gr, c, rfl, rfl, HV⟩ := hcut
        obtain ⟨y, hy⟩ : ∃ y, y = fun p => ((v p : Nat) : Int) := ⟨_, rfl⟩
        have G6 : Hid (RowZ gr K y w6 ∧ (∀ p, p < K → y p = 0 ∨ y p = 1) ∧ (∀ i, i < m → par y (Z i) (N i) = 0) ∧ MatZ mo m A N C Z w6 ∧ Below w.heap.size w w6) := by
          refine ⟨by rw [hy]; exact RowZ.of HV.out.1.1, fun p _ => ?_, fun i hi => ?_, G5.out.2.2.2.2.below HV.out.2.2, bel_up' G5.out.2.2.2.1 HV.out.2.2⟩
          · have h : v p < 2 := HV.out.2.1.1 p
            rw [hy]
            show ((v p : Nat) : Int) = 0 ∨ ((v p : Nat) : Int) = 1
            omega
          · have h := (G5.out.2.1.iff (fld FB_in) (fun j _ => rowI_el (N j)) v).1 HV.out.2.1.2
            have h2 := h.2.2 i hi
            rw [hy, ← dot_row HV.out.2.1.1 (N i) (G1.out.2.1 i hi).ok (fun j hj => G1.out.2.2.2.1 i hi j hj)]
            exact h2
        clear hy HV G5
        have zK : ((K : Int) != (K : Int)) = false := by simp
        have HCp : Hid (Calls Try.prog 9 #[.slice (some ⟨gr, 0, none⟩) K c] w6 fun e w' => ∃ g c, e = .returned (.slice (some ⟨g, 0, none⟩) K c) ∧ w6.heap.size ≤ g ∧ RowZ g K y w' ∧ Below w6.heap.size w6 w') := rcopyZ_any G6.out.1.slz (by omega) (by omega) G6.out.1.lt'
        go_wp2_with fail
        refine HCp.out.mono ?_
        rintro e w7 ⟨gb, cb, rfl, hgb, hrb, hb7⟩
        have G7 : Hid (RowZ gb K y w7 ∧ Below w6.heap.size w6 w7 ∧ w6.heap.size ≤ gb) := ⟨hrb, hb7, hgb⟩
        clear hgb hrb hb7 HCp
        go_wp2
        go_loopw [22] (fun vi wx => ∃ (i : Nat) (b : Nat → Int), i ≤ ln ∧ vi = .int .i64 (i : Nat) ∧ Hid (RowZ gb K b wx ∧ Agr K y b ∧ Below w6.heap.size w6 wx)) (fun vi _ => ln - (intOf vi).toNat)
        case atStart => exact ⟨0, y, by omega, rfl, G7.out.1, fun p _ => Or.inr rfl, G7.out.2.1⟩
        case round =>
          obtain ⟨i, b, hi, rfl, HI⟩ := hrel
          rename World => w8
          by_cases hlt : i < ln
          · have hib : (i : Int) < (ln : Int) := by omega
            have hib0 : (0 : Int) ≤ (i : Int) := by omega
            obtain ⟨bl, ol, rfl, hcl⟩ := (HA.out.2.2.1.below (bel_up' G6.out.2.2.2.2 HI.out.2.2)).sl i hlt
            obtain ⟨x, hx⟩ : ∃ x, x = lz i := ⟨_, rfl⟩
            rw [← hx] at hcl
            obtain ⟨M, hMK, hP⟩ := HPi.out x K (by rw [hx]; exact HA.out.2.2.2.2 i hlt) hK1 (by omega)
            have HP : Hid (∀ w : World, Calls Try.prog 4 #[.int .i64 x, .int .i64 (K : Nat)] w fun e w' => e = .returned (.int .i64 (M : Nat)) ∧ w' = w) := hP
            have hMb : (M : Int) < (K : Int) := by omega
            have hMb0 : (0 : Int) ≤ (M : Int) := by omega
            have hcc := HI.out.1.cell M hMK
            have hff := HI.out.1.free M
            have HR : Hid (RowZ gb K (fun p => if p = M then -1 else b p) (w8.setCell ⟨gb, M, none⟩ (.int .i64 (-1))) ∧ Agr K y (fun p => if p = M then -1 else b p) ∧ Below w6.heap.size w6 (w8.setCell ⟨gb, M, none⟩ (.int .i64 (-1)))) := by
              refine ⟨HI.out.1.store M _ (fun p _ => rfl), fun p hp => ?_, HI.out.2.2.setCell G7.out.2.2 _⟩
              show (if p = M then (-1 : Int) else b p) = -1 ∨ (if p = M then (-1 : Int) else b p) = y p
              by_cases e : p = M
              · rw [if_pos e]; exact Or.inl rfl
              · rw [if_neg e]; exact HI.out.2.1 p hp
            clear hP hx
            go_wp2_with fail
            refine (HP.out w8).mono ?_
            rintro e w' ⟨rfl, hw⟩
            have hw := hw.symm
            subst hw
            go_wp2
            go_roundw
            case rel => exact ⟨i + 1, _, by omega, by go_num, HR.out⟩
            case measure => simp [intOf]; omega
          · have hib : ¬ (i : Int) < (ln : Int) := by omega
            have hie : ln = i := by omega
            subst hie
            have hisht : bchk isht K b (K : Nat) = 0 := by
              unfold bchk
              rw [if_neg (fun h => h rfl), if_pos]
              refine allP_of K (fun p hp => ?_)
              unfold isht
              rw [decide_eq_true_eq]
              rcases HI.out.2.1 p hp with h | h
              · exact Or.inl h
              · rw [h]; exact Or.inr (G6.out.2.1 p hp)
            have HPe : Hid (Calls Try.prog 10 #[.int .i64 (K : Nat), .slice mo m mc, .slice (some ⟨gb, 0, none⟩) K cb] w8 (PeP m K N Z b w8)) := speel_ok (G6.out.2.2.2.1.below HI.out.2.2) HI.out.1.slz HI.out.1.lt' G1.out.2.2.2.2.2 G1.out.2.2.2.2.1 hisht
            clear hisht
            go_wp2_with fail
            refine HPe.out.mono ?_
            rintro e w9 ⟨hb9, gf, cf, vl', kk, rfl, hfix, hrf, hol⟩
            obtain ⟨f, hf⟩ : ∃ f, f = prounds m N Z b kk := ⟨_, rfl⟩
            obtain ⟨Lf, hLf⟩ : ∃ Lf, Lf = lefts f K := ⟨_, rfl⟩
            rw [← hf] at hrf hfix
            rw [← hf, ← hLf] at hol
            rw [list_zl Lf] at hol
            obtain ⟨fo, fc, hve, hAl⟩ := hol.argL
            subst hve
            obtain ⟨nl, hnl⟩ : ∃ nl, nl = Lf.length := ⟨_, rfl⟩
            rw [← hnl] at hAl ⊢
            have hnlK : nl ≤ K := by rw [hnl, hLf]; exact lefts_len f K
            have G9 : Hid (RowZ gf K f w9 ∧ Arg fo nl fc (fun j => Lf.getD j 0) w9 ∧ RowZ gb K b w9 ∧ RowZ gr K y w9 ∧ MatZ mo m A N C Z w9 ∧ Below w.heap.size w w9) := ⟨hrf, hAl.arg (by omega), HI.out.1.below hb9 HI.out.1.lt', (G6.out.1.below HI.out.2.2 G6.out.1.lt').below hb9 (by have := G6.out.1.lt'; have := HI.out.2.2.size; omega), (G6.out.2.2.2.1.below HI.out.2.2).below hb9, bel_up' G6.out.2.2.2.2 (bel_up' HI.out.2.2 hb9)⟩
            have HM : Hid (Lf = zl nl (fun j => Lf.getD j 0) ∧ (∀ x, x ∈ Lf ↔ 0 ≤ x ∧ x < (K : Int) ∧ f x.toNat = -1) ∧ (∀ p, p < K → (f p = -1 ∧ b p = -1) ∨ (f p = y p ∧ (y p = 0 ∨ y p = 1) ∧ (b p = -1 ∨ b p = y p))) ∧ stopB Lf N Z m = true ∧ (∀ l : List Int, stopB l N Z m = true → (∀ x ∈ l, 0 ≤ x ∧ x < (K : Int) ∧ b x.toNat = -1) → ∀ x ∈ l, x ∈ Lf)) := by
              refine ⟨by rw [hnl]; exact list_zl Lf, fun x => by rw [hLf]; exact lefts_mem K, fun p hp => ?_, ?_, fun l hs hl x hx => ?_⟩
              · rcases prounds_agr G1.out.2.2.2.1 G6.out.2.1 G6.out.2.2.1 HI.out.2.1 kk p hp with h | h
                · exact Or.inl ⟨by rw [hf]; exact h, prounds_less kk h⟩
                · exact Or.inr ⟨by rw [hf]; exact h, G6.out.2.1 p hp, HI.out.2.1 p hp⟩
              · rw [hLf]; exact left_stops G1.out.2.2.2.1 hfix
              · have h1 := stop_keepss G1.out.2.2.2.1 hs (fun x hx => ⟨(hl x hx).1, (hl x hx).2.2⟩) kk x hx
                rw [hLf, lefts_mem]
                exact ⟨(hl x hx).1, (hl x hx).2.1, by rw [hf]; exact h1.2⟩
            clear hrf hAl hfix hol hb9 hf hLf hnl HI HPe
            have HIn : Hid (∀ wx, Below w9.heap.size w9 wx → ∀ x d, Calls Try.prog 11 #[.int .i64 x, .slice fo nl fc] (wx.drewN d) fun e w' => e = .returned (.bool (decide (x ∈ Lf))) ∧ ∃ n, w' = (wx.drewN d).drewN n) := fun wx hb x d => by
              have h := in_any (v := .slice fo nl fc) x (((G9.out.2.1.below hb).sl.slI (cap := fc) (by omega)).drewN d)
              rw [← HM.out.1] at h
              exact h
            have zK : ((K : Int) != (K : Int)) = false := by simp
            go_wp2
            go_loopw [25, 26] (fun vs vi wx => ∃ (i : Nat) (l : List Int), i ≤ K ∧ vi = .int .i64 (i : Nat) ∧ Hid (OwnI w9.heap.size vs l wx ∧ (∀ x ∈ l, 0 ≤ x ∧ x < (K : Int) ∧ b x.toNat = -1) ∧ l.length ≤ i ∧ Below w9.heap.size w9 wx)) (fun _ vi _ => K - (intOf vi).toNat)
            case atStart => exact ⟨0, [], by omega, rfl, OwnI.nil _ _, (fun x hx => by cases hx), Nat.le_refl _, Below.refl _ _⟩
            case round =>
              obtain ⟨i, l, hi, rfl, HJ⟩ := hrel
              rename World => wB
              by_cases hlt : i < K
              · have hib : (i : Int) < (K : Int) := by omega
                have hib0 : (0 : Int) ≤ (i : Int) := by omega
                have hcf := (G9.out.1.below HJ.out.2.2.2 G9.out.1.lt').cell i hlt
                have hcb := (G9.out.2.2.1.below HJ.out.2.2.2 G9.out.2.2.1.lt').cell i hlt
                have hcw := (G9.out.2.2.2.1.below HJ.out.2.2.2 G9.out.2.2.2.1.lt').cell i hlt
                have hszB := HJ.out.2.2.2.size
                have hll := HJ.out.2.2.1
                have HRaw : Hid (∀ wx, Below w.heap.size w wx → Calls Try.prog 12 #[.slice uo un uc, .int .i64 (i : Nat)] wx fun e w' => (∃ x, e = .returned (.int .i64 x) ∧ I64 x) ∧ ∃ k, w' = wx.drewN k) := fun wx hb => raw_any (HA.out.2.2.2.1.below hb) (by omega) i (by omega)
                rcases HM.out.2.2.1 i hlt with ⟨hfi, hbi⟩ | ⟨hfi, hyi, hbi⟩
                · have hmem : (i : Int) ∈ Lf := (HM.out.2.1 _).2 ⟨by omega, by omega, by rw [Int.toNat_natCast]; exact hfi⟩
                  rw [hfi] at hcf
                  rw [hbi] at hcb
                  have HBi : Hid (b i = -1) := hbi
                  have t1 : decide ((-1 : Int) ≥ 0) = false := by decide
                  have t2 : decide ((0 : Int) ≤ -1) = false := by decide
                  have t3 : decide ((-1 : Int) < 0) = true := by decide
                  clear hfi hbi
                  have HI1 : Hid (∀ d, Calls Try.prog 11 #[.int .i64 (i : Nat), .slice fo nl fc] (wB.drewN d) fun e w' => e = .returned (.bool true) ∧ ∃ n, w' = (wB.drewN d).drewN n) := fun d => by
                    have h := HIn.out wB HJ.out.2.2.2 (i : Nat) d
                    rw [decide_eq_true hmem] at h
                    exact h
                  clear hmem
                  go_wp2
                  go_big_quiet (first | (go_at_call 11; exact Calls.quiet_of (HI1.out _)))
                  go_wp2_with fail
                  refine (HRaw.out _ (below_drewN2 (bel_up' G9.out.2.2.2.2.2 HJ.out.2.2.2) _)).mono ?_
                  rintro e wD ⟨⟨x, rfl, hx⟩, kd2, hwD⟩
                  have HD : Hid (OwnI w9.heap.size u25 l wD ∧ Below w9.heap.size w9 wD) := by rw [hwD]; exact ⟨(HJ.out.1.drewN _).drewN _, below_drewN2 (below_drewN2 HJ.out.2.2.2 _) _⟩
                  clear hwD
                  have hszD := HD.out.2.size
                  obtain ⟨M, hM3, hP⟩ := HPi.out x 3 hx (by omega) (by omega)
                  have HP : Hid (∀ w : World, Calls Try.prog 4 #[.int .i64 x, .int .i64 3] w fun e w' => e = .returned (.int .i64 (M : Nat)) ∧ w' = w) := hP
                  clear hP hx
                  go_wp2_with fail
                  refine (HP.out wD).mono ?_
                  rintro e w' ⟨rfl, hw⟩
                  have hw := hw.symm
                  subst hw
                  by_cases hM0 : 0 < M
                  · have hMb : (M : Int) > 0 := by omega
                    have hMb2 : (0 : Int) < (M : Int) := by omega
                    go_wp2_with (at_builtin; refine append_int rfl _ _ rfl w9.heap.size _ l rfl (HD.out.1.alloc _) ⟨_, 0, none⟩ 1 (i : Int) rfl (by simp) (by omega) (by simp; omega) ?_; intro v2 wE hownE hgrowE)
                    have HX : Hid (OwnI w9.heap.size v2 (l ++ [(i : Int)]) wE ∧ (∀ x ∈ l ++ [(i : Int)], 0 ≤ x ∧ x < (K : Int) ∧ b x.toNat = -1) ∧ (l ++ [(i : Int)]).length ≤ i + 1 ∧ Below w9.heap.size w9 wE) := by
                      refine ⟨hownE, fun x hx => ?_, by rw [List.length_append]; show _ + 1 ≤ _; omega, (HD.out.2.alloc hszD _).grown hgrowE (by simp; omega) (fun k hk => (HD.out.1.lt k hk).1)⟩
                      rcases List.mem_append.1 hx with h | h
                      · exact HJ.out.2.1 x h
                      · rw [List.mem_singleton.1 h]
                        exact ⟨by omega, by omega, by rw [Int.toNat_natCast]; exact HBi.out⟩
                    clear hownE hgrowE
                    go_roundw
                    case rel => exact ⟨i + 1, _, by omega, by go_num, HX.out⟩
                    case measure => simp [intOf]; omega
                  · have hMb : ¬ (M : Int) > 0 := by omega
                    have hMb2 : ¬ (0 : Int) < (M : Int) := by omega
                    go_wp2
                    go_roundw
                    case rel => exact ⟨i + 1, l, by omega, by go_num, HD.out.1, HJ.out.2.1, by omega, HD.out.2⟩
                    case measure => simp [intOf]; omega
                · have hmem : ¬ (i : Int) ∈ Lf := fun h => by
                    have h2 := ((HM.out.2.1 _).1 h).2.2
                    rw [Int.toNat_natCast, hfi] at h2
                    rcases hyi with h3 | h3 <;> rw [h3] at h2 <;> cases h2
                  rw [hfi] at hcf
                  obtain ⟨x0, hx0⟩ : ∃ x0 : Nat, y i = (x0 : Int) := ⟨(y i).toNat, by omega⟩
                  rw [hx0] at hcf hcw hbi hyi
                  have hge : (x0 : Int) ≥ 0 := by omega
                  have hge2 : (0 : Int) ≤ (x0 : Int) := by omega
                  have hnl' : ¬ (x0 : Int) < 0 := by omega
                  have hne : ((x0 : Int) != (x0 : Int)) = false := by simp
                  have t3 : decide ((x0 : Int) < 0) = false := decide_eq_false hnl'
                  have t4 : decide ((x0 : Int) ≥ 0) = true := decide_eq_true hge
                  have t5 : decide ((0 : Int) ≤ (x0 : Int)) = true := decide_eq_true hge2
                  clear hfi
                  rcases hbi with hbi | hbi
                  · rw [hbi] at hcb
                    have HBi : Hid (b i = -1) := hbi
                    clear hbi
                    have HI1 : Hid (∀ d, Calls Try.prog 11 #[.int .i64 (i : Nat), .slice fo nl fc] (wB.drewN d) fun e w' => e = .returned (.bool false) ∧ ∃ n, w' = (wB.drewN d).drewN n) := fun d => by
                      have h := HIn.out wB HJ.out.2.2.2 (i : Nat) d
                      rw [decide_eq_false hmem] at h
                      exact h
                    clear hmem
                    go_wp2
                    go_big_quiet (first | (go_at_call 11; exact Calls.quiet_of (HI1.out _)))
                    go_wp2_with fail
                    refine (HRaw.out _ (below_drewN2 (bel_up' G9.out.2.2.2.2.2 HJ.out.2.2.2) _)).mono ?_
                    rintro e wD ⟨⟨x, rfl, hx⟩, kd2, hwD⟩
                    have HD : Hid (OwnI w9.heap.size u25 l wD ∧ Below w9.heap.size w9 wD) := by rw [hwD]; exact ⟨(HJ.out.1.drewN _).drewN _, below_drewN2 (below_drewN2 HJ.out.2.2.2 _) _⟩
                    clear hwD
                    have hszD := HD.out.2.size
                    obtain ⟨M, hM3, hP⟩ := HPi.out x 3 hx (by omega) (by omega)
                    have HP : Hid (∀ w : World, Calls Try.prog 4 #[.int .i64 x, .int .i64 3] w fun e w' => e = .returned (.int .i64 (M : Nat)) ∧ w' = w) := hP
                    clear hP hx
                    go_wp2_with fail
                    refine (HP.out wD).mono ?_
                    rintro e w' ⟨rfl, hw⟩
                    have hw := hw.symm
                    subst hw
                    by_cases hM0 : 0 < M
                    · have hMb : (M : Int) > 0 := by omega
                      have hMb2 : (0 : Int) < (M : Int) := by omega
                      go_wp2_with (at_builtin; refine append_int rfl _ _ rfl w9.heap.size _ l rfl (HD.out.1.alloc _) ⟨_, 0, none⟩ 1 (i : Int) rfl (by simp) (by omega) (by simp; omega) ?_; intro v2 wE hownE hgrowE)
                      have HX : Hid (OwnI w9.heap.size v2 (l ++ [(i : Int)]) wE ∧ (∀ x ∈ l ++ [(i : Int)], 0 ≤ x ∧ x < (K : Int) ∧ b x.toNat = -1) ∧ (l ++ [(i : Int)]).length ≤ i + 1 ∧ Below w9.heap.size w9 wE) := by
                        refine ⟨hownE, fun x hx => ?_, by rw [List.length_append]; show _ + 1 ≤ _; omega, (HD.out.2.alloc hszD _).grown hgrowE (by simp; omega) (fun k hk => (HD.out.1.lt k hk).1)⟩
                        rcases List.mem_append.1 hx with h | h
                        · exact HJ.out.2.1 x h
                        · rw [List.mem_singleton.1 h]
                          exact ⟨by omega, by omega, by rw [Int.toNat_natCast]; exact HBi.out⟩
                      clear hownE hgrowE
                      go_roundw
                      case rel => exact ⟨i + 1, _, by omega, by go_num, HX.out⟩
                      case measure => simp [intOf]; omega
                    · have hMb : ¬ (M : Int) > 0 := by omega
                      have hMb2 : ¬ (0 : Int) < (M : Int) := by omega
                      go_wp2
                      go_roundw
                      case rel => exact ⟨i + 1, l, by omega, by go_num, HD.out.1, HJ.out.2.1, by omega, HD.out.2⟩
                      case measure => simp [intOf]; omega
                  · rw [hbi] at hcb
                    clear hbi
                    have HI1 : Hid (∀ d, Calls Try.prog 11 #[.int .i64 (i : Nat), .slice fo nl fc] (wB.drewN d) fun e w' => e = .returned (.bool false) ∧ ∃ n, w' = (wB.drewN d).drewN n) := fun d => by
                      have h := HIn.out wB HJ.out.2.2.2 (i : Nat) d
                      rw [decide_eq_false hmem] at h
                      exact h
                    clear hmem
                    go_wp2
                    go_big_quiet (first | (go_at_call 11; exact Calls.quiet_of (HI1.out _)))
                    go_wp2
                    go_roundw
                    case rel => exact ⟨i + 1, l, by omega, by go_num, HJ.out.1.drewN _, HJ.out.2.1, by omega, below_drewN2 HJ.out.2.2.2 _⟩
                    case measure => simp [intOf]; omega
              · have hib : ¬ (i : Int) < (K : Int) := by omega
                have hie : K = i := by omega
                subst hie
                obtain ⟨S, hS⟩ : ∃ S, S = fun j => l.getD j 0 := ⟨_, rfl⟩
                have hown := HJ.out.1
                rw [list_zl l] at hown
                obtain ⟨so, sc, hve, hAs⟩ := hown.argL
                subst hve
                obtain ⟨ls, hls⟩ : ∃ ls, ls = l.length := ⟨_, rfl⟩
                rw [← hls, ← hS] at hAs
                rw [← hls]
                obtain ⟨isB, hisB⟩ : ∃ isB, isB = stopB l N Z m := ⟨_, rfl⟩
                have hlsK : ls ≤ K := by rw [hls]; exact HJ.out.2.2.1
                have GS : Hid (Arg so ls sc S wB ∧ l = zl ls S ∧ Below w9.heap.size w9 wB ∧ (isB = true → ∀ j, j < ls → S j ∈ Lf)) := by
                  refine ⟨hAs.arg (by omega), by rw [hS, hls]; exact list_zl l, HJ.out.2.2.2, fun ht j hj => ?_⟩
                  refine HM.out.2.2.2.2 l (by rw [← hisB]; exact ht) HJ.out.2.1 _ ?_
                  rw [hS]
                  show l.getD j 0 ∈ l
                  rw [List.getD_eq_getElem?_getD, List.getElem?_eq_getElem (by omega)]; exact List.getElem_mem _
                have HS1 : Hid (Calls Try.prog 13 #[.int .i64 (K : Nat), .slice mo m mc, .slice fo nl fc] wB fun e w' => e = .returned (.tuple #[.bool true, .int .i64 0]) ∧ Below wB.heap.size wB w') := by
                  have h := sstops_any (cs := fc) (ca := mc) (G9.out.2.2.2.2.1.below HJ.out.2.2.2) (G9.out.2.1.below HJ.out.2.2.2).sl (by omega) G1.out.2.2.2.2.2 G1.out.2.2.2.2.1
                  have ha : allP (isp K) (fun j => Lf.getD j 0) nl = true := allP_of nl (fun j hj => by
                    have hm : Lf.getD j 0 ∈ Lf := by
                      have e := HM.out.1
                      have hl : nl = Lf.length := by rw [e, zl_len]
                      rw [List.getD_eq_getElem?_getD, List.getElem?_eq_getElem (by omega)]; exact List.getElem_mem _
                    have := (HM.out.2.1 _).1 hm
                    exact decide_eq_true ⟨this.1, this.2.1⟩)
                  rw [← HM.out.1, ha, HM.out.2.2.2.1] at h
                  exact h
                have HS2 : Hid (∀ wx, Below wB.heap.size wB wx → Calls Try.prog 13 #[.int .i64 (K : Nat), .slice mo m mc, .slice so ls sc] wx fun e w' => e = .returned (.tuple #[.bool isB, .int .i64 0]) ∧ Below wx.heap.size wx w') := fun wx hx => by
                  have h := sstops_any (cs := sc) (ca := mc) ((G9.out.2.2.2.2.1.below HJ.out.2.2.2).below hx) (GS.out.1.below hx).sl (by omega) G1.out.2.2.2.2.2 G1.out.2.2.2.2.1
                  have ha : allP (isp K) S ls = true := allP_of ls (fun j hj => by
                    have hm : S j ∈ l := by
                      rw [hS]
                      show l.getD j 0 ∈ l
                      rw [List.getD_eq_getElem?_getD, List.getElem?_eq_getElem (by omega)]; exact List.getElem_mem _
                    have := HJ.out.2.1 _ hm
                    exact decide_eq_true ⟨this.1, this.2.1⟩)
                  rw [← GS.out.2.1, ha, ← hisB] at h
                  exact h
                have HFl : Hid (∀ wx, Below wB.heap.size wB wx → Calls Try.prog 14 #[.int .i64 (K : Nat), .slice mo m mc, .slice (some ⟨gr, 0, none⟩) K c, .int .i64 9] wx fun e w' => ∃ g c r, e = .returned (.tuple #[.slice (some ⟨g, 0, none⟩) K c, .bool true, .int .i64 (r : Nat), .int .i64 0]) ∧ RowZ g K y w' ∧ RowZ gr K y w' ∧ Below wx.heap.size wx w') := fun wx hx => by
                  have hry := (G9.out.2.2.2.1.below HJ.out.2.2.2 G9.out.2.2.2.1.lt').below hx (by have := G9.out.2.2.2.1.lt'; have := HJ.out.2.2.2.size; omega)
                  have hbt : bchk isbt K y (K : Nat) = 0 := by
                    unfold bchk
                    rw [if_neg (fun h => h rfl), if_pos]
                    refine allP_of K (fun p hp => ?_)
                    unfold isbt
                    rw [decide_eq_true_eq]; exact G6.out.2.1 p hp
                  refine (sflip_ok (most := 9) ((G9.out.2.2.2.2.1.below HJ.out.2.2.2).below hx) hry.slz hry.lt' G1.out.2.2.2.2.2 G1.out.2.2.2.2.1 hbt (by omega)).mono ?_
                  rintro e w' ⟨hb', g, c', r, rfl, ht, hrz⟩
                  have h0 : odds N Z y m = [] := odds_none G6.out.2.2.1
                  have ht0 : Tend K m N Z y 9 0 := ⟨by omega, fun j hj => absurd hj (by omega), Or.inl h0⟩
                  have hr0 : r = 0 := tend_one ht ht0
                  subst hr0
                  have e0 : trounds K m N Z y 0 = y := rfl
                  rw [e0] at hrz ⊢
                  exact ⟨g, c', 0, by rw [h0]; rfl, hrz, hry.below hb' hry.lt', hb'⟩
                clear hown hAs hS hisB hls HJ
                go_wp2_with fail
                refine HS1.out.mono ?_
                rintro e w10 ⟨rfl, hb10⟩
                have B10 : Hid (Below wB.heap.size wB w10) := hb10
                clear hb10
                go_wp2_with fail
                refine (HS2.out w10 B10.out).mono ?_
                rintro e w11 ⟨rfl, hb11⟩
                have B11 : Hid (Below wB.heap.size wB w11) := bel_up' B10.out hb11
                clear hb11
                go_wp2
                go_loopw [30] (fun vi wx => ∃ i : Nat, i ≤ ls ∧ vi = .int .i64 (i : Nat) ∧ Hid (Below wB.heap.size wB wx)) (fun vi _ => ls - (intOf vi).toNat)
                case atStart => exact ⟨0, by omega, rfl, B11.out⟩
                case round =>
                  obtain ⟨i, hi, rfl, HQ⟩ := hrel
                  rename World => wE
                  by_cases hgo : i < ls ∧ isB = true
                  · obtain ⟨hlt, hisb⟩ := hgo
                    have hib : (i : Int) < (ls : Int) := by omega
                    have hib0 : (0 : Int) ≤ (i : Int) := by omega
                    obtain ⟨bs, os, rfl, hcs⟩ := (GS.out.1.below HQ.out).sl i hlt
                    have hmem := GS.out.2.2.2 hisb i hlt
                    subst hisb
                    have HI2 : Hid (Calls Try.prog 11 #[.int .i64 (S i), .slice fo nl fc] wE fun e w' => e = .returned (.bool true) ∧ ∃ n, w' = wE.drewN n) := by
                      have h := HIn.out wE (bel_up' GS.out.2.2.1 HQ.out) (S i) 0
                      rw [decide_eq_true hmem] at h
                      exact h
                    obtain ⟨x, hx⟩ : ∃ x, x = S i := ⟨_, rfl⟩
                    rw [← hx] at hcs HI2
                    clear hx hmem
                    go_wp2_with fail
                    refine HI2.out.mono ?_
                    rintro e w' ⟨rfl, d, hw'⟩
                    have HQ2 : Hid (Below wB.heap.size wB w') := by rw [hw']; exact below_drewN2 HQ.out d
                    clear hw'
                    go_wp2
                    go_roundw
                    case rel => exact ⟨i + 1, by omega, by go_num, HQ2.out⟩
                    case measure => simp [intOf]; omega
                  · have tail : True := trivial
                    clear tail
                    by_cases hlt : i < ls
                    · have hisb : isB = false := Bool.eq_false_iff.2 (fun h => hgo ⟨hlt, h⟩)
                      have hib : (i : Int) < (ls : Int) := by omega
                      subst hisb
                      clear hgo
                      go_wp2_with fail
                      refine (HFl.out wE HQ.out).mono ?_
                      rintro e wF ⟨gx, cx, r, rfl, hrx, hry, hbF⟩
                      have HSa : Hid (Calls Try.prog 15 #[.slice (some ⟨gx, 0, none⟩) K cx, .slice (some ⟨gr, 0, none⟩) K c] wF fun e w' => e = .returned (.bool true) ∧ ∃ n, w' = wF.drewN n) := by
                        refine (same_any (hrx.sliceI hK1 (by omega)) (hry.sliceI hK1 (by omega))).mono ?_
                        rintro r w' ⟨rfl, h⟩
                        exact ⟨by rw [decide_eq_true rfl], h⟩
                      have BF : Hid (Below w.heap.size w wF) := bel_up' G9.out.2.2.2.2.2 (bel_up' GS.out.2.2.1 (bel_up' HQ.out hbF))
                      clear hrx hry hbF
                      go_wp2_with fail
                      refine HSa.out.mono ?_
                      rintro e wG ⟨rfl, d, hwG⟩
                      have BG : Hid (Below w.heap.size w wG) := by rw [hwG]; exact below_drewN2 BF.out d
                      clear hwG
                      go_wp2
                      go_ret
                      exact ⟨rfl, BG.out⟩
                    · have hib : ¬ (i : Int) < (ls : Int) := by omega
                      clear hgo
                      go_wp2_with fail
                      refine (HFl.out wE HQ.out).mono ?_
                      rintro e wF ⟨gx, cx, r, rfl, hrx, hry, hbF⟩
                      have HSa : Hid (Calls Try.prog 15 #[.slice (some ⟨gx, 0, none⟩) K cx, .slice (some ⟨gr, 0, none⟩) K c] wF fun e w' => e = .returned (.bool true) ∧ ∃ n, w' = wF.drewN n) := by
                        refine (same_any (hrx.sliceI hK1 (by omega)) (hry.sliceI hK1 (by omega))).mono ?_
                        rintro r w' ⟨rfl, h⟩
                        exact ⟨by rw [decide_eq_true rfl], h⟩
                      have BF : Hid (Below w.heap.size w wF) := bel_up' G9.out.2.2.2.2.2 (bel_up' GS.out.2.2.1 (bel_up' HQ.out hbF))
                      clear hrx hry hbF
                      go_wp2_with fail
                      refine HSa.out.mono ?_
                      rintro e wG ⟨rfl, d, hwG⟩
                      have BG : Hid (Below w.heap.size w wG) := by rw [hwG]; exact below_drewN2 BF.out d
                      clear hwG
                      go_wp2
                      go_ret
                      exact ⟨rfl, BG.out⟩
end Go.Proofs.Ytjkncdmbcckcdab
