/- Texts of ours, one behind the other: KD3 KD4 KD5. -/
import Derived.Test.YtnjbnamcedfjaaaGreatZKD2
import Derived.Test.YtnjbnamcedfjaaaGreatZV7
import Derived.Test.YtnjbnamcedfjaaaGreatZX19
import Derived.Test.YtnjbnamcedfjaaaGreatZU22
/- The program's reed: noughtAt. -/
namespace Go.Proofs.YtnjbnamcedfjaaaGreat
open Go.RowKit Go.Sort

/-- The polynomial that is 0 at the first i places. -/
def nal (D : FD) (c : Nat → Nat) (i : Nat) : Nat → Nat := elc D (fun _ => true) c i
theorem ct_true : ∀ i, ct (fun _ => true) i = i
  | 0 => rfl
  | i + 1 => by show ct (fun _ => true) i + 1 = _; rw [ct_true i]
theorem nal_ok {D : FD} (F : Fld D) {c : Nat → Nat} {n : Nat} (hc : ∀ i, i < n → c i < D.q) (i : Nat) (hi : i ≤ n) : El D (nal D c i) ∧ Bd (i + 1) (nal D c i) ∧ nal D c i i = 1 ∧ ∀ j, j < i → D.ev (nal D c i) (c j) (i + 1) = 0 := by
  have h := elc_ok F (err := fun _ => true) hc i hi
  rw [ct_true] at h
  exact ⟨h.1, h.2.1, h.2.2.1, fun j hj => h.2.2.2 j hj rfl⟩
theorem nal_succ {D : FD} (F : Fld D) {c : Nat → Nat} {n : Nat} (hc : ∀ i, i < n → c i < D.q) {i : Nat} (hi : i < n) : pmul D (i + 1) (nal D c i) (xmr D (c i)) = nal D c (i + 1) := by
  obtain ⟨h1, h2, _, _⟩ := nal_ok F hc i (by omega)
  rw [pmul_comm F h1 (xmr_el F (hc i hi)) h2 (xmr_bd _)]
  show pmul D 2 (xmr D (c i)) (elc D (fun _ => true) c i) = if true = true then pmul D 2 (xmr D (c i)) (elc D (fun _ => true) c i) else elc D (fun _ => true) c i
  rw [if_pos rfl]
theorem duo_cell (w : World) (v u : Value) : (w.alloc (.cells #[v, u] 3)).cell? ⟨w.heap.size, 0, none⟩ = some v ∧ (w.alloc (.cells #[v, u] 3)).cell? ⟨w.heap.size, 1, none⟩ = some u := ⟨by simp, by simp⟩
def NaI (D : FD) (n : Nat) (c : Nat → Nat) (w : World) (vo vi : Value) (wr : World) : Prop := ∃ (i : Nat) (ao : Option Addr) (ca : Nat), i ≤ n ∧ vo = .slice ao (i + 1 : Nat) ca ∧ vi = .int .i64 (i : Nat) ∧ Hid (Arg ao (i + 1) ca (fun j => ((nal D c i j : Nat) : Int)) wr ∧ Below w.heap.size w wr)

set_option maxHeartbeats 4000000 in
set_option maxRecDepth 100000 in
theorem noughtAt_any {F T : Nat} {D : FD} (hD : D ∈ fieldsL) {g : Nat → Value} {w : World} (hat : FAt F T D g w) {xo : Option Addr} {n cx : Nat} {c : Nat → Nat} (hX : Sl xo n c w) (hlx : LtB xo w.heap.size) (hc : ∀ i, i < n → c i < D.q) (hn : n ≤ 64) :
    Calls Tryz.prog 67 #[.pointer (some ⟨F, 0, none⟩), .slice xo n cx] w fun e w' => ∃ ao ca, e = .returned (.slice ao (n + 1 : Nat) ca) ∧ Arg ao (n + 1) ca (fun j => ((nal D c n j : Nat) : Int)) w' ∧ Below w.heap.size w w' := by
  have HF : Hid (FAt F T D g w ∧ D ∈ fieldsL ∧ Sl xo n c w ∧ LtB xo w.heap.size ∧ ∀ i, i < n → c i < D.q) := ⟨hat, hD, hX, hlx, hc⟩
  obtain ⟨w0, hw0⟩ : ∃ w0, w0 = w.alloc (.cells #[.int .i64 1] 3) := ⟨_, rfl⟩
  have H0 : Hid (Arg (some ⟨w.heap.size, 0, none⟩) 1 1 (fun j => ((nal D c 0 j : Nat) : Int)) w0 ∧ Below w.heap.size w w0) := by
    rw [hw0]
    refine ⟨⟨fun j hj => ⟨w.heap.size, 0, rfl, ?_⟩, fun x hx => by cases hx; simp, by omega, fun e => (by cases e), by omega, by omega⟩, (Below.refl _ _).alloc (Nat.le_refl _) _⟩
    have : j = 0 := by omega
    subst this
    show (w.alloc (.cells #[.int .i64 1] 3)).cell? ⟨w.heap.size, 0, none⟩ = some (Value.int .i64 ((1 : Nat) : Int))
    exact two_cell w _
  clear hat hD hX hlx hc
  go_enter Tryz.func67, Tryz.ntmps67
  go_wp2
  rw [← hw0]
  clear hw0
  go_loopw [5, 11] (fun vo vi wr => NaI D n c w vo vi wr) (fun _ vi _ => n - (intOf vi).toNat)
  case atStart => exact ⟨0, _, _, by omega, rfl, rfl, H0.out⟩
  case round =>
    obtain ⟨i, ao, ca, hi, rfl, rfl, HI⟩ := hrel
    rename World => wr
    clear H0
    by_cases hlt : i < n
    · have hib : (i : Int) < (n : Int) := by omega
      have hi0 : (0 : Int) ≤ (i : Int) := by omega
      obtain ⟨bx, ox, hxo, cx0⟩ := (HF.out.2.2.1.below HI.out.2 HF.out.2.2.2.1) i hlt
      subst hxo
      obtain ⟨x, hx⟩ : ∃ x, x = c i := ⟨_, rfl⟩
      rw [← hx] at cx0
      have hatr := HF.out.1.below HI.out.2 HF.out.1.ltF HF.out.1.ltT
      have HS : Hid (Calls Tryz.prog 65 #[.pointer (some ⟨F, 0, none⟩)] wr fun e w' => e = .returned (.int .i64 D.q) ∧ w' = wr) := size_any hatr
      have hxq : x < D.q := by rw [hx]; exact HF.out.2.2.2.2 i hlt
      have HNg : Hid (Calls Tryz.prog 82 #[.pointer (some ⟨F, 0, none⟩), .int .i64 (x : Nat)] wr fun e w' => e = .returned (.int .i64 (D.ng x : Nat)) ∧ ∃ n, w' = wr.drewN n) := neg_nat HF.out.2.1 hatr hxq
      have HX : Hid (x = c i ∧ x < D.q) := ⟨hx, hxq⟩
      clear hx hatr hxq
      go_wp2_with fail
      refine HS.out.mono ?_
      rintro e w' ⟨rfl, hw⟩
      have hw := hw.symm
      subst hw
      go_wp2_with fail
      refine HNg.out.mono ?_
      rintro e w2 ⟨rfl, d, rfl⟩
      obtain ⟨w3, hw3⟩ : ∃ w3, w3 = (wr.drewN d).alloc (.cells #[.int .i64 (D.ng x : Nat), .int .i64 1] 3) := ⟨_, rfl⟩
      have H3 : Hid (Below wr.heap.size wr w3 ∧ Arg (some ⟨wr.heap.size, 0, none⟩) 2 2 (fun j => ((xmr D x j : Nat) : Int)) w3) := by
        rw [hw3]
        refine ⟨(below_drewN2 (Below.refl _ _) d).alloc (Nat.le_refl _) _, fun j hj => ⟨wr.heap.size, 0, rfl, ?_⟩, fun y hy => by cases hy; simp, by omega, fun e => (by cases e), by omega, by omega⟩
        have : j = 0 ∨ j = 1 := by omega
        rcases this with rfl | rfl
        · exact (duo_cell (wr.drewN d) _ _).1
        · exact (duo_cell (wr.drewN d) _ _).2
      have HM : Hid (Calls Tryz.prog 70 #[.int .i64 D.q, .slice ao (i + 1 : Nat) ca, .slice (some ⟨wr.heap.size, 0, none⟩) 2 2] w3 fun e w' => ∃ mo mc, e = .returned (.tuple #[.slice mo (i + 1 + 1 : Nat) mc, .int .i64 0]) ∧ Arg mo (i + 1 + 1) mc (fun j => ((nal D c (i + 1) j : Nat) : Int)) w' ∧ Below w3.heap.size w3 w') := by
        have F' := fld HF.out.2.1
        obtain ⟨n1, n2, n3, _⟩ := nal_ok F' HF.out.2.2.2.2 i hi
        obtain ⟨m1, m2, m3, _⟩ := nal_ok F' HF.out.2.2.2.2 (i + 1) (by omega)
        have hxe := xmr_el F' HX.out.2
        have z1 : zc (i + 1) (fun j => ((nal D c i j : Nat) : Int)) = nal D c i := zc_nat n2
        have z2 : zc 2 (fun j => ((xmr D x j : Nat) : Int)) = xmr D x := zc_nat (xmr_bd x)
        have hck : D.chk2 (i + 1) (fun j => ((nal D c i j : Nat) : Int)) 2 (fun j => ((xmr D x j : Nat) : Int)) = 0 := by
          unfold FD.chk2
          rw [if_pos (chk_nat n1 (by omega))]
          exact chk_nat hxe (by omega)
        have d1 : dgn (nal D c i) (i + 1) = i + 1 := dgn_self (fun _ => by rw [Nat.add_sub_cancel, n3]; omega)
        have d2 : dgn (xmr D x) 2 = 2 := dgn_self (fun _ => by show xmr D x 1 ≠ 0; unfold xmr; simp)
        have hp : pmul D (i + 1) (nal D c i) (xmr D x) = nal D c (i + 1) := by rw [HX.out.1]; exact nal_succ F' HF.out.2.2.2.2 hlt
        refine (pmul_any HF.out.2.1 (HI.out.1.below H3.out.1) H3.out.2).mono ?_
        rw [z1, z2, d1, d2, hp]
        rintro e w' ⟨hb', ⟨_, _, v, rfl, hv⟩ | ⟨_, hbad, _⟩ | ⟨hbad, _⟩⟩
        · have d3 : dgn (nal D c (i + 1)) (i + 1 + 2) = i + 1 + 1 := dgn_is (m2.mono (by omega)) m2 (fun _ => by rw [Nat.add_sub_cancel, m3]; omega)
          rw [d3] at hv
          obtain ⟨mo, mc, rfl, hA⟩ := hv.arg (by omega)
          exact ⟨mo, mc, rfl, hA, hb'⟩
        · omega
        · exact absurd hck hbad
      go_wp2_with fail
      rw [← hw3]
      clear hw3
      refine HM.out.mono ?_
      rintro e w4 ⟨mo, mc, rfl, hA4, hb4⟩
      have H4 : Hid (Arg mo (i + 1 + 1) mc (fun j => ((nal D c (i + 1) j : Nat) : Int)) w4 ∧ Below w.heap.size w w4) := ⟨hA4, bel_up' (bel_up' HI.out.2 H3.out.1) hb4⟩
      clear hA4 hb4
      go_wp2
      go_roundw
      case rel => exact ⟨i + 1, mo, mc, by omega, rfl, by go_num, H4.out⟩
      case measure => simp [intOf]; omega
    · have hib : ¬ (i : Int) < (n : Int) := by omega
      have hie : i = n := by omega
      subst hie
      go_wp2
      go_ret
      exact ⟨ao, ca, rfl, HI.out.1, HI.out.2⟩
end Go.Proofs.YtnjbnamcedfjaaaGreat

/- The program's reed: byDivisors. -/
namespace Go.Proofs.YtnjbnamcedfjaaaGreat
open Go.RowKit Go.Sort

theorem quo_len {D : FD} (hD : D ∈ fieldsL) {A B : Nat → Nat} {lA lB : Nat} (eA : El D A) (eB : El D B) (tA : Trd lA A) (tB : Trd lB B) (h0 : lB ≠ 0) (hl : lB ≤ lA) :
    El D (D.quo A lA B lB) ∧ Trd (lA - lB + 1) (D.quo A lA B lB) ∧ El D (D.rst A lA B lB) ∧ Trd (dgn (D.rst A lA B lB) lA) (D.rst A lA B lB) ∧ dgn (D.rst A lA B lB) lA < lB ∧ A = padd D (pmul D (lA - lB + 1) (D.quo A lA B lB) B) (D.rst A lA B lB) ∧ dgn (D.quo A lA B lB) (lA - (dgn B lB - 1)) = lA - lB + 1 := by
  have F := fld hD
  have dB : dgn B lB = lB := dgn_self tB.2
  obtain ⟨l, hl'⟩ : ∃ l, lB = l + 1 := ⟨lB - 1, by omega⟩
  have hb : Bd (l + 1) B := by rw [← hl']; exact tB.1
  have ht : B l ≠ 0 := by have := tB.2 h0; rwa [hl', Nat.add_sub_cancel] at this
  have hi : D.mul (B l) (D.iv (B l)) = 1 := iv_is hD (eB l) ht
  unfold FD.quo FD.rst
  rw [dB, hl', Nat.add_sub_cancel]
  obtain ⟨m, hm⟩ : ∃ m, lA = m + 1 + l := ⟨lA - (l + 1), by omega⟩
  rw [show lA - l = m + 1 by omega, show lA - (l + 1) + 1 = m + 1 by omega]
  have i := div_is F (b := B) (l := l) (inv := D.iv (B l)) (m + 1) eA
  have hR : Bd l (divR D B l (D.iv (B l)) (m + 1) A) := divR_bd F eB hb hi (m + 1) eA (by rw [← hm]; exact tA.1)
  have hQb := divQ_bd (D := D) (b := B) (l := l) (inv := D.iv (B l)) (m + 1) A
  have htop : divQ D B l (D.iv (B l)) (m + 1) A m ≠ 0 := fun hz => by
    have h1 := congrFun i (m + l)
    have h2 : D.ad (pmul D (m + 1) (divQ D B l (D.iv (B l)) (m + 1) A) B (m + l)) (divR D B l (D.iv (B l)) (m + 1) A (m + l)) = A (m + l) := h1
    rw [pmul_top F hb, hz, zmul F, hR (m + l) (by omega), ad_zero F (zero_lt' F)] at h2
    have := tA.2 (by omega)
    rw [show lA - 1 = m + l by omega] at this
    exact this h2.symm
  have tQ : Trd (m + 1) (divQ D B l (D.iv (B l)) (m + 1) A) := ⟨hQb, fun _ => by rw [Nat.add_sub_cancel]; exact htop⟩
  have hRl : dgn (divR D B l (D.iv (B l)) (m + 1) A) lA ≤ l := by
    have := dgn_from hR (show l ≤ lA by omega)
    rw [this]; exact dgn_le _ _
  exact ⟨el_divQ F _ _, tQ, el_divR F _ eA, trd_dgn (hR.mono (by omega)), by omega, i.symm, dgn_self tQ.2⟩

/-- What a way to mend tells. -/
def FindP (D : FD) (n k : Nat) (xs y : Nat → Nat) (w : World) (e : Ending) (w' : World) : Prop := Below w.heap.size w w' ∧ ∃ v ok lf f, e = .returned (.tuple #[v, .bool ok]) ∧ OwnP w.heap.size v lf f w' ∧ El D f ∧ Trd lf f ∧ lf ≤ 128 ∧ ∀ a, El D a → Bd k a → 2 * ofs D k n xs y a ≤ n - k → ok = true ∧ f = a
def DvI (D : FD) (n k : Nat) (xs y : Nat → Nat) (w : World) (va vb vs vt : Value) (wr : World) : Prop := ∃ (ao bo so tt : Option Addr) (ca cb cs ct' lA lB lS lT : Nat) (A B S T : Nat → Nat), va = .slice ao lA ca ∧ vb = .slice bo lB cb ∧ vs = .slice so lS cs ∧ vt = .slice tt lT ct' ∧ lA ≤ 65 ∧ lT ≤ 65 ∧ n + k + 2 ≤ 2 * lA ∧ Hid (Arg ao lA ca (fun j => ((A j : Nat) : Int)) wr ∧ Arg bo lB cb (fun j => ((B j : Nat) : Int)) wr ∧ Arg so lS cs (fun j => ((S j : Nat) : Int)) wr ∧ Arg tt lT ct' (fun j => ((T j : Nat) : Int)) wr) ∧ Hid (Euc D n xs y A B S T lA lB lS lT ∧ Below w.heap.size w wr)
theorem quo_short {D : FD} (hD : D ∈ fieldsL) (A B : Nat → Nat) (lA lB : Nat) : El D (D.quo A lA B lB) ∧ Bd (lA - (dgn B lB - 1)) (D.quo A lA B lB) := by
  unfold FD.quo
  exact ⟨el_divQ (fld hD) _ _, divQ_bd _ _⟩
end Go.Proofs.YtnjbnamcedfjaaaGreat

/- The program's reed: the walk of byDivisors. -/
namespace Go.Proofs.YtnjbnamcedfjaaaGreat
open Go.RowKit Go.Sort

/-- How long a list is. -/
def slen : Value → Nat
  | .slice _ n _ => n
  | _ => 0
theorem dgn_nil : ∀ n, dgn pnil n = 0
  | 0 => rfl
  | n + 1 => by
    show (if pnil n = 0 then dgn pnil n else n + 1) = 0
    rw [if_pos (show pnil n = 0 from rfl), dgn_nil n]
set_option maxHeartbeats 8000000 in
set_option maxRecDepth 100000 in
theorem byDivisors_any {F T : Nat} {D : FD} (hD : D ∈ fieldsL) {g : Nat → Value} {w : World} (hat : FAt F T D g w) {xo yo : Option Addr} {n k xc yc : Nat} {xs y : Nat → Nat} (hX : Arg xo n xc (fun j => ((xs j : Nat) : Int)) w) (hY : Arg yo n yc (fun j => ((y j : Nat) : Int)) w) (hn : n ≤ 64) (hk1 : 1 ≤ k) (hk : k ≤ n) (hx : ∀ i, i < n → xs i < D.q) (hne : ∀ i j, i < n → j < n → i ≠ j → xs i ≠ xs j) (hy : ∀ i, i < n → y i < D.q) :
    Calls Tryz.prog 49 #[.agg #[.pointer (some ⟨F, 0, none⟩), .int .i64 (k : Nat), .slice xo n xc, .slice yo n yc]] w (FindP D n k xs y w) := by
  obtain ⟨w0, hw0⟩ : ∃ w0, w0 = w.alloc (.cells #[.pointer (some ⟨F, 0, none⟩), .int .i64 (k : Nat), .slice xo n xc, .slice yo n yc] 80) := ⟨_, rfl⟩
  have hb0 : Below w.heap.size w w0 := by rw [hw0]; exact (Below.refl _ _).alloc (Nat.le_refl _) _
  have hs0 : w0.heap.size = w.heap.size + 1 := by rw [hw0]; simp
  have r0 : RowF w.heap.size 4 80 (hbx' #[.pointer (some ⟨F, 0, none⟩), .int .i64 (k : Nat), .slice xo n xc, .slice yo n yc]) w0 := by rw [hw0]; exact rowF_new _ _ _ _ rfl
  have HBx : Hid (∀ wx, Below w0.heap.size w0 wx → wx.cell? ⟨w.heap.size, 0, none⟩ = some (.pointer (some ⟨F, 0, none⟩)) ∧ wx.cell? ⟨w.heap.size, 1, none⟩ = some (.int .i64 (k : Nat)) ∧ wx.cell? ⟨w.heap.size, 2, none⟩ = some (.slice xo n xc) ∧ wx.cell? ⟨w.heap.size, 3, none⟩ = some (.slice yo n yc)) := fun wx hb => by
    have h := r0.below hb (by omega)
    exact ⟨h.cell 0 (by omega), h.cell 1 (by omega), h.cell 2 (by omega), h.cell 3 (by omega)⟩
  have HF : Hid (D ∈ fieldsL ∧ FAt F T D g w0 ∧ Arg xo n xc (fun j => ((xs j : Nat) : Int)) w0 ∧ Arg yo n yc (fun j => ((y j : Nat) : Int)) w0 ∧ Below w.heap.size w w0) := ⟨hD, hat.below hb0 hat.ltF hat.ltT, hX.below hb0, hY.below hb0, hb0⟩
  have HX : Hid ((∀ i, i < n → xs i < D.q) ∧ (∀ i j, i < n → j < n → i ≠ j → xs i ≠ xs j) ∧ ∀ i, i < n → y i < D.q) := ⟨hx, hne, hy⟩
  have HFt : Hid (∀ wx, Below w0.heap.size w0 wx → FAt F T D g wx) := fun wx hb => HF.out.2.1.below hb HF.out.2.1.ltF HF.out.2.1.ltT
  clear hD hat hX hY hb0 r0 hx hne hy
  obtain ⟨b0, b1, b2, b3⟩ := HBx.out w0 (Below.refl _ _)
  go_enter Tryz.func49, Tryz.ntmps49
  go_wp2_with fail
  rw [← hw0]
  refine (size_any (HFt.out w0 (Below.refl _ _))).mono ?_
  rintro e w' ⟨rfl, hw⟩
  have hw := hw.symm
  subst hw
  clear hw0
  have hl0 : w.heap.size < w0.heap.size := by omega
  go_wp2_with fail
  refine (noughtAt_any HF.out.1 (HFt.out w0 (Below.refl _ _)) HF.out.2.2.1.sl HF.out.2.2.1.lt HX.out.1 hn).mono ?_
  rintro e w1 ⟨ao, ca, rfl, hA1, hb1⟩
  have H1 : Hid (Below w0.heap.size w0 w1 ∧ Arg ao (n + 1) ca (fun j => ((nal D xs n j : Nat) : Int)) w1) := ⟨hb1, hA1⟩
  obtain ⟨b0, b1, b2, b3⟩ := HBx.out w1 hb1
  clear hA1 hb1
  go_wp2_with fail
  have HTh : Hid (Calls Tryz.prog 68 #[.int .i64 D.q, .slice xo n xc, .slice yo n yc] w1 fun e w' => Below w1.heap.size w1 w' ∧ ∃ v lo co, e = .returned (.tuple #[v, .int .i64 0]) ∧ OwnP w1.heap.size v lo co w' ∧ lo ≤ n ∧ El D co ∧ Trd lo co ∧ ∀ j, j < n → D.vl co (xs j) = y j) := by
    have F' := fld HF.out.1
    have hcx : D.chk n (fun j => ((xs j : Nat) : Int)) = 0 := by
      unfold FD.chk
      rw [if_neg (by omega), if_pos (allHas_iff.2 (fun j hj => has_of_lt (HX.out.1 j hj)))]
    have hcy : D.chk n (fun j => ((y j : Nat) : Int)) = 0 := by
      unfold FD.chk
      rw [if_neg (by omega), if_pos (allHas_iff.2 (fun j hj => has_of_lt (HX.out.2.2 j hj)))]
    have hck : D.chk2 n (fun j => ((xs j : Nat) : Int)) n (fun j => ((y j : Nat) : Int)) = 0 := by
      unfold FD.chk2
      rw [if_pos hcx]; exact hcy
    have zx : ∀ j, j < n → zc n (fun j => ((xs j : Nat) : Int)) j = xs j := fun j hj => by unfold zc; rw [if_pos hj]; exact Int.toNat_natCast _
    have zy : ∀ j, j < n → zc n (fun j => ((y j : Nat) : Int)) j = y j := fun j hj => by unfold zc; rw [if_pos hj]; exact Int.toNat_natCast _
    refine (through_all HF.out.1 (HF.out.2.2.1.below H1.out.1) (HF.out.2.2.2.1.below H1.out.1)).mono ?_
    rintro e w' ⟨hb', ⟨_, _, _, v, lo, co, h1, h2, h3, h4, h5, h6⟩ | ⟨_, _, hbad, _⟩ | ⟨_, hbad, _⟩ | ⟨hbad, _⟩⟩
    · exact ⟨hb', v, lo, co, h1, h2, h3, h4, h5, fun j hj => by have := h6 j hj; rw [zx j hj, zy j hj] at this; exact this⟩
    · obtain ⟨i, j, hij, hj, e⟩ := hbad
      rw [zx i (by omega), zx j hj] at e
      exact absurd e (HX.out.2.1 i j (by omega) hj (by omega))
    · exact absurd rfl hbad
    · exact absurd hck hbad
  refine HTh.out.mono ?_
  rintro e w2 ⟨hb2, v2, lo, co, rfl, ho2, hlo, hco1, hco2, hco3⟩
  obtain ⟨bo, cb, rfl, hA2⟩ := ho2.arg (by omega)
  obtain ⟨w3, hw3⟩ : ∃ w3, w3 = w2.alloc (.cells #[.int .i64 1] 3) := ⟨_, rfl⟩
  have H3 : Hid (DvI D n k xs y w (.slice ao (n + 1 : Nat) ca) (.slice bo lo cb) (.slice none 0 0) (.slice (some ⟨w2.heap.size, 0, none⟩) 1 1) w3 ∧ Below w0.heap.size w0 w3) := by
    have F' := fld HF.out.1
    have hb3 : Below w2.heap.size w2 w3 := by rw [hw3]; exact (Below.refl _ _).alloc (Nat.le_refl _) _
    have hb23 := bel_up' hb2 hb3
    obtain ⟨n1, n2, n3, n4⟩ := nal_ok F' HX.out.1 n (Nat.le_refl _)
    refine ⟨⟨ao, bo, none, some ⟨w2.heap.size, 0, none⟩, ca, cb, 0, 1, n + 1, lo, 0, 1, nal D xs n, co, pnil, pone, rfl, rfl, rfl, rfl, by omega, by omega, by omega, ⟨H1.out.2.below hb23, hA2.below hb3, arg_nil _ _, ?_⟩, ⟨n1, hco1, el_nil F', el_one F', ⟨n2, fun _ => by rw [Nat.add_sub_cancel, n3]; omega⟩, hco2, fun _ _ => rfl, ⟨fun j hj => if_neg (by omega), fun _ => by show pone 0 ≠ 0; unfold pone; simp⟩, by omega, by omega, by omega, fun i hi N hN M hM => ?_, fun i hi N hN M hM => ?_⟩, ?_⟩, bel_up' H1.out.1 hb23⟩
    · rw [hw3]
      refine ⟨fun j hj => ⟨w2.heap.size, 0, rfl, ?_⟩, fun x hx => by cases hx; simp, by omega, fun e => (by cases e), by omega, by omega⟩
      have : j = 0 := by omega
      subst this
      exact two_cell w2 _
    · rw [ev_from F' (xs i) n2 hN, n4 i hi, ev_nil F', mul0 F']
    · have e1 : D.ev co (xs i) N = y i := by
        rw [ev_from F' (xs i) hco2.1 hN, ← ev_from F' (xs i) hco2.1 (show lo ≤ 1000 by omega)]; exact hco3 i hi
      have e2 : D.ev pone (xs i) M = 1 := by
        rw [ev_from F' (xs i) (show Bd 1 pone from fun j hj => if_neg (by omega)) hM]
        show D.ad 0 (D.mul 1 1) = 1
        rw [mul1 F' (one_lt' F'), zero_ad F' (one_lt' F')]
      rw [e1, e2, mul1 F' (HX.out.2.2 i hi)]
    · exact bel_up' HF.out.2.2.2.2 (bel_up' H1.out.1 hb23)
  obtain ⟨b0, b1, b2, b3⟩ := HBx.out w3 H3.out.2
  have hl3 : w.heap.size < w3.heap.size := by have := H3.out.2.size; omega
  clear ho2 hA2 hb2 hco1 hco2 hco3 H1
  go_wp2
  rw [← hw3]
  clear hw3
  go_loopw [5, 6, 8, 9] (fun va vb vs vt wr => DvI D n k xs y w va vb vs vt wr ∧ Hid (Below w0.heap.size w0 wr)) (fun _ vb _ _ _ => slen vb)
  case atStart => exact ⟨H3.out.1, H3.out.2⟩
  case round =>
    obtain ⟨⟨ao, bo, so, tt, ca, cb, cs, ct', lA, lB, lS, lT, A, B, S, T', rfl, rfl, rfl, rfl, hlA, hlT, hA2, HA, HE⟩, HW⟩ := hrel
    rename World => wr
    clear H3 b0 b1 b2 b3
    obtain ⟨b0, b1, b2, b3⟩ := HBx.out wr HW.out
    have hlB : lB < lA := HE.out.1.lt
    have hlr : w.heap.size < wr.heap.size := by have := HW.out.size; omega
    by_cases hc : n + k + 2 ≤ 2 * lB
    · have hcb : (n : Int) + (k : Int) ≤ 2 * ((lB : Int) - 1) := by omega
      have hcc : 2 * ((lB : Int) - 1) ≥ (n : Int) + (k : Int) := hcb
      have E := HE.out.1
      obtain ⟨q1, q2, q3, q4, q5, q6, q7⟩ := quo_len HF.out.1 E.eA E.eB E.tA E.tB (by omega) (by omega)
      obtain ⟨Q, hQ⟩ : ∃ Q, Q = D.quo A lA B lB := ⟨_, rfl⟩
      obtain ⟨C, hC⟩ : ∃ C, C = D.rst A lA B lB := ⟨_, rfl⟩
      obtain ⟨lQ, hlQ⟩ : ∃ lQ, lQ = lA - lB + 1 := ⟨_, rfl⟩
      obtain ⟨lC, hlC⟩ : ∃ lC, lC = dgn C lA := ⟨_, rfl⟩
      have HDv : Hid (Calls Tryz.prog 69 #[.int .i64 D.q, .slice ao lA ca, .slice bo lB cb] wr fun e w' => Below wr.heap.size wr w' ∧ ∃ qo qc ro rc, e = .returned (.tuple #[.slice qo lQ qc, .slice ro lC rc, .int .i64 0]) ∧ Arg qo lQ qc (fun j => ((Q j : Nat) : Int)) w' ∧ Arg ro lC rc (fun j => ((C j : Nat) : Int)) w') := by
        have zA : zc lA (fun j => ((A j : Nat) : Int)) = A := zc_nat E.tA.1
        have zB : zc lB (fun j => ((B j : Nat) : Int)) = B := zc_nat E.tB.1
        have hck : D.chk2 lA (fun j => ((A j : Nat) : Int)) lB (fun j => ((B j : Nat) : Int)) = 0 := by
          unfold FD.chk2
          rw [if_pos (chk_nat E.eA (by omega))]
          exact chk_nat E.eB (by omega)
        have h := pdiv_any HF.out.1 HA.out.1 HA.out.2.1
        rw [zA, zB] at h
        refine h.mono ?_
        rintro e w' ⟨hb', ⟨_, _, v, u, rfl, h2, h3⟩ | ⟨_, hbad, _⟩ | ⟨hbad, _⟩⟩
        · rw [q7, ← hlQ, ← hQ] at h2
          rw [← hC, ← hlC] at h3
          obtain ⟨qo, qc, rfl, hAq⟩ := h2.arg (by omega)
          obtain ⟨ro, rc, rfl, hAr⟩ := h3.arg (by have := dgn_le C lA; omega)
          exact ⟨hb', qo, qc, ro, rc, rfl, hAq, hAr⟩
        · exact absurd hbad (by rw [dgn_self E.tB.2]; omega)
        · exact absurd hck hbad
      rw [← hQ] at q1 q2 q6
      rw [← hC, ← hlC] at q4 q5
      rw [← hC] at q3 q6
      rw [← hlQ] at q2 q6
      have HS : Hid (Euc D n xs y B C T' (psub D S (pmul D lQ Q T')) lB lC lT (lQ + lT - 1) ∧ El D Q ∧ Trd lQ Q ∧ lQ + lB = lA + 1) := ⟨E.step (fld HF.out.1) q2 q3 q4 q5 q6 (by omega), q1, q2, by omega⟩
      have hlQb : lQ ≤ 65 := by omega
      have hlCB : lC < lB := q5
      have hsum : lT + lA = n + 2 := E.sum
      clear q1 q2 q3 q4 q5 q6 q7 hQ hC hlC E hlQ
      go_wp2_with fail
      refine HDv.out.mono ?_
      rintro e w4 ⟨hb4, qo, qc, ro, rc, rfl, hAq, hAr⟩
      have H4 : Hid (Below wr.heap.size wr w4 ∧ Arg qo lQ qc (fun j => ((Q j : Nat) : Int)) w4 ∧ Arg ro lC rc (fun j => ((C j : Nat) : Int)) w4) := ⟨hb4, hAq, hAr⟩
      clear hb4 hAq hAr
      obtain ⟨lP, hlP⟩ : ∃ lP, lP = lQ + lT - 1 := ⟨_, rfl⟩
      have hlP2 : lP ≤ 65 := by have := HS.out.2.2.2; omega
      have HlP : Hid (lP = lQ + lT - 1) := hlP
      clear hlP hsum
      have HMl : Hid (Calls Tryz.prog 70 #[.int .i64 D.q, .slice qo lQ qc, .slice tt lT ct'] w4 fun e w' => Below w4.heap.size w4 w' ∧ ∃ po pc, e = .returned (.tuple #[.slice po lP pc, .int .i64 0]) ∧ Arg po lP pc (fun j => ((pmul D lQ Q T' j : Nat) : Int)) w') := by
        have F' := fld HF.out.1
        have E := HE.out.1
        have zQ : zc lQ (fun j => ((Q j : Nat) : Int)) = Q := zc_nat HS.out.2.2.1.1
        have zT : zc lT (fun j => ((T' j : Nat) : Int)) = T' := zc_nat E.tT.1
        have hck : D.chk2 lQ (fun j => ((Q j : Nat) : Int)) lT (fun j => ((T' j : Nat) : Int)) = 0 := by
          unfold FD.chk2
          rw [if_pos (chk_nat HS.out.2.1 (by omega))]
          exact chk_nat E.eT (by omega)
        have d1 : dgn Q lQ = lQ := dgn_self HS.out.2.2.1.2
        have d2 : dgn T' lT = lT := dgn_self E.tT.2
        have hbP : Bd lP (pmul D lQ Q T') := by rw [HlP.out]; exact pmul_bd F' E.tT.1 lQ
        have htop : pmul D lQ Q T' (lP - 1) ≠ 0 := by
          obtain ⟨q1, hq1⟩ : ∃ q1, lQ = q1 + 1 := ⟨lQ - 1, by have := HS.out.2.2.2; omega⟩
          have hls := E.ls
          obtain ⟨t1, ht1⟩ : ∃ t1, lT = t1 + 1 := ⟨lT - 1, by omega⟩
          have e := pmul_top F' (a := Q) (n := q1) (b := T') (m := t1) (by rw [← ht1]; exact E.tT.1)
          rw [HlP.out, hq1, ht1, show q1 + 1 + (t1 + 1) - 1 - 1 = q1 + t1 by omega, e]
          intro hz
          have hQ1 : Q q1 ≠ 0 := by have := HS.out.2.2.1.2 (by omega); rwa [hq1, Nat.add_sub_cancel] at this
          have hT2 : T' t1 ≠ 0 := by have := E.tT.2 (by omega); rwa [ht1, Nat.add_sub_cancel] at this
          exact hT2 (mul_cancel F' hQ1 (E.eT _) (zero_lt' F') (by rw [hz, mul0 F']))
        have h := pmul_any HF.out.1 H4.out.2.1 (HA.out.2.2.2.below H4.out.1)
        rw [zQ, zT, d1, d2] at h
        refine h.mono ?_
        rintro e w' ⟨hb', ⟨_, _, v, rfl, h2⟩ | ⟨_, hbad, _⟩ | ⟨hbad, _⟩⟩
        · rw [dgn_is (hbP.mono (show lP ≤ lQ + lT by have := HlP.out; omega)) hbP (fun _ => htop)] at h2
          obtain ⟨po, pc, rfl, hAp⟩ := h2.arg (by omega)
          exact ⟨hb', po, pc, rfl, hAp⟩
        · have := HlP.out; omega
        · exact absurd hck hbad
      go_wp2_with fail
      refine HMl.out.mono ?_
      rintro e w5 ⟨hb5, po, pc, rfl, hAp⟩
      have H5 : Hid (Below wr.heap.size wr w5 ∧ Arg po lP pc (fun j => ((pmul D lQ Q T' j : Nat) : Int)) w5 ∧ Arg ro lC rc (fun j => ((C j : Nat) : Int)) w5) := ⟨bel_up' H4.out.1 hb5, hAp, H4.out.2.2.below hb5⟩
      clear hb5 hAp b0 b1 b2 b3
      obtain ⟨b0, b1, b2, b3⟩ := HBx.out w5 (bel_up' HW.out H5.out.1)
      have hl5 : w.heap.size < w5.heap.size := by have := H5.out.1.size; omega
      have hmax : max lS lP = lP := by have := HE.out.1.ls; have := HlP.out; have := HS.out.2.2.2; omega
      have HMx : Hid (max lS lP = lP) := hmax
      clear hmax
      have HLs : Hid (Calls Tryz.prog 71 #[.pointer (some ⟨F, 0, none⟩), .slice so lS cs, .int .i64 1, .slice po lP pc] w5 fun e w' => e = .returned (.slice (some ⟨w5.heap.size, 0, none⟩) lP lP) ∧ Arg (some ⟨w5.heap.size, 0, none⟩) lP lP (fun j => ((psub D S (pmul D lQ Q T') j : Nat) : Int)) w' ∧ Below w5.heap.size w5 w') := by
        have F' := fld HF.out.1
        have E := HE.out.1
        have hbP : Bd lP (pmul D lQ Q T') := by rw [HlP.out]; exact pmul_bd F' E.tT.1 lQ
        have h := eless_any HF.out.1 (ca := cs) (cb := pc) (t := 1) (HFt.out w5 (bel_up' HW.out H5.out.1)) (show lS ≤ 1000 by have := E.ls; omega) (show lP ≤ 1000 by omega) E.eS (el_mul F' Q T' lQ) E.bS hbP (HA.out.2.2.1.below H5.out.1).sl H5.out.2.1.sl (HA.out.2.2.1.below H5.out.1).lt H5.out.2.1.lt (one_lt' F')
        rw [HMx.out, pscale_one F' (el_mul F' Q T' lQ)] at h
        refine h.mono ?_
        rintro e w' ⟨rfl, hr, hb'⟩
        exact ⟨rfl, ⟨hr.sl (Nat.le_refl _), fun x hx => by cases hx; exact hr.lt, by omega, fun e => (by cases e), Nat.le_refl _, by omega⟩, hb'⟩
      go_wp2_with fail
      refine HLs.out.mono ?_
      rintro e w6 ⟨rfl, hA6, hb6⟩
      have H6 : Hid (Below wr.heap.size wr w6 ∧ Arg (some ⟨w5.heap.size, 0, none⟩) lP lP (fun j => ((psub D S (pmul D lQ Q T') j : Nat) : Int)) w6 ∧ Arg ro lC rc (fun j => ((C j : Nat) : Int)) w6) := ⟨bel_up' H5.out.1 hb6, hA6, H5.out.2.2.below hb6⟩
      have HR : Hid (DvI D n k xs y w (.slice bo lB cb) (.slice ro lC rc) (.slice tt lT ct') (.slice (some ⟨w5.heap.size, 0, none⟩) lP lP) w6 ∧ Below w0.heap.size w0 w6) := by
        refine ⟨⟨bo, ro, tt, some ⟨w5.heap.size, 0, none⟩, cb, rc, ct', lP, lB, lC, lT, lP, B, C, T', psub D S (pmul D lQ Q T'), rfl, rfl, rfl, rfl, by omega, hlP2, hc, ⟨HA.out.2.1.below H6.out.1, H6.out.2.2, HA.out.2.2.2.below H6.out.1, H6.out.2.1⟩, ?_, bel_up' HE.out.2 H6.out.1⟩, bel_up' HW.out H6.out.1⟩
        rw [HlP.out]; exact HS.out.1
      clear hA6 hb6
      go_wp2
      go_roundw
      case rel => exact ⟨HR.out.1, HR.out.2⟩
      case measure => simp [slen]; omega
    · have hcb : ¬ (n : Int) + (k : Int) ≤ 2 * ((lB : Int) - 1) := by omega
      have hcc : ¬ 2 * ((lB : Int) - 1) ≥ (n : Int) + (k : Int) := hcb
      have HQt : Hid (Calls Tryz.prog 66 #[.pointer (some ⟨F, 0, none⟩), .slice bo lB cb, .slice tt lT ct'] wr (FindP D n k xs y wr)) := by
        have F' := fld HF.out.1
        have E := HE.out.1
        have zB : zc lB (fun j => ((B j : Nat) : Int)) = B := zc_nat E.tB.1
        have zT : zc lT (fun j => ((T' j : Nat) : Int)) = T' := zc_nat E.tT.1
        have hck : D.chk2 lB (fun j => ((B j : Nat) : Int)) lT (fun j => ((T' j : Nat) : Int)) = 0 := by
          unfold FD.chk2
          rw [if_pos (chk_nat E.eB (by omega))]
          exact chk_nat E.eT (by omega)
        have d2 : dgn T' lT = lT := dgn_self E.tT.2
        have hT0 : lT ≠ 0 := by have := E.ls; omega
        have h := quotient_any HF.out.1 (HFt.out wr HW.out) HA.out.2.1 HA.out.2.2.2 hck (by rw [zT, d2]; exact hT0)
        rw [zB, zT] at h
        refine h.mono ?_
        rintro e w' ⟨v, rfl, ho, hb'⟩
        obtain ⟨s1, s2⟩ := quo_short HF.out.1 B T' lB lT
        refine ⟨hb', v, _, _, _, rfl, ho, s1, trd_dgn s2, by have := dgn_le (D.quo B lB T' lT) (lB - (dgn T' lT - 1)); omega, fun a ea ba hoa => ?_⟩
        have hB := E.last F' hk hA2 (by omega) HX.out.1 HX.out.2.1 hoa
        obtain ⟨u1, u2⟩ := quo_exact HF.out.1 E.eB E.tB.1 E.eT E.tT.1 (by rw [d2]; exact hT0) ea ba hB
        refine ⟨?_, u1⟩
        rw [u2]
        exact decide_eq_true (dgn_nil lB)
      go_wp2_with fail
      refine HQt.out.mono ?_
      rintro e w7 ⟨hb7, v, ok, lf, f, rfl, h1, h2, h3, h4, h5⟩
      have H7 : Hid (FindP D n k xs y w (.returned (.tuple #[v, .bool ok])) w7) := ⟨bel_up' HE.out.2 hb7, v, ok, lf, f, rfl, h1.mono HE.out.2.size, h2, h3, h4, h5⟩
      clear hb7 h1 h2 h3 h4 h5
      go_wp2
      go_ret2
      exact H7.out
end Go.Proofs.YtnjbnamcedfjaaaGreat
