/- Texts of ours, one behind the other: KD3 KD4. -/
import Derived.Test.YtcgmllamiaflcaaZKD2
import Derived.Test.YtcgmllamiaflcaaZU18
import Derived.Test.YtcgmllamiaflcaaZX20
import Derived.Test.YtcgmllamiaflcaaZU22
/- The program's reed: noughtAt. -/
namespace Go.Proofs.Ytcgmllamiaflcaa
open Go.RowKit Go.Sort

/-- The polynomial that is 0 at the first i places. -/
def nal (D : FD) (c : Nat → Nat) (i : Nat) : Nat → Nat := elc D (fun _ => true) c i
theorem ct_true : ∀ i, ct (fun _ => true) i = i
  | 0 => rfl
  | i + 1 => by show ct (fun _ => true) i + 1 = _; rw [ct_true i]
theorem nal_ok {D : FD} (F : Fld D) {c : Nat → Nat} {n : Nat} (hc : ∀ i, i < n → c i < D.q) (i : Nat) (hi : i ≤ n) : El D (nal D c i) ∧ Bd (i + 1) (nal D c i) ∧ nal D c i i = 1 ∧ ∀ j, j < i → D.ev (nal D c i) (c j) (i + 1) = 0 := by
  have h := elc_ok F (err := fun _ => true) hc i hi
  rw [ct_true] at h
  exact ⟨h.1, h.2.1, h.2.2.1, fun j hj => h.2.2.2 j hj rfl⟩
theorem nal_succ {D : FD} (F : Fld D) {c : Nat → Nat} {n : Nat} (hc : ∀ i, i < n → c i < D.q) {i : Nat} (hi : i < n) : pmul D (i + 1) (nal D c i) (xmr D (c i)) = nal D c (i + 1) := by
  obtain ⟨h1, h2, _, _⟩ := nal_ok F hc i (by omega)
  rw [pmul_comm F h1 (xmr_el F (hc i hi)) h2 (xmr_bd _)]
  show pmul D 2 (xmr D (c i)) (elc D (fun _ => true) c i) = if true = true then pmul D 2 (xmr D (c i)) (elc D (fun _ => true) c i) else elc D (fun _ => true) c i
  rw [if_pos rfl]
theorem duo_cell (w : World) (v u : Value) : (w.alloc (.cells #[v, u] 3)).cell? ⟨w.heap.size, 0, none⟩ = some v ∧ (w.alloc (.cells #[v, u] 3)).cell? ⟨w.heap.size, 1, none⟩ = some u := ⟨by simp, by simp⟩
def NaI (D : FD) (n : Nat) (c : Nat → Nat) (w : World) (vo vi : Value) (wr : World) : Prop := ∃ (i : Nat) (ao : Option Addr) (ca : Nat), i ≤ n ∧ vo = .slice ao (i + 1 : Nat) ca ∧ vi = .int .i64 (i : Nat) ∧ Hid (Arg ao (i + 1) ca (fun j => ((nal D c i j : Nat) : Int)) wr ∧ Below w.heap.size w wr)

set_option maxHeartbeats 4000000 in
set_option maxRecDepth 100000 in
theorem noughtAt_any {F T : Nat} {D : FD} (hD : D ∈ fieldsL) {g : Nat → Value} {w : World} (hat : FAt F T D g w) {xo : Option Addr} {n cx : Nat} {c : Nat → Nat} (hX : Sl xo n c w) (hlx : LtB xo w.heap.size) (hc : ∀ i, i < n → c i < D.q) (hn : n ≤ 64) :
    Calls Try.prog 60 #[.pointer (some ⟨F, 0, none⟩), .slice xo n cx] w fun e w' => ∃ ao ca, e = .returned (.slice ao (n + 1 : Nat) ca) ∧ Arg ao (n + 1) ca (fun j => ((nal D c n j : Nat) : Int)) w' ∧ Below w.heap.size w w' := by
  have HF : Hid (FAt F T D g w ∧ D ∈ fieldsL ∧ Sl xo n c w ∧ LtB xo w.heap.size ∧ ∀ i, i < n → c i < D.q) := ⟨hat, hD, hX, hlx, hc⟩
  obtain ⟨w0, hw0⟩ : ∃ w0, w0 = w.alloc (.cells #[.int .i64 1] 3) := ⟨_, rfl⟩
  have H0 : Hid (Arg (some ⟨w.heap.size, 0, none⟩) 1 1 (fun j => ((nal D c 0 j : Nat) : Int)) w0 ∧ Below w.heap.size w w0) := by
    rw [hw0]
    refine ⟨⟨fun j hj => ⟨w.heap.size, 0, rfl, ?_⟩, fun x hx => by cases hx; simp, by omega, fun e => (by cases e), by omega, by omega⟩, (Below.refl _ _).alloc (Nat.le_refl _) _⟩
    have : j = 0 := by omega
    subst this
    show (w.alloc (.cells #[.int .i64 1] 3)).cell? ⟨w.heap.size, 0, none⟩ = some (Value.int .i64 ((1 : Nat) : Int))
    exact two_cell w _
  clear hat hD hX hlx hc
  go_enter Try.func60, Try.ntmps60
  go_wp2
  rw [← hw0]
  clear hw0
  go_loopw [5, 11] (fun vo vi wr => NaI D n c w vo vi wr) (fun _ vi _ => n - (intOf vi).toNat)
  case atStart => exact ⟨0, _, _, by omega, rfl, rfl, H0.out⟩
  case round =>
    obtain ⟨i, ao, ca, hi, rfl, rfl, HI⟩ := hrel
    rename World => wr
    clear H0
    by_cases hlt : i < n
    · have hib : (i : Int) < (n : Int) := by omega
      have hi0 : (0 : Int) ≤ (i : Int) := by omega
      obtain ⟨bx, ox, hxo, cx0⟩ := (HF.out.2.2.1.below HI.out.2 HF.out.2.2.2.1) i hlt
      subst hxo
      obtain ⟨x, hx⟩ : ∃ x, x = c i := ⟨_, rfl⟩
      rw [← hx] at cx0
      have hatr := HF.out.1.below HI.out.2 HF.out.1.ltF HF.out.1.ltT
      have HS : Hid (Calls Try.prog 18 #[.pointer (some ⟨F, 0, none⟩)] wr fun e w' => e = .returned (.int .i64 D.q) ∧ w' = wr) := size_any hatr
      have hxq : x < D.q := by rw [hx]; exact HF.out.2.2.2.2 i hlt
      have HNg : Hid (Calls Try.prog 41 #[.pointer (some ⟨F, 0, none⟩), .int .i64 (x : Nat)] wr fun e w' => e = .returned (.int .i64 (D.ng x : Nat)) ∧ ∃ n, w' = wr.drewN n) := neg_nat HF.out.2.1 hatr hxq
      have HX : Hid (x = c i ∧ x < D.q) := ⟨hx, hxq⟩
      clear hx hatr hxq
      go_wp2_with fail
      refine HS.out.mono ?_
      rintro e w' ⟨rfl, hw⟩
      have hw := hw.symm
      subst hw
      go_wp2_with fail
      refine HNg.out.mono ?_
      rintro e w2 ⟨rfl, d, rfl⟩
      obtain ⟨w3, hw3⟩ : ∃ w3, w3 = (wr.drewN d).alloc (.cells #[.int .i64 (D.ng x : Nat), .int .i64 1] 3) := ⟨_, rfl⟩
      have H3 : Hid (Below wr.heap.size wr w3 ∧ Arg (some ⟨wr.heap.size, 0, none⟩) 2 2 (fun j => ((xmr D x j : Nat) : Int)) w3) := by
        rw [hw3]
        refine ⟨(below_drewN2 (Below.refl _ _) d).alloc (Nat.le_refl _) _, fun j hj => ⟨wr.heap.size, 0, rfl, ?_⟩, fun y hy => by cases hy; simp, by omega, fun e => (by cases e), by omega, by omega⟩
        have : j = 0 ∨ j = 1 := by omega
        rcases this with rfl | rfl
        · exact (duo_cell (wr.drewN d) _ _).1
        · exact (duo_cell (wr.drewN d) _ _).2
      have HM : Hid (Calls Try.prog 49 #[.int .i64 D.q, .slice ao (i + 1 : Nat) ca, .slice (some ⟨wr.heap.size, 0, none⟩) 2 2] w3 fun e w' => ∃ mo mc, e = .returned (.tuple #[.slice mo (i + 1 + 1 : Nat) mc, .int .i64 0]) ∧ Arg mo (i + 1 + 1) mc (fun j => ((nal D c (i + 1) j : Nat) : Int)) w' ∧ Below w3.heap.size w3 w') := by
        have F' := fld HF.out.2.1
        obtain ⟨n1, n2, n3, _⟩ := nal_ok F' HF.out.2.2.2.2 i hi
        obtain ⟨m1, m2, m3, _⟩ := nal_ok F' HF.out.2.2.2.2 (i + 1) (by omega)
        have hxe := xmr_el F' HX.out.2
        have z1 : zc (i + 1) (fun j => ((nal D c i j : Nat) : Int)) = nal D c i := zc_nat n2
        have z2 : zc 2 (fun j => ((xmr D x j : Nat) : Int)) = xmr D x := zc_nat (xmr_bd x)
        have hck : D.chk2 (i + 1) (fun j => ((nal D c i j : Nat) : Int)) 2 (fun j => ((xmr D x j : Nat) : Int)) = 0 := by
          unfold FD.chk2
          rw [if_pos (chk_nat n1 (by omega))]
          exact chk_nat hxe (by omega)
        have d1 : dgn (nal D c i) (i + 1) = i + 1 := dgn_self (fun _ => by rw [Nat.add_sub_cancel, n3]; omega)
        have d2 : dgn (xmr D x) 2 = 2 := dgn_self (fun _ => by show xmr D x 1 ≠ 0; unfold xmr; simp)
        have hp : pmul D (i + 1) (nal D c i) (xmr D x) = nal D c (i + 1) := by rw [HX.out.1]; exact nal_succ F' HF.out.2.2.2.2 hlt
        refine (pmul_any HF.out.2.1 (HI.out.1.below H3.out.1) H3.out.2).mono ?_
        rw [z1, z2, d1, d2, hp]
        rintro e w' ⟨hb', ⟨_, _, v, rfl, hv⟩ | ⟨_, hbad, _⟩ | ⟨hbad, _⟩⟩
        · have d3 : dgn (nal D c (i + 1)) (i + 1 + 2) = i + 1 + 1 := dgn_is (m2.mono (by omega)) m2 (fun _ => by rw [Nat.add_sub_cancel, m3]; omega)
          rw [d3] at hv
          obtain ⟨mo, mc, rfl, hA⟩ := hv.arg (by omega)
          exact ⟨mo, mc, rfl, hA, hb'⟩
        · omega
        · exact absurd hck hbad
      go_wp2_with fail
      rw [← hw3]
      clear hw3
      refine HM.out.mono ?_
      rintro e w4 ⟨mo, mc, rfl, hA4, hb4⟩
      have H4 : Hid (Arg mo (i + 1 + 1) mc (fun j => ((nal D c (i + 1) j : Nat) : Int)) w4 ∧ Below w.heap.size w w4) := ⟨hA4, bel_up' (bel_up' HI.out.2 H3.out.1) hb4⟩
      clear hA4 hb4
      go_wp2
      go_roundw
      case rel => exact ⟨i + 1, mo, mc, by omega, rfl, by go_num, H4.out⟩
      case measure => simp [intOf]; omega
    · have hib : ¬ (i : Int) < (n : Int) := by omega
      have hie : i = n := by omega
      subst hie
      go_wp2
      go_ret
      exact ⟨ao, ca, rfl, HI.out.1, HI.out.2⟩
end Go.Proofs.Ytcgmllamiaflcaa

/- The program's reed: byDivisors. -/
namespace Go.Proofs.Ytcgmllamiaflcaa
open Go.RowKit Go.Sort

theorem quo_len {D : FD} (hD : D ∈ fieldsL) {A B : Nat → Nat} {lA lB : Nat} (eA : El D A) (eB : El D B) (tA : Trd lA A) (tB : Trd lB B) (h0 : lB ≠ 0) (hl : lB ≤ lA) :
    El D (D.quo A lA B lB) ∧ Trd (lA - lB + 1) (D.quo A lA B lB) ∧ El D (D.rst A lA B lB) ∧ Trd (dgn (D.rst A lA B lB) lA) (D.rst A lA B lB) ∧ dgn (D.rst A lA B lB) lA < lB ∧ A = padd D (pmul D (lA - lB + 1) (D.quo A lA B lB) B) (D.rst A lA B lB) ∧ dgn (D.quo A lA B lB) (lA - (dgn B lB - 1)) = lA - lB + 1 := by
  have F := fld hD
  have dB : dgn B lB = lB := dgn_self tB.2
  obtain ⟨l, hl'⟩ : ∃ l, lB = l + 1 := ⟨lB - 1, by omega⟩
  have hb : Bd (l + 1) B := by rw [← hl']; exact tB.1
  have ht : B l ≠ 0 := by have := tB.2 h0; rwa [hl', Nat.add_sub_cancel] at this
  have hi : D.mul (B l) (D.iv (B l)) = 1 := iv_is hD (eB l) ht
  unfold FD.quo FD.rst
  rw [dB, hl', Nat.add_sub_cancel]
  obtain ⟨m, hm⟩ : ∃ m, lA = m + 1 + l := ⟨lA - (l + 1), by omega⟩
  rw [show lA - l = m + 1 by omega, show lA - (l + 1) + 1 = m + 1 by omega]
  have i := div_is F (b := B) (l := l) (inv := D.iv (B l)) (m + 1) eA
  have hR : Bd l (divR D B l (D.iv (B l)) (m + 1) A) := divR_bd F eB hb hi (m + 1) eA (by rw [← hm]; exact tA.1)
  have hQb := divQ_bd (D := D) (b := B) (l := l) (inv := D.iv (B l)) (m + 1) A
  have htop : divQ D B l (D.iv (B l)) (m + 1) A m ≠ 0 := fun hz => by
    have h1 := congrFun i (m + l)
    have h2 : D.ad (pmul D (m + 1) (divQ D B l (D.iv (B l)) (m + 1) A) B (m + l)) (divR D B l (D.iv (B l)) (m + 1) A (m + l)) = A (m + l) := h1
    rw [pmul_top F hb, hz, zmul F, hR (m + l) (by omega), ad_zero F (zero_lt' F)] at h2
    have := tA.2 (by omega)
    rw [show lA - 1 = m + l by omega] at this
    exact this h2.symm
  have tQ : Trd (m + 1) (divQ D B l (D.iv (B l)) (m + 1) A) := ⟨hQb, fun _ => by rw [Nat.add_sub_cancel]; exact htop⟩
  have hRl : dgn (divR D B l (D.iv (B l)) (m + 1) A) lA ≤ l := by
    have := dgn_from hR (show l ≤ lA by omega)
    rw [this]; exact dgn_le _ _
  exact ⟨el_divQ F _ _, tQ, el_divR F _ eA, trd_dgn (hR.mono (by omega)), by omega, i.symm, dgn_self tQ.2⟩

/-- What a way to mend tells. -/
def FindP (D : FD) (n k : Nat) (xs y : Nat → Nat) (w : World) (e : Ending) (w' : World) : Prop := Below w.heap.size w w' ∧ ∃ v ok lf f, e = .returned (.tuple #[v, .bool ok]) ∧ OwnP w.heap.size v lf f w' ∧ El D f ∧ Trd lf f ∧ lf ≤ 128 ∧ ∀ a, El D a → Bd k a → 2 * ofs D k n xs y a ≤ n - k → ok = true ∧ f = a
def DvI (D : FD) (n k : Nat) (xs y : Nat → Nat) (w : World) (va vb vs vt : Value) (wr : World) : Prop := ∃ (ao bo so tt : Option Addr) (ca cb cs ct' lA lB lS lT : Nat) (A B S T : Nat → Nat), va = .slice ao lA ca ∧ vb = .slice bo lB cb ∧ vs = .slice so lS cs ∧ vt = .slice tt lT ct' ∧ lA ≤ 65 ∧ lT ≤ 65 ∧ n + k + 2 ≤ 2 * lA ∧ Hid (Arg ao lA ca (fun j => ((A j : Nat) : Int)) wr ∧ Arg bo lB cb (fun j => ((B j : Nat) : Int)) wr ∧ Arg so lS cs (fun j => ((S j : Nat) : Int)) wr ∧ Arg tt lT ct' (fun j => ((T j : Nat) : Int)) wr) ∧ Hid (Euc D n xs y A B S T lA lB lS lT ∧ Below w.heap.size w wr)
theorem quo_short {D : FD} (hD : D ∈ fieldsL) (A B : Nat → Nat) (lA lB : Nat) : El D (D.quo A lA B lB) ∧ Bd (lA - (dgn B lB - 1)) (D.quo A lA B lB) := by
  unfold FD.quo
  exact ⟨el_divQ (fld hD) _ _, divQ_bd _ _⟩
end Go.Proofs.Ytcgmllamiaflcaa
