/- Golay's codes: all multiples of a polynomial, turned (the program's cyclic.Of, of a polynomial that divides x^n - 1). -/
import Derived.Test.YtjkncdmbcckcdaaZU9
import Derived.Test.YtjkncdmbcckcdaaZI16
import Derived.Test.YtjkncdmbcckcdaaZV7
namespace Go.Proofs.Ytjkncdmbcckcdaa
open Go.RowKit Go.Sort

theorem zc_natg {n : Nat} {c : Nat → Nat} (h : Bd n c) : zc n (fun j => ((c j : Nat) : Int)) = c := by
  funext j
  unfold zc
  by_cases e : j < n
  · rw [if_pos e]; simp
  · rw [if_neg e, h j (by omega)]
theorem chk_natg {D : FD} {n : Nat} {c : Nat → Nat} (h : El D c) (hn : n ≤ 128) : D.chk n (fun j => ((c j : Nat) : Int)) = 0 := by
  unfold FD.chk
  rw [if_neg (by omega), if_pos (allHas_iff.2 (fun j _ => has_of_lt (h j)))]
theorem slz_ofg {ao : Option Addr} {n : Nat} {a : Nat → Nat} {w : World} (h : Sl ao n a w) : SlZ ao n (fun i => ((a i : Nat) : Int)) w := h

/-- 'copy(out[off:], l)', out a row of the call's own. -/
theorem copy_at {ops : Array Oper} {rest : List Oper} {o : Oper} {a : Act} {w : World} {Q : Exit → Act → World → Prop} (hgd : o.guard = none) (d s : Operand)
    (ho : o.op = .call { callee := .builtin .copy, args := #[d, s], argTypes := #[22, 22] }) (g N off L dc n sc : Nat) (ao : Option Addr)
    (hd : a.eval d = .slice (some ⟨g, off, none⟩) L dc) (hs : a.eval s = .slice ao n sc) (c x : Nat → Nat) (hrow : Row g N c w) (hS : Sl ao n x w) (hn : n ≤ L) (hL : off + L ≤ N)
    (B : Nat) (w0 : World) (hb : Below B w0 w) (hBg : B ≤ g)
    (h : ∀ w', Row g N (fun k => if off ≤ k ∧ k < off + n then x (k - off) else c k) w' → Below B w0 w' → wpList Try.prog ops Q rest (a.put o.dst (goInt n)) w') : wpList Try.prog ops Q (o :: rest) a w := by
  obtain ⟨cap, f, hf, hN, he⟩ := hrow
  obtain ⟨cs, h1, h2, h3⟩ := hf
  obtain ⟨i0, hi, hz0, hz1, hz2⟩ := info_parts Try.infoInt
  have hh : w.heap[g]? = some (.cells cs.toList.toArray 3 (0, 0)) := by simpa using h1
  refine wpList_copy_splice hgd d s 22 22 ho 3 Try.underlying22 (by rw [hi]; simp [hz1]) _ _ L dc n sc hd hs g off cs.toList 3 hh (celL n x) (by rw [celL_len]; exact (Nat.min_eq_left hn).symm) ?_ (by rw [celL_len]; simp; omega) (celL_one n x) B w0 hb hBg ?_
  · intro h0
    rw [celL_len] at h0
    obtain ⟨b, off', rfl, _⟩ := hS 0 h0
    refine ⟨rfl, _, rfl, fun j v hj => ?_⟩
    have hj' : j < n := by
      have := (List.getElem?_eq_some_iff.1 hj).1
      rwa [celL_len] at this
    rw [celL_get n x j hj'] at hj
    cases hj
    obtain ⟨b', off'', e, hc⟩ := hS j hj'
    cases e
    rw [add_off]; exact hc
  · intro w' hg' hb'
    rw [celL_len]
    refine h w' ?_ hb'
    have hlen : (splice cs.toList off (celL n x)).length = cap := by rw [length_splice _ _ _ (by rw [celL_len]; simp; omega)]; simpa using h2
    refine ⟨cap, fun k => if off ≤ k ∧ k < off + n then .int .i64 (x (k - off) : Nat) else f k, ⟨(splice cs.toList off (celL n x)).toArray, hg'.out, by simpa using hlen, fun k hk => ?_⟩, hN, fun k hk => ?_⟩
    · show _ = some (if off ≤ k ∧ k < off + n then _ else f k)
      have hcl : cs.toList.length = cap := by simpa using h2
      unfold splice
      rw [List.getElem?_toArray, celL_len]
      have htl : (cs.toList.take off).length = off := by rw [List.length_take, hcl]; omega
      by_cases e1 : k < off
      · rw [List.getElem?_append_left (by omega), List.getElem?_take_of_lt e1, if_neg (by omega), Array.getElem?_toList, h3 k hk]
      · rw [List.getElem?_append_right (by omega), htl]
        by_cases e : k < off + n
        · rw [List.getElem?_append_left (by rw [celL_len]; omega), celL_get n x (k - off) (by omega), if_pos ⟨by omega, e⟩]
        · rw [List.getElem?_append_right (by rw [celL_len]; omega), celL_len, List.getElem?_drop, show off + n + (k - off - n) = k from by omega, Array.getElem?_toList, h3 k hk, if_neg (by omega)]
    · show (if off ≤ k ∧ k < off + n then _ else f k) = .int .i64 ((if off ≤ k ∧ k < off + n then x (k - off) else c k : Nat) : Int)
      by_cases e : off ≤ k ∧ k < off + n
      · rw [if_pos e, if_pos e]
      · rw [if_neg e, if_neg e]; exact he k hk

/-- x^n - 1. -/
def whl (D : FD) (n : Nat) : Nat → Nat := fun j => if j = n then 1 else if j = 0 then D.ng 1 else 0
theorem whl_el {D : FD} (F : Fld D) (n : Nat) : El D (whl D n) := fun j => by
  have h2 := F.q2
  unfold whl
  split
  · omega
  · split
    · exact ng_lt F (by omega)
    · omega
theorem whl_bd {D : FD} {n : Nat} : Bd (n + 1) (whl D n) := fun j hj => by
  unfold whl
  rw [if_neg (by omega), if_neg (by omega)]
/-- What Div tells of x^n - 1, where a polynomial divides it. -/
theorem whl_div {D : FD} (hD : D ∈ fieldsL) {g Q : Nat → Nat} {m n K : Nat} (hm : 1 ≤ m) (eg : El D g) (bg : Bd m g) (tg : g (m - 1) ≠ 0) (hK : K + m = n + 1) (eQ : El D Q) (bQ : Bd (K + 1) Q) (tQ : Q K ≠ 0) (hQ : pmul D (K + 1) Q g = whl D n) :
    dgn g m = m ∧ dgn (D.quo (whl D n) (n + 1) g m) (n + 1 - (dgn g m - 1)) = K + 1 ∧ dgn (D.rst (whl D n) (n + 1) g m) (n + 1) = 0 := by
  have F := fld hD
  have hd : dgn g m = m := dgn_self (fun _ => tg)
  have hn : n + 1 - (m - 1) = K + 1 := by omega
  have hbg : Bd (m - 1 + 1) g := by rw [show m - 1 + 1 = m by omega]; exact bg
  have hi := iv_is hD (eg (m - 1)) tg
  have hr : divR D g (m - 1) (D.iv (g (m - 1))) (K + 1) (whl D n) = pnil := (rest_nil F eg hbg hi (whl_el F n) (by rw [show K + 1 + (m - 1) = n + 1 by omega]; exact whl_bd)).2 ⟨K + 1, Q, eQ, bQ, hQ.symm⟩
  have hq : divQ D g (m - 1) (D.iv (g (m - 1))) (K + 1) (whl D n) = Q := by
    have h1 := div_is F (b := g) (l := m - 1) (inv := D.iv (g (m - 1))) (K + 1) (whl_el F n)
    rw [hr] at h1
    refine (div_uniq F hbg tg (el_divQ F _ _) eQ (el_nil F) (el_nil F) (divQ_bd _ _) bQ (fun _ _ => rfl) (fun _ _ => rfl) (h1.trans ?_)).1
    rw [hQ]
    funext j
    show whl D n j = D.ad (whl D n j) 0
    rw [ad_zero F (whl_el F n j)]
  refine ⟨hd, ?_, ?_⟩
  · unfold FD.quo
    rw [hd, hn, hq]
    exact dgn_self (fun _ => tQ)
  · unfold FD.rst
    rw [hd, hn, hr]
    exact dgn_is (m := 0) (fun _ _ => rfl) (fun _ _ => rfl) (fun h => absurd rfl h)

set_option maxHeartbeats 16000000 in
set_option maxRecDepth 100000 in
theorem cOf_mv {D : FD} (hD : D ∈ fieldsL) {go : Option Addr} {m n K cg : Nat} {g Q : Nat → Nat} {w : World} (hG : Arg go m cg (fun j => ((g j : Nat) : Int)) w) (hm : 1 ≤ m) (eg : El D g) (bg : Bd m g) (tg : g (m - 1) ≠ 0) (hn1 : 1 ≤ n) (hn : n ≤ 64) (hK : K + m = n + 1) (eQ : El D Q) (bQ : Bd (K + 1) Q) (tQ : Q K ≠ 0) (hQ : pmul D (K + 1) Q g = whl D n) :
    Calls Try.prog 108 #[.int .i64 D.q, .int .i64 (n : Nat), .slice go m cg] w fun x w' => ∃ k R ro rc, x = .returned (.tuple #[.agg #[.int .i64 D.q, .int .i64 (n : Nat), .slice ro k rc], .int .i64 0]) ∧ MV w.heap.size (.slice ro k rc) k n R w' ∧ Red D n K (fun i => psh i g) k R ∧ Below w.heap.size w w' := by
  obtain ⟨hd1, hd2, hd3⟩ := whl_div hD hm eg bg tg hK eQ bQ tQ hQ
  have F := fld hD
  obtain ⟨w0, hw0⟩ : ∃ w0, w0 = w.alloc (.cells #[.int .i64 0, .int .i64 0, .slice none 0 0] 49) := ⟨_, rfl⟩
  have HW : Hid (Below w.heap.size w w0 ∧ RB w.heap.size w0 ∧ w0.heap.size = w.heap.size + 1) := by
    rw [hw0]; exact ⟨(Below.refl _ _).alloc (Nat.le_refl _) _, RB.new _ _ _ _, by simp⟩
  have HCk : Hid (∀ wx, Below w.heap.size w wx → Calls Try.prog 63 #[.int .i64 D.q, .slice go m cg] wx fun e w' => e = .returned (.int .i64 0) ∧ Below wx.heap.size wx w') := fun wx hx => by
    have h := check_any (cap := cg) hD (hG.below hx).sl (hG.below hx).lt hG.few
    rw [chk_natg eg (by omega)] at h; exact h
  obtain ⟨N1, hN1⟩ : ∃ N1, N1 = n + 1 := ⟨_, rfl⟩
  obtain ⟨K1, hK1⟩ : ∃ K1, K1 = K + 1 := ⟨_, rfl⟩
  have HDv : Hid (∀ wx wo cw, Below w.heap.size w wx → Arg wo N1 cw (fun j => ((whl D n j : Nat) : Int)) wx → Calls Try.prog 135 #[.int .i64 D.q, .slice wo N1 cw, .slice go m cg] wx fun e w' => ∃ qo qc ro rc, e = .returned (.tuple #[.slice qo K1 qc, .slice ro 0 rc, .int .i64 0]) ∧ Below wx.heap.size wx w') := fun wx wo cw hx ha => by
    rw [hN1] at ha ⊢
    rw [hK1]
    refine (pdiv_any hD ha (hG.below hx)).mono ?_
    have hz1 : zc (n + 1) (fun j => ((whl D n j : Nat) : Int)) = whl D n := zc_natg whl_bd
    have hz2 : zc m (fun j => ((g j : Nat) : Int)) = g := zc_natg bg
    have hc2 : D.chk2 (n + 1) (fun j => ((whl D n j : Nat) : Int)) m (fun j => ((g j : Nat) : Int)) = 0 := by
      unfold FD.chk2
      rw [if_pos (chk_natg (whl_el F n) (by omega)), chk_natg eg (by omega)]
    rw [hz1, hz2, hc2]
    rintro e w' ⟨hb, h | h | h⟩
    · obtain ⟨_, _, v, u, rfl, o1, o2⟩ := h
      rw [hd2] at o1
      rw [hd3] at o2
      obtain ⟨qo, qc, rfl, _⟩ := o1.open
      obtain ⟨ro, rc, rfl, _⟩ := o2.open
      exact ⟨qo, qc, ro, rc, rfl, hb⟩
    · exact absurd (h.2.1.symm.trans hd1) (by omega)
    · exact absurd rfl h.1
  have HA : Hid (D ∈ fieldsL ∧ Arg go m cg (fun j => ((g j : Nat) : Int)) w ∧ El D g ∧ Bd m g) := ⟨hD, hG, eg, bg⟩
  have hz1 : ¬ (n : Int) < 1 := by omega
  have hz2 : ¬ (64 : Int) < (n : Int) := by omega
  have HKi : Hid (((K1 : Nat) : Int) - 1 = ((K : Nat) : Int)) := by show ((K1 : Nat) : Int) - 1 = _; omega
  have hK1b : 1 ≤ K1 ∧ K1 ≤ 66 := by omega
  have HN : Hid (((n : Nat) : Int) + 1 = ((N1 : Nat) : Int) ∧ N1 = n + 1 ∧ K + m = n + 1) := ⟨by omega, hN1, hK⟩
  have h1q : 1 < D.q := by have := F.q2; omega
  obtain ⟨ng1, hng⟩ : ∃ ng1, ng1 = D.ng 1 := ⟨_, rfl⟩
  have HNg : Hid (ng1 = D.ng 1) := hng
  clear hG eg bg tg eQ bQ tQ hQ hd1 hd2 hd3 hD hN1 hK1 hng
  have hN1b : 2 ≤ N1 ∧ N1 ≤ 65 := by have := HN.out.2.1; omega
  have hKb : K ≤ 64 := by omega
  go_enter Try.func108, Try.ntmps108
  go_wp2_with fail
  rw [← hw0]
  clear hw0
  refine (HCk.out _ HW.out.1).mono ?_
  rintro e w1 ⟨rfl, hb1⟩
  have H1 : Hid (Below w.heap.size w w1 ∧ RB w.heap.size w1 ∧ w.heap.size < w1.heap.size) := ⟨bel_up' HW.out.1 hb1, HW.out.2.1.keep hb1, by have := hb1.size; have := HW.out.2.2; omega⟩
  clear hb1 HW HCk
  go_wp2_with fail
  refine (new_any HA.out.1 w1).mono ?_
  rintro x w2 ⟨Fp, Tp, gf, rfl, hat, _, _, hb2⟩
  have H2 : Hid (Below w.heap.size w w2 ∧ RB w.heap.size w2 ∧ w.heap.size < w2.heap.size ∧ FAt Fp Tp D gf w2) := ⟨bel_up' H1.out.1 hb2, H1.out.2.1.keep hb2, by have := hb2.size; have := H1.out.2.2; omega, hat⟩
  clear hat hb2 H1
  have hin : (n : Int) < (N1 : Int) := by have := HN.out.2.1; omega
  have hi0 : (0 : Int) < (N1 : Int) := by omega
  have hnn0 : (0 : Int) ≤ (n : Int) := by omega
  go_wp2_with (first | (at_make; refine make_int rfl _ _ rfl _ N1 rfl rfl HN.out.1 (by omega) ?_; intro w3 hown3 hgrow3))
  have H3 : Hid (Row w2.heap.size N1 pnil w3 ∧ Below w2.heap.size w2 w3) := ⟨row_zeros hown3, below_grown hgrow3 (Nat.le_refl _) (fun k hk => by simp at hk)⟩
  clear hown3 hgrow3
  have HNeg : Hid (Calls Try.prog 134 #[.pointer (some ⟨Fp, 0, none⟩), .int .i64 1] w3 fun e w' => e = .returned (.int .i64 (ng1 : Nat)) ∧ ∃ k, w' = w3.drewN k) := by
    have h := neg_nat HA.out.1 (H2.out.2.2.2.below H3.out.2 H2.out.2.2.2.ltF H2.out.2.2.2.ltT) (a := 1) h1q
    rw [← HNg.out] at h
    exact h
  refine HNeg.out.mono ?_
  rintro e w4 ⟨rfl, k4, hw4⟩
  obtain ⟨G, hG⟩ : ∃ G, G = w2.heap.size := ⟨_, rfl⟩
  have hr4 : Row G N1 pnil w4 := by rw [hw4, hG]; exact H3.out.1.drewN k4
  have hb4 : Below w2.heap.size w2 w4 := by rw [hw4]; exact below_drewN2 H3.out.2 k4
  rw [← hG]
  have c0 := hr4.cell 0 (by omega)
  have f0 := hr4.free 0
  have hr5 := hr4.store 0 ng1 (d := fun j => if j = 0 then ng1 else 0) (fun j _ => rfl)
  have c1 := hr5.cell n (by have := HN.out.2.1; omega)
  have f1 := hr5.free n
  have hr6 := hr5.store n 1 (d := whl D n) (fun j _ => by show whl D n j = _; unfold whl; rw [HNg.out])
  obtain ⟨w6, hw6⟩ : ∃ w6, w6 = (w4.setCell ⟨G, 0, none⟩ (.int .i64 (ng1 : Nat))).setCell ⟨G, n, none⟩ (.int .i64 ((1 : Nat) : Int)) := ⟨_, rfl⟩
  rw [← hw6] at hr6
  have H6 : Hid (Row G N1 (whl D n) w6 ∧ Below w.heap.size w w6 ∧ RB w.heap.size w6 ∧ w.heap.size < w6.heap.size) := by
    have hb6 : Below w2.heap.size w2 w6 := by rw [hw6]; exact (hb4.setCell (show w2.heap.size ≤ G by omega) _).setCell (show w2.heap.size ≤ G by omega) _
    exact ⟨hr6, bel_up' H2.out.1 hb6, H2.out.2.1.keep hb6, by have := hb6.size; have := H2.out.2.2.1; omega⟩
  clear hr4 hr5 hr6 hb4 hw4 hG H3 HNeg
  go_wp2_with fail
  rw [show (1 : Int) = ((1 : Nat) : Int) from rfl, ← hw6]
  clear hw6 c0 c1 f0 f1
  refine (HDv.out w6 _ N1 H6.out.2.1 ⟨slz_ofg (H6.out.1.sl (Nat.le_refl _)), fun x hx => by cases hx; exact H6.out.1.lt, by omega, (fun e => by cases e), Nat.le_refl _, by omega⟩).mono ?_
  rintro e w7 ⟨qo, qc, ro, rc, rfl, hb7⟩
  have H7 : Hid (Below w.heap.size w w7 ∧ RB w.heap.size w7 ∧ w.heap.size < w7.heap.size) := ⟨bel_up' H6.out.2.1 hb7, H6.out.2.2.1.keep hb7, by have := hb7.size; have := H6.out.2.2.2; omega⟩
  clear hb7 H6 H2 HDv
  go_wp2_with (first | (at_make; refine make_sls rfl _ _ rfl _ K rfl rfl HKi.out (by omega) ?_; intro w8 hrow8 hgrow8))
  have H8 : Hid (Mx w7.heap.size w7.heap.size K 0 n (fun i => psh i g) (fun _ => 0) w8 ∧ Below w7.heap.size w7 w8) := ⟨⟨⟨_, hrow8, fun i hi => absurd hi (by omega)⟩, fun i hi => absurd hi (by omega), Nat.le_refl _, fun i hi => absurd hi (by omega), fun i hi => absurd hi (by omega), fun i hi => absurd hi (by omega), by omega⟩, below_grown hgrow8 (Nat.le_refl _) (fun k hk => by simp at hk)⟩
  clear hrow8 hgrow8
  go_loopw [71] (fun vi wr => ∃ r : Nat, ∃ h : Nat → Nat, r ≤ K ∧ vi = .int .i64 r ∧ Hid (Mx w7.heap.size w7.heap.size K r n (fun i => psh i g) h wr ∧ Below w7.heap.size w7 wr)) (fun vi _ => K - (intOf vi).toNat)
  case atStart => exact ⟨0, _, by omega, rfl, H8.out⟩
  case round =>
    clear H8
    obtain ⟨r, h, hr, rfl, HG⟩ := hrel
    rename World => wr
    by_cases hlt : r < K
    · have hib : (r : Int) < (K : Int) := by omega
      have hsz := HG.out.2.size
      have hGl := HG.out.1.ltG
      have hrm : r + m ≤ n := by have := HN.out.2.2; omega
      have hrn : (r : Int) ≤ (n : Int) := by omega
      have hr0 : (0 : Int) ≤ (r : Int) := by omega
      go_wp2_with (first
        | (at_make
           refine make_int rfl _ _ rfl _ n rfl rfl (by omega) (by omega) ?_
           intro w9 hown9 hgrow9
           have hb9 : Below wr.heap.size wr w9 := below_grown hgrow9 (Nat.le_refl _) (fun k hk => by simp at hk)
           obtain ⟨f, hf, _⟩ := (HG.out.1.below hb9).outer
           have hcG := hf.cell r hlt
           have hfG := hf.free r
           have hcG2 := (hf.store r (.slice (some ⟨wr.heap.size, 0, none⟩) n n)).cell r hlt
           rw [upd_at] at hcG2
           have hrw := (row_zeros hown9).other (Below.heap_setCell w9 ⟨w7.heap.size, r, none⟩ (.slice (some ⟨wr.heap.size, 0, none⟩) n n) wr.heap.size (by show wr.heap.size ≠ w7.heap.size; omega))
           have hbs : Below w7.heap.size w7 (w9.setCell ⟨w7.heap.size, r, none⟩ (.slice (some ⟨wr.heap.size, 0, none⟩) n n)) := (bel_up' HG.out.2 hb9).setCell (Nat.le_refl _) _
           have HSg : Hid (Row wr.heap.size n pnil (w9.setCell ⟨w7.heap.size, r, none⟩ (.slice (some ⟨wr.heap.size, 0, none⟩) n n)) ∧ Sl go m g (w9.setCell ⟨w7.heap.size, r, none⟩ (.slice (some ⟨wr.heap.size, 0, none⟩) n n)) ∧ Below w7.heap.size w7 (w9.setCell ⟨w7.heap.size, r, none⟩ (.slice (some ⟨wr.heap.size, 0, none⟩) n n)) ∧ Below wr.heap.size wr w9) := ⟨hrw, (HA.out.2.1.below (bel_up' H7.out.1 hbs)).sl, hbs, hb9⟩
           clear hrw hbs hf hown9 hgrow9 hb9)
        | (show wpList _ _ _ (Oper.mk (some 86) _ _ _ _ _ :: _) _ _
           refine copy_at rfl _ _ rfl wr.heap.size n r (n - r) (n - r) m cg go rfl rfl pnil g HSg.out.1 HSg.out.2.1 (by omega) (by omega) wr.heap.size (w9.setCell ⟨w7.heap.size, r, none⟩ (.slice (some ⟨wr.heap.size, 0, none⟩) n n)) (Below.refl _ _) (Nat.le_refl _) ?_
           intro w10 hrow10 hb10))
      have HR : Hid (∃ h', Mx w7.heap.size w7.heap.size K (r + 1) n (fun i => psh i g) h' w10 ∧ Below w7.heap.size w7 w10) := by
        have e : (fun k => if r ≤ k ∧ k < r + m then g (k - r) else pnil k) = psh r g := by
          funext k
          unfold psh
          by_cases e1 : r ≤ k
          · rw [if_pos e1]
            by_cases e2 : k < r + m
            · rw [if_pos ⟨e1, e2⟩]
            · rw [if_neg (by omega), HA.out.2.2.2 (k - r) (by omega)]; rfl
          · rw [if_neg e1, if_neg (fun h => e1 h.1)]; rfl
        rw [e] at hrow10
        have hpush := HG.out.1.push hlt HSg.out.2.2.2 hb10 hrow10 hsz
        refine ⟨_, hpush.congr (fun i hi j hj => ?_), HSg.out.2.2.1.trans (hb10.mono hsz)⟩
        by_cases e : i = r
        · rw [if_pos e, e]
        · rw [if_neg e]
      clear hrow10 hb10
      obtain ⟨h', hR'⟩ := HR.out
      go_roundw
      case rel => exact ⟨r + 1, h', by omega, by go_num, hR'⟩
      case measure => simp [intOf]; omega
    · have hib : ¬ (r : Int) < (K : Int) := by omega
      have hre : K = r := by omega
      subst hre
      have HMk : Hid (Calls Try.prog 136 #[.agg #[.int .i64 D.q, .int .i64 (n : Nat), .slice (some ⟨w7.heap.size, 0, none⟩) K K]] wr fun x w' => ∃ k R ro rc, x = .returned (.tuple #[.agg #[.int .i64 D.q, .int .i64 (n : Nat), .slice ro k rc], .int .i64 0]) ∧ MV wr.heap.size (.slice ro k rc) k n R w' ∧ Red D n K (fun i => psh i g) k R ∧ Below wr.heap.size wr w') := by
        have hbd : ∀ i, i < K → Bd n (psh i g) := fun i hi k hk => by
          have := HN.out.2.2
          unfold psh
          split
          · exact HA.out.2.2.2 (k - i) (by omega)
          · rfl
        have hel : ∀ i, i < K → El D (psh i g) := fun i hi k => by
          unfold psh
          split
          · exact HA.out.2.2.1 _
          · omega
        obtain ⟨A, C, hcd⟩ := (HG.out.1.rlz (Nat.le_refl _) (by omega) K).cdz (D := D) hn1 hn (by omega) hel
        have hcod : Cod D n (some ⟨w7.heap.size, 0, none⟩) K (fun i => psh i g) wr := ⟨A, _, C, _, hcd, fun i hi => mzc_rows hbd i hi⟩
        refine (cMake_ok HA.out.1 hcd (hcod.chk HA.out.1 K)).mono ?_
        rintro x w' ⟨k, R, ro, rc, rfl, h1, h2, h3⟩
        exact ⟨k, R, ro, rc, rfl, h1, h2.of_eq (fun i hi => mzc_rows hbd i hi), h3⟩
      go_wp2_with fail
      refine HMk.out.mono ?_
      rintro x w11 ⟨k, R, ro, rc, rfl, hmv, hred, hb11⟩
      have H11 : Hid (MV wr.heap.size (.slice ro k rc) k n R w11 ∧ Red D n K (fun i => psh i g) k R ∧ Below w.heap.size w w11 ∧ RB w.heap.size w11 ∧ w.heap.size < wr.heap.size) := by
        have hbb := bel_up' HG.out.2 hb11
        exact ⟨hmv, hred, bel_up' H7.out.1 hbb, H7.out.2.1.keep hbb, by have := HG.out.2.size; have := H7.out.2.2; omega⟩
      clear hmv hred hb11
      obtain ⟨⟨x0, c0⟩, ⟨x1, c1⟩, ⟨x2, c2⟩, f0, f1, f2⟩ := H11.out.2.2.2.1
      go_wp2
      obtain ⟨w12, hw12⟩ : ∃ w12, w12 = laid w11 w.heap.size D.q (n : Nat) (.slice ro k rc) := ⟨_, rfl⟩
      have H12 : Hid (CB w.heap.size D.q (n : Nat) (.slice ro k rc) w12 ∧ MV w.heap.size (.slice ro k rc) k n R w12 ∧ Below w.heap.size w w12) := by
        rw [hw12]; exact ⟨laid_cb H11.out.2.2.2.1 _ _ _, (laid_mv H11.out.1 H11.out.2.2.2.2 _ _ _).mono (Nat.le_of_lt H11.out.2.2.2.2), laid_below H11.out.2.2.1 (Nat.le_refl _) _ _ _⟩
      unfold laid at hw12
      rw [← hw12]
      clear hw12 c0 c1 c2 f0 f1 f2
      obtain ⟨c0, c1, c2⟩ := H12.out.1
      refine bodyPost_ret (v := .tuple #[.agg #[.int .i64 D.q, .int .i64 (n : Nat), .slice ro k rc], .int .i64 0]) (by simp [results, Try.results108, go_sem, c0, c1, c2]) rfl ?_
      exact ⟨_, R, _, _, rfl, H12.out.2.1, H11.out.2.1, H12.out.2.2⟩
theorem cOf_ok {D : FD} (hD : D ∈ fieldsL) {go : Option Addr} {m n K cg : Nat} {g Q : Nat → Nat} {w : World} (hG : Arg go m cg (fun j => ((g j : Nat) : Int)) w) (hm : 1 ≤ m) (eg : El D g) (bg : Bd m g) (tg : g (m - 1) ≠ 0) (hn1 : 1 ≤ n) (hn : n ≤ 64) (hK : K + m = n + 1) (eQ : El D Q) (bQ : Bd (K + 1) Q) (tQ : Q K ≠ 0) (hQ : pmul D (K + 1) Q g = whl D n) :
    Calls Try.prog 108 #[.int .i64 D.q, .int .i64 (n : Nat), .slice go m cg] w fun x w' => ∃ k R ro rc, x = .returned (.tuple #[.agg #[.int .i64 D.q, .int .i64 (n : Nat), .slice ro k rc], .int .i64 0]) ∧ Cod D n ro k R w' ∧ Red D n K (fun i => psh i g) k R ∧ Below w.heap.size w w' := by
  refine (cOf_mv hD hG hm eg bg tg hn1 hn hK eQ bQ tQ hQ).mono ?_
  rintro x w' ⟨k, R, ro, rc, rfl, h1, h2, h3⟩
  have hk := h2.le
  exact ⟨k, R, ro, rc, rfl, h1.cod hn1 hn (by omega) h2.rows.1 h2.rows.2, h2, h3⟩
end Go.Proofs.Ytjkncdmbcckcdaa
