/- Texts of ours, one behind the other: KT13 S72 S73. -/
import Derived.Test.YtppggchhkckobaaGreatZKT9
import Derived.Test.YtppggchhkckobaaGreatZS69
import Derived.Test.YtppggchhkckobaaGreatZS49
import Derived.Test.YtppggchhkckobaaGreatZS24
/- Cyclic: Bound. -/
namespace Go.Proofs.YtppggchhkckobaaGreat
open Go.RowKit Go.Sort Go.Maps

theorem Tg.below {B : Nat} {L : List Nat} {w w' : World} (h : Tg B L w) (hb : Below w.heap.size w w') : Tg B L w' := by
  obtain ⟨D, ⟨es, ck, h1, h2, h3, h4⟩, hD⟩ := h
  have hlt : B < w.heap.size := by
    rcases Nat.lt_or_ge B w.heap.size with c | c
    · exact c
    · rw [Array.getElem?_eq_none c] at h1; cases h1
  exact ⟨D, ⟨es, ck, by rw [hb.block B hlt]; exact h1, h2, h3, h4⟩, hD⟩
theorem enters_bd1 : ∀ args w, (callFunc 51 args).run Tryz.prog w = .ok (.enter 51 args) w :=
  enters_of Tryz.func51 (by kernel_rfl) rfl
set_option maxHeartbeats 2000000 in
theorem bd1_any {C B x : Nat} {L : List Nat} {w : World} (hc : w.cell? ⟨C, 0, none⟩ = some (.map (some B))) (ht : Tg B L w) (hx : x ≤ 1000) :
    Calls Tryz.prog 51 #[.int .i64 (x : Nat), .pointer (some ⟨C, 0, none⟩)] w fun e w' => e = .returned (.bool (L.contains x)) ∧ w' = w := by
  obtain ⟨D, hown, hD⟩ := ht
  have HOw : Hid (w.ownsMap Tryz.prog 3 (plainElem Tryz.prog 3) B L.length D ∧ TgD D L) := ⟨hown, hD⟩
  have hxw : (Lit.int .i64 (x : Nat)).wf = true := ct_wf hx
  clear hown hD hx
  by_cases hmem : x ∈ L
  · rw [List.contains_iff_mem.2 hmem]
    go_enter Tryz.func51, Tryz.ntmps51
    go_wp2_with (at_lookup; refine wpList_lookup_own_int _ rfl _ _ 55 rfl 3 3 .i64 ct_law ct_map cty_int (ct_zero _) B L.length _ rfl HOw.out.1 _ _ rfl (ct_key _ hxw) ?_; intro c hat hwc; obtain rfl : c = 1 := lit_inj (hat.symm.trans (HOw.out.2.yes x hmem)); clear hat hwc)
    go_ret
    exact ⟨rfl, rfl⟩
  · have hf : L.contains x = false := by
      cases h : L.contains x with
      | false => rfl
      | true => exact absurd (List.contains_iff_mem.1 h) hmem
    rw [hf]
    go_enter Tryz.func51, Tryz.ntmps51
    go_wp2_with (at_lookup; refine wpList_lookup_own_int _ rfl _ _ 55 rfl 3 3 .i64 ct_law ct_map cty_int (ct_zero _) B L.length _ rfl HOw.out.1 _ _ rfl (ct_key _ hxw) ?_; intro c hat hwc; obtain rfl : c = 0 := lit_inj (hat.symm.trans (HOw.out.2.no x hmem)); clear hat hwc)
    go_ret
    exact ⟨rfl, rfl⟩
/-- The bound's number, less 1. -/
def bnr (n : Nat) (L : List Nat) : Nat := mxn (fun s => if Nat.gcd (s + 1) n = 1 then iar n (s + 1) (fun x => L.contains x) else 0) n
theorem bnr_le (n : Nat) (L : List Nat) : bnr n L ≤ n := mxn_le n (fun s _ => by
  show (if _ then _ else _) ≤ n
  split
  · exact iar_le _ _ _
  · omega)

set_option maxHeartbeats 8000000 in
set_option maxRecDepth 100000 in
theorem bound_ok {q n m zc : Nat} {zo : Option Addr} {z : Nat → Nat} {w : World} (hq : q ≤ 64) (hn1 : 1 ≤ n) (hn : n ≤ 64) (hm : m ≤ 1000) (hz : SlZ zo m (fun i => ((z i : Nat) : Int)) w) (hzl : LtB zo w.heap.size) (hzn : ∀ i, i < m → z i < n)
    (hC : Calls Tryz.prog 35 #[.int .i64 (q : Nat), .int .i64 (n : Nat), .slice zo m zc] w fun x w' => x = .returned (.int .i64 0) ∧ Below w.heap.size w w') :
    Calls Tryz.prog 13 #[.int .i64 (q : Nat), .int .i64 (n : Nat), .slice zo m zc] w fun x w' => ∃ L, x = .returned (.tuple #[.int .i64 (bnr n L + 1 : Nat), .int .i64 0]) ∧ TgL q n z m L ∧ Below w.heap.size w w' := by
  have HC : Hid (Calls Tryz.prog 35 #[.int .i64 (q : Nat), .int .i64 (n : Nat), .slice zo m zc] w fun x w' => x = .returned (.int .i64 0) ∧ Below w.heap.size w w') := hC
  have HZ : Hid (SlZ zo m (fun i => ((z i : Nat) : Int)) w ∧ LtB zo w.heap.size ∧ ∀ i, i < m → z i < n) := ⟨hz, hzl, hzn⟩
  clear hC hz hzl hzn
  go_enter Tryz.func13, Tryz.ntmps13
  go_wp2_with fail
  refine HC.out.mono ?_
  rintro x w1 ⟨rfl, hb1⟩
  have H1 : Hid (Below w.heap.size w w1) := hb1
  clear hb1 HC
  go_wp2_with fail
  refine (cytog_any hq hn1 hn hm (fun i hi => by
    obtain ⟨b, off, e, k⟩ := HZ.out.1 i hi
    exact ⟨b, off, e, (H1.out.cell (p := ⟨b, off + i, none⟩) (show b < w.heap.size from HZ.out.2.1 _ e)).trans k⟩) (fun x hx => Nat.lt_of_lt_of_le (HZ.out.2.1 x hx) H1.out.size) HZ.out.2.2).mono ?_
  rintro e w2 ⟨L, rfl, htg, htl, hb2⟩
  obtain ⟨B, hB⟩ : ∃ B, B = w1.heap.size := ⟨_, rfl⟩
  rw [← hB] at htg
  rw [← hB]
  have hlc : ∀ v, w2.cell? ⟨w2.heap.size, 0, none⟩ = v → v = v := fun _ _ => rfl
  obtain ⟨w3, hw3⟩ : ∃ w3, w3 = w2.alloc (.cells #[.map (some B)] 55) := ⟨_, rfl⟩
  have hb3 : Below w2.heap.size w2 w3 := by rw [hw3]; exact (Below.refl _ _).alloc (Nat.le_refl _) _
  have hc3 : w3.cell? ⟨w2.heap.size, 0, none⟩ = some (.map (some B)) := by rw [hw3, cell_of_row _ _ _ _ _ (0, 0) (two_new _)]; rfl
  have hs3 : w3.heap.size = w2.heap.size + 1 := by rw [hw3]; simp
  have H3 : Hid (Tg B L w3 ∧ TgL q n z m L ∧ Below w.heap.size w w3 ∧ w3.cell? ⟨w2.heap.size, 0, none⟩ = some (.map (some B)) ∧ w3.heap.size = w2.heap.size + 1) := ⟨htg.below hb3, htl, bel_up' (bel_up' H1.out hb2) hb3, hc3, hs3⟩
  clear htg htl hb2 hB hb3 hc3 hs3 hlc H1 HZ
  obtain ⟨C, hCe⟩ : ∃ C, C = w2.heap.size := ⟨_, rfl⟩
  rw [← hCe] at H3
  obtain ⟨F, hF⟩ : ∃ F : Nat → Nat, F = fun s => if Nat.gcd (s + 1) n = 1 then iar n (s + 1) (fun x => L.contains x) else 0 := ⟨_, rfl⟩
  have HF : Hid ((F = fun s => if Nat.gcd (s + 1) n = 1 then iar n (s + 1) (fun x => L.contains x) else 0) ∧ bnr n L = mxn F n) := ⟨hF, by rw [hF]; rfl⟩
  have HFn : Hid (∀ f, F f ≤ n) := fun f => by
    rw [hF]
    show (if _ then _ else _) ≤ n
    split
    · exact iar_le _ _ _
    · omega
  clear hF
  go_wp2
  rw [← hw3, ← hCe]
  clear hw3 hCe
  go_loopw [10, 11] (fun vm vs wr => ∃ s : Nat, s ≤ n ∧ vs = .int .i64 ((s : Int) + 1) ∧ vm = .int .i64 (mxn F s : Nat) ∧ Hid (Below w3.heap.size w3 wr)) (fun _ vs _ => n + 1 - (intOf vs).toNat)
  case atStart => exact ⟨0, by omega, rfl, rfl, Below.refl _ _⟩
  case round =>
    obtain ⟨s, hs, rfl, rfl, HW⟩ := hrel
    rename World => wr
    obtain ⟨m0, hm0⟩ : ∃ m0, m0 = mxn F s := ⟨_, rfl⟩
    have hm0n : m0 ≤ 64 := by rw [hm0]; have := mxn_le (f := F) (B := n) s (fun i _ => HFn.out i); omega
    rw [← hm0]
    have HM : Hid (m0 = mxn F s) := hm0
    clear hm0
    obtain ⟨s1, hs1⟩ : ∃ s1, s1 = s + 1 := ⟨_, rfl⟩
    have hs1i : (s : Int) + 1 = (s1 : Int) := by omega
    rw [hs1i]
    have HS : Hid (s1 = s + 1) := hs1
    by_cases hlt : s < n
    · have hib : (s1 : Int) ≤ (n : Int) := by omega
      have hb1 : s1 ≤ 64 := by omega
      clear hs1i hs1
      go_wp2_with fail
      refine (cdiv_any (a := s1) (b := n) (by omega) (by omega) wr).mono ?_
      rintro e w4 ⟨rfl, hb4⟩
      have H4 : Hid (Below w3.heap.size w3 w4) := bel_up' HW.out hb4
      clear hb4 HW
      obtain ⟨gd, hgd⟩ : ∃ gd, gd = Nat.gcd s1 n := ⟨_, rfl⟩
      rw [← hgd]
      by_cases h1 : gd = 1
      · have h1b : ((gd : Int) == 1) = true := by rw [beq_iff_eq]; omega
        obtain ⟨x, hx⟩ : ∃ x, x = iar n s1 (fun x => L.contains x) := ⟨_, rfl⟩
        have HI : Hid (Calls Tryz.prog 50 #[.int .i64 (n : Nat), .int .i64 (s1 : Nat), .func (.func 51) #[] #[.pointer (some ⟨C, 0, none⟩)]] w4 fun e w' => e = .returned (.int .i64 (x : Nat)) ∧ w' = w4) := by
          rw [hx]
          refine iar_any enters_bd1 hn1 hn hb1 (fun y hy => ?_)
          have e : (#[Value.int .i64 (y : Nat)] ++ #[Value.pointer (some ⟨C, 0, none⟩)] : Array Value) = #[.int .i64 (y : Nat), .pointer (some ⟨C, 0, none⟩)] := rfl
          rw [e]
          exact bd1_any ((H4.out.cell (p := ⟨C, 0, none⟩) (cell_lt H3.out.2.2.2.1)).trans H3.out.2.2.2.1) (H3.out.1.below H4.out) (by omega)
        have hxn : x ≤ 64 := by rw [hx]; have := iar_le n s1 (fun x => L.contains x); omega
        have HMx : Hid (max (m0 : Int) (x : Int) = ((mxn F (s + 1) : Nat) : Int)) := by
          show _ = ((max (mxn F s) (F s) : Nat) : Int)
          have e : F s = x := by
            rw [HF.out.1, hx, HS.out]
            show (if _ then _ else _) = _
            rw [if_pos (by rw [← HS.out, ← hgd]; exact h1)]
          rw [← HM.out, e]; omega
        clear hx hgd
        go_wp2_with fail
        refine HI.out.mono ?_
        rintro e w5 ⟨rfl, hw5⟩
        have hw5 := hw5.symm
        subst hw5
        go_wp2
        go_roundw
        case rel => exact ⟨s + 1, by omega, by (have := HS.out; subst this; first | rfl | go_num), by rw [HMx.out], H4.out⟩
        case measure => have := HS.out; subst this; simp [intOf]; omega
      · have h1b : ((gd : Int) == 1) = false := by rw [beq_eq_false_iff_ne]; omega
        have HMx : Hid (m0 = mxn F (s + 1)) := by
          show _ = max (mxn F s) (F s)
          have e : F s = 0 := by
            rw [HF.out.1]
            show (if _ then _ else _) = _
            rw [if_neg (by rw [← HS.out, ← hgd]; exact h1)]
          rw [← HM.out, e]; omega
        clear hgd
        go_wp2
        go_roundw
        case rel => exact ⟨s + 1, by omega, by (have := HS.out; subst this; first | rfl | go_num), by rw [← HMx.out], H4.out⟩
        case measure => have := HS.out; subst this; simp [intOf]; omega
    · have hib : ¬ (s1 : Int) ≤ (n : Int) := by omega
      have hfn : s = n := by omega
      have HE : Hid (bnr n L = m0) := by
        show _ = _
        rw [HF.out.2, HM.out, hfn]
      clear hs1i hs1
      go_wp2
      go_ret2
      exact ⟨L, by rw [HE.out]; rfl, H3.out.2.1, bel_up' H3.out.2.2.1 HW.out⟩
end Go.Proofs.YtppggchhkckobaaGreat

/- Zeros in a row keep words apart (plain mathematics). -/
namespace Go.Proofs.YtppggchhkckobaaGreat

theorem rng_scale {D E : FD} {φ : Nat → Nat} (F : Fld D) (h : Rng D E φ) (s : Nat) {a : Nat} (ha : a < D.q) : φ (D.mul s a) = E.mul (φ (D.mul s 1)) (φ a) := by
  have e : D.mul s a = D.mul (D.mul s 1) a := by rw [F.mul_assoc, omul F ha]
  rw [e, h.mul _ _ (F.mul_lt _ _) ha]
/-- All multiples of a polynomial are 0 where it is. -/
theorem spn_root {E G : FD} {φ : Nat → Nat} (FE : Fld E) (FG : Fld G) (h : Rng E G φ) {g : Nat → Nat} {M K n x : Nat} (eg : El E g) (bg : Bd M g) (hK : K + M = n + 1) (hx : G.ev (fun i => φ (g i)) x M = 0) {v : Nat → Nat} (hv : Spn E (RowsOf K fun i => psh i g) v) :
    El E v ∧ G.ev (fun i => φ (v i)) x n = 0 := by
  have hel : ∀ u : Nat → Nat, El E u → El G (fun i => φ (u i)) := fun u hu i => h.lt _ (hu i)
  refine spn_ind (Q := fun v => El E v ∧ G.ev (fun i => φ (v i)) x n = 0) ?_ ?_ ?_ ?_ hv
  · refine ⟨el_nil FE, ?_⟩
    have e : (fun i => φ ((pnil : Nat → Nat) i)) = pnil := funext fun i => h.zero
    rw [e, ev_nil FG]
  · rintro u v ⟨hu, eu⟩ ⟨hv, ev⟩
    refine ⟨el_add FE hu hv, ?_⟩
    have e : (fun i => φ (padd E u v i)) = padd G (fun i => φ (u i)) (fun i => φ (v i)) := funext fun i => h.ad _ _ (hu i) (hv i)
    rw [e, ev_add FG x (hel u hu) (hel v hv), eu, ev, ad_zero FG (zero_lt' FG)]
  · rintro s v ⟨hv, ev⟩
    refine ⟨el_scale FE _ _, ?_⟩
    have e : (fun i => φ (pscale E s v i)) = pscale G (φ (E.mul s 1)) (fun i => φ (v i)) := funext fun i => rng_scale FE h s (hv i)
    rw [e, ev_scale FG, ev, mul0 FG]
  · rintro v ⟨i, hi, rfl⟩
    refine ⟨el_sh FE i eg, ?_⟩
    have e : (fun j => φ (psh i g j)) = psh i (fun j => φ (g j)) := funext fun j => by
      show φ (if i ≤ j then g (j - i) else 0) = if i ≤ j then φ (g (j - i)) else 0
      split
      · rfl
      · exact h.zero
    have hb : Bd M (fun j => φ (g j)) := fun j hj => by show φ (g j) = 0; rw [bg j hj, h.zero]
    show G.ev (fun j => φ (psh i g j)) x n = 0
    rw [e, show n = i + (n - i) by omega, ev_sh FG, ev_from FG x hb (by omega), hx, mul0 FG]
/-- Sums of powers that are 0, and so many numbers that are not: all are. -/
theorem van_swap {D : FD} (F : Fld D) {c P xs : Nat → Nat} (n : Nat) : ∀ r, (∀ i, i < r → dot D c (fun j => D.xp (xs j) i) n = 0) → dot D c (fun j => D.ev P (xs j) r) n = 0
  | 0, _ => by
    have : (fun j => D.ev P (xs j) 0) = pnil := rfl
    rw [this, dot_comm F, dot_nil F]
  | r + 1, h => by
    have ih := van_swap F (P := P) n r (fun i hi => h i (by omega))
    have e : (fun j => D.ev P (xs j) (r + 1)) = padd D (fun j => D.ev P (xs j) r) (pscale D (P r) fun j => D.xp (xs j) r) := rfl
    rw [e, dot_comm F, dot_add F (fun j => ev_lt F _ _ _) (el_scale F _ _), dot_scale F, dot_comm F, ih, dot_comm F _ c, h r (by omega), mul0 F, ad_zero F (zero_lt' F)]
theorem sb_eq {D : FD} (F : Fld D) {x r : Nat} (hx : x < D.q) (hr : r < D.q) (e : D.sb x r = 0) : x = r := by
  have h1 : D.ad (D.ng r) x = 0 := by rw [ad_comm F]; exact e
  have h2 : D.ad (D.ng r) r = 0 := by rw [ad_comm F]; exact ad_ng F hr
  exact ad_cancel F (ng_lt F hr) hx hr (h1.trans h2.symm)
theorem prL_nz {D : FD} (hD : D ∈ fieldsL) {x : Nat} (hx : x < D.q) : ∀ l : List Nat, (∀ r ∈ l, r < D.q) → x ∉ l → D.ev (prL D l) x (l.length + 1) ≠ 0
  | [], _, _ => by
    show D.ad 0 (D.mul 1 1) ≠ 0
    have F := fld hD
    rw [omul F (one_lt' F), zero_ad F (one_lt' F)]; omega
  | r :: l, hq, h => by
    have F := fld hD
    show D.ev (prL D (r :: l)) x (l.length + 2) ≠ 0
    rw [ev_prL F (hq r (by simp)) hx]
    have h1 := prL_nz hD hx l (fun a ha => hq a (by simp [ha])) (fun c => h (by simp [c]))
    have h2 : D.sb x r ≠ 0 := fun e => h (by simp [sb_eq F hx (hq r (by simp)) e])
    exact mul_ne hD (ev_lt F _ _ _) (ad_lt F hx (ng_lt F (hq r (by simp)))) h1 h2
theorem ct_filter (p : Nat → Bool) : ∀ n, ((List.range n).filter p).length = ct p n
  | 0 => rfl
  | n + 1 => by
    rw [List.range_succ, List.filter_append, List.length_append, ct_filter p n]
    show _ = ct p n + _
    cases h : p n <;> simp [h]
theorem van {D : FD} (hD : D ∈ fieldsL) {c xs : Nat → Nat} {n r : Nat} (hc : El D c) (hxs : ∀ j, xs j < D.q) (hinj : ∀ i j, i < n → j < n → xs i = xs j → i = j) (h : ∀ i, i < r → dot D c (fun j => D.xp (xs j) i) n = 0) (hw : wtn c n ≤ r) : ∀ j, j < n → c j = 0 := fun j0 hj0 => by
  have F := fld hD
  refine Classical.byContradiction fun h0 => ?_
  obtain ⟨l0, hl0⟩ : ∃ l0, l0 = (List.range n).filter fun j => !decide (((c j : Nat) : Int) = 0) := ⟨_, rfl⟩
  have hmem : ∀ j, j ∈ l0 ↔ j < n ∧ c j ≠ 0 := fun j => by
    rw [hl0, List.mem_filter, List.mem_range]
    simp
  have hlen : l0.length ≤ r := by
    rw [hl0, ct_filter]; exact hw
  have hj : j0 ∈ l0 := (hmem j0).2 ⟨hj0, h0⟩
  have hpos : 0 < l0.length := List.length_pos_of_mem hj
  obtain ⟨l1, hl1⟩ : ∃ l1, l1 = l0.erase j0 := ⟨_, rfl⟩
  have hlen1 : l1.length + 1 ≤ r := by rw [hl1, List.length_erase_of_mem hj]; omega
  have hnd : l0.Nodup := by rw [hl0]; exact List.nodup_range.filter _
  have hm1 : ∀ j, j ∈ l1 ↔ j ≠ j0 ∧ j ∈ l0 := fun j => by rw [hl1]; exact hnd.mem_erase_iff
  obtain ⟨l, hl⟩ : ∃ l, l = l1.map xs := ⟨_, rfl⟩
  have hlq : ∀ a ∈ l, a < D.q := fun a ha => by
    rw [hl] at ha
    obtain ⟨j, _, rfl⟩ := List.mem_map.1 ha
    exact hxs j
  have hll : l.length = l1.length := by rw [hl, List.length_map]
  have hsw := van_swap F (P := prL D l) n r h
  have hevr : ∀ x, D.ev (prL D l) x r = D.ev (prL D l) x (l.length + 1) := fun x => ev_from F x (prL_bd F l) (by omega)
  have hone : dot D c (fun j => D.ev (prL D l) (xs j) r) n = D.mul (c j0) (D.ev (prL D l) (xs j0) r) := dot_only F n hj0 (fun j hjn hne => by
    by_cases c0 : c j = 0
    · rw [c0, zmul F]
    · have : xs j ∈ l := by
        rw [hl]
        exact List.mem_map.2 ⟨j, (hm1 j).2 ⟨hne, (hmem j).2 ⟨hjn, c0⟩⟩, rfl⟩
      show D.mul (c j) (D.ev (prL D l) (xs j) r) = 0
      rw [hevr, prL_root F (hxs j) l hlq this, mul0 F])
  rw [hone, hevr] at hsw
  refine mul_ne hD (hc _) (ev_lt F _ _ _) h0 (prL_nz hD (hxs j0) l hlq (fun hm => ?_)) hsw
  rw [hl] at hm
  obtain ⟨j, hjm, e⟩ := List.mem_map.1 hm
  obtain ⟨hne, hj2⟩ := (hm1 j).1 hjm
  exact hne (hinj j j0 ((hmem j).1 hj2).1 hj0 e)
end Go.Proofs.YtppggchhkckobaaGreat

/- Zeros in a row keep words apart: the bound (plain mathematics). -/
namespace Go.Proofs.YtppggchhkckobaaGreat

theorem dot_evT {D : FD} (c : Nat → Nat) (x : Nat) : ∀ n, D.ev c x n = dot D c (D.xp x) n
  | 0 => rfl
  | n + 1 => by
    show D.ad (D.ev c x n) (D.mul (c n) (D.xp x n)) = D.ad (dot D c (D.xp x) n) (D.mul (c n) (D.xp x n))
    rw [dot_evT c x n]
theorem dot_terms {D : FD} {a b a' b' : Nat → Nat} : ∀ n, (∀ j, j < n → D.mul (a j) (b j) = D.mul (a' j) (b' j)) → dot D a b n = dot D a' b' n
  | 0, _ => rfl
  | n + 1, h => by
    show D.ad (dot D a b n) (D.mul (a n) (b n)) = D.ad (dot D a' b' n) (D.mul (a' n) (b' n))
    rw [dot_terms n (fun j hj => h j (by omega)), h n (by omega)]
theorem rt_step {D : FD} (hD : D ∈ fieldsL) {b n s : Nat} (hn : 1 ≤ n) (h : Rt D b n) (hg : Nat.gcd s n = 1) {i j : Nat} (hi : i < n) (hj : j < n) (e : D.xp b (s * i) = D.xp b (s * j)) : i = j := by
  have hm : s * i % n = s * j % n := by
    refine Classical.byContradiction fun c => ?_
    refine h.inj _ _ (Nat.mod_lt _ hn) (Nat.mod_lt _ hn) c ?_
    rw [h.md hD, h.md hD]; exact e
  have hc : Nat.Coprime n s := by rw [Nat.coprime_comm]; exact hg
  have key : ∀ i j, i ≤ j → j < n → s * i % n = s * j % n → i = j := fun i j hij hjn hm => by
    have hd : n ∣ s * (j - i) := by
      rw [Nat.mul_sub]
      exact Nat.dvd_of_mod_eq_zero (Nat.sub_mod_eq_zero_of_mod_eq hm.symm)
    have := hc.dvd_of_dvd_mul_left hd
    have h0 : j - i = 0 := Nat.eq_zero_of_dvd_of_lt this (by omega)
    omega
  rcases Nat.le_total i j with c | c
  · exact key i j c hj hm
  · exact (key j i c hi hm.symm).symm
theorem bch_apart {E G : FD} (hE : E ∈ fieldsL) (hG : G ∈ fieldsL) (hov : E.p = G.p ∧ G.m % E.m = 0) {b n : Nat} (hn : 1 ≤ n) (hr : Rt G b n) {S : List Nat} (gS : Gnr G E b n S) {K : Nat} (hK : K + (S.length + 1) = n + 1) {f s r : Nat} (hg : Nat.gcd s n = 1) (hin : ∀ i, i < r → (f + i * s) % n ∈ S)
    {v : Nat → Nat} (hv : Spn E (RowsOf K fun i => psh i (gnr G E b S)) v) (hb : Bd n v) (hw : wtn v n ≤ r) : v = pnil := by
  have FE := fld hE
  have FG := fld hG
  have hφ := emb_rng hG hE hov
  obtain ⟨φ, hφe⟩ : ∃ φ, φ = G.emb E (G.root E) := ⟨_, rfl⟩
  rw [← hφe] at hφ
  have hev : El E v := by
    obtain ⟨l, _, e⟩ := hv
    rw [e]; exact lsum_el FE l
  have hne : ∀ k, G.xp b k ≠ 0 := fun k => by rw [← pw_xp hG hr.ne]; exact (pw_ne hG b k).1
  have hz : ∀ i, i < r → dot G (fun j => G.mul (φ (v j)) (G.xp b (f * j))) (fun j => G.xp (G.xp b (s * j)) i) n = 0 := fun i hi => by
    obtain ⟨t, ht⟩ : ∃ t, t = (f + i * s) % n := ⟨_, rfl⟩
    have htS : t ∈ S := by rw [ht]; exact hin i hi
    have h1 : G.ev (fun k => φ (gnr G E b S k)) (G.xp b t) (S.length + 1) = 0 := by
      have e : (fun k => φ (gnr G E b S k)) = prL G (S.map (G.xp b)) := funext fun k => by rw [hφe]; exact gS.emb k
      rw [e]
      have := prL_root FG (xp_lt FG b t) (S.map (G.xp b)) (fun a ha => by
        obtain ⟨k, _, rfl⟩ := List.mem_map.1 ha
        exact xp_lt FG b k) (List.mem_map.2 ⟨t, htS, rfl⟩)
      rwa [List.length_map] at this
    have h2 := (spn_root FE FG hφ gS.el gS.bd hK h1 hv).2
    rw [dot_evT] at h2
    rw [← h2]
    refine dot_terms n (fun j _ => ?_)
    show G.mul (G.mul (φ (v j)) (G.xp b (f * j))) (G.xp (G.xp b (s * j)) i) = G.mul (φ (v j)) (G.xp (G.xp b t) j)
    rw [FG.mul_assoc, xp_xp hG hr.ne, ← xp_add FG, xp_xp hG hr.ne]
    have e : (f * j + s * j * i) % n = t * j % n := by
      rw [ht, Nat.mul_mod, Nat.mod_mod, ← Nat.mul_mod]
      congr 1
      rw [Nat.add_mul, Nat.mul_comm i s, Nat.mul_assoc, Nat.mul_assoc, Nat.mul_comm j i]
    rw [← hr.md hG (f * j + s * j * i), e, hr.md hG]
  have hc0 : ∀ j, v j ≠ 0 → G.mul (φ (v j)) (G.xp b (f * j)) ≠ 0 := fun j h0 => mul_ne hG (hφ.lt _ (hev j)) (xp_lt FG _ _) (by rw [hφe]; exact emb_ne hG hE hov (hev j) h0) (hne _)
  have hwt : wtn (fun j => G.mul (φ (v j)) (G.xp b (f * j))) n = wtn v n := by
    unfold wtn
    refine ct_same n (fun j _ => ?_)
    show (!decide (((G.mul (φ (v j)) (G.xp b (f * j)) : Nat) : Int) = 0)) = !decide (((v j : Nat) : Int) = 0)
    by_cases h0 : v j = 0
    · rw [h0, hφ.zero, zmul FG]
    · have := hc0 j h0
      rw [decide_eq_false (by omega), decide_eq_false (by omega)]
  have hall := van hG (c := fun j => G.mul (φ (v j)) (G.xp b (f * j))) (xs := fun j => G.xp b (s * j)) (n := n) (r := r) (fun j => FG.mul_lt _ _) (fun j => xp_lt FG _ _) (fun i j hi hj e => rt_step hG hn hr hg hi hj e) hz (by rw [hwt]; exact hw)
  funext j
  by_cases hj : j < n
  · exact Classical.byContradiction fun h0 => hc0 j h0 (hall j hj)
  · exact hb j (by omega)
theorem wcn_zero {D : FD} (F : Fld D) {R : Nat → Nat → Nat} {n k x : Nat} (h : ∀ m, El D m → Bd k m → wtn (enw D R m k) n ≠ x) : wcn D R n k (D.q ^ k) x = 0 := by
  have e := wcn_wsum F R n k x
  have e2 : wsum D.q k (fun m => bi (decide (wtn (enw D R m k) n = x))) = wsum D.q k (fun _ => 0) := wsum_congr F k (fun m hm hb => by
    show bi (decide _) = 0
    rw [decide_eq_false (h m hm hb), bi_f])
  rw [e2, wsum_nil] at e
  omega
theorem bnr_at {n : Nat} {L : List Nat} (h : 0 < bnr n L) : ∃ f s, Nat.gcd s n = 1 ∧ f < n ∧ ∀ i, i < bnr n L → (f + i * s) % n ∈ L := by
  obtain ⟨t, _, ht⟩ := mxn_at n h
  have ht : (if Nat.gcd (t + 1) n = 1 then iar n (t + 1) (fun x => L.contains x) else 0) = bnr n L := ht
  by_cases c : Nat.gcd (t + 1) n = 1
  · rw [if_pos c] at ht
    have h2 : 0 < iar n (t + 1) (fun x => L.contains x) := by omega
    obtain ⟨f, hf, hr⟩ := mxn_at n h2
    have hr : rrun (fun i => L.contains ((f + i * (t + 1)) % n)) n = iar n (t + 1) (fun x => L.contains x) := hr
    refine ⟨f, t + 1, c, hf, fun i hi => ?_⟩
    exact List.contains_iff_mem.1 (rrun_in n i (p := fun i => L.contains ((f + i * (t + 1)) % n)) (by omega))
  · rw [if_neg c] at ht; omega
theorem bnr_ge {n f r : Nat} {L : List Nat} (hn : 1 ≤ n) (hf : f < n) (hr : r ≤ n) (h : ∀ i, i < r → (f + i) % n ∈ L) : r ≤ bnr n L := by
  have h1 : iar n 1 (fun x => L.contains x) ≤ bnr n L := by
    have := mxn_ge (f := fun s => if Nat.gcd (s + 1) n = 1 then iar n (s + 1) (fun x => L.contains x) else 0) n 0 (by omega)
    have e : (if Nat.gcd (0 + 1) n = 1 then iar n (0 + 1) (fun x => L.contains x) else 0) = iar n 1 (fun x => L.contains x) := by rw [if_pos (by simp)]
    rw [← e]; exact this
  have h2 : rrun (fun i => L.contains ((f + i * 1) % n)) n ≤ iar n 1 (fun x => L.contains x) := mxn_ge (f := fun f => rrun (fun i => L.contains ((f + i * 1) % n)) n) n f hf
  have h3 : r ≤ rrun (fun i => L.contains ((f + i * 1) % n)) n := by
    have key : ∀ N, r ≤ N → r ≤ rrun (fun i => L.contains ((f + i * 1) % n)) N := fun N => by
      induction N with
      | zero => intro h; omega
      | succ N ih =>
        intro hN
        by_cases c : r ≤ N
        · have := ih c
          unfold rrun
          split <;> omega
        · have e : r = N + 1 := by omega
          rw [e]
          have := rrun_all (p := fun i => L.contains ((f + i * 1) % n)) (N + 1) (fun i hi => List.contains_iff_mem.2 (by rw [Nat.mul_one]; exact h i (by omega)))
          omega
    exact key n hr
  omega
theorem far_bch {E G : FD} (hE : E ∈ fieldsL) (hG : G ∈ fieldsL) (hov : E.p = G.p ∧ G.m % E.m = 0) {b n : Nat} (hn : 1 ≤ n) (hr : Rt G b n) {L : List Nat} (gS : Gnr G E b n (rsn n L)) {K k k' d : Nat} {R R' : Nat → Nat → Nat} (hK : K + ((rsn n L).length + 1) = n + 1)
    (h1 : Red E n K (fun i => psh i (gnr G E b (rsn n L))) k R) (h2 : Red E n k R k' R') (hL : Lwt (wcn E R' n k' (E.q ^ k')) (n + 1) d) (hk : k ≠ 0) : bnr n L + 1 ≤ d := by
  have F := fld hE
  have hkk : k' = k := (h2.uniq F h1.self (fun _ => Iff.rfl)).1
  have hrow := h2.rows
  obtain ⟨p', hr', hs'⟩ := h2
  obtain ⟨_, _, hs⟩ := h1
  have hd0 : d ≠ 0 := fun e => by
    rw [e] at hL
    have := lwt_none F hr' hL
    omega
  refine Classical.byContradiction fun c => ?_
  have hb0 : 0 < bnr n L := by omega
  obtain ⟨f, s, hg, _, hin⟩ := bnr_at hb0
  rcases hL with ⟨h0, _⟩ | ⟨hdp, _, hc, _⟩
  · exact hd0 h0
  · have hz : wcn E R' n k' (E.q ^ k') d = 0 := wcn_zero F (fun m hm hb e => by
      have hsp := enw_spn F (z := m) hrow.1 k' (Nat.le_refl _)
      have hbd : Bd n (enw E R' m k') := spn_bdT F (fun v hv => by
        obtain ⟨i, hi, rfl⟩ := hv
        exact hrow.2 i hi) hsp
      have h0 := bch_apart hE hG hov hn hr gS hK hg (fun i hi => List.mem_filter.2 ⟨List.mem_range.2 (Nat.mod_lt _ hn), List.contains_iff_mem.2 (hin i hi)⟩) ((hs _).1 ((hs' _).1 hsp)) hbd (r := bnr n L) (by omega)
      rw [h0, wtn_pnil] at e
      omega)
    omega
end Go.Proofs.YtppggchhkckobaaGreat
