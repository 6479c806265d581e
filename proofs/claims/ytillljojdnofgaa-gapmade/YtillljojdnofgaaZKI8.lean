/- Words that may lose a bit: lists of words; the reference's GapWords, the program's Words. -/
import Derived.Test.YtillljojdnofgaaZKI7
import Derived.Test.YtillljojdnofgaaZKI3
import Derived.Test.YtillljojdnofgaaZS9
import Derived.Test.YtillljojdnofgaaZS3
import Derived.Test.YtillljojdnofgaaZL10
import Derived.Test.YtillljojdnofgaaZW9
import Derived.Test.YtillljojdnofgaaZS43
namespace Go.Proofs.Ytillljojdnofgaa
open Go.RowKit Go.Sort

/-- The word as a list of numbers. -/
def wz (n : Nat) (c : Nat → Nat) : List Int := zl n fun t => ((c t : Nat) : Int)
/-- A list of words of n numbers, each the call's own; none lies in block g. -/
def WLx (g base : Nat) (v : Value) (n : Nat) (L : List (Nat → Nat)) (w : World) : Prop := ∃ l, OwnV base v l w ∧ l.length = L.length ∧ (∀ (j : Nat) (u : Value) (c : Nat → Nat), l[j]? = some u → L[j]? = some c → OwnI base u (wz n c) w) ∧ ∀ u ∈ l, u.ownBlock ≠ some g
/-- A list of words of n numbers, each the call's own. -/
def WLs (base : Nat) (v : Value) (n : Nat) (L : List (Nat → Nat)) (w : World) : Prop := ∃ l, OwnV base v l w ∧ l.length = L.length ∧ ∀ (j : Nat) (u : Value) (c : Nat → Nat), l[j]? = some u → L[j]? = some c → OwnI base u (wz n c) w
theorem WLx.wls {g base n : Nat} {v : Value} {L : List (Nat → Nat)} {w : World} (h : WLx g base v n L w) : WLs base v n L w := by
  obtain ⟨l, h1, h2, h3, _⟩ := h
  exact ⟨l, h1, h2, h3⟩
theorem WLs.nil (base n : Nat) (w : World) : WLs base (.slice none 0 0) n [] w := ⟨[], OwnV.nil _ _, rfl, fun j u c h => by simp at h⟩
theorem WLx.nil (g base n : Nat) (w : World) : WLx g base (.slice none 0 0) n [] w := ⟨[], OwnV.nil _ _, rfl, fun j u c h => by simp at h, fun u hu => by simp at hu⟩
theorem WLs.below {base n : Nat} {v : Value} {L : List (Nat → Nat)} {w w' : World} (h : WLs base v n L w) (hb : Below w.heap.size w w') : WLs base v n L w' := by
  obtain ⟨l, h1, h2, h3⟩ := h
  exact ⟨l, h1.below hb (Nat.le_refl _), h2, fun j u c hu hc => (h3 j u c hu hc).below hb fun k hk => ((h3 j u c hu hc).lt k hk).2⟩
theorem WLx.below {g base n : Nat} {v : Value} {L : List (Nat → Nat)} {w w' : World} (h : WLx g base v n L w) (hb : Below w.heap.size w w') : WLx g base v n L w' := by
  obtain ⟨l, h1, h2, h3, h4⟩ := h
  exact ⟨l, h1.below hb (Nat.le_refl _), h2, fun j u c hu hc => (h3 j u c hu hc).below hb fun k hk => ((h3 j u c hu hc).lt k hk).2, h4⟩
theorem WLx.apart {g base n N : Nat} {c : Nat → Nat} {v : Value} {L : List (Nat → Nat)} {w w' : World} (h : WLx g base v n L w) (hr : Row g N c w) (hg : w.grownBy w' (some g)) : WLx g base v n L w' := by
  obtain ⟨l, h1, h2, h3, h4⟩ := h
  exact ⟨l, World.ownsRow.kept h1 hg (Or.inr fun e => hr.apart h1 e.symm), h2, fun j u c hu hc => (h3 j u c hu hc).kept hg (Or.inr (h4 u (List.mem_of_getElem? hu))), h4⟩
theorem wl_push {base n : Nat} {v u : Value} {l : List Value} {L : List (Nat → Nat)} {c : Nat → Nat} {w w' : World} (h1 : OwnV base v l w) (h2 : l.length = L.length) (h3 : ∀ (j : Nat) (u : Value) (c : Nat → Nat), l[j]? = some u → L[j]? = some c → OwnI base u (wz n c) w) (hu : OwnI base u (wz n c) w) (hg : w.grownBy w' v.ownBlock) :
    (l ++ [u]).length = (L ++ [c]).length ∧ ∀ (j : Nat) (x : Value) (d : Nat → Nat), (l ++ [u])[j]? = some x → (L ++ [c])[j]? = some d → OwnI base x (wz n d) w' := by
  refine ⟨by rw [List.length_append, List.length_append, h2]; rfl, fun j x d hx hd => ?_⟩
  by_cases e : j < l.length
  · rw [List.getElem?_append_left e] at hx
    rw [List.getElem?_append_left (by omega)] at hd
    exact (h3 j x d hx hd).kept hg ((h3 j x d hx hd).apart h1)
  · have e2 : j = l.length := by
      have := (List.getElem?_eq_some_iff.1 hx).1
      rw [List.length_append] at this
      have : j < l.length + 1 := this
      omega
    rw [e2, List.getElem?_append_right (Nat.le_refl _), Nat.sub_self] at hx
    rw [e2, h2, List.getElem?_append_right (Nat.le_refl _), Nat.sub_self] at hd
    cases hx
    cases hd
    exact hu.kept hg (hu.apart h1)
theorem WLs.rl {base n : Nat} {v : Value} {L : List (Nat → Nat)} {w : World} (h : WLs base v n L w) : RL v L.length n (fun i => L.getD i pnil) w := by
  obtain ⟨l, h1, h2, h3⟩ := h
  obtain ⟨ao, cap, e, _, _, _, hc⟩ := h1.open
  rw [h2] at e
  refine ⟨ao, cap, e, fun i hi => ?_⟩
  obtain ⟨u, hu⟩ : ∃ u, l[i]? = some u := ⟨_, List.getElem?_eq_getElem (by omega)⟩
  have hL : L[i]? = some (L.getD i pnil) := by
    rw [List.getD_eq_getElem?_getD, List.getElem?_eq_getElem hi]; rfl
  obtain ⟨g, e1, hcell, _⟩ := hc i u hu
  obtain ⟨x, cx, rfl, ha⟩ := (h3 i u _ hu hL).argL
  exact ⟨g, 0, x, cx, e1, by rw [Nat.zero_add]; exact hcell, ha.sl⟩

/-- All words of n bits of the first k numbers whose sum of places comes to a. -/
def wdL (n a : Nat) : Nat → List (Nat → Nat)
  | 0 => []
  | k + 1 => wdL n a k ++ if psm (dgs 2 n k) n % (n + 1) = a then [dgs 2 n k] else []
theorem wdL_len (n a : Nat) : ∀ k, (wdL n a k).length ≤ k
  | 0 => Nat.le_refl _
  | k + 1 => by
    have := wdL_len n a k
    show (wdL n a k ++ if psm (dgs 2 n k) n % (n + 1) = a then [dgs 2 n k] else []).length ≤ k + 1
    rw [List.length_append]
    split
    · show _ + 1 ≤ _; omega
    · show _ + 0 ≤ _; omega
/-- The field of two. -/
def FTw : FD := ⟨2, 2, 1, 0, 1⟩
theorem FTw_in : FTw ∈ fieldsL := List.Mem.head _

set_option maxHeartbeats 16000000 in
set_option maxRecDepth 100000 in
theorem gapWords_any {n a : Nat} (hn1 : 1 ≤ n) (hn : n ≤ 12) (ha : a ≤ n) (w : World) :
    Calls Try.prog 9 #[.int .i64 (n : Nat), .int .i64 (a : Nat)] w fun e w' => ∃ v, e = .returned v ∧ WLs w.heap.size v n (wdL n a (2 ^ n)) w' ∧ Below w.heap.size w w' := by
  obtain ⟨N, hN⟩ : ∃ N, N = 2 ^ n := ⟨_, rfl⟩
  have hN0 : 0 < N := by rw [hN]; exact Nat.pow_pos (by omega)
  have hN4 : N ≤ 4096 := by rw [hN]; exact Nat.le_trans (Nat.pow_le_pow_right (by omega) hn) (by decide)
  have HN : Hid (N = 2 ^ n) := hN
  rw [← hN]
  obtain ⟨n1, hn1e⟩ : ∃ n1, n1 = n + 1 := ⟨_, rfl⟩
  have wn : IntKind.i64.wrap ((n : Int) + 1) = (n1 : Int) := wrap_to (by omega) (by omega)
  have hn10 : ¬ (n1 : Int) = 0 := by omega
  have HN1 : Hid (n1 = n + 1) := hn1e
  have hn1b : n < n1 := by omega
  clear hN hn1e
  go_enter Try.func9, Try.ntmps9
  go_wp2_with (at_make; refine make_int rfl _ _ rfl _ n rfl rfl (by omega) (by omega) ?_; intro w1 hown1 hgrow1)
  obtain ⟨g, hg⟩ : ∃ g, g = w.heap.size := ⟨_, rfl⟩
  have HB1 : Hid (Below w.heap.size w w1 ∧ Row g n pnil w1 ∧ w.heap.size ≤ g) := ⟨below_grown hgrow1 (Nat.le_refl _) (fun k hk => by simp at hk), by rw [hg]; exact row_zeros hown1, by omega⟩
  rw [← hg]
  clear hown1 hgrow1 hg
  go_loopg [6, 7] N (fun gk vo vm wr => ∃ (k : Nat) (mb : Bool), k + gk = N ∧ vm = .bool mb ∧ Hid (mb = decide (0 < gk) ∧ (0 < gk → Row g n (dgs 2 n k) wr) ∧ WLx g w.heap.size vo n (wdL n a k) wr ∧ Below w.heap.size w wr))
  case atStart =>
    exact ⟨0, true, by omega, rfl, by rw [decide_eq_true hN0], fun _ => HB1.out.2.1.congr (fun j _ => dgs_zero.symm), WLx.nil _ _ _ _, HB1.out.1⟩
  case round =>
    obtain ⟨k, mb, hkN, rfl, HG⟩ := hrel
    rename World => wr
    by_cases hgk : 0 < gk
    · have hmb : mb = true := by rw [HG.out.1, decide_eq_true hgk]
      subst hmb
      have hk2 : k < 2 ^ n := by rw [← HN.out]; omega
      obtain ⟨ps, hps⟩ : ∃ ps, ps = psm (dgs 2 n k) n := ⟨_, rfl⟩
      have hbit : ∀ j, j < n → dgs 2 n k j ≤ 1 := fun j _ => by have := dgs_lt (q := 2) (k := n) (a := k) (by omega) j; omega
      have HPl : Hid (Calls Try.prog 44 #[.slice (some ⟨g, 0, none⟩) n n] wr fun e w' => e = .returned (.int .i64 (ps : Nat)) ∧ w' = wr) := by
        rw [hps]; exact gplaces_any (((HG.out.2.1 hgk).sl (Nat.le_refl _)).z) (by omega) hbit
      obtain ⟨md, hmd⟩ : ∃ md, md = ps % n1 := ⟨_, rfl⟩
      have dm : (ps : Int).tmod (n1 : Int) = (md : Int) := by rw [hmd]; rfl
      have HNx : Hid (wdL n a (k + 1) = wdL n a k ++ if md = a then [dgs 2 n k] else []) := by
        show wdL n a k ++ _ = _
        rw [hmd, hps, HN1.out]
      have HNt : Hid (∀ wx, Row g n (dgs 2 n k) wx → Calls Try.prog 45 #[.slice (some ⟨g, 0, none⟩) n n, .int .i64 2] wx fun e w' => ∃ mb', e = .returned (.bool mb') ∧ wx.grownBy w' (some g) ∧ mb' = decide (0 < gk - 1) ∧ (0 < gk - 1 → Row g n (dgs 2 n (k + 1)) w')) := fun wx hrow => by
        refine (rnext_any FTw_in (dgm_mn (fld FTw_in) n k) (by omega) (hrow.congr (fun j hj => (dgm_lo hj).symm))).mono ?_
        rintro e w' ⟨hgr, ⟨rfl, c', hr', hmn, haf⟩ | ⟨rfl, hl, _⟩⟩
        · have h := dgs_next (fld FTw_in) hk2 hmn haf
          have h1 : k + 1 < 2 ^ n := h.1
          rw [← HN.out] at h1
          exact ⟨true, rfl, hgr, by rw [decide_eq_true (by omega)], fun _ => hr'.congr h.2⟩
        · have h : k + 1 = 2 ^ n := dgs_last (fld FTw_in) hk2 hl
          rw [← HN.out] at h
          exact ⟨false, rfl, hgr, by rw [decide_eq_false (by omega)], fun h2 => absurd h2 (by omega)⟩
      clear hps hmd hk2 hbit
      by_cases hle : md = a
      · have zle : ((md : Int) == (a : Int)) = true := by rw [hle]; simp
        have HCp : Hid (Calls Try.prog 43 #[.slice (some ⟨g, 0, none⟩) n n] wr fun e w' => ∃ v, e = .returned v ∧ OwnI wr.heap.size v (wz n (dgs 2 n k)) w' ∧ Below wr.heap.size wr w') := copyI_any (((HG.out.2.1 hgk).sl (Nat.le_refl _)).z) (by omega) (fun e => by cases e) (fun p hp => by cases hp; exact (HG.out.2.1 hgk).lt)
        have HN2 : Hid (wdL n a (k + 1) = wdL n a k ++ [dgs 2 n k]) := by show _ = _; rw [HNx.out, if_pos hle]
        clear hle
        go_wp2_with fail
        refine HPl.out.mono ?_
        rintro e w' ⟨rfl, hw⟩
        have hw := hw.symm
        subst hw
        go_wp2_with fail
        refine HCp.out.mono ?_
        rintro e w4 ⟨v4, rfl, ho4, hb4⟩
        obtain ⟨bo, cb, hv4, _⟩ := ho4.argL
        subst hv4
        obtain ⟨lst, hov, hln, hels, hap⟩ := HG.out.2.2.1
        have hll : lst.length ≤ 1000000 := by rw [hln]; have := wdL_len n a k; omega
        have hszr := HG.out.2.2.2.size
        have hs4 := hb4.size
        have HV : Hid (OwnV w.heap.size u6 lst w4 ∧ lst.length = (wdL n a k).length ∧ (∀ (j : Nat) (u : Value) (c : Nat → Nat), lst[j]? = some u → (wdL n a k)[j]? = some c → OwnI w.heap.size u (wz n c) w4) ∧ (∀ u ∈ lst, u.ownBlock ≠ some g) ∧ OwnI w.heap.size (.slice bo n cb) (wz n (dgs 2 n k)) w4 ∧ Value.ownBlock (.slice bo n cb) ≠ some g ∧ Row g n (dgs 2 n k) w4 ∧ Below w.heap.size w w4) := by
          refine ⟨hov.below hb4 (Nat.le_refl _), hln, fun j u c hu hc => (hels j u c hu hc).below hb4 fun q hq => ((hels j u c hu hc).lt q hq).2, hap, ho4.mono hszr, fun e => ?_, (HG.out.2.1 hgk).below hb4 (HG.out.2.1 hgk).lt, bel_up' HG.out.2.2.2 hb4⟩
          have h1 := (ho4.lt g e).1
          have h2 := (HG.out.2.1 hgk).lt
          omega
        have hsw := HV.out.2.2.2.2.2.2.2.size
        clear ho4 hb4 hov hels hap hln
        go_wp2_with (at_builtin; refine append_sl rfl _ _ rfl w.heap.size u6 lst rfl (HV.out.1.below ((Below.refl _ _).alloc (Nat.le_refl _) _) (Nat.le_refl _)) ⟨w4.heap.size, 0, none⟩ 1 (.slice bo n cb) rfl rfl (by rw [cell_of_row _ _ _ _ _ (0, 0) (two_new _)]; rfl) hll (by simp; omega) ?_; intro v' w6 hown6 hg6)
        have hal : Below w4.heap.size w4 (w4.alloc (.cells #[.slice bo n cb] 22)) := (Below.refl _ _).alloc (Nat.le_refl _) _
        have ho := HV.out.1.below hal (Nat.le_refl _)
        have H6 : Hid (WLx g w.heap.size v' n (wdL n a (k + 1)) w6 ∧ Row g n (dgs 2 n k) w6 ∧ Below w.heap.size w w6) := by
          refine ⟨?_, ?_, (bel_up' HV.out.2.2.2.2.2.2.2 hal).grown hg6 (by simp; omega) (fun q hq => ho.open_ge q hq)⟩
          · rw [HN2.out]
            have hp := wl_push ho HV.out.2.1 (fun j u c hu hc => (HV.out.2.2.1 j u c hu hc).below hal fun q hq => ((HV.out.2.2.1 j u c hu hc).lt q hq).2) (HV.out.2.2.2.2.1.below hal fun q hq => (HV.out.2.2.2.2.1.lt q hq).2) hg6
            refine ⟨_, hown6, hp.1, hp.2, fun x hx => ?_⟩
            rcases List.mem_append.1 hx with hx | hx
            · exact HV.out.2.2.2.1 x hx
            · rw [List.mem_singleton.1 hx]; exact HV.out.2.2.2.2.2.1
          · have hr := HV.out.2.2.2.2.2.2.1.below hal HV.out.2.2.2.2.2.2.1.lt
            exact hr.other (hg6.block g hr.lt (fun e => hr.apart ho e))
        clear hown6 hg6 hal ho
        refine (HNt.out _ H6.out.2.1).mono ?_
        rintro e w7 ⟨mb', rfl, hg7, hmb', hrow7⟩
        have H7 : Hid (mb' = decide (0 < gk - 1) ∧ (0 < gk - 1 → Row g n (dgs 2 n (k + 1)) w7) ∧ WLx g w.heap.size v' n (wdL n a (k + 1)) w7 ∧ Below w.heap.size w w7) := ⟨hmb', hrow7, H6.out.1.apart H6.out.2.1 hg7, H6.out.2.2.grown hg7 H6.out.2.2.size (fun q hq => by cases hq; exact HB1.out.2.2)⟩
        clear hg7 hmb' hrow7
        go_wp2
        go_roundg (gk - 1)
        case measure => omega
        case rel => exact ⟨k + 1, mb', by omega, rfl, H7.out⟩
      · have zle : ((md : Int) == (a : Int)) = false := beq_eq_false_iff_ne.2 (by omega)
        have HN2 : Hid (wdL n a (k + 1) = wdL n a k) := by show _ = _; rw [HNx.out, if_neg hle, List.append_nil]
        clear hle
        go_wp2_with fail
        refine HPl.out.mono ?_
        rintro e w' ⟨rfl, hw⟩
        have hw := hw.symm
        subst hw
        go_wp2_with fail
        refine (HNt.out _ (HG.out.2.1 hgk)).mono ?_
        rintro e w7 ⟨mb', rfl, hg7, hmb', hrow7⟩
        have H7 : Hid (mb' = decide (0 < gk - 1) ∧ (0 < gk - 1 → Row g n (dgs 2 n (k + 1)) w7) ∧ WLx g w.heap.size u6 n (wdL n a (k + 1)) w7 ∧ Below w.heap.size w w7) := ⟨hmb', hrow7, by rw [HN2.out]; exact HG.out.2.2.1.apart (HG.out.2.1 hgk) hg7, HG.out.2.2.2.grown hg7 HG.out.2.2.2.size (fun q hq => by cases hq; exact HB1.out.2.2)⟩
        clear hg7 hmb' hrow7
        go_wp2
        go_roundg (gk - 1)
        case measure => omega
        case rel => exact ⟨k + 1, mb', by omega, rfl, H7.out⟩
    · have hmb : mb = false := by rw [HG.out.1, decide_eq_false hgk]
      subst hmb
      have HE : Hid (WLs w.heap.size u6 n (wdL n a N) wr ∧ Below w.heap.size w wr) := ⟨by have h := HG.out.2.2.1.wls; rw [show k = N by omega] at h; exact h, HG.out.2.2.2⟩
      go_wp2
      go_ret
      exact ⟨_, rfl, HE.out⟩
end Go.Proofs.Ytillljojdnofgaa
