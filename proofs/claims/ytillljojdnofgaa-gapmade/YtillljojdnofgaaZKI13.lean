/- Words that may lose a bit: gap.sent, gap.Mend. -/
import Derived.Test.YtillljojdnofgaaZKI12
import Derived.Test.YtillljojdnofgaaZI32
namespace Go.Proofs.Ytillljojdnofgaa
open Go.RowKit Go.Sort

theorem WLs.single {base n : Nat} {u : Value} {c : Nat → Nat} {w : World} (h : OwnI base u (wz n c) w) (hb : base ≤ w.heap.size) : WLs base (.slice (some ⟨w.heap.size, 0, none⟩) 1 1) n [c] (w.alloc (.cells #[u] 22)) := by
  refine ⟨[u], World.ownsRow_lit w #[u] 1 hb (by unfold maxLen; omega) rfl, rfl, fun j x d hx hd => ?_⟩
  have hj : j = 0 := by
    have := (List.getElem?_eq_some_iff.1 hx).1
    have : j < 1 := this
    omega
  subst hj
  cases hx
  cases hd
  exact h.below ((Below.refl _ _).alloc (Nat.le_refl _) _) fun q hq => (h.lt q hq).2
theorem WLs.item {base n cap k : Nat} {ao : Option Addr} {L : List (Nat → Nat)} {w : World} (h : WLs base (.slice ao k cap) n L w) {j : Nat} {c : Nat → Nat} (hj : L[j]? = some c) : ∃ g x cx, ao = some ⟨g, 0, none⟩ ∧ w.cell? ⟨g, j, none⟩ = some (.slice x n cx) ∧ OwnI base (.slice x n cx) (wz n c) w ∧ ArgL x n cx (fun t => ((c t : Nat) : Int)) w := by
  obtain ⟨l, h1, h2, h3⟩ := h
  obtain ⟨ao', cap', e, _, _, _, hc⟩ := h1.open
  have hjl : j < L.length := (List.getElem?_eq_some_iff.1 hj).1
  obtain ⟨u, hu⟩ : ∃ u, l[j]? = some u := ⟨_, List.getElem?_eq_getElem (by omega)⟩
  obtain ⟨g, e1, hcell, _⟩ := hc j u hu
  have ho := h3 j u c hu hj
  obtain ⟨x, cx, rfl, ha⟩ := OwnI.argL (n := n) (y := fun t => ((c t : Nat) : Int)) ho
  cases e
  exact ⟨g, x, cx, e1, hcell, ho, ha⟩
theorem WLs.form {base n : Nat} {v : Value} {L : List (Nat → Nat)} {w : World} (h : WLs base v n L w) : ∃ ao cap, v = .slice ao L.length cap := by
  obtain ⟨l, h1, h2, _⟩ := h
  obtain ⟨ao, cap, e, _⟩ := h1.open
  exact ⟨ao, cap, by rw [e, h2]⟩
theorem WLs.mono {base base' n : Nat} {v : Value} {L : List (Nat → Nat)} {w : World} (h : WLs base v n L w) (hb : base' ≤ base) : WLs base' v n L w := by
  obtain ⟨l, h1, h2, h3⟩ := h
  exact ⟨l, h1.mono hb, h2, fun j u c hu hc => (h3 j u c hu hc).mono hb⟩
/-- The words of n bits of which a word of l bits may have come. -/
def snL (n l : Nat) (f : Nat → Nat) : List (Nat → Nat) := if l + 1 = n then lgL f (2 * (l + 1)) else if l = n then [f] else if l = n + 1 then srL f l else []
theorem snL_len (n l : Nat) (f : Nat → Nat) (hl : l ≤ 13) : (snL n l f).length ≤ 1000 := by
  unfold snL
  split
  · rw [lgL_len]; omega
  · split
    · exact Nat.le_trans (Nat.le_refl 1) (by omega)
    · split
      · have := srL_len f l; omega
      · exact Nat.zero_le _
theorem snL_bits {n l : Nat} {f : Nat → Nat} (hf : ∀ j, f j ≤ 1) {c : Nat → Nat} (hc : c ∈ snL n l f) : ∀ j, c j ≤ 1 := by
  unfold snL at hc
  by_cases h1 : l + 1 = n
  · rw [if_pos h1, lgL_mem] at hc
    obtain ⟨i, _, rfl⟩ := hc
    intro j
    unfold wib
    split
    · exact hf _
    · split
      · omega
      · exact hf _
  rw [if_neg h1] at hc
  by_cases h2 : l = n
  · rw [if_pos h2, List.mem_singleton] at hc
    rw [hc]; exact hf
  rw [if_neg h2] at hc
  by_cases h3 : l = n + 1
  · rw [if_pos h3, srL_mem] at hc
    obtain ⟨i, _, rfl⟩ := hc
    intro j
    unfold wo
    split <;> exact hf _
  · rw [if_neg h3] at hc; cases hc

set_option maxHeartbeats 4000000 in
set_option maxRecDepth 100000 in
theorem sent_any {ao : Option Addr} {n l ca : Nat} {f : Nat → Nat} {w : World} (hA : ArgL ao l ca (fun j => ((f j : Nat) : Int)) w) (hl : l ≤ 13) (hn1 : 1 ≤ n) (hn : n ≤ 12) :
    Calls Try.prog 52 #[.int .i64 (n : Nat), .slice ao l ca] w fun e w' => ∃ v, e = .returned v ∧ WLs w.heap.size v n (snL n l f) w' ∧ Below w.heap.size w w' := by
  obtain ⟨n0, hn0⟩ : ∃ n0, n0 = n - 1 := ⟨_, rfl⟩
  obtain ⟨n2, hn2⟩ : ∃ n2, n2 = n + 1 := ⟨_, rfl⟩
  have w0 : IntKind.i64.wrap ((n : Int) - 1) = (n0 : Int) := wrap_to (by omega) (by omega)
  have w2 : IntKind.i64.wrap ((n : Int) + 1) = (n2 : Int) := wrap_to (by omega) (by omega)
  by_cases h1 : l + 1 = n
  · have z1 : ((l : Int) == (n0 : Int)) = true := by rw [beq_iff_eq]; omega
    have HC : Hid (Calls Try.prog 77 #[.slice ao l ca] w fun e w' => ∃ v, e = .returned v ∧ WLs w.heap.size v n (snL n l f) w' ∧ Below w.heap.size w w') := by
      have h := longer_any hA (by omega)
      unfold snL
      rw [if_pos h1]
      rw [h1] at h ⊢
      exact h
    clear hA hn0 hn2 h1
    go_enter Try.func52, Try.ntmps52
    go_wp2_with (go_at_call 77; refine HC.out.mono ?_; rintro e w1 ⟨v1, rfl, hw1, hb1⟩; have H1 : Hid (WLs w.heap.size v1 n (snL n l f) w1 ∧ Below w.heap.size w w1) := ⟨hw1, hb1⟩; clear hw1 hb1)
    go_ret
    exact ⟨_, rfl, H1.out⟩
  have z1 : ((l : Int) == (n0 : Int)) = false := beq_eq_false_iff_ne.2 (by omega)
  by_cases h2 : l = n
  · have z2 : ((l : Int) == (n : Int)) = true := by rw [beq_iff_eq]; omega
    have HC : Hid (Calls Try.prog 78 #[.slice ao l ca] w fun e w' => ∃ vo vc, e = .returned (.slice vo n vc) ∧ OwnI w.heap.size (.slice vo n vc) (wz n f) w' ∧ Below w.heap.size w w') := by
      obtain ⟨b, off, e, _⟩ := hA.sl 0 (by omega)
      subst e
      refine (cloneI_any hA.sl (by omega) (hA.lt _ rfl)).mono ?_
      rintro e w' ⟨v, rfl, ho, hb⟩
      rw [h2] at ho
      obtain ⟨vo, vc, rfl, _⟩ := OwnI.argL (n := n) (y := fun j => ((f j : Nat) : Int)) ho
      exact ⟨vo, vc, rfl, ho, hb⟩
    have HS : Hid (snL n l f = [f]) := by show snL n l f = [f]; unfold snL; rw [if_neg h1, if_pos h2]
    clear hA hn0 hn2 h1 h2
    go_enter Try.func52, Try.ntmps52
    go_wp2_with fail
    refine HC.out.mono ?_
    rintro e w1 ⟨vo, vc, rfl, ho1, hb1⟩
    have H1 : Hid (WLs w.heap.size (.slice (some ⟨w1.heap.size, 0, none⟩) 1 1) n (snL n l f) (w1.alloc (.cells #[.slice vo n vc] 22)) ∧ Below w.heap.size w (w1.alloc (.cells #[.slice vo n vc] 22))) := ⟨by rw [HS.out]; exact WLs.single ho1 hb1.size, bel_up' hb1 ((Below.refl _ _).alloc (Nat.le_refl _) _)⟩
    clear ho1 hb1
    go_wp2
    go_ret
    exact ⟨_, rfl, H1.out⟩
  have z2 : ((l : Int) == (n : Int)) = false := beq_eq_false_iff_ne.2 (by omega)
  by_cases h3 : l = n + 1
  · have z3 : ((l : Int) == (n2 : Int)) = true := by rw [beq_iff_eq]; omega
    have HC : Hid (Calls Try.prog 56 #[.slice ao l ca] w fun e w' => ∃ v, e = .returned v ∧ WLs w.heap.size v n (snL n l f) w' ∧ Below w.heap.size w w') := by
      have h := shorter_any hA (by omega)
      unfold snL
      rw [if_neg h1, if_neg h2, if_pos h3]
      rw [show l - 1 = n by omega] at h
      exact h
    clear hA hn0 hn2 h1 h2 h3
    go_enter Try.func52, Try.ntmps52
    go_wp2_with (go_at_call 56; refine HC.out.mono ?_; rintro e w1 ⟨v1, rfl, hw1, hb1⟩; have H1 : Hid (WLs w.heap.size v1 n (snL n l f) w1 ∧ Below w.heap.size w w1) := ⟨hw1, hb1⟩; clear hw1 hb1)
    go_ret
    exact ⟨_, rfl, H1.out⟩
  have z3 : ((l : Int) == (n2 : Int)) = false := beq_eq_false_iff_ne.2 (by omega)
  have HS : Hid (snL n l f = []) := by show snL n l f = []; unfold snL; rw [if_neg h1, if_neg h2, if_neg h3]
  clear hA hn0 hn2 h1 h2 h3
  go_enter Try.func52, Try.ntmps52
  go_wp2
  go_ret
  exact ⟨_, rfl, by rw [HS.out]; exact WLs.nil _ _ _, Below.refl _ _⟩

/-- What Mend tells: the word c, out of L, whose sum comes to a; or there is none. -/
def MdP (n a : Nat) (L : List (Nat → Nat)) (v : Value) (ok : Bool) (w : World) : Prop := (ok = true ∧ ∃ c, c ∈ L ∧ psm c n % (n + 1) = a ∧ KI v (wz n c) w) ∨ (ok = false ∧ KI v [] w ∧ ∀ c ∈ L, psm c n % (n + 1) ≠ a)
theorem KI.nil (w : World) : KI (.slice none 0 0) [] w := ⟨Or.inl ⟨rfl, none, 0, rfl⟩, fun k hk => by cases hk⟩

set_option maxHeartbeats 8000000 in
set_option maxRecDepth 100000 in
theorem gmend_ok {ao : Option Addr} {n a l ca : Nat} {f : Nat → Nat} {w : World} (hA : ArgL ao l ca (fun j => ((f j : Nat) : Int)) w) (hl : gwchk l (fun j => ((f j : Nat) : Int)) = 0) (hf : ∀ j, f j ≤ 1) (hn1 : 1 ≤ n) (hn : n ≤ 12) (ha : a ≤ n) :
    Calls Try.prog 14 #[.int .i64 (n : Nat), .int .i64 (a : Nat), .slice ao l ca] w fun e w' => ∃ v ok, e = .returned (.tuple #[v, .bool ok, .int .i64 0]) ∧ MdP n a (snL n l f) v ok w' ∧ Below w.heap.size w w' := by
  have hl13 := (gwchk_ok hl).1
  have HC : Hid (Calls Try.prog 46 #[.int .i64 (n : Nat), .int .i64 (a : Nat)] w fun e w' => e = .returned (.int .i64 0) ∧ w' = w) := by
    have h := checkSum_any (n : Int) (a : Int) w
    rw [gaChk_nat hn1 hn ha] at h; exact h
  have HK : Hid (Calls Try.prog 15 #[.slice ao l ca] w fun e w' => e = .returned (.int .i64 0) ∧ w' = w) := by
    have h := gCheck_any (cap := ca) hA.sl (by omega)
    rw [hl] at h; exact h
  have HSe : Hid (Calls Try.prog 52 #[.int .i64 (n : Nat), .slice ao l ca] w fun e w' => ∃ so sc, e = .returned (.slice so (snL n l f).length sc) ∧ WLs w.heap.size (.slice so (snL n l f).length sc) n (snL n l f) w' ∧ Below w.heap.size w w') := by
    refine (sent_any hA hl13 hn1 hn).mono ?_
    rintro e w' ⟨v, rfl, hw, hb⟩
    obtain ⟨so, sc, rfl⟩ := hw.form
    exact ⟨so, sc, rfl, hw, hb⟩
  obtain ⟨L, hL⟩ : ∃ L, L = snL n l f := ⟨_, rfl⟩
  have hLb : ∀ c ∈ L, ∀ j, c j ≤ 1 := fun c hc => snL_bits hf (by rw [← hL]; exact hc)
  have hLl := snL_len n l f hl13
  rw [← hL] at HSe hLl ⊢
  obtain ⟨M, hM⟩ : ∃ M, M = L.length := ⟨_, rfl⟩
  rw [← hM] at HSe hLl
  have HL : Hid (M = L.length ∧ ∀ c ∈ L, ∀ j, c j ≤ 1) := ⟨hM, hLb⟩
  clear hA hl hf hL hM hLb
  go_enter Try.func14, Try.ntmps14
  go_wp2_with fail
  refine HC.out.mono ?_
  rintro e w' ⟨rfl, hw⟩
  have hw := hw.symm
  subst hw
  go_wp2_with fail
  refine HK.out.mono ?_
  rintro e w' ⟨rfl, hw⟩
  have hw := hw.symm
  subst hw
  go_wp2_with fail
  refine HSe.out.mono ?_
  rintro e w1 ⟨so, sc, rfl, hw1, hb1⟩
  have H1 : Hid (WLs w.heap.size (.slice so M sc) n L w1 ∧ Below w.heap.size w w1) := ⟨hw1, hb1⟩
  clear hw1 hb1
  go_wp2
  go_loopw [28] (fun vi wr => ∃ i : Nat, i ≤ M ∧ vi = .int .i64 (i : Nat) ∧ Hid ((∀ (j : Nat), j < i → ∀ c, L[j]? = some c → psm c n % (n + 1) ≠ a) ∧ wr = w1)) (fun vi _ => M - (intOf vi).toNat)
  case atStart => exact ⟨0, by omega, rfl, fun j hj => absurd hj (by omega), rfl⟩
  case round =>
    obtain ⟨i, hi, rfl, HG⟩ := hrel
    rename World => wr
    by_cases hlt : i < M
    · have hib : (i : Int) < (M : Int) := by omega
      have hib0 : (0 : Int) ≤ (i : Int) := by omega
      have hiL : i < L.length := by rw [← HL.out.1]; exact hlt
      obtain ⟨c, hc⟩ : ∃ c, L[i]? = some c := ⟨L[i], List.getElem?_eq_getElem hiL⟩
      have hWr : WLs w.heap.size (.slice so M sc) n L wr := by rw [HG.out.2]; exact H1.out.1
      obtain ⟨g, x, cx, hso, hcell, hown, harg⟩ := hWr.item hc
      subst hso
      obtain ⟨t, ht⟩ : ∃ t, t = (((psm c n % (n + 1) : Nat) : Int) == (a : Int)) := ⟨_, rfl⟩
      have HCo : Hid (Calls Try.prog 48 #[.slice x n cx, .int .i64 (a : Nat)] wr fun e w' => e = .returned (.bool t) ∧ w' = wr) := by
        rw [ht]; exact comesTo_any (a : Int) harg.sl (by omega) (fun j _ => HL.out.2 c (List.mem_of_getElem? hc) j)
      have HT : Hid (L[i]? = some c ∧ (t = true → psm c n % (n + 1) = a) ∧ (t = false → psm c n % (n + 1) ≠ a) ∧ OwnI w.heap.size (.slice x n cx) (wz n c) wr) := by
        refine ⟨hc, fun e => ?_, fun e => ?_, hown⟩
        · rw [e] at ht
          have := beq_iff_eq.1 ht.symm
          omega
        · rw [e] at ht
          have := beq_eq_false_iff_ne.1 ht.symm
          omega
      clear hc hWr hown harg ht hiL
      go_wp2_with fail
      refine HCo.out.mono ?_
      rintro e w' ⟨rfl, hw⟩
      have hw := hw.symm
      subst hw
      cases t with
      | true =>
        have HE : Hid (MdP n a L (.slice x n cx) true wr ∧ Below w.heap.size w wr) := ⟨Or.inl ⟨rfl, c, List.mem_of_getElem? HT.out.1, HT.out.2.1 rfl, HT.out.2.2.2.ki (by unfold wz; rw [zl_len]; omega)⟩, by rw [HG.out.2]; exact H1.out.2⟩
        go_wp2
        go_ret3
        first | exact ⟨_, _, rfl, HE.out⟩ | exact ⟨_, Or.inl ⟨rfl, HE.out⟩⟩ | exact ⟨_, Or.inr ⟨rfl, HE.out⟩⟩
      | false =>
        have HN : Hid ((∀ (j : Nat), j < i + 1 → ∀ c, L[j]? = some c → psm c n % (n + 1) ≠ a) ∧ wr = w1) := by
          refine ⟨fun j hj c' hc' => ?_, HG.out.2⟩
          by_cases e : j = i
          · subst e
            have h1 := HT.out.1
            rw [hc'] at h1
            cases h1
            exact HT.out.2.2.1 rfl
          · exact HG.out.1 j (by omega) c' hc'
        go_wp2
        go_roundw
        case rel => exact ⟨i + 1, by omega, by go_num, HN.out⟩
        case measure => simp [intOf]; omega
    · have hib : ¬ (i : Int) < (M : Int) := by omega
      have HE : Hid (MdP n a L (.slice none 0 0) false wr ∧ Below w.heap.size w wr) := by
        refine ⟨Or.inr ⟨rfl, KI.nil _, fun c hc => ?_⟩, by rw [HG.out.2]; exact H1.out.2⟩
        obtain ⟨j, hj, e⟩ := List.getElem_of_mem hc
        exact HG.out.1 j (by have := HL.out.1; omega) c (by rw [List.getElem?_eq_getElem hj, e])
      go_wp2
      go_ret3
      first | exact ⟨_, _, rfl, HE.out⟩ | exact ⟨_, Or.inl ⟨rfl, HE.out⟩⟩ | exact ⟨_, Or.inr ⟨rfl, HE.out⟩⟩
end Go.Proofs.Ytillljojdnofgaa
