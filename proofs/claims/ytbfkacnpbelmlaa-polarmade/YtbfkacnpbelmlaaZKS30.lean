/- Polar: the law's polarReads where all may be. -/
import Derived.Test.YtbfkacnpbelmlaaZKS29
namespace Go.Proofs.Ytbfkacnpbelmlaa
open Go.RowKit Go.Sort

set_option maxHeartbeats 8000000 in
set_option maxRecDepth 100000 in
theorem pReads_ok {m N k b off c fc : Nat} {fo : Option Addr} {x : Nat → Int} {w : World} (hm : m ≤ 5) (hN : N = 2 ^ m) (hk : k ≤ N) (hX : Prt b off N x w) (hc1 : N ≤ c) (hc2 : c ≤ 9223372036854775807) (hf : SlZ fo k (fun i => ((bpl m k i : Nat) : Int)) w ∧ LtB fo w.heap.size) :
    Calls Try.prog 17 #[.int .i64 (m : Nat), .int .i64 (k : Nat), .slice (some ⟨b, off, none⟩) N c, .slice fo k fc, .int .i64 0] w fun e w' => e = .returned (.bool true) ∧ Below w.heap.size w w' := by
  obtain ⟨p, hp⟩ : ∃ p, p = bpl m k := ⟨_, rfl⟩
  obtain ⟨fr, hfr⟩ : ∃ fr : Nat → Bool, fr = fun j : Nat => decide ((j : Int) ∈ zl k fun i => ((p i : Nat) : Int)) := ⟨_, rfl⟩
  obtain ⟨o, ho⟩ : ∃ o, o = rdp fr m 0 x := ⟨_, rfl⟩
  have hNb : N ≤ 32 := by rw [hN]; exact Nat.le_trans (Nat.pow_le_pow_right (by omega) hm) (by decide)
  have hN1 : 1 ≤ N := by rw [hN]; exact Nat.pow_pos (by omega)
  have hall : allP isht x N = true := by
    have : ∀ n, n ≤ N → allP isht x n = true := fun n => by
      induction n with
      | zero => intro _; rfl
      | succ n ih =>
        intro hn
        show (allP isht x n && isht (x n)) = true
        rw [ih (by omega)]
        exact decide_eq_true (hX.2.2 n (by omega))
    exact this N (Nat.le_refl _)
  have HBi : Hid (Calls Try.prog 11 #[.slice (some ⟨b, off, none⟩) N c, .bool true] w fun e w' => e = .returned (.bool true) ∧ w' = w) := by
    have h := rbits_any (cap := c) true hX.slz (by omega)
    have e : allP (isbg true) x N = true := hall
    rw [e] at h
    exact h
  have HD : Hid (Calls Try.prog 22 #[.int .i64 (m : Nat), .int .i64 (k : Nat), .slice (some ⟨b, off, none⟩) N c] w fun e w' => ∃ v, e = .returned (.tuple #[v, .bool o.isSome, .int .i64 0]) ∧ OwnI w.heap.size v (dml fr N o) w' ∧ Below w.heap.size w w') := by
    rw [ho, hfr]
    refine dec_ok (p := fun i => ((p i : Nat) : Int)) hm hN hk hX hc1 hc2 (fun w0 => ?_) (fun w1 hb1 => ?_)
    · have h := best_ok hm (by rw [← hN]; exact hk) w0
      rw [flt_bpl hm (by rw [← hN]; exact hk), ← hp] at h
      exact h
    · have h := bHeard_any (cap := c) (N : Int) (hX.same (hb1.block b hX.1) hb1.size).slz (by omega)
      have e : bchk isht N x (N : Int) = 0 := by unfold bchk; rw [if_neg (fun h => h rfl), if_pos hall]
      rw [e] at h
      exact h
  have HR : Hid (∀ w1, Below w.heap.size w w1 → Calls Try.prog 35 #[.slice (some ⟨b, off, none⟩) N c, .slice fo k fc, .int .i64 0] w1 (RrQ N w1 o)) := fun w1 hb1 => by
    rw [ho, hfr]
    have hX1 := hX.same (hb1.block b hX.1) hb1.size
    rw [← hp] at hf
    have h0 : 0 + N ≤ 64 := by omega
    rw [hN] at hX1 h0 ⊢
    exact rread_any (by omega) m hm h0 hX1 (slz_bel hf hb1)
  have HX : Hid ((SlZ fo k (fun i => ((p i : Nat) : Int)) w ∧ LtB fo w.heap.size) ∧ (∀ i, i < k → p i < N) ∧ (∀ a, zl k (fun i => a (p i)) = msl fr a 0 N) ∧ ∀ r, o = some r → ∀ i, i < N → Bt (r.1 i) ∧ Bt (r.2 i)) := by
    have hk' : k ≤ 2 ^ m := by rw [← hN]; exact hk
    refine ⟨by rw [hp]; exact hf, fun i hi => by rw [hp, hN]; exact bpl_lt hm hk' i hi, fun a => by rw [hfr, hp, hN]; exact bpl_msl hm hk' a, fun r hr i hi => ?_⟩
    rw [ho] at hr
    exact rdp_bt hr (fun i hi => hX.2.2 i (by rw [hN]; exact hi)) i (by rw [← hN]; exact hi)
  have hNi : (2 : Int) ^ m = (N : Int) := by rw [hN]; simp
  have hNw : IntKind.i64.wrap (N : Int) = (N : Int) := wrap_to rfl (by omega)
  have hk64 : k ≤ 64 := by omega
  clear hN hX hc1 hc2 hf hp hfr ho hall
  go_enter Try.func17, Try.ntmps17
  go_wp2_with fail
  refine HBi.out.mono ?_
  rintro e w' ⟨rfl, hw⟩
  have hw := hw.symm
  subst hw
  clear HBi
  cases o with
  | none =>
    go_wp2_with fail
    refine HD.out.mono ?_
    rintro e w1 ⟨v, he, ho1, hb1⟩
    have he : e = .returned (.tuple #[v, .bool false, .int .i64 0]) := he
    subst he
    have H1 : Hid (OwnI w.heap.size v [] w1 ∧ Below w.heap.size w w1) := ⟨ho1, hb1⟩
    clear ho1 hb1 HD
    go_wp2_with fail
    refine (HR.out w1 H1.out.2).mono ?_
    rintro e w2 ⟨hb2, va, vs, he, _⟩
    have he : e = .returned (.tuple #[va, vs, .bool false]) := he
    subst he
    have H2 : Hid (Below w.heap.size w w2 ∧ OwnI w.heap.size v [] w2) := ⟨bel_up' H1.out.2 hb2, H1.out.1.below hb2 (fun i hi => (H1.out.1.lt i hi).2)⟩
    clear hb2 HR
    go_wp2
    refine wp_loop_rounds 1 ?_
    rw [rounds_succ]
    have HS : Hid (Calls Try.prog 23 #[v, .slice none 0 0] w2 fun e w' => e = .returned (.bool true) ∧ ∃ n, w' = w2.drewN n) := by
      have := same_any (va := v) (vb := .slice none 0 0) (la := []) (lb := []) (H2.out.2.slice (by simp)) (Or.inl ⟨rfl, none, 0, rfl⟩)
      rw [decide_eq_true rfl] at this
      exact this
    by_cases hk0 : (0 : Int) < (k : Int)
    · go_wp2_with fail
      refine HS.out.mono ?_
      rintro x w3 ⟨rfl, nn, rfl⟩
      go_wp2
      go_ret
      exact ⟨rfl, bel_drewN H2.out.1 _⟩
    · go_wp2_with fail
      refine HS.out.mono ?_
      rintro x w3 ⟨rfl, nn, rfl⟩
      go_wp2
      go_ret
      exact ⟨rfl, bel_drewN H2.out.1 _⟩
  | some r =>
    go_wp2_with fail
    refine HD.out.mono ?_
    rintro e w1 ⟨v, he, ho1, hb1⟩
    have he : e = .returned (.tuple #[v, .bool true, .int .i64 0]) := he
    subst he
    have H1 : Hid (OwnI w.heap.size v (msl fr r.1 0 N) w1 ∧ Below w.heap.size w w1) := ⟨ho1, hb1⟩
    clear ho1 hb1 HD
    go_wp2_with fail
    refine (HR.out w1 H1.out.2).mono ?_
    rintro e w2 ⟨hb2, va, vs, he, hs⟩
    have he : e = .returned (.tuple #[va, vs, .bool true]) := he
    subst he
    obtain ⟨oa, _⟩ := hs r rfl
    obtain ⟨g2, c2, e2, hp2, _⟩ := own_at oa hN1 (fun i hi => (HX.out.2.2.2 r rfl i hi).1.l)
    have H2 : Hid (Below w.heap.size w w2 ∧ OwnI w.heap.size v (msl fr r.1 0 N) w2 ∧ Prt g2 0 N r.1 w2 ∧ (SlZ fo k (fun i => ((p i : Nat) : Int)) w2 ∧ LtB fo w2.heap.size)) := ⟨bel_up' H1.out.2 hb2, H1.out.1.below hb2 (fun i hi => (H1.out.1.lt i hi).2), hp2, slz_bel HX.out.1 (bel_up' H1.out.2 hb2)⟩
    subst e2
    clear hb2 HR hs oa hp2 H1
    obtain ⟨a, ha⟩ : ∃ a : Nat → Int, a = fun i => r.1 (p i) := ⟨_, rfl⟩
    have HA : Hid (a = fun i => r.1 (p i)) := ha
    clear ha
    go_wp2
    go_loopw [14, 19] (fun vs vi wr => ∃ t : Nat, t ≤ k ∧ vi = .int .i64 (t : Nat) ∧ Hid (OwnI w2.heap.size vs (zl t a) wr ∧ Below w2.heap.size w2 wr)) (fun _ vi _ => k - (intOf vi).toNat)
    case atStart => exact ⟨0, by omega, rfl, OwnI.nil _ _, Below.refl _ _⟩
    case round =>
      obtain ⟨t, ht, rfl, HG⟩ := hrel
      rename World => wr
      have hsz := HG.out.2.size
      by_cases hlt : t < k
      · have hib : (t : Int) < (k : Int) := by omega
        have hib0 : (0 : Int) ≤ (t : Int) := by omega
        obtain ⟨q, hq⟩ : ∃ q, q = p t := ⟨_, rfl⟩
        have hqN : q < N := by rw [hq]; exact HX.out.2.1 t hlt
        have hqi : (q : Int) < (N : Int) := by omega
        have hqi0 : (0 : Int) ≤ (q : Int) := by omega
        obtain ⟨b1, o1, e1, q1⟩ := (slz_bel H2.out.2.2.2 HG.out.2).1 t hlt
        obtain ⟨z, hz⟩ : ∃ z, z = r.1 q := ⟨_, rfl⟩
        have k1 : wr.cell? ⟨b1, o1 + t, none⟩ = some (.int .i64 (q : Nat)) := by rw [hq]; exact q1
        have k2 : wr.cell? ⟨g2, q, none⟩ = some (.int .i64 z) := by
          rw [hz]
          have := (H2.out.2.2.1.bel HG.out.2).2.1 q hqN
          rwa [Nat.zero_add] at this
        have HE : Hid (zl (t + 1) a = zl t a ++ [z] ∧ (zl t a).length ≤ 64) := ⟨by rw [zl_succ, HA.out, hz, hq], by rw [zl_len]; omega⟩
        subst e1
        clear q1 hz hq
        go_wp2_with (at_builtin; refine append_int rfl _ _ rfl w2.heap.size _ (zl t a) rfl (HG.out.1.alloc _) ⟨_, 0, none⟩ 1 z rfl (by simp) (by have := HE.out.2; omega) (by simp; omega) ?_; intro v5 w5 hown5 hgrow5)
        have HR5 : Hid (OwnI w2.heap.size v5 (zl (t + 1) a) w5 ∧ Below w2.heap.size w2 w5) := ⟨by rw [HE.out.1]; exact hown5, (HG.out.2.alloc hsz _).grown hgrow5 (by simp; omega) (fun b hb => (HG.out.1.lt b hb).1)⟩
        clear hown5 hgrow5
        go_roundw
        case rel => exact ⟨t + 1, by omega, by go_num, HR5.out⟩
        case measure => simp [intOf]; omega
      · have hib : ¬ (t : Int) < (k : Int) := by omega
        have hie : k = t := by omega
        subst hie
        have HS : Hid (Calls Try.prog 23 #[v, u14] wr fun e w' => e = .returned (.bool true) ∧ ∃ n, w' = wr.drewN n) := by
          have h1 : SliceI u14 (zl k a) wr := HG.out.1.slice (by rw [zl_len]; omega)
          have h2 : SliceI v (msl fr r.1 0 N) wr := (H2.out.2.1.below HG.out.2 (fun i hi => (H2.out.2.1.lt i hi).2)).slice (by have := msl_len (fr := fr) (a := r.1) (q := 0) N; omega)
          rw [HA.out, HX.out.2.2.1 r.1] at h1
          have := same_any h2 h1
          rw [decide_eq_true rfl] at this
          exact this
        have HB : Hid (Below w.heap.size w wr) := bel_up' H2.out.1 HG.out.2
        clear HG
        go_wp2_with fail
        refine HS.out.mono ?_
        rintro x w3 ⟨rfl, nn, rfl⟩
        go_wp2
        go_ret
        exact ⟨rfl, bel_drewN HB.out _⟩
end Go.Proofs.Ytbfkacnpbelmlaa
