/- Texts of ours, one behind the other: KP9 KP10. -/
import Derived.Test.YtaliaikahohemaaDoorZKP8
import Derived.Test.YtaliaikahohemaaDoorZI12
import Derived.Test.YtaliaikahohemaaDoorZS4
/- The law CodeReads: both sides read a text alike. -/
namespace Go.Proofs.YtaliaikahohemaaDoor
open Go.RowKit Go.Sort

/-- Where the program's rows lie; where the reference's. -/
def GPr (D : FD) (n m : Nat) (M : Nat → Nat → Nat) (B : Nat) (v : Value) (w : World) : Prop := ∃ k R ro rc, v = .slice ro k rc ∧ MV B v k n R w ∧ Red D n m M k R ∧ n ≤ 64 ∧ 1 ≤ n
def GRf (D : FD) (n m : Nat) (M : Nat → Nat → Nat) (B : Nat) (v : Value) (w : World) : Prop := ∃ k R ro rc, v = .slice ro k rc ∧ LLs B v (rl k (n - 1) R) w ∧ Red D n m M k R
/-- The two sides' answers are the same code, or the same fault. -/
def RdA (e f : Ending) (w : World) : Prop :=
  (∃ (x : Int), x ≠ 0 ∧ e = .returned (.tuple #[.agg #[.int .i64 0, .int .i64 0, .slice none 0 0], .int .i64 x]) ∧ f = .returned (.tuple #[.agg #[.int .i64 0, .int .i64 0, .slice none 0 0], .int .i64 x])) ∨
  (∃ (q n : Int) (ao bo : Option Addr) (k n' ca cb : Nat) (R : Nat → Nat → Nat), k ≤ 1000000 ∧ n' ≤ 1000000 ∧ e = .returned (.tuple #[.agg #[.int .i64 q, .int .i64 n, .slice ao k ca], .int .i64 0]) ∧ f = .returned (.tuple #[.agg #[.int .i64 q, .int .i64 n, .slice bo k cb], .int .i64 0]) ∧ RL (.slice ao k ca) k n' R w ∧ RL (.slice bo k cb) k n' R w)
theorem tN_few (s : ByteArray) (hs : s.size ≤ 5000) : lcN s - 1 ≤ 1000000 := by
  have := lcN_le s
  omega
/-- Both sides read a text, one behind the other. -/
theorem reads_both (s : ByteArray) (mx : Int) {w : World} (hs : s.size ≤ 5000) (hm : w.cell? ⟨mxl, 0, none⟩ = some (.int .i64 mx)) :
    Calls Tryd.prog 4 #[.string s] w fun e w' => (∃ (q n : Int) (ro : Option Addr) (k rc : Nat) (x : Int), e = .returned (.tuple #[.agg #[.int .i64 q, .int .i64 n, .slice ro k rc], .int .i64 x])) ∧ Below w.heap.size w w' ∧ ∀ wx, Below w'.heap.size w' wx → Calls Tryd.prog 5 #[.string s] wx fun f w2 => RdA e f w2 ∧ Below wx.heap.size wx w2 := by
  obtain ⟨ea, hC, hMy, hOk⟩ := code_two (lnz (lcS s 0) 0) (lnz (lcS s 0) 1) (lcN s - 1) (tN s) (tZ s) (tN_few s hs)
  by_cases he : ea = 0
  · subst he
    obtain ⟨D, hD, hq, n', hn, hcd⟩ := hOk rfl
    have F := fld hD
    refine (parse_any s mx hs hm 0 (lnz (lcS s 0) 0) (lnz (lcS s 0) 1) (GPr D n' (lcN s - 1) (mzc (tN s) (tZ s))) ?_ ?_ ?_).mono ?_
    · rintro B b v wx x y u ⟨k, R, ro, rc, hv, hmv, hr⟩ hb _
      exact ⟨k, R, ro, rc, hv, laid_mv hmv hb _ _ _, hr⟩
    · rintro B B' v wx ⟨k, R, ro, rc, hv, hmv, hr⟩ hB
      exact ⟨k, R, ro, rc, hv, hmv.mono hB, hr⟩
    · intro ao A C ca wx hA
      have hz := hcd ao A C wx hA
      have hCx : ∀ wy, Below wx.heap.size wx wy → Calls Tryd.prog 19 #[.agg #[.int .i64 (D.q : Nat), .int .i64 (n' : Nat), .slice ao (lcN s - 1) ca]] wy fun x w' => x = .returned (.int .i64 0) ∧ Below wy.heap.size wy w' := fun wy hy => by
        have := hC ao A C ca wy (hA.below hy)
        rw [hq, hn] at this
        exact this
      rw [hq, hn]
      refine (cMake_ok hD hz hCx).mono ?_
      rintro e w' ⟨k, R, ro, rc, rfl, hmv, hr, hb⟩
      exact ⟨⟨ro, k, rc, rfl, k, R, ro, rc, rfl, hmv, hr, hz.n64, hz.n1⟩, hb⟩
    · rintro e w' ⟨hP, hb⟩
      refine ⟨?_, hb, fun wx hx => ?_⟩
      · rcases hP with ⟨_, rfl⟩ | ⟨_, ro, k, rc, rfl, _⟩
        · exact ⟨_, _, _, _, _, _, rfl⟩
        · exact ⟨_, _, _, _, _, _, rfl⟩
      · refine (rparse_any s hs 0 (lnz (lcS s 0) 0) (lnz (lcS s 0) 1) (GRf D n' (lcN s - 1) (mzc (tN s) (tZ s))) ?_ ?_ ?_ ?_).mono ?_
        · rintro B b v wx x y u ⟨k, R, ro, rc, hv, hmv, hr⟩ _ ht
          exact ⟨k, R, ro, rc, hv, hmv.laid ht _ _ _, hr⟩
        · rintro B B' v wx ⟨k, R, ro, rc, hv, hmv, hr⟩ hB
          exact ⟨k, R, ro, rc, hv, hmv.mono hB, hr⟩
        · intro ao A C ca wx hA
          exact hMy ao A C ca wx hA
        · intro _ ao A C ca wx hA
          have hz := hcd ao A C wx hA
          obtain ⟨h64, hel, hbd, hmr⟩ := hz.rows F
          have hn1 := hz.n1
          have e1 : n' - 1 + 1 = n' := by omega
          rw [hq, hn]
          refine (made_any (n1 := n' - 1) hD (by omega) hz.n64 (by omega) (fun i hi => ⟨hel i hi, by rw [e1]; exact hbd i hi⟩) hmr).mono ?_
          rintro e w' ⟨k, R, ro, rc, rfl, hll, hr, hb⟩
          exact ⟨⟨ro, k, rc, rfl, k, R, ro, rc, rfl, hll, hr⟩, hb⟩
        · rintro f w2 ⟨hR, hb2⟩
          refine ⟨?_, hb2⟩
          rcases hP with ⟨h0, rfl⟩ | ⟨h0, ro, k, rc, rfl, k1, R1, ro1, rc1, e1, hmv, hr1, hz64⟩
          · rcases hR with ⟨_, rfl⟩ | ⟨h1, _⟩ | ⟨h1, _⟩
            · exact Or.inl ⟨_, h0, rfl, rfl⟩
            · exact absurd h1 h0
            · exact absurd h1 h0
          · rcases hR with ⟨h1, _⟩ | ⟨_, h1, _⟩ | ⟨_, _, ro', k', rc', rfl, k2, R2, ro2, rc2, e2, hll, hr2⟩
            · exact absurd h0 h1
            · exact absurd rfl h1
            · cases e1
              cases e2
              obtain ⟨ek, eR⟩ := hr1.uniq F hr2 (fun v => Iff.rfl)
              subst ek
              have hk := hr1.le
              refine Or.inr ⟨_, _, _, _, _, n', _, _, R1, by omega, by omega, rfl, rfl, ?_, ?_⟩
              · exact (hmv.below (bel_up' hx hb2)).rl
              · have h2 := hll.rl
                rw [show n' - 1 + 1 = n' by omega] at h2
                exact h2.congr (fun i hi => (eR i hi).symm)
  · refine (parse_any s mx hs hm ea 0 0 (fun _ v _ => v = .slice none 0 0) (fun B b v wx x y u h _ _ => h) (fun B B' v wx h _ => h) ?_).mono ?_
    · intro ao A C ca wx hA
      refine (cMake_err ea he _ _ (fun wy hy => hC ao A C ca wy (hA.below hy))).mono ?_
      rintro e w' ⟨rfl, hb⟩
      exact ⟨⟨none, 0, 0, rfl, rfl⟩, hb⟩
    · rintro e w' ⟨hP, hb⟩
      refine ⟨?_, hb, fun wx hx => ?_⟩
      · rcases hP with ⟨_, rfl⟩ | ⟨_, ro, k, rc, rfl, _⟩
        · exact ⟨_, _, _, _, _, _, rfl⟩
        · exact ⟨_, _, _, _, _, _, rfl⟩
      · refine (rparse_any s hs ea 0 0 (fun _ v _ => v = .slice none 0 0) (fun B b v wx x y u h _ _ => h) (fun B B' v wx h _ => h) ?_ ?_).mono ?_
        · intro ao A C ca wx hA
          exact hMy ao A C ca wx hA
        · intro h
          exact absurd h he
        · rintro f w2 ⟨hR, hb2⟩
          refine ⟨?_, hb2⟩
          rcases hP with ⟨h0, rfl⟩ | ⟨h0, ro, k, rc, rfl, hv⟩
          · rcases hR with ⟨_, rfl⟩ | ⟨h1, _⟩ | ⟨h1, _⟩
            · exact Or.inl ⟨_, h0, rfl, rfl⟩
            · exact absurd h1 h0
            · exact absurd h1 h0
          · cases hv
            rcases hR with ⟨h1, _⟩ | ⟨_, _, rfl⟩ | ⟨_, h1, _⟩
            · exact absurd h0 h1
            · exact Or.inl ⟨_, he, rfl, rfl⟩
            · exact absurd h1 he
end Go.Proofs.YtaliaikahohemaaDoor

/- The law CodeReads, whole. -/
namespace Go.Proofs.YtaliaikahohemaaDoor
open Go.RowKit Go.Sort

set_option maxHeartbeats 4000000 in
set_option maxRecDepth 100000 in
theorem codeReads_walk (s : ByteArray) (mx : Int) {w : World} (hm : w.cell? ⟨mxl, 0, none⟩ = some (.int .i64 mx)) :
    Calls Tryd.prog 3 #[.string s] w fun r w' => r = .returned (.bool true) ∧ Below w.heap.size w w' := by
  by_cases h1 : 5000 < s.size
  · have i1 : (5000 : Int) < (s.size : Int) := by omega
    clear h1 hm
    go_enter Tryd.func3, Tryd.ntmps3
    go_wp2
    go_ret
    exact ⟨rfl, Below.refl _ _⟩
  have i1 : ¬ (5000 : Int) < (s.size : Int) := by omega
  have HM : Hid (w.cell? ⟨mxl, 0, none⟩ = some (.int .i64 mx) ∧ s.size ≤ 5000) := ⟨hm, by omega⟩
  clear h1 hm
  go_enter Tryd.func3, Tryd.ntmps3
  go_wp2_with fail
  refine (reads_both s mx HM.out.2 HM.out.1).mono ?_
  rintro e w1 ⟨⟨q, n, ro, k, rc, x, rfl⟩, hb1, hR⟩
  have H1 : Hid (∀ wx, Below w1.heap.size w1 wx → Calls Tryd.prog 5 #[.string s] wx fun f w2 => RdA (.returned (.tuple #[.agg #[.int .i64 q, .int .i64 n, .slice ro k rc], .int .i64 x])) f w2 ∧ Below wx.heap.size wx w2) := hR
  have HB1 : Hid (Below w.heap.size w w1) := hb1
  clear hR hb1
  go_wp2_with fail
  obtain ⟨b1, hb1⟩ : ∃ b1, b1 = w1.heap.size := ⟨_, rfl⟩
  obtain ⟨wa, hwa⟩ : ∃ wa, wa = w1.alloc (.cells #[.int .i64 q, .int .i64 n, .slice ro k rc] 24) := ⟨_, rfl⟩
  rw [← hwa, ← hb1]
  have HWa : Hid (Below w1.heap.size w1 wa ∧ CB b1 q n (.slice ro k rc) wa) := by
    rw [hwa, hb1]; exact ⟨(Below.refl _ _).alloc (Nat.le_refl _) _, CB.new _ _ _ _⟩
  clear hwa hb1
  refine (H1.out wa HWa.out.1).mono ?_
  rintro f w2 ⟨hA, hb2⟩
  have H2 : Hid (Below w.heap.size w w2 ∧ CB b1 q n (.slice ro k rc) w2) := ⟨bel_up' (bel_up' HB1.out HWa.out.1) hb2, HWa.out.2.keep hb2⟩
  clear hb2
  rcases hA with ⟨y, hy, e1, rfl⟩ | ⟨q', n', ao, bo, k', m', ca, cb, R, hk', hm', e1, rfl, hRa, hRb⟩
  · cases e1
    have HY : Hid (x ≠ 0) := hy
    clear hy
    obtain ⟨c0, c1, c2⟩ := H2.out.2
    have hal : Below w2.heap.size w2 (w2.alloc (.cells #[.int .i64 0, .int .i64 0, .slice none 0 0] 24)) := (Below.refl _ _).alloc (Nat.le_refl _) _
    obtain ⟨d0, d1, d2⟩ := H2.out.2.keep hal
    obtain ⟨d3, d4, d5⟩ := CB.new 0 0 (.slice none 0 0) w2
    go_wp2_with fail
    refine (lsame_err x HY.out 0 0 none 0 0 _).mono ?_
    rintro e w3 ⟨rfl, hb3⟩
    have H3 : Hid (Below w.heap.size w w3) := bel_up' (bel_up' H2.out.1 hal) hb3
    clear hb3 hal c0 c1 c2 d0 d1 d2 d3 d4 d5
    go_wp2
    go_ret
    exact ⟨rfl, H3.out⟩
  · cases e1
    obtain ⟨c0, c1, c2⟩ := H2.out.2
    have HL : Hid (k ≤ 1000000 ∧ m' ≤ 1000000 ∧ RL (.slice ro k rc) k m' R w2 ∧ RL (.slice bo k cb) k m' R w2) := ⟨hk', hm', hRa, hRb⟩
    clear hk' hm' hRa hRb
    have hal : Below w2.heap.size w2 (w2.alloc (.cells #[.int .i64 q, .int .i64 n, .slice bo k cb] 24)) := (Below.refl _ _).alloc (Nat.le_refl _) _
    obtain ⟨d0, d1, d2⟩ := H2.out.2.keep hal
    obtain ⟨d3, d4, d5⟩ := CB.new q n (.slice bo k cb) w2
    go_wp2_with fail
    refine (lsame_ok q n (HL.out.2.2.1.below hal) (HL.out.2.2.2.below hal) HL.out.1 HL.out.2.1).mono ?_
    rintro e w3 ⟨rfl, hb3⟩
    have H3 : Hid (Below w.heap.size w w3) := bel_up' (bel_up' H2.out.1 hal) hb3
    clear hb3 hal c0 c1 c2 d0 d1 d2 d3 d4 d5
    go_wp2
    go_ret
    exact ⟨rfl, H3.out⟩
end Go.Proofs.YtaliaikahohemaaDoor
