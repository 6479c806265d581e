/- Trellises: the reference's Likeliest. -/
import Derived.Test.YtlljaliemldjkaaZKV13
import Derived.Test.YtlljaliemldjkaaZKH9
import Derived.Test.YtlljaliemldjkaaZKL12
namespace Go.Proofs.Ytlljaliemldjkaa
open Go.RowKit Go.Sort

theorem Fst.first (f : Nat → Nat) : Fst f 1 0 := ⟨by omega, fun r hr => Or.inr ⟨by rw [show r = 0 by omega], by omega⟩⟩
theorem Fst.next {f : Nat → Nat} {k b : Nat} (h : Fst f k b) (hlt : f k < f b) : Fst f (k + 1) k := by
  refine ⟨by omega, fun r hr => ?_⟩
  by_cases e : r = k
  · exact Or.inr ⟨by rw [e], by omega⟩
  · rcases h.2 r (by omega) with h1 | ⟨h1, _⟩
    · exact Or.inl (by omega)
    · exact Or.inl (by omega)
theorem Fst.stays {f : Nat → Nat} {k b : Nat} (h : Fst f k b) (hlt : ¬ f k < f b) : Fst f (k + 1) b := by
  refine ⟨Nat.lt_succ_of_lt h.1, fun r hr => ?_⟩
  by_cases e : r = k
  · subst e
    have := h.1
    by_cases e2 : f b < f r
    · exact Or.inl e2
    · exact Or.inr ⟨by omega, by omega⟩
  · exact h.2 r (by omega)
theorem OwnI.slz {base : Nat} {v : Value} {n : Nat} {y : Nat → Int} {w : World} (h : OwnI base v (zl n y) w) : ∃ ao ca, v = .slice ao n ca ∧ SlZ ao n y w ∧ LtB ao w.heap.size := by
  obtain ⟨ao, ca, e, ha⟩ := h.argL
  exact ⟨ao, ca, e, ha.sl, ha.lt⟩

set_option maxHeartbeats 16000000 in
set_option maxRecDepth 100000 in
theorem rlikeliest_any {ao so : Option Addr} {R ca l sc n : Nat} {z : Nat → Nat} {y : Nat → Int} {w : World} (hX : RlA ao R z w) (hY : SlZ so l y w) (hYl : LtB so w.heap.size) (hl : l = R * (n + mmr z R)) (hn : n ≤ 20) :
    Calls Try.prog 30 #[.slice ao R ca, .slice so l sc, .int .i64 (n : Nat)] w fun e w' => ∃ b v, Fst (apt z R y n (mmr z R)) (2 ^ n) b ∧ e = .returned (.tuple #[v, .int .i64 (apt z R y n (mmr z R) b : Nat)]) ∧ OwnI w.heap.size v (zl n fun j => ((dgs 2 n b j : Nat) : Int)) w' ∧ Below w.heap.size w w' := by
  have hR3 := hX.rz.few
  have hM4 : mmr z R ≤ 4 := mmr_le z R
  have hl72 : l ≤ 72 := by
    rw [hl]
    exact Nat.le_trans (Nat.mul_le_mul hR3 (show n + mmr z R ≤ 24 by omega)) (by omega)
  have HSg : Hid (∀ (g k : Nat) (wx : World), Below w.heap.size w wx → Row g n (dgs 2 n k) wx → Calls Try.prog 8 #[.slice ao R ca, .slice (some ⟨g, 0, none⟩) n n] wx fun e w' => ∃ bo cb, e = .returned (.slice bo l cb) ∧ SlZ bo l (fun i => ((sgn' z R (dgs 2 n k) n i : Nat) : Int)) w' ∧ Below wx.heap.size wx w') := fun g k wx hb hrow => by
    refine (rsigns_any (cb := n) (hX.below hb) (m := dgs 2 n k) ⟨(hrow.sl (Nat.le_refl _)).z, fun p hp => by cases hp; exact hrow.lt, fun i _ => dgs_le1 n k i⟩ hn).mono ?_
    rintro e w' ⟨v, rfl, ho, hb'⟩
    rw [← hl] at ho
    obtain ⟨bo, cb, rfl, hs, _⟩ := OwnI.slz ho
    exact ⟨bo, cb, rfl, hs, hb'⟩
  have HAp : Hid (∀ (k : Nat) (bo : Option Addr) (cb : Nat) (wx : World), Below w.heap.size w wx → SlZ bo l (fun i => ((sgn' z R (dgs 2 n k) n i : Nat) : Int)) wx → Calls Try.prog 31 #[.slice bo l cb, .slice so l sc] wx fun e w' => e = .returned (.int .i64 (apt z R y n (mmr z R) k : Nat)) ∧ ∃ j, w' = wx.drewN j) := fun k bo cb wx hb hs => by
    have h := rapartS_any (ca := cb) (cb := sc) hs (hY.below hb hYl) (by omega)
    refine h.mono ?_
    rintro e w' ⟨rfl, hd⟩
    refine ⟨?_, hd⟩
    unfold apt
    rw [aps_ct, ← hl]
  obtain ⟨f, hf⟩ : ∃ f, f = apt z R y n (mmr z R) := ⟨_, rfl⟩
  rw [← hf] at HAp ⊢
  obtain ⟨N, hN⟩ : ∃ N, N = 2 ^ n := ⟨_, rfl⟩
  have hN0 : 0 < N := by rw [hN]; exact Nat.pow_pos (by omega)
  have HN : Hid (N = 2 ^ n) := hN
  rw [← hN]
  clear hX hY hYl hl hN hf hM4 hR3
  go_enter Try.func30, Try.ntmps30
  go_wp2_with (at_make; refine make_int rfl _ _ rfl _ n rfl rfl (by omega) (by omega) ?_; intro w1 hown1 hgrow1)
  obtain ⟨g, hg⟩ : ∃ g, g = w.heap.size := ⟨_, rfl⟩
  have HB1 : Hid (Below w.heap.size w w1 ∧ Row g n (dgs 2 n 0) w1 ∧ w.heap.size ≤ g) := ⟨below_grown hgrow1 (Nat.le_refl _) (fun k hk => by simp at hk), by rw [hg]; exact (row_zeros hown1).congr (fun j _ => dgs_zero.symm), by omega⟩
  have HCp : Hid (∀ (k : Nat) (wx : World), Row g n (dgs 2 n k) wx → Calls Try.prog 21 #[.slice (some ⟨g, 0, none⟩) n n] wx fun e w' => ∃ v, e = .returned v ∧ OwnI wx.heap.size v (zl n fun j => ((dgs 2 n k j : Nat) : Int)) w' ∧ Below wx.heap.size wx w') := fun k wx hrow => copyI_any ((hrow.sl (Nat.le_refl _)).z) (by omega) (fun e => by cases e) (fun p hp => by cases hp; exact hrow.lt)
  rw [← hg]
  clear hown1 hgrow1 hg
  refine (HCp.out 0 w1 HB1.out.2.1).mono ?_
  rintro e w2 ⟨v2, rfl, ho2, hb2⟩
  have H2 : Hid (OwnI w.heap.size v2 (zl n fun j => ((dgs 2 n 0 j : Nat) : Int)) w2 ∧ v2.ownBlock ≠ some g ∧ Row g n (dgs 2 n 0) w2 ∧ Below w.heap.size w w2) := by
    refine ⟨ho2.mono HB1.out.1.size, fun e => ?_, HB1.out.2.1.below hb2 HB1.out.2.1.lt, bel_up' HB1.out.1 hb2⟩
    have h1 := (ho2.lt g e).1
    have h2 := HB1.out.2.1.lt
    omega
  clear ho2 hb2
  go_wp2_with fail
  refine (HSg.out g 0 w2 H2.out.2.2.2 H2.out.2.2.1).mono ?_
  rintro e w3 ⟨bo, cb, rfl, hs3, hb3⟩
  have H3 : Hid (OwnI w.heap.size v2 (zl n fun j => ((dgs 2 n 0 j : Nat) : Int)) w3 ∧ v2.ownBlock ≠ some g ∧ Row g n (dgs 2 n 0) w3 ∧ Below w.heap.size w w3 ∧ SlZ bo l (fun i => ((sgn' z R (dgs 2 n 0) n i : Nat) : Int)) w3) := ⟨H2.out.1.below hb3 fun q hq => (H2.out.1.lt q hq).2, H2.out.2.1, H2.out.2.2.1.below hb3 H2.out.2.2.1.lt, bel_up' H2.out.2.2.2 hb3, hs3⟩
  clear hs3 hb3
  go_wp2_with fail
  refine (HAp.out 0 bo cb w3 H3.out.2.2.2.1 H3.out.2.2.2.2).mono ?_
  rintro e w4 ⟨rfl, dr, hw4⟩
  have H4 : Hid (OwnI w.heap.size v2 (zl n fun j => ((dgs 2 n 0 j : Nat) : Int)) w4 ∧ v2.ownBlock ≠ some g ∧ Row g n (dgs 2 n 0) w4 ∧ Below w.heap.size w w4) := by
    rw [hw4]; exact ⟨H3.out.1.drewN _, H3.out.2.1, H3.out.2.2.1.drewN _, below_drewN2 H3.out.2.2.2.1 _⟩
  clear hw4
  go_wp2
  go_loopg [9, 10] N (fun gk vb vo wr => ∃ k b : Nat, k + gk = N ∧ k < N ∧ vo = .int .i64 (f b : Nat) ∧ Hid (Fst f (k + 1) b ∧ OwnI w.heap.size vb (zl n fun j => ((dgs 2 n b j : Nat) : Int)) wr ∧ vb.ownBlock ≠ some g ∧ Row g n (dgs 2 n k) wr ∧ Below w.heap.size w wr))
  case atStart => exact ⟨0, 0, by omega, hN0, rfl, Fst.first f, H4.out⟩
  case round =>
    obtain ⟨k, b, hkN, hkl, rfl, HG⟩ := hrel
    rename World => wr
    have hk2 : k < 2 ^ n := by rw [← HN.out]; omega
    have HNt : Hid (Calls Try.prog 50 #[.slice (some ⟨g, 0, none⟩) n n, .int .i64 2] wr fun e w' => ∃ mb, e = .returned (.bool mb) ∧ wr.grownBy w' (some g) ∧ mb = decide (k + 1 < N) ∧ (k + 1 < N → Row g n (dgs 2 n (k + 1)) w')) := by
      refine (rnext_any FTw_in (dgm_mn (fld FTw_in) n k) (by omega) (HG.out.2.2.2.1.congr (fun j hj => (dgm_lo hj).symm))).mono ?_
      rintro e w' ⟨hgr, ⟨rfl, c', hr', hmn, haf⟩ | ⟨rfl, hl, _⟩⟩
      · have h := dgs_next (fld FTw_in) hk2 hmn haf
        have h1 : k + 1 < 2 ^ n := h.1
        rw [← HN.out] at h1
        exact ⟨true, rfl, hgr, by rw [decide_eq_true h1], fun _ => hr'.congr h.2⟩
      · have h : k + 1 = 2 ^ n := dgs_last (fld FTw_in) hk2 hl
        rw [← HN.out] at h
        exact ⟨false, rfl, hgr, by rw [decide_eq_false (by omega)], fun h2 => absurd h2 (by omega)⟩
    clear hk2
    go_wp2_with fail
    refine HNt.out.mono ?_
    rintro e w5 ⟨mb, rfl, hg5, hmb, hrow5⟩
    have H5 : Hid (OwnI w.heap.size u9 (zl n fun j => ((dgs 2 n b j : Nat) : Int)) w5 ∧ u9.ownBlock ≠ some g ∧ Below w.heap.size w w5) := ⟨HG.out.2.1.kept hg5 (Or.inr HG.out.2.2.1), HG.out.2.2.1, HG.out.2.2.2.2.grown hg5 HG.out.2.2.2.2.size (fun q hq => by cases hq; exact HB1.out.2.2)⟩
    clear hg5
    by_cases hlt : k + 1 < N
    · rw [decide_eq_true hlt] at hmb
      subst hmb
      have H5r : Hid (Row g n (dgs 2 n (k + 1)) w5) := hrow5 hlt
      clear hrow5
      go_wp2_with fail
      refine (HSg.out g (k + 1) w5 H5.out.2.2 H5r.out).mono ?_
      rintro e w6 ⟨bo6, cb6, rfl, hs6, hb6⟩
      have H6 : Hid (OwnI w.heap.size u9 (zl n fun j => ((dgs 2 n b j : Nat) : Int)) w6 ∧ u9.ownBlock ≠ some g ∧ Row g n (dgs 2 n (k + 1)) w6 ∧ Below w.heap.size w w6 ∧ SlZ bo6 l (fun i => ((sgn' z R (dgs 2 n (k + 1)) n i : Nat) : Int)) w6) := ⟨H5.out.1.below hb6 fun q hq => (H5.out.1.lt q hq).2, H5.out.2.1, H5r.out.below hb6 H5r.out.lt, bel_up' H5.out.2.2 hb6, hs6⟩
      clear hs6 hb6
      go_wp2_with fail
      refine (HAp.out (k + 1) bo6 cb6 w6 H6.out.2.2.2.1 H6.out.2.2.2.2).mono ?_
      rintro e w7 ⟨rfl, dr7, hw7⟩
      have H7 : Hid (OwnI w.heap.size u9 (zl n fun j => ((dgs 2 n b j : Nat) : Int)) w7 ∧ u9.ownBlock ≠ some g ∧ Row g n (dgs 2 n (k + 1)) w7 ∧ Below w.heap.size w w7) := by
        rw [hw7]; exact ⟨H6.out.1.drewN _, H6.out.2.1, H6.out.2.2.1.drewN _, below_drewN2 H6.out.2.2.2.1 _⟩
      clear hw7
      by_cases hb : f (k + 1) < f b
      · have hbz : ((f (k + 1) : Nat) : Int) < ((f b : Nat) : Int) := by omega
        have HF : Hid (Fst f (k + 1 + 1) (k + 1)) := HG.out.1.next hb
        clear hb
        go_wp2_with fail
        refine (HCp.out (k + 1) w7 H7.out.2.2.1).mono ?_
        rintro e w8 ⟨v8, rfl, ho8, hb8⟩
        have H8 : Hid (OwnI w.heap.size v8 (zl n fun j => ((dgs 2 n (k + 1) j : Nat) : Int)) w8 ∧ v8.ownBlock ≠ some g ∧ Row g n (dgs 2 n (k + 1)) w8 ∧ Below w.heap.size w w8) := by
          refine ⟨ho8.mono H7.out.2.2.2.size, fun e => ?_, H7.out.2.2.1.below hb8 H7.out.2.2.1.lt, bel_up' H7.out.2.2.2 hb8⟩
          have h1 := (ho8.lt g e).1
          have h2 := H7.out.2.2.1.lt
          omega
        clear ho8 hb8
        go_wp2
        go_roundg (gk - 1)
        case measure => omega
        case rel => exact ⟨k + 1, k + 1, by omega, hlt, rfl, HF.out, H8.out⟩
      · have hbz : ¬ ((f (k + 1) : Nat) : Int) < ((f b : Nat) : Int) := by omega
        have HF : Hid (Fst f (k + 1 + 1) b) := HG.out.1.stays hb
        clear hb
        go_wp2
        go_roundg (gk - 1)
        case measure => omega
        case rel => exact ⟨k + 1, b, by omega, hlt, rfl, HF.out, H7.out⟩
    · rw [decide_eq_false hlt] at hmb
      subst hmb
      have HE : Hid (Fst f N b) := by
        have h := HG.out.1
        rw [show k + 1 = N by omega] at h
        exact h
      clear hrow5
      go_wp2
      refine bodyPost_ret (v := .tuple #[u9, .int .i64 (f b : Nat)]) (by simp [results, Try.results30, go_sem]) rfl ?_
      exact ⟨b, u9, HE.out, rfl, H5.out.1, H5.out.2.2⟩
end Go.Proofs.Ytlljaliemldjkaa
