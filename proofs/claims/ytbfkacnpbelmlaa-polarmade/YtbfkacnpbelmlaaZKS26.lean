/- Polar: the reference's PolarRead, a step of its recursion (printed by make/ks26.py). -/
import Derived.Test.YtbfkacnpbelmlaaZKS25
import Derived.Test.YtbfkacnpbelmlaaZKA3
import Derived.BigQuiet
namespace Go.Proofs.Ytbfkacnpbelmlaa
open Go.RowKit Go.Sort

theorem own_at {base n : Nat} {v : Value} {x : Nat → Int} {w : World} (h : OwnI base v (zl n x) w) (h1 : 1 ≤ n) (hx : ∀ i, i < n → Btl (x i)) : ∃ g c, v = .slice (some ⟨g, 0, none⟩) n c ∧ Prt g 0 n x w ∧ base ≤ g := by
  obtain ⟨g, cap, e1, _, _, g3, g4⟩ := OwnI.rowZ h (by omega)
  exact ⟨g, cap, e1, ⟨g4.lt', fun i hi => by rw [Nat.zero_add]; exact g4.cell i hi, hx⟩, g3⟩
theorem slz_bel {fo : Option Addr} {k : Nat} {p : Nat → Int} {w w' : World} (h : SlZ fo k p w ∧ LtB fo w.heap.size) (hb : Below w.heap.size w w') : SlZ fo k p w' ∧ LtB fo w'.heap.size := by
  refine ⟨fun i hi => ?_, fun a e => Nat.lt_of_lt_of_le (h.2 a e) hb.size⟩
  obtain ⟨b, off, e, q⟩ := h.1 i hi
  exact ⟨b, off, e, (hb.cell (p := ⟨b, off + i, none⟩) (show b < w.heap.size from h.2 _ e)).trans q⟩
theorem Prt.bel {b off n : Nat} {x : Nat → Int} {w w' : World} (h : Prt b off n x w) (hb : Below w.heap.size w w') : Prt b off n x w' := h.same (hb.block b h.1) hb.size
theorem rrq_no {N : Nat} {w w' : World} {o : Option ((Nat → Int) × (Nat → Int))} {va vs : Value} (ho : o = none) (hb : Below w.heap.size w w') : RrQ N w o (.returned (.tuple #[va, vs, .bool false])) w' := by
  subst ho
  exact ⟨hb, _, _, rfl, fun r hr => by cases hr⟩

theorem rr_mid {B S4 H g6 Sr : Nat} {va vu v7 : Value} {l lp l7 : List Int} {y : Nat → Int} {w wy w7 : World} (h1 : ∀ i, va.ownBlock = some i → i < B) (h2 : B ≤ S4) (h3 : B ≤ g6) (oa : OwnI Sr va l wy) (hp : Prt g6 0 H y wy) (hb : Below w.heap.size w wy) (hr : w.heap.size ≤ Sr) (ou : OwnI S4 vu lp wy) (hs : S4 ≤ wy.heap.size) (o7 : OwnI Sr v7 l7 w7) (hg : wy.grownBy w7 va.ownBlock) (ha : v7.ownBlock = va.ownBlock ∨ v7.ownBlock = some wy.heap.size) :
    Hid (OwnI Sr v7 l7 w7 ∧ OwnI S4 vu lp w7 ∧ Prt g6 0 H y w7 ∧ Below w.heap.size w w7 ∧ S4 ≤ w7.heap.size ∧ (v7.ownBlock = none ∨ v7.ownBlock ≠ vu.ownBlock)) := by
  have e : ∀ i, B ≤ i → some i ≠ va.ownBlock := fun i hi k => by have := h1 i k.symm; omega
  have h7 := o7.lt
  refine ⟨o7, ?_, hp.same (hg.block g6 hp.1 (e g6 h3)) hg.size, hb.grown hg hb.size (fun i hi => by have := (oa.lt i hi).1; omega), Nat.le_trans hs hg.size, ?_⟩
  · cases hv : vu.ownBlock with
    | none => exact ou.kept hg (Or.inl hv)
    | some i => exact ou.kept hg (Or.inr (by rw [hv]; exact e i (by have := (ou.lt i hv).1; omega)))
  · by_cases k : v7.ownBlock = vu.ownBlock
    · left
      cases hv : vu.ownBlock with
      | none => exact k.trans hv
      | some i =>
        rw [hv] at k
        have i1 := ou.lt i hv
        rcases ha with a | a
        · have := h1 i (a.symm.trans k); omega
        · rw [k] at a; cases a; omega
    · exact Or.inr k

set_option maxHeartbeats 16000000 in
set_option maxRecDepth 100000 in
theorem rread_step {k fc h N H q b off c : Nat} {fo : Option Addr} {p x : Nat → Int} {w : World} (hH : H = 2 ^ h) (hN : N = H + H) (hH16 : H ≤ 16) (hH1 : 1 ≤ H) (hq : q + N ≤ 64) (hP : Prt b off N x w) (hf : SlZ fo k p w ∧ LtB fo w.heap.size)
    (ih : ∀ {q b off c : Nat} {x : Nat → Int} {w : World}, q + H ≤ 64 → Prt b off H x w → SlZ fo k p w ∧ LtB fo w.heap.size →
      Calls Try.prog 35 #[.slice (some ⟨b, off, none⟩) (H : Nat) c, .slice fo k fc, .int .i64 (q : Nat)] w
        (RrQ H w (rdp (fun j => decide ((j : Int) ∈ zl k p)) h q x))) :
    Calls Try.prog 35 #[.slice (some ⟨b, off, none⟩) (N : Nat) c, .slice fo k fc, .int .i64 (q : Nat)] w
      (RrQ N w (rdp (fun j => decide ((j : Int) ∈ zl k p)) (h + 1) q x)) := by
  obtain ⟨fr, hfr⟩ : ∃ fr : Nat → Bool, fr = fun j : Nat => decide ((j : Int) ∈ zl k p) := ⟨_, rfl⟩
  rw [← hfr] at ih ⊢
  obtain ⟨W, hW⟩ : ∃ W, W = rdp fr (h + 1) q x := ⟨_, rfl⟩
  rw [← hW]
  have HI : Hid (∀ {q b off c : Nat} {x : Nat → Int} {w : World}, q + H ≤ 64 → Prt b off H x w → SlZ fo k p w ∧ LtB fo w.heap.size →
      Calls Try.prog 35 #[.slice (some ⟨b, off, none⟩) (H : Nat) c, .slice fo k fc, .int .i64 (q : Nat)] w
        (RrQ H w (rdp fr h q x))) := ih
  have HX : Hid (Prt b off N x w ∧ (SlZ fo k p w ∧ LtB fo w.heap.size) ∧ W = rdp fr (h + 1) q x ∧ H = 2 ^ h ∧ N = H + H ∧ q + N ≤ 64) := ⟨hP, hf, hW, hH, hN, hq⟩
  have hLz : ((N : Int) == 1) = false := by rw [beq_eq_false_iff_ne]; omega
  have htd : (N : Int).tdiv 2 = (H : Int) := by rw [Int.tdiv_eq_ediv_of_nonneg (by omega)]; omega
  have hdv : (N : Int) / 2 = (H : Int) := by omega
  have hHw : IntKind.i64.wrap (H : Int) = (H : Int) := wrap_to rfl (by omega)
  have hL32 : N ≤ 32 := by omega
  obtain ⟨u, hu⟩ : ∃ u : Nat → Int, u = fun i => psu (x i) (x (H + i)) := ⟨_, rfl⟩
  have HU : Hid (u = (fun i => psu (x i) (x (H + i))) ∧ ∀ i, i < H → Btl (u i)) := ⟨hu, fun i hi => by rw [hu]; exact psu_bt (hP.2.2 i (by omega)) (hP.2.2 _ (by omega))⟩
  clear hP hf hW hH hfr ih hN hq hu
  go_enter Try.func35, Try.ntmps35
  go_wp2
  go_loopw [11, 12] (fun vs vi wr => ∃ t : Nat, t ≤ H ∧ vi = .int .i64 (t : Nat) ∧ Hid (OwnI w.heap.size vs (zl t u) wr ∧ Below w.heap.size w wr)) (fun _ vi _ => H - (intOf vi).toNat)
  case atStart => exact ⟨0, by omega, rfl, OwnI.nil _ _, Below.refl _ _⟩
  case round =>
    obtain ⟨t, ht, rfl, HG⟩ := hrel
    rename World => wr
    have hsz := HG.out.2.size
    by_cases hlt : t < H
    · have hib : (t : Int) < (H : Int) := by omega
      have hib0 : (0 : Int) ≤ (t : Int) := by omega
      have hNH := HX.out.2.2.2.2.1
      have hibN : (t : Int) < (N : Int) := by omega
      obtain ⟨J, hJ⟩ : ∃ J, J = H + t := ⟨_, rfl⟩
      have hJi : (H : Int) + (t : Int) = (J : Int) := by omega
      have hJN : J < N := by omega
      have hJb : (J : Int) < (N : Int) := by omega
      have hJb0 : (0 : Int) ≤ (J : Int) := by omega
      have hJw : IntKind.i64.wrap (J : Int) = (J : Int) := wrap_to rfl (by omega)
      obtain ⟨a, ha⟩ : ∃ a, a = x t := ⟨_, rfl⟩
      obtain ⟨d, hd⟩ : ∃ d, d = x J := ⟨_, rfl⟩
      have c1 : wr.cell? ⟨b, off + t, none⟩ = some (.int .i64 a) := by rw [ha]; exact (HX.out.1.same (HG.out.2.block b HX.out.1.1) hsz).2.1 t (by omega)
      have c2 : wr.cell? ⟨b, off + J, none⟩ = some (.int .i64 d) := by rw [hd]; exact (HX.out.1.same (HG.out.2.block b HX.out.1.1) hsz).2.1 J (by omega)
      have hal : Btl a := by rw [ha]; exact HX.out.1.2.2 t (by omega)
      have hdl : Btl d := by rw [hd]; exact HX.out.1.2.2 J hJN
      have HE : Hid (zl (t + 1) u = zl t u ++ [psu a d]) := by
        show _ = _
        rw [zl_succ, HU.out.1, ha, hd, hJ]
      have hlen : (zl t u).length ≤ 64 := by rw [zl_len]; omega
      have HL : Hid ((zl t u).length ≤ 64) := hlen
      clear ha hd hJ hlen hNH

      by_cases h1 : a = -1
      · have HP : Hid (psu a d = -1) := by rw [h1]; exact if_pos (Or.inl rfl)
        subst h1
        clear hal hdl
        go_wp2_with (at_builtin; refine append_int rfl _ _ rfl w.heap.size _ (zl t u) rfl (HG.out.1.alloc _) ⟨_, 0, none⟩ 1 (-1) rfl (by simp) (by have := HL.out; omega) (by simp; omega) ?_; intro v5 w5 hown5 hgrow5)
        have HR : Hid (OwnI w.heap.size v5 (zl (t + 1) u) w5 ∧ Below w.heap.size w w5) := ⟨by rw [HE.out, HP.out]; exact hown5, (HG.out.2.alloc (by first | exact hsz | (simp; omega)) _).grown hgrow5 (by simp; omega) (fun b hb => (HG.out.1.lt b hb).1)⟩
        clear hown5 hgrow5
        go_roundw
        case rel => exact ⟨t + 1, by omega, by go_num, HR.out⟩
        case measure => simp [intOf]; omega
      · have ha0 : (0 : Int) ≤ a := by rcases hal with e | e | e <;> omega
        by_cases h2 : d = -1
        · have HP : Hid (psu a d = -1) := by rw [h2]; exact if_pos (Or.inr rfl)
          subst h2
          clear hal hdl
          go_wp2_with (at_builtin; refine append_int rfl _ _ rfl w.heap.size _ (zl t u) rfl (HG.out.1.alloc _) ⟨_, 0, none⟩ 1 (-1) rfl (by simp) (by have := HL.out; omega) (by simp; omega) ?_; intro v5 w5 hown5 hgrow5)
          have HR : Hid (OwnI w.heap.size v5 (zl (t + 1) u) w5 ∧ Below w.heap.size w w5) := ⟨by rw [HE.out, HP.out]; exact hown5, (HG.out.2.alloc (by first | exact hsz | (simp; omega)) _).grown hgrow5 (by simp; omega) (fun b hb => (HG.out.1.lt b hb).1)⟩
          clear hown5 hgrow5
          go_roundw
          case rel => exact ⟨t + 1, by omega, by go_num, HR.out⟩
          case measure => simp [intOf]; omega
        · have hd0 : (0 : Int) ≤ d := by rcases hdl with e | e | e <;> omega
          obtain ⟨a', rfl⟩ : ∃ a' : Nat, a = (a' : Int) := ⟨a.toNat, by omega⟩
          obtain ⟨d', rfl⟩ : ∃ d' : Nat, d = (d' : Int) := ⟨d.toNat, by omega⟩
          have ha2 : a' < 2 := by rcases hal with e | e | e <;> omega
          have hd2 : d' < 2 := by rcases hdl with e | e | e <;> omega
          obtain ⟨s2, hs2⟩ : ∃ s2, s2 = a' + d' := ⟨_, rfl⟩
          have hs2i : (a' : Int) + (d' : Int) = (s2 : Int) := by omega
          have hs2w : IntKind.i64.wrap (s2 : Int) = (s2 : Int) := wrap_to rfl (by omega)
          obtain ⟨r, hr⟩ : ∃ r, r = s2 % 2 := ⟨_, rfl⟩
          have hrm : (s2 : Int).tmod 2 = (r : Int) := by rw [Int.tmod_eq_emod_of_nonneg (by omega)]; omega
          have hre : (s2 : Int) % 2 = (r : Int) := by omega
          have hrw : IntKind.i64.wrap (r : Int) = (r : Int) := wrap_to rfl (by omega)
          have HP : Hid (psu (a' : Int) (d' : Int) = (r : Int)) := by
            show _ = _
            rw [psu_bit ha2 hd2, hr, hs2]
          have hs24 : s2 ≤ 4 := by omega
          clear hal hdl h1 h2 hs2 hr
          have HD : Hid (∀ m, OwnI w.heap.size u11 (zl t u) (wr.drewN m) ∧ Below w.heap.size w (wr.drewN m)) := fun m => ⟨HG.out.1.drewN m, bel_drewN HG.out.2 m⟩
          go_upto_region 15 with fail
          go_quiet (fail)
          obtain ⟨xq, hxq⟩ : ∃ xq, xq = wr.drewN nq := ⟨_, rfl⟩
          have HQ : Hid (OwnI w.heap.size u11 (zl t u) xq ∧ Below w.heap.size w xq) := by rw [hxq]; exact HD.out nq
          have hsz := HQ.out.2.size
          rw [← hxq]
          clear hxq HD
          go_wp2_with (at_builtin; refine append_int rfl _ _ rfl w.heap.size _ (zl t u) rfl (HQ.out.1.alloc _) ⟨_, 0, none⟩ 1 (r : Int) rfl (by simp) (by have := HL.out; omega) (by simp; omega) ?_; intro v5 w5 hown5 hgrow5)
          have HR : Hid (OwnI w.heap.size v5 (zl (t + 1) u) w5 ∧ Below w.heap.size w w5) := ⟨by rw [HE.out, HP.out]; exact hown5, (HQ.out.2.alloc (by first | exact hsz | (simp; omega)) _).grown hgrow5 (by simp; omega) (fun b hb => (HQ.out.1.lt b hb).1)⟩
          clear hown5 hgrow5
          go_roundw
          case rel => exact ⟨t + 1, by omega, by go_num, HR.out⟩
          case measure => simp [intOf]; omega
    · have hib : ¬ (t : Int) < (H : Int) := by omega
      have hie : H = t := by omega
      subst hie
      obtain ⟨g1, c1, e1, hp1, hg1⟩ := own_at HG.out.1 hH1 HU.out.2
      have H1 : Hid (Prt g1 0 H u wr ∧ Below w.heap.size w wr) := ⟨hp1, HG.out.2⟩
      subst e1
      clear hp1 hg1 HG hsz
      have HR1 : Hid (Calls Try.prog 35 #[.slice (some ⟨g1, 0, none⟩) (H : Nat) c1, .slice fo k fc, .int .i64 (q : Nat)] wr (RrQ H wr (rdp fr h q u))) := HI.out (by have := HX.out.2.2.2.2; omega) H1.out.1 (slz_bel HX.out.2.1 H1.out.2)
      cases hr1 : rdp fr h q u with
      | none =>
        have HV : Hid (W = none) := by
          show W = none
          rw [HX.out.2.2.1]
          refine rdp_n1 ?_
          rw [← HX.out.2.2.2.1, ← HU.out.1]
          exact hr1
        rw [hr1] at HR1
        clear hr1
        go_wp2_with fail
        refine HR1.out.mono ?_
        rintro e x2 ⟨hb2, va, vs, he, _⟩
        have he : e = .returned (.tuple #[va, vs, .bool false]) := he
        subst he
        have HB2 : Hid (Below w.heap.size w x2) := bel_up' H1.out.2 hb2
        clear hb2
        go_wp2
        refine bodyPost_ret (results_3t rfl _ _ _) rfl ?_
        exact rrq_no HV.out HB2.out
      | some r =>
        rw [hr1] at HR1
        have HV1 : Hid (rdp fr h q (fun i => psu (x i) (x (2 ^ h + i))) = some r) := by
          show _ = _
          rw [← HX.out.2.2.2.1, ← HU.out.1]
          exact hr1
        have HBt : Hid (∀ i, i < H → Bt (r.1 i) ∧ Bt (r.2 i)) := fun i hi => rdp_bt hr1 (fun i hi => HU.out.2 i (by rw [HX.out.2.2.2.1]; exact hi)) i (by rw [← HX.out.2.2.2.1]; exact hi)
        clear hr1
        go_wp2_with fail
        refine HR1.out.mono ?_
        rintro e x2 ⟨hb2, va, vs, he, hs⟩
        have he : e = .returned (.tuple #[va, vs, .bool true]) := he
        subst he
        obtain ⟨oa, os⟩ := hs r rfl
        obtain ⟨g2, c2, e2, hp2, hg2⟩ := own_at os hH1 (fun i hi => (HBt.out i hi).2.l)
        have H2 : Hid (Prt g2 0 H r.2 x2 ∧ Below w.heap.size w x2 ∧ OwnI wr.heap.size va (zl H r.1) x2 ∧ wr.heap.size ≤ x2.heap.size ∧ w.heap.size ≤ wr.heap.size) := ⟨hp2, bel_up' H1.out.2 hb2, oa, hb2.size, H1.out.2.size⟩
        subst e2
        clear hp2 hg2 oa os hs hb2 HR1
        obtain ⟨y1, hy1⟩ : ∃ y1 : Nat → Int, y1 = fun i => psu (x i) (r.2 i) := ⟨_, rfl⟩
        obtain ⟨y2, hy2⟩ : ∃ y2 : Nat → Int, y2 = fun i => x (H + i) := ⟨_, rfl⟩
        have HY : Hid (y1 = (fun i => psu (x i) (r.2 i)) ∧ y2 = (fun i => x (H + i)) ∧ (∀ i, i < H → Btl (y1 i)) ∧ ∀ i, i < H → Btl (y2 i)) := by
          have hNH := HX.out.2.2.2.2.1
          exact ⟨hy1, hy2, fun i hi => by rw [hy1]; exact psu_bt (HX.out.1.2.2 i (by omega)) (HBt.out i hi).2.l, fun i hi => by rw [hy2]; exact HX.out.1.2.2 _ (by omega)⟩
        have HMt : Hid (mtb (fun i => psu (x i) (r.2 i)) (fun i => x (2 ^ h + i)) (2 ^ h) = mtb y1 y2 H) := by
          show _ = _
          rw [← HX.out.2.2.2.1, hy1, hy2]
        clear hy1 hy2
        go_wp2
        go_loopw [17, 18] (fun vs vi wx => ∃ t : Nat, t ≤ H ∧ vi = .int .i64 (t : Nat) ∧ Hid (mtb y1 y2 t = true ∧ OwnI x2.heap.size vs (zl t (mtf y1 y2)) wx ∧ Below x2.heap.size x2 wx)) (fun _ vi _ => H - (intOf vi).toNat)
        case atStart => exact ⟨0, by omega, rfl, rfl, OwnI.nil _ _, Below.refl _ _⟩
        case round =>
          obtain ⟨t, ht, rfl, HG⟩ := hrel
          rename World => wx
          have hsz := HG.out.2.2.size
          by_cases hlt : t < H
          · have hib : (t : Int) < (H : Int) := by omega
            have hib0 : (0 : Int) ≤ (t : Int) := by omega
            have hNH := HX.out.2.2.2.2.1
            have hibN : (t : Int) < (N : Int) := by omega
            obtain ⟨J, hJ⟩ : ∃ J, J = H + t := ⟨_, rfl⟩
            have hJi : (H : Int) + (t : Int) = (J : Int) := by omega
            have hJN : J < N := by omega
            have hJb : (J : Int) < (N : Int) := by omega
            have hJb0 : (0 : Int) ≤ (J : Int) := by omega
            have hJw : IntKind.i64.wrap (J : Int) = (J : Int) := wrap_to rfl (by omega)
            obtain ⟨a, ha⟩ : ∃ a, a = x t := ⟨_, rfl⟩
            obtain ⟨d, hd⟩ : ∃ d, d = x J := ⟨_, rfl⟩
            obtain ⟨s, hs⟩ : ∃ s, s = r.2 t := ⟨_, rfl⟩
            have hbx : Below w.heap.size w wx := bel_up' H2.out.2.1 HG.out.2.2
            have c1 : wx.cell? ⟨b, off + t, none⟩ = some (.int .i64 a) := by rw [ha]; exact (HX.out.1.same (hbx.block b HX.out.1.1) hbx.size).2.1 t (by omega)
            have c2 : wx.cell? ⟨b, off + J, none⟩ = some (.int .i64 d) := by rw [hd]; exact (HX.out.1.same (hbx.block b HX.out.1.1) hbx.size).2.1 J (by omega)
            have c3 : wx.cell? ⟨g2, t, none⟩ = some (.int .i64 s) := by
              rw [hs]
              have := (H2.out.1.bel HG.out.2.2).2.1 t hlt
              rwa [Nat.zero_add] at this
            have hal : Btl a := by rw [ha]; exact HX.out.1.2.2 t (by omega)
            have hdl : Btl d := by rw [hd]; exact HX.out.1.2.2 J hJN
            have hsl : Bt s := by rw [hs]; exact (HBt.out t hlt).2
            have HE : Hid (zl (t + 1) (mtf y1 y2) = zl t (mtf y1 y2) ++ [mtf (fun _ => psu a s) (fun _ => d) 0]) := by
              show _ = _
              rw [zl_succ, HY.out.1, HY.out.2.1, ha, hd, hs, hJ]
              rfl
            have HM1 : Hid (mtb y1 y2 (t + 1) = decide (psu a s = -1 ∨ d = -1 ∨ d = psu a s)) := by
              show (mtb y1 y2 t && decide (y1 t = -1 ∨ y2 t = -1 ∨ y2 t = y1 t)) = _
              rw [HG.out.1, HY.out.1, HY.out.2.1, ha, hd, hs, hJ]
              rfl
            have HMn : Hid (¬ (psu a s = -1 ∨ d = -1 ∨ d = psu a s) → mtb y1 y2 H = false) := fun hn => mtb_no (i := t) (by rw [HY.out.1, HY.out.2.1]; show ¬ (psu (x t) (r.2 t) = -1 ∨ x (H + t) = -1 ∨ x (H + t) = psu (x t) (r.2 t)); rw [← ha, ← hs, ← hJ, ← hd]; exact hn) H hlt
            have HL : Hid ((zl t (mtf y1 y2)).length ≤ 64) := by
              show _ ≤ _
              rw [zl_len]; omega
            have HBx : Hid (Below w.heap.size w wx) := hbx
            clear ha hd hJ hs hNH hbx
            by_cases h1 : a = -1
            · have HP : Hid (mtf (fun _ => psu a s) (fun _ => d) 0 = d) := by
                show (if psu a s = -1 then d else psu a s) = d
                rw [h1]; exact if_pos (if_pos (Or.inl rfl))
              have HM2 : Hid (mtb y1 y2 (t + 1) = true) := by
                show _ = _
                rw [HM1.out, h1]; exact decide_eq_true (Or.inl (if_pos (Or.inl rfl)))
              subst h1
              clear hal hdl hsl
              go_wp2_with (at_builtin; refine append_int rfl _ _ rfl x2.heap.size _ (zl t (mtf y1 y2)) rfl (HG.out.2.1.alloc _) ⟨_, 0, none⟩ 1 d rfl (by simp) (by have := HL.out; omega) (by simp; omega) ?_; intro v5 w5 hown5 hgrow5)
              have HR : Hid (mtb y1 y2 (t + 1) = true ∧ OwnI x2.heap.size v5 (zl (t + 1) (mtf y1 y2)) w5 ∧ Below x2.heap.size x2 w5) := ⟨HM2.out, by rw [HE.out, HP.out]; exact hown5, (HG.out.2.2.alloc (by first | exact hsz | (simp; omega)) _).grown hgrow5 (by simp; omega) (fun b hb => (HG.out.2.1.lt b hb).1)⟩
              clear hown5 hgrow5
              go_roundw
              case rel => exact ⟨t + 1, by omega, by go_num, HR.out⟩
              case measure => simp [intOf]; omega
            · have ha0 : (0 : Int) ≤ a := by rcases hal with e | e | e <;> omega
              obtain ⟨a', rfl⟩ : ∃ a' : Nat, a = (a' : Int) := ⟨a.toNat, by omega⟩
              obtain ⟨s', rfl⟩ : ∃ s' : Nat, s = (s' : Int) := ⟨s.toNat, by rcases hsl with e | e <;> omega⟩
              have ha2 : a' < 2 := by rcases hal with e | e | e <;> omega
              have hs2 : s' < 2 := by rcases hsl with e | e <;> omega
              obtain ⟨s2, hs2e⟩ : ∃ s2, s2 = a' + s' := ⟨_, rfl⟩
              have hs2i : (a' : Int) + (s' : Int) = (s2 : Int) := by omega
              have hs2w : IntKind.i64.wrap (s2 : Int) = (s2 : Int) := wrap_to rfl (by omega)
              obtain ⟨z, hz⟩ : ∃ z, z = s2 % 2 := ⟨_, rfl⟩
              have hrm : (s2 : Int).tmod 2 = (z : Int) := by rw [Int.tmod_eq_emod_of_nonneg (by omega)]; omega
              have hre : (s2 : Int) % 2 = (z : Int) := by omega
              have hrw : IntKind.i64.wrap (z : Int) = (z : Int) := wrap_to rfl (by omega)
              have HPz : Hid (psu (a' : Int) (s' : Int) = (z : Int)) := by
                show _ = _
                rw [psu_bit ha2 hs2, hz, hs2e]
              have HP : Hid (mtf (fun _ => psu (a' : Int) (s' : Int)) (fun _ => d) 0 = (z : Int)) := by
                show (if psu (a' : Int) (s' : Int) = -1 then d else psu (a' : Int) (s' : Int)) = (z : Int)
                rw [HPz.out]; exact if_neg (by omega)
              have hs24 : s2 ≤ 4 := by omega
              have hd1 : d = -1 ∨ 0 ≤ d := by rcases hdl with e | e | e <;> omega
              clear hal hdl hsl h1 hs2e hz
              have HD : Hid (∀ m, (OwnI x2.heap.size u17 (zl t (mtf y1 y2)) (wx.drewN m) ∧ Below x2.heap.size x2 (wx.drewN m)) ∧ Below w.heap.size w (wx.drewN m) ∧ (wx.drewN m).cell? ⟨b, off + J, none⟩ = some (.int .i64 d)) := fun m => ⟨⟨HG.out.2.1.drewN m, bel_drewN HG.out.2.2 m⟩, bel_drewN HBx.out m, c2⟩
              go_upto_region 26 with fail
              go_quiet (fail)
              obtain ⟨xq, hxq⟩ : ∃ xq, xq = wx.drewN nq := ⟨_, rfl⟩
              have HQ : Hid ((OwnI x2.heap.size u17 (zl t (mtf y1 y2)) xq ∧ Below x2.heap.size x2 xq) ∧ Below w.heap.size w xq ∧ xq.cell? ⟨b, off + J, none⟩ = some (.int .i64 d)) := by rw [hxq]; exact HD.out nq
              have hsz := HQ.out.1.2.size
              rw [← hxq]
              clear hxq HD c1 c2 c3
              have c2 := HQ.out.2.2
              by_cases h2 : d = -1
              · have HM2 : Hid (mtb y1 y2 (t + 1) = true) := by
                  show _ = _
                  rw [HM1.out]; exact decide_eq_true (Or.inr (Or.inl h2))
                subst h2
                clear hd1
                go_wp2_with (at_builtin; refine append_int rfl _ _ rfl x2.heap.size _ (zl t (mtf y1 y2)) rfl (HQ.out.1.1.alloc _) ⟨_, 0, none⟩ 1 (z : Int) rfl (by simp) (by have := HL.out; omega) (by simp; omega) ?_; intro v5 w5 hown5 hgrow5)
                have HR : Hid (mtb y1 y2 (t + 1) = true ∧ OwnI x2.heap.size v5 (zl (t + 1) (mtf y1 y2)) w5 ∧ Below x2.heap.size x2 w5) := ⟨HM2.out, by rw [HE.out, HP.out]; exact hown5, (HQ.out.1.2.alloc (by first | exact hsz | (simp; omega)) _).grown hgrow5 (by simp; omega) (fun b hb => (HQ.out.1.1.lt b hb).1)⟩
                clear hown5 hgrow5
                go_roundw
                case rel => exact ⟨t + 1, by omega, by go_num, HR.out⟩
                case measure => simp [intOf]; omega
              · have hd0 : (0 : Int) ≤ d := hd1.resolve_left h2
                clear hd1
                by_cases h3 : d = (z : Int)
                · have HM2 : Hid (mtb y1 y2 (t + 1) = true) := by
                    show _ = _
                    rw [HM1.out]; exact decide_eq_true (Or.inr (Or.inr (by rw [HPz.out]; exact h3)))
                  subst h3
                  clear h2
                  go_wp2_with (at_builtin; refine append_int rfl _ _ rfl x2.heap.size _ (zl t (mtf y1 y2)) rfl (HQ.out.1.1.alloc _) ⟨_, 0, none⟩ 1 (z : Int) rfl (by simp) (by have := HL.out; omega) (by simp; omega) ?_; intro v5 w5 hown5 hgrow5)
                  have HR : Hid (mtb y1 y2 (t + 1) = true ∧ OwnI x2.heap.size v5 (zl (t + 1) (mtf y1 y2)) w5 ∧ Below x2.heap.size x2 w5) := ⟨HM2.out, by rw [HE.out, HP.out]; exact hown5, (HQ.out.1.2.alloc (by first | exact hsz | (simp; omega)) _).grown hgrow5 (by simp; omega) (fun b hb => (HQ.out.1.1.lt b hb).1)⟩
                  clear hown5 hgrow5
                  go_roundw
                  case rel => exact ⟨t + 1, by omega, by go_num, HR.out⟩
                  case measure => simp [intOf]; omega
                · have HV : Hid (W = none) := by
                    show W = none
                    rw [HX.out.2.2.1]
                    refine rdp_n2 HV1.out ?_
                    rw [HMt.out]
                    refine HMn.out ?_
                    rw [HPz.out]
                    exact fun e => e.elim (fun e => by omega) (fun e => e.elim h2 h3)
                  have h3b : (d != (z : Int)) = true := by rw [bne_iff_ne]; exact h3
                  clear h2
                  go_wp2
                  refine bodyPost_ret (results_3t rfl _ _ _) rfl ?_
                  exact rrq_no HV.out HQ.out.2.1
          · have hib : ¬ (t : Int) < (H : Int) := by omega
            have hie : H = t := by omega
            subst hie
            obtain ⟨g3, c3, e3, hp3, hg3⟩ := own_at HG.out.2.1 hH1 (fun i hi => mtf_bt (HY.out.2.2.1 i hi) (HY.out.2.2.2 i hi))
            have H3 : Hid (Prt g3 0 H (mtf y1 y2) wx ∧ Below x2.heap.size x2 wx ∧ mtb y1 y2 H = true ∧ x2.heap.size ≤ wx.heap.size) := ⟨hp3, HG.out.2.2, HG.out.1, HG.out.2.2.size⟩
            subst e3
            clear hp3 hg3 HG hsz
            obtain ⟨Q, hQ⟩ : ∃ Q, Q = q + H := ⟨_, rfl⟩
            have hQi : (q : Int) + (H : Int) = (Q : Int) := by omega
            have hQw : IntKind.i64.wrap (Q : Int) = (Q : Int) := wrap_to rfl (by have := HX.out.2.2.2.2; omega)
            have HQe : Hid (Q = q + H) := hQ
            have HR3 : Hid (Calls Try.prog 35 #[.slice (some ⟨g3, 0, none⟩) (H : Nat) c3, .slice fo k fc, .int .i64 (Q : Nat)] wx (RrQ H wx (rdp fr h Q (mtf y1 y2)))) := HI.out (by have := HX.out.2.2.2.2; omega) H3.out.1 (slz_bel (slz_bel HX.out.2.1 H2.out.2.1) H3.out.2.1)
            clear hQ
            cases hr3 : rdp fr h Q (mtf y1 y2) with
            | none =>
              have HV : Hid (W = none) := by
                show W = none
                rw [HX.out.2.2.1]
                refine rdp_n3 HV1.out (HMt.out.trans H3.out.2.2.1) ?_
                rw [← HX.out.2.2.2.1, ← HY.out.1, ← HY.out.2.1, ← HQe.out]
                exact hr3
              rw [hr3] at HR3
              clear hr3
              go_wp2_with fail
              refine HR3.out.mono ?_
              rintro e x4 ⟨hb4, vb, vt, he, _⟩
              have he : e = .returned (.tuple #[vb, vt, .bool false]) := he
              subst he
              have HB4 : Hid (Below w.heap.size w x4) := bel_up' (bel_up' H2.out.2.1 H3.out.2.1) hb4
              clear hb4
              go_wp2
              refine bodyPost_ret (results_3t rfl _ _ _) rfl ?_
              exact rrq_no HV.out HB4.out
            | some t =>
              have HV : Hid (W = some (jn H r.1 t.1, jn H (fun i => psu (r.2 i) (t.2 i)) t.2)) := by
                show W = _
                rw [HX.out.2.2.1]
                have e := rdp_some (t := t) HV1.out (HMt.out.trans H3.out.2.2.1) (by rw [← HX.out.2.2.2.1, ← HY.out.1, ← HY.out.2.1, ← HQe.out]; exact hr3)
                rw [← HX.out.2.2.2.1] at e
                exact e
              have HBt2 : Hid (∀ i, i < H → Bt (t.1 i) ∧ Bt (t.2 i)) := fun i hi => rdp_bt hr3 (fun i hi => H3.out.1.2.2 i (by rw [HX.out.2.2.2.1]; exact hi)) i (by rw [← HX.out.2.2.2.1]; exact hi)
              rw [hr3] at HR3
              clear hr3
              go_wp2_with fail
              refine HR3.out.mono ?_
              rintro e x4 ⟨hb4, vb, vt, he, hs⟩
              have he : e = .returned (.tuple #[vb, vt, .bool true]) := he
              subst he
              obtain ⟨ob, ot⟩ := hs t rfl
              obtain ⟨g5, c5, e5, hp5, hg5⟩ := own_at ob hH1 (fun i hi => (HBt2.out i hi).1.l)
              obtain ⟨g6, c6, e6, hp6, hg6⟩ := own_at ot hH1 (fun i hi => (HBt2.out i hi).2.l)
              have H4 : Hid (Prt g2 0 H r.2 x4 ∧ Prt g5 0 H t.1 x4 ∧ Prt g6 0 H t.2 x4 ∧ wx.heap.size ≤ g6 ∧ OwnI wr.heap.size va (zl H r.1) x4 ∧ (∀ i, va.ownBlock = some i → i < x2.heap.size) ∧ Below w.heap.size w x4 ∧ wx.heap.size ≤ x4.heap.size ∧ x2.heap.size ≤ wx.heap.size ∧ wr.heap.size ≤ x2.heap.size ∧ w.heap.size ≤ wr.heap.size ∧ wx.heap.size ≤ g5) := by
                have hb24 : Below x2.heap.size x2 x4 := bel_up' H3.out.2.1 hb4
                exact ⟨H2.out.1.bel hb24, hp5, hp6, hg6, H2.out.2.2.1.below hb24 (fun i hi => (H2.out.2.2.1.lt i hi).2), fun i hi => (H2.out.2.2.1.lt i hi).2, bel_up' H2.out.2.1 hb24, hb4.size, H3.out.2.2.2, H2.out.2.2.2.1, H2.out.2.2.2.2, hg5⟩
              subst e5 e6
              clear hp5 hg5 hp6 hg6 ob ot hs hb4 HR3 hQi hQw
              obtain ⟨ps, hps⟩ : ∃ ps : Nat → Int, ps = fun i => psu (r.2 i) (t.2 i) := ⟨_, rfl⟩
              have HPS : Hid (ps = fun i => psu (r.2 i) (t.2 i)) := hps
              clear hps
              go_wp2
              go_loopw [22, 23] (fun vs vi wy => ∃ j : Nat, j ≤ H ∧ vi = .int .i64 (j : Nat) ∧ Hid (OwnI x4.heap.size vs (zl j ps) wy ∧ Below x4.heap.size x4 wy)) (fun _ vi _ => H - (intOf vi).toNat)
              case atStart => exact ⟨0, by omega, rfl, OwnI.nil _ _, Below.refl _ _⟩
              case round =>
                obtain ⟨j, hj, rfl, HG⟩ := hrel
                rename World => wy
                have hsz := HG.out.2.size
                by_cases hlt : j < H
                · have hib : (j : Int) < (H : Int) := by omega
                  have hib0 : (0 : Int) ≤ (j : Int) := by omega
                  obtain ⟨a', ha⟩ : ∃ a' : Nat, (a' : Int) = r.2 j := ⟨(r.2 j).toNat, by rcases (HBt.out j hlt).2 with e | e <;> omega⟩
                  obtain ⟨d', hd⟩ : ∃ d' : Nat, (d' : Int) = t.2 j := ⟨(t.2 j).toNat, by rcases (HBt2.out j hlt).2 with e | e <;> omega⟩
                  have ha2 : a' < 2 := by rcases (HBt.out j hlt).2 with e | e <;> omega
                  have hd2 : d' < 2 := by rcases (HBt2.out j hlt).2 with e | e <;> omega
                  have hq1 : x4.cell? ⟨g2, j, none⟩ = some (.int .i64 (a' : Nat)) := by
                    rw [ha]
                    have := H4.out.1.2.1 j hlt
                    rwa [Nat.zero_add] at this
                  have hq2 : x4.cell? ⟨g6, j, none⟩ = some (.int .i64 (d' : Nat)) := by
                    rw [hd]
                    have := H4.out.2.2.1.2.1 j hlt
                    rwa [Nat.zero_add] at this
                  obtain ⟨s2, hs2⟩ : ∃ s2, s2 = a' + d' := ⟨_, rfl⟩
                  have hs2i : (a' : Int) + (d' : Int) = (s2 : Int) := by omega
                  have hs2w : IntKind.i64.wrap (s2 : Int) = (s2 : Int) := wrap_to rfl (by omega)
                  obtain ⟨z, hz⟩ : ∃ z, z = s2 % 2 := ⟨_, rfl⟩
                  have hrm : (s2 : Int).tmod 2 = (z : Int) := by rw [Int.tmod_eq_emod_of_nonneg (by omega)]; omega
                  have hre : (s2 : Int) % 2 = (z : Int) := by omega
                  have hrw : IntKind.i64.wrap (z : Int) = (z : Int) := wrap_to rfl (by omega)
                  have HE : Hid (zl (j + 1) ps = zl j ps ++ [(z : Int)] ∧ (zl j ps).length ≤ 64) := by
                    refine ⟨?_, by rw [zl_len]; omega⟩
                    rw [zl_succ, HPS.out]
                    show zl j _ ++ [psu (r.2 j) (t.2 j)] = _
                    rw [← ha, ← hd, psu_bit ha2 hd2, hz, hs2]
                  have HQ : Hid (x4.cell? ⟨g2, j, none⟩ = some (.int .i64 (a' : Nat)) ∧ x4.cell? ⟨g6, j, none⟩ = some (.int .i64 (d' : Nat)) ∧ g2 < x4.heap.size ∧ g6 < x4.heap.size) := ⟨hq1, hq2, H4.out.1.1, H4.out.2.2.1.1⟩
                  have hs24 : s2 ≤ 4 := by omega
                  clear ha hd hs2 hz hq1 hq2
                  have hS0 : wy.drew.cell? ⟨g2, j, none⟩ = some (.int .i64 (a' : Nat)) ∧ wy.drew.cell? ⟨g6, j, none⟩ = some (.int .i64 (d' : Nat)) := ⟨(HG.out.2.cell (p := ⟨g2, j, none⟩) HQ.out.2.2.1).trans HQ.out.1, (HG.out.2.cell (p := ⟨g6, j, none⟩) HQ.out.2.2.2).trans HQ.out.2.1⟩
                  have F0 : Hid (OwnI x4.heap.size u22 (zl j ps) wy.drew ∧ Below x4.heap.size x4 wy.drew) := ⟨HG.out.1.drewN 1, HG.out.2.drew⟩
                  go_upto_region 37 with fail
                  refine wp_region_noPanic ?_
                  refine wp_region_L (S := fun wz => wz.cell? ⟨g2, j, none⟩ = some (.int .i64 (a' : Nat)) ∧ wz.cell? ⟨g6, j, none⟩ = some (.int .i64 (d' : Nat))) [] (by kernel_rfl) ?_
                  obtain ⟨x0, hx0⟩ : ∃ x0, x0 = wy.drew := ⟨_, rfl⟩
                  have hsx0 : x4.heap.size ≤ x0.heap.size := by rw [hx0]; exact hsz
                  rw [← hx0] at F0 hS0
                  rw [← hx0]
                  clear hx0
                  refine wpAnyL_take (i := 0) (v := ?_) (by rw [List.getElem?_toArray]; rfl) (by decide +kernel) (by decide +kernel) (by decide +kernel) (by decide +kernel) (by decide +kernel) (fun _ _ _ h => h) hS0 (Or.inl ⟨by rfl, ?_⟩) ?_
                  rotate_left
                  · intro wz hSz; have z0 := hSz.1; have z1 := hSz.2; go_simp; (try simp only [hs2i, hs2w, hrm, hre, hrw]); first | done | with_reducible rfl | rfl
                  try simp only [Act.put, List.setIfInBounds_toArray, List.set_cons_zero, List.set_cons_succ]
                  refine wpAnyL_take (i := 1) (v := ?_) (by rw [List.getElem?_toArray]; rfl) (by decide +kernel) (by decide +kernel) (by decide +kernel) (by decide +kernel) (by decide +kernel) (fun _ _ _ h => h) hS0 (Or.inl ⟨by rfl, ?_⟩) ?_
                  rotate_left
                  · intro wz hSz; have z0 := hSz.1; have z1 := hSz.2; go_simp; (try simp only [hs2i, hs2w, hrm, hre, hrw]); first | done | with_reducible rfl | rfl
                  try simp only [Act.put, List.setIfInBounds_toArray, List.set_cons_zero, List.set_cons_succ]
                  refine wpAnyL_take (i := 2) (v := ?_) (by rw [List.getElem?_toArray]; rfl) (by decide +kernel) (by decide +kernel) (by decide +kernel) (by decide +kernel) (by decide +kernel) (fun _ _ _ h => h) hS0 (Or.inl ⟨by rfl, ?_⟩) ?_
                  rotate_left
                  · intro wz hSz; have z0 := hSz.1; have z1 := hSz.2; go_simp; (try simp only [hs2i, hs2w, hrm, hre, hrw]); first | done | with_reducible rfl | rfl
                  try simp only [Act.put, List.setIfInBounds_toArray, List.set_cons_zero, List.set_cons_succ]
                  refine wpAnyL_take (i := 3) (v := ?_) (by rw [List.getElem?_toArray]; rfl) (by decide +kernel) (by decide +kernel) (by decide +kernel) (by decide +kernel) (by decide +kernel) (fun _ _ _ h => h) hS0 (Or.inl ⟨by rfl, ?_⟩) ?_
                  rotate_left
                  · intro wz hSz; have z0 := hSz.1; have z1 := hSz.2; go_simp; (try simp only [hs2i, hs2w, hrm, hre, hrw]); first | done | with_reducible rfl | rfl
                  try simp only [Act.put, List.setIfInBounds_toArray, List.set_cons_zero, List.set_cons_succ]
                  refine wpAnyL_take (i := 4) (v := ?_) (by rw [List.getElem?_toArray]; rfl) (by decide +kernel) (by decide +kernel) (by decide +kernel) (by decide +kernel) (by decide +kernel) (fun _ _ _ h => h) hS0 (Or.inl ⟨by rfl, ?_⟩) ?_
                  rotate_left
                  · intro wz hSz; have z0 := hSz.1; have z1 := hSz.2; go_simp; (try simp only [hs2i, hs2w, hrm, hre, hrw]); first | done | with_reducible rfl | rfl
                  try simp only [Act.put, List.setIfInBounds_toArray, List.set_cons_zero, List.set_cons_succ]
                  refine wpAnyL_take (i := 5) (v := ?_) (by rw [List.getElem?_toArray]; rfl) (by decide +kernel) (by decide +kernel) (by decide +kernel) (by decide +kernel) (by decide +kernel) (fun _ _ _ h => h) hS0 (Or.inl ⟨by rfl, ?_⟩) ?_
                  rotate_left
                  · intro wz hSz; have z0 := hSz.1; have z1 := hSz.2; go_simp; (try simp only [hs2i, hs2w, hrm, hre, hrw]); first | done | with_reducible rfl | rfl
                  try simp only [Act.put, List.setIfInBounds_toArray, List.set_cons_zero, List.set_cons_succ]
                  refine wpAnyL_take (i := 6) (v := ?_) (by rw [List.getElem?_toArray]; rfl) (by decide +kernel) (by decide +kernel) (by decide +kernel) (by decide +kernel) (by decide +kernel) (fun _ _ _ h => h) hS0 (Or.inl ⟨by rfl, ?_⟩) ?_
                  rotate_left
                  · intro wz hSz; have z0 := hSz.1; have z1 := hSz.2; go_simp; (try simp only [hs2i, hs2w, hrm, hre, hrw]); first | done | with_reducible rfl | rfl
                  try simp only [Act.put, List.setIfInBounds_toArray, List.set_cons_zero, List.set_cons_succ]
                  refine wpAnyL_take (i := 7) (v := ?_) (by rw [List.getElem?_toArray]; rfl) (by decide +kernel) (by decide +kernel) (by decide +kernel) (by decide +kernel) (by decide +kernel) (fun _ _ _ h => h) hS0 (Or.inl ⟨by rfl, ?_⟩) ?_
                  rotate_left
                  · intro wz hSz; have z0 := hSz.1; have z1 := hSz.2; go_simp; (try simp only [hs2i, hs2w, hrm, hre, hrw]); first | done | with_reducible rfl | rfl
                  try simp only [Act.put, List.setIfInBounds_toArray, List.set_cons_zero, List.set_cons_succ]
                  refine wpAnyL_take (i := 8) (v := ?_) (by rw [List.getElem?_toArray]; rfl) (by decide +kernel) (by decide +kernel) (by decide +kernel) (by decide +kernel) (by decide +kernel) (fun _ _ _ h => h) hS0 (Or.inl ⟨by rfl, ?_⟩) ?_
                  rotate_left
                  · intro wz hSz; have z0 := hSz.1; have z1 := hSz.2; go_simp; (try simp only [hs2i, hs2w, hrm, hre, hrw]); first | done | with_reducible rfl | rfl
                  try simp only [Act.put, List.setIfInBounds_toArray, List.set_cons_zero, List.set_cons_succ]
                  refine wpAnyL_take (i := 9) (v := ?_) (by rw [List.getElem?_toArray]; rfl) (by decide +kernel) (by decide +kernel) (by decide +kernel) (by decide +kernel) (by decide +kernel) (fun _ _ _ h => h) hS0 (Or.inl ⟨by rfl, ?_⟩) ?_
                  rotate_left
                  · intro wz hSz; have z0 := hSz.1; have z1 := hSz.2; go_simp; (try simp only [hs2i, hs2w, hrm, hre, hrw]); first | done | with_reducible rfl | rfl
                  try simp only [Act.put, List.setIfInBounds_toArray, List.set_cons_zero, List.set_cons_succ]
                  refine wpAnyL_take (i := 10) (v := ?_) (by rw [List.getElem?_toArray]; rfl) (by decide +kernel) (by decide +kernel) (by decide +kernel) (by decide +kernel) (by decide +kernel) (fun _ _ _ h => h) hS0 (Or.inl ⟨by rfl, ?_⟩) ?_
                  rotate_left
                  · intro wz hSz; have z0 := hSz.1; have z1 := hSz.2; go_simp; (try simp only [hs2i, hs2w, hrm, hre, hrw]); first | done | with_reducible rfl | rfl
                  try simp only [Act.put, List.setIfInBounds_toArray, List.set_cons_zero, List.set_cons_succ]
                  refine wpAnyL_one (i := 11) (by kernel_rfl) (by rw [List.getElem?_toArray]; rfl) (fun K9 hK => ?_)
                  have HK : Hid _ := hK
                  clear hK
                  go_simp
                  obtain ⟨x1, hx1⟩ : ∃ x1, x1 = x0.alloc (.cells #[.int .i64 (z : Nat)] 3) := ⟨_, rfl⟩
                  obtain ⟨gT, hgT⟩ : ∃ gT, gT = x0.heap.size := ⟨_, rfl⟩
                  have F1 : Hid (OwnI x4.heap.size u22 (zl j ps) x1 ∧ Below x4.heap.size x4 x1 ∧ x1.cell? ⟨gT, 0, none⟩ = some (.int .i64 (z : Nat))) := by
                    rw [hx1, hgT]
                    exact ⟨F0.out.1.alloc _, F0.out.2.alloc hsx0 _, by simp⟩
                  have hS1 : x1.cell? ⟨g2, j, none⟩ = some (.int .i64 (a' : Nat)) ∧ x1.cell? ⟨g6, j, none⟩ = some (.int .i64 (d' : Nat)) := ⟨(F1.out.2.1.cell (p := ⟨g2, j, none⟩) HQ.out.2.2.1).trans HQ.out.1, (F1.out.2.1.cell (p := ⟨g6, j, none⟩) HQ.out.2.2.2).trans HQ.out.2.1⟩
                  have hsx1 : x4.heap.size ≤ x1.heap.size := F1.out.2.1.size
                  try rw [← hx1]
                  try rw [← hgT]
                  have HK2 := HK.out
                  clear hx1 hgT
                  refine HK2 _ _ (fun _ => hS1) ?_
                  clear HK2 HK K9
                  try simp only [Act.put, List.setIfInBounds_toArray, List.set_cons_zero, List.set_cons_succ]
                  refine wpAnyL_one (i := 12) (by kernel_rfl) (by rw [List.getElem?_toArray]; rfl) (fun K9 hK => ?_)
                  have HK : Hid _ := hK
                  clear hK
                  refine step_append_int_at (by rfl) _ _ (by rfl) x4.heap.size u22 (zl j ps) (by rfl) F1.out.1 ⟨gT, 0, none⟩ 1 (z : Nat) (by rfl) F1.out.2.2 (by have := HE.out.2; omega) hsx1 ?_
                  intro g9 c9 w3 hown3 hgrow3 _
                  obtain ⟨v3, hv3⟩ : ∃ v3, v3 = Value.slice (some ⟨g9, 0, none⟩) ((zl j ps).length + 1) c9 := ⟨_, rfl⟩
                  rw [← hv3] at hown3
                  rw [← hv3]
                  have HYY : Hid (OwnI x4.heap.size v3 (zl (j + 1) ps) w3 ∧ Below x4.heap.size x4 w3) := by
                    refine ⟨?_, F1.out.2.1.grown hgrow3 hsx1 (fun k hk => (F1.out.1.lt k hk).1)⟩
                    rw [HE.out.1]; exact hown3
                  have hS3 : w3.cell? ⟨g2, j, none⟩ = some (.int .i64 (a' : Nat)) ∧ w3.cell? ⟨g6, j, none⟩ = some (.int .i64 (d' : Nat)) := ⟨(HYY.out.2.cell (p := ⟨g2, j, none⟩) HQ.out.2.2.1).trans HQ.out.1, (HYY.out.2.cell (p := ⟨g6, j, none⟩) HQ.out.2.2.2).trans HQ.out.2.1⟩
                  clear hown3 hgrow3 hv3
                  refine HK.out _ _ (fun _ => hS3) ?_
                  clear HK K9
                  try simp only [Act.put, List.setIfInBounds_toArray, List.set_cons_zero, List.set_cons_succ]
                  refine wpAnyL_take (i := 13) (v := ?_) (by rw [List.getElem?_toArray]; rfl) (by decide +kernel) (by decide +kernel) (by decide +kernel) (by decide +kernel) (by decide +kernel) (fun _ _ _ h => h) hS3 (Or.inl ⟨by rfl, ?_⟩) ?_
                  rotate_left
                  · intro wz hSz; have z0 := hSz.1; have z1 := hSz.2; go_simp; (try simp only [hs2i, hs2w, hrm, hre, hrw]); first | done | with_reducible rfl | rfl
                  try simp only [Act.put, List.setIfInBounds_toArray, List.set_cons_zero, List.set_cons_succ]
                  refine wpAnyL_done (by kernel_rfl) (NoPanic.normal ?_)
                  clear hS0 hS1 hS3
                  go_wp2
                  go_roundw
                  case rel => exact ⟨j + 1, by omega, by go_num, HYY.out⟩
                  case measure => simp [intOf]; omega
                · have hib : ¬ (j : Int) < (H : Int) := by omega
                  have hie : H = j := by omega
                  subst hie
                  have HZ : Hid (Prt g5 0 H t.1 wy ∧ Prt g6 0 H t.2 wy ∧ OwnI wr.heap.size va (zl H r.1) wy ∧ Below w.heap.size w wy ∧ wr.heap.size ≤ wy.heap.size ∧ OwnI x4.heap.size u22 (zl H ps) wy ∧ x4.heap.size ≤ wy.heap.size) := by
                    have f := H4.out
                    exact ⟨f.2.1.bel HG.out.2, f.2.2.1.bel HG.out.2, f.2.2.2.2.1.below HG.out.2 (fun i hi => by have := f.2.2.2.2.2.1 i hi; omega), bel_up' f.2.2.2.2.2.2.1 HG.out.2, by omega, HG.out.1, hsz⟩
                  clear HG
                  have HF : Hid ((∀ i, va.ownBlock = some i → i < x2.heap.size) ∧ x2.heap.size ≤ x4.heap.size ∧ x2.heap.size ≤ g6 ∧ w.heap.size ≤ wr.heap.size) := by
                    have f := H4.out
                    exact ⟨f.2.2.2.2.2.1, by omega, by omega, f.2.2.2.2.2.2.2.2.2.2.1⟩
                  have hlr : (zl H r.1).length + H ≤ 1000000 := by rw [zl_len]; omega
                  have hlp : (zl H ps).length + H ≤ 1000000 := by rw [zl_len]; omega
                  have HLL : Hid ((zl H r.1).length + H ≤ 1000000 ∧ (zl H ps).length + H ≤ 1000000) := ⟨hlr, hlp⟩
                  clear hlr hlp
                  go_wp2_with (at_builtin; (first
                    | (refine append_ints_at rfl _ _ rfl wr.heap.size va (zl H r.1) rfl HZ.out.2.2.1 ⟨g5, 0, none⟩ H c5 t.1 rfl HZ.out.1.slz HLL.out.1 HZ.out.2.2.2.2.1 ?_; intro v7 w7 hown7 hgrow7 hat7; have H7 := rr_mid HF.out.1 HF.out.2.1 HF.out.2.2.1 HZ.out.2.2.1 HZ.out.2.1 HZ.out.2.2.2.1 HF.out.2.2.2 HZ.out.2.2.2.2.2.1 HZ.out.2.2.2.2.2.2 hown7 hgrow7 hat7; clear hown7 hgrow7 hat7)
                    | (refine append_ints_at rfl _ _ rfl x4.heap.size u22 (zl H ps) rfl H7.out.2.1 ⟨g6, 0, none⟩ H c6 t.2 rfl H7.out.2.2.1.slz HLL.out.2 H7.out.2.2.2.2.1 ?_; intro v8 w8 hown8 hgrow8 hat8)))
                  have H8 : Hid (OwnI wr.heap.size v7 (zl H r.1 ++ zl H t.1) w8 ∧ OwnI x4.heap.size v8 (zl H ps ++ zl H t.2) w8 ∧ Below w.heap.size w w8) := ⟨H7.out.1.kept hgrow8 H7.out.2.2.2.2.2, hown8, H7.out.2.2.2.1.grown hgrow8 (by have := H7.out.2.2.2.1.size; omega) (fun i hi => by have := (H7.out.2.1.lt i hi).1; have := HF.out; have := H2.out.2.1.size; omega)⟩
                  clear hown8 hgrow8 hat8 H7
                  refine bodyPost_ret (results_3t rfl _ _ _) rfl ?_
                  rw [HV.out]
                  refine ⟨H8.out.2.2, v7, v8, rfl, fun r9 hr9 => ?_⟩
                  cases hr9
                  rw [HX.out.2.2.2.2.1]
                  have e1 : zl (H + H) (jn H r.1 t.1) = zl H r.1 ++ zl H t.1 := by rw [zl_two, zl_congr (z := jn H r.1 t.1) (y := r.1) (fun i hi => jn_lo hi), zl_congr (z := fun j => jn H r.1 t.1 (H + j)) (y := t.1) (fun i _ => jn_hi i)]
                  have e2 : zl (H + H) (jn H (fun i => psu (r.2 i) (t.2 i)) t.2) = zl H ps ++ zl H t.2 := by rw [zl_two, zl_congr (z := jn H (fun i => psu (r.2 i) (t.2 i)) t.2) (y := ps) (fun i hi => by rw [HPS.out]; exact jn_lo hi), zl_congr (z := fun j => jn H (fun i => psu (r.2 i) (t.2 i)) t.2 (H + j)) (y := t.2) (fun i _ => jn_hi i)]
                  show OwnI w.heap.size v7 (zl (H + H) (jn H r.1 t.1)) w8 ∧ OwnI w.heap.size v8 (zl (H + H) (jn H (fun i => psu (r.2 i) (t.2 i)) t.2)) w8
                  rw [e1, e2]
                  exact ⟨H8.out.1.mono HF.out.2.2.2, H8.out.2.1.mono (by have := H2.out.2.1.size; have := HF.out; omega)⟩
theorem rread_any {k fc : Nat} {fo : Option Addr} {p : Nat → Int} (hk : k ≤ 64) : ∀ (h : Nat) {q b off c : Nat} {x : Nat → Int} {w : World}, h ≤ 5 → q + 2 ^ h ≤ 64 → Prt b off (2 ^ h) x w → SlZ fo k p w ∧ LtB fo w.heap.size →
    Calls Try.prog 35 #[.slice (some ⟨b, off, none⟩) (2 ^ h : Nat) c, .slice fo k fc, .int .i64 (q : Nat)] w
      (RrQ (2 ^ h) w (rdp (fun j => decide ((j : Int) ∈ zl k p)) h q x))
  | 0, _, _, _, _, _, _, _, _, hP, hf => rread_zero hk hP hf.1
  | h + 1, _, _, _, _, _, _, hh, hq, hP, hf => by
    have e : 2 ^ (h + 1) = 2 ^ h + 2 ^ h := by rw [Nat.pow_succ]; omega
    exact rread_step rfl e (Nat.le_trans (Nat.pow_le_pow_right (by omega) (show h ≤ 4 by omega)) (by decide)) (Nat.pow_pos (by omega)) hq hP hf (fun a1 a2 a3 => rread_any hk h (by omega) a1 a2 a3)
end Go.Proofs.Ytbfkacnpbelmlaa
