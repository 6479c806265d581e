/- Polar: read, a step of its recursion. -/
import Derived.Test.YtbfkacnpbelmlaaZKS21
import Derived.BigQuiet
namespace Go.Proofs.Ytbfkacnpbelmlaa
open Go.RowKit Go.Sort

theorem own_prt {base g n c : Nat} {x : Nat → Int} {w : World} (h : OwnI base (.slice (some ⟨g, 0, none⟩) n c) (zl n x) w) (h1 : 1 ≤ n) (hx : ∀ i, i < n → Btl (x i)) : Prt g 0 n x w ∧ base ≤ g := by
  obtain ⟨g', cap, e1, _, _, g3, g4⟩ := OwnI.rowZ h (by omega)
  cases e1
  exact ⟨⟨g4.lt', fun i hi => by rw [Nat.zero_add]; exact g4.cell i hi, hx⟩, g3⟩

theorem rd_bel {S T P B M k : Nat} {bo : Option Addr} {bc : Nat} {p : Nat → Int} {q : Nat} {v : Value} {L : List Int} {w w1 w2 : World} (hF : Fx S T P B M bo) (hC : Cls T P B M k bo bc p q v L w) (h1 : Below w.heap.size w w1) (h2 : Below S w1 w2) : Below S w w2 := by
  have f0 := hF.sm
  have f1 := hF.mb
  have f2 := hF.bp
  have f3 := hF.pt
  have f4 := hC.size
  exact (h1.mono (by omega)).trans h2
theorem rdq_no {S T P B M k : Nat} {bo : Option Addr} {bc : Nat} {p : Nat → Int} {N q : Nat} {v : Value} {L : List Int} {w w' : World} {o : Option ((Nat → Int) × (Nat → Int))} (ho : o = none) (hb : Below S w w' ∧ MC M w') : RdQ S T P B M k bo bc p N q v L w o (.returned (.tuple #[.slice none 0 0, .bool false])) w' := by
  subst ho
  exact ⟨hb.1, hb.2, _, rfl, fun r hr => by cases hr⟩

set_option maxHeartbeats 16000000 in
set_option maxRecDepth 100000 in
theorem read_step {S T P B M k : Nat} {bo : Option Addr} {bc : Nat} {p : Nat → Int} (hF : Fx S T P B M bo) {h N H q b off c : Nat} {x : Nat → Int} {v : Value} {L : List Int} {w : World} (hH : H = 2 ^ h) (hN : N = H + H) (hH16 : H ≤ 16) (hH1 : 1 ≤ H) (hq : q + N ≤ 64) (hL : L.length ≤ q) (hP : Prt b off N x w) (hbP : b ≠ P) (hbM : b ≠ M) (hbv : v.ownBlock ≠ some b) (hc1 : N ≤ c) (hc2 : c ≤ 9223372036854775807) (hC : Cls T P B M k bo bc p q v L w)
    (ih : ∀ {q b off c : Nat} {x : Nat → Int} {v : Value} {L : List Int} {w : World}, q + H ≤ 64 → L.length ≤ q → Prt b off H x w → b ≠ P → b ≠ M → v.ownBlock ≠ some b → H ≤ c → c ≤ 9223372036854775807 → Cls T P B M k bo bc p q v L w →
      Calls Try.prog 39 #[.slice (some ⟨b, off, none⟩) (H : Nat) c, .func (.func 37) #[] #[.pointer (some ⟨P, 0, none⟩), .pointer (some ⟨B, 0, none⟩), .pointer (some ⟨M, 0, none⟩)]] w
        (RdQ S T P B M k bo bc p H q v L w (rdp (fun j => decide ((j : Int) ∈ zl k p)) h q x))) :
    Calls Try.prog 39 #[.slice (some ⟨b, off, none⟩) (N : Nat) c, .func (.func 37) #[] #[.pointer (some ⟨P, 0, none⟩), .pointer (some ⟨B, 0, none⟩), .pointer (some ⟨M, 0, none⟩)]] w
      (RdQ S T P B M k bo bc p N q v L w (rdp (fun j => decide ((j : Int) ∈ zl k p)) (h + 1) q x)) := by
  obtain ⟨fr, hfr⟩ : ∃ fr : Nat → Bool, fr = fun j : Nat => decide ((j : Int) ∈ zl k p) := ⟨_, rfl⟩
  rw [← hfr] at ih ⊢
  obtain ⟨W, hW⟩ : ∃ W, W = rdp fr (h + 1) q x := ⟨_, rfl⟩
  rw [← hW]
  have HI : Hid (∀ {q b off c : Nat} {x : Nat → Int} {v : Value} {L : List Int} {w : World}, q + H ≤ 64 → L.length ≤ q → Prt b off H x w → b ≠ P → b ≠ M → v.ownBlock ≠ some b → H ≤ c → c ≤ 9223372036854775807 → Cls T P B M k bo bc p q v L w →
      Calls Try.prog 39 #[.slice (some ⟨b, off, none⟩) (H : Nat) c, .func (.func 37) #[] #[.pointer (some ⟨P, 0, none⟩), .pointer (some ⟨B, 0, none⟩), .pointer (some ⟨M, 0, none⟩)]] w
        (RdQ S T P B M k bo bc p H q v L w (rdp fr h q x))) := ih
  have HX : Hid (Prt b off H x w ∧ Prt b (off + H) H (fun i => x (H + i)) w ∧ Cls T P B M k bo bc p q v L w ∧ Fx S T P B M bo ∧ W = rdp fr (h + 1) q x ∧ H = 2 ^ h ∧ fr = (fun j : Nat => decide ((j : Int) ∈ zl k p)) ∧ b ≠ P ∧ b ≠ M ∧ v.ownBlock ≠ some b) := ⟨hP.lo (by omega), hP.hi (by omega), hC, hF, hW, hH, hfr, hbP, hbM, hbv⟩
  have hLz : ((N : Int) == 1) = false := by rw [beq_eq_false_iff_ne]; omega
  have htd : (N : Int).tdiv 2 = (H : Int) := by rw [Int.tdiv_eq_ediv_of_nonneg (by omega)]; omega
  have hdv : (N : Int) / 2 = (H : Int) := by omega
  have hHw : IntKind.i64.wrap (H : Int) = (H : Int) := wrap_to rfl (by omega)
  have hHL : (H : Int) ≤ (N : Int) := by omega
  have hHc : (H : Int) ≤ (c : Int) := by omega
  have hLc : (N : Int) ≤ (c : Int) := by omega
  have hH0 : (0 : Int) ≤ (H : Int) := by omega
  have hLsub : N - H = H := by omega
  have hcx : ¬ c = H := by omega
  have hcy : ¬ c - H = 0 := by omega
  have hcz : ¬ H = c := by omega
  have HCd : Hid (H ≤ c - H ∧ c - H ≤ 9223372036854775807 ∧ H ≤ c ∧ N = H + H ∧ q + N ≤ 64 ∧ L.length ≤ q) := ⟨by omega, by omega, by omega, hN, hq, hL⟩
  have hL32 : N ≤ 32 := by omega
  clear hP hC hF hW hH hfr hbP hbM hbv ih hN hc1 hq hL
  go_enter Try.func39, Try.ntmps39
  go_upto_region 4 with fail
  go_quiet (fail)
  obtain ⟨x0, hx0⟩ : ∃ x0, x0 = w.drewN nq := ⟨_, rfl⟩
  have F0 : Hid (Below w.heap.size w x0 ∧ x0.heap.size = w.heap.size) := by rw [hx0]; exact ⟨bel_drewN (Below.refl _ _) _, rfl⟩
  rw [← hx0]
  clear hx0
  have HX0 : Hid (Prt b off H x x0 ∧ Prt b (off + H) H (fun i => x (H + i)) x0 ∧ Cls T P B M k bo bc p q v L x0) := by
    have e := F0.out.1.block b HX.out.1.1
    exact ⟨HX.out.1.same e F0.out.1.size, HX.out.2.1.same e F0.out.1.size, HX.out.2.2.1.below HX.out.2.2.2.1 F0.out.1⟩
  obtain ⟨u, hu⟩ : ∃ u : Nat → Int, u = fun i => psu (x i) (x (H + i)) := ⟨_, rfl⟩
  have HU : Hid ((∀ i, i < H → Btl (u i)) ∧ u = fun i => psu (x i) (x (H + i))) := ⟨fun i hi => by rw [hu]; exact psu_bt (HX.out.1.2.2 i hi) (HX.out.2.1.2.2 i hi), hu⟩
  have HS : Hid (Calls Try.prog 51 #[.slice (some ⟨b, off, none⟩) H c, .slice (some ⟨b, off + H, none⟩) H (c - H)] x0 fun e w' => ∃ g, e = .returned (.slice (some ⟨g, 0, none⟩) H H) ∧ Prt g 0 H u w' ∧ x0.heap.size ≤ g ∧ Below x0.heap.size x0 w') := by
    refine (plsums_any HX0.out.1.slz HX0.out.2.1.slz (fun a e => by cases e; exact HX0.out.1.1) (fun a e => by cases e; exact HX0.out.1.1) (by omega) HX0.out.1.2.2 HX0.out.2.1.2.2).mono ?_
    rintro e w' ⟨g, rfl, h1, h2⟩
    have h3 := own_prt h1 hH1 (fun i hi => psu_bt (HX.out.1.2.2 i hi) (HX.out.2.1.2.2 i hi))
    exact ⟨g, rfl, by rw [hu]; exact h3.1, h3.2, h2⟩
  clear hu
  go_wp2_with fail
  refine HS.out.mono ?_
  rintro e x1 ⟨g1, rfl, hp1, hg1, hb1⟩
  clear HS
  have H1 : Hid (Prt g1 0 H u x1 ∧ x0.heap.size ≤ g1 ∧ Below x0.heap.size x0 x1) := ⟨hp1, hg1, hb1⟩
  clear hp1 hg1 hb1
  have HR1 : Hid (Calls Try.prog 39 #[.slice (some ⟨g1, 0, none⟩) (H : Nat) H, .func (.func 37) #[] #[.pointer (some ⟨P, 0, none⟩), .pointer (some ⟨B, 0, none⟩), .pointer (some ⟨M, 0, none⟩)]] x1
        (RdQ S T P B M k bo bc p H q v L x1 (rdp fr h q u))) := by
    have f1 := HX.out.2.2.2.1.mb
    have f2 := HX.out.2.2.2.1.bp
    have f3 := HX.out.2.2.2.1.pt
    have f4 := HX0.out.2.2.size
    have f5 := H1.out.2.1
    have f6 := HCd.out
    exact HI.out (by omega) (by omega) H1.out.1 (by omega) (by omega) (fun e => by have := (HX0.out.2.2.own.lt _ e).2; omega) (by omega) (by omega) (HX0.out.2.2.below HX.out.2.2.2.1 H1.out.2.2)
  cases hr1 : rdp fr h q u with
  | none =>
    have HV : Hid (W = none) := by
      show W = none
      rw [HX.out.2.2.2.2.1]
      refine rdp_n1 ?_
      rw [← HX.out.2.2.2.2.2.1, ← HU.out.2]
      exact hr1
    rw [hr1] at HR1
    clear hr1
    go_wp2_with fail
    refine HR1.out.mono ?_
    rintro e x2 ⟨hb2, hm2, vs, he, _⟩
    have he : e = .returned (.tuple #[vs, .bool false]) := he
    subst he
    have HB2 : Hid (Below S w x2 ∧ MC M x2) := ⟨rd_bel HX.out.2.2.2.1 HX.out.2.2.1 (bel_up' F0.out.1 (H1.out.2.2.mono (Nat.le_refl _))) hb2, hm2⟩
    clear hb2 hm2
    go_wp2
    go_ret2
    exact rdq_no HV.out HB2.out
  | some r =>
    rw [hr1] at HR1
    have HV1 : Hid (rdp fr h q (fun i => psu (x i) (x (2 ^ h + i))) = some r) := by
      show _ = _
      rw [← HX.out.2.2.2.2.2.1, ← HU.out.2]
      exact hr1
    have HBt : Hid (∀ i, i < H → Bt (r.1 i) ∧ Bt (r.2 i)) := fun i hi => rdp_bt hr1 (fun i hi => HU.out.1 i (by rw [HX.out.2.2.2.2.2.1]; exact hi)) i (by rw [← HX.out.2.2.2.2.2.1]; exact hi)
    clear hr1
    go_wp2_with fail
    refine HR1.out.mono ?_
    rintro e x2 ⟨hb2, _, vs, he, hs⟩
    have he : e = .returned (.tuple #[vs, .bool true]) := he
    subst he
    obtain ⟨v1, s1, ho1, hs1, hv1, hC1, hf1⟩ := hs r rfl
    obtain ⟨ao1, ca1, rfl, hA1⟩ := ho1.argL
    rw [← HX.out.2.2.2.2.2.2.1] at hC1
    have H2 : Hid (ArgL ao1 H ca1 r.2 x2 ∧ OwnI s1 (.slice ao1 H ca1) (zl H r.2) x2 ∧ x1.heap.size ≤ s1 ∧ (∀ i, v1.ownBlock = some i → i < s1) ∧ Cls T P B M k bo bc p (q + H) v1 (L ++ msl fr r.1 q H) x2 ∧ Frm P M v w v1 x2 ∧ Below S w x2 ∧ Prt b off H x x2 ∧ Prt b (off + H) H (fun i => x (H + i)) x2) := by
      have hb := bel_up' F0.out.1 H1.out.2.2
      have e1 : x1.heap[b]? = w.heap[b]? := hb.block b HX.out.1.1
      have e2 : x2.heap[b]? = x1.heap[b]? := hf1.keep b (Nat.lt_of_lt_of_le HX.out.1.1 hb.size) HX.out.2.2.2.2.2.2.2.1 HX.out.2.2.2.2.2.2.2.2.1 HX.out.2.2.2.2.2.2.2.2.2
      exact ⟨hA1, ho1, hs1, hv1, hC1, (Frm.of_below hb).trans hf1, rd_bel HX.out.2.2.2.1 HX.out.2.2.1 hb hb2, HX.out.1.same (e2.trans e1) (Nat.le_trans hb.size hf1.size), HX.out.2.1.same (e2.trans e1) (Nat.le_trans hb.size hf1.size)⟩
    clear hs ho1 hs1 hv1 hC1 hf1 hA1 hb2 HR1
    obtain ⟨y1, hy1⟩ : ∃ y1 : Nat → Int, y1 = fun i => psu (x i) (r.2 i) := ⟨_, rfl⟩
    obtain ⟨y2, hy2⟩ : ∃ y2 : Nat → Int, y2 = fun i => x (H + i) := ⟨_, rfl⟩
    have HY : Hid (y1 = (fun i => psu (x i) (r.2 i)) ∧ y2 = (fun i => x (H + i)) ∧ (∀ i, i < H → Btl (y1 i)) ∧ ∀ i, i < H → Btl (y2 i)) := ⟨hy1, hy2, fun i hi => by rw [hy1]; exact psu_bt (HX.out.1.2.2 i hi) (HBt.out i hi).2.l, fun i hi => by rw [hy2]; exact HX.out.2.1.2.2 i hi⟩
    have HS : Hid (Calls Try.prog 51 #[.slice (some ⟨b, off, none⟩) H c, .slice ao1 H ca1] x2 fun e w' => ∃ g, e = .returned (.slice (some ⟨g, 0, none⟩) H H) ∧ Prt g 0 H y1 w' ∧ Prt b (off + H) H y2 w' ∧ x2.heap.size ≤ g ∧ Below x2.heap.size x2 w') := by
      refine (plsums_any H2.out.2.2.2.2.2.2.2.1.slz H2.out.1.sl (fun a e => by cases e; exact H2.out.2.2.2.2.2.2.2.1.1) H2.out.1.lt (by omega) H2.out.2.2.2.2.2.2.2.1.2.2 (fun i hi => (HBt.out i hi).2.l)).mono ?_
      rintro e w' ⟨g, rfl, h1, h2⟩
      have h3 := own_prt h1 hH1 (fun i hi => psu_bt (HX.out.1.2.2 i hi) (HBt.out i hi).2.l)
      exact ⟨g, rfl, by rw [hy1]; exact h3.1, by rw [hy2]; exact H2.out.2.2.2.2.2.2.2.2.same (h2.block b H2.out.2.2.2.2.2.2.2.1.1) h2.size, h3.2, h2⟩
    clear hy1 hy2
    go_wp2_with fail
    refine HS.out.mono ?_
    rintro e x3 ⟨g3, rfl, hp3, hp4, hg3, hb3⟩
    clear HS
    have H3 : Hid (Prt g3 0 H y1 x3 ∧ Prt b (off + H) H y2 x3 ∧ x2.heap.size ≤ g3 ∧ Below x2.heap.size x2 x3) := ⟨hp3, hp4, hg3, hb3⟩
    clear hp3 hp4 hg3 hb3
    obtain ⟨mt, hmt⟩ : ∃ mt, mt = mtb y1 y2 H := ⟨_, rfl⟩
    have HM : Hid (Calls Try.prog 52 #[.slice (some ⟨g3, 0, none⟩) H H, .slice (some ⟨b, off + H, none⟩) H (c - H)] x3 fun e w' => ∃ v, e = .returned (.tuple #[v, .bool mt]) ∧ (mt = true → ∃ g c, v = .slice (some ⟨g, 0, none⟩) H c ∧ H ≤ c ∧ c ≤ 9223372036854775807 ∧ x3.heap.size ≤ g ∧ RowZ g H (mtf y1 y2) w') ∧ Below x3.heap.size x3 w') := by
      rw [hmt]
      exact met_any H3.out.1.slz H3.out.2.1.slz H3.out.1.1 (fun a e => by cases e; exact H3.out.2.1.1) hH1 (by omega)
    have HMt : Hid (mtb (fun i => psu (x i) (r.2 i)) (fun i => x (2 ^ h + i)) (2 ^ h) = mt) := by
      show _ = _
      rw [← HX.out.2.2.2.2.2.1, ← HY.out.1, ← HY.out.2.1]
      exact hmt.symm
    clear hmt
    cases mt with
    | false =>
      have HV : Hid (W = none) := by
        show W = none
        rw [HX.out.2.2.2.2.1]
        exact rdp_n2 HV1.out HMt.out
      go_wp2_with fail
      refine HM.out.mono ?_
      rintro e x4 ⟨v4, rfl, _, hb4⟩
      have HB4 : Hid (Below S w x4 ∧ MC M x4) := ⟨H2.out.2.2.2.2.2.2.1.trans (rd_bel HX.out.2.2.2.1 H2.out.2.2.2.2.1 H3.out.2.2.2 (rd_bel HX.out.2.2.2.1 (H2.out.2.2.2.2.1.below HX.out.2.2.2.1 H3.out.2.2.2) hb4 (Below.refl _ _))), ((H2.out.2.2.2.2.1.below HX.out.2.2.2.1 H3.out.2.2.2).below HX.out.2.2.2.1 hb4).mc⟩
      clear hb4
      go_wp2
      go_ret2
      exact rdq_no HV.out HB4.out
    | true =>
      go_wp2_with fail
      refine HM.out.mono ?_
      rintro e x4 ⟨v4, rfl, hm4, hb4⟩
      obtain ⟨g4, c4, rfl, hc41, hc42, hg4, hZ4⟩ := hm4 (by first | trivial | rfl)
      have H4 : Hid (Prt g4 0 H (mtf y1 y2) x4 ∧ x3.heap.size ≤ g4 ∧ Below x2.heap.size x2 x4 ∧ H ≤ c4 ∧ c4 ≤ 9223372036854775807) := ⟨⟨hZ4.lt', fun i hi => by rw [Nat.zero_add]; exact hZ4.cell i hi, fun i hi => mtf_bt (HY.out.2.2.1 i hi) (HY.out.2.2.2 i hi)⟩, hg4, bel_up' H3.out.2.2.2 hb4, hc41, hc42⟩
      clear hm4 hb4 hc41 hc42 hg4 hZ4 HM
      have HR4 : Hid (Calls Try.prog 39 #[.slice (some ⟨g4, 0, none⟩) (H : Nat) c4, .func (.func 37) #[] #[.pointer (some ⟨P, 0, none⟩), .pointer (some ⟨B, 0, none⟩), .pointer (some ⟨M, 0, none⟩)]] x4
            (RdQ S T P B M k bo bc p H (q + H) v1 (L ++ msl fr r.1 q H) x4 (rdp fr h (q + H) (mtf y1 y2)))) := by
        have f1 := HX.out.2.2.2.1.mb
        have f2 := HX.out.2.2.2.1.bp
        have f3 := HX.out.2.2.2.1.pt
        have f4 := H2.out.2.2.2.2.1.size
        have f5 := H4.out.2.1
        have f6 := HCd.out
        have f7 := H3.out.2.2.2.size
        have f8 := msl_len (fr := fr) (a := r.1) (q := q) H
        exact HI.out (by omega) (by rw [List.length_append]; omega) H4.out.1 (by omega) (by omega) (fun e => by have := (H2.out.2.2.2.2.1.own.lt _ e).2; omega) H4.out.2.2.2.1 H4.out.2.2.2.2 (H2.out.2.2.2.2.1.below HX.out.2.2.2.1 H4.out.2.2.1)
      cases hr2 : rdp fr h (q + H) (mtf y1 y2) with
      | none =>
        have HV : Hid (W = none) := by
          show W = none
          rw [HX.out.2.2.2.2.1]
          refine rdp_n3 HV1.out HMt.out ?_
          rw [← HX.out.2.2.2.2.2.1, ← HY.out.1, ← HY.out.2.1]
          exact hr2
        rw [hr2] at HR4
        clear hr2
        go_wp2_with fail
        refine HR4.out.mono ?_
        rintro e x5 ⟨hb5, hm5, vs, he, _⟩
        have he : e = .returned (.tuple #[vs, .bool false]) := he
        subst he
        have HB5 : Hid (Below S w x5 ∧ MC M x5) := ⟨H2.out.2.2.2.2.2.2.1.trans (rd_bel HX.out.2.2.2.1 H2.out.2.2.2.2.1 H4.out.2.2.1 hb5), hm5⟩
        clear hb5 hm5
        go_wp2
        go_ret2
        exact rdq_no HV.out HB5.out
      | some t =>
        have HV : Hid (W = some (jn H r.1 t.1, jn H (fun i => psu (r.2 i) (t.2 i)) t.2)) := by
          show W = _
          rw [HX.out.2.2.2.2.1]
          have e := rdp_some (t := t) HV1.out HMt.out (by rw [← HX.out.2.2.2.2.2.1, ← HY.out.1, ← HY.out.2.1]; exact hr2)
          rw [← HX.out.2.2.2.2.2.1] at e
          exact e
        have HBt2 : Hid (∀ i, i < H → Bt (t.1 i) ∧ Bt (t.2 i)) := fun i hi => rdp_bt hr2 (fun i hi => H4.out.1.2.2 i (by rw [HX.out.2.2.2.2.2.1]; exact hi)) i (by rw [← HX.out.2.2.2.2.2.1]; exact hi)
        rw [hr2] at HR4
        clear hr2
        go_wp2_with fail
        refine HR4.out.mono ?_
        rintro e x5 ⟨hb5, _, vs, he, hs⟩
        have he : e = .returned (.tuple #[vs, .bool true]) := he
        subst he
        obtain ⟨v2, s2, ho2, hs2, hv2, hC2, hf2⟩ := hs t rfl
        obtain ⟨ao2, ca2, rfl, hA2⟩ := ho2.argL
        rw [← HX.out.2.2.2.2.2.2.1] at hC2
        have H5 : Hid (SlZ ao1 H r.2 x5 ∧ LtB ao1 x5.heap.size ∧ ArgL ao2 H ca2 t.2 x5 ∧ Cls T P B M k bo bc p (q + H + H) v2 (L ++ msl fr r.1 q H ++ msl fr t.1 (q + H) H) x5 ∧ Frm P M v w v2 x5) := by
          have f1 := HX.out.2.2.2.1.mb
          have f2 := HX.out.2.2.2.1.bp
          have f3 := HX.out.2.2.2.1.pt
          have f4 := HX.out.2.2.1.size
          have f5 := H4.out.2.2.1.size
          have f6 := hf2.size
          have f7 := (bel_up' F0.out.1 H1.out.2.2).size
          have f8 := H2.out.2.2.1
          refine ⟨fun i hi => ?_, fun a e => ?_, hA2, hC2, H2.out.2.2.2.2.2.1.trans ((Frm.of_below H4.out.2.2.1).trans hf2)⟩
          · obtain ⟨b9, o9, e9, q9⟩ := H2.out.1.sl i hi
            have l9 := H2.out.1.lt _ e9
            dsimp only at l9
            have s9 : s1 ≤ b9 := (H2.out.2.1.lt b9 (by rw [e9]; rfl)).1
            exact ⟨b9, o9, e9, (cell_blk (a := ⟨b9, o9 + i, none⟩) (hf2.keep b9 (by omega) (by omega) (by omega) (fun e => by have := H2.out.2.2.2.1 _ e; omega))).trans ((cell_blk (a := ⟨b9, o9 + i, none⟩) (H4.out.2.2.1.block b9 l9)).trans q9)⟩
          · have l9 := H2.out.1.lt _ e
            omega
        have HJ : Hid (Calls Try.prog 46 #[.slice ao1 H ca1, .slice ao2 H ca2] x5 fun e w' => ∃ v, e = .returned v ∧ OwnI x5.heap.size v (zl (H + H) fun i => if i < H then psu (r.2 i) (t.2 i) else t.2 (i - H)) w' ∧ Below x5.heap.size x5 w') := joined_any H5.out.1 H5.out.2.2.1.sl H5.out.2.1 H5.out.2.2.1.lt hH1 (by omega) (fun i hi => (HBt.out i hi).2.l) (fun i hi => (HBt2.out i hi).2.l)
        clear hs ho2 hs2 hv2 hC2 hf2 hA2 hb5 HR4
        go_wp2_with fail
        refine HJ.out.mono ?_
        rintro e x6 ⟨v6, rfl, ho6, hb6⟩
        have H6 : Hid (OwnI x5.heap.size v6 (zl (H + H) fun i => if i < H then psu (r.2 i) (t.2 i) else t.2 (i - H)) x6 ∧ Below x5.heap.size x5 x6) := ⟨ho6, hb6⟩
        clear ho6 hb6 HJ
        go_wp2
        go_ret2
        rw [HV.out]
        have hC6 := H5.out.2.2.2.1.below HX.out.2.2.2.1 H6.out.2
        have hf6 := H5.out.2.2.2.2.trans (Frm.of_below H6.out.2)
        refine ⟨HX.out.2.2.1.bel HX.out.2.2.2.1 hf6, hC6.mc, v6, rfl, fun r9 hr9 => ?_⟩
        cases hr9
        rw [HCd.out.2.2.2.1]
        refine ⟨v2, x5.heap.size, H6.out.1, H5.out.2.2.2.2.size, fun i e => (H5.out.2.2.2.1.own.lt i e).2, ?_, hf6⟩
        rw [← HX.out.2.2.2.2.2.2.1]
        show Cls T P B M k bo bc p (q + (H + H)) v2 (L ++ msl fr (jn H r.1 t.1) q (H + H)) x6
        rw [msl_jn, ← Nat.add_assoc, ← List.append_assoc]
        exact hC6
end Go.Proofs.Ytbfkacnpbelmlaa
