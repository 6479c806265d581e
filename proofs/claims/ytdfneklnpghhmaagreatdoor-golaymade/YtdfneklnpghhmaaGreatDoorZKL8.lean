/- Texts of ours, one behind the other: KL8 KL10 KL11 KL14 S47. -/
import Derived.Test.YtdfneklnpghhmaaGreatDoorZKL5
import Derived.Test.YtdfneklnpghhmaaGreatDoorZO2
import Derived.Test.YtdfneklnpghhmaaGreatDoorZI22
import Derived.Test.YtdfneklnpghhmaaGreatDoorZI6
import Derived.Test.YtdfneklnpghhmaaGreatDoorZKA6
/- code.Weights where there is none; code.Distance. -/
namespace Go.Proofs.YtdfneklnpghhmaaGreatDoor
open Go.RowKit Go.Sort Go.Shelf

set_option maxHeartbeats 8000000 in
set_option maxRecDepth 100000 in
theorem weights_err (e : Int) (he : e ≠ 0) (q n : Int) {ao : Option Addr} {m ca : Nat} {w : World}
    (hC : ∀ wx, Below w.heap.size w wx → Calls Tryz.prog 45 #[.agg #[.int .i64 q, .int .i64 n, .slice ao m ca]] wx fun x w' => x = .returned (.tuple #[.agg #[.int .i64 0, .int .i64 0, .slice none 0 0], .int .i64 e]) ∧ Below wx.heap.size wx w') :
    Calls Tryz.prog 25 #[.agg #[.int .i64 q, .int .i64 n, .slice ao m ca]] w fun x w' => x = .returned (.tuple #[.slice none 0 0, .int .i64 e]) ∧ Below w.heap.size w w' := by
  obtain ⟨w0, hw0⟩ : ∃ w0, w0 = w.alloc (.cells #[.int .i64 q, .int .i64 n, .slice ao m ca] 24) := ⟨_, rfl⟩
  have hb0 : Below w.heap.size w w0 := by rw [hw0]; exact (Below.refl _ _).alloc (Nat.le_refl _) _
  have HS : Hid (Calls Tryz.prog 45 #[.agg #[.int .i64 q, .int .i64 n, .slice ao m ca]] w0 fun x w' => x = .returned (.tuple #[.agg #[.int .i64 0, .int .i64 0, .slice none 0 0], .int .i64 e]) ∧ Below w0.heap.size w0 w') := hC w0 hb0
  have hz : (e != 0) = true := by rw [bne_iff_ne]; exact he
  refine callsIn_wide.1 (callsIn_of_wp_marks (n := 0) Tryz.func25 rfl trivial ?_ rfl)
  refine wpIn_wide.2 ?_
  simp only [Tryz.ntmps25, List.size_toArray, List.length_cons, List.length_nil, Nat.reduceAdd, Nat.reduceSub, Array.replicate_succ, Array.replicate_zero, List.push_toArray, List.append_toArray, List.nil_append, List.cons_append]
  go_wp2_with fail
  rw [← hw0]
  have HB0 : Hid (Below w.heap.size w w0 ∧ RB w.heap.size w0) := ⟨hb0, by rw [hw0]; exact RB.new _ _ _ _⟩
  clear hw0 hb0 hC he
  refine HS.out.mono ?_
  rintro x w1 ⟨rfl, hb1⟩
  have H1 : Hid (Below w.heap.size w w1 ∧ RB w.heap.size w1) := ⟨below_two' HB0.out.1 hb1, HB0.out.2.keep hb1⟩
  clear hb1
  obtain ⟨⟨x0, c0⟩, ⟨x1, c1⟩, ⟨x2, c2⟩, f0, f1, f2⟩ := H1.out.2
  obtain ⟨w2, hw2⟩ : ∃ w2, w2 = laid w1 w.heap.size 0 0 (.slice none 0 0) := ⟨_, rfl⟩
  have HB : Hid (Below w.heap.size w w2) := by rw [hw2]; exact laid_below H1.out.1 (Nat.le_refl _) _ _ _
  unfold laid at hw2
  go_wp2
  rw [← hw2]
  refine ⟨.tuple #[.slice none 0 0, .int .i64 e], by simp [results, Tryz.results25, go_sem], ?_⟩
  exact ⟨rfl, HB.out⟩

/-- The least place above 0 at which there is something; 0: there is none. -/
def Lwt (c : Nat → Nat) (N d : Nat) : Prop := (d = 0 ∧ ∀ i, 0 < i → i < N → c i = 0) ∨ (0 < d ∧ d < N ∧ 0 < c d ∧ ∀ i, 0 < i → i < d → c i = 0)
theorem Lwt.uniq {c : Nat → Nat} {N d e : Nat} (h : Lwt c N d) (h' : Lwt c N e) : d = e := by
  rcases h with ⟨h1, h2⟩ | ⟨h1, h2, h3, h4⟩
  · rcases h' with ⟨k1, k2⟩ | ⟨k1, k2, k3, k4⟩
    · omega
    · have := h2 e k1 k2; omega
  · rcases h' with ⟨k1, k2⟩ | ⟨k1, k2, k3, k4⟩
    · have := k2 d h1 h2; omega
    · rcases Nat.lt_trichotomy d e with h5 | h5 | h5
      · have := k4 d h1 h5; omega
      · exact h5
      · have := h4 e k1 h5; omega
end Go.Proofs.YtdfneklnpghhmaaGreatDoor

/- All words of a code: the walk of the reference's Words. -/
namespace Go.Proofs.YtdfneklnpghhmaaGreatDoor
open Go.RowKit Go.Sort

theorem rl_snoc (a n : Nat) (R : Nat → Nat → Nat) : rl (a + 1) n R = rl a n R ++ [(n, R a)] := by
  unfold rl
  rw [List.range_succ, List.map_append]
  rfl

/-- A list of rows that lie at and above base, none of them in a block. -/
def LLy (g base : Nat) (v : Value) (L : List (Nat × (Nat → Nat))) (w : World) : Prop := ∃ l, OwnV base v l w ∧ Elms l L w ∧ (∀ u ∈ l, u.ownBlock ≠ some g) ∧ ∀ u ∈ l, ∀ b, u.ownBlock = some b → base ≤ b
theorem LLy.apart {g base N : Nat} {c : Nat → Nat} {v : Value} {L : List (Nat × (Nat → Nat))} {w w' : World} (h : LLy g base v L w) (hr : Row g N c w) (hg : w.grownBy w' (some g)) : LLy g base v L w' := by
  obtain ⟨l, h1, h2, h3, h4⟩ := h
  exact ⟨l, World.ownsRow.kept h1 hg (Or.inr fun e => hr.apart h1 e.symm), ⟨h2.1, fun j u p hu hp => (h2.2 j u p hu hp).apart hg (h3 u (List.mem_of_getElem? hu))⟩, h3, h4⟩
theorem LLy.push {g base : Nat} {v v' u : Value} {l : List Value} {L : List (Nat × (Nat → Nat))} {p : Nat × (Nat → Nat)} {w w' : World} (h1 : OwnV base v l w) (h2 : Elms l L w) (h3 : ∀ u ∈ l, u.ownBlock ≠ some g) (h4 : ∀ u ∈ l, ∀ b, u.ownBlock = some b → base ≤ b) (hu : Elm u p w) (hne : u.ownBlock ≠ some g) (hge : ∀ b, u.ownBlock = some b → base ≤ b) (ho : OwnV base v' (l ++ [u]) w') (hg : w.grownBy w' v.ownBlock) : LLy g base v' (L ++ [p]) w' := by
  refine ⟨_, ho, (h2.snoc hu).grown h1 hg, fun x hx => ?_, fun x hx => ?_⟩
  · rcases List.mem_append.1 hx with hx | hx
    · exact h3 x hx
    · rw [List.mem_singleton.1 hx]; exact hne
  · rcases List.mem_append.1 hx with hx | hx
    · exact h4 x hx
    · rw [List.mem_singleton.1 hx]; exact hge
/-- N rows of n numbers each, all at and above B. -/
def WLb (B gl N n : Nat) (R : Nat → Nat → Nat) (w : World) : Prop := B ≤ gl ∧ ∀ i, i < N → ∃ h c, w.cell? ⟨gl, i, none⟩ = some (.slice (some ⟨h, 0, none⟩) n c) ∧ B ≤ h ∧ n ≤ c ∧ c ≤ 9223372036854775807 ∧ Row h n (R i) w
theorem WLb.same {B gl N n : Nat} {R : Nat → Nat → Nat} {w w' : World} (h : WLb B gl N n R w) (hs : ∀ b, B ≤ b → b < w.heap.size → w'.heap[b]? = w.heap[b]?) : WLb B gl N n R w' := by
  refine ⟨h.1, fun i hi => ?_⟩
  obtain ⟨x, c, h1, h2, h3, h4, h5⟩ := h.2 i hi
  refine ⟨x, c, ?_, h2, h3, h4, h5.other (hs x h2 h5.lt)⟩
  have e := hs gl h.1 (cell_lt h1)
  unfold World.cell? at h1 ⊢
  rw [e]; exact h1
theorem WLb.below {B gl N n : Nat} {R : Nat → Nat → Nat} {w w' : World} (h : WLb B gl N n R w) (hb : Below w.heap.size w w') : WLb B gl N n R w' := h.same fun b _ hl => hb.block b hl
theorem LLy.wlb {g base : Nat} {v : Value} {N n1 : Nat} {R : Nat → Nat → Nat} {w : World} (h : LLy g base v (rl N n1 R) w) (hN : 0 < N) : ∃ gl cl, v = .slice (some ⟨gl, 0, none⟩) N cl ∧ WLb base gl N (n1 + 1) R w := by
  obtain ⟨l, h1, h2, _, h4⟩ := h
  have hl : l.length = N := by rw [h2.1, rl_len]
  obtain ⟨ao, cap, e, _, _, hge, hcell⟩ := h1.open
  rw [hl] at e
  have hat : ∀ i, i < N → ∃ u, l[i]? = some u := fun i hi => ⟨l[i]'(by omega), List.getElem?_eq_getElem (by omega)⟩
  obtain ⟨u0, hu0⟩ := hat 0 hN
  obtain ⟨gl, hgl, _⟩ := hcell 0 u0 hu0
  subst hgl
  refine ⟨gl, cap, e, hge _ rfl, fun i hi => ?_⟩
  obtain ⟨u, hu⟩ := hat i hi
  obtain ⟨gl', hgl, hc, _⟩ := hcell i u hu
  cases hgl
  obtain ⟨x, c, e2, a1, a2, a3⟩ := h2.2 i u _ hu (rl_get N n1 R i hi)
  subst e2
  exact ⟨x, c, hc, h4 _ (List.mem_of_getElem? hu) x rfl, a1, a2, a3⟩

set_option maxHeartbeats 16000000 in
set_option maxRecDepth 100000 in
theorem rwords_any {D : FD} (hD : D ∈ fieldsL) {ro : Option Addr} {k n n1 rc N : Nat} {R : Nat → Nat → Nat} {w : World} (hnn : n = n1 + 1) (hn : n ≤ 64) (hk : k ≤ 64) (hN : N = D.q ^ k) (hN2 : N ≤ 4096) (hR : ∀ i, i < k → El D (R i)) (hL : RL (.slice ro k rc) k n R w) :
    Calls Tryz.prog 21 #[.agg #[.int .i64 D.q, .int .i64 (n : Nat), .slice ro k rc]] w fun e w' => ∃ gl cl, e = .returned (.slice (some ⟨gl, 0, none⟩) N cl) ∧ WLb w.heap.size gl N n (wdr D R k) w' ∧ Below w.heap.size w w' := by
  obtain ⟨w0, hw0⟩ : ∃ w0, w0 = w.alloc (.cells #[.int .i64 D.q, .int .i64 (n : Nat), .slice ro k rc] 24) := ⟨_, rfl⟩
  have hb0 : Below w.heap.size w w0 := by rw [hw0]; exact (Below.refl _ _).alloc (Nat.le_refl _) _
  have HW : Hid (Below w.heap.size w w0 ∧ CB w.heap.size D.q n (.slice ro k rc) w0 ∧ RL (.slice ro k rc) k n R w0) := ⟨hb0, by rw [hw0]; exact CB.new _ _ _ _, hL.below hb0⟩
  have HF : Hid (D ∈ fieldsL ∧ n = n1 + 1 ∧ N = D.q ^ k ∧ ∀ i, i < k → El D (R i)) := ⟨hD, hnn, hN, hR⟩
  have h64 := (fld hD).q64
  have h2q := (fld hD).q2
  have hN0 : 0 < N := by rw [hN]; exact Nat.pow_pos (by omega)
  clear hD hL hb0 hR hnn hN
  go_enter Tryz.func21, Tryz.ntmps21
  go_wp2_with fail
  rw [← hw0]
  clear hw0
  refine (rfield_sl HF.out.1 w0).mono ?_
  rintro x w1 ⟨gm, cm, rfl, hmod, hb1⟩
  unfold rf
  obtain ⟨wa, hwa⟩ : ∃ wa, wa = w1.alloc (.cells #[.int .i64 D.q, .int .i64 D.p, .int .i64 D.m, .int .i64 D.gen, .slice (some ⟨gm, 0, none⟩) (D.m + 1) cm] 65) := ⟨_, rfl⟩
  have hba : Below w1.heap.size w1 wa := by rw [hwa]; exact (Below.refl _ _).alloc (Nat.le_refl _) _
  have HB : Hid (Below w.heap.size w wa ∧ CB w.heap.size D.q n (.slice ro k rc) wa ∧ RL (.slice ro k rc) k n R wa ∧ Box w1.heap.size D D.gen (.slice (some ⟨gm, 0, none⟩) (D.m + 1) cm) wa ∧ ModAt D (.slice (some ⟨gm, 0, none⟩) (D.m + 1) cm) D.md wa ∧ w.heap.size ≤ w1.heap.size ∧ w1.heap.size < wa.heap.size) := by
    have hbb := bel_up' hb1 hba
    have h1 := HW.out.1.size
    have h2 := hb1.size
    exact ⟨bel_up' HW.out.1 hbb, HW.out.2.1.keep hbb, HW.out.2.2.below hbb, by rw [hwa]; exact box_new D D.gen _ w1, hmod.below hba, by omega, by rw [hwa]; simp⟩
  obtain ⟨p0, p1, p2⟩ := HW.out.2.1.keep hb1
  obtain ⟨q0, q1, q2⟩ := HB.out.2.1
  have hlt0 : w.heap.size < w1.heap.size := cell_lt p0
  clear hb1 hba hmod
  rw [hwa] at q0 q1 q2
  go_wp2_with (at_make; rw [← hwa]; refine make_int rfl _ _ rfl _ k rfl rfl (by omega) (by omega) ?_; intro w2 hown2 hgrow2)
  have hsa : wa.heap.size = w1.heap.size + 1 := by rw [hwa]; simp
  obtain ⟨g, hg⟩ : ∃ g, g = w1.heap.size + 1 := ⟨_, rfl⟩
  have HB2 : Hid (Below wa.heap.size wa w2 ∧ Row g k pnil w2 ∧ wa.heap.size ≤ g) := by rw [hg, ← hsa]; exact ⟨below_grown hgrow2 (Nat.le_refl _) (fun k hk => by simp at hk), row_zeros hown2, Nat.le_refl _⟩
  rw [← hg]
  have hgw : wa.heap.size ≤ g := HB2.out.2.2
  obtain ⟨bF, hbF⟩ : ∃ bF, bF = w1.heap.size := ⟨_, rfl⟩
  have HBx : Hid (Box bF D D.gen (.slice (some ⟨gm, 0, none⟩) (D.m + 1) cm) wa ∧ bF < wa.heap.size) := by rw [hbF]; exact ⟨HB.out.2.2.2.1, HB.out.2.2.2.2.2.2⟩
  rw [← hbF]
  clear hown2 hgrow2 hsa hg hwa hbF p0 p1 p2 q0 q1 q2 hlt0
  go_loopg [6, 7] N (fun gk vo vm wr => ∃ (a : Nat) (mb : Bool), a + gk = N ∧ vm = .bool mb ∧ Hid (mb = decide (0 < gk) ∧ (0 < gk → Row g k (dgs D.q k a) wr) ∧ LLy g wa.heap.size vo (rl a n1 (wdr D R k)) wr ∧ Below wa.heap.size wa wr))
  case atStart =>
    refine ⟨0, true, by omega, rfl, ?_, ?_, ?_, HB2.out.1⟩
    · rw [decide_eq_true hN0]
    · exact fun _ => HB2.out.2.1.congr (fun j _ => dgs_zero.symm)
    · exact ⟨[], OwnV.nil _ _, Elms.nil _, fun u hu => by simp at hu, fun u hu => by simp at hu⟩
  case round =>
    obtain ⟨a, mb, haN, rfl, HG⟩ := hrel
    by_cases hgk : 0 < gk
    · have hmb : mb = true := by rw [HG.out.1, decide_eq_true hgk]
      subst hmb
      have hbx := HBx.out.1.below (B := wa.heap.size) HG.out.2.2.2 HBx.out.2
      obtain ⟨k0, k1', k2, k3, k4⟩ := hbx
      obtain ⟨q0, q1, q2⟩ := HB.out.2.1.keep HG.out.2.2.2
      have haN' : a < D.q ^ k := by rw [← HF.out.2.2.1]; omega
      have HEn : Hid (Calls Tryz.prog 42 #[.agg #[.int .i64 D.q, .int .i64 D.p, .int .i64 D.m, .int .i64 D.gen, .slice (some ⟨gm, 0, none⟩) (D.m + 1) cm], .agg #[.int .i64 D.q, .int .i64 (n : Nat), .slice ro k rc], .slice (some ⟨g, 0, none⟩) k k] wr fun e w' => e = .returned (.slice (some ⟨wr.heap.size + 1 + 1, 0, none⟩) n n) ∧ Row (wr.heap.size + 1 + 1) n (wdr D R k a) w' ∧ Below wr.heap.size wr w') := by
        have hrow := HG.out.2.1 hgk
        exact rencoded_any HF.out.1 D.gen gm cm hn hk HF.out.2.2.2 (fun i _ => dgs_lt h2q i) (HB.out.2.2.1.below HG.out.2.2.2) (hrow.sl (Nat.le_refl _)) (fun p hp => by cases hp; exact hrow.lt) (HB.out.2.2.2.2.1.below HG.out.2.2.2)
      have HNt : Hid (∀ wx, Row g k (dgs D.q k a) wx → Calls Tryz.prog 43 #[.slice (some ⟨g, 0, none⟩) k k, .int .i64 D.q] wx fun e w' => ∃ mb', e = .returned (.bool mb') ∧ wx.grownBy w' (some g) ∧ mb' = decide (0 < gk - 1) ∧ (0 < gk - 1 → Row g k (dgs D.q k (a + 1)) w')) := fun wx hrow => by
        refine (rnext_any HF.out.1 (dgm_mn (fld HF.out.1) k a) (by omega) (hrow.congr (fun j hj => (dgm_lo hj).symm))).mono ?_
        rintro e w' ⟨hgr, ⟨rfl, c', hr', hmn, haf⟩ | ⟨rfl, hl, _⟩⟩
        · have h := dgs_next (fld HF.out.1) haN' hmn haf
          rw [← HF.out.2.2.1] at h
          exact ⟨true, rfl, hgr, by rw [decide_eq_true (by omega)], fun _ => hr'.congr h.2⟩
        · have h := dgs_last (fld HF.out.1) haN' hl
          rw [← HF.out.2.2.1] at h
          exact ⟨false, rfl, hgr, by rw [decide_eq_false (by omega)], fun h2 => absurd h2 (by omega)⟩
      clear haN'
      go_wp2_with fail
      refine HEn.out.mono ?_
      rintro e w4 ⟨rfl, hrow4, hb4⟩
      obtain ⟨bo, hbo⟩ : ∃ bo, bo = wr.heap.size + 1 + 1 := ⟨_, rfl⟩
      rw [← hbo] at hrow4 ⊢
      obtain ⟨lst, hov, hels, hap, hag⟩ := HG.out.2.2.1
      have hll : lst.length ≤ 1000000 := by rw [hels.1, rl_len]; omega
      obtain ⟨HV, HV2⟩ : Hid (OwnV wa.heap.size u6 lst w4 ∧ Elms lst (rl a n1 (wdr D R k)) w4 ∧ (∀ u ∈ lst, u.ownBlock ≠ some g) ∧ Elm (.slice (some ⟨bo, 0, none⟩) n n) (n1, wdr D R k a) w4 ∧ Value.ownBlock (.slice (some ⟨bo, 0, none⟩) n n) ≠ some g ∧ Row g k (dgs D.q k a) w4 ∧ Below wa.heap.size wa w4) ∧ Hid ((∀ u ∈ lst, ∀ b, u.ownBlock = some b → wa.heap.size ≤ b) ∧ wa.heap.size ≤ bo) := by
        have hrow := HG.out.2.1 hgk
        have hlt := hrow.lt
        have e := HF.out.2.1
        subst e
        have hsz := HG.out.2.2.2.size
        exact ⟨⟨hov.below hb4 (Nat.le_refl _), hels.below hb4 (Nat.le_refl _), hap, ⟨bo, _, rfl, Nat.le_refl _, by omega, hrow4⟩, fun e => by have e2 : bo = g := Option.some.inj e; omega, hrow.below hb4 hlt, bel_up' HG.out.2.2.2 hb4⟩, hag, by omega⟩
      have hs4 := HV.out.2.2.2.2.2.2.size
      clear hb4 hov hels hap hag hrow4 hbo k0 k1' k2 k3 k4 q0 q1 q2
      go_wp2_with (at_builtin; refine append_sl rfl _ _ rfl wa.heap.size u6 lst rfl (HV.out.1.below ((Below.refl _ _).alloc (Nat.le_refl _) _) (Nat.le_refl _)) ⟨w4.heap.size, 0, none⟩ 1 (.slice (some ⟨bo, 0, none⟩) n n) rfl rfl (by rw [cell_of_row _ _ _ _ _ (0, 0) (two_new _)]; rfl) hll (by simp; omega) ?_; intro v' w6 hown6 hg6; have hb6 : Below wa.heap.size wa w6 := (HV.out.2.2.2.2.2.2.alloc hs4 _).grown hg6 (by simp; omega) (fun q hq => (HV.out.1.below ((Below.refl w4.heap.size w4).alloc (Nat.le_refl _) (.cells #[.slice (some ⟨bo, 0, none⟩) n n] 37)) (Nat.le_refl _)).open_ge q hq); obtain ⟨q0, q1, q2⟩ := HB.out.2.1.keep hb6)
      have hal : Below w4.heap.size w4 (w4.alloc (.cells #[.slice (some ⟨bo, 0, none⟩) n n] 37)) := (Below.refl _ _).alloc (Nat.le_refl _) _
      have ho := HV.out.1.below hal (Nat.le_refl _)
      have H6 : Hid (LLy g wa.heap.size v' (rl (a + 1) n1 (wdr D R k)) w6 ∧ Row g k (dgs D.q k a) w6 ∧ Below wa.heap.size wa w6) := by
        refine ⟨?_, ?_, hb6⟩
        · rw [rl_snoc]
          exact LLy.push ho (HV.out.2.1.below hal (Nat.le_refl _)) HV.out.2.2.1 HV2.out.1 (HV.out.2.2.2.1.below hal (Nat.le_refl _)) HV.out.2.2.2.2.1 (fun b e => by have e2 : bo = b := Option.some.inj e; have := HV2.out.2; omega) hown6 hg6
        · have hr := HV.out.2.2.2.2.2.1.below hal HV.out.2.2.2.2.2.1.lt
          exact hr.other (hg6.block g hr.lt (fun e => hr.apart ho e))
      clear hown6 hg6 hal ho hb6
      refine (HNt.out _ H6.out.2.1).mono ?_
      rintro e w7 ⟨mb', rfl, hg7, hmb', hrow7⟩
      have H7 : Hid (mb' = decide (0 < gk - 1) ∧ (0 < gk - 1 → Row g k (dgs D.q k (a + 1)) w7) ∧ LLy g wa.heap.size v' (rl (a + 1) n1 (wdr D R k)) w7 ∧ Below wa.heap.size wa w7) := ⟨hmb', hrow7, H6.out.1.apart H6.out.2.1 hg7, H6.out.2.2.grown hg7 H6.out.2.2.size (fun q hq => by cases hq; exact hgw)⟩
      clear hg7 hmb' hrow7 q0 q1 q2
      go_wp2
      go_roundg (gk - 1)
      case measure => omega
      case rel => exact ⟨a + 1, mb', by omega, rfl, H7.out⟩
    · have hmb : mb = false := by rw [HG.out.1, decide_eq_false hgk]
      subst hmb
      have hae : N = a := by omega
      subst hae
      go_wp2
      go_ret
      obtain ⟨gl, cl, e, h⟩ := HG.out.2.2.1.wlb hN0
      have hsz := HB.out.1.size
      rw [← HF.out.2.1] at h
      exact ⟨gl, cl, by subst e; rfl, ⟨by have := h.1; omega, fun i hi => by obtain ⟨x, c, h1, h2, h3⟩ := h.2 i hi; exact ⟨x, c, h1, by omega, h3⟩⟩, bel_up' HB.out.1 HG.out.2.2.2⟩
end Go.Proofs.YtdfneklnpghhmaaGreatDoor

/- The reference's Weighed and Least. -/
namespace Go.Proofs.YtdfneklnpghhmaaGreatDoor
open Go.RowKit Go.Sort

set_option maxHeartbeats 8000000 in
set_option maxRecDepth 100000 in
theorem rleast_any {g N ca : Nat} {c : Nat → Nat} {w : World} (hr : Row g N c w) (hN : N ≤ 1000) :
    Calls Tryz.prog 13 #[.slice (some ⟨g, 0, none⟩) N ca] w fun e w' => ∃ d, Lwt c N d ∧ e = .returned (.int .i64 (d : Nat)) ∧ w' = w := by
  have HF : Hid (Row g N c w) := hr
  clear hr
  go_enter Tryz.func13, Tryz.ntmps13
  go_wp2
  go_loopw [3] (fun vi wr => ∃ (r : Nat), 1 ≤ r ∧ r ≤ N + 1 ∧ vi = .int .i64 r ∧ Hid ((∀ i, 0 < i → i < r → i < N → c i = 0) ∧ wr = w)) (fun vi _ => N + 1 - (intOf vi).toNat)
  case atStart => exact ⟨1, by omega, by omega, rfl, fun i h1 h2 _ => by omega, rfl⟩
  case round =>
    obtain ⟨r, hr1, hr, rfl, HG⟩ := hrel
    rename World => wr
    by_cases hlt : r < N
    · have hib : (r : Int) < (N : Int) := by omega
      have hca := HF.out.cell r hlt
      rw [← HG.out.2] at hca
      obtain ⟨x, hx⟩ : ∃ x, x = c r := ⟨_, rfl⟩
      rw [← hx] at hca
      by_cases e : 0 < x
      · have hz : (x : Int) > 0 := by omega
        go_wp2
        go_ret
        exact ⟨r, Or.inr ⟨hr1, hlt, by omega, fun i h1 h2 => HG.out.1 i h1 h2 (by omega)⟩, rfl, HG.out.2⟩
      · have hz : ¬ (x : Int) > 0 := by omega
        go_wp2
        go_roundw
        case rel => exact ⟨r + 1, by omega, by omega, by go_num, fun i h1 h2 h3 => by
          by_cases e2 : i = r
          · rw [e2]; omega
          · exact HG.out.1 i h1 (by omega) h3, HG.out.2⟩
        case measure => simp [intOf]; omega
    · have hib : ¬ (r : Int) < (N : Int) := by omega
      go_wp2
      go_ret
      exact ⟨0, Or.inl ⟨rfl, fun i h1 h2 => HG.out.1 i h1 (by omega) h2⟩, rfl, HG.out.2⟩

set_option maxHeartbeats 16000000 in
set_option maxRecDepth 100000 in
theorem rweighed_any {D : FD} (hD : D ∈ fieldsL) {ao : Option Addr} {m n n1 ca : Nat} {M : Nat → Nat → Nat} {w : World} (hm : m ≤ 1000) (hn : n ≤ 64) (hnn : n = n1 + 1) (hel : ∀ i, i < m → El D (M i) ∧ Bd (n1 + 1) (M i)) (hA : MatR ao m n1 M w) (hF : ∀ k R, Red D n m M k R → D.q ^ k ≤ 4096) :
    Calls Tryz.prog 14 #[.agg #[.int .i64 D.q, .int .i64 (n : Nat), .slice ao m ca]] w fun e w' => ∃ k R g, Red D n m M k R ∧ e = .returned (.slice (some ⟨g, 0, none⟩) (n + 1 : Nat) (n + 1 : Nat)) ∧ Row g (n + 1) (wcn D R n k (D.q ^ k)) w' ∧ w.heap.size ≤ g ∧ Below w.heap.size w w' := by
  obtain ⟨w0, hw0⟩ : ∃ w0, w0 = w.alloc (.cells #[.int .i64 D.q, .int .i64 (n : Nat), .slice ao m ca] 24) := ⟨_, rfl⟩
  have hb0 : Below w.heap.size w w0 := by rw [hw0]; exact (Below.refl _ _).alloc (Nat.le_refl _) _
  have hcb0 : CB w.heap.size D.q n (.slice ao m ca) w0 := by rw [hw0]; exact CB.new _ _ _ _
  have hs0 : w0.heap.size = w.heap.size + 1 := by rw [hw0]; simp
  have HW : Hid (Below w.heap.size w w0 ∧ CB w.heap.size D.q n (.slice ao m ca) w0 ∧ MatR ao m n1 M w0) := ⟨hb0, hcb0, hA.below hb0⟩
  have HF : Hid (D ∈ fieldsL ∧ n = n1 + 1 ∧ (∀ i, i < m → El D (M i) ∧ Bd (n1 + 1) (M i)) ∧ ∀ k R, Red D n m M k R → D.q ^ k ≤ 4096) := ⟨hD, hnn, hel, hF⟩
  have h64 := (fld hD).q64
  have h2q := (fld hD).q2
  obtain ⟨n2, hn2⟩ : ∃ n2, n2 = n + 1 := ⟨_, rfl⟩
  have wn2 : IntKind.i64.wrap ((n : Int) + 1) = (n2 : Int) := wrap_to (by omega) (by omega)
  have HN2 : Hid (n2 = n + 1) := hn2
  have hn2b : n2 ≤ 65 := by omega
  rw [← hn2]
  obtain ⟨q0, q1, q2⟩ := hcb0
  rw [hw0] at q0 q1 q2
  clear hD hA hb0 hel hF hnn hn2
  go_enter Tryz.func14, Tryz.ntmps14
  go_wp2_with (at_make; rw [← hw0]; refine make_int rfl _ _ rfl _ n2 rfl rfl (by omega) (by omega) ?_; intro w1 hown1 hgrow1; have hb1 : Below w0.heap.size w0 w1 := below_grown hgrow1 (Nat.le_refl _) (fun k hk => by simp at hk); obtain ⟨p0, p1, p2⟩ := HW.out.2.1.keep hb1)
  obtain ⟨g, hg⟩ : ∃ g, g = w.heap.size + 1 := ⟨_, rfl⟩
  have H1 : Hid (Row g n2 pnil w1 ∧ Below w.heap.size w w1 ∧ w.heap.size ≤ g ∧ MatR ao m n1 M w1) := by
    have h := row_zeros hown1
    rw [hs0, ← hg] at h
    exact ⟨h, bel_up' HW.out.1 hb1, by omega, HW.out.2.2.below hb1⟩
  rw [← hg]
  clear hown1 hgrow1 hb1 p0 p1 p2 q0 q1 q2 hg hs0 hw0
  refine (made_any HF.out.1 hm hn HF.out.2.1 HF.out.2.2.1 H1.out.2.2.2).mono ?_
  rintro x w2 ⟨k, R, ro, rc, rfl, hll, hred, hb2⟩
  obtain ⟨N, hNe⟩ : ∃ N, N = D.q ^ k := ⟨_, rfl⟩
  have hN2 : N ≤ 4096 := by rw [hNe]; exact HF.out.2.2.2 k R hred
  have hk : k ≤ 64 := Nat.le_trans hred.le hn
  have H2 : Hid (Red D n m M k R ∧ N = D.q ^ k ∧ RL (.slice ro k rc) k n R w2 ∧ Row g n2 pnil w2 ∧ Below w.heap.size w w2) := ⟨hred, hNe, by rw [HF.out.2.1]; exact hll.rl, H1.out.1.below hb2 H1.out.1.lt, bel_up' H1.out.2.1 hb2⟩
  clear hll hred hb2 hNe
  go_wp2_with fail
  refine (rwords_any HF.out.1 HF.out.2.1 hn hk H2.out.2.1 hN2 H2.out.1.rows.1 H2.out.2.2.1).mono ?_
  rintro x w3 ⟨gl, cl, rfl, hwl, hb3⟩
  have H3 : Hid (Row g n2 pnil w3 ∧ WLb w2.heap.size gl N n (wdr D R k) w3 ∧ Below w.heap.size w w3 ∧ g < w2.heap.size) := ⟨H2.out.2.2.2.1.below hb3 H2.out.2.2.2.1.lt, hwl, bel_up' H2.out.2.2.2.2 hb3, H2.out.2.2.2.1.lt⟩
  clear hwl hb3
  go_wp2
  go_loopw [5, 6] (fun vi _ wr => ∃ (r : Nat), r ≤ N ∧ vi = .int .i64 r ∧ Hid (Row g n2 (wcn D R n k r) wr ∧ WLb w2.heap.size gl N n (wdr D R k) wr ∧ Below w.heap.size w wr)) (fun vi _ _ => N - (intOf vi).toNat)
  case atStart => exact ⟨0, by omega, rfl, H3.out.1, H3.out.2.1, H3.out.2.2.1⟩
  case round =>
    obtain ⟨r, hr, rfl, HG⟩ := hrel
    rename World => wr
    by_cases hlt : r < N
    · have hib : (r : Int) < (N : Int) := by omega
      obtain ⟨x, c, hcl, hxB, hc1, hc2, hrow⟩ := HG.out.2.1.2 r hlt
      obtain ⟨t, ht⟩ : ∃ t, t = wgr D R n k r := ⟨_, rfl⟩
      have htn : t ≤ n := by rw [ht]; exact ct_most _ _
      have HWt : Hid (Calls Tryz.prog 22 #[.slice (some ⟨x, 0, none⟩) n c] wr fun e w' => e = .returned (.int .i64 (t : Nat)) ∧ Below wr.heap.size wr w') := by
        rw [ht]; exact rweight_any (a := fun i => ((wdr D R k r i : Nat) : Int)) (hrow.sl (Nat.le_refl _)).z (fun p hp => by cases hp; exact hrow.lt) (by omega)
      have ht1 : t < n2 := by have := HN2.out; omega
      have hti : (t : Int) < (n2 : Int) := by omega
      have hti0 : (0 : Int) ≤ (t : Int) := by omega
      have HT : Hid (t = wgr D R n k r) := ht
      clear ht hrow
      go_wp2_with fail
      refine HWt.out.mono ?_
      rintro e w4 ⟨rfl, hb4⟩
      have h4 := HG.out.1.below hb4 HG.out.1.lt
      have hcell := h4.cell t ht1
      have hfree := h4.free t
      obtain ⟨y, hy⟩ : ∃ y, y = wcn D R n k r t := ⟨_, rfl⟩
      rw [← hy] at hcell
      have hyr : y ≤ 4096 := by have h5 := wcn_le D R n k r t; omega
      obtain ⟨y1, hy1⟩ : ∃ y1, y1 = y + 1 := ⟨_, rfl⟩
      have wy : IntKind.i64.wrap ((y : Int) + 1) = (y1 : Int) := wrap_to (by omega) (by omega)
      have HS : Hid (Row g n2 (wcn D R n k (r + 1)) (w4.setCell ⟨g, t, none⟩ (.int .i64 (y1 : Nat))) ∧ WLb w2.heap.size gl N n (wdr D R k) (w4.setCell ⟨g, t, none⟩ (.int .i64 (y1 : Nat))) ∧ Below w.heap.size w (w4.setCell ⟨g, t, none⟩ (.int .i64 (y1 : Nat)))) := by
        refine ⟨h4.store t y1 fun i _ => ?_, (HG.out.2.1.below hb4).same fun b hb _ => Below.heap_setCell _ _ _ _ (by have := H3.out.2.2.2; show b ≠ g; omega), (bel_up' HG.out.2.2 hb4).setCell (by have := H1.out.2.2.1; exact this) _⟩
        show wcn D R n k r i + (if i = wgr D R n k r then 1 else 0) = _
        rw [← HT.out]
        by_cases e : i = t
        · rw [if_pos e, if_pos e, e, ← hy, hy1]
        · rw [if_neg e, if_neg e]; rfl
      clear hb4 h4 hy hy1
      go_wp2
      go_roundw
      case rel => exact ⟨r + 1, by omega, by go_num, HS.out⟩
      case measure => simp [intOf]; omega
    · have hib : ¬ (r : Int) < (N : Int) := by omega
      have hre : N = r := by omega
      subst hre
      go_wp2
      go_ret
      have e := HN2.out
      subst e
      have h := HG.out.1
      rw [H2.out.2.1] at h
      exact ⟨k, R, H2.out.1, g, rfl, h, H1.out.2.2.1, HG.out.2.2⟩
end Go.Proofs.YtdfneklnpghhmaaGreatDoor

/- The reference's WeightsMay. -/
namespace Go.Proofs.YtdfneklnpghhmaaGreatDoor
open Go.RowKit Go.Sort

theorem run_fieldRows (a b : Value) (ro : Option Addr) (k rc : Nat) (w : World) : (Instr.field 24 (.agg #[a, b, .slice ro k rc]) 2).run Tryz.prog w = .ok (.slice ro k rc) w := by
  simp [Instr.field, go_sem, underlying, part, asAgg]
attribute [local go_sem] run_fieldRows

set_option maxHeartbeats 8000000 in
set_option maxRecDepth 100000 in
theorem rweightsMay_err (e : Int) (he : e ≠ 0) (q n : Int) {ao : Option Addr} {m ca : Nat} {w : World}
    (hC : ∀ wx, Below w.heap.size w wx → Calls Tryz.prog 19 #[.agg #[.int .i64 q, .int .i64 n, .slice ao m ca]] wx fun x w' => x = .returned (.int .i64 e) ∧ Below wx.heap.size wx w') :
    Calls Tryz.prog 6 #[.agg #[.int .i64 q, .int .i64 n, .slice ao m ca]] w fun x w' => x = .returned (.int .i64 e) ∧ Below w.heap.size w w' := by
  obtain ⟨w0, hw0⟩ : ∃ w0, w0 = w.alloc (.cells #[.int .i64 q, .int .i64 n, .slice ao m ca] 24) := ⟨_, rfl⟩
  have hb0 : Below w.heap.size w w0 := by rw [hw0]; exact (Below.refl _ _).alloc (Nat.le_refl _) _
  have HS : Hid (Calls Tryz.prog 19 #[.agg #[.int .i64 q, .int .i64 n, .slice ao m ca]] w0 fun x w' => x = .returned (.int .i64 e) ∧ Below w0.heap.size w0 w') := hC w0 hb0
  have hcb0 : CB w.heap.size q n (.slice ao m ca) w0 := by rw [hw0]; exact CB.new _ _ _ _
  have HB0 : Hid (Below w.heap.size w w0 ∧ CB w.heap.size q n (.slice ao m ca) w0) := ⟨hb0, hcb0⟩
  obtain ⟨q0, q1, q2⟩ := hcb0
  rw [hw0] at q0 q1 q2
  have hz : (e == 0) = false := by rw [beq_eq_false_iff_ne]; exact he
  clear hb0 hC he
  go_enter Tryz.func6, Tryz.ntmps6
  go_wp2_with fail
  rw [← hw0]
  clear hw0 q0 q1 q2
  refine HS.out.mono ?_
  rintro x w1 ⟨rfl, hb1⟩
  have HB1 : Hid (Below w.heap.size w w1) := bel_up' HB0.out.1 hb1
  clear hb1
  go_wp2
  go_big_quiet (fail)
  go_wp2
  go_ret
  exact ⟨rfl, below_drewN2 HB1.out _⟩

/-- What it tells of a code that may be. -/
def WmP (D : FD) (n m : Nat) (M : Nat → Nat → Nat) (w : World) (x : Ending) (w' : World) : Prop := ∃ k R, Red D n m M k R ∧ x = .returned (.int .i64 (if D.q ^ k ≤ 4096 then 0 else 4)) ∧ Below w.heap.size w w'

set_option maxHeartbeats 8000000 in
set_option maxRecDepth 100000 in
theorem rweightsMay_ok {D : FD} (hD : D ∈ fieldsL) {ao : Option Addr} {m n n1 ca : Nat} {M : Nat → Nat → Nat} {w : World} (hm : m ≤ 1000) (hn : n ≤ 64) (hnn : n = n1 + 1) (hel : ∀ i, i < m → El D (M i) ∧ Bd (n1 + 1) (M i)) (hA : MatR ao m n1 M w)
    (hC : ∀ wx, Below w.heap.size w wx → Calls Tryz.prog 19 #[.agg #[.int .i64 D.q, .int .i64 (n : Nat), .slice ao m ca]] wx fun x w' => x = .returned (.int .i64 0) ∧ Below wx.heap.size wx w') :
    Calls Tryz.prog 6 #[.agg #[.int .i64 D.q, .int .i64 (n : Nat), .slice ao m ca]] w (WmP D n m M w) := by
  obtain ⟨w0, hw0⟩ : ∃ w0, w0 = w.alloc (.cells #[.int .i64 D.q, .int .i64 (n : Nat), .slice ao m ca] 24) := ⟨_, rfl⟩
  have hb0 : Below w.heap.size w w0 := by rw [hw0]; exact (Below.refl _ _).alloc (Nat.le_refl _) _
  have HS : Hid (Calls Tryz.prog 19 #[.agg #[.int .i64 D.q, .int .i64 (n : Nat), .slice ao m ca]] w0 fun x w' => x = .returned (.int .i64 0) ∧ Below w0.heap.size w0 w') := hC w0 hb0
  have hcb0 : CB w.heap.size D.q n (.slice ao m ca) w0 := by rw [hw0]; exact CB.new _ _ _ _
  have HB0 : Hid (Below w.heap.size w w0 ∧ CB w.heap.size D.q n (.slice ao m ca) w0 ∧ MatR ao m n1 M w0) := ⟨hb0, hcb0, hA.below hb0⟩
  have HF : Hid (D ∈ fieldsL ∧ n = n1 + 1 ∧ ∀ i, i < m → El D (M i) ∧ Bd (n1 + 1) (M i)) := ⟨hD, hnn, hel⟩
  obtain ⟨q0, q1, q2⟩ := hcb0
  rw [hw0] at q0 q1 q2
  have h64 := (fld hD).q64
  have h2q := (fld hD).q2
  clear hb0 hC hD hnn hel hA
  go_enter Tryz.func6, Tryz.ntmps6
  go_wp2_with fail
  rw [← hw0]
  clear hw0 q0 q1 q2
  refine HS.out.mono ?_
  rintro x w1 ⟨rfl, hb1⟩
  have HB1 : Hid (Below w.heap.size w w1 ∧ MatR ao m n1 M w1) := ⟨bel_up' HB0.out.1 hb1, HB0.out.2.2.below hb1⟩
  obtain ⟨p0, p1, p2⟩ := HB0.out.2.1.keep hb1
  have HCl : Hid (∀ wx, Below w1.heap.size w1 wx → wx.cell? ⟨w.heap.size, 0, none⟩ = some (.int .i64 (D.q : Nat)) ∧ wx.cell? ⟨w.heap.size, 1, none⟩ = some (.int .i64 (n : Nat)) ∧ wx.cell? ⟨w.heap.size, 2, none⟩ = some (.slice ao m ca)) := fun wx hx => by
    obtain ⟨a0, a1, a2⟩ := (HB0.out.2.1.keep hb1).keep hx
    exact ⟨a0, a1, a2⟩
  have HMd : Hid (∀ wx, Below w1.heap.size w1 wx → Calls Tryz.prog 12 #[.agg #[.int .i64 D.q, .int .i64 (n : Nat), .slice ao m ca]] wx fun e w' => ∃ k R ro rc, e = .returned (.agg #[.int .i64 D.q, .int .i64 (n : Nat), .slice ro k rc]) ∧ LLs wx.heap.size (.slice ro k rc) (rl k n1 R) w' ∧ Red D n m M k R ∧ Below wx.heap.size wx w') := fun wx hx => made_any HF.out.1 hm hn HF.out.2.1 HF.out.2.2 (HB1.out.2.below hx)
  have hbc : Below w1.heap.size w1 w1 := Below.refl _ _
  clear hb1
  go_wp2
  go_region_held3 (fun w' => w'.cell? ⟨w.heap.size, 0, none⟩ = some (.int .i64 (D.q : Nat)) ∧ w'.cell? ⟨w.heap.size, 1, none⟩ = some (.int .i64 (n : Nat)) ∧ w'.cell? ⟨w.heap.size, 2, none⟩ = some (.slice ao m ca))
    (first | go_keep | exact HCl.out _ (by first | exact hbc | exact hbc.drew))
    (first
      | (go_at_call 12; refine (HMd.out _ (by first | exact hbc | exact hbc.drew)).mono ?_; rintro e w2 ⟨k, R, ro, rc, rfl, hll, hred, hb2⟩; have hkn := hred.le; replace hbc := bel_up' (by first | exact hbc | exact hbc.drew) hb2)
      | (go_at_call 20; refine (fewR_any D.q k (by omega) h64 (by omega) _).mono ?_; rintro e w3 ⟨bb, rfl, hfq, hw⟩; subst hw))
  have HR : Hid (Red D n m M k R ∧ (bb = true ↔ D.q ^ k ≤ 4096)) := ⟨hred, hfq⟩
  clear hll hred hfq hb2
  cases bb with
  | true =>
    go_wp2
    go_ret
    exact ⟨k, R, HR.out.1, by rw [if_pos (HR.out.2.1 (by trivial))]; rfl, bel_up' HB1.out.1 hbc⟩
  | false =>
    go_wp2
    go_ret
    exact ⟨k, R, HR.out.1, by rw [if_neg (fun h => by have h2 := HR.out.2.2 h; cases h2)]; rfl, bel_up' HB1.out.1 hbc⟩
end Go.Proofs.YtdfneklnpghhmaaGreatDoor

/- Plain mathematics: through values at different places goes just one short polynomial, and equations of powers are met by it alone. No Go text here. -/
namespace Go.Proofs.YtdfneklnpghhmaaGreatDoor
open Go.RowKit Go.Sort

end Go.Proofs.YtdfneklnpghhmaaGreatDoor
