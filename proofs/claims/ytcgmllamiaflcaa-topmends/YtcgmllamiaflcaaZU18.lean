/- Texts of ours, one behind the other: U18 U19 W6 U20 U21. -/
import Derived.Test.YtcgmllamiaflcaaZV7
import Derived.Test.YtcgmllamiaflcaaZU12
import Derived.WalkMore
import Derived.ScopeJumps
import Derived.Deep.LoopGhost
/- The program's polynomials through given places (through). -/
namespace Go.Proofs.Ytcgmllamiaflcaa
open Go.RowKit

theorem neg_nat {F T : Nat} {D : FD} (hD : D ∈ fieldsL) {g : Nat → Value} {w : World} (h : FAt F T D g w) {a : Nat} (ha : a < D.q) :
    Calls Try.prog 41 #[.pointer (some ⟨F, 0, none⟩), .int .i64 a] w fun e w' => e = .returned (.int .i64 (D.ng a : Nat)) ∧ ∃ n, w' = w.drewN n := by
  have k := neg_any hD h a
  rw [FD.negZ, if_pos (nat_has ha), Int.toNat_natCast] at k
  exact k
theorem sl_new (o : List Nat) (c : Nat → Nat) (w : World) (h : ∀ j, j < o.length → o[j]? = some (c j)) : Sl (some ⟨w.heap.size, 0, none⟩) o.length c (w.alloc (.cells (o.map fun x => Value.int .i64 (x : Nat)).toArray 3)) := fun j hj => ⟨w.heap.size, 0, rfl, by
  rw [cell_of_row _ _ _ _ _ (0, 0) (two_new _), Nat.zero_add, List.getElem?_toArray, List.getElem?_map, h j hj]; rfl⟩
theorem pa_one {D : FD} (F : Fld D) (w : World) : PA D (some ⟨w.heap.size, 0, none⟩) 1 1 pone (w.alloc (.cells #[.int .i64 1] 3)) := by
  have h := sl_new [1] pone w (fun j hj => by
    rcases j with _ | j
    · rfl
    · simp at hj)
  refine ⟨h, fun x hx => by cases hx; simp, fun e => (by cases e), el_one F, fun k hk => by unfold pone; rw [if_neg (by omega)], fun _ => by unfold pone; simp⟩

theorem product_const {F T : Nat} {D : FD} (hD : D ∈ fieldsL) {g : Nat → Value} {W : World} (h : FAt F T D g W) {zo : Option Addr} {n cz s : Nat} {z : Nat → Nat} (hn : n ≤ 999) (hz : PA D zo n cz z W) (hs : s < D.q) (k : Nat) :
    Calls Try.prog 79 #[.pointer (some ⟨F, 0, none⟩), .slice zo n cz, .slice (some ⟨W.heap.size, 0, none⟩) 1 1] ((W.drewN k).alloc (.cells #[.int .i64 (s : Nat)] 3)) fun e w' =>
      ∃ v, e = .returned v ∧ OwnP W.heap.size v (dgn (pscale D s z) (n + 1)) (pscale D s z) w' ∧ Below W.heap.size W w' := by
  have hF := fld hD
  have hbl : Below W.heap.size W ((W.drewN k).alloc (.cells #[.int .i64 (s : Nat)] 3)) := (below_drewN2 (Below.refl _ _) k).alloc (Nat.le_refl _) _
  have hone := sl_new [s] (fun k => if k = 0 then s else 0) (W.drewN k) (fun j hj => by
    rcases j with _ | j
    · rfl
    · simp at hj)
  have hp := hz.below hbl
  have hq := product_any hD (h.below hbl h.ltF h.ltT) (ca := cz) (cb := 1) (show n ≤ 1000 by omega) (show 1 ≤ 1000 by omega) hz.el (fun k => by show (if k = 0 then s else 0) < D.q; split; exact hs; exact zero_lt' hF)
    (fun k hk => by show (if k = 0 then s else 0) = 0; rw [if_neg (by omega)]) hp.sl hone hp.lt (fun y hy => by cases hy; simp)
  rw [pmul_const hF hz.el hz.trd.1 hs] at hq
  refine hq.mono ?_
  rintro e w' ⟨rfl, hrow, hb'⟩
  exact ⟨_, rfl, OwnP.of_row hrow (dgn_le _ _) (dgn_le _ _) (by omega) (by simp), bel_up hbl hb'⟩
theorem product_lin {F T : Nat} {D : FD} (hD : D ∈ fieldsL) {g : Nat → Value} {W : World} (h : FAt F T D g W) {zo : Option Addr} {n cz s : Nat} {z : Nat → Nat} (hn : n ≤ 900) (hz : PA D zo (n + 1) cz z W) (hs : s < D.q) (ht : Trd (n + 2) (pmul D (n + 1) z (lin s))) (k : Nat) :
    Calls Try.prog 79 #[.pointer (some ⟨F, 0, none⟩), .slice zo (n + 1) cz, .slice (some ⟨W.heap.size, 0, none⟩) 2 2] ((W.drewN k).alloc (.cells #[.int .i64 (s : Nat), .int .i64 1] 3)) fun e w' =>
      ∃ v, e = .returned v ∧ OwnP W.heap.size v (n + 2) (pmul D (n + 1) z (lin s)) w' ∧ Below W.heap.size W w' := by
  have hF := fld hD
  have hbl : Below W.heap.size W ((W.drewN k).alloc (.cells #[.int .i64 (s : Nat), .int .i64 1] 3)) := (below_drewN2 (Below.refl _ _) k).alloc (Nat.le_refl _) _
  have hone := sl_new [s, 1] (lin s) (W.drewN k) (fun j hj => by
    rcases j with _ | _ | j
    · rfl
    · rfl
    · simp at hj; omega)
  have hp := hz.below hbl
  have hq := product_any hD (h.below hbl h.ltF h.ltT) (ca := cz) (cb := 2) (show n + 1 ≤ 1000 by omega) (show 2 ≤ 1000 by omega) hz.el (lin_el hF hs) (lin_bd s) hp.sl hone hp.lt (fun y hy => by cases hy; simp)
  rw [ht.dgn (show n + 2 ≤ n + 1 + 2 by omega)] at hq
  refine hq.mono ?_
  rintro e w' ⟨rfl, hrow, hb'⟩
  exact ⟨_, rfl, OwnP.of_row hrow (by omega) (by omega) (by omega) (by simp), bel_up hbl hb'⟩

set_option maxHeartbeats 4000000 in
set_option maxRecDepth 100000 in
theorem through_any {F T : Nat} {D : FD} (hD : D ∈ fieldsL) {g : Nat → Value} {w : World} (h : FAt F T D g w) {xo yo : Option Addr} {n cx cy : Nat} {xs ys : Nat → Nat} (hn : n ≤ 128) (hX : Sl xo n xs w) (hY : Sl yo n ys w) (hlx : LtB xo w.heap.size) (hly : LtB yo w.heap.size)
    (hxq : ∀ j, j < n → xs j < D.q) (hyq : ∀ j, j < n → ys j < D.q) (ht : ¬ Twice xs n) :
    Calls Try.prog 87 #[.pointer (some ⟨F, 0, none⟩), .slice xo n cx, .slice yo n cy] w fun e w' =>
      ∃ v lo co, e = .returned v ∧ OwnP w.heap.size v lo co w' ∧ lo ≤ n ∧ El D co ∧ Trd lo co ∧ (∀ j, j < n → D.vl co (xs j) = ys j) ∧ Below w.heap.size w w' := by
  have HF : Hid (FAt F T D g w ∧ D ∈ fieldsL ∧ Sl xo n xs w ∧ Sl yo n ys w) := ⟨h, hD, hX, hY⟩
  have HL : Hid (LtB xo w.heap.size ∧ LtB yo w.heap.size ∧ (∀ j, j < n → xs j < D.q) ∧ (∀ j, j < n → ys j < D.q) ∧ ¬ Twice xs n) := ⟨hlx, hly, hxq, hyq, ht⟩
  clear h hD hX hY hlx hly hxq hyq ht
  go_enter Try.func87, Try.ntmps87
  go_wp2
  go_loopw [7, 8, 16] (fun va vz i wr => ∃ (r lo ca cz : Nat) (ao zo : Option Addr) (co z : Nat → Nat), r ≤ n ∧ i = .int .i64 r ∧ va = .slice ao lo ca ∧ vz = .slice zo (r + 1) cz ∧ Hid (Thr D xs ys r lo co z) ∧ PA D ao lo ca co wr ∧ PA D zo (r + 1) cz z wr ∧ OwnP w.heap.size va lo co wr ∧ Below w.heap.size w wr) (fun _ _ i _ => n - (intOf i).toNat)
  case atStart =>
    have hF := fld HF.out.2.1
    refine ⟨0, 0, 0, 1, none, _, pnil, pone, by omega, rfl, rfl, rfl, thr_zero hF xs ys, ⟨fun j hj => by omega, fun x hx => (by cases hx), fun _ => rfl, el_nil hF, fun _ _ => rfl, fun e => absurd rfl e⟩, pa_one hF w, ⟨none, 0, rfl, Nat.le_refl _, by omega, fun x hx => (by cases hx), fun x hx => (by cases hx), fun _ => rfl, fun h0 => absurd h0 (by omega)⟩, (Below.refl _ _).alloc (Nat.le_refl _) _⟩
  case round =>
    obtain ⟨r, lo, ca, cz, ao, zo, co, z, hr, rfl, rfl, rfl, HT, hpa, hpz, hown, hbel⟩ := hrel
    have HG : Hid (PA D ao lo ca co wr ∧ PA D zo (r + 1) cz z wr ∧ OwnP w.heap.size (.slice ao lo ca) lo co wr ∧ Below w.heap.size w wr ∧ FAt F T D g wr) := ⟨hpa, hpz, hown, hbel, HF.out.1.below hbel HF.out.1.ltF HF.out.1.ltT⟩
    clear hpa hpz hown hbel
    by_cases hlt : r < n
    · obtain ⟨bx, offx, rfl, hcx⟩ := (HF.out.2.2.1.below HG.out.2.2.2.1 HL.out.1) r hlt
      obtain ⟨by', offy, rfl, hcy⟩ := (HF.out.2.2.2.below HG.out.2.2.2.1 HL.out.2.1) r hlt
      obtain ⟨x, hx⟩ : ∃ x, x = xs r := ⟨_, rfl⟩
      obtain ⟨y, hy⟩ : ∃ y, y = ys r := ⟨_, rfl⟩
      obtain ⟨vo, hvo⟩ : ∃ v, v = D.vl co x := ⟨_, rfl⟩
      obtain ⟨vz, hvz⟩ : ∃ v, v = D.vl z x := ⟨_, rfl⟩
      obtain ⟨ms, hms⟩ : ∃ v, v = D.sb y vo := ⟨_, rfl⟩
      obtain ⟨s, hs⟩ : ∃ v, v = D.mul ms (D.iv vz) := ⟨_, rfl⟩
      have hF := fld HF.out.2.1
      have hxq : x < D.q := by rw [hx]; exact HL.out.2.2.1 r hlt
      have hyq : y < D.q := by rw [hy]; exact HL.out.2.2.2.1 r hlt
      have hne : ∀ j, j < r → xs r ≠ xs j := fun j hj e => HL.out.2.2.2.2 ⟨j, r, hj, hlt, e.symm⟩
      have hvol : vo < D.q := by rw [hvo]; exact vl_lt hF _ _
      have hvzl : vz < D.q := by rw [hvz]; exact vl_lt hF _ _
      have hvz0 : vz ≠ 0 := by rw [hvz, hx]; exact HT.out.none _ (HL.out.2.2.1 r hlt) hne
      have hmsl : ms < D.q := by rw [hms]; exact sb_lt hF hyq hvol
      have hsl : s < D.q := by rw [hs]; exact hF.mul_lt _ _
      have HC1 : Hid (∀ k, Calls Try.prog 98 #[.pointer (some ⟨F, 0, none⟩), .slice ao lo ca, .int .i64 x] (wr.drewN k) fun e w' => e = .returned (.int .i64 (vo : Nat)) ∧ ∃ m, w' = (wr.drewN k).drewN m) := by
        intro k
        have h := value_any HF.out.2.1 (HG.out.2.2.2.2.drewN k) (cap := ca) hxq (show lo ≤ 1000 by have := HT.out.le; omega) HG.out.1.el (HG.out.1.drewN k).sl
        rw [vl_val hF HG.out.1.el HG.out.1.trd.1 hxq (by have := HT.out.le; omega), ← hvo] at h; exact h
      have HC2 : Hid (∀ k, Calls Try.prog 22 #[.pointer (some ⟨F, 0, none⟩), .int .i64 (y : Nat), .int .i64 (vo : Nat)] (wr.drewN k) fun e w' => e = .returned (.int .i64 (ms : Nat)) ∧ ∃ m, w' = (wr.drewN k).drewN m) := by
        intro k; rw [hms]; exact sub_nat HF.out.2.1 (HG.out.2.2.2.2.drewN k) hyq hvol
      have HC3 : Hid (∀ k, Calls Try.prog 98 #[.pointer (some ⟨F, 0, none⟩), .slice zo (r + 1) cz, .int .i64 x] (wr.drewN k) fun e w' => e = .returned (.int .i64 (vz : Nat)) ∧ ∃ m, w' = (wr.drewN k).drewN m) := by
        intro k
        have h := value_any HF.out.2.1 (HG.out.2.2.2.2.drewN k) (cap := cz) hxq (show r + 1 ≤ 1000 by omega) HG.out.2.1.el (HG.out.2.1.drewN k).sl
        rw [vl_val hF HG.out.2.1.el HG.out.2.1.trd.1 hxq (by omega), ← hvz] at h; exact h
      have HC4 : Hid (∀ k, Calls Try.prog 66 #[.pointer (some ⟨F, 0, none⟩), .int .i64 (vz : Nat)] (wr.drewN k) fun e w' => e = .returned (.int .i64 (D.iv vz : Nat)) ∧ ∃ m, w' = (wr.drewN k).drewN m) := fun k => inv_nat' HF.out.2.1 (HG.out.2.2.2.2.drewN k) hvzl hvz0
      have HC5 : Hid (∀ k, Calls Try.prog 20 #[.pointer (some ⟨F, 0, none⟩), .int .i64 (ms : Nat), .int .i64 (D.iv vz : Nat)] (wr.drewN k) fun e w' => e = .returned (.int .i64 (s : Nat)) ∧ ∃ m, w' = (wr.drewN k).drewN m) := by
        intro k; rw [hs]; exact mul_nat HF.out.2.1 (HG.out.2.2.2.2.drewN k) hmsl (iv_lt HF.out.2.1 _)
      have HS : Hid (x < D.q ∧ s < D.q ∧ (∀ j, j < r → xs r ≠ xs j) ∧ x = xs r ∧ y = ys r ∧ s = D.mul (D.sb (ys r) (D.vl co (xs r))) (D.iv (D.vl z (xs r)))) := ⟨hxq, hsl, hne, hx, hy, by rw [hs, hms, hvo, hvz, hx, hy]⟩
      rw [← hx] at hcx
      rw [← hy] at hcy
      clear hx hy hvo hvz hms hs hxq hyq hne hvol hvzl hvz0 hmsl hsl hF
      go_wp2
      go_quiet (first | (go_at_call 98; exact Calls.quiet_of (HC1.out _)) | (go_at_call 22; exact Calls.quiet_of (HC2.out _)))
      go_wp2_with (first
        | (go_at_call 98; refine (HC3.out _).mono ?_; rintro e w' ⟨rfl, k1, rfl⟩)
        | (go_at_call 66; refine (HC4.out _).mono ?_; rintro e w' ⟨rfl, k2, rfl⟩)
        | (go_at_call 20; refine (HC5.out _).mono ?_; rintro e w' ⟨rfl, k3, rfl⟩))
      refine (product_const HF.out.2.1 HG.out.2.2.2.2 (by omega) HG.out.2.1 HS.out.2.1 _).mono ?_
      rintro e w2 ⟨v2, rfl, hown2, hb2⟩
      obtain ⟨po, pc, rfl, hp1, hp2, hp3, hp4, hp5, hp6⟩ := hown2.open
      have HP : Hid (Sl po (dgn (pscale D s z) (r + 1 + 1)) (pscale D s z) w2 ∧ LtB po w2.heap.size ∧ Below wr.heap.size wr w2) := ⟨hp6, hp4, hb2⟩
      clear hown2 hp1 hp2 hp3 hp4 hp5 hp6 hb2
      obtain ⟨m, hm⟩ : ∃ m, m = dgn (pscale D s z) (r + 1 + 1) := ⟨_, rfl⟩
      have hbz : Bd (r + 1) (pscale D s z) := fun k hk => by unfold pscale; rw [HG.out.2.1.trd.1 k hk]; exact mul0 (fld HF.out.2.1) s
      have hmr : m ≤ r + 1 := by rw [hm, dgn_from hbz (by omega)]; exact dgn_le _ _
      have HM : Hid (m = dgn (pscale D s z) (r + 1 + 1) ∧ Bd m (pscale D s z)) := ⟨hm, by rw [hm]; exact dgn_bd (hbz.mono (by omega))⟩
      rw [← hm]
      clear hm hbz
      have HQ : Hid (∀ k, Calls Try.prog 80 #[.pointer (some ⟨F, 0, none⟩), .slice ao lo ca, .slice po m pc] (w2.drewN k) fun e w' => ∃ v, e = .returned v ∧ OwnP w2.heap.size v (dgn (padd D co (pscale D s z)) (max lo m)) (padd D co (pscale D s z)) w' ∧ Below w2.heap.size w2 w') := by
        intro k
        have hF := fld HF.out.2.1
        have hat := HG.out.2.2.2.2.below HP.out.2.2 HG.out.2.2.2.2.ltF HG.out.2.2.2.2.ltT
        have ha2 := HG.out.1.below HP.out.2.2
        have hle := HT.out.le
        refine (psum_any HF.out.2.1 (hat.drewN k) (show lo ≤ 1000 by omega) (show m ≤ 1000 by omega) HG.out.1.el (el_scale hF s z) HG.out.1.trd.1 HM.out.2 (ha2.drewN k).sl (by rw [HM.out.1]; exact HP.out.1.drewN k) ha2.lt HP.out.2.1).mono ?_
        rintro e w' ⟨v, rfl, ho, hb⟩
        exact ⟨v, rfl, ho, (below_drewN2 (Below.refl _ _) k).trans hb⟩
      go_wp2_with fail
      refine (HQ.out 0).mono ?_
      rintro e w3 ⟨v3, rfl, hown3, hb3⟩
      have HT2 : Hid (Thr D xs ys (r + 1) (dgn (padd D co (pscale D s z)) (max lo m)) (padd D co (pscale D s z)) (pmul D (r + 1) z (lin (D.ng x)))) := by
        show Thr _ _ _ _ _ _ _
        rw [HS.out.2.2.2.1]
        refine thr_step HF.out.2.1 HT.out (HL.out.2.2.1 r hlt) (HL.out.2.2.2.1 r hlt) HS.out.2.2.1 (fun j hj => HL.out.2.2.1 j (by omega)) (by omega) HS.out.2.2.2.2.2 (by omega) ?_ ?_
        · have := HM.out.1; omega
        · have := HT.out.le; omega
      obtain ⟨ao3, ca3, rfl, hpa3⟩ := hown3.pa (D := D) HT2.out.elo HT2.out.tro
      have hs2 := HP.out.2.2.size
      have hs1 := HG.out.2.2.2.1.size
      have HW3 : Hid (OwnP w.heap.size (.slice ao3 (dgn (padd D co (pscale D s z)) (max lo m)) ca3) (dgn (padd D co (pscale D s z)) (max lo m)) (padd D co (pscale D s z)) w3 ∧ PA D ao3 (dgn (padd D co (pscale D s z)) (max lo m)) ca3 (padd D co (pscale D s z)) w3 ∧ Below wr.heap.size wr w3) := ⟨hown3.mono (by omega), hpa3, bel_up HP.out.2.2 hb3⟩
      clear hown3 hpa3 hb3 HQ
      have HN : Hid (∀ k, Calls Try.prog 41 #[.pointer (some ⟨F, 0, none⟩), .int .i64 (x : Nat)] (w3.drewN k) fun e w' => e = .returned (.int .i64 (D.ng x : Nat)) ∧ ∃ m, w' = (w3.drewN k).drewN m) := fun k =>
        neg_nat HF.out.2.1 ((HG.out.2.2.2.2.below HW3.out.2.2 HG.out.2.2.2.2.ltF HG.out.2.2.2.2.ltT).drewN k) HS.out.1
      go_wp2_with (go_at_call 41; refine (HN.out 0).mono ?_; rintro e w' ⟨rfl, k4, rfl⟩)
      refine (product_lin HF.out.2.1 (HG.out.2.2.2.2.below HW3.out.2.2 HG.out.2.2.2.2.ltF HG.out.2.2.2.2.ltT) (by omega) (HG.out.2.1.below HW3.out.2.2) (ng_lt (fld HF.out.2.1) HS.out.1) HT2.out.trz _).mono ?_
      rintro e w4 ⟨v4, rfl, hown4, hb4⟩
      obtain ⟨zo4, cz4, rfl, hpa4⟩ := hown4.pa (D := D) HT2.out.elz HT2.out.trz
      have HW4 : Hid (PA D zo4 (r + 2) cz4 (pmul D (r + 1) z (lin (D.ng x))) w4 ∧ Below w3.heap.size w3 w4) := ⟨hpa4, hb4⟩
      clear hown4 hpa4 hb4 HN
      go_wp2
      go_roundw
      case rel => exact ⟨r + 1, _, ca3, cz4, ao3, zo4, _, _, by omega, by go_num, rfl, rfl, HT2.out, HW3.out.2.1.below HW4.out.2, HW4.out.1, HW3.out.1.below HW4.out.2 (Nat.le_refl _), bel_up (bel_up HG.out.2.2.2.1 HW3.out.2.2) HW4.out.2⟩
      case measure => simp [intOf]; omega
    · have e : r = n := by omega
      have HE : Hid (r = n) := e
      clear e
      go_wp2
      go_ret
      exact ⟨_, lo, co, rfl, HG.out.2.2.1, by have := HT.out.le; omega, HT.out.elo, HT.out.tro, fun j hj => HT.out.at' j (by rw [HE.out]; exact hj), HG.out.2.2.2.1⟩
end Go.Proofs.Ytcgmllamiaflcaa

/- The next polynomial that ends with 1 (after). -/
namespace Go.Proofs.Ytcgmllamiaflcaa
open Go.RowKit

/-- Polynomial c of degree d, while it is counted up: all places from s on were nines. -/
def cnt (c : Nat → Nat) (d s : Nat) : Nat → Nat := fun k => if s ≤ k ∧ k < d then 0 else c k
end Go.Proofs.Ytcgmllamiaflcaa

/- Lists of lists of numbers that a call makes for itself: one list more. -/
namespace Go.Proofs.Ytcgmllamiaflcaa
open Go.RowKit

theorem Try.infoSl : (Try.prog.info? 22).map (fun i => (i.zero, i.size, i.bytes)) = some (some (.slice none 0 0), 1, 24) := by kernel_rfl

/-- The slice v of slices, made behind block number base, holds the slices l. -/
def OwnV (base : Nat) (v : Value) (l : List Value) (w : World) : Prop := w.ownsRow base 22 1 v l.length l
theorem OwnV.nil (base : Nat) (w : World) : OwnV base (.slice none 0 0) [] w := World.ownsRow_nil _ _ _ _
theorem OwnV.below {base B : Nat} {v : Value} {l : List Value} {w w' : World} (h : OwnV base v l w) (hb : Below B w w') (hB : w.heap.size ≤ B) : OwnV base v l w' := by
  obtain ⟨h1, h2⟩ := h
  refine ⟨h1, ?_⟩
  rcases h2 with h2 | ⟨g, cap, cur, hv, hg, hh, r⟩
  · exact Or.inl h2
  · exact Or.inr ⟨g, cap, cur, hv, hg, by rw [hb.block g (Nat.lt_of_lt_of_le (lt_of_block hh) hB)]; exact hh, r⟩
theorem OwnV.mono {base base' : Nat} {v : Value} {l : List Value} {w : World} (h : OwnV base v l w) (hb : base' ≤ base) : OwnV base' v l w := by
  obtain ⟨h1, h2⟩ := h
  refine ⟨h1, ?_⟩
  rcases h2 with h2 | ⟨g, cap, cur, hv, hg, r⟩
  · exact Or.inl h2
  · exact Or.inr ⟨g, cap, cur, hv, by omega, r⟩
/-- Opened: where it lies. -/
theorem OwnV.open {base : Nat} {v : Value} {l : List Value} {w : World} (h : OwnV base v l w) : ∃ ao cap, v = .slice ao l.length cap ∧ (ao = none → cap = 0) ∧ LtB ao w.heap.size ∧ GeB ao base ∧
    ∀ (j : Nat) (u : Value), l[j]? = some u → ∃ g, ao = some ⟨g, 0, none⟩ ∧ w.cell? ⟨g, j, none⟩ = some u ∧ w.frozen? ⟨g, j, none⟩ = false := by
  rcases h.2 with ⟨h1, h2⟩ | ⟨g, cap, cur, hv, hg, hh, hle, hcm, hsz, htake⟩
  · refine ⟨none, 0, by rw [h1, h2], fun _ => rfl, fun x hx => (by cases hx), fun x hx => (by cases hx), fun j u hj => ?_⟩
    rw [List.length_eq_zero_iff.1 h2] at hj
    simp at hj
  · refine ⟨_, cap, hv, fun e => (by cases e), fun x hx => (by cases hx; exact lt_of_block hh), fun x hx => (by cases hx; exact hg), fun j u hj => ⟨g, rfl, ?_, frozen_of_row w g j cur 22 hh⟩⟩
    have hj' := (List.getElem?_eq_some_iff.1 hj).1
    rw [cell_of_row w g j cur 22 (0, 0) hh, ← Array.getElem?_toList]
    have h3 : (cur.toList.take (l.length * 1))[j]? = l[j]? := by rw [htake]
    rw [List.getElem?_take, if_pos (by omega)] at h3
    rw [h3]; exact hj

/-- A row of numbers is no row of slices. -/
theorem Row.apart {base g N : Nat} {c : Nat → Nat} {v : Value} {l : List Value} {w : World} (h : Row g N c w) (ho : OwnV base v l w) : some g ≠ v.ownBlock := by
  obtain ⟨cap, f, ⟨cs, h1, _⟩, _⟩ := h
  rcases ho.2 with ⟨h2, _⟩ | ⟨g', cap', cur, hv, _, hh, _⟩
  · rw [h2]; intro e; cases e
  · rw [hv]
    intro e
    have e : some g = some g' := e
    cases e
    rw [h1] at hh
    simp at hh
end Go.Proofs.Ytcgmllamiaflcaa

/- The program's parts of a polynomial: what is kept, a division. -/
namespace Go.Proofs.Ytcgmllamiaflcaa
open Go.RowKit

end Go.Proofs.Ytcgmllamiaflcaa

/- The program's parts of a polynomial: the walk (parts). -/
namespace Go.Proofs.Ytcgmllamiaflcaa
open Go.RowKit

end Go.Proofs.Ytcgmllamiaflcaa
