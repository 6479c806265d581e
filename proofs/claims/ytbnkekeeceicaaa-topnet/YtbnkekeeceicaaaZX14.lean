/- Texts of ours, one behind the other: X14 X15 X16 S4 T9 X17 X18 S5 T10. -/
import Derived.Test.YtbnkekeeceicaaaZX11
import Derived.BigRegion
import Derived.Test.YtbnkekeeceicaaaZL10
import Derived.Test.YtbnkekeeceicaaaZL1
import Derived.Test.YtbnkekeeceicaaaZW9
import Derived.Test.YtbnkekeeceicaaaZR5
/- The program's matrices: rows brought to their one form (reduce). -/
namespace Go.Proofs.Ytbnkekeeceicaaa
open Go.RowKit

structure RSt (D : FD) (B G mc m n : Nat) (R : Nat → Nat → Nat) (w : World) (c k : Nat) (R' : Nat → Nat → Nat) (p h' : Nat → Nat) (pv : Value) (wr : World) : Prop where
  rdg : Rdg D m n c k R' p
  mx : Mx B G mc m n R' h' wr
  lt : ∀ i, i < m → h' i < w.heap.size
  own : OwnI w.heap.size pv (zl k fun j => ((p j : Nat) : Int)) wr
  spn : ∀ v, Spn D (RowsOf m R') v ↔ Spn D (RowsOf m R) v
  bel : Below B w wr

theorem indexNone_any {gf : Nat} {lb : Array Value} (eg : ∀ args w, (callFunc gf args).run Try.prog w = .ok (.enter gf args) w) {G off cap : Nat} {w : World} :
    Calls Try.prog 74 #[.slice (some ⟨G, off, none⟩) 0 cap, .func (.func gf) #[] lb] w fun e w' => w' = w ∧ e = .returned (.int .i64 (-1)) := by
  refine (indexSls_any (h := fun _ => 0) (l := 0) (cl := 0) (p := fun _ => false) eg (fun j hj => absurd hj (by omega)) (by omega) (fun j hj => absurd hj (by omega))).mono ?_
  rintro e w' ⟨hw, ⟨i, hi, _⟩ | ⟨_, rfl⟩⟩
  · omega
  · exact ⟨hw, rfl⟩
theorem RSt.skip {D : FD} {B G mc m n : Nat} {R : Nat → Nat → Nat} {w : World} {c k : Nat} {R' : Nat → Nat → Nat} {p h' : Nat → Nat} {pv : Value} {wr : World} (H : RSt D B G mc m n R w c k R' p h' pv wr) (hB : B ≤ w.heap.size) (h0 : ∀ i, k ≤ i → i < m → R' i c = 0) (o : Obj) : RSt D B G mc m n R w (c + 1) k R' p h' pv (wr.alloc o) :=
  ⟨rdg_skip H.rdg h0, H.mx.below ((Below.refl _ _).alloc (Nat.le_refl _) _), H.lt, H.own.alloc o, H.spn, H.bel.alloc (Nat.le_trans hB H.bel.size) _⟩

set_option maxHeartbeats 8000000 in
set_option maxRecDepth 100000 in
theorem reduce_any {F T B G mc m n cols : Nat} {D : FD} (hD : D ∈ fieldsL) {g : Nat → Value} {w : World} (hat : FAt F T D g w) (hF : F < B) (hT : T < B) {R : Nat → Nat → Nat} {h : Nat → Nat} (hM : Mx B G mc m n R h w) (hm : m ≤ 1000) (hn : n ≤ 1000) (hE : ∀ i, i < m → El D (R i)) (hB : ∀ i, i < m → Bd n (R i)) (hcols : cols ≤ n) :
    Calls Try.prog 64 #[.pointer (some ⟨F, 0, none⟩), .slice (some ⟨G, 0, none⟩) m mc, .int .i64 cols] w fun e w' => ∃ k R' p h' pv, e = .returned pv ∧ RSt D B G mc m n R w cols k R' p h' pv w' := by
  have HF : Hid (FAt F T D g w ∧ D ∈ fieldsL ∧ F < B ∧ T < B ∧ Mx B G mc m n R h w ∧ (∀ i, i < m → El D (R i)) ∧ ∀ i, i < m → Bd n (R i)) := ⟨hat, hD, hF, hT, hM, hE, hB⟩
  have hGw : G < w.heap.size := hM.ltG
  clear hat hD hF hT hM hE hB
  go_enter Try.func64, Try.ntmps64
  go_wp2
  go_loopw [7, 12] (fun pv i wr => ∃ (c k : Nat) (R' : Nat → Nat → Nat) (p h' : Nat → Nat), c ≤ cols ∧ i = .int .i64 c ∧ Hid (RSt D B G mc m n R w c k R' p h' pv wr)) (fun _ i _ => cols - (intOf i).toNat)
  case atStart => exact ⟨0, 0, R, fun _ => 0, h, by omega, rfl, ⟨rdg_start HF.out.2.2.2.2.2.1 HF.out.2.2.2.2.2.2 _, HF.out.2.2.2.2.1, fun i hi => HF.out.2.2.2.2.1.lt i hi, OwnI.nil _ _, fun v => Iff.rfl, Below.refl _ _⟩⟩
  case round =>
    obtain ⟨c, k, R', p, h', hc, rfl, HG⟩ := hrel
    rename World => wA
    by_cases hlt : c < cols
    · have hib : (c : Int) < (cols : Int) := by omega
      have hkm : k ≤ m := HG.out.rdg.le
      have hki : (k : Int) ≤ (m : Int) := by omega
      obtain ⟨po, pc, rfl, _⟩ := HG.out.own.argL
      have hBw : B ≤ w.heap.size := by have := HF.out.2.2.2.2.1.geG; omega
      by_cases hkm2 : k = m
      · subst hkm2
        have HS := HG.out.skip hBw (fun i h1 h2 => absurd h1 (by omega))
        have HS' : Hid (∀ o, RSt D B G mc k n R w (c + 1) k R' p h' (.slice po k pc) (wA.alloc o)) := HS
        have hkc : k ≤ mc := HG.out.mx.le
        clear HS
        by_cases hmk : mc = k
        · subst hmk
          go_wp2_with (go_at_call 74; refine (indexNone_any enters_nz).mono ?_; rintro e w2 ⟨hw, rfl⟩; have hw := hw.symm; subst hw)
          go_roundw
          case rel => exact ⟨c + 1, mc, R', p, h', by omega, by go_num, HS'.out _⟩
          case measure => simp [intOf]; omega
        · have hkc2 : (k : Int) < (mc : Int) := by omega
          have hkc3 : ¬ mc = k := hmk
          have hkc4 : (k : Int) ≤ (mc : Int) := by omega
          go_wp2_with (go_at_call 74; refine (indexNone_any enters_nz).mono ?_; rintro e w2 ⟨hw, rfl⟩; have hw := hw.symm; subst hw)
          go_roundw
          case rel => exact ⟨c + 1, k, R', p, h', by omega, by go_num, HS'.out _⟩
          case measure => simp [intOf]; omega
      · have hkl : k < m := by omega
        have hmc : m ≤ mc := HG.out.mx.le
        have hkc2 : (k : Int) < (mc : Int) := by omega
        have hkc3 : ¬ mc = k := by omega
        have hmi : (m : Int) ≤ (mc : Int) := by omega
        clear hkm2 hmc
        go_wp2_with fail
        refine (indexNz_any (HG.out.mx.below ((Below.refl _ _).alloc (Nat.le_refl _) _)) (col := c) (by simp) (by omega) hkm hm).mono ?_
        rintro e w2 ⟨hw, ⟨i, hi, hne, rfl⟩ | ⟨h0, rfl⟩⟩
        · have hsz := HG.out.bel.size
          have H2 : Hid (RSt D B G mc m n R w c k R' p h' (.slice po k pc) w2 ∧ w2.cell? ⟨wA.heap.size, 0, none⟩ = some (.int .i64 c) ∧ w2.heap.size = wA.heap.size + 1) := by
            have hbl : Below wA.heap.size wA (wA.alloc (.cells #[.int .i64 c] 3)) := (Below.refl _ _).alloc (Nat.le_refl _) _
            rw [hw]
            exact ⟨⟨HG.out.rdg, HG.out.mx.below hbl, HG.out.lt, HG.out.own.alloc _, HG.out.spn, bel_up' HG.out.bel hbl hBw⟩, by simp, by simp⟩
          clear hw
          have HN : Hid (R' (k + i) c ≠ 0) := hne
          clear hne
          have hcK := H2.out.1.mx.cell k hkl
          have hcI := H2.out.1.mx.cell (k + i) hi
          obtain ⟨f, hf, _⟩ := H2.out.1.mx.outer
          have hfK := hf.free k
          have hfI := hf.free (k + i)
          have hst := hf.store k (.slice (some ⟨h' (k + i), 0, none⟩) n n)
          obtain ⟨u, hu⟩ : ∃ u, (w2.setCell ⟨G, k, none⟩ (.slice (some ⟨h' (k + i), 0, none⟩) n n)).drew.cell? ⟨G, k + i, none⟩ = some u := ⟨_, hst.drew.cell (k + i) (Nat.lt_of_lt_of_le hi H2.out.1.mx.le)⟩
          have hu2 := hst.drew.free (k + i)
          clear hf hst
          obtain ⟨b, hb⟩ : ∃ b, b = k + i := ⟨_, rfl⟩
          have hwb : IntKind.i64.wrap ((k : Int) + (i : Int)) = (b : Int) := wrap_to (by omega) (by omega)
          have hbm : (b : Int) < (m : Int) := by omega
          have hkmi : (k : Int) < (m : Int) := by omega
          rw [← hb] at hcI hfI HN hu hu2
          have HBk : Hid (b = k + i) := hb
          clear hb
          go_wp2
          go_region
          generalize hW : ((w2.setCell ⟨G, k, none⟩ (.slice (some ⟨h' b, 0, none⟩) n n)).setCell ⟨G, b, none⟩ (.slice (some ⟨h' k, 0, none⟩) n n)).drew = w3
          clear hu hu2 hcK hcI hfK hfI
          have hbm' : b < m := by omega
          have hlt3 : ∀ i, i < m → swpR h' k b i < w.heap.size := fun i hi => by rw [swpR_is]; exact H2.out.1.lt _ (swpI_lt hkl hbm' hi)
          have H3 : Hid (Mx B G mc m n (swpR R' k b) (swpR h' k b) w3 ∧ w3.cell? ⟨wA.heap.size, 0, none⟩ = some (.int .i64 c) ∧ OwnI w.heap.size (.slice po k pc) (zl k fun j => ((p j : Nat) : Int)) w3 ∧ Below B w w3 ∧ w3.heap.size = wA.heap.size + 1 ∧ Rdg D m n c k (swpR R' k b) p ∧ swpR R' k b k c ≠ 0) := by
            have hblk : ∀ q, q ≠ G → w3.heap[q]? = w2.heap[q]? := fun q hq => by
              rw [← hW]
              exact (Below.heap_setCell _ _ _ _ hq).trans (Below.heap_setCell _ _ _ _ hq)
            refine ⟨?_, ?_, H2.out.1.own.same (fun q hq => hblk q (by have := (H2.out.1.own.lt q hq).1; omega)), ?_, ?_, rdg_swap H2.out.1.rdg (by have := HBk.out; omega) hbm', ?_⟩
            · have h1 := H2.out.1.mx.swap hkl hbm'
              rw [← hW]
              exact h1.keep rfl (fun i hi => rfl)
            · have h1 := hblk wA.heap.size (by omega)
              have h2 := H2.out.2.1
              simp only [World.cell?, h1] at h2 ⊢
              exact h2
            · rw [← hW]
              have hG := H2.out.1.mx.geG
              exact ((H2.out.1.bel.setCell (p := ⟨G, k, none⟩) hG _).setCell (p := ⟨G, b, none⟩) hG _).trans ⟨rfl, rfl, rfl, Nat.le_refl _, fun _ _ => rfl⟩
            · rw [← hW, ← H2.out.2.2]
              show ((w2.setCell _ _).setCell _ _).heap.size = _
              simp [World.setCell]
            · unfold swpR
              rw [if_pos rfl]; exact HN.out
          clear hW
          have hc8 := H3.out.2.1
          go_wp2_with fail
          refine (clearColumn_any HF.out.2.1 (HF.out.1.below H3.out.2.2.2.1 HF.out.2.2.1 HF.out.2.2.2.1) HF.out.2.2.1 HF.out.2.2.2.1 H3.out.1 hm hn H3.out.2.2.2.2.2.1.el hkl (by omega) H3.out.2.2.2.2.2.2).mono ?_
          rintro e w4 ⟨rfl, hmx4, htch⟩
          have H4 : Hid (Mx B G mc m n (clrR D (swpR R' k b) k c m) (swpR h' k b) w4 ∧ OwnI w.heap.size (.slice po k pc) (zl k fun j => ((p j : Nat) : Int)) w4 ∧ Below B w w4 ∧ w4.heap.size = wA.heap.size + 1) := by
            refine ⟨hmx4, H3.out.2.2.1.same (fun q hq => htch.block q (fun i hi => by have h1 := (H3.out.2.2.1.lt q hq).1; have h2 := hlt3 i hi; omega)), H3.out.2.2.2.1.trans (htch.below H3.out.1.ge), by rw [htch.size]; exact H3.out.2.2.2.2.1⟩
          have hc84 : w4.cell? ⟨wA.heap.size, 0, none⟩ = some (.int .i64 c) := by
            have h1 := htch.block wA.heap.size (fun i hi => by have := hlt3 i hi; omega)
            simp only [World.cell?, h1] at hc8 ⊢
            exact hc8
          clear hmx4 htch hc8
          go_wp2_with (at_builtin; refine append_int rfl _ _ rfl w.heap.size _ (zl k fun j => ((p j : Nat) : Int)) rfl (H4.out.2.1.alloc _) ⟨_, 0, none⟩ 1 c rfl (by simp) (by rw [zl_len]; omega) (by have := H4.out.2.2.2; simp; omega) ?_; intro v5 w5 hown5 hgrow5)
          go_roundw
          case rel =>
            have hal : Below w4.heap.size w4 (w4.alloc (.cells #[.int .i64 c] 3)) := (Below.refl _ _).alloc (Nat.le_refl _) _
            have hs4 := H4.out.2.2.2
            have hkeep : ∀ q, q < w.heap.size → w5.heap[q]? = w4.heap[q]? := fun q hq => by
              refine (hgrow5.block q (by simp; omega) (fun e => ?_)).trans (hal.block q (by omega))
              have := (H4.out.2.1.lt q e.symm).1
              omega
            refine ⟨c + 1, k + 1, clrR D (swpR R' k b) k c m, fun i => if i = k then c else p i, swpR h' k b, by omega, by go_num, ⟨rdg_clear HF.out.2.1 H3.out.2.2.2.2.2.1 hkl H3.out.2.2.2.2.2.2, H4.out.1.keep (hkeep G hGw) (fun i hi => hkeep _ (hlt3 i hi)), hlt3, ?_, fun v => ?_, ?_⟩⟩
            · rw [zl_succ, if_pos rfl, zl_congr (y := fun j => ((p j : Nat) : Int)) (fun j hj => by show (((if j = k then c else p j) : Nat) : Int) = _; rw [if_neg (by omega)])]
              exact hown5
            · rw [spn_clear HF.out.2.1 hkl H3.out.2.2.2.2.2.1.el H3.out.2.2.2.2.2.2 v, spn_swap (fld HF.out.2.1) hkl hbm' H2.out.1.rdg.el v]
              exact H2.out.1.spn v
            · exact (bel_up' H4.out.2.2.1 hal hBw).trans (below_grown hgrow5 (by simp; omega) (fun q hq => by have := (H4.out.2.1.lt q hq).1; omega))
          case measure => simp [intOf]; omega
        · have HS : Hid (RSt D B G mc m n R w (c + 1) k R' p h' (.slice po k pc) w2) := by rw [hw]; exact HG.out.skip hBw h0 _
          clear hw h0
          go_wp2
          go_roundw
          case rel => exact ⟨c + 1, k, R', p, h', by omega, by go_num, HS.out⟩
          case measure => simp [intOf]; omega
    · have e : c = cols := by omega
      subst e
      go_wp2
      go_ret
      exact ⟨k, R', p, h', _, rfl, HG.out⟩
end Go.Proofs.Ytbnkekeeceicaaa

/- The program's matrices: the one form of what rows span (Reduce). -/
namespace Go.Proofs.Ytbnkekeeceicaaa
open Go.RowKit

theorem Mx.mono {B B' G m k n : Nat} {R : Nat → Nat → Nat} {h : Nat → Nat} {w : World} (H : Mx B G m k n R h w) (hB : B' ≤ B) : Mx B' G m k n R h w :=
  ⟨H.outer, H.row, Nat.le_trans hB H.geG, fun i hi => Nat.le_trans hB (H.ge i hi), H.inj, H.ne, H.le⟩

set_option maxHeartbeats 8000000 in
set_option maxRecDepth 100000 in
theorem mreduce_any {D : FD} (hD : D ∈ fieldsL) {ao : Option Addr} {m ca : Nat} {A : Nat → Option Addr} {N C : Nat → Nat} {Z : Nat → Nat → Int} {w : World} (ha : MatZ ao m A N C Z w) (hm : m ≤ 1000000) :
    Calls Try.prog 60 #[.int .i64 D.q, .slice ao m ca] w fun e w' => Below w.heap.size w w' ∧
      ((D.mchk m N Z ≠ 0 ∧ e = .returned (.tuple #[.slice none 0 0, .slice none 0 0, .int .i64 (D.mchk m N Z)])) ∨
       (D.mchk m N Z = 0 ∧ ∃ G k R' p h' pv W, e = .returned (.tuple #[.slice (some ⟨G, 0, none⟩) k m, pv, .int .i64 0]) ∧ w.heap.size ≤ G ∧ (0 < m → W = N 0) ∧ k ≤ m ∧ Mx w.heap.size G m m W R' h' w' ∧ OwnI w.heap.size pv (zl k fun j => ((p j : Nat) : Int)) w' ∧ RRE D W k R' p ∧ ∀ v, Spn D (RowsOf k R') v ↔ Spn D (RowsOf m (mzc N Z)) v)) := by
  have HA : Hid (D ∈ fieldsL ∧ MatZ ao m A N C Z w) := ⟨hD, ha⟩
  clear hD ha
  go_enter Try.func60, Try.ntmps60
  go_wp2_with fail
  refine (mover1_any HA.out.1 HA.out.2 hm).mono ?_
  rintro e w1 ⟨hb1, hr⟩
  rcases hr with ⟨h0, F, T, f, rfl, hat, hF, hT⟩ | ⟨h0, rfl⟩
  · have HW : Hid (D.mchk m N Z = 0 ∧ FAt F T D f w1 ∧ Below w.heap.size w w1 ∧ MatZ ao m A N C Z w1) := ⟨h0, hat, hb1, HA.out.2.below hb1⟩
    clear h0 hat hF hT hb1
    obtain ⟨n, Wd, HN⟩ : ∃ n Wd, Hid (n ≤ 64 ∧ Wd ≤ n + 1 ∧ m ≤ 64 ∧ Wd = (if m = 0 then 0 else N 0) ∧ (0 < m → n + 1 = N 0) ∧ (∀ i, i < m → El D (mzc N Z i) ∧ Bd (n + 1) (mzc N Z i)) ∧ MatR ao m n (mzc N Z) w1) := by
      by_cases hm0 : m = 0
      · exact ⟨0, 0, ⟨by omega, by omega, by omega, by rw [if_pos hm0], fun h => by omega, fun i hi => by omega, fun i hi => by omega⟩⟩
      · obtain ⟨h1, n, h2, h3, h4, h5⟩ := mchk_rows (fld HA.out.1) HW.out.1 HW.out.2.2.2 (by omega)
        exact ⟨n, n + 1, ⟨by omega, by omega, h1, by rw [if_neg hm0, h2], fun _ => h2.symm, fun i hi => (h4 i hi).2, h5⟩⟩
    have hn64 := HN.out.1
    have hWd := HN.out.2.1
    have hm64 := HN.out.2.2.1
    go_wp2_with fail
    refine (wider_any (more := 0) HN.out.2.2.2.2.2.2 (fun i hi => (HN.out.2.2.2.2.2.1 i hi).2) (by omega) (by omega) (by omega)).mono ?_
    rintro e w2 ⟨rfl, ⟨h, hmx⟩, hb2⟩
    have H2 : Hid (Mx w1.heap.size w1.heap.size m m (n + 1) (mzc N Z) h w2 ∧ Below w1.heap.size w1 w2) := ⟨hmx, hb2⟩
    clear hmx hb2
    have HCw : Hid (Calls Try.prog 63 #[.slice ao m ca] w2 fun e w' => e = .returned (.int .i64 (Wd : Int)) ∧ w' = w2) := by
      show Calls _ _ _ _ _
      have h := width_any (ca := ca) (HW.out.2.2.2.below H2.out.2)
      rw [← HN.out.2.2.2.1] at h; exact h
    go_wp2_with (go_at_call 63; refine HCw.out.mono ?_; rintro e w' ⟨rfl, hw⟩; have hw := hw.symm; subst hw)
    refine (reduce_any HA.out.1 (HW.out.2.1.below H2.out.2 HW.out.2.1.ltF HW.out.2.1.ltT) HW.out.2.1.ltF HW.out.2.1.ltT H2.out.1 (by omega) (by omega) (fun i hi => (HN.out.2.2.2.2.2.1 i hi).1) (fun i hi => (HN.out.2.2.2.2.2.1 i hi).2) hWd).mono ?_
    rintro e w3 ⟨k, R', p, h', pv, rfl, hst⟩
    have H3 : Hid (RSt D w1.heap.size w1.heap.size m m (n + 1) (mzc N Z) w2 Wd k R' p h' pv w3) := hst
    clear hst
    obtain ⟨po, pc, rfl, _⟩ := H3.out.own.argL
    have hkm : k ≤ m := H3.out.rdg.le
    have hki : (k : Int) ≤ (m : Int) := by omega
    go_wp2
    all_goals
      go_ret3
      have hs1 := HW.out.2.2.1.size
      have hs2 := H2.out.2.size
      refine ⟨(HW.out.2.2.1.trans (H2.out.2.mono hs1)).trans (H3.out.bel.mono hs1), Or.inr ⟨HW.out.1, w1.heap.size, k, R', p, h', _, n + 1, rfl, hs1, HN.out.2.2.2.2.1, hkm, H3.out.mx.mono hs1, H3.out.own.mono (by omega), ?_⟩⟩
      by_cases hm0 : m = 0
      · have hk0 : k = 0 := by omega
        refine ⟨⟨fun i hi => by omega, fun i hi => by omega, fun i hi => by omega, fun i j _ hj => by omega, fun i hi => by omega, fun i j hi => by omega, fun i c hi => by omega⟩, fun v => ?_⟩
        constructor
        · exact fun h => spn_le (fld HA.out.1) (fun u ⟨i, hi, _⟩ => by omega) h
        · exact fun h => spn_le (fld HA.out.1) (fun u ⟨i, hi, _⟩ => by omega) h
      · have hR := H3.out.rdg
        rw [show Wd = n + 1 from by rw [HN.out.2.2.2.1, if_neg hm0, HN.out.2.2.2.2.1 (by omega)]] at hR
        obtain ⟨h1, _, h2⟩ := rdg_end (fld HA.out.1) hR
        exact ⟨h1, fun v => (h2 v).trans (H3.out.spn v)⟩
  · have HW : Hid (D.mchk m N Z ≠ 0 ∧ Below w.heap.size w w1) := ⟨h0, hb1⟩
    obtain ⟨e, he⟩ : ∃ e, e = D.mchk m N Z := ⟨_, rfl⟩
    rw [← he] at h0 ⊢
    have hz : (e != 0) = true := by rw [bne_iff_ne]; exact h0
    have HE : Hid (e = D.mchk m N Z) := he
    clear h0 hb1 he
    go_wp2
    go_ret3
    exact ⟨HW.out.2, Or.inl ⟨HW.out.1, by rw [← HE.out]; rfl⟩⟩
end Go.Proofs.Ytbnkekeeceicaaa

/- The program's matrices: ranks (Rank); what is said where there is no field. -/
namespace Go.Proofs.Ytbnkekeeceicaaa
open Go.RowKit

set_option maxHeartbeats 4000000 in
set_option maxRecDepth 100000 in
theorem mrank_any {D : FD} (hD : D ∈ fieldsL) {ao : Option Addr} {m ca : Nat} {A : Nat → Option Addr} {N C : Nat → Nat} {Z : Nat → Nat → Int} {w : World} (ha : MatZ ao m A N C Z w) (hm : m ≤ 1000000) :
    Calls Try.prog 45 #[.int .i64 D.q, .slice ao m ca] w fun e w' => Below w.heap.size w w' ∧
      ((D.mchk m N Z ≠ 0 ∧ e = .returned (.tuple #[.int .i64 0, .int .i64 (D.mchk m N Z)])) ∨
       (D.mchk m N Z = 0 ∧ ∃ k R' p W, e = .returned (.tuple #[.int .i64 (k : Nat), .int .i64 0]) ∧ (0 < m → W = N 0) ∧ k ≤ m ∧ RRE D W k R' p ∧ ∀ v, Spn D (RowsOf k R') v ↔ Spn D (RowsOf m (mzc N Z)) v)) := by
  have HA : Hid (D ∈ fieldsL ∧ MatZ ao m A N C Z w) := ⟨hD, ha⟩
  clear hD ha
  go_enter Try.func45, Try.ntmps45
  go_wp2_with fail
  refine (mreduce_any HA.out.1 HA.out.2 hm).mono ?_
  rintro e w1 ⟨hb1, hr⟩
  rcases hr with ⟨h0, rfl⟩ | ⟨h0, G, k, R', p, h', pv, W, rfl, hG, hW, hk, hmx, hown, hR, hS⟩
  · have HW : Hid (D.mchk m N Z ≠ 0 ∧ Below w.heap.size w w1) := ⟨h0, hb1⟩
    clear h0 hb1
    go_wp2
    go_ret2
    exact ⟨HW.out.2, Or.inl ⟨HW.out.1, rfl⟩⟩
  · obtain ⟨po, pc, rfl, _⟩ := hown.argL
    have HW : Hid (D.mchk m N Z = 0 ∧ Below w.heap.size w w1 ∧ (0 < m → W = N 0) ∧ k ≤ m ∧ RRE D W k R' p ∧ ∀ v, Spn D (RowsOf k R') v ↔ Spn D (RowsOf m (mzc N Z)) v) := ⟨h0, hb1, hW, hk, hR, hS⟩
    clear h0 hb1 hG hW hmx hown hR hS
    go_wp2
    go_ret2
    exact ⟨HW.out.2.1, Or.inr ⟨HW.out.1, k, R', p, W, rfl, HW.out.2.2⟩⟩
end Go.Proofs.Ytbnkekeeceicaaa

/- Plain mathematics: one row for each column in which no row of a reduced form begins (Null). -/
namespace Go.Proofs.Ytbnkekeeceicaaa

/-- Of the first c columns, in how many none of the k rows begins. -/
def nct (k : Nat) (p : Nat → Nat) : Nat → Nat
  | 0 => 0
  | c + 1 => if ∀ i, i < k → p i ≠ c then nct k p c + 1 else nct k p c
/-- The i-th of these columns. -/
def fcs (k : Nat) (p : Nat → Nat) : Nat → Nat → Nat
  | 0, _ => 0
  | c + 1, i => if i = nct k p c then c else fcs k p c i
theorem nct_yes {k : Nat} {p : Nat → Nat} {c : Nat} (h : ∀ i, i < k → p i ≠ c) : nct k p (c + 1) = nct k p c + 1 := if_pos h
theorem nct_no {k : Nat} {p : Nat → Nat} {c : Nat} (h : ¬ ∀ i, i < k → p i ≠ c) : nct k p (c + 1) = nct k p c := if_neg h
theorem fcs_at (k : Nat) (p : Nat → Nat) (c : Nat) : fcs k p (c + 1) (nct k p c) = c := if_pos rfl
theorem fcs_lo {k : Nat} {p : Nat → Nat} {c i : Nat} (h : i < nct k p c) : fcs k p (c + 1) i = fcs k p c i := if_neg (by omega)
theorem fcs_ok {k : Nat} {p : Nat → Nat} : ∀ c i, i < nct k p c → fcs k p c i < c ∧ ∀ j, j < k → p j ≠ fcs k p c i
  | 0, i, hi => absurd hi (by simp [nct])
  | c + 1, i, hi => by
    by_cases h : ∀ i, i < k → p i ≠ c
    · rw [nct_yes h] at hi
      by_cases e : i = nct k p c
      · rw [e, fcs_at]; exact ⟨by omega, h⟩
      · rw [fcs_lo (by omega)]
        have := fcs_ok (k := k) (p := p) c i (by omega)
        exact ⟨Nat.lt_succ_of_lt this.1, this.2⟩
    · rw [nct_no h] at hi
      rw [fcs_lo hi]
      have := fcs_ok (k := k) (p := p) c i hi
      exact ⟨Nat.lt_succ_of_lt this.1, this.2⟩
theorem fcs_mono {k : Nat} {p : Nat → Nat} : ∀ c i j, i < j → j < nct k p c → fcs k p c i < fcs k p c j
  | 0, i, j, _, hj => absurd hj (by simp [nct])
  | c + 1, i, j, hij, hj => by
    by_cases h : ∀ i, i < k → p i ≠ c
    · rw [nct_yes h] at hj
      rw [fcs_lo (i := i) (by omega)]
      by_cases e : j = nct k p c
      · rw [e, fcs_at]; exact (fcs_ok c i (by omega)).1
      · rw [fcs_lo (by omega)]; exact fcs_mono c i j hij (by omega)
    · rw [nct_no h] at hj
      rw [fcs_lo hj, fcs_lo (i := i) (by omega)]; exact fcs_mono c i j hij hj
theorem fcs_inj {k : Nat} {p : Nat → Nat} {c i j : Nat} (hi : i < nct k p c) (hj : j < nct k p c) (h : fcs k p c i = fcs k p c j) : i = j := by
  rcases Nat.lt_trichotomy i j with e | e | e
  · have := fcs_mono c i j e hj; omega
  · exact e
  · have := fcs_mono c j i e hi; omega
/-- The row for column c, the first r of the beginnings filled in. -/
def nrv (D : FD) (R : Nat → Nat → Nat) (p : Nat → Nat) (c : Nat) : Nat → Nat → Nat
  | 0, j => if j = c then 1 else 0
  | r + 1, j => if j = p r then D.ng (R r c) else nrv D R p c r j
theorem nrv_el {D : FD} (F : Fld D) {R : Nat → Nat → Nat} {p : Nat → Nat} {c : Nat} : ∀ r, (∀ i, i < r → El D (R i)) → El D (nrv D R p c r)
  | 0, _ => fun j => by
    show (if j = c then 1 else 0) < D.q
    by_cases e : j = c
    · rw [if_pos e]; exact one_lt' F
    · rw [if_neg e]; exact zero_lt' F
  | r + 1, h => fun j => by
    show (if j = p r then D.ng (R r c) else nrv D R p c r j) < D.q
    by_cases e : j = p r
    · rw [if_pos e]; exact ng_lt F (h r (by omega) c)
    · rw [if_neg e]; exact nrv_el F r (fun i hi => h i (by omega)) j
theorem nrv_bd {D : FD} {R : Nat → Nat → Nat} {p : Nat → Nat} {c n : Nat} (hc : c < n) : ∀ r, (∀ i, i < r → p i < n) → Bd n (nrv D R p c r)
  | 0, _ => fun j hj => by
    show (if j = c then 1 else 0) = 0
    rw [if_neg (by omega)]
  | r + 1, h => fun j hj => by
    show (if j = p r then D.ng (R r c) else nrv D R p c r j) = 0
    rw [if_neg (by have := h r (by omega); omega)]
    exact nrv_bd hc r (fun i hi => h i (by omega)) j hj
theorem nrv_free {D : FD} {R : Nat → Nat → Nat} {p : Nat → Nat} {c j : Nat} : ∀ r, (∀ i, i < r → p i ≠ j) → nrv D R p c r j = if j = c then 1 else 0
  | 0, _ => rfl
  | r + 1, h => by
    show (if j = p r then D.ng (R r c) else nrv D R p c r j) = _
    rw [if_neg (fun e => h r (by omega) e.symm)]
    exact nrv_free r (fun i hi => h i (by omega))
/-- The rows for the first c columns. -/
def nul (D : FD) (R : Nat → Nat → Nat) (p : Nat → Nat) (k c : Nat) : Nat → Nat → Nat := fun i => nrv D R p (fcs k p c i) k
theorem nul_el {D : FD} (F : Fld D) {k : Nat} {R : Nat → Nat → Nat} {p : Nat → Nat} (h : ∀ i, i < k → El D (R i)) (c i : Nat) : El D (nul D R p k c i) := nrv_el F k h
theorem nul_bd {D : FD} {n k : Nat} {R : Nat → Nat → Nat} {p : Nat → Nat} (h : ∀ i, i < k → p i < n) {i : Nat} (hi : i < nct k p n) : Bd n (nul D R p k n i) := nrv_bd (fcs_ok n i hi).1 k h
theorem nul_one {D : FD} {n k : Nat} {R : Nat → Nat → Nat} {p : Nat → Nat} {i j : Nat} (hi : i < nct k p n) (hj : j < nct k p n) : nul D R p k n i (fcs k p n j) = if i = j then 1 else 0 := by
  unfold nul
  rw [nrv_free k (fcs_ok n j hj).2]
  by_cases e : i = j
  · rw [if_pos e, e, if_pos rfl]
  · rw [if_neg e, if_neg (fun h => e (fcs_inj hi hj h.symm))]
/-- Of the first c columns, those in which a row begins and the others are all. -/
theorem nct_sum {k : Nat} {p : Nat → Nat} (hm : ∀ i j, i < j → j < k → p i < p j) : ∀ c, ∃ r, r ≤ k ∧ (∀ i, i < k → (i < r ↔ p i < c)) ∧ nct k p c + r = c
  | 0 => ⟨0, Nat.zero_le _, fun i _ => ⟨fun h => absurd h (by omega), fun h => absurd h (by omega)⟩, rfl⟩
  | c + 1 => by
    obtain ⟨r, hr, h1, h2⟩ := nct_sum hm c
    by_cases h : ∀ i, i < k → p i ≠ c
    · refine ⟨r, hr, fun i hi => ?_, by rw [nct_yes h]; omega⟩
      have := h i hi
      have := h1 i hi
      omega
    · have h' : ∃ i, i < k ∧ p i = c := by
        refine Classical.byContradiction fun hn => h fun i hi e => hn ⟨i, hi, e⟩
      obtain ⟨i0, hi0, e0⟩ := h'
      have hge : ¬ i0 < r := fun hlt => by have := (h1 i0 hi0).1 hlt; omega
      have hle : i0 ≤ r := by
        rcases Nat.lt_or_ge r i0 with hl | hl
        · have ha := hm r i0 hl hi0
          have hb := (h1 r (by omega)).2 (by omega)
          omega
        · exact hl
      have he : i0 = r := by omega
      subst he
      refine ⟨i0 + 1, by omega, fun i hi => ⟨fun hl => ?_, fun hl => ?_⟩, by rw [nct_no h]; omega⟩
      · by_cases e : i = i0
        · rw [e]; omega
        · have := (h1 i hi).1 (by omega); omega
      · rcases Nat.lt_or_ge i0 i with hg | hg
        · have := hm i0 i hg hi; omega
        · omega
theorem nct_all {k n : Nat} {p : Nat → Nat} (hm : ∀ i j, i < j → j < k → p i < p j) (hl : ∀ i, i < k → p i < n) : nct k p n + k = n := by
  obtain ⟨r, hr, h1, h2⟩ := nct_sum hm n
  have : r = k := by
    rcases Nat.lt_or_ge r k with e | e
    · have := (h1 r e).2 (hl r e); omega
    · omega
  omega
end Go.Proofs.Ytbnkekeeceicaaa

/- The reference's matrices: the rows that make all rows 0 (Null). -/
namespace Go.Proofs.Ytbnkekeeceicaaa
open Go.RowKit Go.Sort

end Go.Proofs.Ytbnkekeeceicaaa

/- The program's matrices: is a number in a list (slices.Contains); the rows that make a reduced form 0 (madeNought). -/
namespace Go.Proofs.Ytbnkekeeceicaaa
open Go.RowKit

set_option maxHeartbeats 2000000 in
set_option maxRecDepth 100000 in
theorem indexI_any {ao : Option Addr} {n ca : Nat} {z : Nat → Int} {w : World} (x : Int) (hs : SlZ ao n z w) (hn : n ≤ 1000000) :
    Calls Try.prog 52 #[.slice ao n ca, .int .i64 x] w fun e w' => w' = w ∧ ((∃ i : Nat, i < n ∧ z i = x ∧ e = .returned (.int .i64 i)) ∨ ((∀ j, j < n → z j ≠ x) ∧ e = .returned (.int .i64 (-1)))) := by
  have HS : Hid (SlZ ao n z w) := hs
  clear hs
  go_enter Try.func52, Try.ntmps52
  go_wp2
  go_loopw [5, 8] (fun _ i wr => ∃ r : Nat, r ≤ n ∧ i = .int .i64 r ∧ Hid (∀ j, j < r → z j ≠ x) ∧ wr = w) (fun _ i _ => n - (intOf i).toNat)
  case atStart => exact ⟨0, by omega, rfl, (show Hid _ from fun j hj => by omega), rfl⟩
  case round =>
    obtain ⟨r, hr, rfl, HH, rfl⟩ := hrel
    by_cases hlt : r < n
    · obtain ⟨b, off, rfl, hcz⟩ := HS.out r hlt
      have hib : (r : Int) < (n : Int) := by omega
      obtain ⟨y, hy⟩ : ∃ y, y = z r := ⟨_, rfl⟩
      rw [← hy] at hcz
      by_cases he : x = y
      · have hb : (x == y) = true := beq_iff_eq.2 he
        have HV : Hid (z r = x) := by rw [← hy, he]; rfl
        clear he hy
        go_wp2
        go_ret
        exact ⟨rfl, Or.inl ⟨r, hlt, HV.out, rfl⟩⟩
      · have hb : (x == y) = false := beq_eq_false_iff_ne.2 he
        have HV : Hid (∀ j, j < r + 1 → z j ≠ x) := fun j hj => by
          by_cases e : j = r
          · rw [e, ← hy]; exact fun e => he e.symm
          · exact HH.out j (by omega)
        clear he hy
        go_wp2
        go_roundw
        case rel => exact ⟨r + 1, by omega, by go_num, HV.out, by first | rfl | trivial⟩
        case measure => simp [intOf]; omega
    · have HV : Hid (∀ j, j < n → z j ≠ x) := fun j hj => HH.out j (by omega)
      go_wp2
      go_ret
      exact ⟨rfl, Or.inr ⟨HV.out, rfl⟩⟩

set_option maxHeartbeats 2000000 in
set_option maxRecDepth 100000 in
theorem contains_any {ao : Option Addr} {n ca : Nat} {z : Nat → Int} {w : World} (x : Int) (hs : SlZ ao n z w) (hn : n ≤ 1000000) :
    Calls Try.prog 33 #[.slice ao n ca, .int .i64 x] w fun e w' => e = .returned (.bool (decide (x ∈ zl n z))) ∧ w' = w := by
  have HS : Hid (SlZ ao n z w) := hs
  clear hs
  go_enter Try.func33, Try.ntmps33
  go_wp2_with fail
  refine (indexI_any x HS.out hn).mono ?_
  rintro e w' ⟨hw, ⟨i, hi, hz, rfl⟩ | ⟨hz, rfl⟩⟩
  · have hw := hw.symm
    subst hw
    have hge : (0 : Int) ≤ (i : Int) := by omega
    have HV : Hid (decide (x ∈ zl n z) = true) := by
      show _ = _
      rw [decide_eq_true_eq]; exact zl_mem.2 ⟨i, hi, hz⟩
    clear hz
    go_wp2
    go_ret
    exact ⟨by rw [HV.out]; rfl, rfl⟩
  · have hw := hw.symm
    subst hw
    have HV : Hid (decide (x ∈ zl n z) = false) := by
      show _ = _
      rw [decide_eq_false_iff_not]
      intro h
      obtain ⟨j, hj, e⟩ := zl_mem.1 h
      exact hz j hj e
    clear hz
    go_wp2
    go_ret
    exact ⟨by rw [HV.out]; rfl, rfl⟩

end Go.Proofs.Ytbnkekeeceicaaa

/- The program's matrices: what makes all rows 0 (Null); matrices as they are told. -/
namespace Go.Proofs.Ytbnkekeeceicaaa
open Go.RowKit

theorem Mx.any {B G m n n' : Nat} {R : Nat → Nat → Nat} {h : Nat → Nat} {w : World} (H : Mx B G m 0 n R h w) : Mx B G m 0 n' R h w :=
  ⟨by obtain ⟨f, hf, _⟩ := H.outer; exact ⟨f, hf, fun i hi => by omega⟩, fun i hi => by omega, H.geG, fun i hi => by omega, fun i hi => by omega, fun i hi => by omega, H.le⟩

end Go.Proofs.Ytbnkekeeceicaaa

/- Plain mathematics: linear equations (Solve): the rows with what they are to be behind them. -/
namespace Go.Proofs.Ytbnkekeeceicaaa

/-- The rows M of n numbers, each with one number more. -/
def aug (n : Nat) (M : Nat → Nat → Nat) (b : Nat → Nat) : Nat → Nat → Nat := fun i j => if j = n then b i else M i j
theorem aug_el {D : FD} {n : Nat} {M : Nat → Nat → Nat} {b : Nat → Nat} {i : Nat} (h : El D (M i)) (hb : b i < D.q) : El D (aug n M b i) := fun j => by
  unfold aug
  by_cases e : j = n
  · rw [if_pos e]; exact hb
  · rw [if_neg e]; exact h j
theorem aug_bd {n : Nat} {M : Nat → Nat → Nat} {b : Nat → Nat} {i : Nat} (h : Bd n (M i)) : Bd (n + 1) (aug n M b i) := fun j hj => by
  unfold aug
  rw [if_neg (by omega)]; exact h j (by omega)
/-- The solution that a reduced form tells, by its first r rows. -/
def slx (R : Nat → Nat → Nat) (p : Nat → Nat) (n : Nat) : Nat → Nat → Nat
  | 0, _ => 0
  | r + 1, j => if j = p r then R r n else slx R p n r j
theorem slx_congr {R R' : Nat → Nat → Nat} {p p' : Nat → Nat} (n : Nat) : ∀ r, (∀ i, i < r → p i = p' i ∧ R i = R' i) → slx R p n r = slx R' p' n r
  | 0, _ => rfl
  | r + 1, h => by
    funext j
    show (if j = p r then R r n else slx R p n r j) = if j = p' r then R' r n else slx R' p' n r j
    rw [(h r (by omega)).1, (h r (by omega)).2, slx_congr n r (fun i hi => h i (by omega))]
/-- Rows reduced but for the last column, and the one form of all: where there is a solution. -/
theorem solve_yes {D : FD} (F : Fld D) {m n k kr : Nat} {R Rr : Nat → Nat → Nat} {p pr : Nat → Nat} (h : Rdg D m (n + 1) n k R p) (h0 : ∀ i, k ≤ i → i < m → R i n = 0) (hr : RRE D (n + 1) kr Rr pr) (hs : ∀ v, Spn D (RowsOf m R) v ↔ Spn D (RowsOf kr Rr) v) : kr = k ∧ (∀ i, i < k → p i = pr i ∧ R i = Rr i) ∧ ∀ i, i < kr → pr i ≠ n := by
  have h1 : Rdg D m (n + 1) (n + 1) k R p := rdg_skip h h0
  obtain ⟨h2, _, h3⟩ := rdg_end F h1
  obtain ⟨hk, he⟩ := rre_uniq F h2 hr (fun v => (h3 v).trans (hs v))
  refine ⟨hk.symm, he, fun i hi => ?_⟩
  have a := (he i (by omega)).1
  have b := h.lt i (by omega)
  omega
theorem solve_no {D : FD} (F : Fld D) {m n k kr : Nat} {R Rr : Nat → Nat → Nat} {p pr : Nat → Nat} (h : Rdg D m (n + 1) n k R p) (h0 : ∃ i, k ≤ i ∧ i < m ∧ R i n ≠ 0) (hr : RRE D (n + 1) kr Rr pr) (hs : ∀ v, Spn D (RowsOf m R) v ↔ Spn D (RowsOf kr Rr) v) : ∃ i, i < kr ∧ pr i = n := by
  obtain ⟨i, h1, h2, h3⟩ := h0
  obtain ⟨j, hj, e⟩ := (rre_lead F hr n).1 ⟨R i, (hs _).1 (spn_mem F (h.el i h2) ⟨i, h2, rfl⟩), h3, fun c hc => h.rest i c h1 h2 hc⟩
  exact ⟨j, hj, e.symm⟩

end Go.Proofs.Ytbnkekeeceicaaa

/- The reference's matrices: linear equations (Solve). -/
namespace Go.Proofs.Ytbnkekeeceicaaa
open Go.RowKit Go.Sort

end Go.Proofs.Ytbnkekeeceicaaa
