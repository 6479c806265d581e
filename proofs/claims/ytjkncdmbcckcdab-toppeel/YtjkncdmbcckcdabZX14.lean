/- Texts of ours, one behind the other: X14 X15 X16. -/
import Derived.Test.YtjkncdmbcckcdabZS3
import Derived.BigRegion
/- The program's matrices: rows brought to their one form (reduce). -/
namespace Go.Proofs.Ytjkncdmbcckcdab
open Go.RowKit

structure RSt (D : FD) (B G mc m n : Nat) (R : Nat → Nat → Nat) (w : World) (c k : Nat) (R' : Nat → Nat → Nat) (p h' : Nat → Nat) (pv : Value) (wr : World) : Prop where
  rdg : Rdg D m n c k R' p
  mx : Mx B G mc m n R' h' wr
  lt : ∀ i, i < m → h' i < w.heap.size
  own : OwnI w.heap.size pv (zl k fun j => ((p j : Nat) : Int)) wr
  spn : ∀ v, Spn D (RowsOf m R') v ↔ Spn D (RowsOf m R) v
  bel : Below B w wr

theorem indexNone_any {gf : Nat} {lb : Array Value} (eg : ∀ args w, (callFunc gf args).run Try.prog w = .ok (.enter gf args) w) {G off cap : Nat} {w : World} :
    Calls Try.prog 64 #[.slice (some ⟨G, off, none⟩) 0 cap, .func (.func gf) #[] lb] w fun e w' => w' = w ∧ e = .returned (.int .i64 (-1)) := by
  refine (indexSls_any (h := fun _ => 0) (l := 0) (cl := 0) (p := fun _ => false) eg (fun j hj => absurd hj (by omega)) (by omega) (fun j hj => absurd hj (by omega))).mono ?_
  rintro e w' ⟨hw, ⟨i, hi, _⟩ | ⟨_, rfl⟩⟩
  · omega
  · exact ⟨hw, rfl⟩
theorem RSt.skip {D : FD} {B G mc m n : Nat} {R : Nat → Nat → Nat} {w : World} {c k : Nat} {R' : Nat → Nat → Nat} {p h' : Nat → Nat} {pv : Value} {wr : World} (H : RSt D B G mc m n R w c k R' p h' pv wr) (hB : B ≤ w.heap.size) (h0 : ∀ i, k ≤ i → i < m → R' i c = 0) (o : Obj) : RSt D B G mc m n R w (c + 1) k R' p h' pv (wr.alloc o) :=
  ⟨rdg_skip H.rdg h0, H.mx.below ((Below.refl _ _).alloc (Nat.le_refl _) _), H.lt, H.own.alloc o, H.spn, H.bel.alloc (Nat.le_trans hB H.bel.size) _⟩

set_option maxHeartbeats 8000000 in
set_option maxRecDepth 100000 in
theorem reduce_any {F T B G mc m n cols : Nat} {D : FD} (hD : D ∈ fieldsL) {g : Nat → Value} {w : World} (hat : FAt F T D g w) (hF : F < B) (hT : T < B) {R : Nat → Nat → Nat} {h : Nat → Nat} (hM : Mx B G mc m n R h w) (hm : m ≤ 1000) (hn : n ≤ 1000) (hE : ∀ i, i < m → El D (R i)) (hB : ∀ i, i < m → Bd n (R i)) (hcols : cols ≤ n) :
    Calls Try.prog 51 #[.pointer (some ⟨F, 0, none⟩), .slice (some ⟨G, 0, none⟩) m mc, .int .i64 cols] w fun e w' => ∃ k R' p h' pv, e = .returned pv ∧ RSt D B G mc m n R w cols k R' p h' pv w' := by
  have HF : Hid (FAt F T D g w ∧ D ∈ fieldsL ∧ F < B ∧ T < B ∧ Mx B G mc m n R h w ∧ (∀ i, i < m → El D (R i)) ∧ ∀ i, i < m → Bd n (R i)) := ⟨hat, hD, hF, hT, hM, hE, hB⟩
  have hGw : G < w.heap.size := hM.ltG
  clear hat hD hF hT hM hE hB
  go_enter Try.func51, Try.ntmps51
  go_wp2
  go_loopw [7, 12] (fun pv i wr => ∃ (c k : Nat) (R' : Nat → Nat → Nat) (p h' : Nat → Nat), c ≤ cols ∧ i = .int .i64 c ∧ Hid (RSt D B G mc m n R w c k R' p h' pv wr)) (fun _ i _ => cols - (intOf i).toNat)
  case atStart => exact ⟨0, 0, R, fun _ => 0, h, by omega, rfl, ⟨rdg_start HF.out.2.2.2.2.2.1 HF.out.2.2.2.2.2.2 _, HF.out.2.2.2.2.1, fun i hi => HF.out.2.2.2.2.1.lt i hi, OwnI.nil _ _, fun v => Iff.rfl, Below.refl _ _⟩⟩
  case round =>
    obtain ⟨c, k, R', p, h', hc, rfl, HG⟩ := hrel
    rename World => wA
    by_cases hlt : c < cols
    · have hib : (c : Int) < (cols : Int) := by omega
      have hkm : k ≤ m := HG.out.rdg.le
      have hki : (k : Int) ≤ (m : Int) := by omega
      obtain ⟨po, pc, rfl, _⟩ := HG.out.own.argL
      have hBw : B ≤ w.heap.size := by have := HF.out.2.2.2.2.1.geG; omega
      by_cases hkm2 : k = m
      · subst hkm2
        have HS := HG.out.skip hBw (fun i h1 h2 => absurd h1 (by omega))
        have HS' : Hid (∀ o, RSt D B G mc k n R w (c + 1) k R' p h' (.slice po k pc) (wA.alloc o)) := HS
        have hkc : k ≤ mc := HG.out.mx.le
        clear HS
        by_cases hmk : mc = k
        · subst hmk
          go_wp2_with (go_at_call 64; refine (indexNone_any enters_nz).mono ?_; rintro e w2 ⟨hw, rfl⟩; have hw := hw.symm; subst hw)
          go_roundw
          case rel => exact ⟨c + 1, mc, R', p, h', by omega, by go_num, HS'.out _⟩
          case measure => simp [intOf]; omega
        · have hkc2 : (k : Int) < (mc : Int) := by omega
          have hkc3 : ¬ mc = k := hmk
          have hkc4 : (k : Int) ≤ (mc : Int) := by omega
          go_wp2_with (go_at_call 64; refine (indexNone_any enters_nz).mono ?_; rintro e w2 ⟨hw, rfl⟩; have hw := hw.symm; subst hw)
          go_roundw
          case rel => exact ⟨c + 1, k, R', p, h', by omega, by go_num, HS'.out _⟩
          case measure => simp [intOf]; omega
      · have hkl : k < m := by omega
        have hmc : m ≤ mc := HG.out.mx.le
        have hkc2 : (k : Int) < (mc : Int) := by omega
        have hkc3 : ¬ mc = k := by omega
        have hmi : (m : Int) ≤ (mc : Int) := by omega
        clear hkm2 hmc
        go_wp2_with fail
        refine (indexNz_any (HG.out.mx.below ((Below.refl _ _).alloc (Nat.le_refl _) _)) (col := c) (by simp) (by omega) hkm hm).mono ?_
        rintro e w2 ⟨hw, ⟨i, hi, hne, rfl⟩ | ⟨h0, rfl⟩⟩
        · have hsz := HG.out.bel.size
          have H2 : Hid (RSt D B G mc m n R w c k R' p h' (.slice po k pc) w2 ∧ w2.cell? ⟨wA.heap.size, 0, none⟩ = some (.int .i64 c) ∧ w2.heap.size = wA.heap.size + 1) := by
            have hbl : Below wA.heap.size wA (wA.alloc (.cells #[.int .i64 c] 3)) := (Below.refl _ _).alloc (Nat.le_refl _) _
            rw [hw]
            exact ⟨⟨HG.out.rdg, HG.out.mx.below hbl, HG.out.lt, HG.out.own.alloc _, HG.out.spn, bel_up' HG.out.bel hbl hBw⟩, by simp, by simp⟩
          clear hw
          have HN : Hid (R' (k + i) c ≠ 0) := hne
          clear hne
          have hcK := H2.out.1.mx.cell k hkl
          have hcI := H2.out.1.mx.cell (k + i) hi
          obtain ⟨f, hf, _⟩ := H2.out.1.mx.outer
          have hfK := hf.free k
          have hfI := hf.free (k + i)
          have hst := hf.store k (.slice (some ⟨h' (k + i), 0, none⟩) n n)
          obtain ⟨u, hu⟩ : ∃ u, (w2.setCell ⟨G, k, none⟩ (.slice (some ⟨h' (k + i), 0, none⟩) n n)).drew.cell? ⟨G, k + i, none⟩ = some u := ⟨_, hst.drew.cell (k + i) (Nat.lt_of_lt_of_le hi H2.out.1.mx.le)⟩
          have hu2 := hst.drew.free (k + i)
          clear hf hst
          obtain ⟨b, hb⟩ : ∃ b, b = k + i := ⟨_, rfl⟩
          have hwb : IntKind.i64.wrap ((k : Int) + (i : Int)) = (b : Int) := wrap_to (by omega) (by omega)
          have hbm : (b : Int) < (m : Int) := by omega
          have hkmi : (k : Int) < (m : Int) := by omega
          rw [← hb] at hcI hfI HN hu hu2
          have HBk : Hid (b = k + i) := hb
          clear hb
          go_wp2
          go_region
          generalize hW : ((w2.setCell ⟨G, k, none⟩ (.slice (some ⟨h' b, 0, none⟩) n n)).setCell ⟨G, b, none⟩ (.slice (some ⟨h' k, 0, none⟩) n n)).drew = w3
          clear hu hu2 hcK hcI hfK hfI
          have hbm' : b < m := by omega
          have hlt3 : ∀ i, i < m → swpR h' k b i < w.heap.size := fun i hi => by rw [swpR_is]; exact H2.out.1.lt _ (swpI_lt hkl hbm' hi)
          have H3 : Hid (Mx B G mc m n (swpR R' k b) (swpR h' k b) w3 ∧ w3.cell? ⟨wA.heap.size, 0, none⟩ = some (.int .i64 c) ∧ OwnI w.heap.size (.slice po k pc) (zl k fun j => ((p j : Nat) : Int)) w3 ∧ Below B w w3 ∧ w3.heap.size = wA.heap.size + 1 ∧ Rdg D m n c k (swpR R' k b) p ∧ swpR R' k b k c ≠ 0) := by
            have hblk : ∀ q, q ≠ G → w3.heap[q]? = w2.heap[q]? := fun q hq => by
              rw [← hW]
              exact (Below.heap_setCell _ _ _ _ hq).trans (Below.heap_setCell _ _ _ _ hq)
            refine ⟨?_, ?_, H2.out.1.own.same (fun q hq => hblk q (by have := (H2.out.1.own.lt q hq).1; omega)), ?_, ?_, rdg_swap H2.out.1.rdg (by have := HBk.out; omega) hbm', ?_⟩
            · have h1 := H2.out.1.mx.swap hkl hbm'
              rw [← hW]
              exact h1.keep rfl (fun i hi => rfl)
            · have h1 := hblk wA.heap.size (by omega)
              have h2 := H2.out.2.1
              simp only [World.cell?, h1] at h2 ⊢
              exact h2
            · rw [← hW]
              have hG := H2.out.1.mx.geG
              exact ((H2.out.1.bel.setCell (p := ⟨G, k, none⟩) hG _).setCell (p := ⟨G, b, none⟩) hG _).trans ⟨rfl, rfl, rfl, Nat.le_refl _, fun _ _ => rfl⟩
            · rw [← hW, ← H2.out.2.2]
              show ((w2.setCell _ _).setCell _ _).heap.size = _
              simp [World.setCell]
            · unfold swpR
              rw [if_pos rfl]; exact HN.out
          clear hW
          have hc8 := H3.out.2.1
          go_wp2_with fail
          refine (clearColumn_any HF.out.2.1 (HF.out.1.below H3.out.2.2.2.1 HF.out.2.2.1 HF.out.2.2.2.1) HF.out.2.2.1 HF.out.2.2.2.1 H3.out.1 hm hn H3.out.2.2.2.2.2.1.el hkl (by omega) H3.out.2.2.2.2.2.2).mono ?_
          rintro e w4 ⟨rfl, hmx4, htch⟩
          have H4 : Hid (Mx B G mc m n (clrR D (swpR R' k b) k c m) (swpR h' k b) w4 ∧ OwnI w.heap.size (.slice po k pc) (zl k fun j => ((p j : Nat) : Int)) w4 ∧ Below B w w4 ∧ w4.heap.size = wA.heap.size + 1) := by
            refine ⟨hmx4, H3.out.2.2.1.same (fun q hq => htch.block q (fun i hi => by have h1 := (H3.out.2.2.1.lt q hq).1; have h2 := hlt3 i hi; omega)), H3.out.2.2.2.1.trans (htch.below H3.out.1.ge), by rw [htch.size]; exact H3.out.2.2.2.2.1⟩
          have hc84 : w4.cell? ⟨wA.heap.size, 0, none⟩ = some (.int .i64 c) := by
            have h1 := htch.block wA.heap.size (fun i hi => by have := hlt3 i hi; omega)
            simp only [World.cell?, h1] at hc8 ⊢
            exact hc8
          clear hmx4 htch hc8
          go_wp2_with (at_builtin; refine append_int rfl _ _ rfl w.heap.size _ (zl k fun j => ((p j : Nat) : Int)) rfl (H4.out.2.1.alloc _) ⟨_, 0, none⟩ 1 c rfl (by simp) (by rw [zl_len]; omega) (by have := H4.out.2.2.2; simp; omega) ?_; intro v5 w5 hown5 hgrow5)
          go_roundw
          case rel =>
            have hal : Below w4.heap.size w4 (w4.alloc (.cells #[.int .i64 c] 3)) := (Below.refl _ _).alloc (Nat.le_refl _) _
            have hs4 := H4.out.2.2.2
            have hkeep : ∀ q, q < w.heap.size → w5.heap[q]? = w4.heap[q]? := fun q hq => by
              refine (hgrow5.block q (by simp; omega) (fun e => ?_)).trans (hal.block q (by omega))
              have := (H4.out.2.1.lt q e.symm).1
              omega
            refine ⟨c + 1, k + 1, clrR D (swpR R' k b) k c m, fun i => if i = k then c else p i, swpR h' k b, by omega, by go_num, ⟨rdg_clear HF.out.2.1 H3.out.2.2.2.2.2.1 hkl H3.out.2.2.2.2.2.2, H4.out.1.keep (hkeep G hGw) (fun i hi => hkeep _ (hlt3 i hi)), hlt3, ?_, fun v => ?_, ?_⟩⟩
            · rw [zl_succ, if_pos rfl, zl_congr (y := fun j => ((p j : Nat) : Int)) (fun j hj => by show (((if j = k then c else p j) : Nat) : Int) = _; rw [if_neg (by omega)])]
              exact hown5
            · rw [spn_clear HF.out.2.1 hkl H3.out.2.2.2.2.2.1.el H3.out.2.2.2.2.2.2 v, spn_swap (fld HF.out.2.1) hkl hbm' H2.out.1.rdg.el v]
              exact H2.out.1.spn v
            · exact (bel_up' H4.out.2.2.1 hal hBw).trans (below_grown hgrow5 (by simp; omega) (fun q hq => by have := (H4.out.2.1.lt q hq).1; omega))
          case measure => simp [intOf]; omega
        · have HS : Hid (RSt D B G mc m n R w (c + 1) k R' p h' (.slice po k pc) w2) := by rw [hw]; exact HG.out.skip hBw h0 _
          clear hw h0
          go_wp2
          go_roundw
          case rel => exact ⟨c + 1, k, R', p, h', by omega, by go_num, HS.out⟩
          case measure => simp [intOf]; omega
    · have e : c = cols := by omega
      subst e
      go_wp2
      go_ret
      exact ⟨k, R', p, h', _, rfl, HG.out⟩
end Go.Proofs.Ytjkncdmbcckcdab

/- The program's matrices: the one form of what rows span (Reduce). -/
namespace Go.Proofs.Ytjkncdmbcckcdab
open Go.RowKit

theorem Mx.mono {B B' G m k n : Nat} {R : Nat → Nat → Nat} {h : Nat → Nat} {w : World} (H : Mx B G m k n R h w) (hB : B' ≤ B) : Mx B' G m k n R h w :=
  ⟨H.outer, H.row, Nat.le_trans hB H.geG, fun i hi => Nat.le_trans hB (H.ge i hi), H.inj, H.ne, H.le⟩

set_option maxHeartbeats 8000000 in
set_option maxRecDepth 100000 in
theorem mreduce_any {D : FD} (hD : D ∈ fieldsL) {ao : Option Addr} {m ca : Nat} {A : Nat → Option Addr} {N C : Nat → Nat} {Z : Nat → Nat → Int} {w : World} (ha : MatZ ao m A N C Z w) (hm : m ≤ 1000000) :
    Calls Try.prog 54 #[.int .i64 D.q, .slice ao m ca] w fun e w' => Below w.heap.size w w' ∧
      ((D.mchk m N Z ≠ 0 ∧ e = .returned (.tuple #[.slice none 0 0, .slice none 0 0, .int .i64 (D.mchk m N Z)])) ∨
       (D.mchk m N Z = 0 ∧ ∃ G k R' p h' pv W, e = .returned (.tuple #[.slice (some ⟨G, 0, none⟩) k m, pv, .int .i64 0]) ∧ w.heap.size ≤ G ∧ (0 < m → W = N 0) ∧ k ≤ m ∧ Mx w.heap.size G m m W R' h' w' ∧ OwnI w.heap.size pv (zl k fun j => ((p j : Nat) : Int)) w' ∧ RRE D W k R' p ∧ ∀ v, Spn D (RowsOf k R') v ↔ Spn D (RowsOf m (mzc N Z)) v)) := by
  have HA : Hid (D ∈ fieldsL ∧ MatZ ao m A N C Z w) := ⟨hD, ha⟩
  clear hD ha
  go_enter Try.func54, Try.ntmps54
  go_wp2_with fail
  refine (mover1_any HA.out.1 HA.out.2 hm).mono ?_
  rintro e w1 ⟨hb1, hr⟩
  rcases hr with ⟨h0, F, T, f, rfl, hat, hF, hT⟩ | ⟨h0, rfl⟩
  · have HW : Hid (D.mchk m N Z = 0 ∧ FAt F T D f w1 ∧ Below w.heap.size w w1 ∧ MatZ ao m A N C Z w1) := ⟨h0, hat, hb1, HA.out.2.below hb1⟩
    clear h0 hat hF hT hb1
    obtain ⟨n, Wd, HN⟩ : ∃ n Wd, Hid (n ≤ 64 ∧ Wd ≤ n + 1 ∧ m ≤ 64 ∧ Wd = (if m = 0 then 0 else N 0) ∧ (0 < m → n + 1 = N 0) ∧ (∀ i, i < m → El D (mzc N Z i) ∧ Bd (n + 1) (mzc N Z i)) ∧ MatR ao m n (mzc N Z) w1) := by
      by_cases hm0 : m = 0
      · exact ⟨0, 0, ⟨by omega, by omega, by omega, by rw [if_pos hm0], fun h => by omega, fun i hi => by omega, fun i hi => by omega⟩⟩
      · obtain ⟨h1, n, h2, h3, h4, h5⟩ := mchk_rows (fld HA.out.1) HW.out.1 HW.out.2.2.2 (by omega)
        exact ⟨n, n + 1, ⟨by omega, by omega, h1, by rw [if_neg hm0, h2], fun _ => h2.symm, fun i hi => (h4 i hi).2, h5⟩⟩
    have hn64 := HN.out.1
    have hWd := HN.out.2.1
    have hm64 := HN.out.2.2.1
    go_wp2_with fail
    refine (wider_any (more := 0) HN.out.2.2.2.2.2.2 (fun i hi => (HN.out.2.2.2.2.2.1 i hi).2) (by omega) (by omega) (by omega)).mono ?_
    rintro e w2 ⟨rfl, ⟨h, hmx⟩, hb2⟩
    have H2 : Hid (Mx w1.heap.size w1.heap.size m m (n + 1) (mzc N Z) h w2 ∧ Below w1.heap.size w1 w2) := ⟨hmx, hb2⟩
    clear hmx hb2
    have HCw : Hid (Calls Try.prog 52 #[.slice ao m ca] w2 fun e w' => e = .returned (.int .i64 (Wd : Int)) ∧ w' = w2) := by
      show Calls _ _ _ _ _
      have h := width_any (ca := ca) (HW.out.2.2.2.below H2.out.2)
      rw [← HN.out.2.2.2.1] at h; exact h
    go_wp2_with (go_at_call 52; refine HCw.out.mono ?_; rintro e w' ⟨rfl, hw⟩; have hw := hw.symm; subst hw)
    refine (reduce_any HA.out.1 (HW.out.2.1.below H2.out.2 HW.out.2.1.ltF HW.out.2.1.ltT) HW.out.2.1.ltF HW.out.2.1.ltT H2.out.1 (by omega) (by omega) (fun i hi => (HN.out.2.2.2.2.2.1 i hi).1) (fun i hi => (HN.out.2.2.2.2.2.1 i hi).2) hWd).mono ?_
    rintro e w3 ⟨k, R', p, h', pv, rfl, hst⟩
    have H3 : Hid (RSt D w1.heap.size w1.heap.size m m (n + 1) (mzc N Z) w2 Wd k R' p h' pv w3) := hst
    clear hst
    obtain ⟨po, pc, rfl, _⟩ := H3.out.own.argL
    have hkm : k ≤ m := H3.out.rdg.le
    have hki : (k : Int) ≤ (m : Int) := by omega
    go_wp2
    all_goals
      go_ret3
      have hs1 := HW.out.2.2.1.size
      have hs2 := H2.out.2.size
      refine ⟨(HW.out.2.2.1.trans (H2.out.2.mono hs1)).trans (H3.out.bel.mono hs1), Or.inr ⟨HW.out.1, w1.heap.size, k, R', p, h', _, n + 1, rfl, hs1, HN.out.2.2.2.2.1, hkm, H3.out.mx.mono hs1, H3.out.own.mono (by omega), ?_⟩⟩
      by_cases hm0 : m = 0
      · have hk0 : k = 0 := by omega
        refine ⟨⟨fun i hi => by omega, fun i hi => by omega, fun i hi => by omega, fun i j _ hj => by omega, fun i hi => by omega, fun i j hi => by omega, fun i c hi => by omega⟩, fun v => ?_⟩
        constructor
        · exact fun h => spn_le (fld HA.out.1) (fun u ⟨i, hi, _⟩ => by omega) h
        · exact fun h => spn_le (fld HA.out.1) (fun u ⟨i, hi, _⟩ => by omega) h
      · have hR := H3.out.rdg
        rw [show Wd = n + 1 from by rw [HN.out.2.2.2.1, if_neg hm0, HN.out.2.2.2.2.1 (by omega)]] at hR
        obtain ⟨h1, _, h2⟩ := rdg_end (fld HA.out.1) hR
        exact ⟨h1, fun v => (h2 v).trans (H3.out.spn v)⟩
  · have HW : Hid (D.mchk m N Z ≠ 0 ∧ Below w.heap.size w w1) := ⟨h0, hb1⟩
    obtain ⟨e, he⟩ : ∃ e, e = D.mchk m N Z := ⟨_, rfl⟩
    rw [← he] at h0 ⊢
    have hz : (e != 0) = true := by rw [bne_iff_ne]; exact h0
    have HE : Hid (e = D.mchk m N Z) := he
    clear h0 hb1 he
    go_wp2
    go_ret3
    exact ⟨HW.out.2, Or.inl ⟨HW.out.1, by rw [← HE.out]; rfl⟩⟩
end Go.Proofs.Ytjkncdmbcckcdab

/- The program's matrices: ranks (Rank); what is said where there is no field. -/
namespace Go.Proofs.Ytjkncdmbcckcdab
open Go.RowKit

end Go.Proofs.Ytjkncdmbcckcdab
