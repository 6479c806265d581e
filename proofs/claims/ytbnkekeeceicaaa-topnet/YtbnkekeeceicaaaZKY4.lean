/- Texts of ours, one behind the other: KY4 KY5 KY6. -/
import Derived.Test.YtbnkekeeceicaaaZKX7
import Derived.Test.YtbnkekeeceicaaaZKW8
import Derived.Test.YtbnkekeeceicaaaZKF2
/- Nets: a vector and a multiple of a sum, whose product with none of some is 0 (joined). -/
namespace Go.Proofs.Ytbnkekeeceicaaa
open Go.RowKit Go.Sort

/-- z times a and b, the first r of them. -/
def jnV (D : FD) (z : Nat) (a b : Nat → Nat) (r : Nat) : Nat → Nat := fun c => if c < r then D.ad (D.mul z (a c)) (b c) else 0
theorem jnV_el {D : FD} (F : Fld D) (z : Nat) (a : Nat → Nat) {b : Nat → Nat} (hb : El D b) (r : Nat) : El D (jnV D z a b r) := fun c => by
  unfold jnV
  have := F.q2
  split
  · exact ad_lt F (F.mul_lt _ _) (hb c)
  · omega
theorem jnV_dot {D : FD} (F : Fld D) {z h : Nat} {a b y : Nat → Nat} (hb : El D b) : dot D (jnV D z a b h) y h = D.ad (D.mul z (dot D a y h)) (dot D b y h) := by
  rw [dot_congr (a' := padd D (pscale D z a) b) (b' := y) h (fun j hj => ⟨by unfold jnV; rw [if_pos hj]; rfl, rfl⟩), dot_add F (el_scale F _ _) hb, dot_scale F]
/-- What joined tells. -/
def JnP (D : FD) (h i base : Nat) (sv xv : Nat → Nat) (Y : Nat → Nat → Nat) (W : World) (e : Ending) (w' : World) : Prop := ∃ gx z, e = .returned (.slice (some ⟨gx, 0, none⟩) h h) ∧ base ≤ gx ∧ Row gx h (jnV D z sv xv h) w' ∧ z < D.q ∧ (∀ j, j < i → dot D (jnV D z sv xv h) (Y j) h ≠ 0) ∧ Below base W w'
set_option maxHeartbeats 4000000 in
set_option maxRecDepth 100000 in
theorem joined_any {D : FD} (hD : D ∈ fieldsL) {Fb T : Nat} {g : Nat → Value} {so xo yo : Option Addr} {h i cs cx cy : Nat} {sv xv : Nat → Nat} {A : Nat → Option Addr} {C : Nat → Nat} {Y : Nat → Nat → Nat} {w : World} (hF : FAt Fb T D g w) (h1 : 1 ≤ h) (h64 : h ≤ 64) (hi : i < D.q) (hi6 : i ≤ 1000) (hs : Sl so h sv w) (hx : Sl xo h xv w) (es : El D sv) (ex : El D xv) (hY : MatZ yo i A (fun _ => h) C (fun r c => ((Y r c : Nat) : Int)) w) (eY : ∀ j, j < i → El D (Y j)) (hne : ∀ j, j < i → dot D sv (Y j) h ≠ 0) :
    Calls Try.prog 55 #[.pointer (some ⟨Fb, 0, none⟩), .slice so h cs, .slice xo h cx, .slice yo i cy] w (JnP D h i w.heap.size sv xv Y w) := by
  have hq := (fld hD).q2
  have hqm := (fld hD).q64
  have HF : Hid (FAt Fb T D g w ∧ D ∈ fieldsL ∧ Sl so h sv w ∧ Sl xo h xv w ∧ El D sv ∧ El D xv ∧ MatZ yo i A (fun _ => h) C (fun r c => ((Y r c : Nat) : Int)) w ∧ (∀ j, j < i → El D (Y j)) ∧ ∀ j, j < i → dot D sv (Y j) h ≠ 0) := ⟨hF, hD, hs, hx, es, ex, hY, eY, hne⟩
  have HPK : Hid (∃ z, z < D.q ∧ ∀ j, j < i → D.ad (D.mul z (dot D sv (Y j) h)) (dot D xv (Y j) h) ≠ 0) := pick_mul hD (s := fun j => dot D sv (Y j) h) (x := fun j => dot D xv (Y j) h) (fun j hj => ⟨dot_lt (fld hD) _ _ _, hne j hj⟩) (fun j _ => dot_lt (fld hD) _ _ _) hi
  obtain ⟨base, hbase⟩ : ∃ base, base = w.heap.size := ⟨_, rfl⟩
  have hal : Below base w (w.alloc (.cells #[.pointer (some ⟨Fb, 0, none⟩)] 53)) := by rw [hbase]; exact (Below.refl _ _).alloc (Nat.le_refl _) _
  obtain ⟨q, hqe⟩ : ∃ q, q = D.q := ⟨_, rfl⟩
  have HQ : Hid (q = D.q) := hqe
  rw [← hqe] at hqm hq
  have HJ : Hid (∀ e w', JnP D h i base sv xv Y w e w' → JnP D h i w.heap.size sv xv Y w e w') := fun e w' hh => by rw [← hbase]; exact hh
  refine Calls.mono ?_ HJ.out
  have hcB : (w.alloc (.cells #[.pointer (some ⟨Fb, 0, none⟩)] 53)).cell? ⟨base, 0, none⟩ = some (.pointer (some ⟨Fb, 0, none⟩)) := by rw [hbase]; simp
  have HA : Hid (Below base w (w.alloc (.cells #[.pointer (some ⟨Fb, 0, none⟩)] 53)) ∧ FAt Fb T D g (w.alloc (.cells #[.pointer (some ⟨Fb, 0, none⟩)] 53)) ∧ base < (w.alloc (.cells #[.pointer (some ⟨Fb, 0, none⟩)] 53)).heap.size) := ⟨hal, hF.below hal (by rw [hbase]; exact hF.ltF) (by rw [hbase]; exact hF.ltT), cell_lt hcB⟩
  clear hal hD hF hs hx es ex hY eY hne hqe hi
  go_enter Try.func55, Try.ntmps55
  go_wp2_with fail
  refine (size_any HA.out.2.1).mono ?_
  rintro e w' ⟨rfl, hw⟩
  have hw := hw.symm
  subst hw
  rw [← hbase, ← HQ.out]
  have HB1 : Hid (Below base w (w.alloc (.cells #[.pointer (some ⟨Fb, 0, none⟩)] 53)) ∧ (w.alloc (.cells #[.pointer (some ⟨Fb, 0, none⟩)] 53)).cell? ⟨base, 0, none⟩ = some (.pointer (some ⟨Fb, 0, none⟩))) := ⟨HA.out.1, hcB⟩
  have HBA : Hid (base = w.heap.size) := hbase
  clear hcB HA hbase
  go_wp2
  go_loopw [14] (fun vi wr => ∃ r : Nat, r ≤ q ∧ vi = .int .i64 r ∧ Hid (Below base w wr ∧ wr.cell? ⟨base, 0, none⟩ = some (.pointer (some ⟨Fb, 0, none⟩)) ∧ ∀ z, z < r → ∃ j, j < i ∧ D.ad (D.mul z (dot D sv (Y j) h)) (dot D xv (Y j) h) = 0)) (fun vi _ => q - (RowKit.intOf vi).toNat)
  case atStart => exact ⟨0, by omega, rfl, HB1.out.1, HB1.out.2, fun z hz => absurd hz (by omega)⟩
  case round =>
    obtain ⟨r, hr, rfl, HG⟩ := hrel
    rename World => wr
    by_cases hlt : r < q
    · have hib : (r : Int) < (q : Int) := by omega
      go_wp2_with (at_make; refine make_int rfl _ _ rfl _ h rfl rfl (by omega) (by omega) ?_; intro w2 hown2 hgrow2)
      obtain ⟨gr, hgr⟩ : ∃ gr, gr = wr.heap.size := ⟨_, rfl⟩
      obtain ⟨bo, hbo⟩ : ∃ bo, bo = w2.heap.size := ⟨_, rfl⟩
      obtain ⟨wi, hwi⟩ : ∃ wi, wi = w2.alloc (.cells #[.slice (some ⟨wr.heap.size, 0, none⟩) h h] 22) := ⟨_, rfl⟩
      have hb2 : Below wr.heap.size wr w2 := below_grown hgrow2 (Nat.le_refl _) (fun k hk => by simp at hk)
      have hal : Below w2.heap.size w2 wi := by rw [hwi]; exact (Below.refl _ _).alloc (Nat.le_refl _) _
      have hrw := row_zeros hown2
      have hgl : gr < bo := by rw [hgr, hbo]; exact hrw.lt
      have hbg : base < gr := by rw [hgr]; exact cell_lt HG.out.2.1
      have hba : base ≤ wr.heap.size := by omega
      have H3 : Hid (Row gr h (jnV D r sv xv 0) wi ∧ Below base w wi ∧ wi.cell? ⟨base, 0, none⟩ = some (.pointer (some ⟨Fb, 0, none⟩)) ∧ wi.cell? ⟨bo, 0, none⟩ = some (.slice (some ⟨gr, 0, none⟩) h h)) := by
        refine ⟨?_, ?_, ?_, ?_⟩
        · rw [hgr]
          exact (hrw.below hal hrw.lt).congr (fun j _ => by unfold jnV; rw [if_neg (by omega)]; rfl)
        · exact bel_up' (bel_up' HG.out.1 hb2 (by rw [HBA.out]; exact Nat.le_refl _)) hal (by rw [HBA.out]; exact Nat.le_refl _)
        · rw [(bcell hal).1 base 0 (by omega), (bcell hb2).1 base 0 (by omega)]
          exact HG.out.2.1
        · rw [hbo, hwi, hgr]; simp
      rw [← hwi, ← hbo, ← hgr]
      clear hown2 hgrow2 hb2 hal hrw hwi hgr hbo hba
      go_loopw [22] (fun vi wx => ∃ c : Nat, c ≤ h ∧ vi = .int .i64 c ∧ Hid (Row gr h (jnV D r sv xv c) wx ∧ Below base w wx ∧ wx.cell? ⟨base, 0, none⟩ = some (.pointer (some ⟨Fb, 0, none⟩)) ∧ wx.cell? ⟨bo, 0, none⟩ = some (.slice (some ⟨gr, 0, none⟩) h h))) (fun vi _ => h - (RowKit.intOf vi).toNat)
      case atStart => exact ⟨0, by omega, rfl, H3.out⟩
      case round =>
        obtain ⟨c, hc, rfl, HI⟩ := hrel
        rename World => wx
        by_cases hlc : c < h
        · have hic : (c : Int) < (h : Int) := by omega
          have hic0 : (0 : Int) ≤ (c : Int) := by omega
          have hLs := HF.out.2.2.1.ltb h1
          have hLx := HF.out.2.2.2.1.ltb h1
          obtain ⟨b1, o1, hso, hcs⟩ := (HF.out.2.2.1.below HI.out.2.1 (by rw [HBA.out]; exact hLs)) c hlc
          obtain ⟨b2, o2, hxo, hcx⟩ := (HF.out.2.2.2.1.below HI.out.2.1 (by rw [HBA.out]; exact hLx)) c hlc
          clear hLs hLx
          subst hso hxo
          obtain ⟨x, hx⟩ : ∃ x, x = sv c := ⟨_, rfl⟩
          obtain ⟨y, hy⟩ : ∃ y, y = xv c := ⟨_, rfl⟩
          rw [← hx] at hcs
          rw [← hy] at hcx
          have hcg := HI.out.1.cell c hlc
          have hfg := HI.out.1.free c
          have hcB := HI.out.2.2.1
          have hcO := HI.out.2.2.2
          obtain ⟨p, hp⟩ : ∃ p, p = D.mul r x := ⟨_, rfl⟩
          obtain ⟨z, hz⟩ : ∃ z, z = D.ad p y := ⟨_, rfl⟩
          have hatA := HF.out.1.below HI.out.2.1 (by rw [HBA.out]; exact HF.out.1.ltF) (by rw [HBA.out]; exact HF.out.1.ltT)
          have HC1 : Hid (∀ d, Calls Try.prog 44 #[.pointer (some ⟨Fb, 0, none⟩), .int .i64 (r : Nat), .int .i64 (x : Nat)] (wx.drewN d) fun e w' => e = .returned (.int .i64 (p : Nat)) ∧ ∃ k, w' = (wx.drewN d).drewN k) := fun d => by
            rw [hp]
            exact mul_nat HF.out.2.1 (hatA.drewN d) (by rw [← HQ.out]; exact hlt) (by rw [hx]; exact HF.out.2.2.2.2.1 c)
          have HC2 : Hid (∀ d, Calls Try.prog 43 #[.pointer (some ⟨Fb, 0, none⟩), .int .i64 (p : Nat), .int .i64 (y : Nat)] (wx.drewN d) fun e w' => e = .returned (.int .i64 (z : Nat)) ∧ ∃ k, w' = (wx.drewN d).drewN k) := fun d => by
            rw [hz]
            exact add_nat HF.out.2.1 (hatA.drewN d) (by rw [hp]; exact (fld HF.out.2.1).mul_lt _ _) (by rw [hy]; exact HF.out.2.2.2.2.2.1 c)
          have HV : Hid (z = D.ad (D.mul r (sv c)) (xv c)) := by show _ = _; rw [hz, hp, hx, hy]
          clear hy hx hp hz hatA
          go_wp2
          refine quiet_tail 16 (by kernel_rfl) (by kernel_rfl) ?_
          simp only [List.take_succ_cons, List.take_zero, List.drop_succ_cons, List.drop_zero]
          repeat (go_big_quiet_step (first | (go_at_call 44; exact Calls.quiet_of (HC1.out _)) | (go_at_call 43; exact Calls.quiet_of (HC2.out _))))
          refine wpQuiet_nil ?_
          intro _ hw'
          obtain ⟨nq, hw''⟩ := hw'
          subst hw''
          go_wp2
          go_roundw
          case rel =>
            refine ⟨c + 1, by omega, by go_num, (HI.out.1.drewN nq).store c z (fun k _ => ?_), (below_drewN2 HI.out.2.1 nq).setCell (show base ≤ gr by omega) _, ?_, ?_⟩
            · unfold jnV
              by_cases e : k = c
              · rw [if_pos (by omega), if_pos e, e]; exact HV.out.symm
              · rw [if_neg e]
                by_cases e2 : k < c
                · rw [if_pos (by omega), if_pos e2]
                · rw [if_neg (by omega), if_neg e2]
            · rw [World.cell?_setCell_far _ _ _ _ (show gr ≠ base by omega)]
              exact HI.out.2.2.1
            · rw [World.cell?_setCell_far _ _ _ _ (show gr ≠ bo by omega)]
              exact HI.out.2.2.2
          case measure => simp [RowKit.intOf]; omega
        · have e : c = h := by omega
          subst e
          obtain ⟨ab, hab⟩ : ∃ ab, ab = anyB (fun j => decide (dot D (jnV D r sv xv c) (Y j) c = 0)) i := ⟨_, rfl⟩
          have HAB : Hid (ab = anyB (fun j => decide (dot D (jnV D r sv xv c) (Y j) c = 0)) i) := hab
          have hbw : Below w.heap.size w wx := by rw [← HBA.out]; exact HI.out.2.1
          have HK : Hid (∀ cap, Calls Try.prog 71 #[.slice yo i cap, .func (.func 72) #[] #[.pointer (some ⟨base, 0, none⟩), .pointer (some ⟨bo, 0, none⟩)]] wx fun e w' => e = .returned (.bool ab) ∧ ∃ d, w' = wx.drewN d) := fun cap => by
            rw [hab]
            have hM := HF.out.2.2.2.2.2.2.1.below hbw
            have hat := HF.out.1.below hbw HF.out.1.ltF HF.out.1.ltT
            refine containsDr_any enters_joined hM.cell (by omega) (fun j k hj => ?_)
            exact joined1_any (cy := C j) HF.out.2.1 (hat.drewN k) HI.out.2.2.1 HI.out.2.2.2 ((HI.out.1.drewN k).sl (Nat.le_refl _)) ((show Sl (A j) c (Y j) wx from hM.sl j hj).drewN k) (by omega) (fun t _ => jnV_el (fld HF.out.2.1) r sv HF.out.2.2.2.2.2.1 c t) (fun t _ => HF.out.2.2.2.2.2.2.2.1 j hj t)
          have hcO := HI.out.2.2.2
          clear hab hbw
          cases ab with
          | true =>
            go_wp2_with (go_at_call 71; refine (HK.out _).mono ?_; rintro e w' ⟨rfl, d, hw⟩; subst hw)
            go_roundw
            case rel =>
              refine ⟨r + 1, by omega, by go_num, below_drewN2 HI.out.2.1 _, HI.out.2.2.1, fun z hz => ?_⟩
              by_cases e : z = r
              · obtain ⟨j, hj, hd⟩ := anyB_ex i HAB.out.symm
                have hd := of_decide_eq_true hd
                rw [jnV_dot (fld HF.out.2.1) HF.out.2.2.2.2.2.1] at hd
                exact ⟨j, hj, by rw [e]; exact hd⟩
              · exact HG.out.2.2 z (by omega)
            case measure => simp [RowKit.intOf]; omega
          | false =>
            go_wp2_with (go_at_call 71; refine (HK.out _).mono ?_; rintro e w' ⟨rfl, d, hw⟩; subst hw)
            go_ret
            exact ⟨gr, r, rfl, by omega, HI.out.1.drewN _, by rw [← HQ.out]; exact hlt, fun j hj => of_decide_eq_false (anyB_none HAB.out.symm j hj), below_drewN2 HI.out.2.1 _⟩
    · exfalso
      obtain ⟨z, hz, hh⟩ := HPK.out
      rw [← HQ.out] at hz
      obtain ⟨j, hj, e⟩ := HG.out.2.2 z (by omega)
      exact hh j hj e
end Go.Proofs.Ytbnkekeeceicaaa

/- Nets: a sum of multiples of some vectors whose product with none of others is 0 (meeting). -/
namespace Go.Proofs.Ytbnkekeeceicaaa
open Go.RowKit Go.Sort

theorem jnV_is {D : FD} (F : Fld D) {z h : Nat} {a b : Nat → Nat} (ha : Bd h a) (hb : Bd h b) : jnV D z a b h = padd D (pscale D z a) b := by
  funext c
  unfold jnV
  by_cases q : c < h
  · rw [if_pos q]; rfl
  · rw [if_neg q]
    show 0 = D.ad (D.mul z (a c)) (b c)
    rw [ha c (by omega), hb c (by omega), mul0 F, ad_zero F (zero_lt' F)]
theorem jnV_bd (D : FD) (z : Nat) (a b : Nat → Nat) (h : Nat) : Bd h (jnV D z a b h) := fun c hc => by unfold jnV; rw [if_neg (by omega)]
theorem MatZ.less {ao : Option Addr} {m k : Nat} {A : Nat → Option Addr} {N C : Nat → Nat} {Z : Nat → Nat → Int} {w : World} (h : MatZ ao m A N C Z w) (hk : k ≤ m) : MatZ ao k A N C Z w :=
  ⟨fun i hi => h.cell i (by omega), fun i hi => h.sl i (by omega), fun i hi => h.le i (by omega), fun i hi => h.cap i (by omega), fun i hi => h.nil i (by omega), fun i hi => h.few i (by omega)⟩
/-- A sum that meets the first i. -/
def MtS (D : FD) (h k i base : Nat) (X Y : Nat → Nat → Nat) (W : World) (gx : Nat) (o : Nat → Nat) (w' : World) : Prop := base ≤ gx ∧ Row gx h o w' ∧ El D o ∧ Bd h o ∧ Spn D (RowsOf k X) o ∧ (∀ j, j < i → dot D o (Y j) h ≠ 0) ∧ Below base W w'
def MtP (D : FD) (h k base : Nat) (X Y : Nat → Nat → Nat) (W : World) (e : Ending) (w' : World) : Prop := ∃ gx o, e = .returned (.slice (some ⟨gx, 0, none⟩) h h) ∧ MtS D h k k base X Y W gx o w'
set_option maxHeartbeats 4000000 in
set_option maxRecDepth 100000 in
theorem meeting_any {D : FD} (hD : D ∈ fieldsL) {Fb T : Nat} {g : Nat → Value} {xo yo : Option Addr} {h k cx cy : Nat} {AX AY : Nat → Option Addr} {CX CY : Nat → Nat} {X Y : Nat → Nat → Nat} {w : World} (hF : FAt Fb T D g w) (h1 : 1 ≤ h) (h64 : h ≤ 64) (hk : k ≤ D.q) (hcy : k ≤ cy) (hX : MatZ xo k AX (fun _ => h) CX (fun r c => ((X r c : Nat) : Int)) w) (hY : MatZ yo k AY (fun _ => h) CY (fun r c => ((Y r c : Nat) : Int)) w) (eX : ∀ j, j < k → El D (X j)) (bX : ∀ j, j < k → Bd h (X j)) (eY : ∀ j, j < k → El D (Y j)) (hne : ∀ j, j < k → dot D (X j) (Y j) h ≠ 0) :
    Calls Try.prog 38 #[.pointer (some ⟨Fb, 0, none⟩), .slice xo k cx, .slice yo k cy, .int .i64 (h : Nat)] w (MtP D h k w.heap.size X Y w) := by
  have hkm : k ≤ 64 := Nat.le_trans hk (fld hD).q64
  have HF : Hid (FAt Fb T D g w ∧ D ∈ fieldsL ∧ MatZ xo k AX (fun _ => h) CX (fun r c => ((X r c : Nat) : Int)) w ∧ MatZ yo k AY (fun _ => h) CY (fun r c => ((Y r c : Nat) : Int)) w ∧ (∀ j, j < k → El D (X j)) ∧ (∀ j, j < k → Bd h (X j)) ∧ (∀ j, j < k → El D (Y j)) ∧ (∀ j, j < k → dot D (X j) (Y j) h ≠ 0) ∧ k ≤ D.q) := ⟨hF, hD, hX, hY, eX, bX, eY, hne, hk⟩
  clear hD hF hX hY eX bX eY hne hk
  go_enter Try.func38, Try.ntmps38
  go_wp2_with (at_make; refine make_int rfl _ _ rfl _ h rfl rfl (by omega) (by omega) ?_; intro w1 hown1 hgrow1)
  have H1 : Hid (MtS D h k 0 w.heap.size X Y w w.heap.size pnil w1) := ⟨Nat.le_refl _, row_zeros hown1, el_nil (fld HF.out.2.1), fun _ _ => rfl, spn_nil D _, fun j hj => absurd hj (by omega), below_grown hgrow1 (Nat.le_refl _) (fun k hk => by simp at hk)⟩
  clear hown1 hgrow1
  go_loopw [9, 16] (fun vo vi wr => ∃ (i gx : Nat) (o : Nat → Nat), i ≤ k ∧ vi = .int .i64 i ∧ vo = .slice (some ⟨gx, 0, none⟩) h h ∧ Hid (MtS D h k i w.heap.size X Y w gx o wr)) (fun _ vi _ => k - (RowKit.intOf vi).toNat)
  case atStart => exact ⟨0, _, _, by omega, rfl, rfl, H1⟩
  case round =>
    obtain ⟨i, gx, o, hi, rfl, rfl, HG⟩ := hrel
    rename World => wr
    by_cases hlt : i < k
    · have hib : (i : Int) < (k : Int) := by omega
      have hib0 : (0 : Int) ≤ (i : Int) := by omega
      have hic : (i : Int) ≤ (cy : Int) := by omega
      obtain ⟨a1, a2, a3, a4, a5, a6, a7⟩ := HG.out
      have hMX := HF.out.2.2.1.below a7
      have hMY := HF.out.2.2.2.1.below a7
      have hat := HF.out.1.below a7 HF.out.1.ltF HF.out.1.ltT
      obtain ⟨b1, o1, hxo, hcX⟩ := hMX.cell i hlt
      obtain ⟨b2, o2, hyo, hcY⟩ := hMY.cell i hlt
      have hcX : wr.cell? ⟨b1, o1 + i, none⟩ = some (.slice (AX i) h (CX i)) := hcX
      have hcY : wr.cell? ⟨b2, o2 + i, none⟩ = some (.slice (AY i) h (CY i)) := hcY
      have HP : Hid (∀ ca cb, Calls Try.prog 27 #[.pointer (some ⟨Fb, 0, none⟩), .slice (some ⟨gx, 0, none⟩) h ca, .slice (AY i) h cb] wr fun e w' => e = .returned (.int .i64 (dot D o (Y i) h : Nat)) ∧ ∃ d, w' = wr.drewN d) := fun ca cb => nproduct_any HF.out.2.1 hat (a2.sl (Nat.le_refl _)) (show Sl (AY i) h (Y i) wr from hMY.sl i hlt) (by omega) (fun j _ => a3 j) (fun j _ => HF.out.2.2.2.2.2.2.1 i hlt j)
      obtain ⟨dd, hdd⟩ : ∃ dd, dd = dot D o (Y i) h := ⟨_, rfl⟩
      have HDD : Hid (dd = dot D o (Y i) h) := hdd
      rw [← hdd] at HP
      have HJn : Hid (∀ d ca cb cc, Calls Try.prog 55 #[.pointer (some ⟨Fb, 0, none⟩), .slice (some ⟨gx, 0, none⟩) h ca, .slice (AX i) h cb, .slice yo i cc] (wr.drewN d) (JnP D h i (wr.drewN d).heap.size o (X i) Y (wr.drewN d))) := fun d ca cb cc => joined_any HF.out.2.1 (hat.drewN d) h1 h64 (by have := HF.out.2.2.2.2.2.2.2.2; omega) (by omega) ((a2.sl (Nat.le_refl _)).drewN d) ((show Sl (AX i) h (X i) wr from hMX.sl i hlt).drewN d) a3 (HF.out.2.2.2.2.1 i hlt) ((hMY.less (Nat.le_of_lt hlt)).below (below_drewN2 (Below.refl _ _) d)) (fun j hj => HF.out.2.2.2.2.2.2.1 j (by omega)) a6
      clear a1 a2 a3 a4 a5 a6 a7 hMX hMY hat hdd
      subst hxo hyo
      by_cases hd0 : dd = 0
      · have HD0 : Hid (dot D o (Y i) h = 0) := by show _ = _; rw [← HDD.out]; exact hd0
        subst hd0
        clear HDD
        go_wp2_with (first | (go_at_call 27; refine (HP.out _ _).mono ?_; rintro e w' ⟨rfl, d, hw⟩; subst hw) | (go_at_call 55; refine (HJn.out _ _ _ _).mono ?_; rintro e w' ⟨gy, z, rfl, k1, k2, k3, k4, k5⟩))
        go_roundw
        case rel =>
          obtain ⟨a1, a2, a3, a4, a5, a6, a7⟩ := HG.out
          have F := fld HF.out.2.1
          have hXe := HF.out.2.2.2.2.1 i hlt
          have hXb := HF.out.2.2.2.2.2.1 i hlt
          refine ⟨i + 1, gy, jnV D z o (X i) h, by omega, by go_num, rfl, Nat.le_trans a7.size k1, k2, jnV_el F z o hXe h, jnV_bd D z o (X i) h, ?_, fun j hj => ?_, bel_up' (below_drewN2 a7 d) k5⟩
          · rw [jnV_is F a4 hXb]
            exact spn_add F (spn_scale F z a5) (spn_mem F hXe ⟨i, hlt, rfl⟩)
          · by_cases e : j = i
            · rw [e, jnV_dot F hXe, HD0.out, mul0 F, zero_ad F (dot_lt F _ _ _)]
              exact HF.out.2.2.2.2.2.2.2.1 i hlt
            · exact k4 j (by omega)
        case measure => simp [RowKit.intOf]; omega
      · have HD0 : Hid (dot D o (Y i) h ≠ 0) := by show _ ≠ _; rw [← HDD.out]; exact hd0
        have hdz : ((dd : Nat) : Int) ≠ 0 := by omega
        clear HDD
        go_wp2_with (first | (go_at_call 27; refine (HP.out _ _).mono ?_; rintro e w' ⟨rfl, d, hw⟩; subst hw))
        go_roundw
        case rel =>
          obtain ⟨a1, a2, a3, a4, a5, a6, a7⟩ := HG.out
          refine ⟨i + 1, gx, o, by omega, by go_num, rfl, a1, a2.drewN _, a3, a4, a5, fun j hj => ?_, below_drewN2 a7 _⟩
          by_cases e : j = i
          · rw [e]; exact HD0.out
          · exact a6 j (by omega)
        case measure => simp [RowKit.intOf]; omega
    · have e : i = k := by omega
      subst e
      go_wp2
      go_ret
      exact ⟨gx, o, rfl, HG.out⟩
end Go.Proofs.Ytbnkekeeceicaaa

/- Nets: all sinks' fronts; what stands of them while an edge is passed. -/
namespace Go.Proofs.Ytbnkekeeceicaaa
open Go.RowKit Go.Sort Go.Maps

/-- k fronts: a map from edges to ways, and the last vectors of h ways. -/
structure Frs (fb k h : Nat) (mb lb : Nat → Nat) (vb : Nat → Nat → Nat) (As : Nat → List Nat) (wy : Nat → Nat → Nat) (L : Nat → Nat → Nat → Nat) (w : World) : Prop where
  c0 : ∀ s, s < k → w.cell? ⟨fb, s * 2, none⟩ = some (.map (some (mb s)))
  c1 : ∀ s, s < k → w.cell? ⟨fb, s * 2 + 1, none⟩ = some (.slice (some ⟨lb s, 0, none⟩) h h)
  mp : ∀ s, s < k → MapN (mb s) (As s) (fun e => ((wy s e : Nat) : Int)) w
  rows : ∀ s, s < k → RowF (lb s) h 22 (fun j => .slice (some ⟨vb s j, 0, none⟩) h h) w
  vec : ∀ s, s < k → ∀ j, j < h → Row (vb s j) h (L s j) w
  inj : ∀ s, s < k → ∀ t, t < k → lb s = lb t → s = t
theorem Frs.below {fb k h : Nat} {mb lb : Nat → Nat} {vb : Nat → Nat → Nat} {As : Nat → List Nat} {wy : Nat → Nat → Nat} {L : Nat → Nat → Nat → Nat} {w w' : World} (H : Frs fb k h mb lb vb As wy L w) (hb : Below w.heap.size w w') : Frs fb k h mb lb vb As wy L w' :=
  ⟨fun s hs => ((bcell hb).1 _ _ (cell_lt (H.c0 s hs))).trans (H.c0 s hs), fun s hs => ((bcell hb).1 _ _ (cell_lt (H.c1 s hs))).trans (H.c1 s hs), fun s hs => (H.mp s hs).below hb, fun s hs => (H.rows s hs).other (hb.block _ (H.rows s hs).lt), fun s hs j hj => (H.vec s hs j hj).below hb (H.vec s hs j hj).lt, H.inj⟩
theorem Frs.mat {fb k h : Nat} {mb lb : Nat → Nat} {vb : Nat → Nat → Nat} {As : Nat → List Nat} {wy : Nat → Nat → Nat} {L : Nat → Nat → Nat → Nat} {w : World} (H : Frs fb k h mb lb vb As wy L w) {s : Nat} (hs : s < k) (hh : h ≤ 64) : MatZ (some ⟨lb s, 0, none⟩) h (fun j => some ⟨vb s j, 0, none⟩) (fun _ => h) (fun _ => h) (fun j c => ((L s j c : Nat) : Int)) w :=
  ⟨fun j hj => ⟨lb s, 0, rfl, by rw [Nat.zero_add]; exact (H.rows s hs).cell j hj⟩, fun j hj => (H.vec s hs j hj).sl (Nat.le_refl _), fun _ _ => Nat.le_refl _, fun _ _ => by show h ≤ _; omega, fun _ _ e => (by cases e), fun _ _ => by show h ≤ _; omega⟩
/-- Two lists of the call's own that begin with different things lie in different blocks. -/
theorem ownV_two {base : Nat} {v1 v2 : Value} {l1 l2 : List Value} {w : World} (h1 : OwnV base v1 l1 w) (h2 : OwnV base v2 l2 w) (n1 : l1 = [] → v1 = .slice none 0 0) (n2 : l2 = [] → v2 = .slice none 0 0) (hne : ∀ a b, l1[0]? = some a → l2[0]? = some b → a ≠ b) : v1.ownBlock = none ∨ v1.ownBlock ≠ v2.ownBlock := by
  cases l1 with
  | nil => exact Or.inl (by rw [n1 rfl]; rfl)
  | cons a l1 =>
    cases l2 with
    | nil =>
      by_cases c : v1.ownBlock = none
      · exact Or.inl c
      · exact Or.inr (by rw [n2 rfl]; exact c)
    | cons b l2 =>
      obtain ⟨o1, c1, e1, _, _, _, k1⟩ := h1.open
      obtain ⟨o2, c2, e2, _, _, _, k2⟩ := h2.open
      obtain ⟨g1, q1, r1, _⟩ := k1 0 a rfl
      obtain ⟨g2, q2, r2, _⟩ := k2 0 b rfl
      subst q1 q2 e1 e2
      refine Or.inr fun e => ?_
      have e : some g1 = some g2 := e
      cases e
      rw [r1] at r2
      exact hne a b rfl rfl (Option.some.inj r2)
/-- The fronts that take an edge. -/
def tkE (As : Nat → List Nat) (e : Nat) : Nat → Int := fun s => if e ∈ As s then 1 else 0
def tkL (As : Nat → List Nat) (e i : Nat) : List Nat := tlN (tkE As e) 1 i
theorem tkL_yes {As : Nat → List Nat} {e i : Nat} (h : e ∈ As i) : tkL As e (i + 1) = tkL As e i ++ [i] := by
  show (if tkE As e i = 1 then tlN (tkE As e) 1 i ++ [i] else tlN (tkE As e) 1 i) = _
  rw [if_pos (by unfold tkE; rw [if_pos h])]; rfl
theorem tkL_no {As : Nat → List Nat} {e i : Nat} (h : e ∉ As i) : tkL As e (i + 1) = tkL As e i := by
  show (if tkE As e i = 1 then tlN (tkE As e) 1 i ++ [i] else tlN (tkE As e) 1 i) = _
  rw [if_neg (by unfold tkE; rw [if_neg h]; decide)]; rfl
theorem tkL_lt {As : Nat → List Nat} {e i : Nat} : ∀ s ∈ tkL As e i, s < i := tlN_lt i
theorem tkL_mem {As : Nat → List Nat} {e : Nat} : ∀ i, ∀ s ∈ tkL As e i, e ∈ As s
  | 0, s, h => (by cases h)
  | i + 1, s, h => by
    by_cases c : e ∈ As i
    · rw [tkL_yes c] at h
      rcases List.mem_append.1 h with h | h
      · exact tkL_mem i s h
      · rw [List.mem_singleton.1 h]; exact c
    · rw [tkL_no c] at h; exact tkL_mem i s h
theorem tkL_in {As : Nat → List Nat} {e s : Nat} (h : e ∈ As s) : ∀ i, s < i → s ∈ tkL As e i
  | 0, hs => absurd hs (by omega)
  | i + 1, hs => by
    by_cases c : s = i
    · subst c; rw [tkL_yes h]; simp
    · have ih := tkL_in h i (by omega)
      by_cases d : e ∈ As i
      · rw [tkL_yes d]; exact List.mem_append_left _ ih
      · rw [tkL_no d]; exact ih
theorem tkL_len (As : Nat → List Nat) (e i : Nat) : (tkL As e i).length ≤ i := tlN_len _ _ _
/-- What stands when i fronts have been asked. -/
structure PsI (D : FD) (h base e : Nat) (As : Nat → List Nat) (wy : Nat → Nat → Nat) (L : Nat → Nat → Nat → Nat) (vb : Nat → Nat → Nat) (i : Nat) (v9 v10 : Value) (yb : Nat → Nat) (Y : Nat → Nat → Nat) (W wr : World) : Prop where
  xs : OwnV base v9 (rowsN (fun s => some ⟨vb s (wy s e), 0, none⟩) (fun _ => h) (fun _ => h) (tkL As e i)) wr
  ys : OwnV base v10 (rowsN (fun s => some ⟨yb s, 0, none⟩) (fun _ => h) (fun _ => h) (tkL As e i)) wr
  nx : tkL As e i = [] → v9 = .slice none 0 0
  ny : tkL As e i = [] → v10 = .slice none 0 0
  row : ∀ s ∈ tkL As e i, base ≤ yb s ∧ Row (yb s) h (Y s) wr ∧ El D (Y s) ∧ ∀ j, j < h → dot D (L s j) (Y s) h = if j = wy s e then 1 else 0
  vlt : ∀ s ∈ tkL As e i, vb s (wy s e) < base
  bel : Below base W wr
theorem PsI.below {D : FD} {h base e : Nat} {As : Nat → List Nat} {wy : Nat → Nat → Nat} {L : Nat → Nat → Nat → Nat} {vb : Nat → Nat → Nat} {i : Nat} {v9 v10 : Value} {yb : Nat → Nat} {Y : Nat → Nat → Nat} {W w w' : World} (H : PsI D h base e As wy L vb i v9 v10 yb Y W w) (hb : Below w.heap.size w w') (hB : base ≤ W.heap.size) : PsI D h base e As wy L vb i v9 v10 yb Y W w' :=
  ⟨H.xs.below hb (Nat.le_refl _), H.ys.below hb (Nat.le_refl _), H.nx, H.ny, fun s hs => ⟨(H.row s hs).1, (H.row s hs).2.1.below hb (H.row s hs).2.1.lt, (H.row s hs).2.2⟩, H.vlt, bel_up' H.bel hb hB⟩
theorem rowsN_nil {A : Nat → Option Addr} {N C : Nat → Nat} {l : List Nat} (h : rowsN A N C l = []) : l = [] := by
  cases l with
  | nil => rfl
  | cons a l => cases h
/-- The first of the one and the first of the other differ. -/
theorem rows_apart {l : List Nat} {va ya : Nat → Nat} {h base : Nat} {r : List Value} (hv : ∀ s ∈ l, va s < base) (hy : ∀ s ∈ l, base ≤ ya s) (a b : Value) (ha : (rowsN (fun s => some ⟨va s, 0, none⟩) (fun _ => h) (fun _ => h) l ++ r)[0]? = some a) (hb : (rowsN (fun s => some ⟨ya s, 0, none⟩) (fun _ => h) (fun _ => h) l)[0]? = some b) : a ≠ b := by
  cases l with
  | nil => cases hb
  | cons s t =>
    have ha : some (Value.slice (some ⟨va s, 0, none⟩) h h) = some a := ha
    have hb : some (Value.slice (some ⟨ya s, 0, none⟩) h h) = some b := hb
    cases ha
    cases hb
    intro e
    have e : va s = ya s := by injection e with e1; injection e1 with e2; injection e2
    have h1 := hv s (by simp)
    have h2 := hy s (by simp)
    omega
theorem PsI.yx {D : FD} {h base e : Nat} {As : Nat → List Nat} {wy : Nat → Nat → Nat} {L : Nat → Nat → Nat → Nat} {vb : Nat → Nat → Nat} {i : Nat} {v9 v10 : Value} {yb : Nat → Nat} {Y : Nat → Nat → Nat} {W w : World} (H : PsI D h base e As wy L vb i v9 v10 yb Y W w) : v10.ownBlock = none ∨ v10.ownBlock ≠ v9.ownBlock :=
  ownV_two H.ys H.xs (fun q => H.ny (rowsN_nil q)) (fun q => H.nx (rowsN_nil q)) (fun a b ha hb => Ne.symm (rows_apart (r := []) H.vlt (fun s hs => (H.row s hs).1) b a (by rw [List.append_nil]; exact hb) ha))
theorem psI_push {D : FD} {h e : Nat} {As : Nat → List Nat} {wy : Nat → Nat → Nat} {L : Nat → Nat → Nat → Nat} {vb : Nat → Nat → Nat} {i y x gx : Nat} {v2 v5 u10 : Value} {yb : Nat → Nat} {sv : Nat → Nat} {Y : Nat → Nat → Nat} {w w4 w5 : World} (hin : e ∈ As i) (hx : x = vb i (wy i e)) (hxl : x < w.heap.size) (hy : y = wy i e) (ny : tkL As e i = [] → u10 = .slice none 0 0) (hv : ∀ s ∈ tkL As e i, vb s (wy s e) < w.heap.size)
    (o9 : OwnV w.heap.size v2 (rowsN (fun s => some ⟨vb s (wy s e), 0, none⟩) (fun _ => h) (fun _ => h) (tkL As e i) ++ [.slice (some ⟨x, 0, none⟩) h h]) w4) (o10 : OwnV w.heap.size u10 (rowsN (fun s => some ⟨yb s, 0, none⟩) (fun _ => h) (fun _ => h) (tkL As e i)) w4)
    (hr : ∀ s ∈ tkL As e i, w.heap.size ≤ yb s ∧ Row (yb s) h (Y s) w4 ∧ El D (Y s) ∧ ∀ j, j < h → dot D (L s j) (Y s) h = if j = wy s e then 1 else 0) (hgx : w.heap.size ≤ gx) (hrow : Row gx h sv w4) (he : El D sv) (hd : ∀ j, j < h → dot D (L i j) sv h = if j = y then 1 else 0)
    (hown : OwnV w.heap.size v5 (rowsN (fun s => some ⟨yb s, 0, none⟩) (fun _ => h) (fun _ => h) (tkL As e i) ++ [.slice (some ⟨gx, 0, none⟩) h h]) w5) (hg : w4.grownBy w5 u10.ownBlock) (hb : Below w.heap.size w w5) :
    PsI D h w.heap.size e As wy L vb (i + 1) v2 v5 (fun s => if s = i then gx else yb s) (fun s => if s = i then sv else Y s) w w5 := by
  have hlt : ∀ s ∈ tkL As e i, s ≠ i := fun s hs => by have := tkL_lt s hs; omega
  have hne : tkL As e (i + 1) ≠ [] := by rw [tkL_yes hin]; simp
  refine ⟨?_, ?_, fun q => absurd q hne, fun q => absurd q hne, fun s hs => ?_, fun s hs => ?_, hb⟩
  · have h1 := o9.grown hg (ownV_two o9 o10 (fun q => absurd q (by simp)) (fun q => ny (rowsN_nil q)) (rows_apart hv (fun s hs => (hr s hs).1)))
    rw [tkL_yes hin]
    unfold rowsN
    rw [List.map_append]
    rw [hx] at h1
    exact h1
  · rw [tkL_yes hin]
    unfold rowsN
    rw [List.map_append]
    have e1 : (tkL As e i).map (fun s => Value.slice ((fun s => some ⟨if s = i then gx else yb s, 0, none⟩) s) h h) = (tkL As e i).map (fun s => Value.slice (some ⟨yb s, 0, none⟩) h h) := List.map_congr_left (fun s hs => by show Value.slice (some ⟨if s = i then gx else yb s, 0, none⟩) h h = _; rw [if_neg (hlt s hs)])
    rw [e1]
    have e2 : [i].map (fun s => Value.slice ((fun s => some ⟨if s = i then gx else yb s, 0, none⟩) s) h h) = [.slice (some ⟨gx, 0, none⟩) h h] := by simp
    rw [e2]
    exact hown
  · rw [tkL_yes hin] at hs
    rcases List.mem_append.1 hs with hs | hs
    · rw [if_neg (hlt s hs), if_neg (hlt s hs)]
      have h1 := hr s hs
      exact ⟨h1.1, h1.2.1.other (hg.block _ h1.2.1.lt (h1.2.1.apart o10)), h1.2.2⟩
    · rw [List.mem_singleton.1 hs, if_pos rfl, if_pos rfl]
      exact ⟨hgx, hrow.other (hg.block _ hrow.lt (hrow.apart o10)), he, fun j hj => by rw [hd j hj, hy]⟩
  · rw [tkL_yes hin] at hs
    rcases List.mem_append.1 hs with hs | hs
    · exact hv s hs
    · rw [List.mem_singleton.1 hs, ← hx]; exact hxl
theorem PsI.skip {D : FD} {h base e : Nat} {As : Nat → List Nat} {wy : Nat → Nat → Nat} {L : Nat → Nat → Nat → Nat} {vb : Nat → Nat → Nat} {i : Nat} {v9 v10 : Value} {yb : Nat → Nat} {Y : Nat → Nat → Nat} {W w : World} (H : PsI D h base e As wy L vb i v9 v10 yb Y W w) (hn : e ∉ As i) : PsI D h base e As wy L vb (i + 1) v9 v10 yb Y W w := by
  have e1 := tkL_no hn
  exact ⟨by rw [e1]; exact H.xs, by rw [e1]; exact H.ys, by rw [e1]; exact H.nx, by rw [e1]; exact H.ny, by rw [e1]; exact H.row, by rw [e1]; exact H.vlt, H.bel⟩
end Go.Proofs.Ytbnkekeeceicaaa
