/- Texts of ours, one behind the other: L11 L12 L13 L14 L15 L16 L17 L18 L19 U23 H1 H2 H3 H4 K4 K5 S8 Y1 Y2 Y3 S9 Y4 W10 Y5 S10 S11 Z1 Z2 Z3 Z4 Z5 Z6 Z7 Z8 Z9 Z10 Z11 Z12 Q1 Q2 W11 Q3 Q4 Q5 Q6. -/
import Derived.Test.YtinmkgohganllaaGreatDoorZX17
import Derived.Test.YtinmkgohganllaaGreatDoorZL10
import Derived.Test.YtinmkgohganllaaGreatDoorZX15
import Derived.Test.YtinmkgohganllaaGreatDoorZV7
import Derived.Maps.AppendAt
import Derived.Deep.AppendLies
import Derived.Test.YtinmkgohganllaaGreatDoorZT1
import Derived.Test.YtinmkgohganllaaGreatDoorZR13
import Derived.Test.YtinmkgohganllaaGreatDoorZL1
import Derived.Test.YtinmkgohganllaaGreatDoorZX3
import Derived.Test.YtinmkgohganllaaGreatDoorZU5
import Derived.Deep.RegionHeld3
import Derived.WalkKit
namespace Go.Proofs.YtinmkgohganllaaGreatDoor
open Go.RowKit Go.Sort
theorem sl_sliceI {x : Option Addr} {n cx : Nat} {c : Nat → Nat} {w : World} (h : Sl x n c w) (hn : n ≤ 1000000) : SliceI (.slice x n cx) (zl n fun j => ((c j : Nat) : Int)) w := by
 by_cases h0 : n = 0
 · subst h0
   exact Or.inl ⟨rfl,x,cx,rfl⟩
 · obtain ⟨b,off,e,_⟩ := h 0 (by omega)
   refine Or.inr ⟨fun e => ?_,by rw [zl_len]; exact hn,b,off,cx,by rw [zl_len,e],fun j hj => ?_⟩
   · have := congrArg List.length e
     rw [zl_len] at this
     exact h0 this
   · rw [zl_len] at hj
     obtain ⟨b',off',e',hc⟩ := h j hj
     rw [e] at e'
     cases e'
     rw [zl_getD n _ j hj]; exact hc
set_option maxHeartbeats 2000000 in
set_option maxRecDepth 100000 in
theorem sameAll_rl {va vb : Value} {k n : Nat} {R : Nat → Nat → Nat} {w : World} (ha : RL va k n R w) (hb : RL vb k n R w) (hk : k ≤ 1000000) (hn : n ≤ 1000000) :
   Calls Tryz.prog 81 #[va,vb] w fun e w' => e = .returned (.bool true) ∧ ∃ n,w' = w.drewN n := by
 obtain ⟨ao,ca,rfl,ha⟩ := ha
 obtain ⟨bo,cb,rfl,hb⟩ := hb
 have HC : Hid ((∀ i,i < k → ∃ b off x cx,ao = some ⟨b,off,none⟩ ∧ w.cell? ⟨b,off + i,none⟩ = some (.slice x n cx) ∧ Sl x n (R i) w) ∧ ∀ i,i < k → ∃ b off x cx,bo = some ⟨b,off,none⟩ ∧ w.cell? ⟨b,off + i,none⟩ = some (.slice x n cx) ∧ Sl x n (R i) w) := ⟨ha,hb⟩
 clear ha hb
 go_enter Tryz.func81,Tryz.ntmps81
 go_wp2
 go_loopw [5] (fun i wr => ∃ r : Nat,r ≤ k ∧ i = .int .i64 r ∧ ∃ n,wr = w.drewN n) (fun i _ => k - (intOf i).toNat)
 case atStart => exact ⟨0,by omega,rfl,0,rfl⟩
 case round =>
   obtain ⟨r,hr,rfl,d,rfl⟩ := hrel
   by_cases hlt : r < k
   · obtain ⟨b,off,x,cx,rfl,hc,hs⟩ := HC.out.1 r hlt
     obtain ⟨b',off',x',cx',rfl,hc',hs'⟩ := HC.out.2 r hlt
     have HS : Hid (∀ k,Calls Tryz.prog 39 #[.slice x n cx, .slice x' n cx'] (w.drewN (d + k)) fun e w' => e = .returned (.bool true) ∧ ∃ m,w' = w.drewN (d + m)) := fun k => by
       refine (same_any (w := w.drewN (d + k)) ((sl_sliceI hs hn).drewN _) ((sl_sliceI hs' hn).drewN _)).mono ?_
       rintro e w' ⟨rfl,m,rfl⟩
       exact ⟨by rw [decide_eq_true rfl],k + m,by rw [World.drewN_drewN,Nat.add_assoc]⟩
     have hib : (r : Int) < (k : Int) := by omega
     have hib0 : (0 : Int) ≤ (r : Int) := by omega
     clear hs hs'
     go_wp2
     go_big_quiet (first | (go_at_call 39; exact HS.out _))
     go_wp2
     go_roundw
     case rel => exact ⟨r + 1,by omega,by go_num,_,by first | rfl | rw [World.drewN_drewN]⟩
     case measure => simp [intOf]; omega
   · go_wp2
     go_ret
     exact ⟨rfl,_,rfl⟩
set_option maxHeartbeats 4000000 in
set_option maxRecDepth 100000 in
theorem relements_any {D : FD} (gen : Nat) (v : Value) {ao : Option Addr} {n ca : Nat} {z : Nat → Int} {w : World} (hn : n ≤ 1000000) (hA : SlZ ao n z w) :
   Calls Tryz.prog 50 #[.agg #[.int .i64 D.q, .int .i64 D.p, .int .i64 D.m, .int .i64 gen,v], .slice ao n ca] w fun e w' => e = .returned (.bool (D.allHas z n)) ∧ Below w.heap.size w w' := by
 have hbl : Below w.heap.size w (w.alloc (.cells #[.int .i64 D.q, .int .i64 D.p, .int .i64 D.m, .int .i64 gen,v] 48)) := (Below.refl _ _).alloc (Nat.le_refl _) _
 have HS : Hid (SlZ ao n z w ∧ Box w.heap.size D gen v (w.alloc (.cells #[.int .i64 D.q, .int .i64 D.p, .int .i64 D.m, .int .i64 gen,v] 48)) ∧ Below w.heap.size w (w.alloc (.cells #[.int .i64 D.q, .int .i64 D.p, .int .i64 D.m, .int .i64 gen,v] 48))) := ⟨hA,box_new D gen _ w,hbl⟩
 clear hA hbl
 go_enter Tryz.func50,Tryz.ntmps50
 go_wp2
 go_loopw [5] (fun i wr => ∃ r : Nat,r ≤ n ∧ i = .int .i64 r ∧ Hid (Box w.heap.size D gen v wr ∧ Below w.heap.size w wr ∧ D.allHas z r = true) ∧ w.heap.size < wr.heap.size) (fun i _ => n - (intOf i).toNat)
 case atStart => exact ⟨0,by omega,rfl,⟨HS.out.2.1,HS.out.2.2,rfl⟩,by simp⟩
 case round =>
   obtain ⟨r,hr,rfl,HG,hsz⟩ := hrel
   rename World => wr
   by_cases hlt : r < n
   · obtain ⟨b,off,rfl,hcl⟩ := (slz_below HS.out.1 HG.out.2.1) r hlt
     obtain ⟨x,hx⟩ : ∃ x,x = z r := ⟨_,rfl⟩
     rw [← hx] at hcl
     have z1 : (0 : Int) ≤ (r : Int) := by omega
     have z2 : (r : Int) < (n : Int) := by omega
     have k0 := cell_regrown HG.out.1.c0
     have k1 := cell_regrown HG.out.1.c1
     have k2 := cell_regrown HG.out.1.c2
     have k3 := cell_regrown HG.out.1.c3
     have k4 := cell_regrown HG.out.1.c4
     have k5 := cell_regrown hcl
     have HC : Hid (∀ d os,Calls Tryz.prog 72 #[.agg #[.int .i64 D.q, .int .i64 D.p, .int .i64 D.m, .int .i64 gen,v], .int .i64 x] (grow (redrawn wr d) os) fun e w'' => e = .returned (.bool (D.has x)) ∧ ∃ p : Regrown,w'' = grow (redrawn wr p.d) p.os) := fun d os => Calls.regrown_of (rhas_any D gen v x (grow (redrawn wr d) os))
     by_cases hh : D.has x = true
     · rw [hh] at HC
       have HH : Hid (D.allHas z (r + 1) = true) := by
         show (D.allHas z r && D.has (z r)) = true
         rw [HG.out.2.2, ← hx,hh]; rfl
       clear hx hcl hh
       go_wp2
       refine wp_region_quiet_below (by kernel_rfl) (by kernel_rfl) ?_
       repeat (go_big_quiet_step (first | (go_at_call 72; exact HC.out _ _)))
       refine wpQuiet_nil ?_
       intro _ hw'
       obtain ⟨⟨dq,osq⟩,hw''⟩ := hw'
       subst hw''
       have hb := below_regrown wr dq osq
       have HR : Hid (Box w.heap.size D gen v (grow (redrawn wr dq) osq) ∧ Below w.heap.size w (grow (redrawn wr dq) osq)) := ⟨HG.out.1.below hb hsz,bel_up HG.out.2.1 hb⟩
       have hs := hb.size
       clear hb k0 k1 k2 k3 k4 k5 HC
       go_wp2
       go_roundw
       case rel => exact ⟨r + 1,by omega,by go_num,⟨HR.out.1,HR.out.2,HH.out⟩,by omega⟩
       case measure => simp [intOf]; omega
     · have hh' : D.has x = false := by simpa using hh
       rw [hh'] at HC
       have HH : Hid (D.allHas z n = false) := by
         show _ = _
         cases h : D.allHas z n with
         | false => rfl
         | true => exact absurd (by rw [hx]; exact allHas_iff.1 h r hlt) hh
       clear hx hcl hh hh'
       go_wp2
       refine wp_region_quiet_below (by kernel_rfl) (by kernel_rfl) ?_
       repeat (go_big_quiet_step (first | (go_at_call 72; exact HC.out _ _)))
       refine wpQuiet_nil ?_
       intro _ hw'
       obtain ⟨⟨dq,osq⟩,hw''⟩ := hw'
       subst hw''
       have hb := below_regrown wr dq osq
       have HR : Hid (Below w.heap.size w (grow (redrawn wr dq) osq)) := bel_up HG.out.2.1 hb
       clear hb k0 k1 k2 k3 k4 k5 HC
       go_wp2
       go_ret
       exact ⟨by rw [HH.out]; rfl,HR.out⟩
   · have hre : n = r := by omega
     subst hre
     have HH : Hid (D.allHas z n = true) := HG.out.2.2
     go_wp2
     go_ret
     exact ⟨by rw [HH.out]; rfl,HG.out.2.1⟩
theorem mchk_of {D : FD} {m : Nat} {N : Nat → Nat} {Z : Nat → Nat → Int} (hm : m ≤ 64) (h : ∀ i,i < m → D.mrow (N 0) (N i) (Z i) = 0) : D.mchk m N Z = 0 := by
 have key : ∀ k,k ≤ m → D.mchks N Z k = 0 := fun k => by
   induction k with
   | zero => intro _; rfl
   | succ k ih =>
     intro hk
     rw [FD.mchks,ih (by omega)]
     simp [h k (by omega)]
 unfold FD.mchk
 rw [if_neg (by omega)]
 exact key m (Nat.le_refl _)
theorem RL.open {v : Value} {k n : Nat} {R : Nat → Nat → Nat} {w : World} (h : RL v k n R w) : ∃ ao ca,v = .slice ao k ca := by
 obtain ⟨ao,ca,e,_⟩ := h
 exact ⟨ao,ca,e⟩
theorem KI.open {v : Value} {k : Nat} {z : Nat → Int} {w : World} (h : KI v (zl k z) w) : ∃ ao ca,v = .slice ao k ca := by
 rcases h.1 with ⟨e,ao,ca,rfl⟩ | ⟨_,_,b,off,ca,rfl,_⟩
 · have := congrArg List.length e
   rw [zl_len] at this
   have : k = 0 := this
   subst this
   exact ⟨ao,ca,rfl⟩
 · rw [zl_len]; exact ⟨_,_,rfl⟩
theorem KI.same {va vb : Value} {l : List Int} {w : World} (ha : KI va l w) (hb : KI vb l w) :
   Calls Tryz.prog 39 #[va,vb] w fun e w' => e = .returned (.bool true) ∧ Below w.heap.size w w' := by
 refine (same_any ha.1 hb.1).mono ?_
 rintro e w' ⟨rfl,d,rfl⟩
 exact ⟨by rw [decide_eq_true rfl],⟨rfl,rfl,rfl,Nat.le_refl _,fun _ _ => rfl⟩⟩
theorem OwnP.arg {base n : Nat} {v : Value} {c : Nat → Nat} {w : World} (h : OwnP base v n c w) (hn : n ≤ 1000000) : ∃ so sc,v = .slice so n sc ∧ Arg so n sc (fun j => ((c j : Nat) : Int)) w := by
 obtain ⟨so,sc,rfl,h1,h2,_,h4,h5,h6⟩ := h.open
 exact ⟨so,sc,rfl,h6,h4,hn,h5,h1,h2⟩
theorem MatZ.arg {ao : Option Addr} {m : Nat} {A : Nat → Option Addr} {N C : Nat → Nat} {Z : Nat → Nat → Int} {w : World} (h : MatZ ao m A N C Z w) {j : Nat} (hj : j < m) (hN : N j ≠ 0) : Arg (A j) (N j) (C j) (Z j) w := by
 refine ⟨h.sl j hj,fun x hx => ?_,h.few j hj,h.nil j hj,h.le j hj,h.cap j hj⟩
 obtain ⟨b,off,e,hc⟩ := h.sl j hj 0 (by omega)
 rw [hx] at e
 cases e
 exact cell_lt hc
def slA (v : Value) : Option Addr := match v with | .slice a _ _ => a | _ => none
def slC (v : Value) : Nat := match v with | .slice _ _ c => c | _ => 0
structure MkS (base q c i : Nat) (v : Value) (vs : Nat → Value) (Z : Nat → Nat → Int) (w : World) : Prop where
 own : OwnV base v (vl i vs) w
 row : ∀ j,j < i → OwnI base (vs j) (zl c (Z j)) w
 blw : ∀ j,j < i → Blw q c (Z j)
theorem MkS.below {base q c i : Nat} {v : Value} {vs : Nat → Value} {Z : Nat → Nat → Int} {w w' : World} (h : MkS base q c i v vs Z w) (hb : Below w.heap.size w w') : MkS base q c i v vs Z w' :=
 ⟨h.own.below hb (Nat.le_refl _),fun j hj => (h.row j hj).below hb (fun k hk => ((h.row j hj).lt k hk).2),h.blw⟩
theorem MkS.push {base q c i : Nat} {v v' u : Value} {vs : Nat → Value} {Z : Nat → Nat → Int} {y : Nat → Int} {w w' : World} (h : MkS base q c i v vs Z w) (hu : OwnI base u (zl c y) w) (hy : Blw q c y) (ho : OwnV base v' (vl i vs ++ [u]) w') (hg : w.grownBy w' v.ownBlock) :
   MkS base q c (i + 1) v' (fun j => if j = i then u else vs j) (fun j => if j = i then y else Z j) w' := by
 refine ⟨?_,fun j hj => ?_,fun j hj => ?_⟩
 · have e : vl (i + 1) (fun j => if j = i then u else vs j) = vl i vs ++ [u] := by
     unfold vl
     rw [List.range_succ,List.map_append]
     congr 1
     · exact List.map_congr_left (fun j hj => by rw [if_neg (by have := List.mem_range.1 hj; omega)])
     · simp
   rw [e]; exact ho
 · by_cases e : j = i
   · simp only [if_pos e]; exact hu.kept hg (hu.apart h.own)
   · simp only [if_neg e]; exact (h.row j (by omega)).kept hg ((h.row j (by omega)).apart h.own)
 · by_cases e : j = i
   · simp only [if_pos e]; exact hy
   · simp only [if_neg e]; exact h.blw j (by omega)
theorem MkS.matZ {base q c i : Nat} {v : Value} {vs : Nat → Value} {Z : Nat → Nat → Int} {w : World} (h : MkS base q c i v vs Z w) (hc : c ≤ 1000000) : ∃ mo mc,v = .slice mo i mc ∧ MatZ mo i (fun j => slA (vs j)) (fun _ => c) (fun j => slC (vs j)) Z w := by
 obtain ⟨mo,mc,hv,_,_,_,hcell⟩ := h.own.open
 rw [vl_len] at hv
 have key : ∀ j,j < i → ∃ so sc,vs j = .slice so c sc ∧ ArgL so c sc (Z j) w := fun j hj => (h.row j hj).argL
 refine ⟨mo,mc,hv,⟨fun j hj => ?_,fun j hj => ?_,fun j hj => ?_,fun j hj => ?_,fun j hj => ?_,fun j _ => hc⟩⟩
 · obtain ⟨g,e,hc,_⟩ := hcell j (vs j) (vl_get i vs j hj)
   obtain ⟨so,sc,e2,_⟩ := key j hj
   refine ⟨g,0,e, ?_⟩
   rw [Nat.zero_add,hc,e2]; rfl
 · obtain ⟨so,sc,e2,ha⟩ := key j hj
   simp only [e2,slA]; exact ha.sl
 · obtain ⟨so,sc,e2,ha⟩ := key j hj
   simp only [e2,slC]; exact ha.le
 · obtain ⟨so,sc,e2,ha⟩ := key j hj
   simp only [e2,slC]; exact ha.cap
 · obtain ⟨so,sc,e2,ha⟩ := key j hj
   simp only [e2,slA,slC]; exact ha.nil
set_option maxHeartbeats 4000000 in
set_option maxRecDepth 100000 in
theorem matrixOf_any {ao : Option Addr} {n ca : Nat} {z : Nat → Int} {w : World} (h : Arg ao n ca z w) (hn : n ≤ 1000) (f q r c : Nat) (hf : f ≤ 1000) (hq : 1 ≤ q) (hq2 : q ≤ 100000) (hr : r ≤ 100) (hc : c ≤ 100) :
   Calls Tryz.prog 12 #[.slice ao n ca, .int .i64 f, .int .i64 q, .int .i64 r, .int .i64 c] w fun e w' => ∃ v vs Z,e = .returned v ∧ MkS w.heap.size q c r v vs Z w' ∧ Below w.heap.size w w' := by
 have HA : Hid (Arg ao n ca z w) := h
 clear h
 go_enter Tryz.func12,Tryz.ntmps12
 go_wp2
 go_loopw [11,12] (fun v vi wr => ∃ (i : Nat) (vs : Nat → Value) (Z : Nat → Nat → Int),i ≤ r ∧ vi = .int .i64 i ∧ Hid (MkS w.heap.size q c i v vs Z wr ∧ Below w.heap.size w wr)) (fun _ vi _ => r - (intOf vi).toNat)
 case atStart => exact ⟨0,fun _ => undef,fun _ _ => 0,by omega,rfl,⟨OwnV.nil _ _,fun j hj => absurd hj (by omega),fun j hj => absurd hj (by omega)⟩,Below.refl _ _⟩
 case round =>
   obtain ⟨i,vs,Z,hi,rfl,HG⟩ := hrel
   rename World => wA
   by_cases hlt : i < r
   · have hib : (i : Int) < (r : Int) := by omega
     obtain ⟨ic,hic⟩ : ∃ ic,ic = i * c := ⟨_,rfl⟩
     have hic2 : ic ≤ 10000 := by
       rw [hic]
       have := Nat.mul_le_mul (show i ≤ 100 by omega) hc
       omega
     have hw1 : IntKind.i64.wrap ((i : Int) * (c : Int)) = (ic : Int) := wrap_to (by rw [hic]; simp) (by omega)
     obtain ⟨fi,hfi⟩ : ∃ fi,fi = f + ic := ⟨_,rfl⟩
     have hw2 : IntKind.i64.wrap ((f : Int) + (ic : Int)) = (fi : Int) := wrap_to (by omega) (by omega)
     have HN : Hid (Calls Tryz.prog 5 #[.slice ao n ca, .int .i64 fi, .int .i64 q, .int .i64 c] wA fun e w' => ∃ bo cb y,e = .returned (.slice bo c cb) ∧ OwnI wA.heap.size (.slice bo c cb) (zl c y) w' ∧ Blw q c y ∧ Below wA.heap.size wA w') := by
       refine (numbers_any (HA.out.below HG.out.2) hn fi q c (by omega) hq hq2 (by omega)).mono ?_
       rintro e w' ⟨v,y,rfl,ho,hbl,hb⟩
       obtain ⟨bo,cb,rfl,_⟩ := ho.argL
       exact ⟨bo,cb,y,rfl,ho,hbl,hb⟩
     clear hic hfi
     go_wp2_with fail
     refine HN.out.mono ?_
     rintro e w2 ⟨bo,cb,y,rfl,ho2,hbl2,hb2⟩
     have hs2 := hb2.size
     have hsA := HG.out.2.size
     have H2 : Hid (MkS w.heap.size q c i u11 vs Z w2 ∧ OwnI w.heap.size (.slice bo c cb) (zl c y) w2 ∧ Blw q c y ∧ Below w.heap.size w w2) := ⟨HG.out.1.below hb2,ho2.mono hsA,hbl2,bel_up' HG.out.2 hb2⟩
     have hll : (vl i vs).length ≤ 1000000 := by rw [vl_len]; omega
     clear ho2 hbl2 hb2 HN
     go_wp2_with (at_builtin; refine append_sl rfl _ _ rfl w.heap.size u11 (vl i vs) rfl (H2.out.1.own.below ((Below.refl _ _).alloc (Nat.le_refl _) _) (Nat.le_refl _)) ⟨w2.heap.size,0,none⟩ 1 (.slice bo c cb) rfl rfl (by rw [cell_of_row _ _ _ _ _ (0,0) (two_new _)]; rfl) hll (by simp; omega) ?_; intro v' w6 hown6 hg6)
     have hal : Below w2.heap.size w2 (w2.alloc (.cells #[.slice bo c cb] 22)) := (Below.refl _ _).alloc (Nat.le_refl _) _
     have HR : Hid (MkS w.heap.size q c (i + 1) v' (fun j => if j = i then .slice bo c cb else vs j) (fun j => if j = i then y else Z j) w6 ∧ Below w.heap.size w w6) := by
       have ho := H2.out.1.below hal
       exact ⟨ho.push (H2.out.2.1.below hal (fun k hk => (H2.out.2.1.lt k hk).2)) H2.out.2.2.1 hown6 hg6,(bel_up' H2.out.2.2.2 hal).grown hg6 (by simp; omega) (fun k hk => ho.own.open_ge k hk)⟩
     clear hown6 hg6 hal
     go_roundw
     case rel => exact ⟨i + 1,_,_,by omega,by go_num,HR.out⟩
     case measure => simp [intOf]; omega
   · have hib : ¬ (i : Int) < (r : Int) := by omega
     have hie : r = i := by omega
     subst hie
     go_wp2
     go_ret
     exact ⟨_,rfl,⟨vs,Z,HG.out.1⟩,HG.out.2⟩
theorem MatZ.matO {ao : Option Addr} {m : Nat} {A : Nat → Option Addr} {N C : Nat → Nat} {Z : Nat → Nat → Int} {w : World} (h : MatZ ao m A N C Z w) : MatO ao m A N C Z w := ⟨h.cell,h.sl,h.le,h.cap,h.nil⟩
end Go.Proofs.YtinmkgohganllaaGreatDoor
namespace Go.Proofs.YtinmkgohganllaaGreatDoor
end Go.Proofs.YtinmkgohganllaaGreatDoor
namespace Go.Proofs.YtinmkgohganllaaGreatDoor
open Go.RowKit Go.Sort
theorem Arg.drewN {ao : Option Addr} {n cap : Nat} {z : Nat → Int} {w : World} (h : Arg ao n cap z w) (k : Nat) : Arg ao n cap z (w.drewN k) := ⟨h.sl,h.lt,h.few,h.nil,h.le,h.cap⟩
theorem MkS.matR {base q c n i : Nat} {v : Value} {vs : Nat → Value} {Z : Nat → Nat → Int} {M : Nat → Nat → Nat} {w : World} (h : MkS base q c i v vs Z w) (hc : c = n + 1) (hZ : ∀ j,j < i → ∀ t,t < c → Z j t = ((M j t : Nat) : Int)) : ∃ mo mc,v = .slice mo i mc ∧ MatR mo i n M w := by
 subst hc
 obtain ⟨mo,mc,hv,_,_,_,hcell⟩ := h.own.open
 rw [vl_len] at hv
 refine ⟨mo,mc,hv,fun j hj => ?_⟩
 obtain ⟨g,e,hc,_⟩ := hcell j (vs j) (vl_get i vs j hj)
 obtain ⟨so,sc,e2,ha⟩ := (h.row j hj).argL
 refine ⟨g,0,vs j,e,by rw [Nat.zero_add]; exact hc,so,sc,e2,fun t ht => ?_,ha.lt,ha.nil,ha.le,ha.cap⟩
 obtain ⟨b,off,e3,hc3⟩ := ha.sl t ht
 exact ⟨b,off,e3,by rw [hc3,hZ j hj t ht]⟩
def ct (p : Nat → Bool) : Nat → Nat
 | 0 => 0
 | n + 1 => ct p n + if p n = true then 1 else 0
def anyB (p : Nat → Bool) : Nat → Bool
 | 0 => false
 | n + 1 => anyB p n || p n
theorem anyB_no {p : Nat → Bool} : ∀ n,(∀ j,j < n → p j = false) → anyB p n = false
 | 0,_ => rfl
 | n + 1,h => by
   show (anyB p n || p n) = false
   rw [anyB_no n (fun j hj => h j (by omega)),h n (by omega)]; rfl
theorem anyB_yes {p : Nat → Bool} {i : Nat} (h : p i = true) : ∀ n,i < n → anyB p n = true
 | 0,hi => absurd hi (by omega)
 | n + 1,hi => by
   show (anyB p n || p n) = true
   by_cases e : i = n
   · rw [← e,h,Bool.or_true]
   · rw [anyB_yes h n (by omega),Bool.true_or]
set_option maxHeartbeats 2000000 in
set_option maxRecDepth 100000 in
theorem containsFn_any {gf : Nat} {lb : Array Value} (eg : ∀ args w,(callFunc gf args).run Tryz.prog w = .ok (.enter gf args) w) {ao : Option Addr} {n cap : Nat} {z : Nat → Int} {p : Nat → Bool} {w : World}
   (hs : SlZ ao n z w) (hn : n ≤ 1000000) (hp : ∀ j,j < n → Calls Tryz.prog gf (#[.int .i64 (z j)] ++ lb) w fun e w' => e = .returned (.bool (p j)) ∧ w' = w) :
   Calls Tryz.prog 103 #[.slice ao n cap, .func (.func gf) #[] lb] w fun e w' => e = .returned (.bool (anyB p n)) ∧ w' = w := by
 have HS : Hid (∀ cap,Calls Tryz.prog 127 #[.slice ao n cap, .func (.func gf) #[] lb] w fun e w' => w' = w ∧ ∃ i : Int,e = .returned (.int .i64 i) ∧ decide (0 ≤ i) = anyB p n) := fun cap => by
   refine (indexInts_any (cap := cap) (p := p) eg hs hn hp).mono ?_
   rintro e w' ⟨rfl,⟨i,hi,hpi,_,rfl⟩ | ⟨ha,rfl⟩⟩
   · refine ⟨rfl,_,rfl, ?_⟩
     rw [anyB_yes hpi n hi]; simp
   · refine ⟨rfl,_,rfl, ?_⟩
     rw [anyB_no n ha]; rfl
 clear hs hp eg
 obtain ⟨y,hy⟩ : ∃ y,y = anyB p n := ⟨_,rfl⟩
 rw [← hy]
 have HY : Hid (y = anyB p n) := hy
 clear hy
 go_enter Tryz.func103,Tryz.ntmps103
 go_wp2_with (go_at_call 127; refine (HS.out _).mono ?_; rintro e w' ⟨hw,i,rfl,hi⟩; rw [← HY.out] at hi; have hw := hw.symm; subst hw)
 go_ret
 exact ⟨by first | rfl | simp_all,rfl⟩
def dgs (q k a : Nat) : Nat → Nat := fun j => if j < k then a / q ^ (k - 1 - j) % q else 0
theorem dnum_dgs' {q k a : Nat} (hq : 2 ≤ q) (ha : a < q ^ k) : ∀ i,i ≤ k → dnum q (dgs q k a) i = a / q ^ (k - i)
 | 0,_ => by rw [Nat.sub_zero,Nat.div_eq_of_lt ha]; rfl
 | i + 1,hi => by
   rw [dnum,dnum_dgs' hq ha i (by omega)]
   unfold dgs
   rw [if_pos (by omega),show k - 1 - i = k - (i + 1) from by omega]
   obtain ⟨b,hb⟩ : ∃ b,b = a / q ^ (k - (i + 1)) := ⟨_,rfl⟩
   have e : a / q ^ (k - i) = b / q := by
     rw [hb,Nat.div_div_eq_div_mul, ← Nat.pow_succ,show (k - (i + 1)).succ = k - i from by omega]
   rw [e, ← hb,Nat.mul_comm]
   exact Nat.div_add_mod b q
theorem dnum_dgs {q k a : Nat} (hq : 2 ≤ q) (ha : a < q ^ k) : dnum q (dgs q k a) k = a := by
 rw [dnum_dgs' hq ha k (Nat.le_refl _),Nat.sub_self,Nat.pow_zero,Nat.div_one]
theorem dgs_lt {q k a : Nat} (hq : 2 ≤ q) (j : Nat) : dgs q k a j < q := by
 unfold dgs
 split
 · exact Nat.mod_lt _ (by omega)
 · omega
def dgm (q k a : Nat) : Nat → Nat := fun j => if j = k then 1 else dgs q k a j
theorem dgm_mn {D : FD} (F : Fld D) (k a : Nat) : Mn D k (dgm D.q k a) := by
 refine ⟨fun j => ?_,fun j hj => ?_,if_pos rfl⟩
 · unfold dgm
   split
   · exact one_lt' F
   · exact dgs_lt F.q2 j
 · unfold dgm dgs
   rw [if_neg (by omega),if_neg (by omega)]
theorem dgm_lo {q k a j : Nat} (hj : j < k) : dgm q k a j = dgs q k a j := if_neg (by omega)
theorem dgs_next {D : FD} (F : Fld D) {k a : Nat} {c : Nat → Nat} (ha : a < D.q ^ k) (hc : Mn D k c) (h : Aft D k (dgm D.q k a) k c) : a + 1 < D.q ^ k ∧ ∀ j,j < k → c j = dgs D.q k (a + 1) j := by
 have h1 : dnum D.q c k = a + 1 := by
   rcases h with ⟨_,h⟩ | ⟨h,_⟩
   · rw [h,dnum_congr (e := dgs D.q k a) k (fun j hj => dgm_lo hj),dnum_dgs F.q2 ha]
   · omega
 have h2 : a + 1 < D.q ^ k := by rw [← h1]; exact dnum_lt k (fun i _ => hc.el i)
 exact ⟨h2,dnum_inj k (fun i _ => hc.el i) (fun i _ => dgs_lt F.q2 i) (by rw [h1,dnum_dgs F.q2 h2])⟩
theorem dgs_last {D : FD} (F : Fld D) {k a : Nat} (ha : a < D.q ^ k) (h : ∀ j,0 ≤ j → j < k → dgm D.q k a j = D.q - 1) : a + 1 = D.q ^ k := by
 have h1 : ∀ i,i ≤ k → dnum D.q (dgs D.q k a) i + 1 = D.q ^ i := fun i => by
   induction i with
   | zero => intro _; rfl
   | succ i ih =>
     intro hi
     have h2 := h i (by omega) (by omega)
     rw [dgm_lo (by omega)] at h2
     have h3 := F.q2
     rw [dnum,h2,Nat.pow_succ, ← ih (by omega),Nat.add_mul]
     omega
 have h2 := h1 k (Nat.le_refl _)
 rw [dnum_dgs F.q2 ha] at h2; exact h2
theorem dgs_zero {q k j : Nat} : dgs q k 0 j = 0 := by
 unfold dgs
 split
 · rw [Nat.zero_div,Nat.zero_mod]
 · rfl
theorem has_sl {D : FD} {ao : Option Addr} {n : Nat} {z : Nat → Int} {w : World} (h : ∀ j,j < n → D.has (z j) = true) (hs : SlZ ao n z w) : Sl ao n (zc n z) w := fun j hj => by
 obtain ⟨b,off,e,hc⟩ := hs j hj
 obtain ⟨t,e2,_⟩ := has_nat (h j hj)
 refine ⟨b,off,e, ?_⟩
 rw [hc]
 unfold zc
 rw [if_pos hj,e2,Int.toNat_natCast]
end Go.Proofs.YtinmkgohganllaaGreatDoor
namespace Go.Proofs.YtinmkgohganllaaGreatDoor
open Go.RowKit
end Go.Proofs.YtinmkgohganllaaGreatDoor
namespace Go.Proofs.YtinmkgohganllaaGreatDoor
open Go.RowKit Go.Sort
theorem OwnV.set {base n rc g : Nat} {ro : Option Addr} {vs : Nat → Value} {w1 : World} (hown : OwnV base (.slice ro n rc) (vl n vs) w1) (hg : ro = some ⟨g,0,none⟩) (j : Nat) (u : Value) : OwnV base (.slice ro n rc) (vl n fun i => if i = j then u else vs i) (w1.setCell ⟨g,j,none⟩ u) := by
 rcases hown.2 with ⟨h1,_⟩ | ⟨g',cap,cur,hv,hb,hh,hle,hcm,hsz,htake⟩
 · rw [hg] at h1; cases h1
 · rw [hg,vl_len] at hv
   cases hv
   have hlt := lt_of_block hh
   have h' : w1.heap[g] = .cells cur 22 (0,0) := by simpa [Array.getElem?_eq_getElem hlt] using hh
   refine ⟨by rw [vl_len]; omega,Or.inr ⟨g,rc,cur.setIfInBounds j u,by rw [hg,vl_len],hb, ?_,by rw [vl_len]; rw [vl_len] at hle; exact hle,hcm,by rw [Array.size_setIfInBounds]; exact hsz, ?_⟩⟩
   · show (w1.heap.modify g _)[g]? = _
     rw [Array.getElem?_eq_getElem (by simpa using hlt),Array.getElem_modify_self,h']
     rfl
   · rw [vl_len] at htake ⊢
     apply List.ext_getElem?
     intro i
     have h3 : (cur.toList.take (n * 1))[i]? = (vl n vs)[i]? := by rw [htake]
     rw [List.getElem?_take] at h3 ⊢
     by_cases hi : i < n * 1
     · rw [if_pos hi] at h3 ⊢
       have hik : i < n := by omega
       rw [vl_get n vs i hik] at h3
       rw [vl_get n _ i hik,Array.getElem?_toList,Array.getElem?_setIfInBounds]
       rw [Array.getElem?_toList] at h3
       by_cases e : j = i
       · rw [if_pos e,if_pos (by have := (Array.getElem?_eq_some_iff.1 h3).1; omega),if_pos e.symm]
       · rw [if_neg e,if_neg (fun x => e x.symm)]; exact h3
     · rw [if_neg hi,List.getElem?_eq_none (by rw [vl_len]; omega)]
end Go.Proofs.YtinmkgohganllaaGreatDoor
namespace Go.Proofs.YtinmkgohganllaaGreatDoor
open Go
def wpAnyX (P : Program) (ops : Array Oper) (Q : Exit → Act → World → Prop) (S : World → Prop) (L : Nat) : Nat → Array Bool → Act → World → Prop
 | 0,s,a,w => Region.ready .any ops s = [] ∧ Q .normal a w
 | f + 1,s,a,w => (Region.ready .any ops s = [] → Q .normal a w) ∧ ∀ i ∈ Region.ready .any ops s,wpOp P ops Q i (fun a' w' => (i ≠ L → S w') ∧ wpAnyX P ops Q S L f (s.setIfInBounds i true) a' w') a w
theorem wpAny_of_X {P : Program} {ops : Array Oper} {Q : Exit → Act → World → Prop} {S : World → Prop} {L : Nat} : ∀ (f : Nat) (s : Array Bool) (a : Act) (w : World),wpAnyX P ops Q S L f s a w → wpAny P .any ops Q f s a w
 | 0,_,_,_,h => h
 | f + 1,_,_,_,h => ⟨h.1,fun i hi => wpOp_mono (fun a' w' h' => wpAny_of_X f _ a' w' h'.2) (h.2 i hi)⟩
def waitsB (ops : Array Oper) (L i : Nat) : Bool := ((ops[L]?).map fun o => o.after.any fun e => Region.binds .any e && e.on == i).getD false
theorem waits_not {ops : Array Oper} {L i : Nat} {s : Array Bool} (h : waitsB ops L i = true) (hi : s.getD i true = false) : L ∉ Region.ready .any ops s := by
 intro hL
 obtain ⟨_,o,ho,hall⟩ := mem_ready.1 hL
 unfold waitsB at h
 rw [ho] at h
 obtain ⟨e,he,hb⟩ := Array.any_eq_true'.1 (show (o.after.any fun e => Region.binds .any e && e.on == i) = true from h)
 rw [Bool.and_eq_true,beq_iff_eq] at hb
 have h1 := hall e he hb.1
 rw [hb.2] at h1
 rcases Nat.lt_or_ge i s.size with h' | h'
 · simp [h'] at hi h1; rw [hi] at h1; cases h1
 · simp [Array.getElem?_eq_none h'] at h1
theorem wpAnyX_first {P : Program} {ops : Array Oper} {Q : Exit → Act → World → Prop} {S : World → Prop} {L i : Nat} {oi : Oper} {v : Value} (hi : ops[i]? = some oi) (hsel : ∀ (j : Nat) (o : Oper) cs b,ops[j]? = some o → o.op ≠ .select cs b)
   (hQ : ∀ c a w,Q (.panic c) (a.put oi.dst v) w → Q (.panic c) a w) (hL : waitsB ops L i = true) :
   ∀ (f : Nat) (s : Array Bool) (a : Act) (w : World),
     (∀ j oj,ops[j]? = some oj → j ≠ i → s.getD j true = false → (∀ e ∈ oj.after,Region.binds .any e = true → e.on ≠ i) → oi.apart ops oj = true) →
     i ∈ Region.ready .any ops s → YieldsIf P ops S oi v a → S w →
     wpAnyX P ops Q S L f (s.setIfInBounds i true) (a.put oi.dst v) w → wpAnyX P ops Q S L (f + 1) s a w := by
 intro f
 induction f with
 | zero =>
   intro s a w _ hr hy hS H
   refine ⟨fun h => (by rw [h] at hr; cases hr),fun j hj => ?_⟩
   by_cases hji : j = i
   · subst hji; exact hy.wpOp hi hS ⟨fun _ => hS,H⟩
   · have := ready_mono hj hji
     rw [H.1] at this
     cases this
 | succ f ih =>
   intro s a w hfree hr hy hS H
   refine ⟨fun h => (by rw [h] at hr; cases hr),fun j hj => ?_⟩
   by_cases hji : j = i
   · subst hji; exact hy.wpOp hi hS ⟨fun _ => hS,H⟩
   · have h1 := H.2 j (ready_mono hj hji)
     have hjL : j ≠ L := fun e => waits_not hL (mem_ready.1 hr).1 (e ▸ hj)
     obtain ⟨hjun,oj,hoj,hall⟩ := mem_ready.1 hj
     have hnot : ∀ e ∈ oj.after,Region.binds .any e = true → e.on ≠ i := fun e he hb heq => by
       have h1 := hall e he hb
       have h0 := (mem_ready.1 hr).1
       rw [heq] at h1
       rcases Nat.lt_or_ge i s.size with h' | h'
       · simp [h'] at h0 h1; rw [h0] at h1; cases h1
       · simp [Array.getElem?_eq_none h'] at h1
     have h2 := wpOp_putIf hoj (hfree j oj hoj hji hjun hnot) (fun cs b => hsel i oi cs b hi) (fun cs b => hsel j oj cs b hoj) hQ hy h1
     have hfree' : ∀ k ok,ops[k]? = some ok → k ≠ i → (s.setIfInBounds j true).getD k true = false →
         (∀ e ∈ ok.after,Region.binds .any e = true → e.on ≠ i) → oi.apart ops ok = true := fun k ok hk hki hun hno => by
       refine hfree k ok hk hki ?_ hno
       by_cases hjk : j = k
       · subst hjk; exact hjun
       · rw [getD_set_ne true hjk] at hun; exact hun
     refine wpOp_mono (fun a' w' h3 => ⟨fun _ => h3.2.1 hjL,ih (s.setIfInBounds j true) a' w' hfree' (ready_mono hr (Ne.symm hji)) h3.1 (h3.2.1 hjL) ?_⟩) h2
     rw [Array.setIfInBounds_comm _ _ hji]
     exact h3.2.2
theorem wpAnyX_take {P : Program} {ops : Array Oper} {Q : Exit → Act → World → Prop} {S : World → Prop} {L i : Nat} {oi : Oper} {v : Value} {f : Nat} {s : Array Bool} {a : Act} {w : World} (hi : ops[i]? = some oi)
   (hs : Region.noSelect ops = true) (hf : Region.free .any ops s i = true) (hr : (Region.ready .any ops s).contains i = true) (hL : waitsB ops L i = true)
   (hQ : ∀ c a w,Q (.panic c) (a.put oi.dst v) w → Q (.panic c) a w) (hS : S w) (hy : YieldsIf P ops S oi v a)
   (h : wpAnyX P ops Q S L f (s.setIfInBounds i true) (a.put oi.dst v) w) : wpAnyX P ops Q S L (f + 1) s a w :=
 wpAnyX_first hi (Region.noSelect_spec hs) hQ hL f s a w (Region.free_spec hi hf) (by simpa using hr) hy hS h
theorem wpAnyX_one {P : Program} {ops : Array Oper} {Q : Exit → Act → World → Prop} {S : World → Prop} {L i : Nat} {o : Oper} {f : Nat} {s : Array Bool} {a : Act} {w : World} (hr : Region.ready .any ops s = [i]) (ho : ops[i]? = some o)
   (h : ∀ K : Act → World → Prop,(∀ a' w',(i ≠ L → S w') → wpAnyX P ops Q S L f (s.setIfInBounds i true) a' w' → K a' w') → if Region.wanted o (yielded ops a.tmps) = true then Oper.wp P o a w K Q else K (a.put o.dst undef) w) : wpAnyX P ops Q S L (f + 1) s a w := by
 refine ⟨fun e => (by rw [hr] at e; cases e),fun j hj => ?_⟩
 rw [hr,List.mem_singleton] at hj
 subst hj
 have h1 := h (fun a' w' => (j ≠ L → S w') ∧ wpAnyX P ops Q S L f (s.setIfInBounds j true) a' w') (fun a' w' h1 h2 => ⟨h1,h2⟩)
 unfold wpOp
 simp only [ho]
 split
 · rename_i hw
   rw [if_pos hw] at h1
   exact Or.inl h1
 · rename_i hw
   rw [if_neg hw] at h1
   exact h1
theorem wpAnyX_done {P : Program} {ops : Array Oper} {Q : Exit → Act → World → Prop} {S : World → Prop} {L : Nat} {s : Array Bool} {a : Act} {w : World} (hr : Region.ready .any ops s = []) (h : Q .normal a w) : wpAnyX P ops Q S L 0 s a w := ⟨hr,h⟩
theorem wp_region_X {P : Program} {ops : Array Oper} {Q : Exit → Act → World → Prop} {S : World → Prop} (L : Nat) {id : Nat} {a : Act} {w : World} (hm : P.follows .mixedOrders = true)
   (h : wpAnyX P ops Q S L ops.size (Array.replicate ops.size false) a w.drew) : (Code.region id ops true).wp P Q a w :=
 wp_region_any hm (wpAny_of_X _ _ _ _ h)
end Go.Proofs.YtinmkgohganllaaGreatDoor
namespace Go.Proofs.YtinmkgohganllaaGreatDoor
open Go.RowKit Go.Sort
theorem OwnI.form {base : Nat} {v : Value} {l : List Int} {w : World} (h : OwnI base v l w) : ∃ ao cap,v = .slice ao l.length cap := by
 rcases h.2 with ⟨h1,h2⟩ | ⟨g,cap,cur,hv,_⟩
 · exact ⟨none,0,by rw [h1,h2]⟩
 · exact ⟨_,cap,hv⟩
theorem Mx.matZ {B G m n : Nat} {R : Nat → Nat → Nat} {h : Nat → Nat} {w : World} (H : Mx B G m m n R h w) (hn : n ≤ 1000000) : MatZ (some ⟨G,0,none⟩) m (fun i => some ⟨h i,0,none⟩) (fun _ => n) (fun _ => n) (fun i j => ((R i j : Nat) : Int)) w :=
 ⟨fun i hi => ⟨G,0,rfl,by rw [Nat.zero_add]; exact H.cell i hi⟩,fun i hi => (H.row i hi).sl (Nat.le_refl _),fun _ _ => Nat.le_refl _,fun _ _ => by omega,fun _ _ e => (by cases e),fun _ _ => hn⟩
end Go.Proofs.YtinmkgohganllaaGreatDoor
