/- Texts of ours, one behind the other: I12 I13 I14 I15 I16 I18 I19 I20 I21 I22 I23 S12 I24 I25 I26. -/
import Derived.Test.YtppggchhkckobaaGreatZI1
import Derived.Test.YtppggchhkckobaaGreatZX15
import Derived.Test.YtppggchhkckobaaGreatZX18
namespace Go.Proofs.YtppggchhkckobaaGreat
open Go.RowKit Go.Sort
def RBt (b : Nat) (w : World) : Prop := ∃ cs,w.heap[b]? = some (.cells cs 35 (0,0))
theorem RBt.new (cs : Array Value) (w : World) : RBt w.heap.size (w.alloc (.cells cs 35)) := ⟨cs,two_new _⟩
theorem RBt.keep {b : Nat} {w w' : World} (h : RBt b w) (hb : Below w.heap.size w w') : RBt b w' := by
 obtain ⟨cs,h⟩ := h
 exact ⟨cs,by rw [hb.block b (lt_of_block h)]; exact h⟩
theorem Row.notCode {g N b : Nat} {c : Nat → Nat} {w : World} (h : Row g N c w) (ht : RBt b w) : g ≠ b := by
 obtain ⟨cap,f,⟨cs,h1,_⟩,_⟩ := h
 obtain ⟨ds,h2⟩ := ht
 intro e
 rw [e,h2] at h1
 simp at h1
theorem OwnV.notCode {base b : Nat} {v : Value} {l : List Value} {w : World} (h : OwnV base v l w) (ht : RBt b w) : ∀ g,v.ownBlock = some g → g ≠ b := by
 intro g hg e
 rcases h.2 with ⟨h1,_⟩ | ⟨g',cap,cur,hv,_,hh,_⟩
 · rw [h1] at hg; cases hg
 · rw [hv] at hg
   have hg : some g' = some g := hg
   cases hg
   obtain ⟨ds,h2⟩ := ht
   rw [e,h2] at hh
   simp at hh
theorem OwnV.same {base : Nat} {v : Value} {l : List Value} {w w' : World} (h : OwnV base v l w) (hb : ∀ g,v.ownBlock = some g → w'.heap[g]? = w.heap[g]?) : OwnV base v l w' := by
 obtain ⟨h1,h2⟩ := h
 refine ⟨h1, ?_⟩
 rcases h2 with h2 | ⟨g,cap,cur,hv,hg,hh,r⟩
 · exact Or.inl h2
 · exact Or.inr ⟨g,cap,cur,hv,hg,by rw [hb g (by rw [hv]; rfl)]; exact hh,r⟩
theorem LLs.slc {base : Nat} {v : Value} {L : List (Nat × (Nat → Nat))} {w : World} (h : LLs base v L w) : ∃ ao cap,v = .slice ao L.length cap := by
 obtain ⟨l,h1,h2⟩ := h
 obtain ⟨ao,cap,e,_⟩ := h1.open
 rw [h2.1] at e
 exact ⟨ao,cap,e⟩
theorem LLs.laid {base b : Nat} {v : Value} {L : List (Nat × (Nat → Nat))} {w : World} (h : LLs base v L w) (ht : RBt b w) (q n : Int) (u : Value) : LLs base v L (laid w b q n u) := by
 obtain ⟨l,h1,h2⟩ := h
 refine ⟨l,h1.same (fun g hg => laid_heap w b q n u (h1.notCode ht g hg)),h2.1,fun j x p hx hp => ?_⟩
 obtain ⟨g,cap,e,a1,a2,hr⟩ := h2.2 j x p hx hp
 exact ⟨g,cap,e,a1,a2,hr.other (laid_heap w b q n u (hr.notCode ht))⟩
set_option maxHeartbeats 4000000 in
set_option maxRecDepth 100000 in
theorem made_any {D : FD} (hD : D ∈ fieldsL) {ao : Option Addr} {m n n1 ca : Nat} {M : Nat → Nat → Nat} {w : World} (hm : m ≤ 1000) (hn : n ≤ 64) (hnn : n = n1 + 1) (hel : ∀ i, i < m → El D (M i) ∧ Bd (n1 + 1) (M i)) (hA : MatR ao m n1 M w) :
   Calls Tryz.prog 62 #[.agg #[.int .i64 D.q, .int .i64 (n : Nat), .slice ao m ca]] w fun e w' => ∃ k R ro rc,e = .returned (.agg #[.int .i64 D.q, .int .i64 (n : Nat), .slice ro k rc]) ∧ LLs w.heap.size (.slice ro k rc) (rl k n1 R) w' ∧ Red D n m M k R ∧ Below w.heap.size w w' := by
 obtain ⟨w0,hw0⟩ : ∃ w0,w0 = (w.alloc (.cells #[.int .i64 D.q, .int .i64 (n : Nat), .slice ao m ca] 35)).alloc (.cells #[.int .i64 0, .int .i64 0, .slice none 0 0] 35) := ⟨_,rfl⟩
 have HW : Hid (Below w.heap.size w w0 ∧ CB w.heap.size D.q n (.slice ao m ca) w0 ∧ RB (w.heap.size + 1) w0 ∧ RBt (w.heap.size + 1) w0 ∧ w0.heap.size = w.heap.size + 2) := by
   obtain ⟨h1,h2,_,h4⟩ := two_boxes D.q n 0 0 (.slice ao m ca) (.slice none 0 0) w
   have hs1 : (w.alloc (.cells #[.int .i64 D.q, .int .i64 (n : Nat), .slice ao m ca] 35)).heap.size = w.heap.size + 1 := by simp
   have h5 := RB.new (.int .i64 0) (.int .i64 0) (.slice none 0 0) (w.alloc (.cells #[.int .i64 D.q, .int .i64 (n : Nat), .slice ao m ca] 35))
   have h6 := RBt.new #[.int .i64 0, .int .i64 0, .slice none 0 0] (w.alloc (.cells #[.int .i64 D.q, .int .i64 (n : Nat), .slice ao m ca] 35))
   rw [hs1] at h5 h6
   rw [hw0]; exact ⟨h1,h2,h5,h6,h4⟩
 have HA : Hid (D ∈ fieldsL ∧ (∀ i,i < m → El D (M i) ∧ Bd (n1 + 1) (M i)) ∧ MatR ao m n1 M w ∧ n = n1 + 1) := ⟨hD,hel,hA,hnn⟩
 have hn1 : n1 ≤ 900 := by omega
 clear hD hel hA hnn
 go_enter Tryz.func62,Tryz.ntmps62
 go_wp2_with fail
 rw [← hw0]
 clear hw0
 refine (rfield_sl HA.out.1 w0).mono ?_
 rintro e w1 ⟨gm,cm,rfl,hmod,hb1⟩
 unfold rf
 obtain ⟨wb,hwb⟩ : ∃ wb,wb = w1.alloc (.cells #[.int .i64 D.q, .int .i64 D.p, .int .i64 D.m, .int .i64 D.gen, .slice (some ⟨gm,0,none⟩) (D.m + 1) cm] 59) := ⟨_,rfl⟩
 have hbb : Below w1.heap.size w1 wb := by rw [hwb]; exact (Below.refl _ _).alloc (Nat.le_refl _) _
 have H1 : Hid (Below w.heap.size w wb ∧ CB w.heap.size D.q n (.slice ao m ca) wb ∧ RB (w.heap.size + 1) wb ∧ RBt (w.heap.size + 1) wb ∧ ModAt D (.slice (some ⟨gm,0,none⟩) (D.m + 1) cm) D.md wb ∧ w.heap.size + 2 ≤ wb.heap.size) := by
   have hb2 := bel_up' hb1 hbb
   exact ⟨bel_up' HW.out.1 hb2,HW.out.2.1.keep hb2,HW.out.2.2.1.keep hb2,HW.out.2.2.2.1.keep hb2,hmod.below hbb,by have := hb2.size; have := HW.out.2.2.2.2; omega⟩
 have hcb1 := HW.out.2.1.keep hb1
 obtain ⟨a0,a1,a2⟩ := hcb1
 have hlt := cell_lt a0
 have hlt : w.heap.size < w1.heap.size := hlt
 clear hmod hb1 hbb
 go_wp2_with fail
 rw [← hwb]
 clear hwb a0 a1 a2
 refine (rreduce_any HA.out.1 D.gen gm cm hm (by omega) HA.out.2.1 (HA.out.2.2.1.below H1.out.1) H1.out.2.2.2.2.1).mono ?_
 rintro e w2 ⟨vr,vp,k,R,p,rfl,hk,hvr,hvp,hre,hsp,_,hb2⟩
 obtain ⟨ro,rc,hv⟩ := hvr.slc
 rw [rl_len] at hv
 subst hv
 have H2 : Hid (LLs wb.heap.size (.slice ro k rc) (rl k n1 R) w2 ∧ Red D n m M k R ∧ Below w.heap.size w w2 ∧ CB w.heap.size D.q n (.slice ao m ca) w2 ∧ RB (w.heap.size + 1) w2 ∧ RBt (w.heap.size + 1) w2) := by
   refine ⟨hvr,⟨p, ?_,hsp⟩,bel_up' H1.out.1 hb2,H1.out.2.1.keep hb2,H1.out.2.2.1.keep hb2,H1.out.2.2.2.1.keep hb2⟩
   rw [HA.out.2.2.2]; exact hre
 clear hk hvr hvp hre hsp hb2
 have hcb2 := H2.out.2.2.2.1
 obtain ⟨a0,a1,a2⟩ := hcb2
 obtain ⟨⟨x0,c0⟩,⟨x1,c1⟩,⟨x2,c2⟩,f0,f1,f2⟩ := H2.out.2.2.2.2.1
 go_wp2
 obtain ⟨w3,hw3⟩ : ∃ w3,w3 = laid w2 (w.heap.size + 1) D.q n (.slice ro k rc) := ⟨_,rfl⟩
 have H3 : Hid (CB (w.heap.size + 1) D.q n (.slice ro k rc) w3 ∧ LLs w.heap.size (.slice ro k rc) (rl k n1 R) w3 ∧ Below w.heap.size w w3) := by
   have := H1.out.2.2.2.2.2
   rw [hw3]; exact ⟨laid_cb H2.out.2.2.2.2.1 _ _ _,(H2.out.1.laid H2.out.2.2.2.2.2 _ _ _).mono (by omega),laid_below H2.out.2.2.1 (by omega) _ _ _⟩
 unfold laid at hw3
 rw [← hw3]
 clear hw3 c0 c1 c2 f0 f1 f2 a0 a1 a2
 obtain ⟨c0,c1,c2⟩ := H3.out.1
 refine bodyPost_ret (v := .agg #[.int .i64 D.q, .int .i64 (n : Nat), .slice ro k rc]) (by simp [results,Tryz.results62,go_sem,c0,c1,c2]) rfl ?_
 exact ⟨_,R,_,_,rfl,H3.out.2.1,H2.out.2.1,H3.out.2.2⟩
theorem Rwv.keep {u : Value} {n : Nat} {c : Nat → Nat} {w w' : World} (h : Rwv u n c w) (hb : Below w.heap.size w w') : Rwv u n c w' := by
 obtain ⟨A,ca,e,hs,hl,h1,h2,h3⟩ := h
 exact ⟨A,ca,e,hs.below hb hl,hl.mono hb.size,h1,h2,h3⟩
theorem LLs.matR' {base k n : Nat} {ro : Option Addr} {rc : Nat} {R : Nat → Nat → Nat} {w : World} (h : LLs base (.slice ro k rc) (Go.Proofs.YtppggchhkckobaaGreat.rl k n R) w) : MatR ro k n R w ∧ (ro = none → rc = 0) := by
 obtain ⟨ro',rc',vs,e,hw⟩ := h.rws
 cases e
 exact ⟨hw.matR,hw.nil⟩
set_option maxHeartbeats 4000000 in
set_option maxRecDepth 100000 in
theorem rsameCode_any (q n : Int) {ao bo : Option Addr} {k n' ca cb : Nat} {R : Nat → Nat → Nat} {w : World} (ha : RL (.slice ao k ca) k n' R w) (hb : RL (.slice bo k cb) k n' R w) (hk : k ≤ 1000000) (hn : n' ≤ 1000000) :
   Calls Tryz.prog 65 #[.agg #[.int .i64 q, .int .i64 n, .slice ao k ca], .agg #[.int .i64 q, .int .i64 n, .slice bo k cb]] w fun e w' => e = .returned (.bool true) ∧ Below w.heap.size w w' := by
 obtain ⟨w0,hw0⟩ : ∃ w0,w0 = (w.alloc (.cells #[.int .i64 q, .int .i64 n, .slice ao k ca] 35)).alloc (.cells #[.int .i64 q, .int .i64 n, .slice bo k cb] 35) := ⟨_,rfl⟩
 have HW : Hid (Below w.heap.size w w0 ∧ RL (.slice ao k ca) k n' R w0 ∧ RL (.slice bo k cb) k n' R w0) := by
   obtain ⟨h1,_,_,_⟩ := two_boxes q n q n (.slice ao k ca) (.slice bo k cb) w
   rw [hw0]; exact ⟨h1,ha.below h1,hb.below h1⟩
 clear ha hb
 go_enter Tryz.func65,Tryz.ntmps65
 go_wp2_with fail
 rw [← hw0]
 clear hw0
 refine (sameAll_rl HW.out.2.1 HW.out.2.2 hk hn).mono ?_
 rintro e w1 ⟨rfl,d,hw1⟩
 have H1 : Hid (Below w.heap.size w w1) := by rw [hw1]; exact below_drewN2 HW.out.1 d
 clear hw1
 go_wp2
 go_ret
 exact ⟨rfl,H1.out⟩
set_option maxHeartbeats 4000000 in
set_option maxRecDepth 100000 in
theorem lsame_ok (q n : Int) {ao bo : Option Addr} {k n' ca cb : Nat} {R : Nat → Nat → Nat} {w : World} (ha : RL (.slice ao k ca) k n' R w) (hb : RL (.slice bo k cb) k n' R w) (hk : k ≤ 1000000) (hn : n' ≤ 1000000) :
   Calls Tryz.prog 22 #[.agg #[.int .i64 q, .int .i64 n, .slice ao k ca], .int .i64 0, .agg #[.int .i64 q, .int .i64 n, .slice bo k cb], .int .i64 0] w fun e w' => e = .returned (.bool true) ∧ Below w.heap.size w w' := by
 obtain ⟨w0,hw0⟩ : ∃ w0,w0 = (w.alloc (.cells #[.int .i64 q, .int .i64 n, .slice ao k ca] 35)).alloc (.cells #[.int .i64 q, .int .i64 n, .slice bo k cb] 35) := ⟨_,rfl⟩
 have HW : Hid (Below w.heap.size w w0 ∧ RL (.slice ao k ca) k n' R w0 ∧ RL (.slice bo k cb) k n' R w0) := by
   obtain ⟨h1,_,_,_⟩ := two_boxes q n q n (.slice ao k ca) (.slice bo k cb) w
   rw [hw0]; exact ⟨h1,ha.below h1,hb.below h1⟩
 clear ha hb
 go_enter Tryz.func22,Tryz.ntmps22
 go_wp2_with fail
 rw [← hw0]
 clear hw0
 refine (rsameCode_any q n HW.out.2.1 HW.out.2.2 hk hn).mono ?_
 rintro e w1 ⟨rfl,hb1⟩
 have H1 : Hid (Below w.heap.size w w1) := bel_up' HW.out.1 hb1
 clear hb1
 go_wp2
 go_ret
 exact ⟨rfl,H1.out⟩
set_option maxHeartbeats 4000000 in
set_option maxRecDepth 100000 in
theorem lsame_err (e : Int) (he : e ≠ 0) (q n : Int) (bo : Option Addr) (m cb : Nat) (w : World) :
   Calls Tryz.prog 22 #[.agg #[.int .i64 0, .int .i64 0, .slice none 0 0], .int .i64 e, .agg #[.int .i64 q, .int .i64 n, .slice bo m cb], .int .i64 e] w fun x w' => x = .returned (.bool true) ∧ Below w.heap.size w w' := by
 have hz : (e != 0) = true := by rw [bne_iff_ne]; exact he
 clear he
 obtain ⟨w0,hw0⟩ : ∃ w0,w0 = (w.alloc (.cells #[.int .i64 0, .int .i64 0, .slice none 0 0] 35)).alloc (.cells #[.int .i64 q, .int .i64 n, .slice bo m cb] 35) := ⟨_,rfl⟩
 have HW : Hid (Below w.heap.size w w0) := by
   obtain ⟨h1,_,_,_⟩ := two_boxes 0 0 q n (.slice none 0 0) (.slice bo m cb) w
   rw [hw0]; exact h1
 go_enter Tryz.func22,Tryz.ntmps22
 go_wp2_with fail
 rw [← hw0]
 clear hw0
 refine (rsameCode_any (k := 0) (n' := 0) (R := fun _ => pnil) 0 0 (RL.nil _ _ _) (RL.nil _ _ _) (by omega) (by omega)).mono ?_
 rintro x w1 ⟨rfl,hb1⟩
 have H1 : Hid (Below w.heap.size w w1) := bel_up' HW.out hb1
 clear hb1
 go_wp2
 go_ret
 exact ⟨rfl,H1.out⟩
theorem RB.of {b : Nat} {q n : Int} {v : Value} {w : World} (h : CB b q n v w) (ht : RBt b w) : RB b w := by
 obtain ⟨cs,hh⟩ := ht
 exact ⟨⟨_,h.c0⟩,⟨_,h.c1⟩,⟨_,h.c2⟩,frozen_of_row _ _ _ _ _ hh,frozen_of_row _ _ _ _ _ hh,frozen_of_row _ _ _ _ _ hh⟩
set_option maxHeartbeats 4000000 in
set_option maxRecDepth 100000 in
theorem cMake_ok {D : FD} (hD : D ∈ fieldsL) {ao : Option Addr} {m n ca : Nat} {A : Nat → Option Addr} {N C : Nat → Nat} {Z : Nat → Nat → Int} {w : World} (ha : CdZ D ao m n A N C Z w)
   (hC : ∀ wx,Below w.heap.size w wx → Calls Tryz.prog 96 #[.agg #[.int .i64 D.q, .int .i64 (n : Nat), .slice ao m ca]] wx fun x w' => x = .returned (.int .i64 0) ∧ Below wx.heap.size wx w') :
   Calls Tryz.prog 57 #[.agg #[.int .i64 D.q, .int .i64 (n : Nat), .slice ao m ca]] w fun x w' => ∃ k R ro rc,x = .returned (.tuple #[.agg #[.int .i64 D.q, .int .i64 (n : Nat), .slice ro k rc], .int .i64 0]) ∧ MV w.heap.size (.slice ro k rc) k n R w' ∧ Red D n m (mzc N Z) k R ∧ Below w.heap.size w w' := by
 obtain ⟨w0,hw0⟩ : ∃ w0,w0 = (w.alloc (.cells #[.int .i64 D.q, .int .i64 (n : Nat), .slice ao m ca] 35)).alloc (.cells #[.int .i64 0, .int .i64 0, .slice none 0 0] 35) := ⟨_,rfl⟩
 have HW : Hid (Below w.heap.size w w0 ∧ RB (w.heap.size + 1) w0 ∧ CB w.heap.size D.q n (.slice ao m ca) w0 ∧ w0.heap.size = w.heap.size + 2) := by
   obtain ⟨h1,h2,h3,h4⟩ := two_boxes D.q n 0 0 (.slice ao m ca) (.slice none 0 0) w
   have h6 := RBt.new #[.int .i64 0, .int .i64 0, .slice none 0 0] (w.alloc (.cells #[.int .i64 D.q, .int .i64 (n : Nat), .slice ao m ca] 35))
   rw [show (w.alloc (.cells #[.int .i64 D.q, .int .i64 (n : Nat), .slice ao m ca] 35)).heap.size = w.heap.size + 1 by simp] at h6
   rw [hw0]; exact ⟨h1,RB.of h3 h6,h2,by simp⟩
 have HA : Hid (D ∈ fieldsL ∧ CdZ D ao m n A N C Z w) := ⟨hD,ha⟩
 have HC : Hid _ := hC
 have hn1 := ha.n1
 have hn := ha.n64
 clear hD ha hC
 go_enter Tryz.func57,Tryz.ntmps57
 go_wp2_with fail
 rw [← hw0]
 clear hw0
 refine (HC.out _ HW.out.1).mono ?_
 rintro x w1 ⟨rfl,hb1⟩
 have H1 : Hid (Below w.heap.size w w1 ∧ RB (w.heap.size + 1) w1 ∧ CB w.heap.size D.q n (.slice ao m ca) w1 ∧ w.heap.size + 2 ≤ w1.heap.size) := ⟨bel_up' HW.out.1 hb1,HW.out.2.1.keep hb1,HW.out.2.2.1.keep hb1,by have := hb1.size; have := HW.out.2.2.2; omega⟩
 clear hb1
 have hcb1 := H1.out.2.2.1
 obtain ⟨a0,a1,a2⟩ := hcb1
 go_wp2_with fail
 refine (oneForm_any HA.out.1 (HA.out.2.below H1.out.1)).mono ?_
 rintro x w2 ⟨k,R,ro,rc,rfl,hmv,hred,hb2⟩
 have H2 : Hid (MV w1.heap.size (.slice ro k rc) k n R w2 ∧ Red D n m (mzc N Z) k R ∧ Below w.heap.size w w2 ∧ RB (w.heap.size + 1) w2) := ⟨hmv,hred,bel_up' H1.out.1 hb2,H1.out.2.1.keep hb2⟩
 clear hmv hred hb2 a0 a1 a2
 obtain ⟨⟨x0,c0⟩,⟨x1,c1⟩,⟨x2,c2⟩,f0,f1,f2⟩ := H2.out.2.2.2
 go_wp2
 obtain ⟨w3,hw3⟩ : ∃ w3,w3 = laid w2 (w.heap.size + 1) D.q n (.slice ro k rc) := ⟨_,rfl⟩
 have H3 : Hid (CB (w.heap.size + 1) D.q n (.slice ro k rc) w3 ∧ MV w.heap.size (.slice ro k rc) k n R w3 ∧ Below w.heap.size w w3) := by
   have := H1.out.2.2.2
   rw [hw3]; exact ⟨laid_cb H2.out.2.2.2 _ _ _,(laid_mv H2.out.1 (by omega) _ _ _).mono (by omega),laid_below H2.out.2.2.1 (by omega) _ _ _⟩
 unfold laid at hw3
 rw [← hw3]
 clear hw3 c0 c1 c2 f0 f1 f2
 obtain ⟨c0,c1,c2⟩ := H3.out.1
 refine bodyPost_ret (v := .tuple #[.agg #[.int .i64 D.q, .int .i64 (n : Nat), .slice ro k rc], .int .i64 0]) (by simp [results,Tryz.results57,go_sem,c0,c1,c2]) rfl ?_
 exact ⟨_,R,_,_,rfl,H3.out.2.1,H2.out.2.1,H3.out.2.2⟩
set_option maxHeartbeats 4000000 in
set_option maxRecDepth 100000 in
theorem cDual_ok {D : FD} (hD : D ∈ fieldsL) {ao : Option Addr} {m n ca : Nat} {A : Nat → Option Addr} {N C : Nat → Nat} {Z : Nat → Nat → Int} {w : World} (ha : CdZ D ao m n A N C Z w)
   (hC : ∀ wx,Below w.heap.size w wx → Calls Tryz.prog 96 #[.agg #[.int .i64 D.q, .int .i64 (n : Nat), .slice ao m ca]] wx fun x w' => x = .returned (.int .i64 0) ∧ Below wx.heap.size wx w') :
   Calls Tryz.prog 106 #[.agg #[.int .i64 D.q, .int .i64 (n : Nat), .slice ao m ca]] w fun x w' => ∃ k R ro rc,x = .returned (.tuple #[.agg #[.int .i64 D.q, .int .i64 (n : Nat), .slice ro k rc], .int .i64 0]) ∧ MV w.heap.size (.slice ro k rc) k n R w' ∧ Dul D n m (mzc N Z) k R ∧ Below w.heap.size w w' := by
 obtain ⟨w0,hw0⟩ : ∃ w0,w0 = (w.alloc (.cells #[.int .i64 D.q, .int .i64 (n : Nat), .slice ao m ca] 35)).alloc (.cells #[.int .i64 0, .int .i64 0, .slice none 0 0] 35) := ⟨_,rfl⟩
 have HW : Hid (Below w.heap.size w w0 ∧ RB (w.heap.size + 1) w0 ∧ CB w.heap.size D.q n (.slice ao m ca) w0 ∧ w0.heap.size = w.heap.size + 2) := by
   obtain ⟨h1,h2,h3,h4⟩ := two_boxes D.q n 0 0 (.slice ao m ca) (.slice none 0 0) w
   have h6 := RBt.new #[.int .i64 0, .int .i64 0, .slice none 0 0] (w.alloc (.cells #[.int .i64 D.q, .int .i64 (n : Nat), .slice ao m ca] 35))
   rw [show (w.alloc (.cells #[.int .i64 D.q, .int .i64 (n : Nat), .slice ao m ca] 35)).heap.size = w.heap.size + 1 by simp] at h6
   rw [hw0]; exact ⟨h1,RB.of h3 h6,h2,by simp⟩
 have HA : Hid (D ∈ fieldsL ∧ CdZ D ao m n A N C Z w) := ⟨hD,ha⟩
 have HC : Hid _ := hC
 have hn1 := ha.n1
 have hn := ha.n64
 clear hD ha hC
 go_enter Tryz.func106,Tryz.ntmps106
 go_wp2_with fail
 rw [← hw0]
 clear hw0
 refine (HC.out _ HW.out.1).mono ?_
 rintro x w1 ⟨rfl,hb1⟩
 have H1 : Hid (Below w.heap.size w w1 ∧ RB (w.heap.size + 1) w1 ∧ CB w.heap.size D.q n (.slice ao m ca) w1 ∧ w.heap.size + 2 ≤ w1.heap.size) := ⟨bel_up' HW.out.1 hb1,HW.out.2.1.keep hb1,HW.out.2.2.1.keep hb1,by have := hb1.size; have := HW.out.2.2.2; omega⟩
 clear hb1
 have hcb1 := H1.out.2.2.1
 obtain ⟨a0,a1,a2⟩ := hcb1
 go_wp2_with fail
 refine (dual_any HA.out.1 (HA.out.2.below H1.out.1)).mono ?_
 rintro x w2 ⟨k,R,ro,rc,rfl,hmv,hred,hb2⟩
 have H2 : Hid (MV w1.heap.size (.slice ro k rc) k n R w2 ∧ Dul D n m (mzc N Z) k R ∧ Below w.heap.size w w2 ∧ RB (w.heap.size + 1) w2) := ⟨hmv,hred,bel_up' H1.out.1 hb2,H1.out.2.1.keep hb2⟩
 clear hmv hred hb2 a0 a1 a2
 obtain ⟨⟨x0,c0⟩,⟨x1,c1⟩,⟨x2,c2⟩,f0,f1,f2⟩ := H2.out.2.2.2
 go_wp2
 obtain ⟨w3,hw3⟩ : ∃ w3,w3 = laid w2 (w.heap.size + 1) D.q n (.slice ro k rc) := ⟨_,rfl⟩
 have H3 : Hid (CB (w.heap.size + 1) D.q n (.slice ro k rc) w3 ∧ MV w.heap.size (.slice ro k rc) k n R w3 ∧ Below w.heap.size w w3) := by
   have := H1.out.2.2.2
   rw [hw3]; exact ⟨laid_cb H2.out.2.2.2 _ _ _,(laid_mv H2.out.1 (by omega) _ _ _).mono (by omega),laid_below H2.out.2.2.1 (by omega) _ _ _⟩
 unfold laid at hw3
 rw [← hw3]
 clear hw3 c0 c1 c2 f0 f1 f2
 obtain ⟨c0,c1,c2⟩ := H3.out.1
 refine bodyPost_ret (v := .tuple #[.agg #[.int .i64 D.q, .int .i64 (n : Nat), .slice ro k rc], .int .i64 0]) (by simp [results,Tryz.results106,go_sem,c0,c1,c2]) rfl ?_
 exact ⟨_,R,_,_,rfl,H3.out.2.1,H2.out.2.1,H3.out.2.2⟩
set_option maxHeartbeats 4000000 in
set_option maxRecDepth 100000 in
theorem weight_any {ao : Option Addr} {n ca : Nat} {a : Nat → Int} {w : World} (hA : SlZ ao n a w) (hla : LtB ao w.heap.size) (hn : n ≤ 1000) :
   Calls Tryz.prog 70 #[.slice ao n ca] w fun e w' => e = .returned (.int .i64 (ct (fun i => !decide (a i = 0)) n : Nat)) ∧ Below w.heap.size w w' := by
 have HF : Hid (SlZ ao n a w ∧ LtB ao w.heap.size) := ⟨hA,hla⟩
 clear hA hla
 go_enter Tryz.func70,Tryz.ntmps70
 go_wp2
 go_loopw [3,8] (fun vm vi wr => ∃ (r m : Nat),r ≤ n ∧ m ≤ r ∧ vm = .int .i64 (m : Nat) ∧ vi = .int .i64 r ∧ Hid (m = ct (fun i => !decide (a i = 0)) r ∧ Below w.heap.size w wr)) (fun _ vi _ => n - (intOf vi).toNat)
 case atStart => exact ⟨0,0,by omega,by omega,rfl,rfl,rfl,Below.refl _ _⟩
 case round =>
   obtain ⟨r,m,hr,hmr,rfl,rfl,HG⟩ := hrel
   rename World => wr
   by_cases hlt : r < n
   · have hib : (r : Int) < (n : Int) := by omega
     obtain ⟨ba,oa,hao,hca⟩ := (HF.out.1.below HG.out.2 HF.out.2) r hlt
     subst hao
     obtain ⟨x,hx⟩ : ∃ x,x = a r := ⟨_,rfl⟩
     rw [← hx] at hca
     by_cases e : x = 0
     · have hz : (x != 0) = false := by rw [e]; simp
       have HV : Hid (m = ct (fun i => !decide (a i = 0)) (r + 1)) := by
         show m = ct (fun i => !decide (a i = 0)) r + if (!decide (a r = 0)) = true then 1 else 0
         rw [← HG.out.1,decide_eq_true (by rw [← hx]; exact e)]; rfl
       clear e hx
       go_wp2
       go_roundw
       case rel => exact ⟨r + 1,m,by omega,by omega,rfl,by go_num,HV.out,by first | exact HG.out.2 | exact HG.out.2.drew | exact below_drewN2 HG.out.2 _⟩
       case measure => simp [intOf]; omega
     · have hz : (x != 0) = true := by rw [bne_iff_ne]; exact e
       have HV : Hid (m + 1 = ct (fun i => !decide (a i = 0)) (r + 1)) := by
         show m + 1 = ct (fun i => !decide (a i = 0)) r + if (!decide (a r = 0)) = true then 1 else 0
         rw [← HG.out.1,decide_eq_false (by rw [← hx]; exact e)]; rfl
       clear e hx
       go_wp2
       go_roundw
       case rel => exact ⟨r + 1,m + 1,by omega,by omega,by go_num,by go_num,HV.out,by first | exact HG.out.2 | exact HG.out.2.drew | exact below_drewN2 HG.out.2 _⟩
       case measure => simp [intOf]; omega
   · have hib : ¬ (r : Int) < (n : Int) := by omega
     have hre : n = r := by omega
     subst hre
     go_wp2
     go_ret
     exact ⟨by rw [HG.out.1]; rfl,by first | exact HG.out.2 | exact HG.out.2.drew | exact below_drewN2 HG.out.2 _⟩
def FD.nchk (D : FD) (m : Nat) (y : Nat → Int) (many : Int) : Int := if ((m : Nat) : Int) ≠ many then 6 else if anyB (fun j => !D.has (y j)) m = true then 2 else 0
theorem nchk_ok {D : FD} {m : Nat} {y : Nat → Int} {many : Int} (h : D.nchk m y many = 0) : ((m : Nat) : Int) = many ∧ ∀ j,j < m → D.has (y j) = true := by
 unfold FD.nchk at h
 split at h
 · omega
 · split at h
   · omega
   · rename_i h1 h2
     refine ⟨by omega,fun j hj => ?_⟩
     cases e : D.has (y j) with
     | true => rfl
     | false => exact absurd (anyB_yes (p := fun j => !D.has (y j)) (by show (!D.has (y j)) = true; rw [e]; rfl) m hj) h2
theorem enters_cnum : ∀ args w,(callFunc 102 args).run Tryz.prog w = .ok (.enter 102 args) w :=
 enters_of Tryz.func102 (by kernel_rfl) rfl
set_option maxHeartbeats 2000000 in
set_option maxRecDepth 100000 in
theorem cnum1_any {D : FD} {F T B : Nat} {g : Nat → Value} {w : World} (h : FAt F T D g w) (hc : w.cell? ⟨B, 0, none⟩ = some (.pointer (some ⟨F, 0, none⟩))) (x : Int) :
   Calls Tryz.prog 102 #[.int .i64 x, .pointer (some ⟨B,0,none⟩)] w fun e w' => e = .returned (.bool (!D.has x)) ∧ w' = w := by
 have HS : Hid (FAt F T D g w) := h
 clear h
 obtain ⟨y,hy⟩ : ∃ y,y = D.has x := ⟨_,rfl⟩
 have HC : Hid (Calls Tryz.prog 80 #[.pointer (some ⟨F,0,none⟩), .int .i64 x] w fun e w' => e = .returned (.bool y) ∧ w' = w) := by
   show Calls _ _ _ _ _
   rw [hy]; exact has_any HS.out x
 rw [← hy]
 clear hy
 go_enter Tryz.func102,Tryz.ntmps102
 go_wp2_with (go_at_call 80; refine HC.out.mono ?_; rintro e w' ⟨rfl,hw⟩; have hw := hw.symm; subst hw)
 go_ret
 exact ⟨rfl,rfl⟩
def NumP (D : FD) (ab : Bool) (B : Nat) (e : Ending) (w' : World) : Prop := if ab = true then e = .returned (.tuple #[.pointer none, .int .i64 2]) else ∃ F T g,e = .returned (.tuple #[.pointer (some ⟨F,0,none⟩), .int .i64 0]) ∧ FAt F T D g w' ∧ B ≤ F ∧ B ≤ T
set_option maxHeartbeats 4000000 in
set_option maxRecDepth 100000 in
theorem cnum_any {D : FD} (hD : D ∈ fieldsL) {yo : Option Addr} {m cy : Nat} {y : Nat → Int} {w : World} (hY : Arg yo m cy y w) :
   Calls Tryz.prog 67 #[.int .i64 D.q, .slice yo m cy, .int .i64 (m : Nat)] w fun e w' => Below w.heap.size w w' ∧ NumP D (anyB (fun j => !D.has (y j)) m) w.heap.size e w' := by
 have HF : Hid (D ∈ fieldsL ∧ Arg yo m cy y w) := ⟨hD,hY⟩
 have hm6 := hY.few
 obtain ⟨ab,hab⟩ : ∃ ab,ab = anyB (fun j => !D.has (y j)) m := ⟨_,rfl⟩
 rw [← hab]
 clear hD hY
 go_enter Tryz.func67,Tryz.ntmps67
 go_wp2_with fail
 refine (new_any HF.out.1 w).mono ?_
 rintro e w2 ⟨F,T,g,rfl,hat,hF,hT,hb2⟩
 have hal : Below w2.heap.size w2 (w2.alloc (.cells #[.pointer (some ⟨F,0,none⟩)] 65)) := (Below.refl _ _).alloc (Nat.le_refl _) _
 have H2 : Hid (FAt F T D g (w2.alloc (.cells #[.pointer (some ⟨F,0,none⟩)] 65)) ∧ Below w.heap.size w (w2.alloc (.cells #[.pointer (some ⟨F,0,none⟩)] 65)) ∧ w.heap.size ≤ F ∧ w.heap.size ≤ T) := ⟨hat.below hal hat.ltF hat.ltT,bel_up' hb2 hal,hF,hT⟩
 have HCf : Hid (∀ cap,Calls Tryz.prog 78 #[.slice yo m cap, .func (.func 102) #[] #[.pointer (some ⟨w2.heap.size,0,none⟩)]] (w2.alloc (.cells #[.pointer (some ⟨F,0,none⟩)] 65)) fun e w' => e = .returned (.bool ab) ∧ w' = w2.alloc (.cells #[.pointer (some ⟨F,0,none⟩)] 65)) := fun cap => by
   rw [hab]
   refine containsFn_any enters_cnum (HF.out.2.below H2.out.2.1).sl hm6 (fun j _ => ?_)
   have e : (#[Value.int .i64 (y j)] ++ #[Value.pointer (some ⟨w2.heap.size,0,none⟩)] : Array Value) = #[.int .i64 (y j), .pointer (some ⟨w2.heap.size,0,none⟩)] := rfl
   rw [e]
   exact cnum1_any H2.out.1 (by simp) (y j)
 clear hat hF hT hb2 hal hab
 cases ab
 · go_wp2_with (go_at_call 78; refine (HCf.out _).mono ?_; rintro e w' ⟨rfl,rfl⟩)
   go_ret2
   refine ⟨H2.out.2.1, ?_⟩
   unfold NumP
   rw [if_neg (by simp)]
   exact ⟨F,T,g,by simp [go_sem],H2.out.1,H2.out.2.2.1,H2.out.2.2.2⟩
 · go_wp2_with (go_at_call 78; refine (HCf.out _).mono ?_; rintro e w' ⟨rfl,rfl⟩)
   go_ret2
   refine ⟨H2.out.2.1, ?_⟩
   unfold NumP
   rw [if_pos rfl]
   simp [go_sem]
theorem cnum_ok {D : FD} (hD : D ∈ fieldsL) {yo : Option Addr} {m cy : Nat} {y : Nat → Int} {many : Int} {w : World} (hY : Arg yo m cy y w) (h : D.nchk m y many = 0) :
   Calls Tryz.prog 67 #[.int .i64 D.q, .slice yo m cy, .int .i64 many] w fun e w' => ∃ F T g,e = .returned (.tuple #[.pointer (some ⟨F,0,none⟩), .int .i64 0]) ∧ FAt F T D g w' ∧ w.heap.size ≤ F ∧ w.heap.size ≤ T ∧ Below w.heap.size w w' := by
 unfold FD.nchk at h
 by_cases e : ((m : Nat) : Int) = many
 · rw [if_neg (by omega)] at h
   subst e
   by_cases ha : anyB (fun j => !D.has (y j)) m = true
   · rw [if_pos ha] at h; omega
   · refine (cnum_any hD hY).mono ?_
     rintro x w' ⟨hb,hx⟩
     unfold NumP at hx
     rw [if_neg ha] at hx
     obtain ⟨F,T,g,a,b,c,d⟩ := hx
     exact ⟨F,T,g,a,b,c,d,hb⟩
 · rw [if_pos e] at h; omega
def LstP (B n : Nat) (v : Nat → Nat) (x : Ending) (w' : World) : Prop := ∃ gr c,x = .returned (.tuple #[.slice (some ⟨gr,0,none⟩) n c, .int .i64 0]) ∧ Row gr n v w' ∧ B ≤ gr ∧ n ≤ c ∧ c ≤ 9223372036854775807
theorem rl_lt {ao : Option Addr} {n : Nat} {a : Nat → Nat} {w : World} (h : Sl ao n a w) (hn : 1 ≤ n) : LtB ao w.heap.size := fun x hx => by
 obtain ⟨b,off,e,hc⟩ := h 0 (by omega)
 rw [hx] at e
 cases e
 exact cell_lt hc
theorem zc_lt {D : FD} {my : Nat} {y : Nat → Int} {many : Int} (h : D.nchk my y many = 0) {i : Nat} (hi : i < my) : zc my y i < D.q := by
 obtain ⟨s,e,hs⟩ := has_nat ((nchk_ok h).2 i hi)
 unfold zc; rw [if_pos hi,e,Int.toNat_natCast]; exact hs
end Go.Proofs.YtppggchhkckobaaGreat
namespace Go.Proofs.YtppggchhkckobaaGreat
def dot (D : FD) (a b : Nat → Nat) : Nat → Nat
 | 0 => 0
 | j + 1 => D.ad (dot D a b j) (D.mul (a j) (b j))
theorem dot_lt {D : FD} (F : Fld D) (a b : Nat → Nat) : ∀ j,dot D a b j < D.q
 | 0 => zero_lt' F
 | j + 1 => ad_lt F (dot_lt F a b j) (F.mul_lt _ _)
theorem dot_comm {D : FD} (F : Fld D) (a b : Nat → Nat) : ∀ n,dot D a b n = dot D b a n
 | 0 => rfl
 | n + 1 => by
   show D.ad (dot D a b n) (D.mul (a n) (b n)) = D.ad (dot D b a n) (D.mul (b n) (a n))
   rw [dot_comm F a b n,F.mul_comm (a n)]
theorem dot_nil {D : FD} (F : Fld D) (v : Nat → Nat) : ∀ n,dot D pnil v n = 0
 | 0 => rfl
 | n + 1 => by
   show D.ad (dot D pnil v n) (D.mul 0 (v n)) = 0
   rw [dot_nil F v n,zmul F,ad_zero F (zero_lt' F)]
theorem dot_add {D : FD} (F : Fld D) {a b : Nat → Nat} (ha : El D a) (hb : El D b) (v : Nat → Nat) : ∀ n,dot D (padd D a b) v n = D.ad (dot D a v n) (dot D b v n)
 | 0 => (ad_zero F (zero_lt' F)).symm
 | n + 1 => by
   show D.ad (dot D (padd D a b) v n) (D.mul (D.ad (a n) (b n)) (v n)) = D.ad (D.ad (dot D a v n) (D.mul (a n) (v n))) (D.ad (dot D b v n) (D.mul (b n) (v n)))
   rw [dot_add F ha hb v n,ad_mul F (ha n) (hb n),ad4 F (dot_lt F _ _ _) (dot_lt F _ _ _) (F.mul_lt _ _) (F.mul_lt _ _)]
theorem dot_scale {D : FD} (F : Fld D) (s : Nat) (a v : Nat → Nat) : ∀ n,dot D (pscale D s a) v n = D.mul s (dot D a v n)
 | 0 => (mul0 F s).symm
 | n + 1 => by
   show D.ad (dot D (pscale D s a) v n) (D.mul (D.mul s (a n)) (v n)) = D.mul s (D.ad (dot D a v n) (D.mul (a n) (v n)))
   rw [dot_scale F s a v n,mul_ad F (dot_lt F _ _ _) (F.mul_lt _ _),F.mul_assoc]
theorem dot_spn {D : FD} (F : Fld D) {P : (Nat → Nat) → Prop} {u x : Nat → Nat} {n : Nat} (h : Spn D P u) (hP : ∀ v,P v → dot D v x n = 0) : dot D u x n = 0 := by
 obtain ⟨l,hl,rfl⟩ := h
 induction l with
 | nil => exact dot_nil F x n
 | cons y l ih =>
   show dot D (padd D (pscale D y.1 y.2) (lsum D l)) x n = 0
   rw [dot_add F (el_scale F _ _) (lsum_el F l),dot_scale F,hP _ (hl y (List.mem_cons_self ..)),mul0 F,ih (fun z hz => hl z (List.mem_cons_of_mem _ hz)),ad_zero F (zero_lt' F)]
theorem dot_congr {D : FD} {a a' b b' : Nat → Nat} : ∀ n,(∀ j,j < n → a j = a' j ∧ b j = b' j) → dot D a b n = dot D a' b' n
 | 0,_ => rfl
 | n + 1,h => by
   show D.ad (dot D a b n) (D.mul (a n) (b n)) = D.ad (dot D a' b' n) (D.mul (a' n) (b' n))
   rw [dot_congr n (fun j hj => h j (by omega)),(h n (by omega)).1,(h n (by omega)).2]
theorem dot_put {D : FD} (F : Fld D) {a b : Nat → Nat} {j v : Nat} (hb : b j = 0) : ∀ n,j < n → dot D a (fun t => if t = j then v else b t) n = D.ad (dot D a b n) (D.mul (a j) v)
 | 0,h => absurd h (by omega)
 | n + 1,h => by
   show D.ad (dot D a (fun t => if t = j then v else b t) n) (D.mul (a n) (if n = j then v else b n)) = D.ad (D.ad (dot D a b n) (D.mul (a n) (b n))) (D.mul (a j) v)
   by_cases e : n = j
   · subst e
     rw [if_pos rfl,hb,mul0 F,ad_zero F (dot_lt F _ _ _),dot_congr (a' := a) (b' := b) n (fun t ht => ⟨rfl,if_neg (by omega)⟩)]
   · rw [if_neg e,dot_put F hb n (by omega),ad_assoc F (dot_lt F _ _ _) (F.mul_lt _ _) (F.mul_lt _ _),ad_comm F (D.mul (a j) v), ← ad_assoc F (dot_lt F _ _ _) (F.mul_lt _ _) (F.mul_lt _ _)]
theorem dot_unit {D : FD} (F : Fld D) {a : Nat → Nat} {c n : Nat} (ha : a c < D.q) (hc : c < n) : dot D a (fun t => if t = c then 1 else 0) n = a c := by
 have h := dot_put F (a := a) (b := pnil) (j := c) (v := 1) rfl n hc
 rw [mul1 F ha,dot_comm F a pnil,dot_nil F,zero_ad F ha] at h
 exact h
end Go.Proofs.YtppggchhkckobaaGreat
namespace Go.Proofs.YtppggchhkckobaaGreat
open Go.RowKit Go.Sort
def syn (D : FD) (R : Nat → Nat → Nat) (z : Nat → Nat) (n i j c : Nat) : Nat := if c < i then dot D (R c) z n else if c = i then dot D (R c) z j else 0
set_option maxHeartbeats 16000000 in
set_option maxRecDepth 100000 in
theorem cSyn_ok {D : FD} (hD : D ∈ fieldsL) {ao yo : Option Addr} {m n ca my cy k : Nat} {A : Nat → Option Addr} {N C : Nat → Nat} {Z : Nat → Nat → Int} {R : Nat → Nat → Nat} {y : Nat → Int} {w : World} (ha : CdZ D ao m n A N C Z w) (hY : Arg yo my cy y w) (hR : Dul D n m (mzc N Z) k R) (hk : D.nchk my y n = 0)
   (hC : ∀ wx,Below w.heap.size w wx → Calls Tryz.prog 96 #[.agg #[.int .i64 D.q, .int .i64 (n : Nat), .slice ao m ca]] wx fun x w' => x = .returned (.int .i64 0) ∧ Below wx.heap.size wx w') :
   Calls Tryz.prog 69 #[.agg #[.int .i64 D.q, .int .i64 (n : Nat), .slice ao m ca], .slice yo my cy] w fun x w' => LstP w.heap.size k (fun i => dot D (R i) (zc my y) n) x w' ∧ Below w.heap.size w w' := by
 have hmy : my = n := by have := (nchk_ok hk).1; omega
 subst hmy
 obtain ⟨w0,hw0⟩ : ∃ w0,w0 = w.alloc (.cells #[.int .i64 D.q, .int .i64 (my : Nat), .slice ao m ca] 35) := ⟨_,rfl⟩
 have HW : Hid (Below w.heap.size w w0 ∧ CB w.heap.size D.q my (.slice ao m ca) w0) := by
   rw [hw0]; exact ⟨(Below.refl _ _).alloc (Nat.le_refl _) _,CB.new _ _ _ _⟩
 have HA : Hid (D ∈ fieldsL ∧ CdZ D ao m my A N C Z w ∧ Arg yo my cy y w ∧ Dul D my m (mzc N Z) k R ∧ D.nchk my y my = 0) := ⟨hD,ha,hY,hR,hk⟩
 have HC : Hid _ := hC
 have hn1 := ha.n1
 have hn := ha.n64
 have hkn := hR.le
 clear hD ha hY hR hC
 go_enter Tryz.func69,Tryz.ntmps69
 go_wp2_with fail
 rw [← hw0]
 clear hw0
 refine (cDual_ok HA.out.1 (HA.out.2.1.below HW.out.1) (fun wx hx => HC.out _ (bel_up' HW.out.1 hx))).mono ?_
 rintro x w1 ⟨k',R',ro,rc,rfl,hmv,hred,hb1⟩
 have hu := Dul.uniq (fld HA.out.1) HA.out.2.2.2.1 hred (fun v => Iff.rfl)
 obtain ⟨hu1,hu2⟩ := hu
 subst hu1
 obtain ⟨w2,hw2⟩ : ∃ w2,w2 = w1.alloc (.cells #[.int .i64 D.q, .int .i64 (my : Nat), .slice ro k rc] 35) := ⟨_,rfl⟩
 have H2 : Hid (Below w.heap.size w w2 ∧ CB w.heap.size D.q my (.slice ao m ca) w2 ∧ CB w1.heap.size D.q my (.slice ro k rc) w2 ∧ RL (.slice ro k rc) k my R w2) := by
   have hal : Below w1.heap.size w1 w2 := by rw [hw2]; exact (Below.refl _ _).alloc (Nat.le_refl _) _
   exact ⟨bel_up' (bel_up' HW.out.1 hb1) hal,(HW.out.2.keep hb1).keep hal,by rw [hw2]; exact CB.new _ _ _ _,(hmv.below hal).rl.congr (fun i hi => (hu2 i hi).symm)⟩
 obtain ⟨p0,p1,p2⟩ := HW.out.2.keep hb1
 have hlt0 : w.heap.size < w1.heap.size := cell_lt p0
 clear hmv hred hu2 hb1
 go_wp2_with fail
 rw [← hw2]
 clear hw2 p0 p1 p2
 refine (cnum_ok HA.out.1 (HA.out.2.2.1.below H2.out.1) HA.out.2.2.2.2).mono ?_
 rintro x w3 ⟨F,T,g,rfl,hat,hF,hT,hb3⟩
 have H3 : Hid (Below w.heap.size w w3 ∧ CB w1.heap.size D.q my (.slice ro k rc) w3 ∧ RL (.slice ro k rc) k my R w3 ∧ FAt F T D g w3 ∧ Sl yo my (zc my y) w3 ∧ LtB yo w3.heap.size) := by
   have hb := bel_up' H2.out.1 hb3
   have hA := HA.out.2.2.1.below hb
   exact ⟨hb,H2.out.2.2.1.keep hb3,H2.out.2.2.2.below hb3,hat,has_sl (nchk_ok HA.out.2.2.2.2).2 hA.sl,hA.lt⟩
 clear hat hF hT hb3
 obtain ⟨p0,p1,p2⟩ := H3.out.2.1
 have hltb : w1.heap.size < w3.heap.size := cell_lt p0
 go_wp2_with (at_make; refine make_int rfl _ _ rfl _ k rfl rfl (by omega) (by omega) ?_; intro w4 hown4 hgrow4; have hb4 : Below w3.heap.size w3 w4 := below_grown hgrow4 (Nat.le_refl _) (fun k hk => by simp at hk); have hcb4 := H3.out.2.1.keep hb4; obtain ⟨r0,r1,r2⟩ := hcb4)
 have H4 : Hid (Row w3.heap.size k pnil w4 ∧ Below w3.heap.size w3 w4) := ⟨row_zeros hown4,hb4⟩
 clear hown4 hgrow4 hb4 r0 r1 r2 p0 p1 p2
 obtain ⟨G,hG⟩ : ∃ G,G = w3.heap.size := ⟨_,rfl⟩
 rw [← hG] at H4 ⊢
 have hG0 : w3.heap.size ≤ G := by omega
 have HGe : Hid (G = w3.heap.size) := hG
 clear hG
 go_loopw [41] (fun vi wr => ∃ i : Nat,i ≤ k ∧ vi = .int .i64 i ∧ Hid (Row G k (syn D R (zc my y) my i 0) wr ∧ Below w3.heap.size w3 wr)) (fun vi _ => k - (intOf vi).toNat)
 case atStart => exact ⟨0,by omega,rfl,H4.out.1.congr (fun c _ => by unfold syn; rw [if_neg (by omega)]; split <;> rfl),by rw [HGe.out] at H4; exact H4.out.2⟩
 case round =>
   clear H4
   obtain ⟨i,hi,rfl,HG⟩ := hrel
   rename World => wA
   by_cases hlt : i < k
   · have hib : (i : Int) < (k : Int) := by omega
     have hib0 : (0 : Int) ≤ (i : Int) := by omega
     obtain ⟨ro',rc',ev,hrl⟩ := H3.out.2.2.1
     cases ev
     obtain ⟨bR,oR,xr,cx,hro,hcr3,hsr⟩ := hrl i hlt
     subst hro
     have hcr := ((bcell HG.out.2).1 bR (oR + i) (cell_lt hcr3)).trans hcr3
     have HS : Hid (Sl xr my (R i) w3 ∧ LtB xr w3.heap.size ∧ El D (R i)) := ⟨hsr,rl_lt hsr hn1,HA.out.2.2.2.1.rows.1 i hlt⟩
     clear hrl hsr hcr3
     go_wp2_with fail
     go_loopw [48] (fun vj wi => ∃ j : Nat,j ≤ my ∧ vj = .int .i64 j ∧ Hid (Row G k (syn D R (zc my y) my i j) wi ∧ Below w3.heap.size w3 wi)) (fun vj _ => my - (intOf vj).toNat)
     case atStart => exact ⟨0,by omega,rfl,HG.out.1,HG.out.2⟩
     case round =>
       clear hcr HG
       obtain ⟨j,hj,rfl,HJ⟩ := hrel
       rename World => wC
       by_cases hjn : j < my
       · have hjb : (j : Int) < (my : Int) := by omega
         have hjb0 : (0 : Int) ≤ (j : Int) := by omega
         have hb := HJ.out.2
         obtain ⟨bY,oY,hyo,hcy⟩ := (H3.out.2.2.2.2.1.below hb H3.out.2.2.2.2.2) j hjn
         subst hyo
         obtain ⟨bx,ox,hxr,hcx⟩ := (HS.out.1.below hb HS.out.2.1) j hjn
         subst hxr
         obtain ⟨x,hx⟩ : ∃ x,x = R i j := ⟨_,rfl⟩
         rw [← hx] at hcx
         obtain ⟨t,ht⟩ : ∃ t,t = zc my y j := ⟨_,rfl⟩
         rw [← ht] at hcy
         obtain ⟨u,hu⟩ : ∃ u,u = dot D (R i) (zc my y) j := ⟨_,rfl⟩
         have hco : wC.cell? ⟨G,i,none⟩ = some (.int .i64 (u : Nat)) := by
           have h := HJ.out.1.cell i hlt
           unfold syn at h
           rw [if_neg (by omega),if_pos rfl, ← hu] at h; exact h
         have hfo := HJ.out.1.free i
         obtain ⟨p,hp⟩ : ∃ p,p = D.mul x t := ⟨_,rfl⟩
         obtain ⟨v,hv⟩ : ∃ v,v = D.ad u p := ⟨_,rfl⟩
         have hatA := H3.out.2.2.2.1.below hb H3.out.2.2.2.1.ltF H3.out.2.2.2.1.ltT
         have F' := fld HA.out.1
         have HC1 : Hid (∀ d,Calls Tryz.prog 105 #[.pointer (some ⟨F,0,none⟩), .int .i64 (x : Nat), .int .i64 (t : Nat)] (wC.drewN d) fun e w' => e = .returned (.int .i64 (p : Nat)) ∧ ∃ k,w' = (wC.drewN d).drewN k) := fun d => by
           rw [hp]
           exact mul_nat HA.out.1 (hatA.drewN d) (by rw [hx]; exact HS.out.2.2 j) (by rw [ht]; exact zc_lt HA.out.2.2.2.2 hjn)
         have HC2 : Hid (∀ d,Calls Tryz.prog 104 #[.pointer (some ⟨F,0,none⟩), .int .i64 (u : Nat), .int .i64 (p : Nat)] (wC.drewN d) fun e w' => e = .returned (.int .i64 (v : Nat)) ∧ ∃ k,w' = (wC.drewN d).drewN k) := fun d => by
           rw [hv]
           exact add_nat HA.out.1 (hatA.drewN d) (by rw [hu]; exact dot_lt F' _ _ _) (by rw [hp]; exact F'.mul_lt _ _)
         have HV : Hid (Row G k (syn D R (zc my y) my i j) wC ∧ Below w3.heap.size w3 wC ∧ v = dot D (R i) (zc my y) (j + 1)) := ⟨HJ.out.1,HJ.out.2,by rw [hv,hp,hu,hx,ht]; rfl⟩
         clear hx ht hu hp hv hatA HJ hb F'
         go_wp2
         refine quiet_tail 16 (by kernel_rfl) (by kernel_rfl) ?_
         simp only [List.take_succ_cons,List.take_zero,List.drop_succ_cons,List.drop_zero]
         repeat (go_big_quiet_step (first | (go_at_call 105; exact Calls.quiet_of (HC1.out _)) | (go_at_call 104; exact Calls.quiet_of (HC2.out _))))
         refine wpQuiet_nil ?_
         intro _ hw'
         obtain ⟨nq,hw''⟩ := hw'
         subst hw''
         go_wp2
         go_roundw
         case rel =>
           refine ⟨j + 1,by omega,by go_num,(HV.out.1.drewN nq).store i v (fun c _ => ?_),(below_drewN2 HV.out.2.1 nq).setCell (show w3.heap.size ≤ G from hG0) _⟩
           unfold syn
           by_cases e : c = i
           · rw [if_pos e,if_neg (by omega),if_pos e,e]; exact HV.out.2.2.symm
           · rw [if_neg e,if_neg e,if_neg e]
         case measure => simp [intOf]; omega
       · have hjb : ¬ (j : Int) < (my : Int) := by omega
         have hje : my = j := by omega
         have HK2 : Hid (Row G k (syn D R (zc my y) my (i + 1) 0) wC) := HJ.out.1.congr (fun c hc => by
           unfold syn
           by_cases e : c < i
           · rw [if_pos e,if_pos (by omega)]
           · by_cases e2 : c = i
             · rw [if_neg e,if_pos e2,if_pos (by omega), ← hje]
             · rw [if_neg e,if_neg e2,if_neg (by omega)]; split <;> rfl)
         clear hje
         go_wp2
         go_roundw
         case rel => exact ⟨i + 1,by omega,by go_num,HK2.out,HJ.out.2⟩
         case measure => simp [intOf]; omega
   · have hib : ¬ (i : Int) < (k : Int) := by omega
     have hie : k = i := by omega
     subst hie
     have HZ : Hid (Below w.heap.size w wA ∧ Row G k (fun i => dot D (R i) (zc my y) my) wA ∧ w.heap.size ≤ G) := ⟨bel_up' H3.out.1 HG.out.2,HG.out.1.congr (fun c hc => by unfold syn; rw [if_pos hc]),by have := H3.out.1.size; omega⟩
     go_wp2
     go_ret2
     exact ⟨⟨G,k,by simp [go_sem],HZ.out.2.1,HZ.out.2.2,Nat.le_refl _,by omega⟩,HZ.out.1⟩
theorem slz_of {ao : Option Addr} {n : Nat} {a : Nat → Nat} {w : World} (h : Sl ao n a w) : SlZ ao n (fun i => ((a i : Nat) : Int)) w := h
set_option maxHeartbeats 4000000 in
set_option maxRecDepth 100000 in
theorem cHas_ok (q n : Int) {ao yo : Option Addr} {m ca my cy k : Nat} {v : Nat → Nat} {w : World} (hk : k ≤ 1000)
   (hS : ∀ wx,Below w.heap.size w wx → Calls Tryz.prog 69 #[.agg #[.int .i64 q, .int .i64 n, .slice ao m ca], .slice yo my cy] wx fun x w' => LstP wx.heap.size k v x w' ∧ Below wx.heap.size wx w') :
   Calls Tryz.prog 27 #[.agg #[.int .i64 q, .int .i64 n, .slice ao m ca], .slice yo my cy] w fun x w' => x = .returned (.tuple #[.bool (decide (ct (fun i => !decide (((v i : Nat) : Int) = 0)) k = 0)), .int .i64 0]) ∧ Below w.heap.size w w' := by
 obtain ⟨w0,hw0⟩ : ∃ w0,w0 = w.alloc (.cells #[.int .i64 q, .int .i64 n, .slice ao m ca] 35) := ⟨_,rfl⟩
 have HW : Hid (Below w.heap.size w w0) := by rw [hw0]; exact (Below.refl _ _).alloc (Nat.le_refl _) _
 have HS : Hid _ := hS
 obtain ⟨t,ht⟩ : ∃ t,t = ct (fun i => !decide (((v i : Nat) : Int) = 0)) k := ⟨_,rfl⟩
 obtain ⟨b,hb⟩ : ∃ b,b = decide (t = 0) := ⟨_,rfl⟩
 rw [← ht, ← hb]
 have hz : (((t : Nat) : Int) == 0) = b := by
   rw [hb]
   by_cases h : t = 0
   · rw [h]; rfl
   · rw [decide_eq_false h,beq_eq_false_iff_ne]; omega
 have HT : Hid (t = ct (fun i => !decide (((v i : Nat) : Int) = 0)) k) := ht
 clear hS ht hb
 go_enter Tryz.func27,Tryz.ntmps27
 go_wp2_with fail
 rw [← hw0]
 clear hw0
 refine (HS.out _ HW.out).mono ?_
 rintro x w1 ⟨⟨gr,c,rfl,hrow,hg,hc,_⟩,hb1⟩
 have H1 : Hid (Below w.heap.size w w1 ∧ Row gr k v w1) := ⟨bel_up' HW.out hb1,hrow⟩
 have HWt : Hid (∀ cc,Calls Tryz.prog 70 #[.slice (some ⟨gr,0,none⟩) k cc] w1 fun e w' => e = .returned (.int .i64 (t : Nat)) ∧ Below w1.heap.size w1 w') := fun cc => by
   rw [HT.out]
   exact weight_any (slz_of (H1.out.2.sl (Nat.le_refl _))) (by intro x hx; cases hx; exact H1.out.2.lt) hk
 clear hb1 hrow hg hc
 go_wp2_with fail
 refine (HWt.out _).mono ?_
 rintro x w2 ⟨rfl,hb2⟩
 have H2 : Hid (Below w.heap.size w w2) := bel_up' H1.out.1 hb2
 clear hb2
 go_wp2
 go_ret2
 exact ⟨by simp [go_sem],H2.out⟩
end Go.Proofs.YtppggchhkckobaaGreat
