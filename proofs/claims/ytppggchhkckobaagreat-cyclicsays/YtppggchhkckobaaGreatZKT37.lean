/- Texts of ours, one behind the other: KT37. -/
import Derived.Test.YtppggchhkckobaaGreatZKT35
import Derived.Test.YtppggchhkckobaaGreatZL1
import Derived.Test.YtppggchhkckobaaGreatZR17
namespace Go.Proofs.YtppggchhkckobaaGreat
open Go.RowKit Go.Sort
set_option maxHeartbeats 2000000 in
set_option maxRecDepth 100000 in
theorem sameAll_nls {ba bb : Nat} {va vb : Value} {Ls : List (List Nat)} {w : World} (ha : NLs ba va Ls w) (hb : NLs bb vb Ls w) (hL : Ls.length ≤ 1000) (hp : ∀ c ∈ Ls, c.length ≤ 1000) :
   Calls Tryz.prog 34 #[va,vb] w fun e w' => e = .returned (.bool true) ∧ ∃ n,w' = w.drewN n := by
 obtain ⟨ao,ca,rfl⟩ := ha.slc
 obtain ⟨bo,cb,rfl⟩ := hb.slc
 obtain ⟨N,hN⟩ : ∃ N,N = Ls.length := ⟨_,rfl⟩
 rw [← hN] at ha hb hL ⊢
 have HC : Hid (NLs ba (.slice ao N ca) Ls w ∧ NLs bb (.slice bo N cb) Ls w ∧ (∀ c ∈ Ls,c.length ≤ 1000) ∧ N = Ls.length) := ⟨ha,hb,hp,hN⟩
 clear ha hb hp hN
 go_enter Tryz.func34,Tryz.ntmps34
 go_wp2
 go_loopw [5] (fun i wr => ∃ r : Nat,r ≤ N ∧ i = .int .i64 r ∧ ∃ n,wr = w.drewN n) (fun i _ => N - (intOf i).toNat)
 case atStart => exact ⟨0,by omega,rfl,0,rfl⟩
 case round =>
   obtain ⟨r,hr,rfl,n,rfl⟩ := hrel
   by_cases hlt : r < N
   · obtain ⟨g,so,sc,hao,hc,hs,_,_⟩ := HC.out.1.item (j := r) (by rw [← HC.out.2.2.2]; exact hlt)
     obtain ⟨g',so',sc',hbo,hc',hs',_,_⟩ := HC.out.2.1.item (j := r) (by rw [← HC.out.2.2.2]; exact hlt)
     have hpl : (Ls.getD r []).length ≤ 1000 := by
       rw [List.getD_eq_getElem?_getD,List.getElem?_eq_getElem (by rw [← HC.out.2.2.2]; exact hlt)]
       exact HC.out.2.2.1 _ (List.getElem_mem _)
     subst hao hbo
     obtain ⟨k,hk⟩ : ∃ k,k = (Ls.getD r []).length := ⟨_,rfl⟩
     rw [← hk] at hc hs hc' hs' hpl
     have HS : Hid (∀ k',Calls Tryz.prog 48 #[.slice so k sc, .slice so' k sc'] (w.drewN (n + k')) fun e w' => e = .returned (.bool true) ∧ ∃ m,w' = w.drewN (n + m)) := fun k' => by
       refine (same_any (w := w.drewN (n + k')) (cy_slI (cap := sc) hs (by omega)) (cy_slI (cap := sc') hs' (by omega))).mono ?_
       rintro e w' ⟨rfl,m,rfl⟩
       exact ⟨by rw [decide_eq_true rfl],k' + m,by rw [World.drewN_drewN,Nat.add_assoc]⟩
     have hib : (r : Int) < (N : Int) := by omega
     have hib0 : (0 : Int) ≤ (r : Int) := by omega
     clear hs hs' hk
     go_wp2
     go_big_quiet (first | (go_at_call 48; exact HS.out _))
     go_wp2
     go_roundw
     case rel => exact ⟨r + 1,by omega,by go_num,_,by first | rfl | rw [World.drewN_drewN]⟩
     case measure => simp [intOf]; omega
   · have hib : ¬ (r : Int) < (N : Int) := by omega
     go_wp2
     go_ret
     exact ⟨rfl,_,rfl⟩
set_option maxHeartbeats 2000000 in
theorem lists_cs {e : Int} {ba bb : Nat} {va vb : Value} {Ls : List (List Nat)} {w : World} (ha : CsT e Ls ba va w) (hb : CsT e Ls bb vb w) (hL : Ls.length ≤ 1000) (hp : ∀ c ∈ Ls, c.length ≤ 1000) :
   Calls Tryz.prog 9 #[va, .int .i64 e,vb, .int .i64 e] w fun r w' => r = .returned (.bool true) ∧ ∃ n,w' = w.drewN n := by
 by_cases h0 : e = 0
 · subst h0
   have HS : Hid (Calls Tryz.prog 34 #[va,vb] w fun e w' => e = .returned (.bool true) ∧ ∃ n,w' = w.drewN n) := sameAll_nls (ha.1 rfl) (hb.1 rfl) hL hp
   clear ha hb
   go_enter Tryz.func9,Tryz.ntmps9
   go_wp2_with fail
   refine HS.out.mono ?_
   rintro e w' ⟨rfl,n,rfl⟩
   go_wp2
   go_ret
   exact ⟨rfl,_,rfl⟩
 · rw [ha.2 h0,hb.2 h0]
   refine (lists_err2 e h0 none 0 (.slice none 0 0) w).mono ?_
   rintro r w' ⟨rfl,rfl⟩
   exact ⟨rfl,0,rfl⟩
theorem list_gn {e : Int} {N : Nat} {g : Nat → Int} {va vb : Value} {w : World} (hN : N ≤ 1000) (ha : GnT e N g va w) (hb : GnT e N g vb w) :
   Calls Tryz.prog 12 #[va, .int .i64 e,vb, .int .i64 e] w fun r w' => r = .returned (.bool true) ∧ ∃ n,w' = w.drewN n := by
 obtain ⟨ao,n,ca,rfl,h1,h2⟩ := ha
 obtain ⟨bo,n',cb,rfl,h1',h2'⟩ := hb
 by_cases h0 : e = 0
 · obtain ⟨rfl,hA⟩ := h1 h0
   obtain ⟨rfl,hB⟩ := h1' h0
   subst h0
   exact list_same (cy_slI hA.sl (by omega)) (cy_slI hB.sl (by omega))
 · have e1 := h2 h0
   subst e1
   refine (list_err2 e h0 ao ca (.slice bo n' cb) w).mono ?_
   rintro r w' ⟨rfl,rfl⟩
   exact ⟨rfl,0,rfl⟩
theorem num_bd {e k : Int} (hk : e ≠ 0 → k = 0) (w : World) : Calls Tryz.prog 15 #[.int .i64 k, .int .i64 e, .int .i64 k, .int .i64 e] w fun r w' => r = .returned (.bool true) ∧ w' = w := by
 by_cases h0 : e = 0
 · subst h0; exact num_same k w
 · rw [hk h0]; exact num_err e h0 0 w
theorem CsT.below {e : Int} {Ls : List (List Nat)} {base : Nat} {v : Value} {w w' : World} (h : CsT e Ls base v w) (hb : Below w.heap.size w w') : CsT e Ls base v w' := ⟨fun e => (h.1 e).below hb,h.2⟩
theorem GnT.below {e : Int} {N : Nat} {g : Nat → Int} {v : Value} {w w' : World} (h : GnT e N g v w) (hb : Below w.heap.size w w') : GnT e N g v w' := by
 obtain ⟨ao,n,ca,hv,h1,h2⟩ := h
 exact ⟨ao,n,ca,hv,fun e => ⟨(h1 e).1,(h1 e).2.below hb⟩,h2⟩
set_option maxHeartbeats 1000000 in
theorem cyclicSays_long (q n f m : Int) {zo go : Option Addr} {zm zc gm gc : Nat} {w : World} (hz : zm ≤ 17592186044416) (hg : gm ≤ 17592186044416) (h : 300 < zm + gm) :
   Calls Tryz.prog 3 #[.int .i64 q, .int .i64 n, .slice zo zm zc, .slice go gm gc, .int .i64 f, .int .i64 m] w fun x w' => x = .returned (.bool true) ∧ Below w.heap.size w w' := by
 obtain ⟨N,hN⟩ : ∃ N,N = zm + gm := ⟨_,rfl⟩
 have h1 : IntKind.i64.wrap ((zm : Int) + (gm : Int)) = (N : Int) := wrap_to (by omega) (by omega)
 have h3 : (300 : Int) < (N : Int) := by omega
 clear hN
 go_enter Tryz.func3,Tryz.ntmps3
 go_wp2
 go_ret
 exact ⟨rfl,Below.refl _ _⟩
set_option maxHeartbeats 16000000 in
set_option maxRecDepth 100000 in
theorem cyclicSays_go (q n f m : Int) {zo go : Option Addr} {zm zc gm gc : Nat} {w : World} (hlen : zm + gm ≤ 300) (h1 : CsB q n w) (h2 : GnB q n zo zm zc w) (h3 : BdB q n zo zm zc w)
   (h4 : CoB 16 17 #[.int .i64 q, .int .i64 n, .slice go gm gc] w) (h5 : CoB 18 19 #[.int .i64 q, .int .i64 n, .int .i64 f, .int .i64 m] w) (h6 : CoB 20 21 #[.int .i64 n] w) :
   Calls Tryz.prog 3 #[.int .i64 q, .int .i64 n, .slice zo zm zc, .slice go gm gc, .int .i64 f, .int .i64 m] w fun x w' => x = .returned (.bool true) ∧ Below w.heap.size w w' := by
 obtain ⟨e1,Ls,hLs,hLc,p1,r1⟩ := h1
 obtain ⟨e2,N2,g2,hN2,p2,r2⟩ := h2
 obtain ⟨e3,k3,hk3,p3,r3⟩ := h3
 obtain ⟨S4,q4,nn4,K4,u4,hn4,p4,r4⟩ := h4
 obtain ⟨S5,q5,nn5,K5,u5,hn5,p5,r5⟩ := h5
 obtain ⟨S6,q6,nn6,K6,u6,hn6,p6,r6⟩ := h6
 have HF : Hid (Ls.length ≤ 1000 ∧ (∀ c ∈ Ls,c.length ≤ 1000) ∧ N2 ≤ 1000 ∧ (e3 ≠ 0 → k3 = 0)) := ⟨hLs,hLc,hN2,hk3⟩
 have HU : Hid (UniF K4 ∧ nn4 ≤ 1000 ∧ UniF K5 ∧ nn5 ≤ 1000 ∧ UniF K6 ∧ nn6 ≤ 1000) := ⟨u4,hn4,u5,hn5,u6,hn6⟩
 have HP1 : Hid (∀ wx,Below w.heap.size w wx → Calls Tryz.prog 7 #[.int .i64 q, .int .i64 n] wx fun x w' => ∃ v,x = .returned (.tuple #[v, .int .i64 e1]) ∧ CsT e1 Ls w.heap.size v w' ∧ Below wx.heap.size wx w') := p1
 have HR1 : Hid (∀ wx,Below w.heap.size w wx → Calls Tryz.prog 8 #[.int .i64 q, .int .i64 n] wx fun x w' => ∃ v,x = .returned (.tuple #[v, .int .i64 e1]) ∧ CsT e1 Ls w.heap.size v w' ∧ Below wx.heap.size wx w') := r1
 have HP2 : Hid (∀ wx,Below w.heap.size w wx → Calls Tryz.prog 10 #[.int .i64 q, .int .i64 n, .slice zo zm zc] wx fun x w' => ∃ v,x = .returned (.tuple #[v, .int .i64 e2]) ∧ GnT e2 N2 g2 v w' ∧ Below wx.heap.size wx w') := p2
 have HR2 : Hid (∀ wx,Below w.heap.size w wx → Calls Tryz.prog 11 #[.int .i64 q, .int .i64 n, .slice zo zm zc] wx fun x w' => ∃ v,x = .returned (.tuple #[v, .int .i64 e2]) ∧ GnT e2 N2 g2 v w' ∧ Below wx.heap.size wx w') := r2
 have HP3 : Hid (∀ wx,Below w.heap.size w wx → Calls Tryz.prog 13 #[.int .i64 q, .int .i64 n, .slice zo zm zc] wx fun x w' => x = .returned (.tuple #[.int .i64 k3, .int .i64 e3]) ∧ Below wx.heap.size wx w') := p3
 have HR3 : Hid (∀ wx,Below w.heap.size w wx → Calls Tryz.prog 14 #[.int .i64 q, .int .i64 n, .slice zo zm zc] wx fun x w' => x = .returned (.tuple #[.int .i64 k3, .int .i64 e3]) ∧ Below wx.heap.size wx w') := r3
 have HP4 : Hid (∀ wx,Below w.heap.size w wx → Calls Tryz.prog 16 #[.int .i64 q, .int .i64 n, .slice go gm gc] wx fun x w' => ∃ qa na o k c,x = .returned (.tuple #[.agg #[.int .i64 qa, .int .i64 na, .slice o k c], .int .i64 S4]) ∧ ToldP S4 q4 nn4 K4 qa na o k c w' ∧ Below wx.heap.size wx w') := p4
 have HR4 : Hid (∀ wx,Below w.heap.size w wx → Calls Tryz.prog 17 #[.int .i64 q, .int .i64 n, .slice go gm gc] wx fun x w' => ∃ qa na o k c,x = .returned (.tuple #[.agg #[.int .i64 qa, .int .i64 na, .slice o k c], .int .i64 S4]) ∧ ToldR S4 q4 nn4 w.heap.size K4 qa na o k c w' ∧ Below wx.heap.size wx w') := r4
 have HP5 : Hid (∀ wx,Below w.heap.size w wx → Calls Tryz.prog 18 #[.int .i64 q, .int .i64 n, .int .i64 f, .int .i64 m] wx fun x w' => ∃ qa na o k c,x = .returned (.tuple #[.agg #[.int .i64 qa, .int .i64 na, .slice o k c], .int .i64 S5]) ∧ ToldP S5 q5 nn5 K5 qa na o k c w' ∧ Below wx.heap.size wx w') := p5
 have HR5 : Hid (∀ wx,Below w.heap.size w wx → Calls Tryz.prog 19 #[.int .i64 q, .int .i64 n, .int .i64 f, .int .i64 m] wx fun x w' => ∃ qa na o k c,x = .returned (.tuple #[.agg #[.int .i64 qa, .int .i64 na, .slice o k c], .int .i64 S5]) ∧ ToldR S5 q5 nn5 w.heap.size K5 qa na o k c w' ∧ Below wx.heap.size wx w') := r5
 have HP6 : Hid (∀ wx,Below w.heap.size w wx → Calls Tryz.prog 20 #[.int .i64 n] wx fun x w' => ∃ qa na o k c,x = .returned (.tuple #[.agg #[.int .i64 qa, .int .i64 na, .slice o k c], .int .i64 S6]) ∧ ToldP S6 q6 nn6 K6 qa na o k c w' ∧ Below wx.heap.size wx w') := p6
 have HR6 : Hid (∀ wx,Below w.heap.size w wx → Calls Tryz.prog 21 #[.int .i64 n] wx fun x w' => ∃ qa na o k c,x = .returned (.tuple #[.agg #[.int .i64 qa, .int .i64 na, .slice o k c], .int .i64 S6]) ∧ ToldR S6 q6 nn6 w.heap.size K6 qa na o k c w' ∧ Below wx.heap.size wx w') := r6
 obtain ⟨L,hL⟩ : ∃ L,L = zm + gm := ⟨_,rfl⟩
 have h1w : IntKind.i64.wrap ((zm : Int) + (gm : Int)) = (L : Int) := wrap_to (by omega) (by omega)
 have h1b : ¬ (300 : Int) < (L : Int) := by omega
 have h1c : ¬ (L : Int) > 300 := h1b
 clear hL hLs hLc hN2 hk3 p1 r1 p2 r2 p3 r3 u4 hn4 p4 r4 u5 hn5 p5 r5 u6 hn6 p6 r6 hlen
 go_enter Tryz.func3,Tryz.ntmps3
 go_wp2_with fail
 refine (HP1.out w (Below.refl _ _)).mono ?_
 rintro x w1 ⟨v1,rfl,hc1,hb1⟩
 have H1 : Hid (CsT e1 Ls w.heap.size v1 w1 ∧ Below w.heap.size w w1) := ⟨hc1,hb1⟩
 clear hc1 hb1
 go_wp2_with fail
 refine (HR1.out w1 H1.out.2).mono ?_
 rintro x w2 ⟨v2,rfl,hc2,hb2⟩
 have H2 : Hid (Below w.heap.size w w2) := bel_up' H1.out.2 hb2
 have HL1 : Hid (Calls Tryz.prog 9 #[v1, .int .i64 e1,v2, .int .i64 e1] w2 fun r w' => r = .returned (.bool true) ∧ ∃ n,w' = w2.drewN n) := lists_cs (H1.out.1.below hb2) hc2 HF.out.1 HF.out.2.1
 clear hc2 hb2 H1
 go_wp2_with fail
 refine HL1.out.mono ?_
 rintro x w3 ⟨rfl,d3,hw3⟩
 have H3 : Hid (Below w.heap.size w w3) := by rw [hw3]; exact below_drewN2 H2.out d3
 clear hw3 HL1 H2
 go_wp2_with fail
 refine (HP2.out w3 H3.out).mono ?_
 rintro x w4 ⟨v4,rfl,hc4,hb4⟩
 have H4 : Hid (GnT e2 N2 g2 v4 w4 ∧ Below w.heap.size w w4) := ⟨hc4,bel_up' H3.out hb4⟩
 clear hc4 hb4 H3
 go_wp2_with fail
 refine (HR2.out w4 H4.out.2).mono ?_
 rintro x w5 ⟨v5,rfl,hc5,hb5⟩
 have H5 : Hid (Below w.heap.size w w5) := bel_up' H4.out.2 hb5
 have HL2 : Hid (Calls Tryz.prog 12 #[v4, .int .i64 e2,v5, .int .i64 e2] w5 fun r w' => r = .returned (.bool true) ∧ ∃ n,w' = w5.drewN n) := list_gn HF.out.2.2.1 (H4.out.1.below hb5) hc5
 clear hc5 hb5 H4
 go_wp2_with fail
 refine HL2.out.mono ?_
 rintro x w6 ⟨rfl,d6,hw6⟩
 have H6 : Hid (Below w.heap.size w w6) := by rw [hw6]; exact below_drewN2 H5.out d6
 clear hw6 HL2 H5
 go_wp2_with fail
 refine (HP3.out w6 H6.out).mono ?_
 rintro x w7 ⟨rfl,hb7⟩
 have H7 : Hid (Below w.heap.size w w7) := bel_up' H6.out hb7
 clear hb7 H6
 go_wp2_with fail
 refine (HR3.out w7 H7.out).mono ?_
 rintro x w8 ⟨rfl,hb8⟩
 have H8 : Hid (Below w.heap.size w w8) := bel_up' H7.out hb8
 clear hb8 H7
 have HL3 : Hid (Calls Tryz.prog 15 #[.int .i64 k3, .int .i64 e3, .int .i64 k3, .int .i64 e3] w8 fun r w' => r = .returned (.bool true) ∧ w' = w8) := num_bd HF.out.2.2.2 w8
 go_wp2_with fail
 refine HL3.out.mono ?_
 rintro x w' ⟨rfl,hw⟩
 have hw := hw.symm
 subst hw
 clear HL3
 go_wp2_with fail
 refine (HP4.out w8 H8.out).mono ?_
 rintro x w9 ⟨qap4,nap4,op4,kp4,cp4,rfl,hTp4,hbp4⟩
 obtain ⟨w10,hw10⟩ : ∃ w10,w10 = w9.alloc (.cells #[.int .i64 qap4, .int .i64 nap4, .slice op4 kp4 cp4] 35) := ⟨_,rfl⟩
 obtain ⟨Bp4,hBp4⟩ : ∃ Bp4,Bp4 = w9.heap.size := ⟨_,rfl⟩
 have Gw10 : Hid (Below w.heap.size w w10 ∧ ToldP S4 q4 nn4 K4 qap4 nap4 op4 kp4 cp4 w10 ∧ CB Bp4 qap4 nap4 (.slice op4 kp4 cp4) w10 ∧ True) := by
   have hal : Below w9.heap.size w9 w10 := by rw [hw10]; exact (Below.refl _ _).alloc (Nat.le_refl _) _
   have hbb := bel_up' hbp4 hal
   exact ⟨bel_up' (H8.out) hbb,hTp4.below hal,by rw [hBp4,hw10]; exact CB.new _ _ _ _,trivial⟩
 clear hTp4 hbp4 H8
 go_upto_region 16 with fail
 rw [← hw10]
 try rw [← hBp4]
 clear hw10 hBp4
 go_wp2_with fail
 refine (HR4.out w10 Gw10.out.1).mono ?_
 rintro x w11 ⟨qar4,nar4,or4,kr4,cr4,rfl,hTr4,hbr4⟩
 obtain ⟨w12,hw12⟩ : ∃ w12,w12 = w11.alloc (.cells #[.int .i64 qar4, .int .i64 nar4, .slice or4 kr4 cr4] 35) := ⟨_,rfl⟩
 obtain ⟨Br4,hBr4⟩ : ∃ Br4,Br4 = w11.heap.size := ⟨_,rfl⟩
 have Gw12 : Hid (Below w.heap.size w w12 ∧ ToldP S4 q4 nn4 K4 qap4 nap4 op4 kp4 cp4 w12 ∧ CB Bp4 qap4 nap4 (.slice op4 kp4 cp4) w12 ∧ ToldR S4 q4 nn4 w.heap.size K4 qar4 nar4 or4 kr4 cr4 w12 ∧ CB Br4 qar4 nar4 (.slice or4 kr4 cr4) w12 ∧ True) := by
   have hal : Below w11.heap.size w11 w12 := by rw [hw12]; exact (Below.refl _ _).alloc (Nat.le_refl _) _
   have hbb := bel_up' hbr4 hal
   exact ⟨bel_up' (Gw10.out.1) hbb,(Gw10.out.2.1).below hbb,(Gw10.out.2.2.1).keep hbb,hTr4.below hal,by rw [hBr4,hw12]; exact CB.new _ _ _ _,trivial⟩
 clear hTr4 hbr4 Gw10
 go_upto_region 17 with fail
 rw [← hw12]
 try rw [← hBr4]
 clear hw12 hBr4
 go_wp2_with fail
 refine (HP5.out w12 Gw12.out.1).mono ?_
 rintro x w13 ⟨qap5,nap5,op5,kp5,cp5,rfl,hTp5,hbp5⟩
 obtain ⟨w14,hw14⟩ : ∃ w14,w14 = w13.alloc (.cells #[.int .i64 qap5, .int .i64 nap5, .slice op5 kp5 cp5] 35) := ⟨_,rfl⟩
 obtain ⟨Bp5,hBp5⟩ : ∃ Bp5,Bp5 = w13.heap.size := ⟨_,rfl⟩
 have Gw14 : Hid (Below w.heap.size w w14 ∧ ToldP S4 q4 nn4 K4 qap4 nap4 op4 kp4 cp4 w14 ∧ CB Bp4 qap4 nap4 (.slice op4 kp4 cp4) w14 ∧ ToldR S4 q4 nn4 w.heap.size K4 qar4 nar4 or4 kr4 cr4 w14 ∧ CB Br4 qar4 nar4 (.slice or4 kr4 cr4) w14 ∧ ToldP S5 q5 nn5 K5 qap5 nap5 op5 kp5 cp5 w14 ∧ CB Bp5 qap5 nap5 (.slice op5 kp5 cp5) w14 ∧ True) := by
   have hal : Below w13.heap.size w13 w14 := by rw [hw14]; exact (Below.refl _ _).alloc (Nat.le_refl _) _
   have hbb := bel_up' hbp5 hal
   exact ⟨bel_up' (Gw12.out.1) hbb,(Gw12.out.2.1).below hbb,(Gw12.out.2.2.1).keep hbb,(Gw12.out.2.2.2.1).below hbb,(Gw12.out.2.2.2.2.1).keep hbb,hTp5.below hal,by rw [hBp5,hw14]; exact CB.new _ _ _ _,trivial⟩
 clear hTp5 hbp5 Gw12
 go_upto_region 18 with fail
 rw [← hw14]
 try rw [← hBp5]
 clear hw14 hBp5
 go_wp2_with fail
 refine (HR5.out w14 Gw14.out.1).mono ?_
 rintro x w15 ⟨qar5,nar5,or5,kr5,cr5,rfl,hTr5,hbr5⟩
 obtain ⟨w16,hw16⟩ : ∃ w16,w16 = w15.alloc (.cells #[.int .i64 qar5, .int .i64 nar5, .slice or5 kr5 cr5] 35) := ⟨_,rfl⟩
 obtain ⟨Br5,hBr5⟩ : ∃ Br5,Br5 = w15.heap.size := ⟨_,rfl⟩
 have Gw16 : Hid (Below w.heap.size w w16 ∧ ToldP S4 q4 nn4 K4 qap4 nap4 op4 kp4 cp4 w16 ∧ CB Bp4 qap4 nap4 (.slice op4 kp4 cp4) w16 ∧ ToldR S4 q4 nn4 w.heap.size K4 qar4 nar4 or4 kr4 cr4 w16 ∧ CB Br4 qar4 nar4 (.slice or4 kr4 cr4) w16 ∧ ToldP S5 q5 nn5 K5 qap5 nap5 op5 kp5 cp5 w16 ∧ CB Bp5 qap5 nap5 (.slice op5 kp5 cp5) w16 ∧ ToldR S5 q5 nn5 w.heap.size K5 qar5 nar5 or5 kr5 cr5 w16 ∧ CB Br5 qar5 nar5 (.slice or5 kr5 cr5) w16 ∧ True) := by
   have hal : Below w15.heap.size w15 w16 := by rw [hw16]; exact (Below.refl _ _).alloc (Nat.le_refl _) _
   have hbb := bel_up' hbr5 hal
   exact ⟨bel_up' (Gw14.out.1) hbb,(Gw14.out.2.1).below hbb,(Gw14.out.2.2.1).keep hbb,(Gw14.out.2.2.2.1).below hbb,(Gw14.out.2.2.2.2.1).keep hbb,(Gw14.out.2.2.2.2.2.1).below hbb,(Gw14.out.2.2.2.2.2.2.1).keep hbb,hTr5.below hal,by rw [hBr5,hw16]; exact CB.new _ _ _ _,trivial⟩
 clear hTr5 hbr5 Gw14
 go_upto_region 19 with fail
 rw [← hw16]
 try rw [← hBr5]
 clear hw16 hBr5
 go_wp2_with fail
 refine (HP6.out w16 Gw16.out.1).mono ?_
 rintro x w17 ⟨qap6,nap6,op6,kp6,cp6,rfl,hTp6,hbp6⟩
 obtain ⟨w18,hw18⟩ : ∃ w18,w18 = w17.alloc (.cells #[.int .i64 qap6, .int .i64 nap6, .slice op6 kp6 cp6] 35) := ⟨_,rfl⟩
 obtain ⟨Bp6,hBp6⟩ : ∃ Bp6,Bp6 = w17.heap.size := ⟨_,rfl⟩
 have Gw18 : Hid (Below w.heap.size w w18 ∧ ToldP S4 q4 nn4 K4 qap4 nap4 op4 kp4 cp4 w18 ∧ CB Bp4 qap4 nap4 (.slice op4 kp4 cp4) w18 ∧ ToldR S4 q4 nn4 w.heap.size K4 qar4 nar4 or4 kr4 cr4 w18 ∧ CB Br4 qar4 nar4 (.slice or4 kr4 cr4) w18 ∧ ToldP S5 q5 nn5 K5 qap5 nap5 op5 kp5 cp5 w18 ∧ CB Bp5 qap5 nap5 (.slice op5 kp5 cp5) w18 ∧ ToldR S5 q5 nn5 w.heap.size K5 qar5 nar5 or5 kr5 cr5 w18 ∧ CB Br5 qar5 nar5 (.slice or5 kr5 cr5) w18 ∧ ToldP S6 q6 nn6 K6 qap6 nap6 op6 kp6 cp6 w18 ∧ CB Bp6 qap6 nap6 (.slice op6 kp6 cp6) w18 ∧ True) := by
   have hal : Below w17.heap.size w17 w18 := by rw [hw18]; exact (Below.refl _ _).alloc (Nat.le_refl _) _
   have hbb := bel_up' hbp6 hal
   exact ⟨bel_up' (Gw16.out.1) hbb,(Gw16.out.2.1).below hbb,(Gw16.out.2.2.1).keep hbb,(Gw16.out.2.2.2.1).below hbb,(Gw16.out.2.2.2.2.1).keep hbb,(Gw16.out.2.2.2.2.2.1).below hbb,(Gw16.out.2.2.2.2.2.2.1).keep hbb,(Gw16.out.2.2.2.2.2.2.2.1).below hbb,(Gw16.out.2.2.2.2.2.2.2.2.1).keep hbb,hTp6.below hal,by rw [hBp6,hw18]; exact CB.new _ _ _ _,trivial⟩
 clear hTp6 hbp6 Gw16
 go_upto_region 20 with fail
 rw [← hw18]
 try rw [← hBp6]
 clear hw18 hBp6
 go_wp2_with fail
 refine (HR6.out w18 Gw18.out.1).mono ?_
 rintro x w19 ⟨qar6,nar6,or6,kr6,cr6,rfl,hTr6,hbr6⟩
 obtain ⟨w20,hw20⟩ : ∃ w20,w20 = w19.alloc (.cells #[.int .i64 qar6, .int .i64 nar6, .slice or6 kr6 cr6] 35) := ⟨_,rfl⟩
 obtain ⟨Br6,hBr6⟩ : ∃ Br6,Br6 = w19.heap.size := ⟨_,rfl⟩
 have Gw20 : Hid (Below w.heap.size w w20 ∧ ToldP S4 q4 nn4 K4 qap4 nap4 op4 kp4 cp4 w20 ∧ CB Bp4 qap4 nap4 (.slice op4 kp4 cp4) w20 ∧ ToldR S4 q4 nn4 w.heap.size K4 qar4 nar4 or4 kr4 cr4 w20 ∧ CB Br4 qar4 nar4 (.slice or4 kr4 cr4) w20 ∧ ToldP S5 q5 nn5 K5 qap5 nap5 op5 kp5 cp5 w20 ∧ CB Bp5 qap5 nap5 (.slice op5 kp5 cp5) w20 ∧ ToldR S5 q5 nn5 w.heap.size K5 qar5 nar5 or5 kr5 cr5 w20 ∧ CB Br5 qar5 nar5 (.slice or5 kr5 cr5) w20 ∧ ToldP S6 q6 nn6 K6 qap6 nap6 op6 kp6 cp6 w20 ∧ CB Bp6 qap6 nap6 (.slice op6 kp6 cp6) w20 ∧ ToldR S6 q6 nn6 w.heap.size K6 qar6 nar6 or6 kr6 cr6 w20 ∧ CB Br6 qar6 nar6 (.slice or6 kr6 cr6) w20 ∧ True) := by
   have hal : Below w19.heap.size w19 w20 := by rw [hw20]; exact (Below.refl _ _).alloc (Nat.le_refl _) _
   have hbb := bel_up' hbr6 hal
   exact ⟨bel_up' (Gw18.out.1) hbb,(Gw18.out.2.1).below hbb,(Gw18.out.2.2.1).keep hbb,(Gw18.out.2.2.2.1).below hbb,(Gw18.out.2.2.2.2.1).keep hbb,(Gw18.out.2.2.2.2.2.1).below hbb,(Gw18.out.2.2.2.2.2.2.1).keep hbb,(Gw18.out.2.2.2.2.2.2.2.1).below hbb,(Gw18.out.2.2.2.2.2.2.2.2.1).keep hbb,(Gw18.out.2.2.2.2.2.2.2.2.2.1).below hbb,(Gw18.out.2.2.2.2.2.2.2.2.2.2.1).keep hbb,hTr6.below hal,by rw [hBr6,hw20]; exact CB.new _ _ _ _,trivial⟩
 clear hTr6 hbr6 Gw18
 go_upto_region 21 with fail
 rw [← hw20]
 try rw [← hBr6]
 clear hw20 hBr6
 have HS4 : Hid (∀ wx,Below w20.heap.size w20 wx → Calls Tryz.prog 22 #[.agg #[.int .i64 qap4, .int .i64 nap4, .slice op4 kp4 cp4], .int .i64 S4, .agg #[.int .i64 qar4, .int .i64 nar4, .slice or4 kr4 cr4], .int .i64 S4] wx fun e w' => e = .returned (.bool true) ∧ Below wx.heap.size wx w') := fun wx hx => lsame_told HU.out.1 HU.out.2.1 (Gw20.out.2.1.below hx) (Gw20.out.2.2.2.1.below hx)
 have HS5 : Hid (∀ wx,Below w20.heap.size w20 wx → Calls Tryz.prog 22 #[.agg #[.int .i64 qap5, .int .i64 nap5, .slice op5 kp5 cp5], .int .i64 S5, .agg #[.int .i64 qar5, .int .i64 nar5, .slice or5 kr5 cr5], .int .i64 S5] wx fun e w' => e = .returned (.bool true) ∧ Below wx.heap.size wx w') := fun wx hx => lsame_told HU.out.2.2.1 HU.out.2.2.2.1 (Gw20.out.2.2.2.2.2.1.below hx) (Gw20.out.2.2.2.2.2.2.2.1.below hx)
 have HS6 : Hid (∀ wx,Below w20.heap.size w20 wx → Calls Tryz.prog 22 #[.agg #[.int .i64 qap6, .int .i64 nap6, .slice op6 kp6 cp6], .int .i64 S6, .agg #[.int .i64 qar6, .int .i64 nar6, .slice or6 kr6 cr6], .int .i64 S6] wx fun e w' => e = .returned (.bool true) ∧ Below wx.heap.size wx w') := fun wx hx => lsame_told HU.out.2.2.2.2.1 HU.out.2.2.2.2.2 (Gw20.out.2.2.2.2.2.2.2.2.2.1.below hx) (Gw20.out.2.2.2.2.2.2.2.2.2.2.2.1.below hx)
 obtain ⟨a00,a01,a02⟩ := Gw20.out.2.2.1.keep (Below.refl _ _)
 obtain ⟨b00,b01,b02⟩ := Gw20.out.2.2.2.2.1.keep (Below.refl _ _)
 go_wp2_with fail
 refine (HS4.out w20 (Below.refl _ _)).mono ?_
 rintro x ws1 ⟨rfl,hbs⟩
 have Hs1 : Hid (Below w20.heap.size w20 ws1) := bel_up' (Below.refl _ _) hbs
 clear hbs a00 a01 a02 b00 b01 b02
 obtain ⟨a10,a11,a12⟩ := Gw20.out.2.2.2.2.2.2.1.keep Hs1.out
 obtain ⟨b10,b11,b12⟩ := Gw20.out.2.2.2.2.2.2.2.2.1.keep Hs1.out
 go_wp2_with fail
 refine (HS5.out ws1 Hs1.out).mono ?_
 rintro x ws2 ⟨rfl,hbs⟩
 have Hs2 : Hid (Below w20.heap.size w20 ws2) := bel_up' Hs1.out hbs
 clear hbs a10 a11 a12 b10 b11 b12
 obtain ⟨a20,a21,a22⟩ := Gw20.out.2.2.2.2.2.2.2.2.2.2.1.keep Hs2.out
 obtain ⟨b20,b21,b22⟩ := Gw20.out.2.2.2.2.2.2.2.2.2.2.2.2.1.keep Hs2.out
 go_wp2_with fail
 refine (HS6.out ws2 Hs2.out).mono ?_
 rintro x ws3 ⟨rfl,hbs⟩
 have Hs3 : Hid (Below w20.heap.size w20 ws3) := bel_up' Hs2.out hbs
 clear hbs a20 a21 a22 b20 b21 b22
 go_wp2
 go_ret
 exact ⟨rfl,bel_up' (Gw20.out.1) Hs3.out⟩
theorem cyclicSays_walk (q n f m : Int) {zo go : Option Addr} {zm zc gm gc : Nat} {z g : Nat → Int} {w : World} (hz : ArgL zo zm zc z w) (hg : ArgL go gm gc g w) (hzm : zm ≤ 17592186044416) (hgm : gm ≤ 17592186044416) :
   Calls Tryz.prog 3 #[.int .i64 q, .int .i64 n, .slice zo zm zc, .slice go gm gc, .int .i64 f, .int .i64 m] w fun x w' => x = .returned (.bool true) ∧ Below w.heap.size w w' := by
 by_cases h : 300 < zm + gm
 · exact cyclicSays_long q n f m hzm hgm h
 · exact cyclicSays_go q n f m (by omega) (cos_both q n w) (gen_both q n (hz.arg (by omega))) (bnd_both q n (hz.arg (by omega))) (of_both q n (hg.arg (by omega))) (bch_both q n f m w) (sq_both n w)
end Go.Proofs.YtppggchhkckobaaGreat
