/- Texts of ours, one behind the other: KD5 KD6 KD7 KD8 KD9 S29 KD10 KD11 KD13 KD17. -/
import Derived.Test.YtedifobeggabnaaGreatCbKD2
import Derived.Test.YtedifobeggabnaaGreatCbS20
import Derived.Test.YtedifobeggabnaaGreatCbN1
import Derived.Test.YtedifobeggabnaaGreatCbZ1
import Derived.Test.YtedifobeggabnaaGreatCbL10
import Derived.Deep.OwnRows
namespace Go.Proofs.YtedifobeggabnaaGreat
open Go.RowKit Go.Sort
def slen:Value→Nat
 | .slice _ n _=>n
 | _=>0
theorem dgn_nil:∀n,dgn pnil n=0
 | 0=>rfl
 |n+1=>by
  show(if pnil n=0 then dgn pnil n else n+1)=0
  rw[if_pos (show pnil n=0 from rfl),dgn_nil n]
set_option maxHeartbeats 8000000 in
set_option maxRecDepth 100000 in
theorem byDivisors_any {F T:Nat}{D:FD}(hD:D∈fieldsL){g:Nat→Value}{w:World}(hat:FAt F T D g w){xo yo:Option Addr}{n k xc yc:Nat}{xs y:Nat→Nat}(hX:Arg xo n xc (fun j=>((xs j:Nat):Int)) w)(hY:Arg yo n yc (fun j=>((y j:Nat):Int)) w)(hn:n≤64)(hk1:1≤k)(hk:k≤n)(hx:∀i, i<n→xs i<D.q)(hne:∀i j, i<n→j<n→i≠j→xs i≠xs j)(hy:∀i, i<n→y i<D.q) :
  Calls Tryz.prog 88 #[.agg #[.pointer (some ⟨F,0,none⟩),.int .i64 (k:Nat),.slice xo n xc,.slice yo n yc]] w (FindP D n k xs y w):=by
 obtain⟨w0,hw0⟩:∃w0,w0=w.alloc (.cells #[.pointer (some ⟨F,0,none⟩),.int .i64 (k:Nat),.slice xo n xc,.slice yo n yc] 151):=⟨_,rfl⟩
 have hb0:Below w.heap.size w w0:=by rw[hw0];exact(Below.refl _ _).alloc (Nat.le_refl _) _
 have hs0:w0.heap.size=w.heap.size+1:=by rw[hw0];simp
 have r0:RowF w.heap.size 4 151 (hbx' #[.pointer (some ⟨F,0,none⟩),.int .i64 (k:Nat),.slice xo n xc,.slice yo n yc]) w0:=by rw[hw0];exact rowF_new _ _ _ _ rfl
 have HBx:Hid (∀wx,Below w0.heap.size w0 wx→wx.cell? ⟨w.heap.size,0,none⟩=some (.pointer (some ⟨F,0,none⟩))∧wx.cell? ⟨w.heap.size,1,none⟩=some (.int .i64 (k:Nat))∧wx.cell? ⟨w.heap.size,2,none⟩=some (.slice xo n xc)∧wx.cell? ⟨w.heap.size,3,none⟩=some (.slice yo n yc)):=fun wx hb=>by
  have h:=r0.below hb (by omega)
  exact⟨h.cell 0 (by omega),h.cell 1 (by omega),h.cell 2 (by omega),h.cell 3 (by omega)⟩
 have HF:Hid (D∈fieldsL∧FAt F T D g w0∧Arg xo n xc (fun j=>((xs j:Nat):Int)) w0∧Arg yo n yc (fun j=>((y j:Nat):Int)) w0∧Below w.heap.size w w0):=⟨hD,hat.below hb0 hat.ltF hat.ltT,hX.below hb0,hY.below hb0,hb0⟩
 have HX:Hid ((∀i,i<n→xs i<D.q)∧(∀i j,i<n→j<n→i≠j→xs i≠xs j)∧∀i,i<n→y i<D.q):=⟨hx,hne,hy⟩
 have HFt:Hid (∀wx,Below w0.heap.size w0 wx→FAt F T D g wx):=fun wx hb=>HF.out.2.1.below hb HF.out.2.1.ltF HF.out.2.1.ltT
 clear hD hat hX hY hb0 r0 hx hne hy
 obtain⟨b0,b1,b2,b3⟩:=HBx.out w0 (Below.refl _ _)
 go_enter Tryz.func88,Tryz.ntmps88
 go_wp2_with fail
 rw[←hw0]
 refine(size_any (HFt.out w0 (Below.refl _ _))).mono ?_
 rintro e w' ⟨rfl,hw⟩
 have hw:=hw.symm
 subst hw
 clear hw0
 have hl0:w.heap.size<w0.heap.size:=by omega
 go_wp2_with fail
 refine(noughtAt_any HF.out.1 (HFt.out w0 (Below.refl _ _)) HF.out.2.2.1.sl HF.out.2.2.1.lt HX.out.1 hn).mono ?_
 rintro e w1 ⟨ao,ca,rfl,hA1,hb1⟩
 have H1:Hid (Below w0.heap.size w0 w1∧Arg ao (n+1) ca (fun j=>((nal D xs n j:Nat):Int)) w1):=⟨hb1,hA1⟩
 obtain⟨b0,b1,b2,b3⟩:=HBx.out w1 hb1
 clear hA1 hb1
 go_wp2_with fail
 have HTh:Hid (Calls Tryz.prog 107 #[.int .i64 D.q,.slice xo n xc,.slice yo n yc] w1 fun e w'=>Below w1.heap.size w1 w'∧∃v lo co,e = .returned (.tuple #[v,.int .i64 0])∧OwnP w1.heap.size v lo co w'∧lo≤n∧El D co∧Trd lo co∧∀j,j<n→D.vl co (xs j)=y j):=by
  have F':=fld HF.out.1
  have hcx:D.chk n (fun j=>((xs j:Nat):Int))=0:=by
   unfold FD.chk
   rw[if_neg (by omega),if_pos (allHas_iff.2 (fun j hj=>has_of_lt (HX.out.1 j hj)))]
  have hcy:D.chk n (fun j=>((y j:Nat):Int))=0:=by
   unfold FD.chk
   rw[if_neg (by omega),if_pos (allHas_iff.2 (fun j hj=>has_of_lt (HX.out.2.2 j hj)))]
  have hck:D.chk2 n (fun j=>((xs j:Nat):Int)) n (fun j=>((y j:Nat):Int))=0:=by
   unfold FD.chk2
   rw[if_pos hcx];exact hcy
  have zx:∀j,j<n→zc n (fun j=>((xs j:Nat):Int)) j=xs j:=fun j hj=>by unfold zc;rw[if_pos hj];exact Int.toNat_natCast _
  have zy:∀j,j<n→zc n (fun j=>((y j:Nat):Int)) j=y j:=fun j hj=>by unfold zc;rw[if_pos hj];exact Int.toNat_natCast _
  refine(through_all HF.out.1 (HF.out.2.2.1.below H1.out.1) (HF.out.2.2.2.1.below H1.out.1)).mono ?_
  rintro e w' ⟨hb',⟨_,_,_,v,lo,co,h1,h2,h3,h4,h5,h6⟩|⟨_,_,hbad,_⟩|⟨_,hbad,_⟩|⟨hbad,_⟩⟩
  ·exact⟨hb',v,lo,co,h1,h2,h3,h4,h5,fun j hj=>by have:=h6 j hj;rw[zx j hj,zy j hj]at this;exact this⟩
  ·obtain⟨i,j,hij,hj,e⟩:=hbad
   rw[zx i (by omega),zx j hj]at e
   exact absurd e (HX.out.2.1 i j (by omega) hj (by omega))
  ·exact absurd rfl hbad
  ·exact absurd hck hbad
 refine HTh.out.mono ?_
 rintro e w2 ⟨hb2,v2,lo,co,rfl,ho2,hlo,hco1,hco2,hco3⟩
 obtain⟨bo,cb,rfl,hA2⟩:=ho2.arg (by omega)
 obtain⟨w3,hw3⟩:∃w3,w3=w2.alloc (.cells #[.int .i64 1] 3):=⟨_,rfl⟩
 have H3:Hid (DvI D n k xs y w (.slice ao (n+1:Nat) ca) (.slice bo lo cb) (.slice none 0 0) (.slice (some ⟨w2.heap.size,0,none⟩) 1 1) w3∧Below w0.heap.size w0 w3):=by
  have F':=fld HF.out.1
  have hb3:Below w2.heap.size w2 w3:=by rw[hw3];exact(Below.refl _ _).alloc (Nat.le_refl _) _
  have hb23:=bel_up' hb2 hb3
  obtain⟨n1,n2,n3,n4⟩:=nal_ok F' HX.out.1 n (Nat.le_refl _)
  refine⟨⟨ao,bo,none,some ⟨w2.heap.size,0,none⟩,ca,cb,0,1,n+1,lo,0,1,nal D xs n,co,pnil,pone,rfl,rfl,rfl,rfl,by omega,by omega,by omega,⟨H1.out.2.below hb23,hA2.below hb3,arg_nil _ _,?_⟩,⟨n1,hco1,el_nil F',el_one F',⟨n2,fun _=>by rw[Nat.add_sub_cancel,n3];omega⟩,hco2,fun _ _=>rfl,⟨fun j hj=>if_neg (by omega),fun _=>by show pone 0≠0;unfold pone;simp⟩,by omega,by omega,by omega,fun i hi N hN M hM=>?_,fun i hi N hN M hM=>?_⟩,?_⟩,bel_up' H1.out.1 hb23⟩
  ·rw[hw3]
   refine⟨fun j hj=>⟨w2.heap.size,0,rfl,?_⟩,fun x hx=>by cases hx;simp,by omega,fun e=>(by cases e),by omega,by omega⟩
   have:j=0:=by omega
   subst this
   exact two_cell w2 _
  ·rw[ev_from F' (xs i) n2 hN,n4 i hi,ev_nil F',mul0 F']
  ·have e1:D.ev co (xs i) N=y i:=by
    rw[ev_from F' (xs i) hco2.1 hN, ←ev_from F' (xs i) hco2.1 (show lo≤1000 by omega)];exact hco3 i hi
   have e2:D.ev pone (xs i) M=1:=by
    rw[ev_from F' (xs i) (show Bd 1 pone from fun j hj=>if_neg (by omega)) hM]
    show D.ad 0 (D.mul 1 1)=1
    rw[mul1 F' (one_lt' F'),zero_ad F' (one_lt' F')]
   rw[e1,e2,mul1 F' (HX.out.2.2 i hi)]
  ·exact bel_up' HF.out.2.2.2.2 (bel_up' H1.out.1 hb23)
 obtain⟨b0,b1,b2,b3⟩:=HBx.out w3 H3.out.2
 have hl3:w.heap.size<w3.heap.size:=by have:=H3.out.2.size;omega
 clear ho2 hA2 hb2 hco1 hco2 hco3 H1
 go_wp2
 rw[←hw3]
 clear hw3
 go_loopw [5,6,8,9] (fun va vb vs vt wr=>DvI D n k xs y w va vb vs vt wr∧Hid (Below w0.heap.size w0 wr)) (fun _ vb _ _ _=>slen vb)
 case atStart=>exact⟨H3.out.1,H3.out.2⟩
 case round=>
  obtain⟨⟨ao,bo,so,tt,ca,cb,cs,ct',lA,lB,lS,lT,A,B,S,T',rfl,rfl,rfl,rfl,hlA,hlT,hA2,HA,HE⟩,HW⟩:=hrel
  rename World=>wr
  clear H3 b0 b1 b2 b3
  obtain⟨b0,b1,b2,b3⟩:=HBx.out wr HW.out
  have hlB:lB<lA:=HE.out.1.lt
  have hlr:w.heap.size<wr.heap.size:=by have:=HW.out.size;omega
  by_cases hc:n+k+2≤2*lB
  ·have hcb:(n:Int)+(k:Int)≤2*((lB:Int)-1):=by omega
   have hcc:2*((lB:Int)-1) ≥ (n:Int)+(k:Int):=hcb
   have E:=HE.out.1
   obtain⟨q1,q2,q3,q4,q5,q6,q7⟩:=quo_len HF.out.1 E.eA E.eB E.tA E.tB (by omega) (by omega)
   obtain⟨Q,hQ⟩:∃Q,Q=D.quo A lA B lB:=⟨_,rfl⟩
   obtain⟨C,hC⟩:∃C,C=D.rst A lA B lB:=⟨_,rfl⟩
   obtain⟨lQ,hlQ⟩:∃lQ,lQ=lA-lB+1:=⟨_,rfl⟩
   obtain⟨lC,hlC⟩:∃lC,lC=dgn C lA:=⟨_,rfl⟩
   have HDv:Hid (Calls Tryz.prog 108 #[.int .i64 D.q,.slice ao lA ca,.slice bo lB cb] wr fun e w'=>Below wr.heap.size wr w'∧∃qo qc ro rc,e = .returned (.tuple #[.slice qo lQ qc,.slice ro lC rc,.int .i64 0])∧Arg qo lQ qc (fun j=>((Q j:Nat):Int)) w'∧Arg ro lC rc (fun j=>((C j:Nat):Int)) w'):=by
    have zA:zc lA (fun j=>((A j:Nat):Int))=A:=zc_nat E.tA.1
    have zB:zc lB (fun j=>((B j:Nat):Int))=B:=zc_nat E.tB.1
    have hck:D.chk2 lA (fun j=>((A j:Nat):Int)) lB (fun j=>((B j:Nat):Int))=0:=by
     unfold FD.chk2
     rw[if_pos (chk_nat E.eA (by omega))]
     exact chk_nat E.eB (by omega)
    have h:=pdiv_any HF.out.1 HA.out.1 HA.out.2.1
    rw[zA,zB]at h
    refine h.mono ?_
    rintro e w' ⟨hb',⟨_,_,v,u,rfl,h2,h3⟩|⟨_,hbad,_⟩|⟨hbad,_⟩⟩
    ·rw[q7, ←hlQ, ←hQ]at h2
     rw[←hC, ←hlC]at h3
     obtain⟨qo,qc,rfl,hAq⟩:=h2.arg (by omega)
     obtain⟨ro,rc,rfl,hAr⟩:=h3.arg (by have:=dgn_le C lA;omega)
     exact⟨hb',qo,qc,ro,rc,rfl,hAq,hAr⟩
    ·exact absurd hbad (by rw[dgn_self E.tB.2];omega)
    ·exact absurd hck hbad
   rw[←hQ]at q1 q2 q6
   rw[←hC, ←hlC]at q4 q5
   rw[←hC]at q3 q6
   rw[←hlQ]at q2 q6
   have HS:Hid (Euc D n xs y B C T' (psub D S (pmul D lQ Q T')) lB lC lT (lQ+lT-1)∧El D Q∧Trd lQ Q∧lQ+lB=lA+1):=⟨E.step (fld HF.out.1) q2 q3 q4 q5 q6 (by omega),q1,q2,by omega⟩
   have hlQb:lQ≤65:=by omega
   have hlCB:lC<lB:=q5
   have hsum:lT+lA=n+2:=E.sum
   clear q1 q2 q3 q4 q5 q6 q7 hQ hC hlC E hlQ
   go_wp2_with fail
   refine HDv.out.mono ?_
   rintro e w4 ⟨hb4,qo,qc,ro,rc,rfl,hAq,hAr⟩
   have H4:Hid (Below wr.heap.size wr w4∧Arg qo lQ qc (fun j=>((Q j:Nat):Int)) w4∧Arg ro lC rc (fun j=>((C j:Nat):Int)) w4):=⟨hb4,hAq,hAr⟩
   clear hb4 hAq hAr
   obtain⟨lP,hlP⟩:∃lP,lP=lQ+lT-1:=⟨_,rfl⟩
   have hlP2:lP≤65:=by have:=HS.out.2.2.2;omega
   have HlP:Hid (lP=lQ+lT-1):=hlP
   clear hlP hsum
   have HMl:Hid (Calls Tryz.prog 109 #[.int .i64 D.q,.slice qo lQ qc,.slice tt lT ct'] w4 fun e w'=>Below w4.heap.size w4 w'∧∃po pc,e = .returned (.tuple #[.slice po lP pc,.int .i64 0])∧Arg po lP pc (fun j=>((pmul D lQ Q T' j:Nat):Int)) w'):=by
    have F':=fld HF.out.1
    have E:=HE.out.1
    have zQ:zc lQ (fun j=>((Q j:Nat):Int))=Q:=zc_nat HS.out.2.2.1.1
    have zT:zc lT (fun j=>((T' j:Nat):Int))=T':=zc_nat E.tT.1
    have hck:D.chk2 lQ (fun j=>((Q j:Nat):Int)) lT (fun j=>((T' j:Nat):Int))=0:=by
     unfold FD.chk2
     rw[if_pos (chk_nat HS.out.2.1 (by omega))]
     exact chk_nat E.eT (by omega)
    have d1:dgn Q lQ=lQ:=dgn_self HS.out.2.2.1.2
    have d2:dgn T' lT=lT:=dgn_self E.tT.2
    have hbP:Bd lP (pmul D lQ Q T'):=by rw[HlP.out];exact pmul_bd F' E.tT.1 lQ
    have htop:pmul D lQ Q T' (lP-1)≠0:=by
     obtain⟨q1,hq1⟩:∃q1,lQ=q1+1:=⟨lQ-1,by have:=HS.out.2.2.2;omega⟩
     have hls:=E.ls
     obtain⟨t1,ht1⟩:∃t1,lT=t1+1:=⟨lT-1,by omega⟩
     have e:=pmul_top F' (a:=Q) (n:=q1) (b:=T') (m:=t1) (by rw[←ht1];exact E.tT.1)
     rw[HlP.out,hq1,ht1,show q1+1+(t1+1)-1-1=q1+t1 by omega,e]
     intro hz
     have hQ1:Q q1≠0:=by have:=HS.out.2.2.1.2 (by omega);rwa [hq1,Nat.add_sub_cancel]at this
     have hT2:T' t1≠0:=by have:=E.tT.2 (by omega);rwa [ht1,Nat.add_sub_cancel]at this
     exact hT2 (mul_cancel F' hQ1 (E.eT _) (zero_lt' F') (by rw[hz,mul0 F']))
    have h:=pmul_any HF.out.1 H4.out.2.1 (HA.out.2.2.2.below H4.out.1)
    rw[zQ,zT,d1,d2]at h
    refine h.mono ?_
    rintro e w' ⟨hb',⟨_,_,v,rfl,h2⟩|⟨_,hbad,_⟩|⟨hbad,_⟩⟩
    ·rw[dgn_is (hbP.mono (show lP≤lQ+lT by have:=HlP.out;omega)) hbP (fun _=>htop)]at h2
     obtain⟨po,pc,rfl,hAp⟩:=h2.arg (by omega)
     exact⟨hb',po,pc,rfl,hAp⟩
    ·have:=HlP.out;omega
    ·exact absurd hck hbad
   go_wp2_with fail
   refine HMl.out.mono ?_
   rintro e w5 ⟨hb5,po,pc,rfl,hAp⟩
   have H5:Hid (Below wr.heap.size wr w5∧Arg po lP pc (fun j=>((pmul D lQ Q T' j:Nat):Int)) w5∧Arg ro lC rc (fun j=>((C j:Nat):Int)) w5):=⟨bel_up' H4.out.1 hb5,hAp,H4.out.2.2.below hb5⟩
   clear hb5 hAp b0 b1 b2 b3
   obtain⟨b0,b1,b2,b3⟩:=HBx.out w5 (bel_up' HW.out H5.out.1)
   have hl5:w.heap.size<w5.heap.size:=by have:=H5.out.1.size;omega
   have hmax:max lS lP=lP:=by have:=HE.out.1.ls;have:=HlP.out;have:=HS.out.2.2.2;omega
   have HMx:Hid (max lS lP=lP):=hmax
   clear hmax
   have HLs:Hid (Calls Tryz.prog 110 #[.pointer (some ⟨F,0,none⟩),.slice so lS cs,.int .i64 1,.slice po lP pc] w5 fun e w'=>e = .returned (.slice (some ⟨w5.heap.size,0,none⟩) lP lP)∧Arg (some ⟨w5.heap.size,0,none⟩) lP lP (fun j=>((psub D S (pmul D lQ Q T') j:Nat):Int)) w'∧Below w5.heap.size w5 w'):=by
    have F':=fld HF.out.1
    have E:=HE.out.1
    have hbP:Bd lP (pmul D lQ Q T'):=by rw[HlP.out];exact pmul_bd F' E.tT.1 lQ
    have h:=eless_any HF.out.1 (ca:=cs) (cb:=pc) (t:=1) (HFt.out w5 (bel_up' HW.out H5.out.1)) (show lS≤1000 by have:=E.ls;omega) (show lP≤1000 by omega) E.eS (el_mul F' Q T' lQ) E.bS hbP (HA.out.2.2.1.below H5.out.1).sl H5.out.2.1.sl (HA.out.2.2.1.below H5.out.1).lt H5.out.2.1.lt (one_lt' F')
    rw[HMx.out,pscale_one F' (el_mul F' Q T' lQ)]at h
    refine h.mono ?_
    rintro e w' ⟨rfl,hr,hb'⟩
    exact⟨rfl,⟨hr.sl (Nat.le_refl _),fun x hx=>by cases hx;exact hr.lt,by omega,fun e=>(by cases e),Nat.le_refl _,by omega⟩,hb'⟩
   go_wp2_with fail
   refine HLs.out.mono ?_
   rintro e w6 ⟨rfl,hA6,hb6⟩
   have H6:Hid (Below wr.heap.size wr w6∧Arg (some ⟨w5.heap.size,0,none⟩) lP lP (fun j=>((psub D S (pmul D lQ Q T') j:Nat):Int)) w6∧Arg ro lC rc (fun j=>((C j:Nat):Int)) w6):=⟨bel_up' H5.out.1 hb6,hA6,H5.out.2.2.below hb6⟩
   have HR:Hid (DvI D n k xs y w (.slice bo lB cb) (.slice ro lC rc) (.slice tt lT ct') (.slice (some ⟨w5.heap.size,0,none⟩) lP lP) w6∧Below w0.heap.size w0 w6):=by
    refine⟨⟨bo,ro,tt,some ⟨w5.heap.size,0,none⟩,cb,rc,ct',lP,lB,lC,lT,lP,B,C,T',psub D S (pmul D lQ Q T'),rfl,rfl,rfl,rfl,by omega,hlP2,hc,⟨HA.out.2.1.below H6.out.1,H6.out.2.2,HA.out.2.2.2.below H6.out.1,H6.out.2.1⟩,?_,bel_up' HE.out.2 H6.out.1⟩,bel_up' HW.out H6.out.1⟩
    rw[HlP.out];exact HS.out.1
   clear hA6 hb6
   go_wp2
   go_roundw
   case rel=>exact⟨HR.out.1,HR.out.2⟩
   case measure=>simp[slen];omega
  ·have hcb:¬(n:Int)+(k:Int)≤2*((lB:Int)-1):=by omega
   have hcc:¬2*((lB:Int)-1) ≥ (n:Int)+(k:Int):=hcb
   have HQt:Hid (Calls Tryz.prog 111 #[.pointer (some ⟨F,0,none⟩),.slice bo lB cb,.slice tt lT ct'] wr (FindP D n k xs y wr)):=by
    have F':=fld HF.out.1
    have E:=HE.out.1
    have zB:zc lB (fun j=>((B j:Nat):Int))=B:=zc_nat E.tB.1
    have zT:zc lT (fun j=>((T' j:Nat):Int))=T':=zc_nat E.tT.1
    have hck:D.chk2 lB (fun j=>((B j:Nat):Int)) lT (fun j=>((T' j:Nat):Int))=0:=by
     unfold FD.chk2
     rw[if_pos (chk_nat E.eB (by omega))]
     exact chk_nat E.eT (by omega)
    have d2:dgn T' lT=lT:=dgn_self E.tT.2
    have hT0:lT≠0:=by have:=E.ls;omega
    have h:=quotient_any HF.out.1 (HFt.out wr HW.out) HA.out.2.1 HA.out.2.2.2 hck (by rw[zT,d2];exact hT0)
    rw[zB,zT]at h
    refine h.mono ?_
    rintro e w' ⟨v,rfl,ho,hb'⟩
    obtain⟨s1,s2⟩:=quo_short HF.out.1 B T' lB lT
    refine⟨hb',v,_,_,_,rfl,ho,s1,trd_dgn s2,by have:=dgn_le (D.quo B lB T' lT) (lB-(dgn T' lT-1));omega,fun a ea ba hoa=>?_⟩
    have hB:=E.last F' hk hA2 (by omega) HX.out.1 HX.out.2.1 hoa
    obtain⟨u1,u2⟩:=quo_exact HF.out.1 E.eB E.tB.1 E.eT E.tT.1 (by rw[d2];exact hT0) ea ba hB
    refine⟨?_,u1⟩
    rw[u2]
    exact decide_eq_true (dgn_nil lB)
   go_wp2_with fail
   refine HQt.out.mono ?_
   rintro e w7 ⟨hb7,v,ok,lf,f,rfl,h1,h2,h3,h4,h5⟩
   have H7:Hid (FindP D n k xs y w (.returned (.tuple #[v,.bool ok])) w7):=⟨bel_up' HE.out.2 hb7,v,ok,lf,f,rfl,h1.mono HE.out.2.size,h2,h3,h4,h5⟩
   clear hb7 h1 h2 h3 h4 h5
   go_wp2
   go_ret2
   exact H7.out
def hix(y:Nat→Int):Nat→List Nat
 | 0=>[]
 |r+1=>if y r = -1 then hix y r else hix y r++[r]
theorem hrL_map(z y:Nat→Int):∀r,hrL z y r=(hix y r).map z
 | 0=>rfl
 |r+1=>by
  show(if y r = -1 then hrL z y r else hrL z y r++[z r])=(if y r = -1 then hix y r else hix y r++[r]).map z
  by_cases h:y r = -1
  ·rw[if_pos h,if_pos h];exact hrL_map z y r
  ·rw[if_neg h,if_neg h,List.map_append,hrL_map z y r];rfl
theorem hix_mem {y:Nat→Int}:∀r i,i∈hix y r→i<r∧y i ≠ -1
 | 0,i,h=>by simp[hix]at h
 |r+1,i,h=>by
  have h:i∈(if y r = -1 then hix y r else hix y r++[r]):=h
  by_cases e:y r = -1
  ·rw[if_pos e]at h
   have:=hix_mem r i h
   exact⟨by omega,this.2⟩
  ·rw[if_neg e]at h
   rcases List.mem_append.1 h with h|h
   ·have:=hix_mem r i h
    exact⟨by omega,this.2⟩
   ·rw[List.mem_singleton.1 h]
    exact⟨by omega,e⟩
theorem hix_pw(y:Nat→Int):∀r,(hix y r).Pairwise (· < ·)
 | 0=>List.Pairwise.nil
 |r+1=>by
  show(if y r = -1 then hix y r else hix y r++[r]).Pairwise (· < ·)
  by_cases e:y r = -1
  ·rw[if_pos e];exact hix_pw y r
  ·rw[if_neg e,List.pairwise_append]
   refine⟨hix_pw y r,by simp,fun a ha b hb=>?_⟩
   rw[List.mem_singleton.1 hb]
   exact(hix_mem r a ha).1
theorem hix_len(y:Nat→Int):∀r,(hix y r).length≤r
 | 0=>Nat.le_refl _
 |r+1=>by
  have:=hix_len y r
  show(if y r = -1 then hix y r else hix y r++[r]).length≤r+1
  split
  ·omega
  ·rw[List.length_append];show _+1≤_;omega
theorem map_zl {l:List Nat}{z:Nat→Int}:l.map z=zl l.length fun j=>z (l.getD j 0):=by
 refine List.ext_getElem? fun j=>?_
 by_cases h:j<l.length
 ·rw[zl_get _ _ _ h,List.getElem?_map,List.getElem?_eq_getElem h,List.getD_eq_getElem?_getD,List.getElem?_eq_getElem h];rfl
 ·rw[List.getElem?_map,List.getElem?_eq_none (by omega),List.getElem?_eq_none (by rw[zl_len];omega)];rfl
theorem hix_ct(y:Nat→Int)(p:Nat→Bool):∀r,ct (fun j=>p ((hix y r).getD j 0)) (hix y r).length=ct (fun i => !decide (y i = -1) && p i) r
 | 0=>rfl
 |r+1=>by
  have ih:=hix_ct y p r
  have e0:hix y (r+1)=if y r = -1 then hix y r else hix y r++[r]:=rfl
  show _=ct (fun i => !decide (y i = -1) && p i) r+if(!decide (y r = -1) && p r)=true then 1 else 0
  rw[e0, ←ih]
  by_cases e:y r = -1
  ·rw[if_pos e,if_neg (by simp[e])];rfl
  ·rw[if_neg e,List.length_append]
   show ct _ (hix y r).length+(if p ((hix y r++[r]).getD (hix y r).length 0)=true then 1 else 0)=_
   have e1:(hix y r++[r]).getD (hix y r).length 0=r:=by
    rw[List.getD_eq_getElem?_getD,List.getElem?_append_right (Nat.le_refl _),Nat.sub_self];rfl
   have e2:ct (fun j=>p ((hix y r++[r]).getD j 0)) (hix y r).length=ct (fun j=>p ((hix y r).getD j 0)) (hix y r).length:=ct_same _ fun j hj=>by
    rw[List.getD_eq_getElem?_getD,List.getElem?_append_left hj, ←List.getD_eq_getElem?_getD]
   rw[e1,e2]
   congr 1
   simp[e]
structure Heard(D:FD)(n:Nat)(c:Nat→Nat)(y:Nat→Int)(m:Nat)(c' y':Nat→Nat):Prop where
 lx:hrL (fun i=>((c i:Nat):Int)) y n=zl m fun j=>((c' j:Nat):Int)
 ly:hrL y y n=zl m fun j=>((y' j:Nat):Int)
 le:m≤n
 cq:∀j,j<m→c' j<D.q
 ne:∀i j,i<m→j<m→i≠j→c' i≠c' j
 yq:∀j,j<m→y' j<D.q
 many:m=ct (fun i => !decide (y i = -1)) n
 ofs:∀k a,ofs D k m c' y' a=ct (fun i => !decide (y i = -1) && !decide (((D.ev a (c i) k:Nat):Int)=y i)) n
theorem heard_ex {D:FD}{n:Nat}{c:Nat→Nat}{y:Nat→Int}(hc:∀i,i<n→c i<D.q)(hne:∀i j,i<n→j<n→i≠j→c i≠c j)(hy:∀i,i<n→y i = -1∨D.has (y i)=true):∃m c' y',Heard D n c y m c' y':=by
 obtain⟨l,hl⟩:∃l,l=hix y n:=⟨_,rfl⟩
 have hmem:∀j,j<l.length→l.getD j 0<n∧y (l.getD j 0)≠ -1:=fun j hj=>by
  have h:l.getD j 0∈hix y n:=by rw[←hl,List.getD_eq_getElem?_getD,List.getElem?_eq_getElem hj];exact List.getElem_mem hj
  exact hix_mem n _ h
 have hnat:∀j,j<l.length→∃x:Nat,y (l.getD j 0)=(x:Int)∧x<D.q:=fun j hj=>by
  rcases hy _ (hmem j hj).1 with h|h
  ·exact absurd h (hmem j hj).2
  ·exact has_nat h
 refine⟨l.length,fun j=>c (l.getD j 0),fun j=>(y (l.getD j 0)).toNat,⟨?_,?_,by rw[hl];exact hix_len y n,fun j hj=>hc _ (hmem j hj).1,fun i j hi hj hij=>?_,fun j hj=>?_,?_,fun k a=>?_⟩⟩
 ·rw[hrL_map, ←hl];exact map_zl
 ·rw[hrL_map, ←hl,map_zl]
  refine zl_congr fun j hj=>?_
  obtain⟨x,hx,_⟩:=hnat j hj
  show y (l.getD j 0)=((y (l.getD j 0)).toNat:Int)
  rw[hx];simp
 ·have hpw:l.Pairwise (· < ·):=by rw[hl];exact hix_pw y n
  have g:∀a (ha:a<l.length),l.getD a 0=l[a]:=fun a ha=>by rw[List.getD_eq_getElem?_getD,List.getElem?_eq_getElem ha];rfl
  refine hne _ _ (hmem i hi).1 (hmem j hj).1 (fun e=>?_)
  rw[g i hi,g j hj]at e
  have h1:=List.pairwise_iff_getElem.1 hpw
  rcases Nat.lt_or_ge i j with h|h
  ·have:=h1 i j hi hj h;omega
  ·have:=h1 j i hj hi (by omega);omega
 ·obtain⟨x,hx,hq⟩:=hnat j hj
  show(y (l.getD j 0)).toNat<D.q
  rw[hx];simpa using hq
 ·have h:=hix_ct y (fun _=>true) n
  rw[ct_true, ←hl]at h
  rw[h]
  exact ct_same n fun i _=>by simp
 ·have h:=hix_ct y (fun i => !decide (((D.ev a (c i) k:Nat):Int)=y i)) n
  rw[←h, ←hl]
  unfold Go.Proofs.YtedifobeggabnaaGreat.ofs
  refine ct_same _ fun j hj=>?_
  obtain⟨x,hx,_⟩:=hnat j hj
  show(!decide (D.ev a (c (l.getD j 0)) k=(y (l.getD j 0)).toNat)) = !decide (((D.ev a (c (l.getD j 0)) k:Nat):Int)=y (l.getD j 0))
  rw[hx]
  congr 1
  refine decide_eq_decide.2 (Iff.intro (fun e=>?_) (fun e=>?_))
  ·rw[e];simp
  ·have e2:D.ev a (c (l.getD j 0)) k=x:=by omega
   rw[e2];simp
def NearH(D:FD)(m k:Nat)(c y a:Nat→Nat):Prop:=El D a∧Bd k a∧k≤m∧2*ofs D k m c y a≤m-k
theorem enters_bd:∀args w,(callFunc 88 args).run Tryz.prog w = .ok (.enter 88 args) w:=
 enters_of Tryz.func88 (by kernel_rfl) rfl
theorem NearH.one {D:FD}(hD:D∈fieldsL){n m k:Nat}{c c' y' a b:Nat→Nat}{y:Nat→Int}(hH:Heard D n c y m c' y')(ha:NearH D m k c' y' a)(hb:NearH D m k c' y' b):a=b:=
 Go.Proofs.YtedifobeggabnaaGreat.near_one (fld hD) ha.2.2.1 hH.cq hH.ne ha.1 hb.1 ha.2.1 hb.2.1 ha.2.2.2 hb.2.2.2
theorem pch_fine {D:FD}{c:Nat→Nat}{n:Nat}(hc:∀i,i<n→c i<D.q)(hne:∀i j,i<n→j<n→i≠j→c i≠c j):∀r,r≤n→D.pch (fun j=>((c j:Nat):Int)) r=0
 | 0,_=>rfl
 |r+1,h=>by
  show(if D.pch _ r≠0 then D.pch _ r else if D.has ((c r:Nat):Int)=true then(if((c r:Nat):Int)∈zl r (fun j=>((c j:Nat):Int))then 7 else 0)else 2)=0
  rw[if_neg (fun x=>x (pch_fine hc hne r (by omega))),if_pos (has_of_lt (hc r (by omega))),if_neg]
  intro hm
  unfold zl at hm
  obtain⟨j,hj,e⟩:=List.mem_map.1 hm
  have hj:=List.mem_range.1 hj
  exact hne j r (by omega) (by omega) (by omega) (by have e:((c j:Nat):Int)=((c r:Nat):Int):=e;omega)
theorem wchk_fine {D:FD}{c:Nat→Nat}{n k:Nat}{y:Nat→Int}(hn1:1≤n)(hn:n≤64)(hk1:1≤k)(hk:k≤n)(hc:∀i,i<n→c i<D.q)(hne:∀i j,i<n→j<n→i≠j→c i≠c j)(hy:D.allW y n=true):D.wchk n (fun j=>((c j:Nat):Int)) (k:Nat) n y=0:=by
 have h1:D.rchk n (fun j=>((c j:Nat):Int)) (k:Nat)=0:=by
  unfold FD.rchk
  rw[if_neg (by omega),if_neg (fun x=>x (pch_fine hc hne n (Nat.le_refl _))),if_neg (by omega)]
 unfold FD.wchk
 rw[if_neg (fun x=>x h1),if_neg (fun x=>x rfl),if_pos hy]
end Go.Proofs.YtedifobeggabnaaGreat
