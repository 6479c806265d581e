/- Texts of ours, one behind the other: ZM1 ZM2. -/
import Derived.Test.YtedifobeggabnaaGreatCbZL5
import Derived.Test.YtedifobeggabnaaGreatCbZJ1
import Derived.Test.YtedifobeggabnaaGreatCbL10
import Derived.Conc.LeavingOf
namespace Go.Proofs.YtedifobeggabnaaGreat
section
open Go.RowKit Go.Sort
open Go.Conc
open Go.ConcN (sumTo)
def lnE(D:FD)(n k:Nat)(c:Nat→Nat)(Y:Nat→Nat→Int)(av:Nat→Nat→Nat)(i:Nat):Nat:=ct (fun j => !decide (Y i j = -1) && !decide (((D.ev (av i) (c j) k:Nat):Int)=Y i j)) n
theorem rn_got {D:FD}{N K M T lo bg Wg:Nat}{c:Nat→Nat}{av:Nat→Nat→Nat}{l:List (Nat×Nat×Nat)}{h:Nat→Option Obj}{Sh0:Nat→Prop}{m:Nat→Nat}{c' y' am:Nat→Nat→Nat}{er:Nat→Nat}{ls:Nat→Bool}{tk:Nat→Option Value}{w w1:World}(hD:D∈fieldsL)(hT:2*T+K≤N)(hK:K≤N)(hL:∀i, i<M→cnA l i≤T)(hv:NzB M N D.q l)(ha:∀i, i<M→El D (av i)∧Bd K (av i))
  (hR:RnE D N K M c (nzW D (fun i j=>((D.ev (av i) (c j) K:Nat):Int)) (naL l) (npL l) (nvL l) l.length) h Sh0 Wg bg m c' y' am er ls tk w w1) (hlo:lo≤w.heap.size) :
  GotM lo M K bg av er tk w1∧(∀i,i<M→er i=lnE D N K c (nzW D (fun i j=>((D.ev (av i) (c j) K:Nat):Int)) (naL l) (npL l) (nvL l) l.length) av i)∧sumTo M er=sumTo M (lnE D N K c (nzW D (fun i j=>((D.ev (av i) (c j) K:Nat):Int)) (naL l) (npL l) (nvL l) l.length) av)∧sumTo M (fun i=>if ls i then 1 else 0)=0∧(∀b,GotQ M bg tk b→b<w1.heap.size∧¬(Sh0 b∨b=Wg)):=by
 have key:=fun i (hi:i<M)=>out_all hD hT hK hL hv ha hR.out hi
 refine⟨⟨hR.got,Nat.le_trans hlo hR.bgl,fun i hi=>?_⟩,fun i hi=>(key i hi).2.2,sumTo_same M fun i hi=>(key i hi).2.2,?_,fun b hb=>?_⟩
 ·obtain⟨v,e,⟨go,gc,rfl,_,h2⟩,_⟩:=hR.all i hi
  obtain⟨k1,k2,_⟩:=key i hi
  obtain⟨_,_,g,cs,rfl,q0,q3,q4,q5⟩:=h2 k1
  rw[k1]at e
  exact⟨g,gc,cs,e,by omega,q3,q4,fun j hj=>by rw[←k2];exact q5 j hj⟩
 ·rw[sumTo_same (g:=fun _=>0) M fun i hi=>by rw[(key i hi).1];rfl]
  exact sum_zero M
 ·rcases hb with rfl|⟨i,v,hi,e,hm⟩
  ·exact hR.bgn
  ·obtain⟨v',e',_,h3⟩:=hR.all i hi
   rw[e]at e'
   cases e'
   exact h3 b hm
set_option maxRecDepth 100000 in
theorem tlB_vals {S:Value→Prop}{ao:Option Addr}{n0 ca:Nat}{D:FD}{N K M:Nat}{h1 h2:Int}{gx:Nat}{mv lv:Value}{a:Act}(h:TlB ao n0 ca D N K M h1 h2 gx mv lv a)(hv:∀v,v∈a.tmps→S v):S (.slice (some ⟨gx,0,none⟩) N D.q)∧S mv∧S lv:=by
 obtain⟨f,rfl,_⟩:=h.fn
 exact⟨hv _ (by simp),hv _ (by simp),hv _ (by simp)⟩
section
variable {ao:Option Addr}{n0 ca:Nat}{z:Nat→Int}{W W1:World}{D:FD}{N K M B gx:Nat}{h1 h2:Int}{c:Nat→Nat}{vs:Nat→Value}{Z:Nat→Nat→Int}{l:List (Nat×Nat×Nat)}{mv lv:Value}{a:Act}{h:Nat→Option Obj}
theorem tl_arg(hN:N≤D.q)(hq:D.q≤64)(hS:TlS ao n0 ca W D N K M h1 h2 B gx c vs Z l mv lv a W1)(hh:∀b o,W1.heap[b]?=some o→h b=some o)(wx:World)(hx:∀b o,h b=some o→wx.heap[b]?=some o):Arg (some ⟨gx,0,none⟩) N D.q (fun j=>((c j:Nat):Int)) wx:=by
 obtain⟨cs,e,_⟩:=hS.made.xs.plain
 have hr:RowE gx D.q c wx:=hS.made.xs.other ((hx _ _ (hh _ _ e)).trans e.symm)
 exact⟨fun j hj=>⟨gx,0,rfl,by rw[Nat.zero_add];exact hr.cell j (by omega)⟩,fun x e=>(by cases e;exact hr.lt),by omega,fun e=>(by cases e),hN,by omega⟩
theorem tl_plain(hS:TlS ao n0 ca W D N K M h1 h2 B gx c vs Z l mv lv a W1)(hh:∀b o,W1.heap[b]?=some o→h b=some o):∃cs t,h gx=some (.cells cs t)∧∀x,x∈cs→NoB x:=by
 obtain⟨cs,e,hx⟩:=hS.made.xs.plain
 exact⟨cs,_,hh _ _ e,hx⟩
theorem tl_see(hD:D∈fieldsL)(hN1:1≤N)(hN9:N≤9)(hN:N≤D.q)(hK1:1≤K)(hK:K≤N)(hM:M≤8)(hS:TlS ao n0 ca W D N K M h1 h2 B gx c vs Z l mv lv a W1)(hh:∀b o,W1.heap[b]?=some o→h b=some o)(wx:World)(hx:∀b o,h b=some o→wx.heap[b]?=some o):RunSee h (D.q:Nat) (K:Nat) (some ⟨gx,0,none⟩) N D.q mv lv M (nzW D (fun i j=>((D.ev (zc K (Z i)) (c j) K:Nat):Int)) (naL l) (npL l) (nvL l) l.length) wx:=
 see_ok hD hN1 hN9 hN hK1 hK hM (by omega) hS.perm (hS.made.cong (B0:=0) (fun x cs t _ e=>hx _ _ (hh _ _ e)) (Nat.zero_le _)) (fun b lo hi hm=>by
  obtain⟨_,cur,t,e,_⟩:=rn_mem hS.made hN hm
  exact⟨_,hh _ _ e⟩)
theorem tl_y(hD:D∈fieldsL)(hS:TlS ao n0 ca W D N K M h1 h2 B gx c vs Z l mv lv a W1)(i j:Nat)(hi:i<M)(hj:j<N):(nzW D (fun i j=>((D.ev (zc K (Z i)) (c j) K:Nat):Int)) (naL l) (npL l) (nvL l) l.length) i j = -1∨(0≤(nzW D (fun i j=>((D.ev (zc K (Z i)) (c j) K:Nat):Int)) (naL l) (npL l) (nvL l) l.length) i j∧(nzW D (fun i j=>((D.ev (zc K (Z i)) (c j) K:Nat):Int)) (naL l) (npL l) (nvL l) l.length) i j<(D.q:Int)):=
 nzW_ok hD (fun i j _ _=>Or.inr ⟨by omega,by have:=ev_lt (fld hD) (zc K (Z i)) (c j) K;omega⟩) (fun r hr=>(hS.made.bd.at r hr).2.1) (fun r hr=>Or.inr ⟨(hS.made.bd.at r hr).2.2.1,(hS.made.bd.at r hr).2.2.2⟩) l.length (Nat.le_refl _) i j hi hj
theorem tl_el(hD:D∈fieldsL)(hS:TlS ao n0 ca W D N K M h1 h2 B gx c vs Z l mv lv a W1)(i:Nat)(hi:i<M):El D (zc K (Z i))∧Bd K (zc K (Z i)):=⟨fun j=>by
 unfold zc
 split
 ·rename_i hj
  have:=hS.made.m.blw i hi j hj
  omega
 ·have:=(fld hD).q2
  omega,zc_bd K (Z i)⟩
end
theorem Kp.here {B:Nat}{h z:Nat→Option Obj}{O:Nat→Prop}{w:World}(h1:Kp B h z O w):Kp w.heap.size h z O w:=⟨h1.mem,h1.own,Nat.le_refl _,h1.spec,h1.off,h1.lt⟩
theorem tl_top {ao:Option Addr}{n0 ca:Nat}{z:Nat→Int}{W:World}(ha:Arg ao n0 ca z W)(hr:RawB ao W)(hn0:n0≤256)(q n k many h1 h2:Int)(hq:I64 q)(hn:I64 n)(hk:I64 k)(hm:I64 many)(hi1:I64 h1)(hi2:I64 h2) :
  Beside0 Tryz.prog (fun v w'=>v = .bool true∧Below W.heap.size W w') noB (fun b=>b<W.heap.size) (fun _ _=>True) (G (Frame.enter Tryz.prog 5 #[.slice ao n0 ca,.int .i64 q,.int .i64 n,.int .i64 k,.int .i64 many,.int .i64 h1,.int .i64 h2] .normal) []) W:=by
 obtain⟨D,N,K,M,hD,hN1,hN9,hNq,hK1,hKN,hM,hst⟩:=tl_start ha hr hn0 q n k many h1 h2 hq hn hk hm
 obtain⟨P1,hP1,hP1k⟩:=pick_in (m:=h1) (k:=8) (by omega)
 obtain⟨P2,hP2,hP2k⟩:=pick_in (m:=h2) (k:=8) (by omega)
 have hp1:∀w:World,Calls Tryz.prog 15 #[.int .i64 h1,.int .i64 8] w fun e w'=>e = .returned (.int .i64 (P1:Nat))∧w'=w:=fun w=>by rw[←hP1];exact pick_any h1 8 w hi1.1 hi1.2 (by omega) (by omega)
 have hp2:∀w:World,Calls Tryz.prog 15 #[.int .i64 h2,.int .i64 8] w fun e w'=>e = .returned (.int .i64 (P2:Nat))∧w'=w:=fun w=>by rw[←hP2];exact pick_any h2 8 w hi2.1 hi2.2 (by omega) (by omega)
 clear hP1 hP2
 have hq64:=(fld hD).q64
 refine beside_walk (S1:=fun _ w' _=>w'.tape=W.tape∧w'.os=W.os∧w'.output=W.output) (Stop:=fun O' g' w'=>∃(B gx:Nat) (c:Nat→Nat) (vs:Nat→Value) (Z:Nat→Nat→Int) (l:List (Nat×Nat×Nat)) (mv lv:Value) (a:Act) (W1:World) (hh:Nat→Option Obj) (fc:Frame),TlS ao n0 ca W D N K M h1 h2 B gx c vs Z l mv lv a W1∧(∀b,hh b=W1.heap[b]?)∧Kp W1.heap.size hh (fun _=>none) O' w'∧TlC2 ao n0 ca D N K M h1 h2 gx mv lv P1 (1+P1) P2 (1+P2) (VOk (RawS ao n0 W.heap.size W1.heap.size) (fxT (rawL ao n0))) fc∧g'=(G (Frame.enter Tryz.prog 9 #[.int .i64 (D.q:Nat),.slice (some ⟨gx,0,none⟩) N D.q,.int .i64 (K:Nat),mv,lv,.int .i64 (1+P1:Nat)] .normal) [fc]))
  (hst _ fun B gx c vs Z l mv lv a W1 hS=>?_) (fun O' w' t t' _ hf=>⟨hf.tape,hf.os,hf.out⟩) (fun O' g' w' hst'=>?_)
 ·obtain⟨hh,e1,hK0⟩:=kp_all (fun _=>True) W1
  have eO:OwnB (fun b=>b<W.heap.size) W.heap.size W1=fun b=>b<W1.heap.size∧True:=by
   funext b
   have:=hS.size
   exact propext ⟨fun h=>⟨h.elim (fun q=>by omega) (fun q=>q.2),trivial⟩,fun h=>by
    by_cases q:b<W.heap.size
    ·exact Or.inl q
    ·exact Or.inr ⟨by omega,h.1⟩⟩
  rw[eO]
  exact tl_runs hK0 hS.slot hS.vals hp1 (wrap_to (by omega) (by omega)) hp2 (wrap_to (by omega) (by omega)) fun fc O' w' hK' _ hC=>Wk.stop fun d=>⟨B,gx,c,vs,Z,l,mv,lv,a,W1,hh,fc,hS,fun b=>e1 b trivial,hK'.at d,hC,rfl⟩
 intro gs sl t qq h0 hL hP hOx hSh hS1
 obtain⟨B,gx,c,vs,Z,l,mv,lv,a,W1,hh,fc,hS,e1,hK,hC,rfl⟩:=hst' w'.drawn
 replace hK:Kp W1.heap.size hh (fun _=>none) O' w':=hK
 clear hst' hst
 have hle:W1.heap.size≤w'.heap.size:=hK.size
 have hh1:∀b o,W1.heap[b]?=some o→hh b=some o:=fun b o e=>(e1 b).trans e
 have hcx:∀i,i<N→c i<D.q:=fun i hi=>hS.perm.1 i (by omega)
 have hci:∀i j,i<N→j<N→i≠j→c i≠c j:=fun i j hi hj e=>by
  rcases Nat.lt_or_ge i j with h1|h1
  ·exact hS.perm.2 i j h1 (by omega)
  ·exact fun e2=>hS.perm.2 j i (by omega) (by omega) e2.symm
 have hcn:∀i,i<M→cnA l i≤(N-K) / 2:=fun i hi=>by
  rw[hS.made.cn i,if_pos hi]
  exact Nat.le_refl _
 obtain⟨vx,vm,vl'⟩:=tlB_vals hS.slot hS.vals
 refine run_co (ms:=mv) (ns:=lv) (n:=N) (cx:=D.q) (k:=K) (N:=M) (hs:=1+P1) (bx:=gx) (ox:=0) (c:=c) (y:=(nzW D (fun i j=>((D.ev (zc K (Z i)) (c j) K:Nat):Int)) (naL l) (npL l) (nvL l) l.length)) (h:=hh) (Sh0:=noB) (fc:=fc) (cs:=[]) hD hN1 (by omega) hK1 hKN hcx hci (tl_y hD hS) (by omega) (by omega) (by omega) hK.here (tl_arg hNq hq64 hS hh1) (tl_plain hS hh1) (tl_see hD hN1 hN9 hNq hK1 hKN hM hS hh1) (fun b _ h=>h) (fun b h=>h.elim) (fun Wg bg m c' y' am er ls tk w1 hR=>?_) gs sl t qq h0 hL hP hOx hSh trivial
 obtain⟨hG1,hE1,hs1,hz1,hQ1⟩:=rn_got hD (by omega) hKN hcn hS.made.bd (tl_el hD hS) hR (lo:=W1.heap.size) hle
 rw[hs1,hz1]
 obtain⟨h2',e2,hK2⟩:=kp_all (fun b=>¬(noB b∨b=Wg)) w1
 have hWg:=hR.wgn
 refine beside_walk (S1:=fun _ w2 _=>w2.tape=w1.tape∧w2.os=w1.os∧w2.output=w1.output) (Stop:=fun O2 g2 w2=>∃fc2,Kp w1.heap.size h2' (fun _=>none) O2 w2∧(∀b,O2 b→(b<w1.heap.size∧¬(noB b∨b=Wg))∨w1.heap.size≤b)∧TlC3 ao n0 ca D N K M h1 h2 gx mv lv P1 (1+P1) P2 (1+P2) bg (sumTo M (lnE D N K c (nzW D (fun i j=>((D.ev (zc K (Z i)) (c j) K:Nat):Int)) (naL l) (npL l) (nvL l) l.length) (fun i=>zc K (Z i))):Nat) 0 (VOk (RawS ao n0 W.heap.size W1.heap.size) (fxT (rawL ao n0))) fc2∧g2=(G (Frame.enter Tryz.prog 9 #[.int .i64 (D.q:Nat),.slice (some ⟨gx,0,none⟩) N D.q,.int .i64 (K:Nat),mv,lv,.int .i64 (1+P2:Nat)] .normal) [fc2]))
  (hC bg _ _ _ _ _ _ _ hK2 fun fc2 O2 w2 hK2' hO2 hC3=>Wk.stop fun d=>⟨fc2,hK2'.at d,hO2,hC3,rfl⟩) (fun O' w' t t' _ hf=>⟨hf.tape,hf.os,hf.out⟩) (fun O2 g2 w2 hst2=>?_)
 intro gs2 sl2 t2 q2 h02 hL2 hP2 hOx2 hSh2 hS2
 obtain⟨fc2,hK3,hO2,hC3,rfl⟩:=hst2 w2.drawn
 replace hK3:Kp w1.heap.size h2' (fun _=>none) O2 w2:=hK3
 clear hst2
 have hw12:w1.heap.size≤w2.heap.size:=hK3.size
 have low:∀b,b<W1.heap.size→¬(noB b∨b=Wg):=fun b hb h=>h.elim id fun e=>by omega
 have hh2:∀b o,W1.heap[b]?=some o→h2' b=some o:=fun b o e=>(e2 b (low b (lt_of_some e))).trans (hR.old b o (hh1 b o e))
 refine run_co (ms:=mv) (ns:=lv) (n:=N) (cx:=D.q) (k:=K) (N:=M) (hs:=1+P2) (bx:=gx) (ox:=0) (c:=c) (y:=(nzW D (fun i j=>((D.ev (zc K (Z i)) (c j) K:Nat):Int)) (naL l) (npL l) (nvL l) l.length)) (h:=h2') (Sh0:=fun b=>noB b∨b=Wg) (fc:=fc2) (cs:=[]) hD hN1 (by omega) hK1 hKN hcx hci (tl_y hD hS) (by omega) (by omega) (by omega) hK3.here (tl_arg hNq hq64 hS hh2) (tl_plain hS hh2) (tl_see hD hN1 hN9 hNq hK1 hKN hM hS hh2) (fun b hb h=>?_) (fun b h=>?_) (fun Wg2 bg2 m2 c2' y2' am2 er2 ls2 tk2 w3 hR2=>?_) gs2 sl2 t2 q2 h02 hL2 hP2 hOx2 hSh2 trivial
 ·rcases hO2 b hb with q|q
  ·exact q.2 h
  ·exact h.elim id fun e=>by omega
 ·exact h.elim False.elim fun e=>by omega
 obtain⟨hG2,hE2,hs2,hz2,hQ2⟩:=rn_got hD (by omega) hKN hcn hS.made.bd (tl_el hD hS) hR2 (lo:=W1.heap.size) (by omega)
 rw[hs2,hz2]
 obtain⟨h3',e3,hK4⟩:=kp_all (fun b=>¬((noB b∨b=Wg)∨b=Wg2)) w3
 have hWg2:=hR2.wgn
 have hnx:∀b,b<w1.heap.size→¬(noB b∨b=Wg)→¬((noB b∨b=Wg)∨b=Wg2):=fun b hb hn h=>h.elim hn fun e=>by omega
 have hkeep:∀b o,h2' b=some o→w3.heap[b]?=some o:=hR2.old
 have ha1:∀b o,W1.heap[b]?=some o→h3' b=some o:=fun b o e=>(e3 b (hnx b (by have:=lt_of_some e;omega) (low b (lt_of_some e)))).trans (hkeep b o (hh2 b o e))
 have hb1:∀b o,GotQ M bg tk b→w1.heap[b]?=some o→h3' b=some o:=fun b o hb e=>(e3 b (hnx b (hQ1 b hb).1 (hQ1 b hb).2)).trans (hkeep b o ((e2 b (hQ1 b hb).2).trans e))
 have hb2:∀b o,GotQ M bg2 tk2 b→w3.heap[b]?=some o→h3' b=some o:=fun b o hb e=>(e3 b (hQ2 b hb).2).trans e
 have hw23:=hR2.size
 refine beside_walk (S1:=fun _ w4 _=>(w4.tape=w3.tape∧w4.os=w3.os∧w4.output=w3.output)∧w3.heap.size≤w4.heap.size) (Stop:=TlZ W)
  (hC3 bg2 _ _ _ _ _ _ _ hK4 fun w4 a4 hK5 hE=>?_) (fun O' w' t t' _ hf=>⟨⟨hf.tape,hf.os,hf.out⟩,hf.size⟩) (fun O4 g4 w4 hst4=>?_)
 ·refine tl_last ha hr hK1 (by omega) hM hS hE vx vm vl' (fun b hb=>?_) (hG1.cells fun b cs t hb e=>hK5.mem b _ (hb1 b _ hb e)) (hG2.cells fun b cs t hb e=>hK5.mem b _ (hb2 b _ hb e)) (fun i hi=>⟨(hE1 i hi).trans (hE2 i hi).symm,hR.out.few i⟩) (fun b hb=>?_)
  ·have e:W1.heap[b]?=some W1.heap[b]:=Array.getElem?_eq_getElem hb
   rw[e]
   exact hK5.mem b _ (ha1 b _ e)
  ·rcases hb with hb|hb|hb
   ·exact⟨by omega,hnx b (by omega) (low b hb)⟩
   ·have:=hQ1 b hb
    exact⟨by omega,hnx b this.1 this.2⟩
   ·exact hQ2 b hb
 ·intro gs4 sl4 t4 q4 h04 hL4 hP4 hO4 hSh4 hS4
  have hz:TlZ W O4 g4 w4:=hst4 w4.drawn
  have hsz:=hS.size
  have f1:=hR.fix
  have f2:=hR2.fix
  exact end_run (O1:=O4) (fun b hb=>(hO4 b hb).2) h04 hL4 hP4 fun d=>tl_done hz (by have:=hS4.2;have:=hR.size;omega) ⟨hS4.1.1.trans (f2.1.trans (hS2.1.trans (f1.1.trans hS1.1))),hS4.1.2.1.trans (f2.2.1.trans (hS2.2.1.trans (f1.2.1.trans hS1.2.1))),hS4.1.2.2.trans (f2.2.2.trans (hS2.2.2.trans (f1.2.2.trans hS1.2.2)))⟩ d
end
section
open Go.Conc Go.RowKit Go.ConcR.Gen
open Go.ConcN.Gen
theorem pastX_nil(B:Nat):PastX noB B #[]:=⟨fun said=>by rintro⟨i,j,_,⟨a,b,ha,_⟩,_⟩;simp[Trace.act?]at ha,fun i a ha=>by simp[touchAt,Trace.act?]at ha,fun i g hg=>by simp[Trace.g?]at hg,rfl,by simp⟩
theorem beside_start {P:Program}{Post:Value→World→Prop}{g:Goroutine}{W:World}(h:Beside0 P Post noB (fun b=>b<W.heap.size) (fun _ _=>True) g W):RunsX P Post (solo g W) #[]:=
 h #[g] none #[] (fun _=>0) rfl (leavers_one P g) (pastX_nil _) (fun _ hb=>⟨hb,fun h=>h.elim⟩) (fun _ hb=>hb.elim) trivial
set_option maxRecDepth 100000 in
set_option maxHeartbeats 4000000 in
theorem tl_long {ao:Option Addr}{n0 ca:Nat}{W:World}(hn:256<n0)(hn2:n0≤17592186044416)(q n k many h1 h2:Int) :
  Wk Tryz.prog (TlZ W) (fun b=>b<W.heap.size) (G (Frame.enter Tryz.prog 5 #[.slice ao n0 ca,.int .i64 q,.int .i64 n,.int .i64 k,.int .i64 many,.int .i64 h1,.int .i64 h2] .normal) []) W:=by
 obtain⟨h,e1,hK⟩:=kp_all (fun _=>True) W
 have eO:(fun b=>b<W.heap.size)=fun b=>b<W.heap.size∧True:=by funext b;simp
 rw[eO]
 clear eO
 have RL:∀ {O:Nat→Prop} {h z:Nat→Option Obj} {w w1:World},Kp W.heap.size h z O w→Rly noB (LvZ z) O w w1→Kp W.heap.size h z O w1:=fun hK r=>hK.rely r
 rw[enter_at _ Tryz.func5 rfl]
 walk_nrmf Tryz.f5
 have q1:decide ((256:Int)<(n0:Int))=true:=decide_eq_true (by omega)
 have q2:(256:Int)<(n0:Int):=by omega
 refine hg_then (n:=100) hK ?_
 refine goes_hg (n:=40) (m:=60) ?_
 repeat(first|u_c stepG_region_end RL hK|u_c stepG_seq RL hK|u_reg RL hK|u_cnd true RL hK|u_cnd false RL hK|u_c stepG_skip RL hK|u_op RL hK|u_skip RL hK)
 u_c stepG_ret' RL hK
 refine Goes.stop (fun w₁ h₁=>?_)
 replace hK:=RL hK h₁
 clear h₁
 refine HG.stop (fun w₂ h₂=>?_)
 replace hK:=RL hK h₂
 refine Wk.stop fun d=>⟨⟨_,_,rfl,rfl,rfl⟩,fun b hb=>?_⟩
 have e:W.heap[b]?=some W.heap[b]:=Array.getElem?_eq_getElem hb
 rw[e]
 exact hK.mem b _ ((e1 b trivial).trans e)
theorem topLine_run {ao:Option Addr}{n0 ca:Nat}{z:Nat→Int}{W:World}(ha:ArgL ao n0 ca z W)(hr:RawB ao W)(hn2:n0≤17592186044416)(q n k many h1 h2:Int)(hq:I64 q)(hn:I64 n)(hk:I64 k)(hm:I64 many)(hi1:I64 h1)(hi2:I64 h2) :
  RunsX Tryz.prog (fun v w'=>v = .bool true∧Below W.heap.size W w') (solo (G (Frame.enter Tryz.prog 5 #[.slice ao n0 ca,.int .i64 q,.int .i64 n,.int .i64 k,.int .i64 many,.int .i64 h1,.int .i64 h2] .normal) []) W) #[]:=by
 refine beside_start ?_
 by_cases hn0:n0≤256
 ·exact tl_top (ha.arg (by omega)) hr hn0 q n k many h1 h2 hq hn hk hm hi1 hi2
 ·refine beside_walk (S1:=fun _ w4 _=>(w4.tape=W.tape∧w4.os=W.os∧w4.output=W.output)∧W.heap.size≤w4.heap.size) (Stop:=TlZ W) (tl_long (by omega) hn2 q n k many h1 h2) (fun O' w' t t' _ hf=>⟨⟨hf.tape,hf.os,hf.out⟩,hf.size⟩) (fun O4 g4 w4 hst4=>?_)
  intro gs4 sl4 t4 q4 h04 hL4 hP4 hO4 hSh4 hS4
  have hz:TlZ W O4 g4 w4:=hst4 w4.drawn
  exact end_run (O1:=O4) (fun b hb=>(hO4 b hb).2) h04 hL4 hP4 fun d=>tl_done hz hS4.2 hS4.1 d
set_option maxRecDepth 100000 in
theorem open_raw {W:World}{base:Nat}{a:Addr}{n ca:Nat}(h:Value.okWide Tryz.prog W .any base 22 (.slice (some a) n ca)):∃c t y,W.heap[a.block]?=some (.cells c t y):=by
 have h1:W.has Tryz.prog .any base a 3 ca:=by
  unfold Value.okWide at h
  rw[Tryz.underlying22]at h
  simp only at h
  unfold Cell.okWide at h
  rw[Tryz.underlying22]at h
  simp only at h
  unfold Cell.ok at h
  rw[Tryz.underlying22]at h
  exact h.2.2
 obtain⟨_,_,row,cells,h3,_⟩:=h1
 unfold World.shape? at h3
 split at h3
 ·rename_i c t y e
  exact⟨c,t,y,e⟩
 ·cases h3
end
end Go.Proofs.YtedifobeggabnaaGreat
