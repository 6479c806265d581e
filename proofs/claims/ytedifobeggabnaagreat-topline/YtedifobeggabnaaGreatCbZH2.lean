/- Texts of ours, one behind the other: ZH2 ZH3 ZH4. -/
import Derived.Test.YtedifobeggabnaaGreatCbZH0
import Derived.Test.YtedifobeggabnaaGreatCbZG3
import Derived.Test.YtedifobeggabnaaGreatCbZE22
import Derived.Test.YtedifobeggabnaaGreatCbZC2
import Derived.Test.YtedifobeggabnaaGreatCbZF13
namespace Go.Proofs.YtedifobeggabnaaGreat
section
open Go.RowKit Go.Sort
open Go.Conc (G)
def IntB(w:World)(b:Nat):Prop:=∃cs t,w.heap[b]?=some (.cells cs t)∧∀x,x∈cs→NoB x
def GmG(lo:Nat)(ls:Nat→Bool)(er:Nat→Nat)(k:Nat)(am:Nat→Nat→Nat)(i:Nat)(v:Value)(w:World):Prop:=
 ∃go gc,v = .agg #[.slice go (if ls i then 0 else k) gc,.int .i64 (er i),.bool (ls i)]∧(ls i=true→go=none∧gc=0)∧(ls i=false→k≤gc∧gc≤9223372036854775807∧∃g cs,go=some ⟨g,0,none⟩∧lo<g∧w.heap[g]?=some (.cells cs 3)∧(∀x,x∈cs→NoB x)∧∀j,j<k→cs[j]?=some (.int .i64 (am i j:Nat)))
def GmF(p:LnP)(k:Nat)(am:Nat→Nat→Nat):Nat→Value→World→Prop:=GmG p.bO p.ls p.er k am
structure LnW(p:LnP)(D:FD)(n cx k bx ox:Nat)(c:Nat→Nat)(bw:Nat→Nat)(y:Nat→Nat→Int)(m:Nat→Nat)(c' y' am:Nat→Nat→Nat):Prop where
 hD:D∈fieldsL
 n64:n≤64
 k1:1≤k
 kn:k≤n
 q:p.q=(D.q:Nat)
 kk:p.k=(k:Nat)
 xs:p.xs = .slice (some ⟨bx,ox,none⟩) n cx
 X:Arg (some ⟨bx,ox,none⟩) n cx (fun j=>((c j:Nat):Int)) p.w0
 wo:∀i,i<p.N→p.wo i=some ⟨bw i,0,none⟩∧p.wn i=n
 Y:∀i,i<p.N→Arg (some ⟨bw i,0,none⟩) n (p.wc i) (y i) p.w0
 ib:IntB p.w0 bx
 iw:∀i,i<p.N→IntB p.w0 (bw i)∧bx≠bw i
 rx:p.rd bx
 rw:∀i,i<p.N→p.rd (bw i)
 chk:∀i,i<p.N→D.wchk n (fun j=>((c j:Nat):Int)) (k:Nat) n (y i)=0
 hrd:∀i,i<p.N→Heard D n c (y i) (m i) (c' i) (y' i)
 out:∀i,i<p.N→(p.ls i=false∧NearH D (m i) k (c' i) (y' i) (am i)∧p.er i=ofs D k (m i) (c' i) (y' i) (am i))∨(p.ls i=true∧(∀a, ¬NearH D (m i) k (c' i) (y' i) a)∧p.er i=0)
 GM:p.GM=GmF p k am
 Qm:∀i b,p.Qm i b↔i<p.N∧(b=bx∨b=bw i)
 F:p.F=fxL mdL
theorem arg_cells {ao:Option Addr}{n cap:Nat}{z:Nat→Int}{w w1:World}(h:Arg ao n cap z w)(hc:∀x,ao=some x→∀a:Addr,a.block=x.block→w1.cell? a=w.cell? a)(hs:LtB ao w1.heap.size):Arg ao n cap z w1:=by
 obtain⟨h1,_,h3,h4,h5,h6⟩:=h
 refine⟨fun j hj=>?_,hs,h3,h4,h5,h6⟩
 obtain⟨b,off,e,hcell⟩:=h1 j hj
 exact⟨b,off,e,(hc _ e ⟨b,off+j,none⟩ rfl).trans hcell⟩
theorem Arg.rtp {ao:Option Addr}{n cap:Nat}{z:Nat→Int}{w:World}(h:Arg ao n cap z w)(T:Tape)(d:Nat):Arg ao n cap z (Go.Proofs.YtedifobeggabnaaGreat.rtp w T d):=arg_cells h (fun _ _ _ _=>rfl) h.lt
def PstL(D:FD)(B m k:Nat)(c y:Nat→Nat)(v:Value)(u:World):Prop:=(∃a,NearH D m k c y a∧∃mv,v = .agg #[mv,.int .i64 (ofs D k m c y a:Nat),.bool false]∧OwnP B mv k a u∧AllI mv u)∨((∀a, ¬NearH D m k c y a)∧v = .agg #[.slice none 0 0,.int .i64 0,.bool true])
section
variable {p:LnP}{D:FD}{n cx k bx ox:Nat}{c bw:Nat→Nat}{y:Nat→Nat→Int}{m:Nat→Nat}{c' y' am:Nat→Nat→Nat}{i:Nat}{w:World}
theorem frz2 {w:World}{a b:Nat}(ha:IntB w a)(hb:IntB w b)(hne:a≠b):(∃c t,w.heap[a]?=some (.cells c t (0,0))∧(frzB (frzB w a) b).heap[a]?=some (.cells c t (0,c.size))∧∀v,v∈c→NoB v)∧(∃c t,w.heap[b]?=some (.cells c t (0,0))∧(frzB (frzB w a) b).heap[b]?=some (.cells c t (0,c.size))∧∀v,v∈c→NoB v):=by
 obtain⟨ca,ta,a1,a2⟩:=ha
 obtain⟨cb,tb,b1,b2⟩:=hb
 exact⟨⟨ca,ta,a1,(frzB_other _ hne).trans (frzB_self a1),a2⟩,⟨cb,tb,b1,frzB_self ((frzB_other w hne.symm).trans b1),b2⟩⟩
theorem IntB.of {w w1:World}{b:Nat}(h:IntB w b)(e:w1.heap[b]?=w.heap[b]?):IntB w1 b:=by
 obtain⟨cs,t,h1,h2⟩:=h
 exact⟨cs,t,e.trans h1,h2⟩
theorem mnd_ok(h:LnW p D n cx k bx ox c bw y m c' y' am)(hi:i<p.N)(hr:Rdx (p.Kx Tryz.prog) w):∃V Post,MndOk (p.Kx Tryz.prog) i w V Post:=by
 have ex:w.heap[bx]?=p.w0.heap[bx]?:=hr bx h.rx
 have ew:w.heap[bw i]?=p.w0.heap[bw i]?:=hr (bw i) (h.rw i hi)
 have ix:=h.ib.of ex
 have iw:=(h.iw i hi).1.of ew
 obtain⟨fx,fw⟩:=frz2 ix iw (h.iw i hi).2
 obtain⟨V,hV⟩:∃V,V=frzB (frzB w bx) (bw i):=⟨_,rfl⟩
 have hs:V.heap.size=w.heap.size:=by rw[hV,frzB_size,frzB_size]
 have hcell:∀a,V.cell? a=w.cell? a:=fun a=>by rw[hV,frzB_cell,frzB_cell]
 have same:∀b,w.heap[b]?=p.w0.heap[b]?→∀a:Addr,a.block=b→V.cell? a=p.w0.cell? a:=fun b hb a ha=>by
  rw[hcell]
  subst ha
  simp[World.cell?,hb]
 have X:Arg (some ⟨bx,ox,none⟩) n cx (fun j=>((c j:Nat):Int)) V:=arg_cells h.X (fun x hx a ha=>by cases hx;exact same bx ex a ha) (fun x hx=>by cases hx;rw[hs];exact lt_of_some ix.choose_spec.choose_spec.1)
 have Y:Arg (some ⟨bw i,0,none⟩) n (p.wc i) (y i) V:=arg_cells (h.Y i hi) (fun x hx a ha=>by cases hx;exact same (bw i) ew a ha) (fun x hx=>by cases hx;rw[hs];exact lt_of_some iw.choose_spec.choose_spec.1)
 rw[←hV]at fx fw
 obtain⟨e1,e2⟩:=h.wo i hi
 have ncl:∀b, ¬p.F.cl b:=fun b hb=>by rw[h.F]at hb;exact hb.elim
 refine⟨V,PstL D w.heap.size (m i) k (c' i) (y' i),?_⟩
 obtain⟨s1,s2⟩:=sim_start (F:=(p.Kx Tryz.prog).F) (Q:=(p.Kx Tryz.prog).Qm i) ncl (fun b hb=>by
  rcases((h.Qm i b).1 hb).2 with rfl|rfl
  ·exact fx
  ·exact fw) hs
 refine⟨hs,s1,s2,⟨fun b _=>ncl b,fun b hb=>absurd hb (ncl b)⟩,fun v hv=>?_,⟨⟨fun b _=>by show Tryz.prog.globals.size≤b;rw[show Tryz.prog.globals.size=0 by kernel_rfl];omega,fun b (hb:p.F.cl b)=>by rw[h.F]at hb;exact hb.elim⟩,by show Fns Tryz.prog p.F;rw[h.F];exact md_fns⟩,fun v u T d hp=>hp,fun T d=>?_,fun f u W1 v hfr hS hB hv hp=>?_⟩
 ·have hq:∀b,b=bx∨b=bw i→Sto ((p.Kx Tryz.prog).Qm i) w.heap.size w.heap.size b:=fun b hb=>Or.inl ((h.Qm i b).2 ⟨hi,hb⟩)
  have hv:v ∈ #[Value.int .i64 p.q,p.xs,.int .i64 p.k,.slice (p.wo i) (p.wn i) (p.wc i)]:=hv
  rw[h.xs,e1]at hv
  simp only[List.mem_toArray,List.mem_cons,List.not_mem_nil,or_false]at hv
  rcases hv with rfl|rfl|rfl|rfl
  ·exact ok_int _ _
  ·exact ok_sl ⟨hq _ (Or.inl rfl),fun hb=>absurd hb (ncl _)⟩
  ·exact ok_int _ _
  ·exact ok_sl ⟨hq _ (Or.inr rfl),fun hb=>absurd hb (ncl _)⟩
 ·have hc:=lmend_ok (cx:=cx) (cw:=p.wc i) h.hD (X.rtp T d) (Y.rtp T d) h.n64 h.k1 h.kn (fun wx hb=>by
   have:=word_any h.hD (k:Nat) ((X.rtp T d).below hb) ((Y.rtp T d).below hb)
   rw[h.chk i hi]at this
   exact this) (h.hrd i hi)
  have ea:(p.Kx Tryz.prog).ma i = #[.int .i64 D.q,.slice (some ⟨bx,ox,none⟩) n cx,.int .i64 (k:Nat),.slice (some ⟨bw i,0,none⟩) n (p.wc i)]:=by
   show #[Value.int .i64 p.q,p.xs,.int .i64 p.k,.slice (p.wo i) (p.wn i) (p.wc i)]=_
   rw[h.q,h.xs,h.kk,e1,e2]
  rw[ea]
  refine hc.mono ?_
  rintro e u ⟨_,⟨a,ha,v,rfl,ho,hl⟩|⟨hn,rfl⟩⟩
  ·refine⟨_,rfl,Or.inl ⟨a,ha,v,rfl,?_,hl⟩⟩
   have:(Go.Proofs.YtedifobeggabnaaGreat.rtp V T d).heap.size=w.heap.size:=hs
   rw[this]at ho
   exact ho
  ·exact⟨_,rfl,Or.inr ⟨hn,rfl⟩⟩
 ·show p.GM i (rnV f v) W1∧∀b,MvF (rnV f v) b→OwnT w.heap.size f u b
  rw[h.GM]
  rcases hp with⟨a,ha,mv,rfl,ho,hl⟩|⟨hn,rfl⟩
  ·rcases h.out i hi with⟨o1,o2,o3⟩|⟨_,o2,_⟩
   ·have ea:=NearH.one h.hD (h.hrd i hi) ha o2
    subst ea
    obtain⟨so,sc,rfl,q1,q2,q3,q4,_,q6⟩:=ho
    obtain⟨g,rfl,hg⟩:=q6 (by have:=h.k1;omega)
    have hgB:w.heap.size≤g:=q3 _ rfl
    have hgl:g<u.heap.size:=q4 _ rfl
    obtain⟨cs,l1,l2⟩:=hl g (by
     have:=h.k1
     simp[Value.ownBlock])
    obtain⟨o',r1,r2⟩:=hS.blk g _ (Or.inr ⟨hgB,hgl⟩) l1
    obtain⟨c2,t2,z',r2,r4,r5,r3⟩:=r2
    obtain rfl:=r4.1 (ncl g)
    obtain rfl:=r5 (ncl g)
    subst r2
    have r3:z'=(0,0):=(r3.resolve_left (ncl g)).elim id id
    subst r3
    have em:cs.map (rnV f)=cs:=(Array.map_congr_left fun x hx=>(l2 x hx).rn f).trans (Array.map_id' _)
    rw[em]at r1
    have ev:rnV f (.agg #[.slice (some ⟨g,0,none⟩) k sc,.int .i64 (ofs D k (m i) (c' i) (y' i) (am i):Nat),.bool false]) = .agg #[.slice (some ⟨f g,0,none⟩) k sc,.int .i64 (ofs D k (m i) (c' i) (y' i) (am i):Nat),.bool false]:=by
     rw[rn_agg]
     simp[rn_sl,rn_int,rn_bool,rnA]
    rw[ev]
    refine⟨⟨some ⟨f g,0,none⟩,sc,by rw[o1,o3];rfl,fun c=>(by rw[o1]at c;cases c),fun _=>⟨q1,q2,f g,cs,rfl,hfr _ ⟨g,hgB,hgl,rfl⟩,r1,l2,fun j hj=>?_⟩⟩,fun b hb=>?_⟩
    ·have:=hg.cell j hj
     simp[World.cell?,l1]at this
     exact this
    ·obtain⟨a',gn,gc,x,y,e,rfl⟩:=hb
     simp at e
     obtain⟨⟨rfl,_⟩,_⟩:=e
     exact⟨g,hgB,hgl,rfl⟩
   ·exact absurd ha (o2 a)
  ·rcases h.out i hi with⟨_,o2,_⟩|⟨o1,_,o3⟩
   ·exact absurd o2 (hn _)
   ·have ev:rnV f (.agg #[.slice none 0 0,.int .i64 0,.bool true]) = .agg #[.slice none 0 0,.int .i64 0,.bool true]:=by
     rw[rn_agg]
     simp[rn_slice,rn_int,rn_bool]
    rw[ev]
    refine⟨⟨none,0,by rw[o1,o3];rfl,fun _=>⟨rfl,rfl⟩,fun c=>(by rw[o1]at c;cases c)⟩,fun b hb=>?_⟩
    obtain⟨a',gn,gc,x,y,e,_⟩:=hb
    simp at e
end
end
section
open Go.RowKit Go.Sort
open Go.Conc
open Go.ConcR (WgAt)
open Go.ConcN (sumTo)
section
variable {p:LnP}{D:FD}{n cx k bx ox:Nat}{c bw:Nat→Nat}{y:Nat→Nat→Int}{m:Nat→Nat}{c' y' am:Nat→Nat→Nat}{i:Nat}{w:World}
theorem ln_ok(h:LnW p D n cx k bx ox c bw y m c' y' am)(hd:HdW p.Wg p.bO p.bB p.bM p.cO p.cB p.T p.b6 p.b7 p.b8 p.rd p.w0)(rn:RnF p.rd (Rdx (p.Kx Tryz.prog)) p.b6 p.b7 p.b8 p.q p.k p.xs)(hT:p.T<p.bO)(rdT:¬p.rd p.T)(er:∀i,p.er i≤1000):p.Ok 3:=by
 refine⟨hd,rn,hT,rdT,er,by decide,by decide,by decide,fun i v w w1 hk hg=>?_,fun i v w hg=>?_,fun i v w b hg hb=>?_⟩
 ·rw[h.GM]at hg ⊢
  obtain⟨go,gc,rfl,h1,h2⟩:=hg
  refine⟨go,gc,rfl,h1,fun hl=>?_⟩
  obtain⟨q1,q2,g,cs,rfl,q0,q3,q4,q5⟩:=h2 hl
  exact⟨q1,q2,g,cs,rfl,q0,(hk g ⟨_,_,_,_,_,rfl,rfl⟩).trans q3,q4,q5⟩
 ·rw[h.GM]at hg
  obtain⟨go,gc,rfl,_,_⟩:=hg
  exact⟨_,_,_,rfl⟩
 ·rw[h.GM]at hg
  obtain⟨go,gc,rfl,h1,h2⟩:=hg
  obtain⟨a,gn,gc',x,y,e,rfl⟩:=hb
  simp at e
  obtain⟨⟨rfl,_⟩,_⟩:=e
  cases hl:p.ls i with
  | true=>have:=(h1 hl).1;cases this
  | false=>
   obtain⟨_,_,g,cs,e,_,q3,_⟩:=h2 hl
   cases e
   exact⟨cs,q3⟩
theorem sumTo_leB {f:Nat→Nat}{b:Nat}(hf:∀i,f i≤b):∀n,sumTo n f≤n*b
 | 0=>by simp[sumTo]
 |n+1=>by
  have:=sumTo_leB hf n
  have:=hf n
  simp only[sumTo]
  rw[Nat.add_mul]
  omega
theorem cfg_ok {d:DlP}(h:LnW d.p D n cx k bx ox c bw y m c' y' am)(hk:d.Okk 3)(ha:d.p.Anc=AncF d)(hob:d.p.bO≠d.p.bB)(hcc:d.p.cO≠d.p.cB)(hN:d.p.N≤900)(hH:d.p.H<1000000):CfgOk (d.p.Kx Tryz.prog) where
 hand:=hand_ok hk.ok.ok (fun i w hi _ hr=>mnd_ok h hi hr) (by rw[h.F];show memB mdL _=true;kernel_rfl) (fun i b hb=>by
  rcases((h.Qm i b).1 hb)with⟨hi,rfl|rfl⟩
  ·exact h.rx
  ·exact h.rw i hi)
 main:=main_ok hk ha
 c1:=hk.ok.ok.hd.rO
 c2:=hk.ok.ok.hd.rB
 c12:=hob
 sums:=by
  have:=sumTo_leB hk.ok.ok.er d.p.N
  show sumTo d.p.N d.p.er<1000000
  omega
 few:=by show d.p.N<1000000;omega
 hands:=hH
 ob:=hcc
end
end
section
open Go.RowKit Go.Sort
open Go.Conc
open Go.ConcR (WgAt)
open Go.ConcN (sumTo)
def LnP.at(p:LnP)(d:DlP)(nb p0:Nat)(w:World):LnP:={ p with nb:=nb,p0:=p0,w0:=w,Sel:=SelF d,Rng:=RngF d,Got:=GotF d,Anc:=AncF { d with p:={ p with w0:=w }},Fin:=FinF d }
def DlP.at(d:DlP)(nb p0:Nat)(w:World):DlP:={ d with p:=d.p.at d nb p0 w }
section
variable {P:Program}{d:DlP}{D:FD}{n cx k bx ox:Nat}{c bw:Nat→Nat}{y:Nat→Nat→Int}{m:Nat→Nat}{c' y' am:Nat→Nat→Nat}{i:Nat}{w:World}{Sh0:Nat→Prop}{Post:Value→World→Prop}
structure DlE(d:DlP)(Sh0:Nat→Prop)(tk:Nat→Option Value)(bg:Nat)(w w1:World):Prop where
 got:w1.heap[bg]?=some (.cells (gotA d.p.N tk) 39)
 all:∀i,i<d.p.N→∃v,tk i=some v∧d.p.GM i v w1∧∀b,MvF v b→b<w1.heap.size∧¬SpF (d.p.Kx Tryz.prog) b
 tal:TalAt (d.p.Kx Tryz.prog) w1 (sumTo d.p.N d.p.er:Nat) (sumTo d.p.N (fun i=>if d.p.ls i then 1 else 0):Nat)
 rdx:∀b,d.p.rd b→w1.heap[b]?=w.heap[b]?
 fix:w1.tape=w.tape∧w1.os=w.os∧w1.output=w.output
 bgf:d.p.bO<bg
 bgn:¬d.p.rd bg∧¬SpF (d.p.Kx Tryz.prog) bg∧bg<w1.heap.size
 wg:d.p.Wg<w1.heap.size
theorem deal_co(hok:∀nb p0, (d.at nb p0 w).Okk 3)(hw:∀nb p0, LnW (d.at nb p0 w).p D n cx k bx ox c bw y m c' y' am)(hob:d.p.bO≠d.p.bB)(hcc:d.p.cO≠d.p.cB)(hN:d.p.N≤900)(hH:d.p.H<1000000)(hH1:1≤d.p.H){fr:Frame}(hfr:DlS d 0 fr)
  (hrd:∀b,d.p.rd b→b<w.heap.size∧¬Sh0 b∧¬SpF (d.p.Kx Tryz.prog) b) (hwg:WgAt wgLink.tWg d.p.Wg w 0 0) (htal:TalAt (d.p.Kx Tryz.prog) w 0 0) (hcO:w.heap[d.p.cO]?=some (.chan 0 #[] false 0 0 false)) (hcB:w.heap[d.p.cB]?=some (.chan d.p.N #[] false 0 0 false))
  (hSb:∀b,Sh0 b→b<d.p.bO)
  (hk:∀tk bg w1,DlE d Sh0 tk bg w w1→Beside0 Tryz.prog Post (fun b=>Sh0 b∨b=d.p.Wg) (fun b=>b<w1.heap.size∧¬(Sh0 b∨b=d.p.Wg)) (fun _ _=>True) (G (d.c.finish (.slice (some ⟨bg,0,none⟩) d.p.N d.p.N)) d.cs) w1) {O:Nat→Prop} :
  Beside0 Tryz.prog Post Sh0 O (fun _ t=>∀op,op∈t→TchS (fun b=>¬SpF (d.p.Kx Tryz.prog) b) op.act) (G fr (d.c::d.cs)) w:=by
 intro gs sl t q h0 hL hP hO hSh hT
 have hk0:=hok gs.size t.size
 have hcfg:CfgOk ((d.at gs.size t.size w).p.Kx Tryz.prog):=cfg_ok (hw gs.size t.size) hk0 rfl hob hcc hN hH
 have hlv:Lvx ((d.at gs.size t.size w).p.Kx Tryz.prog) w:=⟨0,0,hwg⟩
 have hg:=dl_spn hk0 rfl hH d.p.H 0 fr w (Nat.zero_add _) ⟨hlv,fun b _=>rfl⟩ hfr
 obtain⟨H1,hH2⟩:∃H1,d.p.H=H1+1:=⟨d.p.H-1,by omega⟩
 have hg2:H0 ((d.at gs.size t.size w).p.Kx Tryz.prog) (AtKdS ((d.at gs.size t.size w).p.Kx Tryz.prog) (SpnZ ((d.at gs.size t.size w).p.Kx Tryz.prog) (((d.at gs.size t.size w).p.Kx Tryz.prog).H-1))) 340 noB (G fr (d.c::d.cs)) w:=by
  have e:((d.at gs.size t.size w).p.Kx Tryz.prog).H-1=H1:=by show d.p.H-1=H1;omega
  rw[e]
  rw[hH2]at hg
  exact hg
 have hcmp:=cmp_begin (K:=((d.at gs.size t.size w).p.Kx Tryz.prog)) (Sh0:=Sh0) hH1 rfl rfl rfl h0 hL hP hg2 (fun b hb=>hb.elim) hrd hT hwg htal hcO hcB
 obtain⟨N,gs',w',sl',x',t',r1,r2,r3⟩:=cmp_runs hcfg hH1 _ gs w sl t hcmp
 obtain⟨⟨a,ha0,hfin⟩,⟨q',hq'⟩,hpast,hall,htal',hown,hrdx,hfix,hlv',hwg'⟩:=cmp_end r2 r3
 have hf:FinF d x'.tk x'.md.O a w':=hfin w' (Rly.refl w')
 obtain⟨bg,hB,hbg,rfl⟩:=hf
 obtain⟨o1,o2,o3⟩:=hown bg hB.1
 have hbO:d.p.bO<w'.heap.size:=by
  have hd:=hk0.ok.ok.hd
  have e:w'.heap[d.p.bO]?=w.heap[d.p.bO]?:=hrdx d.p.bO hd.rO
  have hl:d.p.bO<w.heap.size:=hd.lt d.p.bO hd.rO
  rw[Array.getElem?_eq_getElem hl]at e
  exact lt_of_some e
 exact RunsX.after r1 (hk x'.tk bg w' ⟨hbg,hall,htal',hrdx,hfix,hB.2.2.2.2,⟨o3,o2,o1⟩,hwg'⟩ gs' sl' t' q' ha0 hq' hpast (fun b hb=>hb) (fun b hb=>hb.elim (fun c=>Nat.lt_trans (hSb b c) hbO) (fun c=>c▸hwg')) trivial)
end
end
end Go.Proofs.YtedifobeggabnaaGreat
